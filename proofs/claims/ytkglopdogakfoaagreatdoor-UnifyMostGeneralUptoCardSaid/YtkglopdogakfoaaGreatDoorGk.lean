/- Merged: Mgu, Mg2, Mg3, Mg4. -/
import Derived.Test.YtkglopdogakfoaaGreatDoorRes
import Derived.Test.YtkglopdogakfoaaGreatDoorSbs
import Derived.Test.YtkglopdogakfoaaGreatDoorFts
import Derived.Test.YtkglopdogakfoaaGreatDoorGj
/- Most general unifiers: what the solver's state says, as plain mathematics. No program stands here. -/
namespace Go.Proofs.YtkglopdogakfoaaGreatDoor
open Go.RowKit

mutual
/-- a function on names, applied to a term -/
def apF (f : Key → Tm) : Tm → Tm
  | .mk nm vr l => if vr = true then f nm.data.toList else .mk nm false (apFs f l)
def apFs (f : Key → Tm) : List Tm → List Tm
  | [] => []
  | t :: r => apF f t :: apFs f r
end
theorem apFs_eq (f : Key → Tm) (l : List Tm) : apFs f l = l.map (apF f) := by
  induction l with
  | nil => rfl
  | cons t l ih => rw [apFs, ih, List.map_cons]
theorem apF_var (f : Key → Tm) {t : Tm} (h : t.vr = true) : apF f t = f t.nm.data.toList := by
  cases t; simp only [Tm.vr] at h; subst h; rw [apF, if_pos rfl]; rfl
theorem apF_fun (f : Key → Tm) {t : Tm} (h : t.vr = false) : apF f t = .mk t.nm false (t.ts.map (apF f)) := by
  cases t; simp only [Tm.vr] at h; subst h; rw [apF, if_neg (by simp), apFs_eq]; rfl
theorem apF_vrk (f : Key → Tm) (k : Key) : apF f (vrk k) = f k := apF_var f rfl
theorem apB_apF (bl : List Bd) (t : Tm) : apB bl t = apF (imageOf bl) t := by
  induction t using Tm.ind with
  | h t ih =>
    cases hv : t.vr
    · rw [apB_fun bl hv, apF_fun _ hv, List.map_congr_left ih]
    · rw [apB_var bl hv, apF_var _ hv]
mutual
/-- the names of a term's variables -/
def Tm.vs : Tm → List Key
  | .mk nm vr l => if vr = true then [nm.data.toList] else Tm.vss l
def Tm.vss : List Tm → List Key
  | [] => []
  | t :: r => t.vs ++ Tm.vss r
end
theorem Tm.vss_mem {l : List Tm} {k : Key} : k ∈ Tm.vss l ↔ ∃ u ∈ l, k ∈ u.vs := by
  induction l with
  | nil => simp [Tm.vss]
  | cons t l ih => rw [Tm.vss, List.mem_append, ih]; simp
theorem Tm.vs_var {t : Tm} (h : t.vr = true) : t.vs = [t.nm.data.toList] := by
  cases t; simp only [Tm.vr] at h; subst h; rw [Tm.vs, if_pos rfl]; rfl
theorem Tm.vs_fun {t : Tm} (h : t.vr = false) : t.vs = Tm.vss t.ts := by
  cases t; simp only [Tm.vr] at h; subst h; rw [Tm.vs, if_neg (by simp)]; rfl
theorem Tm.vs_kid {t u : Tm} (h : t.vr = false) (hu : u ∈ t.ts) {k : Key} (hk : k ∈ u.vs) : k ∈ t.vs := by
  rw [Tm.vs_fun h, Tm.vss_mem]; exact ⟨u, hu, hk⟩
theorem apF_congr {f g : Key → Tm} {t : Tm} (h : ∀ k ∈ t.vs, f k = g k) : apF f t = apF g t := by
  induction t using Tm.ind with
  | h t ih =>
    cases hv : t.vr
    · rw [apF_fun _ hv, apF_fun _ hv, List.map_congr_left fun u hu => ih u hu fun k hk => h k (Tm.vs_kid hv hu hk)]
    · rw [apF_var _ hv, apF_var _ hv]; exact h _ (by rw [Tm.vs_var hv]; simp)
theorem Tm.vs_len (t : Tm) : t.vs.length ≤ t.size := by
  induction t using Tm.ind with
  | h t ih =>
    rw [Tm.size_eq]
    cases hv : t.vr
    · rw [Tm.vs_fun hv]
      have key : ∀ l : List Tm, (∀ u ∈ l, u.vs.length ≤ u.size) → (Tm.vss l).length ≤ Tm.sizes l := by
        intro l
        induction l with
        | nil => intro _; simp [Tm.vss]
        | cons x l ihl => intro h; rw [Tm.vss, List.length_append, Tm.sizes]; have := h x (by simp); have := ihl fun u hu => h u (by simp [hu]); omega
      have := key t.ts ih; omega
    · rw [Tm.vs_var hv]; simp
theorem Tm.kn.names {S : Sv} {t : Tm} (h : t.kn S) : ∀ k ∈ t.vs, Kn S k := by
  induction t using Tm.ind with
  | h t ih =>
    intro k hk
    cases hv : t.vr
    · rw [Tm.vs_fun hv, Tm.vss_mem] at hk
      obtain ⟨u, hu, hk⟩ := hk
      exact ih u hu (h.kids u hu) k hk
    · rw [Tm.vs_var hv] at hk
      obtain rfl := List.mem_singleton.1 hk
      exact h.var hv

/-- names that are made one have one value -/
def EqM (θ : Key → Tm) (E : List (Key × Key)) : Prop := ∀ p ∈ E, θ p.1 = θ p.2
theorem EqM.rep {θ : Key → Tm} {E : List (Key × Key)} (h : EqM θ E) (u : Key) : θ (repE E u) = θ u := by
  have key : ∀ (l : List (Key × Key)) (u : Key), (∀ p ∈ l, p ∈ E) → θ (l.foldl (fun r p => if r = p.1 then p.2 else r) u) = θ u := by
    intro l
    induction l with
    | nil => intro u _; rfl
    | cons p l ih =>
      intro u hs
      rw [List.foldl_cons, ih _ fun q hq => hs q (by simp [hq])]
      split
      · rename_i e; rw [e, h p (hs p (by simp))]
      · rfl
  exact key E u fun p hp => hp
theorem EqM.sub {θ : Key → Tm} {E F : List (Key × Key)} (h : EqM θ F) (hs : ∀ p ∈ E, p ∈ F) : EqM θ E := fun p hp => h p (hs p hp)
/-- every name has the value that the solver's state gives it -/
structure Mod (θ : Key → Tm) (S : Sv) : Prop where
  eq : EqM θ S.eq
  bd : ∀ p ∈ S.bd, θ p.1 = apF θ p.2
theorem Mod.start (θ : Key → Tm) : Mod θ ⟨[], []⟩ := ⟨(fun p hp => by cases hp), (fun p hp => by cases hp)⟩
theorem vrk_map (θ : Key → Tm) (ks : List Key) : (ks.map vrk).map (apF θ) = ks.map θ := by
  rw [List.map_map]; exact List.map_congr_left fun k _ => apF_vrk θ k

theorem keepP_sound (t : Tm) : ∀ (S : Sv) (θ : Key → Tm), Mod θ (keepP t S).1 → Mod θ S ∧ θ (keepP t S).2 = apF θ t := by
  induction t using Tm.ind with
  | h t ih =>
    intro S θ hm
    cases hv : t.vr
    · rw [keepP_fun hv] at hm ⊢
      have key : ∀ (l : List Tm) (S : Sv), (∀ u ∈ l, u ∈ t.ts) → Mod θ (keepsP l S).1 → Mod θ S ∧ (keepsP l S).2.map θ = l.map (apF θ) := by
        intro l
        induction l with
        | nil => intro S _ h; exact ⟨h, rfl⟩
        | cons x l ihl =>
          intro S hs h
          rw [keepsP] at h ⊢
          obtain ⟨h1, h2⟩ := ihl _ (fun u hu => hs u (by simp [hu])) h
          obtain ⟨h3, h4⟩ := ih x (hs x (by simp)) S θ h1
          exact ⟨h3, by rw [List.map_cons, List.map_cons, h2, h4]⟩
      have h1 : Mod θ (keepsP t.ts S).1 := ⟨hm.eq, fun p hp => hm.bd p (List.mem_append.2 (.inl hp))⟩
      obtain ⟨h2, h3⟩ := key t.ts S (fun u hu => hu) h1
      refine ⟨h2, ?_⟩
      have h4 := hm.bd _ (List.mem_append.2 (.inr (List.mem_singleton.2 rfl)))
      rw [apF_fun θ hv, ← h3, ← vrk_map θ]
      exact h4.trans (apF_fun θ rfl)
    · rw [keepP_var hv] at hm ⊢
      exact ⟨hm, by rw [hm.eq.rep, apF_var θ hv]⟩

/-- lists that are made equal, one pair after the other -/
theorem eqf_ind {step : Sv → Tm → Tm → Option (Bool × Sv)} (P : Sv → Prop) {S' : Sv} (Q : Tm → Tm → Prop) (h : ∀ S t u S1, step S t u = some (true, S1) → P S1 → P S ∧ Q t u) (l : List Tm) :
    ∀ (S : Sv) (R : List Tm), l.length = R.length → eqf step S l R = some (true, S') → P S' → P S ∧ ∀ (i : Nat) (t u : Tm), l[i]? = some t → R[i]? = some u → Q t u := by
  induction l with
  | nil => intro S R _ he hp; simp only [eqf, Option.some.injEq, Prod.mk.injEq, true_and] at he; subst he; exact ⟨hp, fun i t u ht => by simp at ht⟩
  | cons x l ih =>
    intro S R hl he hp
    cases R with
    | nil => simp at hl
    | cons y R =>
      rw [eqf] at he
      cases hx : step S x y with
      | none => rw [hx] at he; cases he
      | some q =>
        obtain ⟨b, S1⟩ := q
        rw [hx] at he
        cases b
        · simp at he
        · obtain ⟨h1, h2⟩ := ih S1 R (by simpa using hl) he hp
          obtain ⟨h3, h4⟩ := h S x y S1 hx h1
          refine ⟨h3, fun i t u ht hu => ?_⟩
          cases i with
          | zero => simp only [List.getElem?_cons_zero, Option.some.injEq] at ht hu; subst ht; subst hu; exact h4
          | succ i => rw [List.getElem?_cons_succ] at ht hu; exact h2 i t u ht hu
theorem map_ext_at {α β : Type} {f g : α → β} {l R : List α} (hl : l.length = R.length) (h : ∀ (i : Nat) (t u : α), l[i]? = some t → R[i]? = some u → f t = g u) : l.map f = R.map g := by
  induction l generalizing R with
  | nil => cases R; rfl; simp at hl
  | cons x l ih =>
    cases R with
    | nil => simp at hl
    | cons y R =>
      rw [List.map_cons, List.map_cons, h 0 x y rfl rfl, ih (by simpa using hl) fun i t u ht hu => h (i + 1) t u (by rw [List.getElem?_cons_succ]; exact ht) (by rw [List.getElem?_cons_succ]; exact hu)]

theorem solveP_sound (n : Nat) : ∀ (S : Sv) (a b : Tm) (S' : Sv) (θ : Key → Tm), solveP n S a b = some (true, S') → Mod θ S' → Mod θ S ∧ apF θ a = apF θ b := by
  induction n with
  | zero => intro S a b S' θ h; cases h
  | succ n ih =>
    intro S a b S' θ h hm
    rw [solveP] at h
    split at h
    · rename_i hv
      split at h
      · rename_i hc
        obtain ⟨h1, h2⟩ := eqf_ind (fun S => Mod θ S) (fun t u => apF θ t = apF θ u) (fun S t u S1 hs hp => ih S t u S1 θ hs hp) a.ts S b.ts hc.2 h hm
        exact ⟨h1, by rw [apF_fun θ hv.1, apF_fun θ hv.2, hc.1, map_ext_at hc.2 h2]⟩
      · simp at h
    · have key : Mod θ (keepP b (keepP a S).1).1 → θ (keepP a S).2 = θ (keepP b (keepP a S).1).2 → Mod θ S ∧ apF θ a = apF θ b := by
        intro h1 h2
        obtain ⟨h3, h4⟩ := keepP_sound b _ θ h1
        obtain ⟨h5, h6⟩ := keepP_sound a _ θ h3
        exact ⟨h5, by rw [← h6, ← h4, h2]⟩
      split at h
      · rename_i he
        simp only [Option.some.injEq, Prod.mk.injEq, true_and] at h
        subst h
        exact key hm (by rw [he])
      · unfold joinP at h
        split at h
        · simp only [Option.some.injEq, Prod.mk.injEq, true_and] at h
          subst h
          exact key ⟨hm.eq.sub fun p hp => by simp [hp], hm.bd⟩ (hm.eq _ (List.mem_append.2 (.inr (List.mem_singleton.2 rfl)))).symm
        · simp only [Option.some.injEq, Prod.mk.injEq, true_and] at h
          subst h
          exact key ⟨hm.eq.sub fun p hp => by simp [hp], hm.bd⟩ (hm.eq _ (List.mem_append.2 (.inr (List.mem_singleton.2 rfl))))
        · obtain ⟨h1, -⟩ := ih _ _ _ _ θ h hm
          exact key ⟨h1.eq.sub fun p hp => by simp [hp], h1.bd⟩ (h1.eq _ (List.mem_append.2 (.inr (List.mem_singleton.2 rfl))))

/-- nothing that is known is changed -/
theorem eqf_all {step : Sv → Tm → Tm → Option (Bool × Sv)} (R : Sv → Sv → Prop) (h0 : ∀ S, R S S) (ht : ∀ S T U, R S T → R T U → R S U) (h : ∀ S t u r S1, step S t u = some (r, S1) → R S S1) (l : List Tm) : ∀ (S : Sv) (K : List Tm) (r : Bool) (S' : Sv), eqf step S l K = some (r, S') → R S S' := by
  induction l with
  | nil => intro S K r S' he; simp only [eqf, Option.some.injEq, Prod.mk.injEq] at he; rw [← he.2]; exact h0 S
  | cons x l ih =>
    intro S K r S' he
    cases K with
    | nil => simp only [eqf, Option.some.injEq, Prod.mk.injEq] at he; rw [← he.2]; exact h0 S
    | cons y K =>
      rw [eqf] at he
      cases hx : step S x y with
      | none => rw [hx] at he; cases he
      | some q =>
        obtain ⟨b, S1⟩ := q
        have h1 := h _ _ _ _ _ hx
        rw [hx] at he
        cases b
        · simp only [Option.some.injEq, Prod.mk.injEq] at he; rw [← he.2]; exact h1
        · exact ht _ _ _ h1 (ih S1 K r S' he)
def Sv.pre (S T : Sv) : Prop := S.bd <+: T.bd ∧ S.eq <+: T.eq
theorem Sv.pre_refl (S : Sv) : S.pre S := ⟨List.prefix_refl _, List.prefix_refl _⟩
theorem Sv.pre_trans {S T U : Sv} (h : S.pre T) (k : T.pre U) : S.pre U := ⟨h.1.trans k.1, h.2.trans k.2⟩
theorem keepP_spre (t : Tm) (S : Sv) : S.pre (keepP t S).1 := ⟨keepP_pre t S, by rw [keepP_eq]; exact List.prefix_refl _⟩
theorem solveP_pre (n : Nat) : ∀ (S : Sv) (a b : Tm) (r : Bool) (S' : Sv), solveP n S a b = some (r, S') → S.pre S' := by
  induction n with
  | zero => intro S a b r S' h; cases h
  | succ n ih =>
    intro S a b r S' h
    rw [solveP] at h
    split at h
    · split at h
      · exact eqf_all Sv.pre Sv.pre_refl (fun _ _ _ => Sv.pre_trans) (fun S t u r S1 h => ih S t u r S1 h) _ S _ r S' h
      · simp only [Option.some.injEq, Prod.mk.injEq] at h; rw [← h.2]; exact S.pre_refl
    · have h1 : S.pre (keepP b (keepP a S).1).1 := Sv.pre_trans (keepP_spre a S) (keepP_spre b _)
      split at h
      · simp only [Option.some.injEq, Prod.mk.injEq] at h; rw [← h.2]; exact h1
      · refine Sv.pre_trans h1 ?_
        unfold joinP at h
        split at h
        · simp only [Option.some.injEq, Prod.mk.injEq] at h; rw [← h.2]; exact ⟨List.prefix_refl _, List.prefix_append _ _⟩
        · simp only [Option.some.injEq, Prod.mk.injEq] at h; rw [← h.2]; exact ⟨List.prefix_refl _, List.prefix_append _ _⟩
        · have h2 := ih _ _ _ _ _ h
          exact ⟨h2.1, (List.prefix_append _ _).trans h2.2⟩

/-- a state whose replacements make sense -/
structure SvInv (S : Sv) : Prop where
  ok : SvOk S
  free : ∀ u, repE S.eq u ∉ S.eq.map (·.1)
  nd : (S.eq.map (·.1)).Nodup
  con : ∀ p ∈ S.eq, repE S.eq p.1 = repE S.eq p.2
theorem SvInv.start : SvInv ⟨[], []⟩ := ⟨SvOk.start, by simp, by simp, by simp⟩
theorem SvInv.keep {S : Sv} (h : SvInv S) {t : Tm} (ht : t.kn S) (hl : (keepP t S).1.bd.length ≤ 1048576) : SvInv (keepP t S).1 ∧ Kn (keepP t S).1 (keepP t S).2 ∧ (keepP t S).2 ∉ S.eq.map (·.1) := by
  obtain ⟨h1, h2, h3, -⟩ := keepP_ok t S h.ok ht h.free hl
  exact ⟨⟨h1, by rw [keepP_eq]; exact h.free, by rw [keepP_eq]; exact h.nd, by rw [keepP_eq]; exact h.con⟩, h2, h3⟩
theorem SvInv.join {S : Sv} (h : SvInv S) {x y : Key} (hx : Kn S x) (hy : Kn S y) (fx : x ∉ S.eq.map (·.1)) (fy : y ∉ S.eq.map (·.1)) (hne : x ≠ y) : SvInv ⟨S.bd, S.eq ++ [(x, y)]⟩ := by
  have ex : repE S.eq x = x := repE_free fx
  have ey : repE S.eq y = y := repE_free fy
  refine ⟨h.ok.join hx hy, fun u => ?_, ?_, fun p hp => ?_⟩
  · rw [repE_snoc, List.map_append, List.mem_append]
    rintro (hm | hm)
    · split at hm
      · exact fy hm
      · exact h.free u hm
    · have hm := List.mem_singleton.1 hm
      split at hm
      · exact hne hm.symm
      · rename_i hn; exact hn hm
  · rw [List.map_append, List.nodup_append]
    refine ⟨h.nd, by simp, fun a ha b hb => ?_⟩
    obtain rfl := List.mem_singleton.1 hb
    rintro rfl
    exact fx ha
  · rw [repE_snoc, repE_snoc]
    rcases List.mem_append.1 hp with hp | hp
    · rw [h.con p hp]
    · obtain rfl := List.mem_singleton.1 hp
      rw [ex, if_pos rfl, ey, if_neg (Ne.symm hne)]
theorem solveP_inv (n : Nat) : ∀ (S : Sv) (a b : Tm) (r : Bool) (S' : Sv), SvInv S → a.kn S → b.kn S → solveP n S a b = some (r, S') → S'.bd.length ≤ 1048576 → SvInv S' := by
  induction n with
  | zero => intro S a b r S' _ _ _ h; cases h
  | succ n ih =>
    intro S a b r S' hS ha hb h hl
    rw [solveP] at h
    split at h
    · split at h
      · have key : ∀ (l : List Tm) (S : Sv) (K : List Tm), SvInv S → (∀ u ∈ l, u.kn S) → (∀ u ∈ K, u.kn S) → eqf (solveP n) S l K = some (r, S') → SvInv S' := by
          intro l
          induction l with
          | nil => intro S K hS _ _ he; simp only [eqf, Option.some.injEq, Prod.mk.injEq] at he; rw [← he.2]; exact hS
          | cons x l ihl =>
            intro S K hS hka hkb he
            cases K with
            | nil => simp only [eqf, Option.some.injEq, Prod.mk.injEq] at he; rw [← he.2]; exact hS
            | cons y K =>
              rw [eqf] at he
              cases hx : solveP n S x y with
              | none => rw [hx] at he; cases he
              | some q =>
                obtain ⟨b, S1⟩ := q
                have hp := solveP_pre n S x y b S1 hx
                rw [hx] at he
                cases b
                · simp only [Option.some.injEq, Prod.mk.injEq] at he; obtain ⟨-, rfl⟩ := he
                  exact ih S x y _ _ hS (hka x (by simp)) (hkb y (by simp)) hx hl
                · have h2 := eqf_all Sv.pre Sv.pre_refl (fun _ _ _ => Sv.pre_trans) (fun S t u r S1 h => solveP_pre n S t u r S1 h) l S1 K r S' he
                  have h1 := ih S x y _ _ hS (hka x (by simp)) (hkb y (by simp)) hx (Nat.le_trans h2.1.length_le hl)
                  exact ihl S1 K h1 (fun u hu => (hka u (by simp [hu])).mono hp.1.length_le) (fun u hu => (hkb u (by simp [hu])).mono hp.1.length_le) he
        exact key a.ts S b.ts hS ha.kids hb.kids h
      · simp only [Option.some.injEq, Prod.mk.injEq] at h; rw [← h.2]; exact hS
    · have hbd : (keepP b (keepP a S).1).1.bd.length ≤ 1048576 := by
        refine Nat.le_trans ?_ hl
        split at h
        · simp only [Option.some.injEq, Prod.mk.injEq] at h; rw [← h.2]; exact Nat.le_refl _
        · unfold joinP at h
          split at h
          · simp only [Option.some.injEq, Prod.mk.injEq] at h; rw [← h.2]; exact Nat.le_refl _
          · simp only [Option.some.injEq, Prod.mk.injEq] at h; rw [← h.2]; exact Nat.le_refl _
          · exact (solveP_pre n _ _ _ _ _ h).1.length_le
      have hpa := keepP_pre a S
      have hpb := keepP_pre b (keepP a S).1
      obtain ⟨h1, h2, h3⟩ := hS.keep ha (Nat.le_trans hpb.length_le hbd)
      obtain ⟨h4, h5, h6⟩ := h1.keep (hb.mono hpa.length_le) hbd
      have h2' := h2.mono hpb.length_le
      have h3' : (keepP a S).2 ∉ (keepP b (keepP a S).1).1.eq.map (·.1) := by rw [keepP_eq, keepP_eq]; exact h3
      have h6' : (keepP b (keepP a S).1).2 ∉ (keepP b (keepP a S).1).1.eq.map (·.1) := by rw [keepP_eq]; exact h6
      split at h
      · simp only [Option.some.injEq, Prod.mk.injEq] at h; rw [← h.2]; exact h4
      · rename_i hne
        unfold joinP at h
        split at h
        · simp only [Option.some.injEq, Prod.mk.injEq] at h; rw [← h.2]; exact h4.join h5 h2' h6' h3' (Ne.symm hne)
        · simp only [Option.some.injEq, Prod.mk.injEq] at h; rw [← h.2]; exact h4.join h2' h5 h3' h6' hne
        · rename_i l r' hgl hgr
          have hj := h4.join h2' h5 h3' h6' hne
          exact ih _ _ _ _ _ hj (flat_kn hj.ok hgl).2.1 (flat_kn hj.ok hgr).2.1 h hl
end Go.Proofs.YtkglopdogakfoaaGreatDoor
/- Most general unifiers: a unifier is a model of the state; the state has a model when no name stands for a term that contains it. -/
namespace Go.Proofs.YtkglopdogakfoaaGreatDoor
open Go.RowKit

/-- the same values but for names of terms that are kept later -/
def Agr (S : Sv) (θ φ : Key → Tm) : Prop := ∀ k, Kn S k → φ k = θ k
theorem Agr.refl (S : Sv) (θ : Key → Tm) : Agr S θ θ := fun _ _ => rfl
theorem Agr.trans {S T : Sv} {θ φ ψ : Key → Tm} (h : Agr S θ φ) (k : Agr T φ ψ) (hl : S.bd.length ≤ T.bd.length) : Agr S θ ψ := fun x hx => (k x (hx.mono hl)).trans (h x hx)
theorem Agr.term {S : Sv} {θ φ : Key → Tm} (h : Agr S θ φ) {t : Tm} (ht : t.kn S) : apF φ t = apF θ t := apF_congr fun k hk => h k (ht.names k hk)
theorem Agr.mod {S : Sv} {θ φ : Key → Tm} (h : Agr S θ φ) (hS : SvOk S) (hl : S.bd.length ≤ 1048576) (hm : Mod θ S) : Mod φ S := by
  refine ⟨fun p hp => ?_, fun p hp => ?_⟩
  · rw [h _ (hS.eqs p hp).1, h _ (hS.eqs p hp).2]; exact hm.eq p hp
  · obtain ⟨h1, h2, ks, h3, h4, h5⟩ := hS.flat p.1 p.2 hp
    have hk : Kn S p.1 := by
      have : p.1 ∈ S.bd.map (·.1) := List.mem_map.2 ⟨p, hp, rfl⟩
      rw [hS.keys] at this
      obtain ⟨i, hi, e⟩ := List.mem_map.1 this
      rw [List.mem_range] at hi
      rw [← e]
      exact ⟨by have := hname_len i; omega, fun j hj e => by have := hname_inj (by omega) hj e; omega⟩
    rw [h _ hk, hm.bd p hp, apF_fun _ h1, apF_fun _ h1, h3, vrk_map, vrk_map]
    congr 1
    exact List.map_congr_left fun a ha => (h a (h5 a ha)).symm

theorem keepP_comp (t : Tm) : ∀ (S : Sv) (θ : Key → Tm), SvInv S → t.kn S → (keepP t S).1.bd.length ≤ 1048576 → Mod θ S → ∃ φ, Agr S θ φ ∧ Mod φ (keepP t S).1 ∧ φ (keepP t S).2 = apF θ t := by
  induction t using Tm.ind with
  | h t ih =>
    intro S θ hS ht hl hm
    cases hv : t.vr
    · obtain ⟨-, -, -, hkk⟩ := keepP_ok t S hS.ok ht hS.free hl
      rw [keepP_fun hv] at hl ⊢
      have key : ∀ (l : List Tm) (S : Sv) (θ : Key → Tm), (∀ u ∈ l, u ∈ t.ts) → SvInv S → (∀ u ∈ l, u.kn S) → (keepsP l S).1.bd.length ≤ 1048576 → Mod θ S → ∃ φ, Agr S θ φ ∧ Mod φ (keepsP l S).1 ∧ (keepsP l S).2.map φ = l.map (apF θ) ∧ SvInv (keepsP l S).1 := by
        intro l
        induction l with
        | nil => intro S θ _ hS _ _ hm; exact ⟨θ, Agr.refl _ _, hm, rfl, hS⟩
        | cons x l ihl =>
          intro S θ hs hS hk hl hm
          rw [keepsP] at hl ⊢
          have hpl := (keepsP_pre l (keepP x S).1).length_le
          have hpx := (keepP_pre x S).length_le
          obtain ⟨h1, h2, -⟩ := hS.keep (hk x (by simp)) (Nat.le_trans hpl hl)
          obtain ⟨θ1, a1, m1, e1⟩ := ih x (hs x (by simp)) S θ hS (hk x (by simp)) (Nat.le_trans hpl hl) hm
          obtain ⟨θ2, a2, m2, e2, h3⟩ := ihl (keepP x S).1 θ1 (fun u hu => hs u (by simp [hu])) h1 (fun u hu => (hk u (by simp [hu])).mono hpx) hl m1
          refine ⟨θ2, a1.trans a2 hpx, m2, ?_, h3⟩
          rw [List.map_cons, List.map_cons, e2, a2 _ h2, e1]
          congr 1
          exact List.map_congr_left fun u hu => a1.term (hk u (by simp [hu]))
      rw [List.length_append, List.length_singleton] at hl
      obtain ⟨θ1, a1, m1, e1, h3⟩ := key t.ts S θ (fun u hu => hu) hS ht.kids (by omega) hm
      have hpre := (keepsP_pre t.ts S).length_le
      have hks : ∀ a ∈ (keepsP t.ts S).2, Kn (keepsP t.ts S).1 a := hkk hv
      have hnew : ∀ k, Kn (keepsP t.ts S).1 k → k ≠ hname (keepsP t.ts S).1.bd.length := fun k hk e => by
        have := hk.2 _ (by omega) e; omega
      obtain ⟨φ, hφ⟩ : ∃ φ : Key → Tm, ∀ k, φ k = if k = hname (keepsP t.ts S).1.bd.length then .mk t.nm false ((keepsP t.ts S).2.map θ1) else θ1 k := ⟨_, fun _ => rfl⟩
      have ha : Agr (keepsP t.ts S).1 θ1 φ := fun k hk => by rw [hφ, if_neg (hnew k hk)]
      have hm1 := ha.mod h3.ok (by omega) m1
      have hh : φ (hname (keepsP t.ts S).1.bd.length) = .mk t.nm false ((keepsP t.ts S).2.map θ1) := by rw [hφ, if_pos rfl]
      refine ⟨φ, a1.trans ha hpre, ⟨hm1.eq, fun p hp => ?_⟩, ?_⟩
      · rcases List.mem_append.1 hp with hp | hp
        · exact hm1.bd p hp
        · obtain rfl := List.mem_singleton.1 hp
          show φ (hname (keepsP t.ts S).1.bd.length) = _
          rw [hh, apF_fun φ rfl]
          show _ = Tm.mk t.nm false (((keepsP t.ts S).2.map vrk).map (apF φ))
          rw [vrk_map]
          congr 1
          exact List.map_congr_left fun a ha' => (ha a (hks a ha')).symm
      · show φ (hname (keepsP t.ts S).1.bd.length) = _
        rw [hh, e1, apF_fun θ hv]
    · rw [keepP_var hv] at hl ⊢
      exact ⟨θ, Agr.refl _ _, hm, by rw [hm.eq.rep, apF_var θ hv]⟩

theorem mk_inj {a b : ByteArray} {l r : List Tm} (h : Tm.mk a false l = Tm.mk b false r) : a = b ∧ l = r := by cases h; exact ⟨rfl, rfl⟩
/-- what is equal under a model is not held to differ, and the model goes on -/
theorem solveP_comp (n : Nat) : ∀ (S : Sv) (a b : Tm) (r : Bool) (S' : Sv) (θ : Key → Tm), SvInv S → a.kn S → b.kn S → solveP n S a b = some (r, S') → S'.bd.length ≤ 1048576 → Mod θ S → apF θ a = apF θ b → r = true ∧ ∃ φ, Agr S θ φ ∧ Mod φ S' := by
  induction n with
  | zero => intro S a b r S' θ _ _ _ h; cases h
  | succ n ih =>
    intro S a b r S' θ hS ha hb h hl hm heq
    rw [solveP] at h
    split at h
    · rename_i hv
      rw [apF_fun θ hv.1, apF_fun θ hv.2] at heq
      obtain ⟨hnm, hts⟩ := mk_inj heq
      have hlen : a.ts.length = b.ts.length := by have := congrArg List.length hts; simpa using this
      rw [if_pos ⟨hnm, hlen⟩] at h
      have key : ∀ (l : List Tm) (S : Sv) (K : List Tm) (θ : Key → Tm), SvInv S → (∀ u ∈ l, u.kn S) → (∀ u ∈ K, u.kn S) → eqf (solveP n) S l K = some (r, S') → Mod θ S → l.map (apF θ) = K.map (apF θ) → r = true ∧ ∃ φ, Agr S θ φ ∧ Mod φ S' := by
        intro l
        induction l with
        | nil => intro S K θ hS _ _ he hm _; simp only [eqf, Option.some.injEq, Prod.mk.injEq] at he; obtain ⟨rfl, rfl⟩ := he; exact ⟨rfl, θ, Agr.refl _ _, hm⟩
        | cons x l ihl =>
          intro S K θ hS hka hkb he hm hq
          cases K with
          | nil => simp at hq
          | cons y K =>
            rw [List.map_cons, List.map_cons] at hq
            obtain ⟨hq1, hq2⟩ := List.cons.inj hq
            rw [eqf] at he
            cases hx : solveP n S x y with
            | none => rw [hx] at he; cases he
            | some q =>
              obtain ⟨b, S1⟩ := q
              have hp := solveP_pre n S x y b S1 hx
              have hS1l : S1.bd.length ≤ 1048576 := by
                rw [hx] at he
                cases b
                · simp only [Option.some.injEq, Prod.mk.injEq] at he; rw [he.2]; exact hl
                · exact Nat.le_trans (eqf_all Sv.pre Sv.pre_refl (fun _ _ _ => Sv.pre_trans) (fun S t u r S1 h => solveP_pre n S t u r S1 h) l S1 K r S' he).1.length_le hl
              obtain ⟨hb1, θ1, a1, m1⟩ := ih S x y b S1 θ hS (hka x (by simp)) (hkb y (by simp)) hx hS1l hm hq1
              subst hb1
              rw [hx] at he
              have h1 := solveP_inv n S x y _ _ hS (hka x (by simp)) (hkb y (by simp)) hx hS1l
              obtain ⟨hr, φ, a2, m2⟩ := ihl S1 K θ1 h1 (fun u hu => (hka u (by simp [hu])).mono hp.1.length_le) (fun u hu => (hkb u (by simp [hu])).mono hp.1.length_le) he m1 (by
                rw [List.map_congr_left fun u hu => a1.term (hka u (by simp [hu])), hq2]
                exact (List.map_congr_left fun u hu => a1.term (hkb u (by simp [hu]))).symm)
              exact ⟨hr, φ, a1.trans a2 hp.1.length_le, m2⟩
      exact key a.ts S b.ts θ hS ha.kids hb.kids h hm hts
    · have hbd : (keepP b (keepP a S).1).1.bd.length ≤ 1048576 := by
        refine Nat.le_trans ?_ hl
        split at h
        · simp only [Option.some.injEq, Prod.mk.injEq] at h; rw [← h.2]; exact Nat.le_refl _
        · unfold joinP at h
          split at h
          · simp only [Option.some.injEq, Prod.mk.injEq] at h; rw [← h.2]; exact Nat.le_refl _
          · simp only [Option.some.injEq, Prod.mk.injEq] at h; rw [← h.2]; exact Nat.le_refl _
          · exact (solveP_pre n _ _ _ _ _ h).1.length_le
      have hpa := (keepP_pre a S).length_le
      have hpb := (keepP_pre b (keepP a S).1).length_le
      obtain ⟨h1, h2, h3⟩ := hS.keep ha (Nat.le_trans hpb hbd)
      obtain ⟨h4, h5, h6⟩ := h1.keep (hb.mono hpa) hbd
      have h2' := h2.mono hpb
      have h3' : (keepP a S).2 ∉ (keepP b (keepP a S).1).1.eq.map (·.1) := by rw [keepP_eq, keepP_eq]; exact h3
      have h6' : (keepP b (keepP a S).1).2 ∉ (keepP b (keepP a S).1).1.eq.map (·.1) := by rw [keepP_eq]; exact h6
      obtain ⟨θ1, a1, m1, e1⟩ := keepP_comp a S θ hS ha (Nat.le_trans hpb hbd) hm
      obtain ⟨θ2, a2, m2, e2⟩ := keepP_comp b _ θ1 h1 (hb.mono hpa) hbd m1
      have exy : θ2 (keepP a S).2 = θ2 (keepP b (keepP a S).1).2 := by rw [a2 _ h2, e1, e2, a1.term hb, heq]
      have a12 := a1.trans a2 hpa
      have hadd : ∀ x y, θ2 x = θ2 y → Mod θ2 ⟨(keepP b (keepP a S).1).1.bd, (keepP b (keepP a S).1).1.eq ++ [(x, y)]⟩ := fun x y e => ⟨fun p hp => by
        rcases List.mem_append.1 hp with hp | hp
        · exact m2.eq p hp
        · obtain rfl := List.mem_singleton.1 hp; exact e, m2.bd⟩
      split at h
      · simp only [Option.some.injEq, Prod.mk.injEq] at h; obtain ⟨rfl, rfl⟩ := h; exact ⟨rfl, θ2, a12, m2⟩
      · rename_i hne
        unfold joinP at h
        split at h
        · simp only [Option.some.injEq, Prod.mk.injEq] at h; obtain ⟨rfl, rfl⟩ := h; exact ⟨rfl, θ2, a12, hadd _ _ exy.symm⟩
        · simp only [Option.some.injEq, Prod.mk.injEq] at h; obtain ⟨rfl, rfl⟩ := h; exact ⟨rfl, θ2, a12, hadd _ _ exy⟩
        · rename_i l r' hgl hgr
          have hj := h4.join h2' h5 h3' h6' hne
          obtain ⟨hr, φ, a3, m3⟩ := ih _ _ _ _ _ θ2 hj (flat_kn hj.ok hgl).2.1 (flat_kn hj.ok hgr).2.1 h hl (hadd _ _ exy) (by
            rw [← m2.bd _ (getA_some hgl), ← m2.bd _ (getA_some hgr)]; exact exy)
          exact ⟨hr, φ, a12.trans a3 (Nat.le_trans hpa hpb), m3⟩

/-- a model's sizes go down -/
theorem Mod.acy {θ : Key → Tm} {S : Sv} (hm : Mod θ S) (hS : SvOk S) : Acy S (fun k => (θ k).size) := by
  intro x t hg _ u hu
  obtain ⟨h1, h2, ks, h3, -⟩ := hS.flat x t (getA_some hg)
  show (θ (repE S.eq u.nm.data.toList)).size < (θ x).size
  rw [hm.eq.rep, hm.bd (x, t) (getA_some hg), apF_fun _ h1]
  rw [h3] at hu
  obtain ⟨a, ha, rfl⟩ := List.mem_map.1 hu
  have e : θ a ∈ t.ts.map (apF θ) := by rw [h3, vrk_map]; exact List.mem_map.2 ⟨a, ha, rfl⟩
  have := Tm.size_mem e
  have h4 : (Tm.mk t.nm false (t.ts.map (apF θ))).size = 1 + Tm.sizes (t.ts.map (apF θ)) := Tm.size_eq _
  show (θ a).size < (Tm.mk t.nm false (t.ts.map (apF θ))).size
  omega

/-- variables, or functions of variables -/
def Flat2 (a b : Tm) : Prop := (a.vr = true ∧ b.vr = true) ∨ (a.vr = false ∧ b.vr = false ∧ (∀ u ∈ a.ts, u.vr = true) ∧ ∀ u ∈ b.ts, u.vr = true)
theorem flat_args {S : Sv} (h : SvOk S) {k : Key} {t : Tm} (hg : getA S.bd k = some t) : t.vr = false ∧ ∀ u ∈ t.ts, u.vr = true := by
  obtain ⟨h1, h2, ks, h3, -⟩ := h.flat k t (getA_some hg)
  refine ⟨h1, fun u hu => ?_⟩
  rw [h3] at hu
  obtain ⟨a, ha, rfl⟩ := List.mem_map.1 hu
  rfl
/-- between flat terms nothing is kept, and they are equal wherever the replacements hold -/
theorem solveP_flat (n : Nat) : ∀ (S : Sv) (a b : Tm) (S' : Sv), (∀ k t, getA S.bd k = some t → t.vr = false ∧ ∀ u ∈ t.ts, u.vr = true) → Flat2 a b → solveP n S a b = some (true, S') → S'.bd = S.bd ∧ ∀ θ, EqM θ S'.eq → apF θ a = apF θ b := by
  induction n with
  | zero => intro S a b S' _ _ h; cases h
  | succ n ih =>
    intro S a b S' hS hf h
    have hpre := solveP_pre (n + 1) S a b true S' h
    rw [solveP] at h
    rcases hf with hf | hf
    · rw [if_neg (by rw [hf.1]; simp), keepP_var hf.1, keepP_var hf.2] at h
      dsimp only at h
      have key : ∀ θ : Key → Tm, EqM θ S'.eq → θ (repE S.eq a.nm.data.toList) = θ (repE S.eq b.nm.data.toList) → apF θ a = apF θ b := by
        intro θ hE he
        have hE0 : EqM θ S.eq := hE.sub fun p hp => hpre.2.subset hp
        rw [apF_var θ hf.1, apF_var θ hf.2, ← hE0.rep, ← hE0.rep b.nm.data.toList, he]
      split at h
      · rename_i he
        simp only [Option.some.injEq, Prod.mk.injEq, true_and] at h
        subst h
        exact ⟨rfl, fun θ hE => key θ hE (by rw [he])⟩
      · unfold joinP at h
        split at h
        · simp only [Option.some.injEq, Prod.mk.injEq, true_and] at h
          subst h
          exact ⟨rfl, fun θ hE => key θ hE (hE _ (List.mem_append.2 (.inr (List.mem_singleton.2 rfl)))).symm⟩
        · simp only [Option.some.injEq, Prod.mk.injEq, true_and] at h
          subst h
          exact ⟨rfl, fun θ hE => key θ hE (hE _ (List.mem_append.2 (.inr (List.mem_singleton.2 rfl))))⟩
        · rename_i l r' hgl hgr
          have h2 := ih _ l r' S' (by exact hS) (.inr ⟨(hS _ _ hgl).1, (hS _ _ hgr).1, (hS _ _ hgl).2, (hS _ _ hgr).2⟩) h
          have h3 := solveP_pre n _ _ _ _ _ h
          exact ⟨h2.1, fun θ hE => key θ hE (hE _ (h3.2.subset (List.mem_append.2 (.inr (List.mem_singleton.2 rfl)))))⟩
    · rw [if_pos ⟨hf.1, hf.2.1⟩] at h
      split at h
      · rename_i hc
        have keyl : ∀ (l : List Tm) (S : Sv) (K : List Tm), (∀ k t, getA S.bd k = some t → t.vr = false ∧ ∀ u ∈ t.ts, u.vr = true) → (∀ u ∈ l, u.vr = true) → (∀ u ∈ K, u.vr = true) → l.length = K.length → eqf (solveP n) S l K = some (true, S') → S'.bd = S.bd ∧ ∀ θ, EqM θ S'.eq → l.map (apF θ) = K.map (apF θ) := by
          intro l
          induction l with
          | nil => intro S K _ _ _ hlen he; cases K with
            | nil => simp only [eqf, Option.some.injEq, Prod.mk.injEq, true_and] at he; subst he; exact ⟨rfl, fun _ _ => rfl⟩
            | cons y K => simp at hlen
          | cons x l ihl =>
            intro S K hS hla hlb hlen he
            cases K with
            | nil => simp at hlen
            | cons y K =>
              rw [eqf] at he
              cases hx : solveP n S x y with
              | none => rw [hx] at he; cases he
              | some q =>
                obtain ⟨b, S1⟩ := q
                rw [hx] at he
                cases b
                · simp at he
                · obtain ⟨h1, h2⟩ := ih S x y S1 hS (.inl ⟨hla x (by simp), hlb y (by simp)⟩) hx
                  have hS1 : ∀ k t, getA S1.bd k = some t → t.vr = false ∧ ∀ u ∈ t.ts, u.vr = true := by rw [h1]; exact hS
                  obtain ⟨h3, h4⟩ := ihl S1 K hS1 (fun u hu => hla u (by simp [hu])) (fun u hu => hlb u (by simp [hu])) (by simpa using hlen) he
                  have h5 := eqf_all Sv.pre Sv.pre_refl (fun _ _ _ => Sv.pre_trans) (fun S t u r S1 h => solveP_pre n S t u r S1 h) l S1 K true S' he
                  exact ⟨h3.trans h1, fun θ hE => by rw [List.map_cons, List.map_cons, h2 θ (hE.sub fun p hp => h5.2.subset hp), h4 θ hE]⟩
        obtain ⟨h1, h2⟩ := keyl a.ts S b.ts hS hf.2.2.1 hf.2.2.2 hc.2 h
        exact ⟨h1, fun θ hE => by rw [apF_fun θ hf.1, apF_fun θ hf.2.1, hc.1, h2 θ hE]⟩
      · simp at h
end Go.Proofs.YtkglopdogakfoaaGreatDoor
/- Most general unifiers: the solver ends, within bounds; what its state says of two terms. -/
namespace Go.Proofs.YtkglopdogakfoaaGreatDoor
open Go.RowKit

/-- a replacement whose terms, if there are any, were made equal -/
def Pro (S : Sv) (p : Key × Key) : Prop := ∀ l, getA S.bd p.1 = some l → ∃ r, getA S.bd p.2 = some r ∧ ∀ θ, EqM θ S.eq → apF θ l = apF θ r
theorem getA_pre {α : Type} {l r : List (Key × α)} (h : l <+: r) {k : Key} {v : α} (hk : getA l k = some v) : getA r k = some v := by
  obtain ⟨s, rfl⟩ := h
  rw [getA_append, hk]; rfl
theorem unb_mono {S T : Sv} (hS : SvOk S) (hT : SvOk T) (hl : T.bd.length ≤ 1048576) {k : Key} (hk : Kn S k) (h : getA S.bd k = none) : getA T.bd k = none := by
  refine getA_none.2 fun hm => ?_
  rw [hT.keys] at hm
  obtain ⟨i, hi, e⟩ := List.mem_map.1 hm
  rw [List.mem_range] at hi
  have := hk.2 i (by omega) e.symm
  refine getA_none.1 h ?_
  rw [hS.keys]
  exact List.mem_map.2 ⟨i, List.mem_range.2 this, e⟩
theorem Pro.mono {S T : Sv} {p : Key × Key} (h : Pro S p) (hp : S.pre T) (hS : SvOk S) (hT : SvOk T) (hl : T.bd.length ≤ 1048576) (hk : Kn S p.1) : Pro T p := by
  intro l hg
  cases hs : getA S.bd p.1 with
  | none => rw [unb_mono hS hT hl hk hs] at hg; cases hg
  | some l' =>
    rw [getA_pre hp.1 hs] at hg
    cases hg
    obtain ⟨r, h1, h2⟩ := h l hs
    exact ⟨r, getA_pre hp.1 h1, fun θ hE => h2 θ (hE.sub fun q hq => hp.2.subset hq)⟩
theorem solveP_pro (n : Nat) : ∀ (S : Sv) (a b : Tm) (S' : Sv), SvInv S → a.kn S → b.kn S → solveP n S a b = some (true, S') → S'.bd.length ≤ 1048576 → ∀ p ∈ S'.eq, p ∈ S.eq ∨ Pro S' p := by
  induction n with
  | zero => intro S a b S' _ _ _ h; cases h
  | succ n ih =>
    intro S a b S' hS ha hb h hl
    have hinv := solveP_inv (n + 1) S a b true S' hS ha hb h hl
    rw [solveP] at h
    split at h
    · split at h
      · have key : ∀ (l : List Tm) (S : Sv) (K : List Tm), SvInv S → (∀ u ∈ l, u.kn S) → (∀ u ∈ K, u.kn S) → eqf (solveP n) S l K = some (true, S') → ∀ p ∈ S'.eq, p ∈ S.eq ∨ Pro S' p := by
          intro l
          induction l with
          | nil => intro S K _ _ _ he; simp only [eqf, Option.some.injEq, Prod.mk.injEq, true_and] at he; subst he; exact fun p hp => .inl hp
          | cons x l ihl =>
            intro S K hS hka hkb he
            cases K with
            | nil => simp only [eqf, Option.some.injEq, Prod.mk.injEq, true_and] at he; subst he; exact fun p hp => .inl hp
            | cons y K =>
              rw [eqf] at he
              cases hx : solveP n S x y with
              | none => rw [hx] at he; cases he
              | some q =>
                obtain ⟨b, S1⟩ := q
                have hp := solveP_pre n S x y b S1 hx
                rw [hx] at he
                cases b
                · simp at he
                · have h2 := eqf_all Sv.pre Sv.pre_refl (fun _ _ _ => Sv.pre_trans) (fun S t u r S1 h => solveP_pre n S t u r S1 h) l S1 K true S' he
                  have hl1 := Nat.le_trans h2.1.length_le hl
                  have h1 := solveP_inv n S x y _ _ hS (hka x (by simp)) (hkb y (by simp)) hx hl1
                  intro p hpm
                  rcases ihl S1 K h1 (fun u hu => (hka u (by simp [hu])).mono hp.1.length_le) (fun u hu => (hkb u (by simp [hu])).mono hp.1.length_le) he p hpm with h3 | h3
                  · rcases ih S x y S1 hS (hka x (by simp)) (hkb y (by simp)) hx hl1 p h3 with h4 | h4
                    · exact .inl h4
                    · exact .inr (h4.mono h2 h1.ok hinv.ok hl (h1.ok.eqs p h3).1)
                  · exact .inr h3
        exact key a.ts S b.ts hS ha.kids hb.kids h
      · simp at h
    · have hbd : (keepP b (keepP a S).1).1.bd.length ≤ 1048576 := by
        refine Nat.le_trans ?_ hl
        split at h
        · simp only [Option.some.injEq, Prod.mk.injEq] at h; rw [← h.2]; exact Nat.le_refl _
        · unfold joinP at h
          split at h
          · simp only [Option.some.injEq, Prod.mk.injEq] at h; rw [← h.2]; exact Nat.le_refl _
          · simp only [Option.some.injEq, Prod.mk.injEq] at h; rw [← h.2]; exact Nat.le_refl _
          · exact (solveP_pre n _ _ _ _ _ h).1.length_le
      have hpa := (keepP_pre a S).length_le
      have hpb := (keepP_pre b (keepP a S).1).length_le
      obtain ⟨h1, h2, h3⟩ := hS.keep ha (Nat.le_trans hpb hbd)
      obtain ⟨h4, h5, h6⟩ := h1.keep (hb.mono hpa) hbd
      have h2' := h2.mono hpb
      have heq : (keepP b (keepP a S).1).1.eq = S.eq := by rw [keepP_eq, keepP_eq]
      have h3' : (keepP a S).2 ∉ (keepP b (keepP a S).1).1.eq.map (·.1) := by rw [heq]; exact h3
      have h6' : (keepP b (keepP a S).1).2 ∉ (keepP b (keepP a S).1).1.eq.map (·.1) := by rw [keepP_eq]; exact h6
      split at h
      · simp only [Option.some.injEq, Prod.mk.injEq, true_and] at h; subst h; rw [heq]; exact fun p hp => .inl hp
      · rename_i hne
        unfold joinP at h
        split at h
        · rename_i hgx hgy
          simp only [Option.some.injEq, Prod.mk.injEq, true_and] at h
          subst h
          intro p hp
          rcases List.mem_append.1 hp with hp | hp
          · rw [heq] at hp; exact .inl hp
          · obtain rfl := List.mem_singleton.1 hp
            exact .inr fun l hg => by rw [show getA (keepP b (keepP a S).1).1.bd (keepP b (keepP a S).1).2 = none from hgy] at hg; cases hg
        · rename_i hgx
          simp only [Option.some.injEq, Prod.mk.injEq, true_and] at h
          subst h
          intro p hp
          rcases List.mem_append.1 hp with hp | hp
          · rw [heq] at hp; exact .inl hp
          · obtain rfl := List.mem_singleton.1 hp
            exact .inr fun l hg => by rw [show getA (keepP b (keepP a S).1).1.bd (keepP a S).2 = none from hgx] at hg; cases hg
        · rename_i l r' hgl hgr
          have hj := h4.join h2' h5 h3' h6' hne
          obtain ⟨q1, q2⟩ := solveP_flat n _ l r' S' (fun k t hg => flat_args hj.ok hg) (.inr ⟨(flat_args hj.ok hgl).1, (flat_args hj.ok hgr).1, (flat_args hj.ok hgl).2, (flat_args hj.ok hgr).2⟩) h
          intro p hp
          rcases ih _ _ _ _ hj (flat_kn hj.ok hgl).2.1 (flat_kn hj.ok hgr).2.1 h hl p hp with h7 | h7
          · rcases List.mem_append.1 h7 with h7 | h7
            · rw [heq] at h7; exact .inl h7
            · obtain rfl := List.mem_singleton.1 h7
              refine .inr fun l' hg => ⟨r', by rw [q1]; exact hgr, ?_⟩
              rw [q1] at hg
              have : l' = l := Option.some.inj (hg.symm.trans hgl)
              subst this
              exact q2
          · exact .inr h7

theorem SvOk.nodup {S : Sv} (h : SvOk S) (hl : S.bd.length ≤ 1048576) : (S.bd.map (·.1)).Nodup := by
  rw [h.keys, List.nodup_iff_pairwise_ne]
  refine List.Pairwise.map _ (R := fun i j => i < 1048576 ∧ j < 1048576 ∧ i ≠ j) (fun i j hij e => hij.2.2 (hname_inj hij.1 hij.2.1 e)) ?_
  rw [List.pairwise_iff_getElem]
  intro i j hi hj hij
  rw [List.length_range] at hi hj
  rw [List.getElem_range, List.getElem_range]
  omega
theorem res_mod {S : Sv} {rk : Key → Nat} (hS : SvInv S) (ha : Acy S rk) (hl : S.bd.length ≤ 1048576) (hp : ∀ p ∈ S.eq, Pro S p) : Mod (res S rk) S := by
  have hf : ∀ u, repE S.eq (repE S.eq u) = repE S.eq u := fun u => repE_free (hS.free u)
  have hE : EqM (res S rk) S.eq := fun p hpm => by rw [← res_rep hf p.1, ← res_rep hf p.2, hS.con p hpm]
  refine ⟨hE, fun p hpm => ?_⟩
  have hg : getA S.bd p.1 = some p.2 := getA_of (hS.ok.nodup hl) hpm
  have chain : ∀ (l : List (Key × Key)) (u : Key) (t : Tm), (∀ q ∈ l, q ∈ S.eq) → getA S.bd u = some t → ∃ t', getA S.bd (l.foldl (fun r p => if r = p.1 then p.2 else r) u) = some t' ∧ ∀ θ, EqM θ S.eq → apF θ t = apF θ t' := by
    intro l
    induction l with
    | nil => intro u t _ h; exact ⟨t, h, fun _ _ => rfl⟩
    | cons q l ih =>
      intro u t hs h
      rw [List.foldl_cons]
      by_cases e : u = q.1
      · subst e
        obtain ⟨r, h1, h2⟩ := hp q (hs q (by simp)) t h
        obtain ⟨t', h3, h4⟩ := ih q.2 r (fun x hx => hs x (by simp [hx])) h1
        rw [if_pos rfl]
        exact ⟨t', h3, fun θ hθ => (h2 θ hθ).trans (h4 θ hθ)⟩
      · rw [if_neg e]
        exact ih u t (fun x hx => hs x (by simp [hx])) h
  obtain ⟨t', h1, h2⟩ := chain S.eq p.1 p.2 (fun q hq => hq) hg
  rw [h2 _ hE, apF_fun _ (flat_args hS.ok h1).1, res_fun ha hf h1]
  congr 1
  exact List.map_congr_left fun u hu => (apF_var _ ((flat_args hS.ok h1).2 u hu)).symm

/-- where names come from -/
def Inn (V : List Key) (S : Sv) (k : Key) : Prop := k ∈ V ∨ k ∈ S.bd.map (·.1)
theorem Inn.mono {V : List Key} {S T : Sv} {k : Key} (h : Inn V S k) (hp : S.bd <+: T.bd) : Inn V T k := by
  rcases h with h | h
  · exact .inl h
  · obtain ⟨p, hpm, rfl⟩ := List.mem_map.1 h
    exact .inr (List.mem_map.2 ⟨p, hp.subset hpm, rfl⟩)
structure NInv (V : List Key) (S : Sv) : Prop where
  eqs : ∀ p ∈ S.eq, Inn V S p.1 ∧ Inn V S p.2
  bds : ∀ p ∈ S.bd, ∀ u ∈ p.2.ts, Inn V S u.nm.data.toList
  nod : ∀ p ∈ S.bd, isName p.2.nm true = true ∧ p.2.ts.length ≤ 8
theorem NInv.start (V : List Key) : NInv V ⟨[], []⟩ := ⟨by simp, by simp, by simp⟩
theorem NInv.rep {V : List Key} {S : Sv} (h : NInv V S) {u : Key} (hu : Inn V S u) : Inn V S (repE S.eq u) := by
  have key : ∀ (l : List (Key × Key)) (u : Key), (∀ p ∈ l, p ∈ S.eq) → Inn V S u → Inn V S (l.foldl (fun r p => if r = p.1 then p.2 else r) u) := by
    intro l
    induction l with
    | nil => intro u _ hu; exact hu
    | cons p l ih =>
      intro u hs hu
      rw [List.foldl_cons]
      refine ih _ (fun q hq => hs q (by simp [hq])) ?_
      split
      · exact (h.eqs p (hs p (by simp))).2
      · exact hu
  exact key S.eq u (fun p hp => hp) hu
/-- function symbols are formed -/
inductive Tm.fok : Tm → Prop
  | mk (t : Tm) : (t.vr = false → isName t.nm true = true ∧ t.ts.length ≤ 8) → (∀ u ∈ t.ts, u.fok) → t.fok
theorem Tm.fok.node {t : Tm} (h : t.fok) : t.vr = false → isName t.nm true = true ∧ t.ts.length ≤ 8 := by cases h with | mk _ h1 h2 => exact h1
theorem Tm.fok.kids {t : Tm} (h : t.fok) : ∀ u ∈ t.ts, u.fok := by cases h with | mk _ h1 h2 => exact h2
theorem Tm.formed.fok {t : Tm} (h : t.formed) : t.fok := by
  induction t using Tm.ind with
  | h t ih =>
    obtain ⟨h1, h2⟩ := (Tm.formed_iff t).1 h
    refine .mk t (fun hv => ?_) fun u hu => ih u hu (h2 u hu)
    simp only [nodeOk, hv, Bool.false_eq_true, if_false, Bool.and_eq_true, decide_eq_true_eq] at h1
    exact h1
theorem NInv.fok {V : List Key} {S : Sv} (h : NInv V S) (hS : SvOk S) {k : Key} {t : Tm} (hg : getA S.bd k = some t) : t.fok := by
  refine .mk t (fun _ => h.nod _ (getA_some hg)) fun u hu => ?_
  have hv := (flat_args hS hg).2 u hu
  obtain ⟨_, _, ks, h3, _⟩ := hS.flat k t (getA_some hg)
  rw [h3] at hu
  obtain ⟨a, ha, rfl⟩ := List.mem_map.1 hu
  exact .mk _ (fun e => by rw [hv] at e; cases e) fun u hu => by cases hu
theorem NInv.vs {V : List Key} {S : Sv} (h : NInv V S) (hS : SvOk S) {k : Key} {t : Tm} (hg : getA S.bd k = some t) : ∀ x ∈ t.vs, Inn V S x := by
  intro x hx
  obtain ⟨h1, h2⟩ := flat_args hS hg
  rw [Tm.vs_fun h1, Tm.vss_mem] at hx
  obtain ⟨u, hu, hx⟩ := hx
  rw [Tm.vs_var (h2 u hu)] at hx
  obtain rfl := List.mem_singleton.1 hx
  exact h.bds _ (getA_some hg) u hu

theorem keepP_nin {V : List Key} (t : Tm) : ∀ (S : Sv), t.fok → NInv V S → (∀ k ∈ t.vs, Inn V S k) → NInv V (keepP t S).1 ∧ Inn V (keepP t S).1 (keepP t S).2 := by
  induction t using Tm.ind with
  | h t ih =>
    intro S hf hS hv
    cases hvr : t.vr
    · rw [keepP_fun hvr]
      have key : ∀ (l : List Tm) (S : Sv), (∀ u ∈ l, u ∈ t.ts) → NInv V S → (∀ u ∈ l, ∀ k ∈ u.vs, Inn V S k) → NInv V (keepsP l S).1 ∧ ∀ a ∈ (keepsP l S).2, Inn V (keepsP l S).1 a := by
        intro l
        induction l with
        | nil => intro S _ hS _; exact ⟨hS, by simp [keepsP]⟩
        | cons x l ihl =>
          intro S hs hS hv
          rw [keepsP]
          obtain ⟨h1, h2⟩ := ih x (hs x (by simp)) S (hf.kids x (hs x (by simp))) hS (hv x (by simp))
          obtain ⟨h3, h4⟩ := ihl (keepP x S).1 (fun u hu => hs u (by simp [hu])) h1 (fun u hu k hk => (hv u (by simp [hu]) k hk).mono (keepP_pre x S))
          refine ⟨h3, fun a ha => ?_⟩
          rcases List.mem_cons.1 ha with rfl | ha
          · exact h2.mono (keepsP_pre l _)
          · exact h4 a ha
      obtain ⟨h1, h2⟩ := key t.ts S (fun u hu => hu) hS fun u hu k hk => hv k (Tm.vs_kid hvr hu hk)
      have hm : ∀ k, Inn V (keepsP t.ts S).1 k → Inn V ⟨(keepsP t.ts S).1.bd ++ [(hname (keepsP t.ts S).1.bd.length, .mk t.nm false ((keepsP t.ts S).2.map vrk))], (keepsP t.ts S).1.eq⟩ k := fun k hk => hk.mono (List.prefix_append _ _)
      refine ⟨⟨fun p hp => ⟨hm _ (h1.eqs p hp).1, hm _ (h1.eqs p hp).2⟩, fun p hp u hu => ?_, fun p hp => ?_⟩, .inr (by simp)⟩
      · rcases List.mem_append.1 hp with hp | hp
        · exact hm _ (h1.bds p hp u hu)
        · obtain rfl := List.mem_singleton.1 hp
          obtain ⟨a, ha, rfl⟩ := List.mem_map.1 (show u ∈ (keepsP t.ts S).2.map vrk from hu)
          exact hm _ (h2 a ha)
      · rcases List.mem_append.1 hp with hp | hp
        · exact h1.nod p hp
        · obtain rfl := List.mem_singleton.1 hp
          refine ⟨(hf.node hvr).1, ?_⟩
          show ((keepsP t.ts S).2.map vrk).length ≤ 8
          rw [List.length_map, keepsP_len]; exact (hf.node hvr).2
    · rw [keepP_var hvr]
      exact ⟨hS, hS.rep (hv _ (by rw [Tm.vs_var hvr]; simp))⟩

mutual
/-- how many terms are kept for a term -/
def kc : Tm → Nat
  | .mk _ vr l => if vr = true then 0 else 1 + kcs l
def kcs : List Tm → Nat
  | [] => 0
  | t :: r => kc t + kcs r
end
theorem kc_var {t : Tm} (h : t.vr = true) : kc t = 0 := by cases t; simp only [Tm.vr] at h; subst h; rw [kc, if_pos rfl]
theorem kc_fun {t : Tm} (h : t.vr = false) : kc t = 1 + kcs t.ts := by cases t; simp only [Tm.vr] at h; subst h; rw [kc, if_neg (by simp)]; rfl
theorem kcs_vars {l : List Tm} (h : ∀ u ∈ l, u.vr = true) : kcs l = 0 := by
  induction l with
  | nil => rfl
  | cons x l ih => rw [kcs, kc_var (h x (by simp)), ih fun u hu => h u (by simp [hu])]
theorem kc_size (t : Tm) : kc t ≤ t.size := by
  induction t using Tm.ind with
  | h t ih =>
    rw [Tm.size_eq]
    cases hv : t.vr
    · rw [kc_fun hv]
      have key : ∀ l : List Tm, (∀ u ∈ l, kc u ≤ u.size) → kcs l ≤ Tm.sizes l := by
        intro l
        induction l with
        | nil => intro _; simp [kcs]
        | cons x l ihl => intro h; rw [kcs, Tm.sizes]; have := h x (by simp); have := ihl fun u hu => h u (by simp [hu]); omega
      have := key t.ts ih; omega
    · rw [kc_var hv]; omega
theorem keepP_len (t : Tm) : ∀ S : Sv, (keepP t S).1.bd.length = S.bd.length + kc t := by
  induction t using Tm.ind with
  | h t ih =>
    intro S
    cases hv : t.vr
    · rw [keepP_fun hv, kc_fun hv]
      have key : ∀ (l : List Tm) (S : Sv), (∀ u ∈ l, u ∈ t.ts) → (keepsP l S).1.bd.length = S.bd.length + kcs l := by
        intro l
        induction l with
        | nil => intro S _; simp [keepsP, kcs]
        | cons x l ihl => intro S hs; rw [keepsP, kcs, ihl _ fun u hu => hs u (by simp [hu]), ih x (hs x (by simp))]; omega
      rw [List.length_append, key t.ts S fun u hu => hu, List.length_singleton]; omega
    · rw [keepP_var hv, kc_var hv]; rfl
def cost (a b : Tm) : Nat := if a.vr = false ∧ b.vr = false then kcs a.ts + kcs b.ts else kc a + kc b
theorem cost_le (a b : Tm) : cost a b ≤ kc a + kc b := by
  unfold cost
  split
  · rename_i h; rw [kc_fun h.1, kc_fun h.2]; omega
  · exact Nat.le_refl _
theorem SvInv.eql {V : List Key} {S : Sv} (h : SvInv S) (hn : NInv V S) : S.eq.length ≤ V.length + S.bd.length := by
  have h1 := nodup_len h.nd (K := V ++ S.bd.map (·.1)) fun x hx => by
    obtain ⟨p, hp, rfl⟩ := List.mem_map.1 hx
    exact List.mem_append.2 (hn.eqs p hp).1
  simpa using h1
theorem flat_depth {S : Sv} (h : SvOk S) {k : Key} {t : Tm} (hg : getA S.bd k = some t) : t.depth ≤ 2 := by
  obtain ⟨_, _, ks, h3, _⟩ := h.flat k t (getA_some hg)
  rw [Tm.depth_eq, h3]
  have : ∀ l : List Key, Tm.depths (l.map vrk) ≤ 1 := by
    intro l
    induction l with
    | nil => simp [Tm.depths]
    | cons a l ih => rw [List.map_cons, Tm.depths]; have : (vrk a).depth = 1 := by simp [vrk, Tm.depth, Tm.depths]
                     omega
  have := this ks; omega
theorem Tm.depth_kid {t u : Tm} (h : u ∈ t.ts) : u.depth + 1 ≤ t.depth := by
  rw [Tm.depth_eq t]
  have key : ∀ l : List Tm, u ∈ l → u.depth ≤ Tm.depths l := by
    intro l
    induction l with
    | nil => intro h; cases h
    | cons x l ih =>
      intro h
      rw [Tm.depths]
      rcases List.mem_cons.1 h with rfl | h
      · exact Nat.le_max_left _ _
      · exact Nat.le_trans (ih h) (Nat.le_max_right _ _)
  have := key t.ts h; omega

/-- with fuel enough the solver ends -/
theorem solveP_ends {V : List Key} {B K : Nat} (hB : B ≤ 1048576) (hK : V.length + B ≤ K) (n : Nat) : ∀ (S : Sv) (a b : Tm), SvInv S → NInv V S → a.kn S → b.kn S → a.fok → b.fok → (∀ k ∈ a.vs, Inn V S k) → (∀ k ∈ b.vs, Inn V S k) → S.bd.length + cost a b ≤ B → a.depth + 2 * (K - S.eq.length) + 1 ≤ n → ∃ r S', solveP n S a b = some (r, S') ∧ S'.bd.length ≤ S.bd.length + cost a b ∧ NInv V S' := by
  induction n with
  | zero => intro S a b _ _ _ _ _ _ _ _ _ h; omega
  | succ n ih =>
    intro S a b hS hN ha hb fa fb va vb hc hn
    rw [solveP]
    by_cases hv : a.vr = false ∧ b.vr = false
    · rw [if_pos hv]
      have hcost : cost a b = kcs a.ts + kcs b.ts := by unfold cost; rw [if_pos hv]
      rw [hcost] at hc ⊢
      by_cases hq : a.nm = b.nm ∧ a.ts.length = b.ts.length
      · rw [if_pos hq]
        have key : ∀ (l : List Tm) (S : Sv) (R : List Tm), SvInv S → NInv V S → (∀ u ∈ l, u ∈ a.ts) → (∀ u ∈ R, u ∈ b.ts) → (∀ u ∈ l, u.kn S) → (∀ u ∈ R, u.kn S) → (∀ u ∈ l, ∀ k ∈ u.vs, Inn V S k) → (∀ u ∈ R, ∀ k ∈ u.vs, Inn V S k) → S.bd.length + (kcs l + kcs R) ≤ B → a.depth + 2 * (K - S.eq.length) + 1 ≤ n + 1 → ∃ r S', eqf (solveP n) S l R = some (r, S') ∧ S'.bd.length ≤ S.bd.length + (kcs l + kcs R) ∧ NInv V S' := by
          intro l
          induction l with
          | nil => intro S R _ hN _ _ _ _ _ _ _ _; exact ⟨true, S, by simp [eqf], by omega, hN⟩
          | cons x l ihl =>
            intro S R hS hN hla hlb hka hkb hva hvb hc hn
            cases R with
            | nil => exact ⟨true, S, by simp [eqf], by omega, hN⟩
            | cons y R =>
              have hcx := cost_le x y
              simp only [kcs] at hc ⊢
              have hdx := Tm.depth_kid (hla x (by simp))
              obtain ⟨r1, S1, h1, h2, h3⟩ := ih S x y hS hN (hka x (by simp)) (hkb y (by simp)) (fa.kids x (hla x (by simp))) (fb.kids y (hlb y (by simp))) (hva x (by simp)) (hvb y (by simp)) (by omega) (by omega)
              have hp := solveP_pre n S x y r1 S1 h1
              have hS1 := solveP_inv n S x y r1 S1 hS (hka x (by simp)) (hkb y (by simp)) h1 (by omega)
              rw [eqf, h1]
              cases r1
              · exact ⟨false, S1, rfl, by omega, h3⟩
              · have hpe := hp.2.length_le
                obtain ⟨r2, S2, h4, h5, h6⟩ := ihl S1 R hS1 h3 (fun u hu => hla u (by simp [hu])) (fun u hu => hlb u (by simp [hu])) (fun u hu => (hka u (by simp [hu])).mono hp.1.length_le) (fun u hu => (hkb u (by simp [hu])).mono hp.1.length_le) (fun u hu k hk => (hva u (by simp [hu]) k hk).mono hp.1) (fun u hu k hk => (hvb u (by simp [hu]) k hk).mono hp.1) (by omega) (by omega)
                exact ⟨r2, S2, h4, by omega, h6⟩
        exact key a.ts S b.ts hS hN (fun u hu => hu) (fun u hu => hu) ha.kids hb.kids (fun u hu k hk => va k (Tm.vs_kid hv.1 hu hk)) (fun u hu k hk => vb k (Tm.vs_kid hv.2 hu hk)) hc hn
      · rw [if_neg hq]; exact ⟨false, S, rfl, by omega, hN⟩
    · rw [if_neg hv]
      have hcost : cost a b = kc a + kc b := by unfold cost; rw [if_neg hv]
      rw [hcost] at hc ⊢
      have la := keepP_len a S
      have lb := keepP_len b (keepP a S).1
      have hpa := keepP_pre a S
      have hpb := keepP_pre b (keepP a S).1
      obtain ⟨h1, h2, h3⟩ := hS.keep ha (by omega)
      obtain ⟨h4, h5, h6⟩ := h1.keep (hb.mono hpa.length_le) (by omega)
      have h2' := h2.mono hpb.length_le
      have heq : (keepP b (keepP a S).1).1.eq = S.eq := by rw [keepP_eq, keepP_eq]
      have h3' : (keepP a S).2 ∉ (keepP b (keepP a S).1).1.eq.map (·.1) := by rw [heq]; exact h3
      have h6' : (keepP b (keepP a S).1).2 ∉ (keepP b (keepP a S).1).1.eq.map (·.1) := by rw [keepP_eq]; exact h6
      obtain ⟨n1, i1⟩ := keepP_nin a S fa hN va
      obtain ⟨n2, i2⟩ := keepP_nin b _ fb n1 fun k hk => (vb k hk).mono hpa
      have i1' := i1.mono hpb
      have hadd : ∀ x y, Inn V (keepP b (keepP a S).1).1 x → Inn V (keepP b (keepP a S).1).1 y → NInv V ⟨(keepP b (keepP a S).1).1.bd, (keepP b (keepP a S).1).1.eq ++ [(x, y)]⟩ := fun x y hx hy => ⟨fun p hp => by
        rcases List.mem_append.1 hp with hp | hp
        · exact n2.eqs p hp
        · obtain rfl := List.mem_singleton.1 hp; exact ⟨hx, hy⟩, n2.bds, n2.nod⟩
      by_cases hne : (keepP a S).2 = (keepP b (keepP a S).1).2
      · rw [if_pos hne]; exact ⟨true, _, rfl, by omega, n2⟩
      · rw [if_neg hne]
        unfold joinP
        cases hgl : getA (keepP b (keepP a S).1).1.bd (keepP a S).2 with
        | none => exact ⟨true, _, rfl, by dsimp only; omega, hadd _ _ i1' i2⟩
        | some l =>
          cases hgr : getA (keepP b (keepP a S).1).1.bd (keepP b (keepP a S).1).2 with
          | none => exact ⟨true, _, rfl, by dsimp only; omega, hadd _ _ i2 i1'⟩
          | some r' =>
            have hj := h4.join h2' h5 h3' h6' hne
            have nj := hadd _ _ i1' i2
            have hel := hj.eql nj
            have hc0 : cost l r' = 0 := by
              unfold cost
              rw [if_pos ⟨(flat_args hj.ok hgl).1, (flat_args hj.ok hgr).1⟩, kcs_vars (flat_args hj.ok hgl).2, kcs_vars (flat_args hj.ok hgr).2]
            have hdl := flat_depth hj.ok hgl
            have hda := Tm.depth_eq a
            simp only [List.length_append, List.length_singleton, heq] at hel
            obtain ⟨r2, S2, q1, q2, q3⟩ := ih ⟨(keepP b (keepP a S).1).1.bd, (keepP b (keepP a S).1).1.eq ++ [((keepP a S).2, (keepP b (keepP a S).1).2)]⟩ l r' hj nj (flat_kn hj.ok hgl).2.1 (flat_kn hj.ok hgr).2.1 (nj.fok hj.ok hgl) (nj.fok hj.ok hgr) (nj.vs hj.ok hgl) (nj.vs hj.ok hgr) (by rw [hc0]; dsimp only; omega) (by
              simp only [List.length_append, List.length_singleton, heq]; omega)
            rw [hc0] at q2
            dsimp only at q2
            exact ⟨r2, S2, q1, by omega, q3⟩
end Go.Proofs.YtkglopdogakfoaaGreatDoor
/- Most general unifiers: the two ways in which two valid terms end. -/
namespace Go.Proofs.YtkglopdogakfoaaGreatDoor
open Go.RowKit

theorem unify_state (a b : Tm) (ha : a.ok) (hb : b.ok) : ∃ n r S, solveP n ⟨[], []⟩ a b = some (r, S) ∧ SvInv S ∧ NInv (a.vs ++ b.vs) S ∧ S.bd.length ≤ 8000 ∧ S.eq.length ≤ 16000 := by
  have h1 := cost_le a b
  have h2 := kc_size a
  have h3 := kc_size b
  have h4 := ha.2.1
  have h5 := hb.2.1
  have h6 := Tm.vs_len a
  have h7 := Tm.vs_len b
  have hl : (a.vs ++ b.vs).length ≤ 8000 := by rw [List.length_append]; omega
  obtain ⟨r, S, q1, q2, q3⟩ := solveP_ends (V := a.vs ++ b.vs) (B := 8000) (K := 16000) (by omega) (by omega) (a.depth + 2 * 16000 + 1) ⟨[], []⟩ a b SvInv.start (NInv.start _) (ha.1.kn _) (hb.1.kn _) ha.1.fok hb.1.fok (fun k hk => .inl (List.mem_append.2 (.inl hk))) (fun k hk => .inl (List.mem_append.2 (.inr hk))) (by simp; omega) (by simp)
  have hbl : S.bd.length ≤ 8000 := by simp at q2; omega
  have hS := solveP_inv _ _ _ _ _ _ SvInv.start (ha.1.kn _) (hb.1.kn _) q1 (by omega)
  exact ⟨_, r, S, q1, hS, q3, hbl, by have := hS.eql q3; omega⟩

/-- two terms' unifier is in this state -/
structure Mgu (a b : Tm) (S : Sv) (rk : Key → Nat) : Prop where
  inv : SvInv S
  nin : NInv (a.vs ++ b.vs) S
  bl : S.bd.length ≤ 8000
  el : S.eq.length ≤ 16000
  acy : Acy S rk
  mod : Mod (res S rk) S
  uni : apF (res S rk) a = apF (res S rk) b
  mgu : ∀ θ, apF θ a = apF θ b → ∃ φ, Agr ⟨[], []⟩ θ φ ∧ Mod φ S
theorem Mgu.of {a b : Tm} (ha : a.ok) (hb : b.ok) {n : Nat} {S : Sv} {rk : Key → Nat} (h : solveP n ⟨[], []⟩ a b = some (true, S)) (hS : SvInv S) (hN : NInv (a.vs ++ b.vs) S) (hbl : S.bd.length ≤ 8000) (hel : S.eq.length ≤ 16000) (hk : Acy S rk) : Mgu a b S rk := by
  have hm := res_mod hS hk (by omega) fun p hp => (solveP_pro n _ a b S SvInv.start (ha.1.kn _) (hb.1.kn _) h (by omega) p hp).resolve_left (by simp)
  exact ⟨hS, hN, hbl, hel, hk, hm, (solveP_sound n _ a b S _ h hm).2, fun θ he => (solveP_comp n _ a b true S θ SvInv.start (ha.1.kn _) (hb.1.kn _) h (by omega) (Mod.start θ) he).2⟩
/-- no unifier -/
theorem no_unifier {a b : Tm} (ha : a.ok) (hb : b.ok) {n : Nat} {r : Bool} {S : Sv} (h : solveP n ⟨[], []⟩ a b = some (r, S)) (hS : SvInv S) (hbl : S.bd.length ≤ 8000) (hno : ¬ (r = true ∧ ∃ rk, Acy S rk)) (θ : Key → Tm) : apF θ a ≠ apF θ b := fun he => by
  obtain ⟨h1, φ, -, h2⟩ := solveP_comp n _ a b r S θ SvInv.start (ha.1.kn _) (hb.1.kn _) h (by omega) (Mod.start θ) he
  exact hno ⟨h1, _, h2.acy hS.ok⟩

theorem Tm.formed.names {t : Tm} (h : t.formed) : ∀ k ∈ t.vs, isName (kb k) false = true := by
  induction t using Tm.ind with
  | h t ih =>
    intro k hk
    obtain ⟨h1, h2⟩ := (Tm.formed_iff t).1 h
    cases hv : t.vr
    · rw [Tm.vs_fun hv, Tm.vss_mem] at hk
      obtain ⟨u, hu, hk⟩ := hk
      exact ih u hu (h2 u hu) k hk
    · rw [Tm.vs_var hv] at hk
      obtain rfl := List.mem_singleton.1 hk
      rw [kb_key]
      simp only [nodeOk, hv, if_true, Bool.and_eq_true] at h1
      exact h1.1
section
variable {a b : Tm} {S : Sv} {rk : Key → Nat}
theorem Mgu.fixp (h : Mgu a b S rk) (u : Key) : repE S.eq (repE S.eq u) = repE S.eq u := repE_free (h.inv.free u)
/-- induction on what a name stands for -/
theorem Mgu.ind (h : Mgu a b S rk) {P : Key → Prop} (h0 : ∀ k, getA S.bd (repE S.eq k) = none → P k) (h1 : ∀ k t, getA S.bd (repE S.eq k) = some t → (∀ u ∈ t.ts, P u.nm.data.toList) → P k) (k : Key) : P k := by
  have key : ∀ n k, rk (repE S.eq k) = n → P k := by
    intro n
    induction n using Nat.strongRecOn with
    | ind n ih =>
      intro k hk
      cases hg : getA S.bd (repE S.eq k) with
      | none => exact h0 k hg
      | some t =>
        refine h1 k t hg fun u hu => ?_
        have := h.acy _ t hg (h.fixp k) u hu
        exact ih _ (by omega) _ rfl
  exact key _ k rfl
/-- a variable of what a name stands for is not changed -/
theorem Mgu.vars (h : Mgu a b S rk) (k : Key) : Inn (a.vs ++ b.vs) S k → ∀ x ∈ (res S rk k).vs, x ∈ a.vs ++ b.vs ∧ x ∉ S.eq.map (·.1) ∧ x ∉ S.bd.map (·.1) := by
  refine h.ind (P := fun k => Inn (a.vs ++ b.vs) S k → ∀ x ∈ (res S rk k).vs, x ∈ a.vs ++ b.vs ∧ x ∉ S.eq.map (·.1) ∧ x ∉ S.bd.map (·.1)) (fun k hg hk x hx => ?_) (fun k t hg ih hk x hx => ?_) k
  · rw [res_var hg, Tm.vs_var rfl] at hx
    obtain rfl := List.mem_singleton.1 hx
    show repE S.eq k ∈ _ ∧ repE S.eq k ∉ _ ∧ repE S.eq k ∉ _
    have hn := getA_none.1 hg
    exact ⟨(h.nin.rep hk).resolve_right hn, h.inv.free k, hn⟩
  · rw [res_fun h.acy h.fixp hg, Tm.vs_fun rfl, Tm.vss_mem] at hx
    obtain ⟨u, hu, hx⟩ := hx
    obtain ⟨v, hv, rfl⟩ := List.mem_map.1 (show u ∈ t.ts.map fun u => res S rk u.nm.data.toList from hu)
    exact ih v hv (h.nin.bds _ (getA_some hg) v hv) x hx
theorem Mgu.fixed (_ : Mgu a b S rk) {x : Key} (h1 : x ∉ S.eq.map (·.1)) (h2 : x ∉ S.bd.map (·.1)) : res S rk x = vrk x := by
  have e : repE S.eq x = x := repE_free h1
  rw [res_var (by rw [e]; exact getA_none.2 h2), e]
theorem Mgu.idem (h : Mgu a b S rk) {k : Key} (hk : Inn (a.vs ++ b.vs) S k) : apF (res S rk) (res S rk k) = res S rk k := by
  have key : ∀ t : Tm, t.bare → (∀ x ∈ t.vs, res S rk x = vrk x) → apF (res S rk) t = t := by
    intro t
    induction t using Tm.ind with
    | h t ih =>
      intro hb hx
      cases hv : t.vr
      · rw [apF_fun _ hv]
        have : t.ts.map (apF (res S rk)) = t.ts := by
          conv => rhs; rw [← List.map_id t.ts]
          exact List.map_congr_left fun u hu => ih u hu (hb.kids u hu) fun x hxu => hx x (Tm.vs_kid hv hu hxu)
        rw [this]
        cases t; simp only [Tm.vr] at hv; subst hv; rfl
      · rw [apF_var _ hv, hx _ (by rw [Tm.vs_var hv]; simp)]
        have := hb.vr0 hv
        cases t; simp only [Tm.vr, Tm.ts] at hv this; subst hv; subst this
        show Tm.mk (kb _) true [] = _
        rw [kb_key]; rfl
  refine key _ ?_ fun x hx => (fun ⟨_, h2, h3⟩ => h.fixed h2 h3) (h.vars k hk x hx)
  refine h.ind (P := fun k => (res S rk k).bare) (fun k hg => ?_) (fun k t hg ih => ?_) k
  · rw [res_var hg]; exact .mk _ (fun _ => rfl) fun u hu => by cases hu
  · rw [res_fun h.acy h.fixp hg]
    refine .mk _ (fun e => by cases e) fun u hu => ?_
    obtain ⟨v, hv, rfl⟩ := List.mem_map.1 (show u ∈ t.ts.map fun u => res S rk u.nm.data.toList from hu)
    exact ih v hv
theorem Mgu.formed (h : Mgu a b S rk) (ha : a.formed) (hb : b.formed) (k : Key) : Inn (a.vs ++ b.vs) S k → (res S rk k).formed := by
  refine h.ind (P := fun k => Inn (a.vs ++ b.vs) S k → (res S rk k).formed) (fun k hg hk => ?_) (fun k t hg ih hk => ?_) k
  · have hm := (h.nin.rep hk).resolve_right (getA_none.1 hg)
    rw [res_var hg, Tm.formed_iff]
    have hn : isName (kb (repE S.eq k)) false = true := by
      rcases List.mem_append.1 hm with hm | hm
      · exact ha.names _ hm
      · exact hb.names _ hm
    exact ⟨by show nodeOk (kb _) true 0 = true; simp [nodeOk, hn], fun u hu => by cases hu⟩
  · obtain ⟨h1, h2⟩ := h.nin.nod _ (getA_some hg)
    rw [res_fun h.acy h.fixp hg, Tm.formed_iff]
    refine ⟨?_, fun u hu => ?_⟩
    · show nodeOk t.nm false (t.ts.map fun u => res S rk u.nm.data.toList).length = true
      rw [List.length_map]
      simp only [nodeOk, Bool.false_eq_true, if_false, Bool.and_eq_true, decide_eq_true_eq]
      exact ⟨h1, h2⟩
    · obtain ⟨v, hv, rfl⟩ := List.mem_map.1 (show u ∈ t.ts.map fun u => res S rk u.nm.data.toList from hu)
      exact ih v hv (h.nin.bds _ (getA_some hg) v hv)
/-- a unifier's value at what a name stands for -/
theorem Mgu.value (h : Mgu a b S rk) {φ : Key → Tm} (hm : Mod φ S) (k : Key) : apF φ (res S rk k) = φ k := by
  refine h.ind (P := fun k => apF φ (res S rk k) = φ k) (fun k hg => ?_) (fun k t hg ih => ?_) k
  · rw [res_var hg, apF_vrk, hm.eq.rep]
  · rw [res_fun h.acy h.fixp hg, apF_fun _ rfl, ← hm.eq.rep k, hm.bd _ (getA_some hg), apF_fun _ (flat_args h.inv.ok hg).1]
    show Tm.mk t.nm false ((t.ts.map fun u => res S rk u.nm.data.toList).map (apF φ)) = _
    rw [List.map_map]
    congr 1
    refine List.map_congr_left fun u hu => ?_
    rw [Function.comp_apply, ih u hu, apF_var _ ((flat_args h.inv.ok hg).2 u hu)]
theorem Mgu.kn (ha : a.formed) (hb : b.formed) {k : Key} (hk : k ∈ a.vs ++ b.vs) : Kn ⟨[], []⟩ k := by
  rcases List.mem_append.1 hk with hk | hk
  · exact (ha.kn _).names k hk
  · exact (hb.kn _).names k hk
theorem Mgu.most (h : Mgu a b S rk) (ha : a.formed) (hb : b.formed) {θ : Key → Tm} (he : apF θ a = apF θ b) {k : Key} (hk : k ∈ a.vs ++ b.vs) : apF θ (res S rk k) = θ k := by
  obtain ⟨φ, h1, h2⟩ := h.mgu θ he
  rw [← h1 k (Mgu.kn ha hb hk), ← h.value h2 k]
  exact apF_congr fun x hx => (h1 x (Mgu.kn ha hb (h.vars k (.inl hk) x hx).1)).symm
theorem Mgu.notbd (h : Mgu a b S rk) (ha : a.formed) (hb : b.formed) {k : Key} (hk : k ∈ a.vs ++ b.vs) : k ∉ S.bd.map (·.1) := fun hm => by
  rw [h.inv.ok.keys] at hm
  obtain ⟨i, hi, e⟩ := List.mem_map.1 hm
  rw [List.mem_range] at hi
  have := (Mgu.kn ha hb hk).2 i (by have := h.bl; omega) e.symm
  simp at this
theorem Mgu.chg (h : Mgu a b S rk) {L : List Key} (hL : Chg S L) {x : Key} (hx : x ∈ L) : x ∈ a.vs ++ b.vs := by
  obtain ⟨h1, h2⟩ := (hL.2 x).1 hx
  obtain ⟨p, hp, rfl⟩ := List.mem_map.1 h1
  exact (h.nin.eqs p hp).1.resolve_right h2
/-- the bindings' images -/
theorem Mgu.image (h : Mgu a b S rk) (ha : a.formed) (hb : b.formed) {L : List Key} (hL : Chg S L) {k : Key} (hk : k ∈ a.vs ++ b.vs) : imageOf (subS S rk L) k = res S rk k := by
  by_cases hm : k ∈ L
  · refine imageOf_of ⟨(k, res S rk k), List.mem_map.2 ⟨k, hm, rfl⟩, rfl⟩ fun p hp e => ?_
    obtain ⟨x, hx, rfl⟩ := List.mem_map.1 hp
    dsimp only at e ⊢
    rw [e]
  · have h2 := h.notbd ha hb hk
    rw [imageOf_miss, h.fixed (fun h1 => hm ((hL.2 k).2 ⟨h1, h2⟩)) h2]
    · rfl
    · rintro q hq rfl
      obtain ⟨x, hx, rfl⟩ := List.mem_map.1 hq
      exact hm hx
theorem Mgu.apB_vars (h : Mgu a b S rk) (ha : a.formed) (hb : b.formed) {L : List Key} (hL : Chg S L) {t : Tm} (ht : ∀ k ∈ t.vs, k ∈ a.vs ++ b.vs) : apB (subS S rk L) t = apF (res S rk) t := by
  rw [apB_apF]
  exact apF_congr fun k hk => h.image ha hb hL (ht k hk)
theorem Mgu.unifies (h : Mgu a b S rk) (ha : a.formed) (hb : b.formed) {L : List Key} (hL : Chg S L) : apB (subS S rk L) a = apB (subS S rk L) b := by
  rw [h.apB_vars ha hb hL fun k hk => List.mem_append.2 (.inl hk), h.apB_vars ha hb hL fun k hk => List.mem_append.2 (.inr hk), h.uni]
theorem Mgu.stays (h : Mgu a b S rk) (ha : a.formed) (hb : b.formed) {L : List Key} (hL : Chg S L) {q : Bd} (hq : q ∈ subS S rk L) : apB (subS S rk L) q.2 = q.2 := by
  obtain ⟨x, hx, rfl⟩ := List.mem_map.1 hq
  have hi : Inn (a.vs ++ b.vs) S x := .inl (h.chg hL hx)
  show apB (subS S rk L) (res S rk x) = res S rk x
  rw [h.apB_vars ha hb hL fun k hk => (h.vars x hi k hk).1, h.idem hi]
theorem Mgu.subOk (h : Mgu a b S rk) (ha : a.formed) (hb : b.formed) {L : List Key} (hL : Chg S L) (hf : FitS S rk) : SubOk (subS S rk L) := by
  refine ⟨fun p hp => ?_, fun i p q hp hq => ?_, fun p hp => ?_⟩
  · obtain ⟨x, hx, rfl⟩ := List.mem_map.1 hp
    rcases List.mem_append.1 (h.chg hL hx) with hm | hm
    · exact ha.names _ hm
    · exact hb.names _ hm
  · unfold subS at hp hq
    rw [List.getElem?_map] at hp hq
    obtain ⟨x, hx, rfl⟩ := Option.map_eq_some_iff.1 hp
    obtain ⟨y, hy, rfl⟩ := Option.map_eq_some_iff.1 hq
    obtain ⟨h1, e1⟩ := List.getElem?_eq_some_iff.1 hx
    obtain ⟨h2, e2⟩ := List.getElem?_eq_some_iff.1 hy
    have := List.pairwise_iff_getElem.1 hL.1 i (i + 1) h1 h2 (by omega)
    rw [e1, e2] at this
    exact this
  · obtain ⟨x, hx, rfl⟩ := List.mem_map.1 hp
    have h1 := (hL.2 x).1 hx
    have h2 := hf x h1.1 h1.2
    exact ⟨h.formed ha hb x (.inl (h.chg hL hx)), h2.1, h2.2⟩
end
end Go.Proofs.YtkglopdogakfoaaGreatDoor
