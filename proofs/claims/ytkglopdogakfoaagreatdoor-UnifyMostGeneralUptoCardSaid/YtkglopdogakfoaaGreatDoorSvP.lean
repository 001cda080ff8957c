/- The solver of package unify as a function: what it keeps, what it replaces. No program stands here. -/
import Derived.Test.YtkglopdogakfoaaGreatDoorKp
namespace Go.Proofs.YtkglopdogakfoaaGreatDoor
open Go.RowKit

/-- the terms that are kept, and the replacements in their order -/
structure Sv where
  bd : List Bd
  eq : List (Key × Key)
/-- what finally replaces a name -/
def repE (E : List (Key × Key)) (u : Key) : Key := E.foldl (fun r p => if r = p.1 then p.2 else r) u
theorem repE_snoc (E : List (Key × Key)) (x y u : Key) : repE (E ++ [(x, y)]) u = if repE E u = x then y else repE E u := by
  unfold repE; rw [List.foldl_append]; rfl
def vrk (k : Key) : Tm := .mk (kb k) true []
/-- the name of the n-th term that is kept -/
def hname (n : Nat) : Key := 35 :: (digN n).data.toList
mutual
def keepP : Tm → Sv → Sv × Key
  | .mk nm vr l, S => if vr = true then (S, repE S.eq nm.data.toList) else
    (⟨(keepsP l S).1.bd ++ [(hname (keepsP l S).1.bd.length, .mk nm false ((keepsP l S).2.map vrk))], (keepsP l S).1.eq⟩, hname (keepsP l S).1.bd.length)
def keepsP : List Tm → Sv → Sv × List Key
  | [], S => (S, [])
  | t :: r, S => ((keepsP r (keepP t S).1).1, (keepP t S).2 :: (keepsP r (keepP t S).1).2)
end
theorem keepP_var {t : Tm} (h : t.vr = true) (S : Sv) : keepP t S = (S, repE S.eq t.nm.data.toList) := by
  cases t; simp only [Tm.vr] at h; subst h; rw [keepP, if_pos rfl]; rfl
theorem keepP_fun {t : Tm} (h : t.vr = false) (S : Sv) : keepP t S = (⟨(keepsP t.ts S).1.bd ++ [(hname (keepsP t.ts S).1.bd.length, .mk t.nm false ((keepsP t.ts S).2.map vrk))], (keepsP t.ts S).1.eq⟩, hname (keepsP t.ts S).1.bd.length) := by
  cases t; simp only [Tm.vr] at h; subst h; rw [keepP, if_neg (by simp)]; rfl
theorem keepsP_snoc (l : List Tm) : ∀ (S : Sv) (t : Tm), keepsP (l ++ [t]) S = ((keepP t (keepsP l S).1).1, (keepsP l S).2 ++ [(keepP t (keepsP l S).1).2]) := by
  induction l with
  | nil => intro S t; rfl
  | cons x l ih => intro S t; rw [List.cons_append, keepsP, ih, keepsP]; rfl
theorem keepP_eq (t : Tm) : ∀ S, (keepP t S).1.eq = S.eq := by
  induction t using Tm.ind with
  | h t ih =>
    intro S
    cases hv : t.vr
    · rw [keepP_fun hv]
      have key : ∀ (l : List Tm) (S : Sv), (∀ u ∈ l, u ∈ t.ts) → (keepsP l S).1.eq = S.eq := by
        intro l
        induction l with
        | nil => intro S _; rfl
        | cons x l ihl => intro S h; rw [keepsP, ihl _ (fun u hu => h u (by simp [hu])), ih x (h x (by simp))]
      exact key t.ts S (fun u hu => hu)
    · rw [keepP_var hv]
theorem keepsP_eq (l : List Tm) : ∀ S, (keepsP l S).1.eq = S.eq := by
  induction l with
  | nil => intro S; rfl
  | cons x l ih => intro S; rw [keepsP, ih, keepP_eq]
theorem keepsP_len (l : List Tm) : ∀ S, (keepsP l S).2.length = l.length := by
  induction l with
  | nil => intro S; rfl
  | cons x l ih => intro S; rw [keepsP, List.length_cons, ih, List.length_cons]
theorem keepP_pre (t : Tm) : ∀ S, S.bd <+: (keepP t S).1.bd := by
  induction t using Tm.ind with
  | h t ih =>
    intro S
    cases hv : t.vr
    · rw [keepP_fun hv]
      have key : ∀ (l : List Tm) (S : Sv), (∀ u ∈ l, u ∈ t.ts) → S.bd <+: (keepsP l S).1.bd := by
        intro l
        induction l with
        | nil => intro S _; exact List.prefix_refl _
        | cons x l ihl => intro S h; rw [keepsP]; exact (ih x (h x (by simp)) S).trans (ihl _ (fun u hu => h u (by simp [hu])))
      exact (key t.ts S (fun u hu => hu)).trans (List.prefix_append _ _)
    · rw [keepP_var hv]; exact List.prefix_refl _
theorem keepsP_pre (l : List Tm) : ∀ S, S.bd <+: (keepsP l S).1.bd := by
  induction l with
  | nil => intro S; exact List.prefix_refl _
  | cons x l ih => intro S; rw [keepsP]; exact (keepP_pre x S).trans (ih _)

/-- two names that are not replaced are made one; step: what makes terms equal -/
def joinP (step : Sv → Tm → Tm → Option (Bool × Sv)) (S : Sv) (x y : Key) : Option (Bool × Sv) :=
  match getA S.bd x, getA S.bd y with
  | some _, none => some (true, ⟨S.bd, S.eq ++ [(y, x)]⟩)
  | none, _ => some (true, ⟨S.bd, S.eq ++ [(x, y)]⟩)
  | some l, some r => step ⟨S.bd, S.eq ++ [(x, y)]⟩ l r
/-- the solver; n: fuel -/
def solveP : Nat → Sv → Tm → Tm → Option (Bool × Sv)
  | 0, _, _, _ => none
  | n + 1, S, a, b =>
    if a.vr = false ∧ b.vr = false then
      if a.nm = b.nm ∧ a.ts.length = b.ts.length then eqf (solveP n) S a.ts b.ts else some (false, S)
    else if (keepP a S).2 = (keepP b (keepP a S).1).2 then some (true, (keepP b (keepP a S).1).1)
    else joinP (solveP n) (keepP b (keepP a S).1).1 (keepP a S).2 (keepP b (keepP a S).1).2
/-- nothing that is known is forgotten -/
def Sv.le (S T : Sv) : Prop := S.bd.length ≤ T.bd.length ∧ S.eq.length ≤ T.eq.length
theorem Sv.le_refl (S : Sv) : S.le S := ⟨Nat.le_refl _, Nat.le_refl _⟩
theorem Sv.le_trans {S T U : Sv} (h : S.le T) (k : T.le U) : S.le U := ⟨Nat.le_trans h.1 k.1, Nat.le_trans h.2 k.2⟩
theorem keepP_le (t : Tm) (S : Sv) : S.le (keepP t S).1 := ⟨(keepP_pre t S).length_le, by rw [keepP_eq]; exact Nat.le_refl _⟩
theorem eqf_le {step : Sv → Tm → Tm → Option (Bool × Sv)} (h : ∀ S t u r S', step S t u = some (r, S') → S.le S') (l : List Tm) : ∀ (S : Sv) (R : List Tm) (r : Bool) (S' : Sv), eqf step S l R = some (r, S') → S.le S' := by
  induction l with
  | nil => intro S R r S' he; simp only [eqf, Option.some.injEq, Prod.mk.injEq] at he; rw [← he.2]; exact S.le_refl
  | cons x l ih =>
    intro S R r S' he
    cases R with
    | nil => simp only [eqf, Option.some.injEq, Prod.mk.injEq] at he; rw [← he.2]; exact S.le_refl
    | cons y R =>
      rw [eqf] at he
      cases hx : step S x y with
      | none => rw [hx] at he; cases he
      | some q =>
        obtain ⟨b, S1⟩ := q
        have h1 := h _ _ _ _ _ hx
        rw [hx] at he
        cases b
        · simp only [Option.some.injEq, Prod.mk.injEq] at he; rw [← he.2]; exact h1
        · exact Sv.le_trans h1 (ih S1 R r S' he)
theorem solveP_le (n : Nat) : ∀ (S : Sv) (a b : Tm) (r : Bool) (S' : Sv), solveP n S a b = some (r, S') → S.le S' := by
  induction n with
  | zero => intro S a b r S' h; cases h
  | succ n ih =>
    intro S a b r S' h
    rw [solveP] at h
    split at h
    · split at h
      · exact eqf_le (fun S t u r S' h => ih S t u r S' h) _ S _ r S' h
      · simp only [Option.some.injEq, Prod.mk.injEq] at h; rw [← h.2]; exact S.le_refl
    · have h1 : S.le (keepP b (keepP a S).1).1 := Sv.le_trans (keepP_le a S) (keepP_le b _)
      split at h
      · simp only [Option.some.injEq, Prod.mk.injEq] at h; rw [← h.2]; exact h1
      · refine Sv.le_trans h1 ?_
        unfold joinP at h
        split at h
        · simp only [Option.some.injEq, Prod.mk.injEq] at h; rw [← h.2]; exact ⟨Nat.le_refl _, by simp⟩
        · simp only [Option.some.injEq, Prod.mk.injEq] at h; rw [← h.2]; exact ⟨Nat.le_refl _, by simp⟩
        · have h2 := ih _ _ _ _ _ h
          exact ⟨h2.1, by have := h2.2; simp at this; omega⟩
/-- the steps that stay within bounds -/
def bstep (N M : Nat) (step : Sv → Tm → Tm → Option (Bool × Sv)) (S : Sv) (t u : Tm) : Option (Bool × Sv) :=
  match step S t u with
  | some (r, S') => if S'.bd.length ≤ N ∧ S'.eq.length ≤ M then some (r, S') else none
  | none => none
theorem bstep_some {N M : Nat} {step : Sv → Tm → Tm → Option (Bool × Sv)} {S S' : Sv} {t u : Tm} {r : Bool} (h : bstep N M step S t u = some (r, S')) : step S t u = some (r, S') ∧ S'.bd.length ≤ N ∧ S'.eq.length ≤ M := by
  unfold bstep at h
  cases hs : step S t u with
  | none => rw [hs] at h; cases h
  | some q =>
    rw [hs] at h
    obtain ⟨b, S1⟩ := q
    simp only at h
    split at h
    · rename_i hc
      simp only [Option.some.injEq, Prod.mk.injEq] at h
      obtain ⟨rfl, rfl⟩ := h
      exact ⟨rfl, hc⟩
    · cases h
theorem bstep_eqf {N M : Nat} {step : Sv → Tm → Tm → Option (Bool × Sv)} (hle : ∀ S t u r S', step S t u = some (r, S') → S.le S') (l : List Tm) : ∀ (S : Sv) (R : List Tm) (r : Bool) (S' : Sv), eqf step S l R = some (r, S') → S'.bd.length ≤ N → S'.eq.length ≤ M → eqf (bstep N M step) S l R = some (r, S') := by
  induction l with
  | nil => intro S R r S' he _ _; simpa only [eqf] using he
  | cons x l ih =>
    intro S R r S' he h1 h2
    cases R with
    | nil => simpa only [eqf] using he
    | cons y R =>
      rw [eqf] at he ⊢
      cases hx : step S x y with
      | none => rw [hx] at he; cases he
      | some q =>
        obtain ⟨b, S1⟩ := q
        rw [hx] at he
        have hS1 : S1.le S' := by
          cases b
          · simp only [Option.some.injEq, Prod.mk.injEq] at he; rw [← he.2]; exact S1.le_refl
          · exact eqf_le hle l S1 R r S' he
        have hb : bstep N M step S x y = some (b, S1) := by
          unfold bstep
          rw [hx]
          simp only
          rw [if_pos ⟨Nat.le_trans hS1.1 h1, Nat.le_trans hS1.2 h2⟩]
        rw [hb]
        cases b
        · exact he
        · exact ih S1 R r S' he h1 h2
/-- a way of n steps through the replacements -/
inductive Rep (E : List (Key × Key)) : Nat → Key → Key → Prop
  | stop (u : Key) : getA E u = none → Rep E 0 u u
  | step (u v r : Key) (n : Nat) : getA E u = some v → Rep E n v r → Rep E (n + 1) u r
theorem Rep.end {E : List (Key × Key)} {n : Nat} {u r : Key} (h : Rep E n u r) : getA E r = none := by
  induction h with
  | stop u h => exact h
  | step u v r n _ _ ih => exact ih
/-- the map E' of replacements stands for the replacements E: ways in it may have been shortened -/
structure EqRel (E' E : List (Key × Key)) : Prop where
  keys : ∀ k, k ∈ E'.map (·.1) ↔ k ∈ E.map (·.1)
  vals : ∀ k v, getA E' k = some v → v ∈ E.map (·.2)
  rep : ∀ u, ∃ n, Rep E' n u (repE E u)
theorem EqRel.nil : EqRel [] [] := ⟨fun _ => Iff.rfl, (fun k v h => by cases h), fun u => ⟨0, .stop u rfl⟩⟩
theorem EqRel.free {E' E : List (Key × Key)} (h : EqRel E' E) (u : Key) : repE E u ∉ E.map (·.1) := by
  obtain ⟨n, hr⟩ := h.rep u
  rw [← h.keys]
  exact getA_none.1 hr.end
theorem addKey_iff {ss : List Key} {k x : Key} : x ∈ addKey ss k ↔ x ∈ ss ∨ x = k := by
  unfold addKey
  split
  · rename_i h; exact ⟨.inl, fun hx => by rcases hx with hx | rfl; exact hx; exact h⟩
  · simp
theorem Rep.short {E' : List (Key × Key)} {x y z : Key} (hx : getA E' x = some y) (hy : getA E' y = some z) : ∀ n u r, Rep E' n u r → ∃ m, m ≤ n ∧ Rep (putA E' x z) m u r := by
  intro n
  induction n using Nat.strongRecOn with
  | ind n ih =>
    intro u r hr
    cases hr with
    | stop u h0 =>
      have hne : u ≠ x := fun e => by subst e; rw [hx] at h0; cases h0
      exact ⟨0, Nat.zero_le _, .stop u (by rw [getA_put, if_neg hne]; exact h0)⟩
    | step u v r n h0 h1 =>
      by_cases e : u = x
      · subst e
        rw [hx] at h0; cases h0
        cases h1 with
        | stop u h2 => rw [hy] at h2; cases h2
        | step u v r n h2 h3 =>
          rw [hy] at h2; cases h2
          obtain ⟨m, hmn, hm⟩ := ih n (by omega) _ _ h3
          exact ⟨m + 1, by omega, .step _ _ _ _ (by rw [getA_put, if_pos rfl]) hm⟩
      · obtain ⟨m, hmn, hm⟩ := ih n (by omega) _ _ h1
        exact ⟨m + 1, by omega, .step _ _ _ _ (by rw [getA_put, if_neg e]; exact h0) hm⟩
/-- a way is shortened -/
theorem EqRel.short {E' E : List (Key × Key)} (h : EqRel E' E) {x y z : Key} (hx : getA E' x = some y) (hy : getA E' y = some z) : EqRel (putA E' x z) E := by
  refine ⟨fun k => ?_, fun k v hg => ?_, fun u => ?_⟩
  · rw [putA_keys, addKey_iff, ← h.keys]
    exact ⟨fun hk => by rcases hk with hk | rfl; exact hk; exact getA_mem.2 ⟨_, hx⟩, .inl⟩
  · rw [getA_put] at hg
    split at hg
    · cases hg; exact h.vals _ _ hy
    · exact h.vals _ _ hg
  · obtain ⟨n, hr⟩ := h.rep u
    obtain ⟨m, _, hm⟩ := Rep.short hx hy n u _ hr
    exact ⟨m, hm⟩
/-- a name is replaced -/
theorem EqRel.join {E' E : List (Key × Key)} (h : EqRel E' E) {x y : Key} (hx : x ∉ E.map (·.1)) (hy : y ∉ E.map (·.1)) (hne : x ≠ y) : EqRel (putA E' x y) (E ++ [(x, y)]) := by
  have hx' : getA E' x = none := getA_none.2 fun hk => hx ((h.keys _).1 hk)
  have hy' : getA E' y = none := getA_none.2 fun hk => hy ((h.keys _).1 hk)
  refine ⟨fun k => ?_, fun k v hg => ?_, fun u => ?_⟩
  · rw [putA_keys, addKey_iff, h.keys, List.map_append, List.mem_append]; simp
  · rw [getA_put] at hg
    rw [List.map_append, List.mem_append]
    split at hg
    · cases hg; exact .inr (by simp)
    · exact .inl (h.vals _ _ hg)
  · obtain ⟨n, hr⟩ := h.rep u
    rw [repE_snoc]
    have key : ∀ n u r, Rep E' n u r → ∃ m, Rep (putA E' x y) m u (if r = x then y else r) := by
      intro n u r hr
      induction hr with
      | stop u h0 =>
        by_cases e : u = x
        · subst e
          rw [if_pos rfl]
          exact ⟨1, .step _ _ _ _ (by rw [getA_put, if_pos rfl]) (.stop _ (by rw [getA_put, if_neg (Ne.symm hne)]; exact hy'))⟩
        · rw [if_neg e]
          exact ⟨0, .stop _ (by rw [getA_put, if_neg e]; exact h0)⟩
      | step u v r n h0 h1 ih =>
        obtain ⟨m, hm⟩ := ih
        have e : u ≠ x := fun e => by subst e; rw [hx'] at h0; cases h0
        exact ⟨m + 1, .step _ _ _ _ (by rw [getA_put, if_neg e]; exact h0) hm⟩
    exact key n u _ hr

/-- a name that is no name of a kept term, but of one that is there -/
def Kn (S : Sv) (k : Key) : Prop := k.length ≤ 24 ∧ ∀ i, i < 1048576 → k = hname i → i < S.bd.length
theorem Kn.mono {S S' : Sv} {k : Key} (h : Kn S k) (hl : S.bd.length ≤ S'.bd.length) : Kn S' k := ⟨h.1, fun i hi e => Nat.lt_of_lt_of_le (h.2 i hi e) hl⟩
/-- every variable's name is such a name -/
inductive Tm.kn (S : Sv) : Tm → Prop
  | mk (t : Tm) : t.nm.size ≤ 24 ∧ t.ts.length ≤ 8 → (t.vr = true → Kn S t.nm.data.toList) → (∀ u ∈ t.ts, u.kn S) → t.kn S
theorem Tm.kn.node {S : Sv} {t : Tm} (h : t.kn S) : t.nm.size ≤ 24 ∧ t.ts.length ≤ 8 := by cases h with | mk _ h0 h1 h2 => exact h0
theorem Tm.kn.var {S : Sv} {t : Tm} (h : t.kn S) : t.vr = true → Kn S t.nm.data.toList := by cases h with | mk _ h0 h1 h2 => exact h1
theorem Tm.kn.kids {S : Sv} {t : Tm} (h : t.kn S) : ∀ u ∈ t.ts, u.kn S := by cases h with | mk _ h0 h1 h2 => exact h2
theorem Tm.kn.mono {S S' : Sv} {t : Tm} (h : t.kn S) (hl : S.bd.length ≤ S'.bd.length) : t.kn S' := by
  induction t using Tm.ind with
  | h t ih => exact .mk t h.node (fun hv => (h.var hv).mono hl) fun u hu => ih u hu (h.kids u hu)
theorem hname_inj {i j : Nat} (hi : i < 1048576) (hj : j < 1048576) (h : hname i = hname j) : i = j := by
  unfold hname at h
  simp only [List.cons.injEq, true_and] at h
  exact digN_inj hi hj (bytes_ext h)
theorem hname_len (i : Nat) : (hname i).length ≤ 8 := by
  unfold hname
  have := digN_size i
  rw [List.length_cons, bytes_len]; omega
/-- a formed term's variables are no names of kept terms -/
theorem Tm.formed.kn {t : Tm} (h : t.formed) (S : Sv) : t.kn S := by
  induction t using Tm.ind with
  | h t ih =>
    obtain ⟨h1, h2⟩ := (Tm.formed_iff t).1 h
    refine .mk t ?_ (fun hv => ?_) fun u hu => ih u hu (h2 u hu)
    · unfold nodeOk at h1
      split at h1
      · simp only [Bool.and_eq_true, beq_iff_eq] at h1; exact ⟨isName_le24 h1.1, by omega⟩
      · simp only [Bool.and_eq_true, decide_eq_true_eq] at h1; exact ⟨isName_le24 h1.1, h1.2⟩
    simp only [nodeOk, hv, if_true, Bool.and_eq_true] at h1
    have hn := h1.1
    have hl := isName_le24 hn
    refine ⟨by rw [bytes_len]; omega, fun i _ e => ?_⟩
    unfold isName at hn
    simp only [Bool.and_eq_true, baseOf, plain] at hn
    have hp := hn.2
    simp only [Bool.false_eq_true, if_false] at hp
    rw [e, hname, List.all_cons, Bool.and_eq_true] at hp
    exact absurd hp.1 (by decide)

/-- a state that the solver comes to -/
structure SvOk (S : Sv) : Prop where
  keys : S.bd.map (·.1) = (List.range S.bd.length).map hname
  eqs : ∀ p ∈ S.eq, Kn S p.1 ∧ Kn S p.2
  flat : ∀ k t, (k, t) ∈ S.bd → t.vr = false ∧ t.nm.size ≤ 24 ∧ ∃ ks : List Key, t.ts = ks.map vrk ∧ ks.length ≤ 8 ∧ ∀ a ∈ ks, Kn S a
theorem SvOk.start : SvOk ⟨[], []⟩ := ⟨rfl, by simp, by simp⟩
theorem SvOk.rep {S : Sv} (h : SvOk S) {u : Key} (hu : Kn S u) : Kn S (repE S.eq u) := by
  have key : ∀ (l : List (Key × Key)) (u : Key), (∀ p ∈ l, p ∈ S.eq) → Kn S u → Kn S (l.foldl (fun r p => if r = p.1 then p.2 else r) u) := by
    intro l
    induction l with
    | nil => intro u _ hu; exact hu
    | cons p l ih =>
      intro u hs hu
      rw [List.foldl_cons]
      refine ih _ (fun q hq => hs q (by simp [hq])) ?_
      split
      · exact (h.eqs p (hs p (by simp))).2
      · exact hu
  exact key S.eq u (fun p hp => hp) hu
theorem SvOk.fresh {S : Sv} (h : SvOk S) (hl : S.bd.length < 1048576) : hname S.bd.length ∉ S.bd.map (·.1) ∧ hname S.bd.length ∉ S.eq.map (·.1) := by
  refine ⟨fun hm => ?_, fun hm => ?_⟩
  · rw [h.keys] at hm
    obtain ⟨i, hi, e⟩ := List.mem_map.1 hm
    rw [List.mem_range] at hi
    have := hname_inj (by omega) hl e
    omega
  · obtain ⟨p, hp, e⟩ := List.mem_map.1 hm
    have := (h.eqs p hp).1.2 _ hl e
    omega
/-- a term is kept -/
theorem SvOk.add {S : Sv} (h : SvOk S) {nm : ByteArray} {ks : List Key} (hk : ∀ a ∈ ks, Kn S a) (hn : nm.size ≤ 24) (h8 : ks.length ≤ 8) : SvOk ⟨S.bd ++ [(hname S.bd.length, .mk nm false (ks.map vrk))], S.eq⟩ := by
  have hm : ∀ k, Kn S k → Kn ⟨S.bd ++ [(hname S.bd.length, .mk nm false (ks.map vrk))], S.eq⟩ k := fun k hk => hk.mono (by simp)
  refine ⟨?_, fun p hp => ⟨hm _ (h.eqs p hp).1, hm _ (h.eqs p hp).2⟩, fun k t hkt => ?_⟩
  · rw [List.map_append, h.keys, List.length_append, List.length_singleton, List.range_succ, List.map_append]; rfl
  · rcases List.mem_append.1 hkt with hkt | hkt
    · obtain ⟨h1, h2, ks', h3, h5, h4⟩ := h.flat k t hkt
      exact ⟨h1, h2, ks', h3, h5, fun a ha => hm a (h4 a ha)⟩
    · obtain ⟨rfl, rfl⟩ : k = hname S.bd.length ∧ t = .mk nm false (ks.map vrk) := by simpa using hkt
      exact ⟨rfl, hn, ks, rfl, h8, fun a ha => hm a (hk a ha)⟩
theorem SvOk.new {S : Sv} {e : Tm} (hl : S.bd.length < 1048576) : Kn ⟨S.bd ++ [(hname S.bd.length, e)], S.eq⟩ (hname S.bd.length) := ⟨by have := hname_len S.bd.length; omega, fun i hi he => by have := hname_inj hl hi he; simp; omega⟩
theorem SvOk.join {S : Sv} (h : SvOk S) {x y : Key} (hx : Kn S x) (hy : Kn S y) : SvOk ⟨S.bd, S.eq ++ [(x, y)]⟩ := by
  refine ⟨h.keys, fun p hp => ?_, h.flat⟩
  rcases List.mem_append.1 hp with hp | hp
  · exact h.eqs p hp
  · obtain rfl := List.mem_singleton.1 hp; exact ⟨hx, hy⟩
/-- keeping a term -/
theorem keepP_ok (t : Tm) : ∀ S, SvOk S → t.kn S → (∀ u, repE S.eq u ∉ S.eq.map (·.1)) → (keepP t S).1.bd.length ≤ 1048576 → SvOk (keepP t S).1 ∧ Kn (keepP t S).1 (keepP t S).2 ∧ (keepP t S).2 ∉ S.eq.map (·.1) ∧ (t.vr = false → ∀ a ∈ (keepsP t.ts S).2, Kn (keepsP t.ts S).1 a) := by
  induction t using Tm.ind with
  | h t ih =>
    intro S hS ht hr hl
    cases hv : t.vr
    · rw [keepP_fun hv] at hl ⊢
      have key : ∀ (l : List Tm) (S : Sv), (∀ u ∈ l, u ∈ t.ts) → SvOk S → (∀ u ∈ l, u.kn S) → (∀ u, repE S.eq u ∉ S.eq.map (·.1)) → (keepsP l S).1.bd.length ≤ 1048576 → SvOk (keepsP l S).1 ∧ ∀ a ∈ (keepsP l S).2, Kn (keepsP l S).1 a := by
        intro l
        induction l with
        | nil => intro S _ hS _ _ _; exact ⟨hS, by simp [keepsP]⟩
        | cons x l ihl =>
          intro S hs hS hk hr hl
          rw [keepsP] at hl ⊢
          have hpl := (keepsP_pre l (keepP x S).1).length_le
          obtain ⟨h1, h2, _, _⟩ := ih x (hs x (by simp)) S hS (hk x (by simp)) hr (Nat.le_trans hpl hl)
          have hpx := (keepP_pre x S).length_le
          obtain ⟨h3, h4⟩ := ihl (keepP x S).1 (fun u hu => hs u (by simp [hu])) h1 (fun u hu => (hk u (by simp [hu])).mono hpx) (by rw [keepP_eq]; exact hr) hl
          refine ⟨h3, fun a ha => ?_⟩
          rcases List.mem_cons.1 ha with rfl | ha
          · exact h2.mono hpl
          · exact h4 a ha
      rw [List.length_append, List.length_singleton] at hl
      obtain ⟨h1, h2⟩ := key t.ts S (fun u hu => hu) hS ht.kids hr (by omega)
      refine ⟨h1.add h2 ht.node.1 (by rw [keepsP_len]; exact ht.node.2), SvOk.new (by omega), ?_, fun _ => h2⟩
      have := (h1.fresh (by omega)).2
      rwa [keepsP_eq] at this
    · rw [keepP_var hv]
      exact ⟨hS, hS.rep (ht.var hv), hr _, fun h => by cases h⟩
end Go.Proofs.YtkglopdogakfoaaGreatDoor
