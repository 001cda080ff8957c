/- Merged: SymP, Vrt. -/
import Derived.Test.YtkglopdogakfoaaGreatDoorGk
import Derived.Test.YtkglopdogakfoaaGreatDoorGe
import Derived.WalkKit
import Derived.ProofKit
import Derived.OpenShut
import Derived.Handy
import Derived.Lib.Hide
import Derived.Deep.RegionHeld3
import Derived.Test.YtkglopdogakfoaaGreatDoorGg
import Derived.Test.YtkglopdogakfoaaGreatDoorGh
import Derived.Test.YtkglopdogakfoaaGreatDoorGf
import Derived.Test.YtkglopdogakfoaaGreatDoorGi
/- Two most general unifiers of the same terms: the common instances are variants. Plain mathematics. -/
namespace Go.Proofs.YtkglopdogakfoaaGreatDoor
open Go.RowKit

theorem apF_apF (f g : Key → Tm) (t : Tm) : apF f (apF g t) = apF (fun k => apF f (g k)) t := by
  induction t using Tm.ind with
  | h t ih =>
    cases hv : t.vr
    · rw [apF_fun g hv, apF_fun f rfl, apF_fun _ hv]
      show Tm.mk t.nm false ((t.ts.map (apF g)).map (apF f)) = _
      rw [List.map_map]
      congr 1
      exact List.map_congr_left fun u hu => ih u hu
    · rw [apF_var g hv, apF_var _ hv]
theorem apF_grow (f : Key → Tm) {t : Tm} (ht : t.bare) : t.size ≤ (apF f t).size ∧ t.depth ≤ (apF f t).depth := by
  induction t using Tm.ind with
  | h t ih =>
    cases hv : t.vr
    · rw [apF_fun f hv, Tm.size_eq t, Tm.depth_eq t, Tm.size_eq, Tm.depth_eq]
      show 1 + Tm.sizes t.ts ≤ 1 + Tm.sizes (t.ts.map (apF f)) ∧ 1 + Tm.depths t.ts ≤ 1 + Tm.depths (t.ts.map (apF f))
      have key : ∀ l : List Tm, (∀ u ∈ l, u.size ≤ (apF f u).size ∧ u.depth ≤ (apF f u).depth) → Tm.sizes l ≤ Tm.sizes (l.map (apF f)) ∧ Tm.depths l ≤ Tm.depths (l.map (apF f)) := by
        intro l
        induction l with
        | nil => intro _; simp
        | cons x l ihl =>
          intro h
          obtain ⟨h1, h2⟩ := h x (by simp)
          obtain ⟨h3, h4⟩ := ihl fun u hu => h u (by simp [hu])
          simp only [List.map_cons, Tm.sizes, Tm.depths]
          omega
      obtain ⟨h1, h2⟩ := key t.ts fun u hu => ih u hu (ht.kids u hu)
      omega
    · have := ht.vr0 hv
      rw [Tm.size_eq t, Tm.depth_eq t, this]
      simp only [Tm.sizes, Tm.depths]
      rw [Tm.size_eq, Tm.depth_eq]; omega
/-- what stays a term stays its variables -/
theorem apF_stays {g : Key → Tm} {t : Tm} (h : apF g t = t) : ∀ k ∈ t.vs, g k = vrk k ∨ ∃ ts, g k = .mk (kb k) true ts := by
  induction t using Tm.ind with
  | h t ih =>
    intro k hk
    cases hv : t.vr
    · rw [Tm.vs_fun hv, Tm.vss_mem] at hk
      obtain ⟨u, hu, hk⟩ := hk
      rw [apF_fun g hv] at h
      have h2 : t.ts.map (apF g) = t.ts := congrArg Tm.ts h
      have h3 : apF g u = u := by
        obtain ⟨i, hi⟩ := List.getElem?_of_mem hu
        have h4 := congrArg (fun l : List Tm => l[i]?) h2
        simp only [List.getElem?_map, hi, Option.map_some, Option.some.injEq] at h4
        exact h4
      exact ih u hu h3 k hk
    · rw [Tm.vs_var hv] at hk
      obtain rfl := List.mem_singleton.1 hk
      rw [apF_var g hv] at h
      right
      refine ⟨t.ts, ?_⟩
      rw [h, kb_key]
      cases t; simp only [Tm.vr] at hv; subst hv; rfl
theorem firsts_iff (t : Tm) : ∀ (ss : List Key) (x : Key), x ∈ firsts ss t ↔ x ∈ ss ∨ x ∈ t.vs := by
  induction t using Tm.ind with
  | h t ih =>
    intro ss x
    cases hv : t.vr
    · rw [firsts_fun ss hv, Tm.vs_fun hv]
      have key : ∀ (l : List Tm) (ss : List Key), (∀ u ∈ l, u ∈ t.ts) → (x ∈ firstsL ss l ↔ x ∈ ss ∨ x ∈ Tm.vss l) := by
        intro l
        induction l with
        | nil => intro ss _; simp [firstsL, Tm.reps, Tm.vss]
        | cons y l ihl =>
          intro ss hs
          rw [firstsL_cons, ihl _ fun u hu => hs u (by simp [hu]), ih y (hs y (by simp)), Tm.vss, List.mem_append, or_assoc]
      exact key t.ts ss fun u hu => hu
    · rw [firsts_var ss hv, Tm.vs_var hv, addKey_iff]; simp
theorem apF_ren {f : Key → Tm} {g : Key → ByteArray} {t : Tm} (h : ∀ k ∈ t.vs, f k = .mk (g k) true []) : apF f t = ren g t := by
  induction t using Tm.ind with
  | h t ih =>
    cases hv : t.vr
    · rw [apF_fun f hv, ren_fun g hv, rens_eq, List.map_congr_left fun u hu => ih u hu fun k hk => h k (Tm.vs_kid hv hu hk)]
    · rw [apF_var f hv, ren_var g hv]; exact h _ (by rw [Tm.vs_var hv]; simp)
/-- renaming one to one keeps the canonical form -/
theorem canon_of_ren {g : Key → ByteArray} {t : Tm} (hg : ∀ a ∈ t.vs, ∀ b ∈ t.vs, g a = g b → a = b) : canon (ren g t) = canon t := by
  have hg' : ∀ a ∈ firsts [] t, ∀ b ∈ firsts [] t, g a = g b → a = b := fun a ha b hb => hg a (((firsts_iff t [] a).1 ha).resolve_left (by simp)) b (((firsts_iff t [] b).1 hb).resolve_left (by simp))
  have hf : firsts [] (ren g t) = (firsts [] t).map fun k => (g k).data.toList := firsts_ren g (firsts [] t) hg' t [] (List.prefix_refl _)
  rw [canon_ren (ren g t), canon_ren t, ren_ren, hf]
  refine ren_congr t [] fun k hk => ?_
  show xname digN (((firsts [] t).map fun k => (g k).data.toList).idxOf (g k).data.toList) = _
  rw [idx_map (f := fun k => (g k).data.toList) (firsts [] t) (fun a ha b hb e => hg' a ha b hb (bytes_ext e)) k hk]

section
variable {a b : Tm} {S T : Sv} {rk rl : Key → Nat}
theorem Mgu.bare (h : Mgu a b S rk) (k : Key) : (res S rk k).bare := by
  refine h.ind (P := fun k => (res S rk k).bare) (fun k hg => ?_) (fun k t hg ih => ?_) k
  · rw [res_var hg]; exact .mk _ (fun _ => rfl) fun u hu => by cases hu
  · rw [res_fun h.acy h.fixp hg]
    refine .mk _ (fun e => by cases e) fun u hu => ?_
    obtain ⟨v, hv, rfl⟩ := List.mem_map.1 (show u ∈ t.ts.map fun u => res S rk u.nm.data.toList from hu)
    exact ih v hv
theorem Mgu.fits (h : Mgu a b S rk) (ha : a.formed) (hb : b.formed) : FitS S rk ↔ ∀ k ∈ a.vs ++ b.vs, (res S rk k).size ≤ 4000 ∧ (res S rk k).depth ≤ 200 := by
  refine ⟨fun hf k hk => ?_, fun hf x h1 h2 => ?_⟩
  · by_cases he : k ∈ S.eq.map (·.1)
    · exact hf k he (h.notbd ha hb hk)
    · rw [h.fixed he (h.notbd ha hb hk)]
      simp [vrk, Tm.size, Tm.sizes, Tm.depth, Tm.depths]
  · obtain ⟨p, hp, rfl⟩ := List.mem_map.1 h1
    exact hf _ ((h.nin.eqs p hp).1.resolve_right h2)
theorem Mgu.swap_le (h : Mgu a b S rk) (k : Mgu b a T rl) (ha : a.formed) (hb : b.formed) {x : Key} (hx : x ∈ a.vs ++ b.vs) : (res S rk x).size ≤ (res T rl x).size ∧ (res S rk x).depth ≤ (res T rl x).depth := by
  have := apF_grow (res T rl) (h.bare x)
  rwa [h.most ha hb k.uni.symm hx] at this
theorem vs_comm {x : Key} : x ∈ a.vs ++ b.vs ↔ x ∈ b.vs ++ a.vs := by rw [List.mem_append, List.mem_append, or_comm]
theorem Mgu.fits_swap (h : Mgu a b S rk) (k : Mgu b a T rl) (ha : a.formed) (hb : b.formed) : FitS S rk ↔ FitS T rl := by
  rw [h.fits ha hb, k.fits hb ha]
  refine ⟨fun hf x hx => ?_, fun hf x hx => ?_⟩
  · have h1 := hf x (vs_comm.2 hx)
    have h2 := k.swap_le h hb ha hx
    omega
  · have h1 := hf x (vs_comm.1 hx)
    have h2 := h.swap_le k ha hb hx
    omega
/-- the common instances are variants of each other -/
theorem Mgu.variants (h : Mgu a b S rk) (k : Mgu b a T rl) (ha : a.formed) (hb : b.formed) : canon (apF (res S rk) a) = canon (apF (res T rl) a) := by
  have e1 : apF (res T rl) (apF (res S rk) a) = apF (res T rl) a := by
    rw [apF_apF]; exact apF_congr fun x hx => h.most ha hb k.uni.symm (List.mem_append.2 (.inl hx))
  have e2 : apF (res S rk) (apF (res T rl) a) = apF (res S rk) a := by
    rw [apF_apF]; exact apF_congr fun x hx => k.most hb ha h.uni.symm (List.mem_append.2 (.inr hx))
  have e3 : apF (fun x => apF (res S rk) (res T rl x)) (apF (res S rk) a) = apF (res S rk) a := by rw [← apF_apF, e1, e2]
  have h3 : ∀ x ∈ (apF (res S rk) a).vs, ∃ n : ByteArray, res T rl x = .mk n true [] ∧ res S rk n.data.toList = vrk x := by
    intro x hx
    have h5 : ∃ ts, apF (res S rk) (res T rl x) = .mk (kb x) true ts := by
      rcases apF_stays e3 x hx with h6 | h6
      · exact ⟨[], h6⟩
      · exact h6
    obtain ⟨ts, h5⟩ := h5
    have hbr := k.bare x
    cases hv : (res T rl x).vr with
    | false => rw [apF_fun _ hv] at h5; exact absurd (congrArg Tm.vr h5) (by show ¬ (false = true); simp)
    | true =>
      have h0 := hbr.vr0 hv
      have h7 : res T rl x = .mk (res T rl x).nm true [] := by
        generalize res T rl x = t at hv h0
        cases t; simp only [Tm.vr, Tm.ts] at hv h0; subst hv; subst h0; rfl
      refine ⟨(res T rl x).nm, h7, ?_⟩
      rw [apF_var _ hv] at h5
      have h8 := (h.bare (res T rl x).nm.data.toList).vr0 (by rw [h5]; rfl)
      rw [h5] at h8
      rw [h5]
      show Tm.mk (kb x) true ts = .mk (kb x) true []
      rw [show ts = [] from h8]
  obtain ⟨g, hg⟩ : ∃ g : Key → ByteArray, ∀ x, g x = (res T rl x).nm := ⟨_, fun _ => rfl⟩
  have h4 : ∀ x ∈ (apF (res S rk) a).vs, res T rl x = .mk (g x) true [] ∧ res S rk (g x).data.toList = vrk x := fun x hx => by
    obtain ⟨n, h5, h6⟩ := h3 x hx
    rw [hg, h5]
    exact ⟨rfl, h6⟩
  rw [← e1, apF_ren (g := g) fun x hx => (h4 x hx).1, canon_of_ren]
  intro x hx y hy e
  have h5 := (h4 x hx).2
  rw [e, (h4 y hy).2] at h5
  have := congrArg Tm.nm h5
  exact (kb_inj.1 this).symm
theorem Mgu.inst (h : Mgu a b S rk) (ha : a.formed) (hb : b.formed) {L : List Key} (hL : Chg S L) : apB (subS S rk L) a = apF (res S rk) a := h.apB_vars ha hb hL fun _ hk => List.mem_append.2 (.inl hk)
theorem Mgu.inst' (k : Mgu b a T rl) (ha : a.formed) (hb : b.formed) {L : List Key} (hL : Chg T L) : apB (subS T rl L) a = apF (res T rl) a := k.apB_vars hb ha hL fun _ hx => List.mem_append.2 (.inr hx)
end
end Go.Proofs.YtkglopdogakfoaaGreatDoor
/- The reference's Canonical and Variant. -/
namespace Go.Proofs.YtkglopdogakfoaaGreatDoor
open Go.RowKit

/-- a formed term's arguments do not lie in a zero term's box -/
theorem SlIs.notin {n c : Nat} {W : World} {l : List Tm} {s : Value} (h : SlIs n W l s) (hc : W.heap[c]? = some (.cells #[.string ⟨#[]⟩, .bool false, .slice none 0 0] 25 (0, 0))) (hf : ∀ u ∈ l, u.formed) : SlP (fun b => b < n ∧ b ≠ c) W l s := by
  induction h with
  | nil0 => exact .nil0
  | nil1 a cap => exact .nil1 a cap
  | row b o cap l s hl hb hcap cells hk hfz ih =>
    refine .row b o cap l s hl ⟨hb, ?_⟩ hcap cells (fun i t ht => ih i t ht fun u hu => ((Tm.formed_iff t).1 (hf t (List.mem_of_getElem? ht))).2 u hu) hfz
    rintro rfl
    obtain ⟨t, ht⟩ : ∃ t, l[0]? = some t := by cases l with
      | nil => exact absurd rfl hl
      | cons t l => exact ⟨t, rfl⟩
    have h1 := (cells 0 t ht).1
    rw [cells_of' hc] at h1
    have hn : t.nm ≠ ⟨#[]⟩ := fun e => by
      have h2 := ((Tm.formed_iff t).1 (hf t (List.mem_of_getElem? ht))).1
      rw [e] at h2
      unfold nodeOk at h2
      split at h2
      · rw [show isName ⟨#[]⟩ false = false by decide] at h2; simp at h2
      · rw [show isName ⟨#[]⟩ true = false by decide] at h2; simp at h2
    rcases o with _ | _ | _ | o
    · simp only [Nat.zero_add, Nat.zero_mul, List.getElem?_toArray, List.getElem?_cons_zero, Option.some.injEq, Value.string.injEq] at h1; exact hn h1.symm
    · simp at h1
    · simp at h1
    · simp at h1
set_option maxRecDepth 100000 in
set_option maxHeartbeats 4000000 in
theorem rcanonical_any (t : Tm) (hok : t.ok) (s : Value) (w : World) (hs : SlIs w.heap.size w t.ts s) (hb : t.bulk ≤ 1048576) :
    Calls Tryz.prog 73 #[tmv t s] w fun e w' => (∃ sl, e = .returned (tmv (canon t) sl) ∧ SlIs w'.heap.size w' (canon t).ts sl) ∧ Below w.heap.size w w' := by
  obtain ⟨oa, ca, rfl, -⟩ := hs.form
  have hA : Below w.heap.size w ((w.alloc (.cells #[.string t.nm, .bool t.vr, .slice oa t.ts.length ca] 25)).alloc (.cells #[.string ⟨#[]⟩, .bool false, .slice none 0 0] 25)) := by go_grown
  have hA2 := (Below.refl _ (w.alloc (.cells #[.string t.nm, .bool t.vr, .slice oa t.ts.length ca] 25))).alloc (Nat.le_refl _) (.cells #[.string ⟨#[]⟩, .bool false, .slice none 0 0] 25)
  have HT : Hid (TBx ((w.alloc (.cells #[.string t.nm, .bool t.vr, .slice oa t.ts.length ca] 25)).alloc (.cells #[.string ⟨#[]⟩, .bool false, .slice none 0 0] 25)) w.heap.size t (.slice oa t.ts.length ca)) := Lib.hid ((TBx.new (t := t) hs).carry hA2)
  have HR : Hid (((w.alloc (.cells #[.string t.nm, .bool t.vr, .slice oa t.ts.length ca] 25)).alloc (.cells #[.string ⟨#[]⟩, .bool false, .slice none 0 0] 25)).heap[w.heap.size + 1]? = some (.cells #[.string ⟨#[]⟩, .bool false, .slice none 0 0] 25 (0, 0))) := Lib.hid (heap_new_at _ _ _ (by simp))
  have hlen := firsts_length t []
  have hsz := hok.2.1
  have HCF := Lib.hid (((Tm.formed_iff _).1 (canon_ok hok).1).2)
  clear hok
  have HNM := Lib.hid (firsts_names t [] (by simp) hb)
  have HA := Lib.hid hA
  clear hs hA hA2
  go_enter Tryz.func73, Tryz.ntmps73
  go_wp2_with fail
  generalize ((w.alloc (.cells #[.string t.nm, .bool t.vr, .slice oa t.ts.length ca] 25)).alloc (.cells #[.string ⟨#[]⟩, .bool false, .slice none 0 0] 25)) = W0 at HT HR HA ⊢
  obtain ⟨⟨x0, x1, x2⟩, -⟩ := box3 HT.out.box
  have HT0 := Lib.hid (HT.out.carry (Below.refl _ W0).drew)
  have HA0 := Lib.hid (HA.out.trans ((Below.refl _ W0).drew.mono HA.out.size))
  have HR0 := Lib.hid (((Below.refl W0.heap.size W0).drew.block (w.heap.size + 1) (Array.getElem?_eq_some_iff.1 HR.out).1).trans HR.out)
  clear HT HA HR
  simp only [List.length_nil, Nat.zero_add] at hlen
  go_region_held3 (fun w' => w'.cell? ⟨w.heap.size, 0, none⟩ = some (.string t.nm) ∧ w'.cell? ⟨w.heap.size, 1, none⟩ = some (.bool t.vr) ∧ w'.cell? ⟨w.heap.size, 2, none⟩ = some (.slice oa t.ts.length ca)) (go_keep) ((first
    | (go_at_call 32
       refine (rapply_any bl2 _ _ HLB2.out t _ _ (Nat.le_refl _) HBI2.out HT2.out.is hb).mono ?_
       rintro e w3 ⟨⟨sl3, rfl, h3⟩, hb3⟩
       rw [HCN2.out] at h3 ⊢
       have h3 := h3.lt.toIs fun b hb => hb.2
       obtain ⟨o3, c3, rfl, -⟩ := h3.form
       dsimp only [tmv]
       have HX3 := Lib.hid h3
       have HT3 := Lib.hid (HT2.out.carry hb3)
       have HA3 := Lib.hid (HA2.out.trans (hb3.mono HA2.out.size))
       have HR3 := Lib.hid ((hb3.block _ (Array.getElem?_eq_some_iff.1 HR2.out).1).trans HR2.out)
       obtain ⟨⟨x0, x1, x2⟩, -⟩ := box3 HT3.out.box
       obtain ⟨⟨r0, r1, r2⟩, f0, f1, f2⟩ := box3 HR3.out
       clear h3 hb3)
    | (go_at_call 118
       refine (rrenaming_any (firsts [] t) _ _ HL1.out (by omega) HNM.out).mono ?_
       rintro e w2 ⟨⟨v2, bl2, rfl, hbi, hlb, hsay, hall⟩, hb2⟩
       have hbi' := hbi
       obtain ⟨o2, c2, rfl, -⟩ := hbi'
       have HBI2 := Lib.hid hbi
       have HLB2 := Lib.hid hlb
       have HCN2 := Lib.hid (apB_canon bl2 t hsay hall)
       have HT2 := Lib.hid (HT1.out.carry hb2)
       have HA2 := Lib.hid (HA1.out.trans (hb2.mono HA1.out.size))
       have HR2 := Lib.hid ((hb2.block _ (Array.getElem?_eq_some_iff.1 HR1.out).1).trans HR1.out)
       obtain ⟨⟨x0, x1, x2⟩, -⟩ := box3 HT2.out.box
       clear hbi hlb hsay hall hb2)
    | (go_at_call 119
       refine (rfirst_any t _ _ [] _ HT0.out.is (StrIs.nil _ _) hb (by simp; omega)).mono ?_
       rintro e w1 ⟨⟨v1, rfl, h1⟩, hb1⟩
       have h1' := h1
       obtain ⟨o1, c1, rfl, -⟩ := h1'
       have HL1 := Lib.hid h1
       have HT1 := Lib.hid (HT0.out.carry hb1)
       have HA1 := Lib.hid (HA0.out.trans (hb1.mono HA0.out.size))
       have HR1 := Lib.hid ((hb1.block _ (Array.getElem?_eq_some_iff.1 HR0.out).1).trans HR0.out)
       obtain ⟨⟨x0, x1, x2⟩, -⟩ := box3 HT1.out.box
       clear hb1 h1)))
  go_wp2_with fail
  have hq := box3_set HR3.out (.string (canon t).nm) (.bool (canon t).vr) (.slice o3 (canon t).ts.length c3)
  obtain ⟨⟨q0, q1, q2⟩, -⟩ := box3 hq
  have hz3 := (Array.getElem?_eq_some_iff.1 HR3.out).1
  have hbf := below_set3 HA3.out (show w.heap.size ≤ w.heap.size + 1 by omega) (.string (canon t).nm) (.bool (canon t).vr) (.slice o3 (canon t).ts.length c3)
  refine bodyPost_ret (v := tmv (canon t) (.slice o3 (canon t).ts.length c3)) (by simp [results, Tryz.f73, go_sem, q0, q1, q2, tmv]) rfl ?_
  exact ⟨⟨_, rfl, ((HX3.out.notin HR3.out HCF.out).carry (q := fun b => b < w3.heap.size) fun b hb => ⟨heap_set3 w3 (w.heap.size + 1) b _ _ _ hb.2, hb.1⟩).toIs fun b hb => by simpa using hb⟩, hbf⟩

set_option maxRecDepth 100000 in
set_option maxHeartbeats 4000000 in
theorem rvariant_any (a b : Tm) (sa sb : Value) (w : World) (hsa : SlIs w.heap.size w a.ts sa) (hsb : SlIs w.heap.size w b.ts sb) (hoa : a.ok) (hob : b.ok) :
    Calls Tryz.prog 34 #[tmv a sa, tmv b sb] w fun e w' => (∃ x : Bool, e = .returned (.bool x) ∧ (x = true ↔ canon a = canon b)) ∧ Below w.heap.size w w' := by
  obtain ⟨oa, ca, rfl, -⟩ := hsa.form
  obtain ⟨ob, cb, rfl, -⟩ := hsb.form
  have hb0 : Below w.heap.size w ((w.alloc (.cells #[.string a.nm, .bool a.vr, .slice oa a.ts.length ca] 25)).alloc (.cells #[.string b.nm, .bool b.vr, .slice ob b.ts.length cb] 25)) := by go_grown
  have hA2 := (Below.refl _ (w.alloc (.cells #[.string a.nm, .bool a.vr, .slice oa a.ts.length ca] 25))).alloc (Nat.le_refl _) (.cells #[.string b.nm, .bool b.vr, .slice ob b.ts.length cb] 25)
  have HTA : Hid (TBx ((w.alloc (.cells #[.string a.nm, .bool a.vr, .slice oa a.ts.length ca] 25)).alloc (.cells #[.string b.nm, .bool b.vr, .slice ob b.ts.length cb] 25)) w.heap.size a (.slice oa a.ts.length ca)) := Lib.hid ((TBx.new (t := a) hsa).carry hA2)
  have HTB : Hid (TBx ((w.alloc (.cells #[.string a.nm, .bool a.vr, .slice oa a.ts.length ca] 25)).alloc (.cells #[.string b.nm, .bool b.vr, .slice ob b.ts.length cb] 25)) (w.heap.size + 1) b (.slice ob b.ts.length cb)) := Lib.hid ⟨heap_new_at _ _ _ (by simp), hsb.carry hb0 hb0.size⟩
  have HW := Lib.hid hb0
  have HOA := Lib.hid hoa
  have HOB := Lib.hid hob
  have hba : a.bulk ≤ 1048576 := by have := hoa.bulk; omega
  have hbb : b.bulk ≤ 1048576 := by have := hob.bulk; omega
  have hca : (canon a).bulk ≤ 1048576 := by have := (canon_ok hoa).bulk; omega
  have hcb : (canon b).bulk ≤ 1048576 := by have := (canon_ok hob).bulk; omega
  clear hsa hsb hb0 hA2 hoa hob
  go_enter Tryz.func34, Tryz.ntmps34
  rw [show tmv a (.slice oa a.ts.length ca) = .agg #[.string a.nm, .bool a.vr, .slice oa a.ts.length ca] from rfl, show tmv b (.slice ob b.ts.length cb) = .agg #[.string b.nm, .bool b.vr, .slice ob b.ts.length cb] from rfl]
  go_wp2_with fail
  generalize ((w.alloc (.cells #[.string a.nm, .bool a.vr, .slice oa a.ts.length ca] 25)).alloc (.cells #[.string b.nm, .bool b.vr, .slice ob b.ts.length cb] 25)) = W0 at HW HTA HTB ⊢
  obtain ⟨⟨x0, x1, x2⟩, -⟩ := box3 HTA.out.box
  obtain ⟨⟨y0, y1, y2⟩, -⟩ := box3 HTB.out.box
  have HTA0 := Lib.hid (HTA.out.carry (Below.refl _ W0).drew)
  have HTB0 := Lib.hid (HTB.out.carry (Below.refl _ W0).drew)
  have HW0 := Lib.hid (HW.out.trans ((Below.refl _ W0).drew.mono HW.out.size))
  clear HTA HTB HW
  go_region_held3 (fun w' => w'.cell? ⟨w.heap.size, 0, none⟩ = some (.string a.nm) ∧ w'.cell? ⟨w.heap.size, 1, none⟩ = some (.bool a.vr) ∧ w'.cell? ⟨w.heap.size, 2, none⟩ = some (.slice oa a.ts.length ca) ∧ w'.cell? ⟨w.heap.size + 1, 0, none⟩ = some (.string b.nm) ∧ w'.cell? ⟨w.heap.size + 1, 1, none⟩ = some (.bool b.vr) ∧ w'.cell? ⟨w.heap.size + 1, 2, none⟩ = some (.slice ob b.ts.length cb)) (go_keep) ((first
    | (go_at_call 12
       refine (requal_any (canon a) (canon b) _ _ _ hca hcb HXA2.out HXB2.out).mono ?_
       rintro e w3 ⟨⟨x3, rfl, h3⟩, hb3⟩
       have HR3 := Lib.hid h3
       have HTA3 := Lib.hid (HTA2.out.carry hb3); have HTB3 := Lib.hid (HTB2.out.carry hb3); have HW3 := Lib.hid (HW2.out.trans (hb3.mono HW2.out.size)); obtain ⟨⟨x0, x1, x2⟩, -⟩ := box3 HTA3.out.box; obtain ⟨⟨y0, y1, y2⟩, -⟩ := box3 HTB3.out.box
       clear hb3 h3)
    | (go_at_call 73
       refine (rcanonical_any b HOB.out _ _ HTB1.out.is hbb).mono ?_
       rintro e w2 ⟨⟨sl2, rfl, h2⟩, hb2⟩
       obtain ⟨o2, c2, rfl, -⟩ := h2.form
       dsimp only [tmv]
       have HXB2 := Lib.hid h2
       have HXA2 := Lib.hid (HXA1.out.carry hb2 hb2.size)
       have HTA2 := Lib.hid (HTA1.out.carry hb2); have HTB2 := Lib.hid (HTB1.out.carry hb2); have HW2 := Lib.hid (HW1.out.trans (hb2.mono HW1.out.size)); obtain ⟨⟨x0, x1, x2⟩, -⟩ := box3 HTA2.out.box; obtain ⟨⟨y0, y1, y2⟩, -⟩ := box3 HTB2.out.box
       clear hb2 h2)
    | (go_at_call 73
       refine (rcanonical_any a HOA.out _ _ HTA0.out.is hba).mono ?_
       rintro e w1 ⟨⟨sl1, rfl, h1⟩, hb1⟩
       obtain ⟨o1, c1, rfl, -⟩ := h1.form
       dsimp only [tmv]
       have HXA1 := Lib.hid h1
       have HTA1 := Lib.hid (HTA0.out.carry hb1); have HTB1 := Lib.hid (HTB0.out.carry hb1); have HW1 := Lib.hid (HW0.out.trans (hb1.mono HW0.out.size)); obtain ⟨⟨x0, x1, x2⟩, -⟩ := box3 HTA1.out.box; obtain ⟨⟨y0, y1, y2⟩, -⟩ := box3 HTB1.out.box
       clear hb1 h1)))
  go_wp2_with fail
  go_ret
  exact ⟨⟨x3, rfl, HR3.out⟩, HW3.out⟩
end Go.Proofs.YtkglopdogakfoaaGreatDoor
