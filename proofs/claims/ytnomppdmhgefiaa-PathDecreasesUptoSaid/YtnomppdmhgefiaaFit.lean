/- What fits measures: plain facts; look-ups in the map of images. fits: does the term with its bindings applied stay small? -/
import Derived.Maps.OwnIn
import Derived.Test.YtnomppdmhgefiaaSub
import Derived.Test.YtnomppdmhgefiaaRnp
namespace Go.Proofs.Ytnomppdmhgefiaa
open Go.RowKit Go.Maps

/-- a node's part of the size and of the depth of what is built -/
def szV (bl : List Bd) (v : View) : Nat := if v.2.2.1 then (imageOf bl v.2.1.data.toList).size else 1
def dpV (bl : List Bd) (v : View) : Nat := v.1 - 1 + (if v.2.2.1 then (imageOf bl v.2.1.data.toList).depth else 1)
def szs (bl : List Bd) (l : List View) : Nat := (l.map (szV bl)).sum
def dps (bl : List Bd) (l : List View) : Nat := l.foldl (fun a v => max a (dpV bl v)) 0
theorem szs_snoc (bl : List Bd) (l : List View) (v : View) : szs bl (l ++ [v]) = szs bl l + szV bl v := by simp [szs]
theorem dps_snoc (bl : List Bd) (l : List View) (v : View) : dps bl (l ++ [v]) = max (dps bl l) (dpV bl v) := by simp [dps]
theorem szs_append (bl : List Bd) (l r : List View) : szs bl (l ++ r) = szs bl l + szs bl r := by simp [szs]
theorem foldl_dp (bl : List Bd) (l : List View) (a : Nat) : l.foldl (fun a v => max a (dpV bl v)) a = max a (dps bl l) := by
  unfold dps
  induction l generalizing a with
  | nil => simp
  | cons x l ih => rw [List.foldl_cons, List.foldl_cons, ih, ih (max 0 (dpV bl x))]; omega
theorem dps_append (bl : List Bd) (l r : List View) : dps bl (l ++ r) = max (dps bl l) (dps bl r) := by
  rw [dps, List.foldl_append, foldl_dp]; rfl
theorem dps_cons (bl : List Bd) (v : View) (l : List View) : dps bl (v :: l) = max (dpV bl v) (dps bl l) := by
  rw [dps, List.foldl_cons, foldl_dp]; simp
theorem szs_cons (bl : List Bd) (v : View) (l : List View) : szs bl (v :: l) = szV bl v + szs bl l := by simp [szs]
/-- the whole: size and depth of the term with its bindings applied -/
theorem grown_is (bl : List Bd) {t : Tm} (h : t.bare) : ∀ d, szs bl (t.nodes (d + 1)) = (apB bl t).size ∧ dps bl (t.nodes (d + 1)) = d + (apB bl t).depth := by
  induction t using Tm.ind with
  | h t ih =>
    intro d
    rw [Tm.nodes_eq, szs_cons, dps_cons]
    cases hv : t.vr
    · rw [apB_fun bl hv, Tm.size_eq, Tm.depth_eq, show (Tm.mk t.nm false (t.ts.map (apB bl))).ts = t.ts.map (apB bl) from rfl,
        show szV bl (d + 1, t.nm, false, t.ts.length) = 1 from rfl, show dpV bl (d + 1, t.nm, false, t.ts.length) = d + 1 from rfl]
      have key : ∀ l : List Tm, (∀ u ∈ l, ∀ d, szs bl (u.nodes (d + 1)) = (apB bl u).size ∧ dps bl (u.nodes (d + 1)) = d + (apB bl u).depth) →
          szs bl (Tm.nodesL (d + 1 + 1) l) = Tm.sizes (l.map (apB bl)) ∧ (l ≠ [] → dps bl (Tm.nodesL (d + 1 + 1) l) = d + 1 + Tm.depths (l.map (apB bl))) ∧ (l = [] → dps bl (Tm.nodesL (d + 1 + 1) l) = 0) := by
        intro l hl
        induction l with
        | nil => exact ⟨rfl, fun h => absurd rfl h, fun _ => rfl⟩
        | cons x l ihl =>
          have h1 := hl x (by simp) (d + 1)
          obtain ⟨h2, h3, h4⟩ := ihl fun u hu => hl u (by simp [hu])
          simp only [Tm.nodesL, List.map_cons, Tm.sizes, Tm.depths, szs_append, dps_append, h1.1, h1.2, h2]
          refine ⟨trivial, fun _ => ?_, fun h => by cases h⟩
          by_cases e : l = []
          · rw [h4 e]; subst e; simp [Tm.depths]
          · rw [h3 e]; omega
      obtain ⟨h2, h3, h4⟩ := key t.ts fun u hu => ih u hu (h.kids u hu)
      rw [h2]
      refine ⟨rfl, ?_⟩
      by_cases e : t.ts = []
      · rw [h4 e, e]; simp [Tm.depths]
      · rw [h3 e]; omega
    · rw [h.vr0 hv, apB_var bl hv]
      simp [szV, dpV, Tm.nodesL, szs, dps]
/-- the same with integers -/
def dpI (bl : List Bd) (v : View) : Int := (v.1 : Int) - 1 + ((if v.2.2.1 then (imageOf bl v.2.1.data.toList).depth else 1 : Nat) : Int)
def dpsI (bl : List Bd) (l : List View) : Int := l.foldl (fun a v => max a (dpI bl v)) 0
theorem dpsI_snoc (bl : List Bd) (l : List View) (v : View) : dpsI bl (l ++ [v]) = max (dpsI bl l) (dpI bl v) := by simp [dpsI]
theorem dpsI_eq (bl : List Bd) (l : List View) (h : ∀ v ∈ l, 1 ≤ v.1) : dpsI bl l = (dps bl l : Nat) := by
  have key : ∀ (l : List View) (a : Nat), (∀ v ∈ l, 1 ≤ v.1) → l.foldl (fun a v => max a (dpI bl v)) (a : Int) = ((l.foldl (fun a v => max a (dpV bl v)) a : Nat) : Int) := by
    intro l
    induction l with
    | nil => intro a _; rfl
    | cons x l ih =>
      intro a h
      rw [List.foldl_cons, List.foldl_cons, ← ih _ fun v hv => h v (by simp [hv])]
      congr 1
      have := h x (by simp)
      show max (a : Int) (dpI bl x) = ((max a (dpV bl x) : Nat) : Int)
      unfold dpI dpV
      omega
  exact key l 0 h
theorem nodes_ge (t : Tm) : ∀ d, ∀ v ∈ t.nodes d, d ≤ v.1 := by
  induction t using Tm.ind with
  | h t ih =>
    intro d v hv
    rw [Tm.nodes_eq] at hv
    rcases List.mem_cons.1 hv with rfl | hv
    · exact Nat.le_refl _
    · obtain ⟨x, hx, hv⟩ := Tm.nodesL_mem hv
      have := ih x hx (d + 1) v hv
      omega
theorem dpsI_nonneg (bl : List Bd) (l : List View) : 0 ≤ dpsI bl l := by
  have key : ∀ (l : List View) (a : Int), 0 ≤ a → 0 ≤ l.foldl (fun a v => max a (dpI bl v)) a := by
    intro l
    induction l with
    | nil => intro a h; exact h
    | cons x l ih => intro a h; rw [List.foldl_cons]; exact ih _ (by omega)
  exact key l 0 (by omega)
theorem imageOf_size {bl : List Bd} (h : SubOk bl) (k : Key) : (imageOf bl k).size ≤ 4000 ∧ (imageOf bl k).depth ≤ 200 := by
  unfold imageOf
  cases hf : bl.find? (fun p => decide (p.1 = k)) with
  | none => exact ⟨by simp [Tm.size, Tm.sizes], by simp [Tm.depth, Tm.depths]⟩
  | some p => exact (h.terms p (List.mem_of_find?_eq_some hf)).2
theorem szs_le {bl : List Bd} (h : SubOk bl) (l : List View) : szs bl l ≤ 4000 * l.length := by
  induction l with
  | nil => simp [szs]
  | cons v l ih =>
    rw [szs_cons, List.length_cons, Nat.mul_succ]
    have : szV bl v ≤ 4000 := by unfold szV; split; exact (imageOf_size h _).1; omega
    omega
theorem dps_le {bl : List Bd} (h : SubOk bl) (l : List View) (k : Nat) (hl : ∀ v ∈ l, v.1 ≤ k) : dps bl l ≤ k + 200 := by
  induction l with
  | nil => simp [dps]
  | cons v l ih =>
    rw [dps_cons]
    have h1 := ih fun u hu => hl u (by simp [hu])
    have h2 := hl v (by simp)
    have : dpV bl v ≤ k + 200 := by unfold dpV; split; have := (imageOf_size h v.2.1.data.toList).2; omega; omega
    omega
theorem dpsI_le {bl : List Bd} (h : SubOk bl) (l : List View) (k : Nat) (hl : ∀ v ∈ l, v.1 ≤ k) : dpsI bl l ≤ k + 200 := by
  have key : ∀ (l : List View) (a : Int), (∀ v ∈ l, v.1 ≤ k) → a ≤ k + 200 → l.foldl (fun a v => max a (dpI bl v)) a ≤ k + 200 := by
    intro l
    induction l with
    | nil => intro a _ h; exact h
    | cons x l ih =>
      intro a hl ha
      rw [List.foldl_cons]
      refine ih _ (fun v hv => hl v (by simp [hv])) ?_
      have h2 := hl x (by simp)
      have : dpI bl x ≤ k + 200 := by
        unfold dpI
        split
        · have := (imageOf_size h x.2.1.data.toList).2; omega
        · omega
      omega
  exact key l 0 hl (by omega)
theorem imageOf_in {bl : List Bd} (hn : (bl.map (·.1)).Nodup) {p : Bd} (hp : p ∈ bl) : imageOf bl p.1 = p.2 := by
  refine imageOf_of ⟨p, hp, rfl⟩ fun q hq e => ?_
  induction bl with
  | nil => cases hp
  | cons x l ih =>
    rw [List.map_cons, List.nodup_cons] at hn
    rcases List.mem_cons.1 hp with hp1 | hp2
    · rcases List.mem_cons.1 hq with hq1 | hq2
      · rw [hp1, hq1]
      · exact absurd (List.mem_map.2 ⟨q, hq2, by rw [e, hp1]⟩) hn.1
    · rcases List.mem_cons.1 hq with hq1 | hq2
      · exact absurd (List.mem_map.2 ⟨p, hp2, by rw [← e, hq1]⟩) hn.1
      · exact ih hn.2 hp2 hq2
theorem imageOf_out {bl : List Bd} {k : Key} (h : k ∉ bl.map (·.1)) : imageOf bl k = .mk (kb k) true [] := imageOf_miss fun q hq e => h (List.mem_map.2 ⟨q, hq, e⟩)

abbrev zImg : Value := .agg #[.string ⟨#[]⟩, .bool false, .slice none 0 0, .int .i64 0, .int .i64 0]
section
variable {w : World} {ops : Array Oper} {rest : List Oper} {o : Oper} {a : Act} {Q : Exit → Act → World → Prop} {F : Fence} {nF : Nat}
end
end Go.Proofs.Ytnomppdmhgefiaa
namespace Go.Proofs.Ytnomppdmhgefiaa
open Go.RowKit Go.Shelf
attribute [local go_sem] Oper.semAt_some

end Go.Proofs.Ytnomppdmhgefiaa
