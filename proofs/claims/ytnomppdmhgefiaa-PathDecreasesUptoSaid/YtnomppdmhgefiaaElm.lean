/- Bindings being appended, each with a term in new memory. -/
import Derived.WalkKit
import Derived.ProofKit
import Derived.Test.YtnomppdmhgefiaaRnp
import Derived.Test.YtnomppdmhgefiaaFit
namespace Go.Proofs.Ytnomppdmhgefiaa
open Go.RowKit

/-- a binding as it lies: its name, its term, the slice of the term's arguments -/
abbrev Elem := Bd × (Option Addr × Nat × Nat)
instance : Inhabited Elem := ⟨(([], .mk ⟨#[]⟩ true []), (none, 0, 0))⟩
def Elem.sl (x : Elem) : Value := .slice x.2.1 x.2.2.1 x.2.2.2
def encE (x : Elem) : List Value := [.string (kb x.1.1), .string x.1.2.nm, .bool x.1.2.vr, .slice x.2.1 x.2.2.1 x.2.2.2]
def ecells (l : List Elem) : List Value := l.flatMap encE
theorem ecells_append (a b : List Elem) : ecells (a ++ b) = ecells a ++ ecells b := by simp [ecells]
theorem ecells_length (a : List Elem) : (ecells a).length = a.length * 4 := by
  induction a with
  | nil => rfl
  | cons p a ih => simp [ecells, encE] at ih ⊢; omega
theorem ecells_at (l : List Elem) (i c : Nat) (x : Elem) (h : l[i]? = some x) (hc : c < 4) : (ecells l)[i * 4 + c]? = (encE x)[c]? := by
  induction l generalizing i with
  | nil => simp at h
  | cons q l ih =>
    cases i with
    | zero =>
      simp at h; subst h
      rw [show ecells (q :: l) = encE q ++ ecells l from rfl, Nat.zero_mul, Nat.zero_add, List.getElem?_append_left (by show c < 4; exact hc)]
    | succ i =>
      rw [show ecells (q :: l) = encE q ++ ecells l from rfl, List.getElem?_append_right (by show 4 ≤ _; omega), show (i + 1) * 4 + c - (encE q).length = i * 4 + c by show (i + 1) * 4 + c - 4 = _; omega]
      exact ih i (by simpa using h)
/-- the elements that have been made -/
structure CmpSt (w W : World) (v : Value) (es : List Elem) : Prop where
  row : W.ownsRow w.heap.size 109 4 v es.length (ecells es)
  kids : ∀ x ∈ es, SlP (fun b => w.heap.size ≤ b ∧ b < W.heap.size ∧ some b ≠ v.ownBlock) W x.1.2.ts (Elem.sl x)
  low : Below w.heap.size w W
theorem CmpSt.below {w W A : World} {v : Value} {es : List Elem} (h : CmpSt w W v es) (hb : Below W.heap.size W A) : CmpSt w A v es :=
  ⟨h.row.kept (below_grown hb) (own_none _), fun x hx => (h.kids x hx).carry fun b hb' => ⟨hb.block b hb'.2.1, hb'.1, Nat.lt_of_lt_of_le hb'.2.1 hb.size, hb'.2.2⟩, h.low.trans (hb.mono h.low.size)⟩
/-- one more -/
theorem CmpSt.step {w W B W5 : World} {v v5 : Value} {es : List Elem} {x : Elem} (h : CmpSt w W v es) (hB : Below W.heap.size W B) (hx : SlP (fun b => W.heap.size ≤ b ∧ b < B.heap.size) B x.1.2.ts (Elem.sl x)) (h5 : B.grownBy W5 v.ownBlock)
    (ho : W5.ownsRow w.heap.size 109 4 v5 (es.length + 1) (ecells es ++ encE x)) (hat : v5.ownBlock = v.ownBlock ∨ v5.ownBlock = some B.heap.size) : CmpSt w W5 v5 (es ++ [x]) := by
  have z0 := h.low.size
  have zB := hB.size
  have z5 := h5.size
  have own : ∀ j, v.ownBlock = some j → w.heap.size ≤ j ∧ j < W.heap.size := fun j hj => h.row.lt j hj
  refine ⟨?_, ?_, ?_⟩
  · rw [List.length_append, ecells_append, show ecells [x] = encE x by simp [ecells]]; exact ho
  · intro y hy
    rcases List.mem_append.1 hy with hy | hy
    · refine (h.kids y hy).carry fun b hb => ⟨(h5.block b (by omega) hb.2.2).trans (hB.block b hb.2.1), hb.1, by omega, ?_⟩
      rcases hat with e | e
      · rw [e]; exact hb.2.2
      · rw [e]; intro hh; cases hh; omega
    · obtain rfl := List.mem_singleton.1 hy
      refine hx.carry fun b hb => ⟨h5.block b hb.2 (fun e => by have := own _ e.symm; omega), by omega, by omega, ?_⟩
      rcases hat with e | e
      · rw [e]; intro hh; have := own _ hh.symm; omega
      · rw [e]; intro hh; cases hh; omega
  · exact (h.low.trans (hB.mono z0)).grown h5 (by omega) (fun j hj => (own j hj).1)
theorem CmpSt.start (w : World) : CmpSt w w (.slice none 0 0) [] := ⟨World.ownsRow_nil _ _ _ _, by simp, Below.refl _ _⟩

theorem apB_formed {bl : List Bd} (h : ∀ p ∈ bl, p.2.formed) {t : Tm} (ht : t.formed) : (apB bl t).formed := by
  induction t using Tm.ind with
  | h t ih =>
    obtain ⟨h1, h2⟩ := (Tm.formed_iff t).1 ht
    cases hv : t.vr
    · rw [apB_fun bl hv, Tm.formed_iff]
      rw [hv] at h1
      refine ⟨by simpa [Tm.nm, Tm.vr, Tm.ts] using h1, fun u hu => ?_⟩
      obtain ⟨x, hx, rfl⟩ := List.mem_map.1 hu
      exact ih x hx (h2 x hx)
    · rw [apB_var bl hv]
      unfold imageOf
      cases hf : bl.find? (fun p => decide (p.1 = t.nm.data.toList)) with
      | some p => exact h p (List.mem_of_find?_eq_some hf)
      | none =>
        rw [Tm.formed_iff]
        rw [hv] at h1
        refine ⟨?_, fun u hu => by cases hu⟩
        simp only [Tm.nm, Tm.vr, Tm.ts, kb_key]
        simp only [nodeOk, if_true, Bool.and_eq_true] at h1 ⊢
        exact ⟨h1.1, rfl⟩
theorem cells_new4 (W : World) (x : Elem) (e : TypeId) : ∀ j u, (encE x)[j]? = some u → (W.alloc (.cells #[.string (kb x.1.1), .string x.1.2.nm, .bool x.1.2.vr, .slice x.2.1 x.2.2.1 x.2.2.2] e)).cell? ((⟨W.heap.size, 0, none⟩ : Addr).add j) = some u := cells_new W _ _ _ _ e
theorem encE_one (x : Elem) : ∀ v ∈ encE x, v.oneCell' = true := fun v hv => by simp [encE] at hv; rcases hv with rfl | rfl | rfl | rfl <;> rfl

/-- the row as bindings -/
theorem BindsIs.ofE {W : World} {m n : Nat} {e : TypeId} {v : Value} {es : List Elem} (h : W.ownsRow m e 4 v es.length (ecells es)) (hn : W.heap.size ≤ n) (hk : ∀ x ∈ es, SlIs n W x.1.2.ts (Elem.sl x)) : BindsIs n W (es.map (·.1)) v := by
  have h0 := h
  rcases h.2 with ⟨rfl, hl⟩ | ⟨g, cap, cur, rfl, hb, hg, hle, _⟩
  · obtain rfl : es = [] := List.length_eq_zero_iff.1 hl
    exact ⟨none, 0, rfl, Nat.le_refl _, fun h => absurd rfl h⟩
  · refine ⟨_, cap, by rw [List.length_map], by rw [List.length_map]; exact hle, fun _ => ⟨g, 0, rfl, Nat.lt_of_lt_of_le (Array.getElem?_eq_some_iff.1 hg).1 hn, fun i p hp => ?_⟩⟩
    rw [List.getElem?_map, Option.map_eq_some_iff] at hp
    obtain ⟨x, hx, rfl⟩ := hp
    have key : ∀ c v, (encE x)[c]? = some v → c < 4 → W.cell? ⟨g, 0 + i * 4 + c, none⟩ = some v := fun c v hv hc => by
      have h1 := ecells_at es i c x hx hc
      rw [hv] at h1
      have := h0.cells (g := g) rfl _ v h1
      rw [ad_add] at this
      rwa [Nat.zero_add] at this ⊢
    exact ⟨Elem.sl x, key 0 _ rfl (by omega), key 1 _ rfl (by omega), key 2 _ rfl (by omega), key 3 _ rfl (by omega), hk x (List.mem_of_getElem? hx)⟩
end Go.Proofs.Ytnomppdmhgefiaa
