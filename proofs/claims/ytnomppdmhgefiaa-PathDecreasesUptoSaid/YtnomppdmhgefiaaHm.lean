/- Maps of strings to values held as they are. -/
import Derived.WalkKit
import Derived.ProofKit
import Derived.OpenShut
import Derived.Handy
import Derived.Lib.Hide
import Derived.Test.YtnomppdmhgefiaaTlk
import Derived.Test.YtnomppdmhgefiaaRnp
namespace Go.Proofs.Ytnomppdmhgefiaa
open Go.RowKit Go.Maps

structure HInv {α : Type} (enc : α → Value) (D : DataW Value) (l : List (Key × α)) : Prop where
  tidy : Tidy D
  nodup : (l.map (·.1)).Nodup
  size : Maps.size D = l.length
  has : ∀ k, Maps.has D (.string k) = decide (k ∈ l.map (·.1))
  at_ : ∀ k v, getA l k = some v → ∀ z, D.atKey (.string k) z = .held (enc v)
def HMap {α : Type} (enc : α → Value) (W : World) (mb : Nat) (l : List (Key × α)) : Prop := ∃ D : DataW Value, W.ownsMap Try.prog 9 imgR mb l.length D ∧ HInv enc D l
section
variable {α : Type} {enc : α → Value}
theorem HMap.lt {W : World} {mb : Nat} {l : List (Key × α)} (h : HMap enc W mb l) : mb < W.heap.size := by obtain ⟨D, h, _⟩ := h; exact h.lt
theorem HMap.kept {mb : Nat} {A B : World} {l : List (Key × α)} (h : HMap enc A mb l) (hm : B.heap[mb]? = A.heap[mb]?) : HMap enc B mb l := by
  obtain ⟨D, ⟨es, cl, hes, h1⟩, h2⟩ := h
  exact ⟨D, ⟨es, cl, hm.trans hes, h1⟩, h2⟩
theorem HMap.nocell {mb : Nat} {A : World} {l : List (Key × α)} (h : HMap enc A mb l) : ∀ c t f, A.heap[mb]? ≠ some (Obj.cells c t f) := by
  obtain ⟨D, ⟨es, cl, hes, _⟩, _⟩ := h
  intro c t f e; rw [hes] at e; cases e
theorem HMap.nodup {mb : Nat} {A : World} {l : List (Key × α)} (h : HMap enc A mb l) : (l.map (·.1)).Nodup := by obtain ⟨D, _, h⟩ := h; exact h.nodup
theorem HMap.at {W : World} {mb : Nat} {l : List (Key × α)} (h : HMap enc W mb l) {k : Key} {v : α} (hk : getA l k = some v) :
    ∃ D : DataW Value, W.ownsMap Try.prog 9 imgR mb l.length D ∧ Maps.has D (.string k) = true ∧ (∀ z, D.atKey (.string k) z = .held (enc v)) := by
  obtain ⟨D, h1, h2⟩ := h
  exact ⟨D, h1, by rw [h2.has]; exact decide_eq_true (getA_mem.2 ⟨v, hk⟩), h2.at_ k v hk⟩
theorem HMap.no {W : World} {mb : Nat} {l : List (Key × α)} (h : HMap enc W mb l) {k : Key} (hk : getA l k = none) :
    ∃ D : DataW Value, W.ownsMap Try.prog 9 imgR mb l.length D ∧ Maps.has D (.string k) = false := by
  obtain ⟨D, h1, h2⟩ := h
  exact ⟨D, h1, by rw [h2.has]; exact decide_eq_false (getA_none.1 hk)⟩
theorem HInv.put {D : DataW Value} {l : List (Key × α)} (h : HInv enc D l) (k : Key) (v : α) : HInv enc (D.put (.string k) (.held (enc v))) (putA l k v) := by
  have hl : WideAt.IsKeyLit (.string k) := trivial
  have hks := putA_keys l k v
  refine ⟨h.tidy.put hl _, by rw [hks]; exact addKey_nodup h.nodup _, ?_, fun k' => ?_, fun k' t' hg z => ?_⟩
  · have h1 : (putA l k v).length = ((putA l k v).map (·.1)).length := by rw [List.length_map]
    rw [h1, hks, size_put h.tidy, h.has, h.size]
    unfold addKey
    by_cases e : k ∈ l.map (·.1)
    · simp only [e, decide_true, if_true, List.length_map]
    · simp only [e, decide_false, if_false, List.length_append, List.length_map]; simp
  · rw [hks]
    by_cases e : k' = k
    · subst e; rw [has_put_same h.tidy.isMap hl]; simp [addKey_mem]
    · rw [has_put_other (by simpa using e), h.has]
      unfold addKey
      split
      · rfl
      · simp [e]
  · rw [getA_put] at hg
    by_cases e : k' = k
    · subst e
      rw [if_pos rfl] at hg; cases hg
      exact atKey_put_same h.tidy.isMap hl _ z
    · rw [if_neg e] at hg
      rw [atKey_put_other (by simpa using e)]; exact h.at_ k' t' hg z
theorem HMap.store {W' : World} {mb : Nat} {l : List (Key × α)} {D : DataW Value} (hi : HInv enc D l) {k : Key} {v : α} {j : Nat} (ho : W'.ownsMap Try.prog 9 imgR mb j (D.put (.string k) (.held (enc v)))) : HMap enc W' mb (putA l k v) := by
  have h := hi.put k v
  exact ⟨_, ho.tight h.size, h⟩
theorem HMap.made (W : World) : HMap enc (W.alloc (.map #[] 0)) W.heap.size [] := ⟨_, World.ownsMap_made W _ _ _, tidy_empty, by simp, rfl, (fun k => by simp [Maps.has_eq]), fun k v h => by cases h⟩
end
section
variable (w : World) {ops : Array Oper} {rest : List Oper} {o : Oper} {a : Act} {Q : Exit → Act → World → Prop}
theorem hlook_hit (ty te : TypeId) (z0 : Value) (hty : Try.prog.underlying ty = some (.map 9 te)) (hz : (zeroValue te).run Try.prog w = .ok z0 w) (hg : o.guard = none) (m x : Operand) (hop : o.op = Op.lookup ty m x true) (b n : Nat) (D : DataW Value) (hm : a.eval m = .map (some b)) (hown : w.ownsMap Try.prog 9 imgR b n D)
    (key : Value) (kl : Lit) (hx : a.eval x = key) (hkey : keyOf Try.prog 9 key = some kl) (val : Value) (hat : ∀ z, D.atKey kl z = .held val) (hh : Maps.has D kl = true)
    (hK : wpList Try.prog ops Q rest (a.put o.dst (.tuple #[val, .bool true])) w) : wpList Try.prog ops Q (o :: rest) a w :=
  wpList_lookup_own_ok _ hg m x ty hop 9 te strKeyed hty imgR hz (.held z0) [] rfl b n D hm hown key kl hx hkey fun v ps hv => by
    rw [hat] at hv
    simp only [imgR, Option.some.injEq, Prod.mk.injEq, DataW.held.injEq] at hv
    obtain ⟨rfl, -⟩ := hv
    rw [hh]; exact hK
theorem hlook_miss (ty te : TypeId) (z0 : Value) (hty : Try.prog.underlying ty = some (.map 9 te)) (hz : (zeroValue te).run Try.prog w = .ok z0 w) (hg : o.guard = none) (m x : Operand) (hop : o.op = Op.lookup ty m x true) (b n : Nat) (D : DataW Value) (hm : a.eval m = .map (some b)) (hown : w.ownsMap Try.prog 9 imgR b n D)
    (key : Value) (kl : Lit) (hx : a.eval x = key) (hkey : keyOf Try.prog 9 key = some kl) (hh : Maps.has D kl = false)
    (hK : wpList Try.prog ops Q rest (a.put o.dst (.tuple #[z0, .bool false])) w) : wpList Try.prog ops Q (o :: rest) a w :=
  wpList_lookup_own_ok _ hg m x ty hop 9 te strKeyed hty imgR hz (.held z0) [] rfl b n D hm hown key kl hx hkey fun v ps hv => by
    rw [atKey_of_not_has hh] at hv
    simp only [imgR, Option.some.injEq, Prod.mk.injEq, DataW.held.injEq] at hv
    obtain ⟨rfl, -⟩ := hv
    rw [hh]; exact hK
end

end Go.Proofs.Ytnomppdmhgefiaa
