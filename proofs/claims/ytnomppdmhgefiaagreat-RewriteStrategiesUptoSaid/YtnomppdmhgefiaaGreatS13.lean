/- Packed: Tlk, Hm. -/
import Derived.WalkKit
import Derived.ProofKit
import Derived.Maps.OwnSet
import Derived.Maps.OwnOps
import Derived.Test.YtnomppdmhgefiaaGreatS12
import Derived.OpenShut
import Derived.Handy
import Derived.Lib.Hide
import Derived.Test.YtnomppdmhgefiaaGreatS09
/- Maps of terms at the walk: a key that is there, one that is not, a store. -/
namespace Go.Proofs.YtnomppdmhgefiaaGreat
open Go.RowKit Go.Maps

abbrev zTm : Value := .agg #[.string ⟨#[]⟩, .bool false, .slice none 0 0]
theorem zeroTm (w : World) : (zeroValue 25).run Tryz.prog w = .ok zTm w := Tryz.zeroValue25 w
theorem TMap.at {n : Nat} {W : World} {mb : Nat} {l : List Bd} (h : TMap n W mb l) {k : Key} {t : Tm} (hk : getA l k = some t) :
    ∃ D s, W.ownsMap Tryz.prog 9 imgR mb l.length D ∧ Maps.has D (.string k) = true ∧ (∀ z, D.atKey (.string k) z = .held (tmv t s)) ∧ SlIs n W t.ts s := by
  obtain ⟨D, h1, h2⟩ := h
  obtain ⟨s, h3, h4⟩ := h2.at_ k t hk
  exact ⟨D, s, h1, by rw [h2.has]; exact decide_eq_true (getA_mem.2 ⟨t, hk⟩), h3, h4⟩
theorem TMap.no {n : Nat} {W : World} {mb : Nat} {l : List Bd} (h : TMap n W mb l) {k : Key} (hk : getA l k = none) :
    ∃ D, W.ownsMap Tryz.prog 9 imgR mb l.length D ∧ Maps.has D (.string k) = false ∧ TInv n W D l := by
  obtain ⟨D, h1, h2⟩ := h
  exact ⟨D, h1, by rw [h2.has]; exact decide_eq_false (getA_none.1 hk), h2⟩
section
variable (w : World) {ops : Array Oper} {rest : List Oper} {o : Oper} {a : Act} {Q : Exit → Act → World → Prop}
theorem tlook_hit (ty : TypeId) (hty : Tryz.prog.underlying ty = some (.map 9 25)) (hg : o.guard = none) (m x : Operand) (hop : o.op = Op.lookup ty m x true) (b n : Nat) (D : DataW Value) (hm : a.eval m = .map (some b)) (hown : w.ownsMap Tryz.prog 9 imgR b n D)
    (key : Value) (kl : Lit) (hx : a.eval x = key) (hkey : keyOf Tryz.prog 9 key = some kl) (val : Value) (hat : ∀ z, D.atKey kl z = .held val) (hh : Maps.has D kl = true)
    (hK : wpList Tryz.prog ops Q rest (a.put o.dst (.tuple #[val, .bool true])) w) : wpList Tryz.prog ops Q (o :: rest) a w :=
  wpList_lookup_own_ok _ hg m x ty hop 9 25 strKeyed hty imgR (zeroTm w) (.held zTm) [] rfl b n D hm hown key kl hx hkey fun v ps hv => by
    rw [hat] at hv
    simp only [imgR, Option.some.injEq, Prod.mk.injEq, DataW.held.injEq] at hv
    obtain ⟨rfl, -⟩ := hv
    rw [hh]; exact hK
theorem tlook_miss (ty : TypeId) (hty : Tryz.prog.underlying ty = some (.map 9 25)) (hg : o.guard = none) (m x : Operand) (hop : o.op = Op.lookup ty m x true) (b n : Nat) (D : DataW Value) (hm : a.eval m = .map (some b)) (hown : w.ownsMap Tryz.prog 9 imgR b n D)
    (key : Value) (kl : Lit) (hx : a.eval x = key) (hkey : keyOf Tryz.prog 9 key = some kl) (hh : Maps.has D kl = false)
    (hK : wpList Tryz.prog ops Q rest (a.put o.dst (.tuple #[zTm, .bool false])) w) : wpList Tryz.prog ops Q (o :: rest) a w :=
  wpList_lookup_own_ok _ hg m x ty hop 9 25 strKeyed hty imgR (zeroTm w) (.held zTm) [] rfl b n D hm hown key kl hx hkey fun v ps hv => by
    rw [atKey_of_not_has hh] at hv
    simp only [imgR, Option.some.injEq, Prod.mk.injEq, DataW.held.injEq] at hv
    obtain ⟨rfl, -⟩ := hv
    rw [hh]; exact hK
/-- without 'ok': the value that is there -/
theorem tlook_plain (ty : TypeId) (hty : Tryz.prog.underlying ty = some (.map 9 25)) (hg : o.guard = none) (m x : Operand) (hop : o.op = Op.lookup ty m x false) (b n : Nat) (D : DataW Value) (hm : a.eval m = .map (some b)) (hown : w.ownsMap Tryz.prog 9 imgR b n D)
    (key : Value) (kl : Lit) (hx : a.eval x = key) (hkey : keyOf Tryz.prog 9 key = some kl) (val : Value) (hat : ∀ z, D.atKey kl z = .held val)
    (hK : wpList Tryz.prog ops Q rest (a.put o.dst val) w) : wpList Tryz.prog ops Q (o :: rest) a w :=
  wpList_lookup_own_plain _ hg m x ty hop 9 25 strKeyed hty imgR (zeroTm w) (.held zTm) [] rfl b n D hm hown key kl hx hkey fun v ps hv => by
    rw [hat] at hv
    simp only [imgR, Option.some.injEq, Prod.mk.injEq, DataW.held.injEq] at hv
    obtain ⟨rfl, -⟩ := hv
    exact hK
end
theorem putA_new {α : Type} {l : List (Key × α)} {k : Key} (v : α) (h : k ∉ l.map (·.1)) : putA l k v = l ++ [(k, v)] := by unfold putA; rw [if_neg h]
/-- a map of terms after a store -/
theorem TMap.store {n n' : Nat} {W W' : World} {mb : Nat} {l : List Bd} {D : DataW Value} (hi : TInv n W D l) {k : Key} {t : Tm} {s : Value} (hs : SlIs n W t.ts s) {j : Nat} (ho : W'.ownsMap Tryz.prog 9 imgR mb j (D.put (.string k) (.held (tmv t s)))) (hk : KpC n' W W') {m : Nat} (hm : n ≤ m) : TMap m W' mb (putA l k t) := by
  have h := hi.put (k := k) hs
  exact ⟨_, ho.tight h.size, h.tidy, h.nodup, h.size, h.has, fun k' t' hg => by obtain ⟨s', h1, h2⟩ := h.at_ k' t' hg; exact ⟨s', h1, h2.kp hk hm⟩⟩

/-- a map of terms whose arguments lie in blocks of which p holds -/
structure TInvP (p : Nat → Prop) (W : World) (D : DataW Value) (l : List Bd) : Prop where
  tidy : Tidy D
  nodup : (l.map (·.1)).Nodup
  size : Maps.size D = l.length
  has : ∀ k, Maps.has D (.string k) = decide (k ∈ l.map (·.1))
  at_ : ∀ k t, getA l k = some t → ∃ s, (∀ z, D.atKey (.string k) z = .held (tmv t s)) ∧ SlP p W t.ts s
def TMapP (p : Nat → Prop) (W : World) (mb : Nat) (l : List Bd) : Prop := ∃ D : DataW Value, W.ownsMap Tryz.prog 9 imgR mb l.length D ∧ TInvP p W D l
theorem TMapP.lt {p : Nat → Prop} {W : World} {mb : Nat} {l : List Bd} (h : TMapP p W mb l) : mb < W.heap.size := by obtain ⟨D, h, _⟩ := h; exact h.lt
theorem TInvP.empty (p : Nat → Prop) (W : World) : TInvP p W (.map []) [] := ⟨tidy_empty, by simp, rfl, fun k => by simp [Maps.has_eq], fun k t h => by cases h⟩
theorem SlP.kpc {p : Nat → Prop} {n : Nat} {A B : World} (h : KpC n A B) {l : List Tm} {s : Value} (hs : SlP p A l s) : SlP p B l s := by
  induction hs with
  | nil0 => exact .nil0
  | nil1 a cap => exact .nil1 a cap
  | row b o cap l s hl hb hc cells _ hf ih =>
    have hblk : B.heap[b]? = A.heap[b]? := by
      obtain ⟨t, r, rfl⟩ : ∃ t r, l = t :: r := by
        cases l with
        | nil => exact absurd rfl hl
        | cons t r => exact ⟨t, r, rfl⟩
      exact h.same (cells 0 t rfl).1
    refine .row b o cap l s hl hb hc (fun i t ht => ?_) ih (fun i hi => (frozen_same hblk _).trans (hf i hi))
    obtain ⟨h1, h2, h3⟩ := cells i t ht
    exact ⟨h.cell h1, h.cell h2, h.cell h3⟩
theorem TMapP.map {p q : Nat → Prop} {A B : World} {mb : Nat} {l : List Bd} (h : TMapP p A mb l) (hm : B.heap[mb]? = A.heap[mb]?) (hc : ∀ (t : Tm) (s : Value), SlP p A t.ts s → SlP q B t.ts s) : TMapP q B mb l := by
  obtain ⟨D, ⟨es, cl, hes, h1⟩, h2⟩ := h
  exact ⟨D, ⟨es, cl, hm.trans hes, h1⟩, h2.tidy, h2.nodup, h2.size, h2.has, fun k t hg => by obtain ⟨s, h3, h4⟩ := h2.at_ k t hg; exact ⟨s, h3, hc t s h4⟩⟩
theorem TMapP.at {p : Nat → Prop} {W : World} {mb : Nat} {l : List Bd} (h : TMapP p W mb l) {k : Key} {t : Tm} (hk : getA l k = some t) :
    ∃ D s, W.ownsMap Tryz.prog 9 imgR mb l.length D ∧ Maps.has D (.string k) = true ∧ (∀ z, D.atKey (.string k) z = .held (tmv t s)) ∧ SlP p W t.ts s := by
  obtain ⟨D, h1, h2⟩ := h
  obtain ⟨s, h3, h4⟩ := h2.at_ k t hk
  exact ⟨D, s, h1, by rw [h2.has]; exact decide_eq_true (getA_mem.2 ⟨t, hk⟩), h3, h4⟩
theorem TMapP.no {p : Nat → Prop} {W : World} {mb : Nat} {l : List Bd} (h : TMapP p W mb l) {k : Key} (hk : getA l k = none) :
    ∃ D, W.ownsMap Tryz.prog 9 imgR mb l.length D ∧ Maps.has D (.string k) = false ∧ TInvP p W D l := by
  obtain ⟨D, h1, h2⟩ := h
  exact ⟨D, h1, by rw [h2.has]; exact decide_eq_false (getA_none.1 hk), h2⟩
theorem TInvP.put {p : Nat → Prop} {W : World} {D : DataW Value} {l : List Bd} (h : TInvP p W D l) {k : Key} {t : Tm} {s : Value} (hs : SlP p W t.ts s) : TInvP p W (D.put (.string k) (.held (tmv t s))) (putA l k t) := by
  have hl : WideAt.IsKeyLit (.string k) := trivial
  have hks := putA_keys l k t
  refine ⟨h.tidy.put hl _, by rw [hks]; exact addKey_nodup h.nodup _, ?_, fun k' => ?_, fun k' t' hg => ?_⟩
  · have h1 : (putA l k t).length = ((putA l k t).map (·.1)).length := by rw [List.length_map]
    rw [h1, hks, size_put h.tidy, h.has, h.size]
    unfold addKey
    by_cases e : k ∈ l.map (·.1)
    · simp only [e, decide_true, if_true, List.length_map]
    · simp only [e, decide_false, if_false, List.length_append, List.length_map]; simp
  · rw [hks]
    by_cases e : k' = k
    · subst e; rw [has_put_same h.tidy.isMap hl]; simp [addKey_mem]
    · rw [has_put_other (by simpa using e), h.has]
      unfold addKey
      split
      · rfl
      · simp [e]
  · rw [getA_put] at hg
    by_cases e : k' = k
    · subst e
      rw [if_pos rfl] at hg; cases hg
      exact ⟨s, fun z => atKey_put_same h.tidy.isMap hl _ z, hs⟩
    · rw [if_neg e] at hg
      obtain ⟨s', h1, h2⟩ := h.at_ k' t' hg
      exact ⟨s', fun z => by rw [atKey_put_other (by simpa using e)]; exact h1 z, h2⟩
/-- after a store -/
theorem TMapP.store {p : Nat → Prop} {n : Nat} {W W' : World} {mb : Nat} {l : List Bd} {D : DataW Value} (hi : TInvP p W D l) {k : Key} {t : Tm} {s : Value} (hs : SlP p W t.ts s) {j : Nat} (ho : W'.ownsMap Tryz.prog 9 imgR mb j (D.put (.string k) (.held (tmv t s)))) (hk : KpC n W W') : TMapP p W' mb (putA l k t) := by
  have h := hi.put (k := k) hs
  exact ⟨_, ho.tight h.size, h.tidy, h.nodup, h.size, h.has, fun k' t' hg => by obtain ⟨s', h1, h2⟩ := h.at_ k' t' hg; exact ⟨s', h1, h2.kpc hk⟩⟩
end Go.Proofs.YtnomppdmhgefiaaGreat
/- Maps of strings to values held as they are. -/
namespace Go.Proofs.YtnomppdmhgefiaaGreat
open Go.RowKit Go.Maps

structure HInv {α : Type} (enc : α → Value) (D : DataW Value) (l : List (Key × α)) : Prop where
  tidy : Tidy D
  nodup : (l.map (·.1)).Nodup
  size : Maps.size D = l.length
  has : ∀ k, Maps.has D (.string k) = decide (k ∈ l.map (·.1))
  at_ : ∀ k v, getA l k = some v → ∀ z, D.atKey (.string k) z = .held (enc v)
def HMap {α : Type} (enc : α → Value) (W : World) (mb : Nat) (l : List (Key × α)) : Prop := ∃ D : DataW Value, W.ownsMap Tryz.prog 9 imgR mb l.length D ∧ HInv enc D l
section
variable {α : Type} {enc : α → Value}
theorem HMap.lt {W : World} {mb : Nat} {l : List (Key × α)} (h : HMap enc W mb l) : mb < W.heap.size := by obtain ⟨D, h, _⟩ := h; exact h.lt
theorem HMap.kept {mb : Nat} {A B : World} {l : List (Key × α)} (h : HMap enc A mb l) (hm : B.heap[mb]? = A.heap[mb]?) : HMap enc B mb l := by
  obtain ⟨D, ⟨es, cl, hes, h1⟩, h2⟩ := h
  exact ⟨D, ⟨es, cl, hm.trans hes, h1⟩, h2⟩
theorem HMap.nodup {mb : Nat} {A : World} {l : List (Key × α)} (h : HMap enc A mb l) : (l.map (·.1)).Nodup := by obtain ⟨D, _, h⟩ := h; exact h.nodup
theorem HMap.at {W : World} {mb : Nat} {l : List (Key × α)} (h : HMap enc W mb l) {k : Key} {v : α} (hk : getA l k = some v) :
    ∃ D : DataW Value, W.ownsMap Tryz.prog 9 imgR mb l.length D ∧ Maps.has D (.string k) = true ∧ (∀ z, D.atKey (.string k) z = .held (enc v)) := by
  obtain ⟨D, h1, h2⟩ := h
  exact ⟨D, h1, by rw [h2.has]; exact decide_eq_true (getA_mem.2 ⟨v, hk⟩), h2.at_ k v hk⟩
theorem HMap.no {W : World} {mb : Nat} {l : List (Key × α)} (h : HMap enc W mb l) {k : Key} (hk : getA l k = none) :
    ∃ D : DataW Value, W.ownsMap Tryz.prog 9 imgR mb l.length D ∧ Maps.has D (.string k) = false := by
  obtain ⟨D, h1, h2⟩ := h
  exact ⟨D, h1, by rw [h2.has]; exact decide_eq_false (getA_none.1 hk)⟩
theorem HInv.put {D : DataW Value} {l : List (Key × α)} (h : HInv enc D l) (k : Key) (v : α) : HInv enc (D.put (.string k) (.held (enc v))) (putA l k v) := by
  have hl : WideAt.IsKeyLit (.string k) := trivial
  have hks := putA_keys l k v
  refine ⟨h.tidy.put hl _, by rw [hks]; exact addKey_nodup h.nodup _, ?_, fun k' => ?_, fun k' t' hg z => ?_⟩
  · have h1 : (putA l k v).length = ((putA l k v).map (·.1)).length := by rw [List.length_map]
    rw [h1, hks, size_put h.tidy, h.has, h.size]
    unfold addKey
    by_cases e : k ∈ l.map (·.1)
    · simp only [e, decide_true, if_true, List.length_map]
    · simp only [e, decide_false, if_false, List.length_append, List.length_map]; simp
  · rw [hks]
    by_cases e : k' = k
    · subst e; rw [has_put_same h.tidy.isMap hl]; simp [addKey_mem]
    · rw [has_put_other (by simpa using e), h.has]
      unfold addKey
      split
      · rfl
      · simp [e]
  · rw [getA_put] at hg
    by_cases e : k' = k
    · subst e
      rw [if_pos rfl] at hg; cases hg
      exact atKey_put_same h.tidy.isMap hl _ z
    · rw [if_neg e] at hg
      rw [atKey_put_other (by simpa using e)]; exact h.at_ k' t' hg z
theorem HMap.store {W' : World} {mb : Nat} {l : List (Key × α)} {D : DataW Value} (hi : HInv enc D l) {k : Key} {v : α} {j : Nat} (ho : W'.ownsMap Tryz.prog 9 imgR mb j (D.put (.string k) (.held (enc v)))) : HMap enc W' mb (putA l k v) := by
  have h := hi.put k v
  exact ⟨_, ho.tight h.size, h⟩
theorem HMap.made (W : World) : HMap enc (W.alloc (.map #[] 0)) W.heap.size [] := ⟨_, World.ownsMap_made W _ _ _, tidy_empty, by simp, rfl, (fun k => by simp [Maps.has_eq]), fun k v h => by cases h⟩
end
section
variable (w : World) {ops : Array Oper} {rest : List Oper} {o : Oper} {a : Act} {Q : Exit → Act → World → Prop}
end

end Go.Proofs.YtnomppdmhgefiaaGreat
