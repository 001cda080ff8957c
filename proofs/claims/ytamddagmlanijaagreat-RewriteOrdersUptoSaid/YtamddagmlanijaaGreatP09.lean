/- Packed: Kp, Tlk, Hm. -/
import Derived.Test.YtamddagmlanijaaGreatP08
import Derived.WalkKit
import Derived.ProofKit
import Derived.Maps.OwnSet
import Derived.Maps.OwnOps
import Derived.OpenShut
import Derived.Handy
import Derived.Lib.Hide
import Derived.Test.YtamddagmlanijaaGreatP07
/- What may change beside maps: blocks of cells stay. Lists of pairs as maps; a map of terms, a map of strings in memory. -/
namespace Go.Proofs.YtamddagmlanijaaGreat
open Go.RowKit Go.Maps

/-- blocks below n and all blocks of cells are as they were -/
structure KpC (n : Nat) (A B : World) : Prop where
  low : Below n A B
  cells : ∀ (k : Nat) (c : Array Value) (t : TypeId) (f : Nat × Nat), A.heap[k]? = some (Obj.cells c t f) → B.heap[k]? = some (Obj.cells c t f)
theorem KpC.refl (n : Nat) (A : World) : KpC n A A := ⟨Below.refl _ _, fun _ _ _ _ h => h⟩
theorem KpC.size {n : Nat} {A B : World} (h : KpC n A B) : A.heap.size ≤ B.heap.size := h.low.size
theorem KpC.trans {n : Nat} {A B C : World} (h : KpC n A B) (k : KpC n B C) : KpC n A C := ⟨h.low.trans k.low, fun i c t f hc => k.cells i c t f (h.cells i c t f hc)⟩
theorem KpC.of_below {n : Nat} {A B : World} (h : Below A.heap.size A B) (hn : n ≤ A.heap.size) : KpC n A B := ⟨h.mono hn, fun k _ _ _ hk => (h.block k (Array.getElem?_eq_some_iff.1 hk).1).trans hk⟩
theorem KpC.mono {n m : Nat} {A B : World} (h : KpC n A B) (hm : m ≤ n) : KpC m A B := ⟨h.low.mono hm, h.cells⟩
theorem KpC.drewN {n : Nat} {A B : World} (h : KpC n A B) (k : Nat) : KpC n A (B.drewN k) := ⟨below_drewN k h.low, h.cells⟩
/-- one map is written -/
theorem KpC.turned {n b : Nat} {A B : World} (h : A.mapTurned B b) (hn : n ≤ b) : KpC n A B := by
  have hg := h.grown
  obtain ⟨es, clock, es', clock', hb, rfl⟩ := h
  have hlt := (Array.getElem?_eq_some_iff.1 hb).1
  refine ⟨⟨hg.os, hg.tape, hg.output, hg.size, fun k hk => hg.block k (by omega) (fun e => by cases e; omega)⟩, fun k c t f hk => ?_⟩
  by_cases e : k = b
  · subst e; rw [hb] at hk; cases hk
  · exact (hg.block k (Array.getElem?_eq_some_iff.1 hk).1 (fun e' => e (by cases e'; rfl))).trans hk
/-- a block that was made since is written -/
theorem KpC.setNew {n : Nat} {A B : World} (h : KpC n A B) (hn : n ≤ A.heap.size) {p : Addr} (hp : A.heap.size ≤ p.block) (v : Value) : KpC n A (B.setCell p v) :=
  ⟨h.low.setCell (Nat.le_trans hn hp) v, fun k c t f hk => (Below.heap_setCell B p v k (by have := (Array.getElem?_eq_some_iff.1 hk).1; omega)).trans (h.cells k c t f hk)⟩
theorem block_of_cell {A : World} {b j : Nat} {v : Value} (h : A.cell? ⟨b, j, none⟩ = some v) : ∃ c t f, A.heap[b]? = some (.cells c t f) := by
  unfold World.cell? at h
  cases hh : A.heap[b]? with
  | none => rw [hh] at h; cases h
  | some ob =>
    cases ob with
    | cells c t fr => exact ⟨c, t, fr, rfl⟩
    | _ => rw [hh] at h; cases h
theorem KpC.same {n : Nat} {A B : World} (h : KpC n A B) {b j : Nat} {v : Value} (hc : A.cell? ⟨b, j, none⟩ = some v) : B.heap[b]? = A.heap[b]? := by
  obtain ⟨c, t, f, hb⟩ := block_of_cell hc
  rw [hb, h.cells _ _ _ _ hb]
theorem KpC.cell {n : Nat} {A B : World} (h : KpC n A B) {b j : Nat} {v : Value} (hc : A.cell? ⟨b, j, none⟩ = some v) : B.cell? ⟨b, j, none⟩ = some v :=
  (World.cell?_of_block (a := ⟨b, _, none⟩) (h.same hc)).trans hc
theorem SlIs.kp {n m n₀ : Nat} {A B : World} (h : KpC n₀ A B) (hn : n ≤ m) {l : List Tm} {s : Value} (hs : SlIs n A l s) : SlIs m B l s := by
  induction hs with
  | nil0 => exact .nil0
  | nil1 a cap => exact .nil1 a cap
  | row b o cap l s hl hb hc cells _ hf ih =>
    have hblk : B.heap[b]? = A.heap[b]? := by
      obtain ⟨t, r, rfl⟩ : ∃ t r, l = t :: r := by
        cases l with
        | nil => exact absurd rfl hl
        | cons t r => exact ⟨t, r, rfl⟩
      exact h.same (cells 0 t rfl).1
    refine .row b o cap l s hl (by omega) hc (fun i t ht => ?_) ih (fun i hi => (frozen_same hblk _).trans (hf i hi))
    obtain ⟨h1, h2, h3⟩ := cells i t ht
    exact ⟨h.cell h1, h.cell h2, h.cell h3⟩

/-- lists of pairs as maps -/
def getA {α : Type} (l : List (Key × α)) (k : Key) : Option α := (l.find? (fun p => decide (p.1 = k))).map (·.2)
def putA {α : Type} (l : List (Key × α)) (k : Key) (v : α) : List (Key × α) := if k ∈ l.map (·.1) then l.map (fun p => if p.1 = k then (k, v) else p) else l ++ [(k, v)]
section
variable {α : Type}
theorem getA_none {l : List (Key × α)} {k : Key} : getA l k = none ↔ k ∉ l.map (·.1) := by
  unfold getA
  rw [Option.map_eq_none_iff, List.find?_eq_none]
  constructor
  · intro h hm
    obtain ⟨p, hp, he⟩ := List.mem_map.1 hm
    have := h p hp
    simp [he] at this
  · intro h p hp
    simp only [decide_eq_true_eq]
    intro e; exact h (List.mem_map.2 ⟨p, hp, e⟩)
theorem getA_some {l : List (Key × α)} {k : Key} {v : α} (h : getA l k = some v) : (k, v) ∈ l := by
  unfold getA at h
  rw [Option.map_eq_some_iff] at h
  obtain ⟨p, hp, rfl⟩ := h
  have h1 := List.find?_some hp
  have h2 := List.mem_of_find?_eq_some hp
  simp only [decide_eq_true_eq] at h1
  subst h1; exact h2
theorem getA_mem {l : List (Key × α)} {k : Key} : k ∈ l.map (·.1) ↔ ∃ v, getA l k = some v := by
  constructor
  · intro h
    cases hg : getA l k with
    | none => exact absurd h (getA_none.1 hg)
    | some v => exact ⟨v, rfl⟩
  · rintro ⟨v, h⟩
    exact List.mem_map.2 ⟨_, getA_some h, rfl⟩
theorem getA_append {l r : List (Key × α)} (k : Key) : getA (l ++ r) k = (getA l k).or (getA r k) := by
  unfold getA
  rw [List.find?_append]
  cases l.find? (fun p => decide (p.1 = k)) <;> rfl
theorem putA_keys (l : List (Key × α)) (k : Key) (v : α) : (putA l k v).map (·.1) = addKey (l.map (·.1)) k := by
  unfold putA addKey
  split
  · rw [List.map_map]
    refine List.map_congr_left fun p _ => ?_
    simp only [Function.comp]
    split
    · rename_i h; exact h.symm
    · rfl
  · rw [List.map_append]; rfl
theorem getA_put (l : List (Key × α)) (k k' : Key) (v : α) : getA (putA l k v) k' = if k' = k then some v else getA l k' := by
  unfold putA
  split
  · rename_i hk
    have key : ∀ l : List (Key × α), getA (l.map (fun p => if p.1 = k then (k, v) else p)) k' = if k' = k then (if k ∈ l.map (·.1) then some v else none) else getA l k' := by
      intro l
      induction l with
      | nil => simp [getA]
      | cons p l ih =>
        unfold getA at ih ⊢
        rw [List.map_cons, List.find?_cons, List.find?_cons]
        by_cases h1 : p.1 = k
        · by_cases h2 : k' = k
          · subst h2; simp [h1]
          · have h3 : ¬ k = k' := fun e => h2 e.symm
            rw [if_pos h1]
            simp only [decide_eq_false h3, h1, if_neg h2] at ih ⊢
            exact ih
        · rw [if_neg h1]
          by_cases h2 : p.1 = k'
          · have h3 : ¬ k' = k := fun e => h1 (h2.trans e)
            simp [h2, h3]
          · simp only [decide_eq_false h2]
            rw [ih]
            by_cases h3 : k' = k
            · have : (k ∈ (p :: l).map (·.1)) ↔ k ∈ l.map (·.1) := by
                rw [List.map_cons, List.mem_cons]
                exact ⟨fun h => h.resolve_left (fun e => h1 e.symm), .inr⟩
              simp only [if_pos h3, this]
            · simp only [if_neg h3]
    rw [key, if_pos hk]
  · rename_i hk
    rw [getA_append]
    by_cases h : k' = k
    · subst h
      rw [getA_none.2 hk, if_pos rfl]; simp [getA]
    · rw [if_neg h]
      have : getA [(k, v)] k' = none := getA_none.2 (by simpa using h)
      rw [this, Option.or_none]
theorem imageOf_get {m : List Bd} {k : Key} {t : Tm} (h : getA m k = some t) : imageOf m k = t := by
  unfold getA at h
  rw [Option.map_eq_some_iff] at h
  obtain ⟨p, hp, rfl⟩ := h
  unfold imageOf
  rw [hp]
end

theorem _root_.Go.World.ownsMap.tight {H : Type} {P : Program} {k : TypeId} {R : Value → Option (DataW H × List MemPlace)} {w : World} {b n m : Nat} {D : DataW H} (h : w.ownsMap P k R b n D) (hm : Maps.size D = m) : w.ownsMap P k R b m D := by
  obtain ⟨es, clock, hb, F, _, hD⟩ := h
  refine ⟨es, clock, hb, F, ?_, hD⟩
  subst hD
  have e1 : Maps.size (DataW.map ((es.toList.map (Go.WideElems.rg P k R)).foldr DataW.insert [])) = es.size := by simp [Maps.size, length_sorted]
  omega

/-- what a map's datum says of the bindings l -/
structure TInv (n : Nat) (W : World) (D : DataW Value) (l : List Bd) : Prop where
  tidy : Tidy D
  nodup : (l.map (·.1)).Nodup
  size : Maps.size D = l.length
  has : ∀ k, Maps.has D (.string k) = decide (k ∈ l.map (·.1))
  at_ : ∀ k t, getA l k = some t → ∃ s, (∀ z, D.atKey (.string k) z = .held (tmv t s)) ∧ SlIs n W t.ts s
/-- block mb holds a map of terms -/
def TMap (n : Nat) (W : World) (mb : Nat) (l : List Bd) : Prop := ∃ D : DataW Value, W.ownsMap Tryz.prog 9 imgR mb l.length D ∧ TInv n W D l
theorem TMap.lt {n : Nat} {W : World} {mb : Nat} {l : List Bd} (h : TMap n W mb l) : mb < W.heap.size := by obtain ⟨D, h, _⟩ := h; exact h.lt
theorem TMap.nodup {n : Nat} {W : World} {mb : Nat} {l : List Bd} (h : TMap n W mb l) : (l.map (·.1)).Nodup := by obtain ⟨D, _, h⟩ := h; exact h.nodup
theorem TMap.kept {n n' m mb : Nat} {A B : World} {l : List Bd} (h : TMap n A mb l) (hk : KpC n' A B) (hn : n ≤ m) (hm : B.heap[mb]? = A.heap[mb]?) : TMap m B mb l := by
  obtain ⟨D, ⟨es, cl, hes, h1⟩, h2⟩ := h
  exact ⟨D, ⟨es, cl, hm.trans hes, h1⟩, h2.tidy, h2.nodup, h2.size, h2.has, fun k t hg => by obtain ⟨s, h3, h4⟩ := h2.at_ k t hg; exact ⟨s, h3, h4.kp hk hn⟩⟩
theorem TInv.empty (n : Nat) (W : World) : TInv n W (.map []) [] := ⟨tidy_empty, by simp, rfl, fun k => by simp [Maps.has_eq], fun k t h => by cases h⟩
theorem TInv.put {n : Nat} {W : World} {D : DataW Value} {l : List Bd} (h : TInv n W D l) {k : Key} {t : Tm} {s : Value} (hs : SlIs n W t.ts s) : TInv n W (D.put (.string k) (.held (tmv t s))) (putA l k t) := by
  have hl : WideAt.IsKeyLit (.string k) := trivial
  have hks := putA_keys l k t
  refine ⟨h.tidy.put hl _, by rw [hks]; exact addKey_nodup h.nodup _, ?_, fun k' => ?_, fun k' t' hg => ?_⟩
  · have h1 : (putA l k t).length = ((putA l k t).map (·.1)).length := by rw [List.length_map]
    rw [h1, hks, size_put h.tidy, h.has, h.size]
    unfold addKey
    by_cases e : k ∈ l.map (·.1)
    · simp only [e, decide_true, if_true, List.length_map]
    · simp only [e, decide_false, if_false, List.length_append, List.length_map]; simp
  · rw [hks]
    by_cases e : k' = k
    · subst e; rw [has_put_same h.tidy.isMap hl]; simp [addKey_mem]
    · rw [has_put_other (by simpa using e), h.has]
      unfold addKey
      split
      · rfl
      · simp [e]
  · rw [getA_put] at hg
    by_cases e : k' = k
    · subst e
      rw [if_pos rfl] at hg; cases hg
      exact ⟨s, fun z => atKey_put_same h.tidy.isMap hl _ z, hs⟩
    · rw [if_neg e] at hg
      obtain ⟨s', h1, h2⟩ := h.at_ k' t' hg
      exact ⟨s', fun z => by rw [atKey_put_other (by simpa using e)]; exact h1 z, h2⟩

/-- block mb holds a map of strings -/
structure KInv (D : DataW Unit) (l : List (Key × Key)) : Prop where
  tidy : Tidy D
  nodup : (l.map (·.1)).Nodup
  size : Maps.size D = l.length
  has : ∀ k, Maps.has D (.string k) = decide (k ∈ l.map (·.1))
  at_ : ∀ k v, getA l k = some v → ∀ z, D.atKey (.string k) z = .lit (.string v)
def KMap (W : World) (mb : Nat) (l : List (Key × Key)) : Prop := ∃ D : DataW Unit, W.ownsMap Tryz.prog 9 (plainElem Tryz.prog 9) mb l.length D ∧ KInv D l
theorem KMap.lt {W : World} {mb : Nat} {l : List (Key × Key)} (h : KMap W mb l) : mb < W.heap.size := by obtain ⟨D, h, _⟩ := h; exact h.lt
theorem KMap.kept {mb : Nat} {A B : World} {l : List (Key × Key)} (h : KMap A mb l) (hm : B.heap[mb]? = A.heap[mb]?) : KMap B mb l := by
  obtain ⟨D, ⟨es, cl, hes, h1⟩, h2⟩ := h
  exact ⟨D, ⟨es, cl, hm.trans hes, h1⟩, h2⟩
theorem KInv.empty : KInv (.map []) [] := ⟨tidy_empty, by simp, rfl, fun k => by simp [Maps.has_eq], fun k t h => by cases h⟩
theorem KInv.put {D : DataW Unit} {l : List (Key × Key)} (h : KInv D l) (k v : Key) : KInv (D.put (.string k) (.lit (.string v))) (putA l k v) := by
  have hl : WideAt.IsKeyLit (.string k) := trivial
  have hks := putA_keys l k v
  refine ⟨h.tidy.put hl _, by rw [hks]; exact addKey_nodup h.nodup _, ?_, fun k' => ?_, fun k' t' hg z => ?_⟩
  · have h1 : (putA l k v).length = ((putA l k v).map (·.1)).length := by rw [List.length_map]
    rw [h1, hks, size_put h.tidy, h.has, h.size]
    unfold addKey
    by_cases e : k ∈ l.map (·.1)
    · simp only [e, decide_true, if_true, List.length_map]
    · simp only [e, decide_false, if_false, List.length_append, List.length_map]; simp
  · rw [hks]
    by_cases e : k' = k
    · subst e; rw [has_put_same h.tidy.isMap hl]; simp [addKey_mem]
    · rw [has_put_other (by simpa using e), h.has]
      unfold addKey
      split
      · rfl
      · simp [e]
  · rw [getA_put] at hg
    by_cases e : k' = k
    · subst e
      rw [if_pos rfl] at hg; cases hg
      exact atKey_put_same h.tidy.isMap hl _ z
    · rw [if_neg e] at hg
      rw [atKey_put_other (by simpa using e)]; exact h.at_ k' t' hg z

/-- pairs one after the other, as long as the answer is yes -/
def eqf {σ : Type} (step : σ → Tm → Tm → Option (Bool × σ)) : σ → List Tm → List Tm → Option (Bool × σ)
  | S, [], _ => some (true, S)
  | S, _ :: _, [] => some (true, S)
  | S, t :: l, u :: r => match step S t u with
    | none => none
    | some (false, S1) => some (false, S1)
    | some (true, S1) => eqf step S1 l r
end Go.Proofs.YtamddagmlanijaaGreat
/- Maps of terms at the walk: a key that is there, one that is not, a store. -/
namespace Go.Proofs.YtamddagmlanijaaGreat
open Go.RowKit Go.Maps

abbrev zTm : Value := .agg #[.string ⟨#[]⟩, .bool false, .slice none 0 0]
theorem zeroTm (w : World) : (zeroValue 25).run Tryz.prog w = .ok zTm w := Tryz.zeroValue25 w
theorem TMap.at {n : Nat} {W : World} {mb : Nat} {l : List Bd} (h : TMap n W mb l) {k : Key} {t : Tm} (hk : getA l k = some t) :
    ∃ D s, W.ownsMap Tryz.prog 9 imgR mb l.length D ∧ Maps.has D (.string k) = true ∧ (∀ z, D.atKey (.string k) z = .held (tmv t s)) ∧ SlIs n W t.ts s := by
  obtain ⟨D, h1, h2⟩ := h
  obtain ⟨s, h3, h4⟩ := h2.at_ k t hk
  exact ⟨D, s, h1, by rw [h2.has]; exact decide_eq_true (getA_mem.2 ⟨t, hk⟩), h3, h4⟩
theorem TMap.no {n : Nat} {W : World} {mb : Nat} {l : List Bd} (h : TMap n W mb l) {k : Key} (hk : getA l k = none) :
    ∃ D, W.ownsMap Tryz.prog 9 imgR mb l.length D ∧ Maps.has D (.string k) = false ∧ TInv n W D l := by
  obtain ⟨D, h1, h2⟩ := h
  exact ⟨D, h1, by rw [h2.has]; exact decide_eq_false (getA_none.1 hk), h2⟩
section
variable (w : World) {ops : Array Oper} {rest : List Oper} {o : Oper} {a : Act} {Q : Exit → Act → World → Prop}
theorem tlook_hit (ty : TypeId) (hty : Tryz.prog.underlying ty = some (.map 9 25)) (hg : o.guard = none) (m x : Operand) (hop : o.op = Op.lookup ty m x true) (b n : Nat) (D : DataW Value) (hm : a.eval m = .map (some b)) (hown : w.ownsMap Tryz.prog 9 imgR b n D)
    (key : Value) (kl : Lit) (hx : a.eval x = key) (hkey : keyOf Tryz.prog 9 key = some kl) (val : Value) (hat : ∀ z, D.atKey kl z = .held val) (hh : Maps.has D kl = true)
    (hK : wpList Tryz.prog ops Q rest (a.put o.dst (.tuple #[val, .bool true])) w) : wpList Tryz.prog ops Q (o :: rest) a w :=
  wpList_lookup_own_ok _ hg m x ty hop 9 25 strKeyed hty imgR (zeroTm w) (.held zTm) [] rfl b n D hm hown key kl hx hkey fun v ps hv => by
    rw [hat] at hv
    simp only [imgR, Option.some.injEq, Prod.mk.injEq, DataW.held.injEq] at hv
    obtain ⟨rfl, -⟩ := hv
    rw [hh]; exact hK
theorem tlook_miss (ty : TypeId) (hty : Tryz.prog.underlying ty = some (.map 9 25)) (hg : o.guard = none) (m x : Operand) (hop : o.op = Op.lookup ty m x true) (b n : Nat) (D : DataW Value) (hm : a.eval m = .map (some b)) (hown : w.ownsMap Tryz.prog 9 imgR b n D)
    (key : Value) (kl : Lit) (hx : a.eval x = key) (hkey : keyOf Tryz.prog 9 key = some kl) (hh : Maps.has D kl = false)
    (hK : wpList Tryz.prog ops Q rest (a.put o.dst (.tuple #[zTm, .bool false])) w) : wpList Tryz.prog ops Q (o :: rest) a w :=
  wpList_lookup_own_ok _ hg m x ty hop 9 25 strKeyed hty imgR (zeroTm w) (.held zTm) [] rfl b n D hm hown key kl hx hkey fun v ps hv => by
    rw [atKey_of_not_has hh] at hv
    simp only [imgR, Option.some.injEq, Prod.mk.injEq, DataW.held.injEq] at hv
    obtain ⟨rfl, -⟩ := hv
    rw [hh]; exact hK
/-- without 'ok': the value that is there -/
theorem tlook_plain (ty : TypeId) (hty : Tryz.prog.underlying ty = some (.map 9 25)) (hg : o.guard = none) (m x : Operand) (hop : o.op = Op.lookup ty m x false) (b n : Nat) (D : DataW Value) (hm : a.eval m = .map (some b)) (hown : w.ownsMap Tryz.prog 9 imgR b n D)
    (key : Value) (kl : Lit) (hx : a.eval x = key) (hkey : keyOf Tryz.prog 9 key = some kl) (val : Value) (hat : ∀ z, D.atKey kl z = .held val)
    (hK : wpList Tryz.prog ops Q rest (a.put o.dst val) w) : wpList Tryz.prog ops Q (o :: rest) a w :=
  wpList_lookup_own_plain _ hg m x ty hop 9 25 strKeyed hty imgR (zeroTm w) (.held zTm) [] rfl b n D hm hown key kl hx hkey fun v ps hv => by
    rw [hat] at hv
    simp only [imgR, Option.some.injEq, Prod.mk.injEq, DataW.held.injEq] at hv
    obtain ⟨rfl, -⟩ := hv
    exact hK
end
theorem putA_new {α : Type} {l : List (Key × α)} {k : Key} (v : α) (h : k ∉ l.map (·.1)) : putA l k v = l ++ [(k, v)] := by unfold putA; rw [if_neg h]
/-- a map of terms after a store -/
theorem TMap.store {n n' : Nat} {W W' : World} {mb : Nat} {l : List Bd} {D : DataW Value} (hi : TInv n W D l) {k : Key} {t : Tm} {s : Value} (hs : SlIs n W t.ts s) {j : Nat} (ho : W'.ownsMap Tryz.prog 9 imgR mb j (D.put (.string k) (.held (tmv t s)))) (hk : KpC n' W W') {m : Nat} (hm : n ≤ m) : TMap m W' mb (putA l k t) := by
  have h := hi.put (k := k) hs
  exact ⟨_, ho.tight h.size, h.tidy, h.nodup, h.size, h.has, fun k' t' hg => by obtain ⟨s', h1, h2⟩ := h.at_ k' t' hg; exact ⟨s', h1, h2.kp hk hm⟩⟩

/-- a map of terms whose arguments lie in blocks of which p holds -/
structure TInvP (p : Nat → Prop) (W : World) (D : DataW Value) (l : List Bd) : Prop where
  tidy : Tidy D
  nodup : (l.map (·.1)).Nodup
  size : Maps.size D = l.length
  has : ∀ k, Maps.has D (.string k) = decide (k ∈ l.map (·.1))
  at_ : ∀ k t, getA l k = some t → ∃ s, (∀ z, D.atKey (.string k) z = .held (tmv t s)) ∧ SlP p W t.ts s
def TMapP (p : Nat → Prop) (W : World) (mb : Nat) (l : List Bd) : Prop := ∃ D : DataW Value, W.ownsMap Tryz.prog 9 imgR mb l.length D ∧ TInvP p W D l
theorem TMapP.lt {p : Nat → Prop} {W : World} {mb : Nat} {l : List Bd} (h : TMapP p W mb l) : mb < W.heap.size := by obtain ⟨D, h, _⟩ := h; exact h.lt
theorem TInvP.empty (p : Nat → Prop) (W : World) : TInvP p W (.map []) [] := ⟨tidy_empty, by simp, rfl, fun k => by simp [Maps.has_eq], fun k t h => by cases h⟩
theorem SlP.kpc {p : Nat → Prop} {n : Nat} {A B : World} (h : KpC n A B) {l : List Tm} {s : Value} (hs : SlP p A l s) : SlP p B l s := by
  induction hs with
  | nil0 => exact .nil0
  | nil1 a cap => exact .nil1 a cap
  | row b o cap l s hl hb hc cells _ hf ih =>
    have hblk : B.heap[b]? = A.heap[b]? := by
      obtain ⟨t, r, rfl⟩ : ∃ t r, l = t :: r := by
        cases l with
        | nil => exact absurd rfl hl
        | cons t r => exact ⟨t, r, rfl⟩
      exact h.same (cells 0 t rfl).1
    refine .row b o cap l s hl hb hc (fun i t ht => ?_) ih (fun i hi => (frozen_same hblk _).trans (hf i hi))
    obtain ⟨h1, h2, h3⟩ := cells i t ht
    exact ⟨h.cell h1, h.cell h2, h.cell h3⟩
theorem TMapP.map {p q : Nat → Prop} {A B : World} {mb : Nat} {l : List Bd} (h : TMapP p A mb l) (hm : B.heap[mb]? = A.heap[mb]?) (hc : ∀ (t : Tm) (s : Value), SlP p A t.ts s → SlP q B t.ts s) : TMapP q B mb l := by
  obtain ⟨D, ⟨es, cl, hes, h1⟩, h2⟩ := h
  exact ⟨D, ⟨es, cl, hm.trans hes, h1⟩, h2.tidy, h2.nodup, h2.size, h2.has, fun k t hg => by obtain ⟨s, h3, h4⟩ := h2.at_ k t hg; exact ⟨s, h3, hc t s h4⟩⟩
theorem TMapP.at {p : Nat → Prop} {W : World} {mb : Nat} {l : List Bd} (h : TMapP p W mb l) {k : Key} {t : Tm} (hk : getA l k = some t) :
    ∃ D s, W.ownsMap Tryz.prog 9 imgR mb l.length D ∧ Maps.has D (.string k) = true ∧ (∀ z, D.atKey (.string k) z = .held (tmv t s)) ∧ SlP p W t.ts s := by
  obtain ⟨D, h1, h2⟩ := h
  obtain ⟨s, h3, h4⟩ := h2.at_ k t hk
  exact ⟨D, s, h1, by rw [h2.has]; exact decide_eq_true (getA_mem.2 ⟨t, hk⟩), h3, h4⟩
theorem TMapP.no {p : Nat → Prop} {W : World} {mb : Nat} {l : List Bd} (h : TMapP p W mb l) {k : Key} (hk : getA l k = none) :
    ∃ D, W.ownsMap Tryz.prog 9 imgR mb l.length D ∧ Maps.has D (.string k) = false ∧ TInvP p W D l := by
  obtain ⟨D, h1, h2⟩ := h
  exact ⟨D, h1, by rw [h2.has]; exact decide_eq_false (getA_none.1 hk), h2⟩
theorem TInvP.put {p : Nat → Prop} {W : World} {D : DataW Value} {l : List Bd} (h : TInvP p W D l) {k : Key} {t : Tm} {s : Value} (hs : SlP p W t.ts s) : TInvP p W (D.put (.string k) (.held (tmv t s))) (putA l k t) := by
  have hl : WideAt.IsKeyLit (.string k) := trivial
  have hks := putA_keys l k t
  refine ⟨h.tidy.put hl _, by rw [hks]; exact addKey_nodup h.nodup _, ?_, fun k' => ?_, fun k' t' hg => ?_⟩
  · have h1 : (putA l k t).length = ((putA l k t).map (·.1)).length := by rw [List.length_map]
    rw [h1, hks, size_put h.tidy, h.has, h.size]
    unfold addKey
    by_cases e : k ∈ l.map (·.1)
    · simp only [e, decide_true, if_true, List.length_map]
    · simp only [e, decide_false, if_false, List.length_append, List.length_map]; simp
  · rw [hks]
    by_cases e : k' = k
    · subst e; rw [has_put_same h.tidy.isMap hl]; simp [addKey_mem]
    · rw [has_put_other (by simpa using e), h.has]
      unfold addKey
      split
      · rfl
      · simp [e]
  · rw [getA_put] at hg
    by_cases e : k' = k
    · subst e
      rw [if_pos rfl] at hg; cases hg
      exact ⟨s, fun z => atKey_put_same h.tidy.isMap hl _ z, hs⟩
    · rw [if_neg e] at hg
      obtain ⟨s', h1, h2⟩ := h.at_ k' t' hg
      exact ⟨s', fun z => by rw [atKey_put_other (by simpa using e)]; exact h1 z, h2⟩
/-- after a store -/
theorem TMapP.store {p : Nat → Prop} {n : Nat} {W W' : World} {mb : Nat} {l : List Bd} {D : DataW Value} (hi : TInvP p W D l) {k : Key} {t : Tm} {s : Value} (hs : SlP p W t.ts s) {j : Nat} (ho : W'.ownsMap Tryz.prog 9 imgR mb j (D.put (.string k) (.held (tmv t s)))) (hk : KpC n W W') : TMapP p W' mb (putA l k t) := by
  have h := hi.put (k := k) hs
  exact ⟨_, ho.tight h.size, h.tidy, h.nodup, h.size, h.has, fun k' t' hg => by obtain ⟨s', h1, h2⟩ := h.at_ k' t' hg; exact ⟨s', h1, h2.kpc hk⟩⟩
end Go.Proofs.YtamddagmlanijaaGreat
/- Maps of strings to values held as they are. -/
namespace Go.Proofs.YtamddagmlanijaaGreat
open Go.RowKit Go.Maps

structure HInv {α : Type} (enc : α → Value) (D : DataW Value) (l : List (Key × α)) : Prop where
  tidy : Tidy D
  nodup : (l.map (·.1)).Nodup
  size : Maps.size D = l.length
  has : ∀ k, Maps.has D (.string k) = decide (k ∈ l.map (·.1))
  at_ : ∀ k v, getA l k = some v → ∀ z, D.atKey (.string k) z = .held (enc v)
def HMap {α : Type} (enc : α → Value) (W : World) (mb : Nat) (l : List (Key × α)) : Prop := ∃ D : DataW Value, W.ownsMap Tryz.prog 9 imgR mb l.length D ∧ HInv enc D l
section
variable {α : Type} {enc : α → Value}
theorem HMap.lt {W : World} {mb : Nat} {l : List (Key × α)} (h : HMap enc W mb l) : mb < W.heap.size := by obtain ⟨D, h, _⟩ := h; exact h.lt
theorem HMap.kept {mb : Nat} {A B : World} {l : List (Key × α)} (h : HMap enc A mb l) (hm : B.heap[mb]? = A.heap[mb]?) : HMap enc B mb l := by
  obtain ⟨D, ⟨es, cl, hes, h1⟩, h2⟩ := h
  exact ⟨D, ⟨es, cl, hm.trans hes, h1⟩, h2⟩
theorem HMap.nodup {mb : Nat} {A : World} {l : List (Key × α)} (h : HMap enc A mb l) : (l.map (·.1)).Nodup := by obtain ⟨D, _, h⟩ := h; exact h.nodup
theorem HMap.at {W : World} {mb : Nat} {l : List (Key × α)} (h : HMap enc W mb l) {k : Key} {v : α} (hk : getA l k = some v) :
    ∃ D : DataW Value, W.ownsMap Tryz.prog 9 imgR mb l.length D ∧ Maps.has D (.string k) = true ∧ (∀ z, D.atKey (.string k) z = .held (enc v)) := by
  obtain ⟨D, h1, h2⟩ := h
  exact ⟨D, h1, by rw [h2.has]; exact decide_eq_true (getA_mem.2 ⟨v, hk⟩), h2.at_ k v hk⟩
theorem HMap.no {W : World} {mb : Nat} {l : List (Key × α)} (h : HMap enc W mb l) {k : Key} (hk : getA l k = none) :
    ∃ D : DataW Value, W.ownsMap Tryz.prog 9 imgR mb l.length D ∧ Maps.has D (.string k) = false := by
  obtain ⟨D, h1, h2⟩ := h
  exact ⟨D, h1, by rw [h2.has]; exact decide_eq_false (getA_none.1 hk)⟩
theorem HInv.put {D : DataW Value} {l : List (Key × α)} (h : HInv enc D l) (k : Key) (v : α) : HInv enc (D.put (.string k) (.held (enc v))) (putA l k v) := by
  have hl : WideAt.IsKeyLit (.string k) := trivial
  have hks := putA_keys l k v
  refine ⟨h.tidy.put hl _, by rw [hks]; exact addKey_nodup h.nodup _, ?_, fun k' => ?_, fun k' t' hg z => ?_⟩
  · have h1 : (putA l k v).length = ((putA l k v).map (·.1)).length := by rw [List.length_map]
    rw [h1, hks, size_put h.tidy, h.has, h.size]
    unfold addKey
    by_cases e : k ∈ l.map (·.1)
    · simp only [e, decide_true, if_true, List.length_map]
    · simp only [e, decide_false, if_false, List.length_append, List.length_map]; simp
  · rw [hks]
    by_cases e : k' = k
    · subst e; rw [has_put_same h.tidy.isMap hl]; simp [addKey_mem]
    · rw [has_put_other (by simpa using e), h.has]
      unfold addKey
      split
      · rfl
      · simp [e]
  · rw [getA_put] at hg
    by_cases e : k' = k
    · subst e
      rw [if_pos rfl] at hg; cases hg
      exact atKey_put_same h.tidy.isMap hl _ z
    · rw [if_neg e] at hg
      rw [atKey_put_other (by simpa using e)]; exact h.at_ k' t' hg z
theorem HMap.store {W' : World} {mb : Nat} {l : List (Key × α)} {D : DataW Value} (hi : HInv enc D l) {k : Key} {v : α} {j : Nat} (ho : W'.ownsMap Tryz.prog 9 imgR mb j (D.put (.string k) (.held (enc v)))) : HMap enc W' mb (putA l k v) := by
  have h := hi.put k v
  exact ⟨_, ho.tight h.size, h⟩
theorem HMap.made (W : World) : HMap enc (W.alloc (.map #[] 0)) W.heap.size [] := ⟨_, World.ownsMap_made W _ _ _, tidy_empty, by simp, rfl, (fun k => by simp [Maps.has_eq]), fun k v h => by cases h⟩
end
section
variable (w : World) {ops : Array Oper} {rest : List Oper} {o : Oper} {a : Act} {Q : Exit → Act → World → Prop}
end

end Go.Proofs.YtamddagmlanijaaGreat
