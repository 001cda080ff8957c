/- Packed: Kp, Syr, Wkp, Wso. -/
import Derived.Test.YtnomppdmhgefiaaGreatS11
import Derived.WalkKit
import Derived.ProofKit
import Derived.OpenShut
import Derived.Handy
import Derived.Lib.Hide
import Derived.Lib.AppendIntMem
import Derived.Test.YtnomppdmhgefiaaGreatS07
import Derived.Test.YtnomppdmhgefiaaGreatS09
import Derived.Test.YtnomppdmhgefiaaGreatS10
import Derived.Test.YtnomppdmhgefiaaGreatS08
import Derived.Deep.RegionHeld3
/- What may change beside maps: blocks of cells stay. Lists of pairs as maps; a map of terms, a map of strings in memory. -/
namespace Go.Proofs.YtnomppdmhgefiaaGreat
open Go.RowKit Go.Maps

/-- blocks below n and all blocks of cells are as they were -/
structure KpC (n : Nat) (A B : World) : Prop where
  low : Below n A B
  cells : ∀ (k : Nat) (c : Array Value) (t : TypeId) (f : Nat × Nat), A.heap[k]? = some (Obj.cells c t f) → B.heap[k]? = some (Obj.cells c t f)
theorem KpC.refl (n : Nat) (A : World) : KpC n A A := ⟨Below.refl _ _, fun _ _ _ _ h => h⟩
theorem KpC.size {n : Nat} {A B : World} (h : KpC n A B) : A.heap.size ≤ B.heap.size := h.low.size
theorem KpC.trans {n : Nat} {A B C : World} (h : KpC n A B) (k : KpC n B C) : KpC n A C := ⟨h.low.trans k.low, fun i c t f hc => k.cells i c t f (h.cells i c t f hc)⟩
theorem KpC.of_below {n : Nat} {A B : World} (h : Below A.heap.size A B) (hn : n ≤ A.heap.size) : KpC n A B := ⟨h.mono hn, fun k _ _ _ hk => (h.block k (Array.getElem?_eq_some_iff.1 hk).1).trans hk⟩
theorem KpC.mono {n m : Nat} {A B : World} (h : KpC n A B) (hm : m ≤ n) : KpC m A B := ⟨h.low.mono hm, h.cells⟩
theorem KpC.drewN {n : Nat} {A B : World} (h : KpC n A B) (k : Nat) : KpC n A (B.drewN k) := ⟨below_drewN k h.low, h.cells⟩
/-- one map is written -/
theorem KpC.turned {n b : Nat} {A B : World} (h : A.mapTurned B b) (hn : n ≤ b) : KpC n A B := by
  have hg := h.grown
  obtain ⟨es, clock, es', clock', hb, rfl⟩ := h
  have hlt := (Array.getElem?_eq_some_iff.1 hb).1
  refine ⟨⟨hg.os, hg.tape, hg.output, hg.size, fun k hk => hg.block k (by omega) (fun e => by cases e; omega)⟩, fun k c t f hk => ?_⟩
  by_cases e : k = b
  · subst e; rw [hb] at hk; cases hk
  · exact (hg.block k (Array.getElem?_eq_some_iff.1 hk).1 (fun e' => e (by cases e'; rfl))).trans hk
/-- a block that was made since is written -/
theorem KpC.setNew {n : Nat} {A B : World} (h : KpC n A B) (hn : n ≤ A.heap.size) {p : Addr} (hp : A.heap.size ≤ p.block) (v : Value) : KpC n A (B.setCell p v) :=
  ⟨h.low.setCell (Nat.le_trans hn hp) v, fun k c t f hk => (Below.heap_setCell B p v k (by have := (Array.getElem?_eq_some_iff.1 hk).1; omega)).trans (h.cells k c t f hk)⟩
theorem block_of_cell {A : World} {b j : Nat} {v : Value} (h : A.cell? ⟨b, j, none⟩ = some v) : ∃ c t f, A.heap[b]? = some (.cells c t f) := by
  unfold World.cell? at h
  cases hh : A.heap[b]? with
  | none => rw [hh] at h; cases h
  | some ob =>
    cases ob with
    | cells c t fr => exact ⟨c, t, fr, rfl⟩
    | _ => rw [hh] at h; cases h
theorem KpC.same {n : Nat} {A B : World} (h : KpC n A B) {b j : Nat} {v : Value} (hc : A.cell? ⟨b, j, none⟩ = some v) : B.heap[b]? = A.heap[b]? := by
  obtain ⟨c, t, f, hb⟩ := block_of_cell hc
  rw [hb, h.cells _ _ _ _ hb]
theorem KpC.cell {n : Nat} {A B : World} (h : KpC n A B) {b j : Nat} {v : Value} (hc : A.cell? ⟨b, j, none⟩ = some v) : B.cell? ⟨b, j, none⟩ = some v :=
  (World.cell?_of_block (a := ⟨b, _, none⟩) (h.same hc)).trans hc
theorem SlIs.kp {n m n₀ : Nat} {A B : World} (h : KpC n₀ A B) (hn : n ≤ m) {l : List Tm} {s : Value} (hs : SlIs n A l s) : SlIs m B l s := by
  induction hs with
  | nil0 => exact .nil0
  | nil1 a cap => exact .nil1 a cap
  | row b o cap l s hl hb hc cells _ hf ih =>
    have hblk : B.heap[b]? = A.heap[b]? := by
      obtain ⟨t, r, rfl⟩ : ∃ t r, l = t :: r := by
        cases l with
        | nil => exact absurd rfl hl
        | cons t r => exact ⟨t, r, rfl⟩
      exact h.same (cells 0 t rfl).1
    refine .row b o cap l s hl (by omega) hc (fun i t ht => ?_) ih (fun i hi => (frozen_same hblk _).trans (hf i hi))
    obtain ⟨h1, h2, h3⟩ := cells i t ht
    exact ⟨h.cell h1, h.cell h2, h.cell h3⟩

/-- lists of pairs as maps -/
def getA {α : Type} (l : List (Key × α)) (k : Key) : Option α := (l.find? (fun p => decide (p.1 = k))).map (·.2)
def putA {α : Type} (l : List (Key × α)) (k : Key) (v : α) : List (Key × α) := if k ∈ l.map (·.1) then l.map (fun p => if p.1 = k then (k, v) else p) else l ++ [(k, v)]
section
variable {α : Type}
theorem getA_none {l : List (Key × α)} {k : Key} : getA l k = none ↔ k ∉ l.map (·.1) := by
  unfold getA
  rw [Option.map_eq_none_iff, List.find?_eq_none]
  constructor
  · intro h hm
    obtain ⟨p, hp, he⟩ := List.mem_map.1 hm
    have := h p hp
    simp [he] at this
  · intro h p hp
    simp only [decide_eq_true_eq]
    intro e; exact h (List.mem_map.2 ⟨p, hp, e⟩)
theorem getA_some {l : List (Key × α)} {k : Key} {v : α} (h : getA l k = some v) : (k, v) ∈ l := by
  unfold getA at h
  rw [Option.map_eq_some_iff] at h
  obtain ⟨p, hp, rfl⟩ := h
  have h1 := List.find?_some hp
  have h2 := List.mem_of_find?_eq_some hp
  simp only [decide_eq_true_eq] at h1
  subst h1; exact h2
theorem getA_mem {l : List (Key × α)} {k : Key} : k ∈ l.map (·.1) ↔ ∃ v, getA l k = some v := by
  constructor
  · intro h
    cases hg : getA l k with
    | none => exact absurd h (getA_none.1 hg)
    | some v => exact ⟨v, rfl⟩
  · rintro ⟨v, h⟩
    exact List.mem_map.2 ⟨_, getA_some h, rfl⟩
theorem getA_append {l r : List (Key × α)} (k : Key) : getA (l ++ r) k = (getA l k).or (getA r k) := by
  unfold getA
  rw [List.find?_append]
  cases l.find? (fun p => decide (p.1 = k)) <;> rfl
theorem putA_keys (l : List (Key × α)) (k : Key) (v : α) : (putA l k v).map (·.1) = addKey (l.map (·.1)) k := by
  unfold putA addKey
  split
  · rw [List.map_map]
    refine List.map_congr_left fun p _ => ?_
    simp only [Function.comp]
    split
    · rename_i h; exact h.symm
    · rfl
  · rw [List.map_append]; rfl
theorem getA_put (l : List (Key × α)) (k k' : Key) (v : α) : getA (putA l k v) k' = if k' = k then some v else getA l k' := by
  unfold putA
  split
  · rename_i hk
    have key : ∀ l : List (Key × α), getA (l.map (fun p => if p.1 = k then (k, v) else p)) k' = if k' = k then (if k ∈ l.map (·.1) then some v else none) else getA l k' := by
      intro l
      induction l with
      | nil => simp [getA]
      | cons p l ih =>
        unfold getA at ih ⊢
        rw [List.map_cons, List.find?_cons, List.find?_cons]
        by_cases h1 : p.1 = k
        · by_cases h2 : k' = k
          · subst h2; simp [h1]
          · have h3 : ¬ k = k' := fun e => h2 e.symm
            rw [if_pos h1]
            simp only [decide_eq_false h3, h1, if_neg h2] at ih ⊢
            exact ih
        · rw [if_neg h1]
          by_cases h2 : p.1 = k'
          · have h3 : ¬ k' = k := fun e => h1 (h2.trans e)
            simp [h2, h3]
          · simp only [decide_eq_false h2]
            rw [ih]
            by_cases h3 : k' = k
            · have : (k ∈ (p :: l).map (·.1)) ↔ k ∈ l.map (·.1) := by
                rw [List.map_cons, List.mem_cons]
                exact ⟨fun h => h.resolve_left (fun e => h1 e.symm), .inr⟩
              simp only [if_pos h3, this]
            · simp only [if_neg h3]
    rw [key, if_pos hk]
  · rename_i hk
    rw [getA_append]
    by_cases h : k' = k
    · subst h
      rw [getA_none.2 hk, if_pos rfl]; simp [getA]
    · rw [if_neg h]
      have : getA [(k, v)] k' = none := getA_none.2 (by simpa using h)
      rw [this, Option.or_none]
theorem imageOf_get {m : List Bd} {k : Key} {t : Tm} (h : getA m k = some t) : imageOf m k = t := by
  unfold getA at h
  rw [Option.map_eq_some_iff] at h
  obtain ⟨p, hp, rfl⟩ := h
  unfold imageOf
  rw [hp]
end

theorem _root_.Go.World.ownsMap.tight {H : Type} {P : Program} {k : TypeId} {R : Value → Option (DataW H × List MemPlace)} {w : World} {b n m : Nat} {D : DataW H} (h : w.ownsMap P k R b n D) (hm : Maps.size D = m) : w.ownsMap P k R b m D := by
  obtain ⟨es, clock, hb, F, _, hD⟩ := h
  refine ⟨es, clock, hb, F, ?_, hD⟩
  subst hD
  have e1 : Maps.size (DataW.map ((es.toList.map (Go.WideElems.rg P k R)).foldr DataW.insert [])) = es.size := by simp [Maps.size, length_sorted]
  omega

/-- what a map's datum says of the bindings l -/
structure TInv (n : Nat) (W : World) (D : DataW Value) (l : List Bd) : Prop where
  tidy : Tidy D
  nodup : (l.map (·.1)).Nodup
  size : Maps.size D = l.length
  has : ∀ k, Maps.has D (.string k) = decide (k ∈ l.map (·.1))
  at_ : ∀ k t, getA l k = some t → ∃ s, (∀ z, D.atKey (.string k) z = .held (tmv t s)) ∧ SlIs n W t.ts s
/-- block mb holds a map of terms -/
def TMap (n : Nat) (W : World) (mb : Nat) (l : List Bd) : Prop := ∃ D : DataW Value, W.ownsMap Tryz.prog 9 imgR mb l.length D ∧ TInv n W D l
theorem TMap.lt {n : Nat} {W : World} {mb : Nat} {l : List Bd} (h : TMap n W mb l) : mb < W.heap.size := by obtain ⟨D, h, _⟩ := h; exact h.lt
theorem TMap.nodup {n : Nat} {W : World} {mb : Nat} {l : List Bd} (h : TMap n W mb l) : (l.map (·.1)).Nodup := by obtain ⟨D, _, h⟩ := h; exact h.nodup
theorem TMap.kept {n n' m mb : Nat} {A B : World} {l : List Bd} (h : TMap n A mb l) (hk : KpC n' A B) (hn : n ≤ m) (hm : B.heap[mb]? = A.heap[mb]?) : TMap m B mb l := by
  obtain ⟨D, ⟨es, cl, hes, h1⟩, h2⟩ := h
  exact ⟨D, ⟨es, cl, hm.trans hes, h1⟩, h2.tidy, h2.nodup, h2.size, h2.has, fun k t hg => by obtain ⟨s, h3, h4⟩ := h2.at_ k t hg; exact ⟨s, h3, h4.kp hk hn⟩⟩
theorem TInv.empty (n : Nat) (W : World) : TInv n W (.map []) [] := ⟨tidy_empty, by simp, rfl, fun k => by simp [Maps.has_eq], fun k t h => by cases h⟩
theorem TInv.put {n : Nat} {W : World} {D : DataW Value} {l : List Bd} (h : TInv n W D l) {k : Key} {t : Tm} {s : Value} (hs : SlIs n W t.ts s) : TInv n W (D.put (.string k) (.held (tmv t s))) (putA l k t) := by
  have hl : WideAt.IsKeyLit (.string k) := trivial
  have hks := putA_keys l k t
  refine ⟨h.tidy.put hl _, by rw [hks]; exact addKey_nodup h.nodup _, ?_, fun k' => ?_, fun k' t' hg => ?_⟩
  · have h1 : (putA l k t).length = ((putA l k t).map (·.1)).length := by rw [List.length_map]
    rw [h1, hks, size_put h.tidy, h.has, h.size]
    unfold addKey
    by_cases e : k ∈ l.map (·.1)
    · simp only [e, decide_true, if_true, List.length_map]
    · simp only [e, decide_false, if_false, List.length_append, List.length_map]; simp
  · rw [hks]
    by_cases e : k' = k
    · subst e; rw [has_put_same h.tidy.isMap hl]; simp [addKey_mem]
    · rw [has_put_other (by simpa using e), h.has]
      unfold addKey
      split
      · rfl
      · simp [e]
  · rw [getA_put] at hg
    by_cases e : k' = k
    · subst e
      rw [if_pos rfl] at hg; cases hg
      exact ⟨s, fun z => atKey_put_same h.tidy.isMap hl _ z, hs⟩
    · rw [if_neg e] at hg
      obtain ⟨s', h1, h2⟩ := h.at_ k' t' hg
      exact ⟨s', fun z => by rw [atKey_put_other (by simpa using e)]; exact h1 z, h2⟩

/-- block mb holds a map of strings -/
structure KInv (D : DataW Unit) (l : List (Key × Key)) : Prop where
  tidy : Tidy D
  nodup : (l.map (·.1)).Nodup
  size : Maps.size D = l.length
  has : ∀ k, Maps.has D (.string k) = decide (k ∈ l.map (·.1))
  at_ : ∀ k v, getA l k = some v → ∀ z, D.atKey (.string k) z = .lit (.string v)
def KMap (W : World) (mb : Nat) (l : List (Key × Key)) : Prop := ∃ D : DataW Unit, W.ownsMap Tryz.prog 9 (plainElem Tryz.prog 9) mb l.length D ∧ KInv D l
theorem KMap.lt {W : World} {mb : Nat} {l : List (Key × Key)} (h : KMap W mb l) : mb < W.heap.size := by obtain ⟨D, h, _⟩ := h; exact h.lt
theorem KMap.kept {mb : Nat} {A B : World} {l : List (Key × Key)} (h : KMap A mb l) (hm : B.heap[mb]? = A.heap[mb]?) : KMap B mb l := by
  obtain ⟨D, ⟨es, cl, hes, h1⟩, h2⟩ := h
  exact ⟨D, ⟨es, cl, hm.trans hes, h1⟩, h2⟩
theorem KInv.empty : KInv (.map []) [] := ⟨tidy_empty, by simp, rfl, fun k => by simp [Maps.has_eq], fun k t h => by cases h⟩
theorem KInv.put {D : DataW Unit} {l : List (Key × Key)} (h : KInv D l) (k v : Key) : KInv (D.put (.string k) (.lit (.string v))) (putA l k v) := by
  have hl : WideAt.IsKeyLit (.string k) := trivial
  have hks := putA_keys l k v
  refine ⟨h.tidy.put hl _, by rw [hks]; exact addKey_nodup h.nodup _, ?_, fun k' => ?_, fun k' t' hg z => ?_⟩
  · have h1 : (putA l k v).length = ((putA l k v).map (·.1)).length := by rw [List.length_map]
    rw [h1, hks, size_put h.tidy, h.has, h.size]
    unfold addKey
    by_cases e : k ∈ l.map (·.1)
    · simp only [e, decide_true, if_true, List.length_map]
    · simp only [e, decide_false, if_false, List.length_append, List.length_map]; simp
  · rw [hks]
    by_cases e : k' = k
    · subst e; rw [has_put_same h.tidy.isMap hl]; simp [addKey_mem]
    · rw [has_put_other (by simpa using e), h.has]
      unfold addKey
      split
      · rfl
      · simp [e]
  · rw [getA_put] at hg
    by_cases e : k' = k
    · subst e
      rw [if_pos rfl] at hg; cases hg
      exact atKey_put_same h.tidy.isMap hl _ z
    · rw [if_neg e] at hg
      rw [atKey_put_other (by simpa using e)]; exact h.at_ k' t' hg z

/-- pairs one after the other, as long as the answer is yes -/
def eqf {σ : Type} (step : σ → Tm → Tm → Option (Bool × σ)) : σ → List Tm → List Tm → Option (Bool × σ)
  | S, [], _ => some (true, S)
  | S, _ :: _, [] => some (true, S)
  | S, t :: l, u :: r => match step S t u with
    | none => none
    | some (false, S1) => some (false, S1)
    | some (true, S1) => eqf step S1 l r
end Go.Proofs.YtnomppdmhgefiaaGreat
/- Symbols being appended: rows of them in memory. -/
namespace Go.Proofs.YtnomppdmhgefiaaGreat
open Go.RowKit Go.Maps

/-- a symbol: name, arity -/
abbrev Sy := Key × Int
def syCells (l : List Sy) : List Value := l.flatMap fun p => [.string (kb p.1), .int .i64 p.2]
theorem syCells_append (a b : List Sy) : syCells (a ++ b) = syCells a ++ syCells b := by simp [syCells]
theorem syCells_at (l : List Sy) (i : Nat) (p : Sy) (h : l[i]? = some p) : (syCells l)[i * 2]? = some (.string (kb p.1)) ∧ (syCells l)[i * 2 + 1]? = some (.int .i64 p.2) := by
  induction l generalizing i with
  | nil => simp at h
  | cons q l ih =>
    cases i with
    | zero => simp at h; subst h; simp [syCells]
    | succ i =>
      obtain ⟨h1, h2⟩ := ih i (by simpa using h)
      have e : ∀ r, (i + 1) * 2 + r = i * 2 + r + 2 := fun r => by omega
      refine ⟨?_, ?_⟩
      · have := e 0; simp only [Nat.add_zero] at this; rw [this]; simpa [syCells] using h1
      · rw [e 1]; simpa [syCells] using h2
theorem grown_step {A B C : World} {r r' : Option Nat} (h : A.grownBy B r) (k : B.grownBy C r') (hr : ∀ i, i < A.heap.size → some i ≠ r → some i ≠ r') : A.grownBy C r :=
  ⟨k.os.trans h.os, k.tape.trans h.tape, k.output.trans h.output, Nat.le_trans h.size k.size, fun i hi hne => (k.block i (Nat.lt_of_lt_of_le hi h.size) (hr i hi hne)).trans (h.block i hi hne)⟩
/-- what lies in the call -/
structure FxSt (base : Nat) (w W : World) (mv : Value) (t : Tm) (sl : Value) (ms : List Sy) (v : Value) : Prop where
  box : W.heap[w.heap.size]? = some (.cells #[.string t.nm, .bool t.vr, sl] 25 (0, 0))
  row : W.ownsRow base 141 2 v ms.length (syCells ms)
  gr : w.grownBy W mv.ownBlock
  own : v.ownBlock = mv.ownBlock ∨ ∃ j, v.ownBlock = some j ∧ w.heap.size + 1 ≤ j
theorem FxSt.below {base : Nat} {w A W : World} {mv : Value} {t : Tm} {sl : Value} {ms : List Sy} {v : Value} (h : FxSt base w A mv t sl ms v) (hb : Below A.heap.size A W) : FxSt base w W mv t sl ms v :=
  ⟨(hb.block _ (Array.getElem?_eq_some_iff.1 h.box).1).trans h.box, h.row.kept (below_grown hb) (own_none _), grown_step h.gr (below_grown hb) (fun _ _ _ => by simp), h.own⟩
theorem FxSt.grow {base : Nat} {w A W : World} {mv : Value} {t : Tm} {sl : Value} {ms ms' : List Sy} {v v' : Value} (h : FxSt base w A mv t sl ms v) (hlt : ∀ j, mv.ownBlock = some j → j < w.heap.size) (hg : A.grownBy W v.ownBlock) (ho : W.ownsRow base 141 2 v' ms'.length (syCells ms')) (hat : v'.ownBlock = v.ownBlock ∨ ∃ j, v'.ownBlock = some j ∧ A.heap.size ≤ j) : FxSt base w W mv t sl ms' v' := by
  have hz := (Array.getElem?_eq_some_iff.1 h.box).1
  refine ⟨(hg.block _ hz fun e => ?_).trans h.box, ho, grown_step h.gr hg fun i hi hne e => ?_, ?_⟩
  · rcases h.own with e2 | ⟨j, e2, hj⟩
    · have := hlt _ (e2.symm.trans e.symm); omega
    · rw [e2] at e; cases e; omega
  · rcases h.own with e2 | ⟨j, e2, hj⟩
    · exact hne (e.trans e2)
    · rw [e2] at e; cases e; omega
  · rcases hat with e | ⟨j, e, hj⟩
    · rw [e]; exact h.own
    · exact .inr ⟨j, e, by omega⟩
theorem FxSt.low {base : Nat} {w W : World} {mv : Value} {t : Tm} {sl : Value} {ms : List Sy} {v : Value} (h : FxSt base w W mv t sl ms v) (hb : base ≤ w.heap.size) (hm : ∀ j, mv.ownBlock = some j → base ≤ j) : Below base w W :=
  ⟨h.gr.os, h.gr.tape, h.gr.output, h.gr.size, fun i hi => h.gr.block i (by omega) fun e => by have := hm _ e.symm; omega⟩
/-- an entry of the row -/
theorem syGet {base : Nat} {W : World} {ms : List Sy} {v : Value} (h : W.ownsRow base 141 2 v ms.length (syCells ms)) {k : Nat} (hk : k < ms.length) :
    ∃ gg cap p, v = .slice (some ⟨gg, 0, none⟩) ms.length cap ∧ ms[k]? = some p ∧ W.cell? ⟨gg, k * 2, none⟩ = some (.string (kb p.1)) ∧ W.cell? ⟨gg, k * 2 + 1, none⟩ = some (.int .i64 p.2) := by
  have h0 := h
  rcases h.2 with ⟨rfl, hl⟩ | ⟨gg, cap, cur, rfl, hbg, hg, hle, _⟩
  · omega
  · have hp : ms[k]? = some ms[k] := List.getElem?_eq_getElem hk
    obtain ⟨h1, h2⟩ := syCells_at ms k _ hp
    have key : ∀ j u, (syCells ms)[j]? = some u → W.cell? ⟨gg, 0 + j, none⟩ = some u := fun j u hj => by
      have := h0.cells (g := gg) rfl j u hj
      rwa [ad_add] at this
    refine ⟨gg, cap, ms[k], rfl, hp, ?_, ?_⟩
    · have := key _ _ h1; rwa [Nat.zero_add] at this
    · have := key _ _ h2; rwa [Nat.zero_add] at this
theorem infoSym : (Tryz.prog.info? 141).map (fun i => (i.zero, i.size, i.bytes)) = some (some (.agg #[.string ⟨#[]⟩, .int .i64 0]), 2, 24) := by kernel_rfl
end Go.Proofs.YtnomppdmhgefiaaGreat
/- Merged: Kbo, Wkp. -/
/- The Knuth-Bendix order of terms: plain mathematics. No program stands here. -/
namespace Go.Proofs.YtnomppdmhgefiaaGreat
open Go.RowKit

/-- how often a name occurs in a list -/
def cntL (k : Key) : List Key → Nat
  | [] => 0
  | x :: l => (if x = k then 1 else 0) + cntL k l
theorem cntL_append (k : Key) (l r : List Key) : cntL k (l ++ r) = cntL k l + cntL k r := by
  induction l with
  | nil => simp [cntL]
  | cons x l ih => simp only [List.cons_append, cntL, ih]; omega
theorem cntL_zero {k : Key} {l : List Key} (h : k ∉ l) : cntL k l = 0 := by
  induction l with
  | nil => rfl
  | cons x l ih =>
    simp only [List.mem_cons, not_or] at h
    rw [cntL, if_neg (fun e => h.1 e.symm), ih h.2]
theorem cntL_pos {k : Key} {l : List Key} (h : 1 ≤ cntL k l) : k ∈ l := Classical.byContradiction fun hn => by rw [cntL_zero hn] at h; omega
/-- a sum over a list of names -/
def sumL (d : Key → Int) : List Key → Int
  | [] => 0
  | x :: l => d x + sumL d l
theorem sumL_append (d : Key → Int) (l r : List Key) : sumL d (l ++ r) = sumL d l + sumL d r := by
  induction l with
  | nil => simp [sumL]
  | cons x l ih => simp only [List.cons_append, sumL, ih]; omega
theorem sumL_nonneg {d : Key → Int} {l : List Key} (h : ∀ x ∈ l, 0 ≤ d x) : 0 ≤ sumL d l := by
  induction l with
  | nil => simp [sumL]
  | cons x l ih => have := h x (by simp); have := ih fun y hy => h y (by simp [hy]); rw [sumL]; omega
theorem erase_split {x : Key} {l : List Key} (h : x ∈ l) : ∃ p q, l = p ++ x :: q := List.append_of_mem h
/-- the more occurrences, the greater the sum -/
theorem sumL_mono {d : Key → Int} {l : List Key} : ∀ {r : List Key}, (∀ x ∈ r, 0 ≤ d x) → (∀ k, cntL k l ≤ cntL k r) → sumL d l ≤ sumL d r := by
  induction l with
  | nil => intro r h _; exact sumL_nonneg h
  | cons x l ih =>
    intro r h hc
    have hx : x ∈ r := cntL_pos (by have := hc x; rw [cntL, if_pos rfl] at this; omega)
    obtain ⟨p, q, rfl⟩ := erase_split hx
    have h1 := ih (r := p ++ q) (fun y hy => h y (by rcases List.mem_append.1 hy with hy | hy <;> simp [hy])) fun k => by
      have := hc k
      rw [cntL_append, cntL, cntL] at this
      rw [cntL_append]
      omega
    rw [sumL_append] at h1
    rw [sumL_append, sumL, sumL]
    omega

section
variable {wt rk : ByteArray → Int} {un : Int}
mutual
/-- the weight of a term -/
def kw (wt : ByteArray → Int) (un : Int) : Tm → Int
  | .mk nm vr l => if vr = true then un else wt nm + kws wt un l
def kws (wt : ByteArray → Int) (un : Int) : List Tm → Int
  | [] => 0
  | t :: r => kw wt un t + kws wt un r
end
theorem kw_var {t : Tm} (h : t.vr = true) : kw wt un t = un := by cases t; simp only [Tm.vr] at h; subst h; rw [kw, if_pos rfl]
theorem kw_fun {t : Tm} (h : t.vr = false) : kw wt un t = wt t.nm + kws wt un t.ts := by cases t; simp only [Tm.vr] at h; subst h; rw [kw, if_neg (by simp)]; rfl
theorem kws_append (l r : List Tm) : kws wt un (l ++ r) = kws wt un l + kws wt un r := by
  induction l with
  | nil => simp [kws]
  | cons x l ih => simp only [List.cons_append, kws, ih]; omega
def Cov (s t : Tm) : Prop := ∀ k, cntL k t.vs ≤ cntL k s.vs
theorem Cov.trans {s t u : Tm} (h : Cov s t) (k : Cov t u) : Cov s u := fun x => Nat.le_trans (k x) (h x)
/-- s is greater than t -/
inductive Kbo (wt rk : ByteArray → Int) (un : Int) : Tm → Tm → Prop
  | heavy (s t : Tm) : Cov s t → kw wt un t < kw wt un s → Kbo wt rk un s t
  | var (s t : Tm) : Cov s t → kw wt un s = kw wt un t → s.vr = false → t.vr = true → Kbo wt rk un s t
  | top (s t : Tm) : Cov s t → kw wt un s = kw wt un t → s.vr = false → t.vr = false → rk t.nm < rk s.nm → Kbo wt rk un s t
  | lex (s t : Tm) (i : Nat) (a b : Tm) : Cov s t → kw wt un s = kw wt un t → s.vr = false → t.vr = false → s.nm = t.nm → s.ts.length = t.ts.length → s.ts[i]? = some a → t.ts[i]? = some b → s.ts.take i = t.ts.take i → a ≠ b → Kbo wt rk un a b → Kbo wt rk un s t
theorem Kbo.cov {s t : Tm} (h : Kbo wt rk un s t) : Cov s t := by cases h <;> assumption
theorem Kbo.le {s t : Tm} (h : Kbo wt rk un s t) : kw wt un t ≤ kw wt un s := by cases h <;> omega
theorem Kbo.irrefl (s : Tm) : ¬ Kbo wt rk un s s := by
  intro h
  cases h with
  | heavy _ _ _ h => omega
  | var _ _ _ _ h1 h2 => rw [h1] at h2; cases h2
  | top _ _ _ _ _ _ h => omega
  | lex _ _ i a b _ _ _ _ _ _ h1 h2 _ h3 _ => exact h3 (Option.some.inj (h1.symm.trans h2))
theorem Kbo.trans {s t u : Tm} (h : Kbo wt rk un s t) : Kbo wt rk un t u → Kbo wt rk un s u := by
  induction h generalizing u with
  | heavy s t hc hw => intro k; exact .heavy _ _ (hc.trans k.cov) (Int.lt_of_le_of_lt k.le hw)
  | var s t hc hw hs ht =>
    intro k
    cases k with
    | heavy _ _ kc kw' => exact .heavy _ _ (hc.trans kc) (by omega)
    | var _ _ _ _ h1 _ => rw [ht] at h1; cases h1
    | top _ _ _ _ h1 _ _ => rw [ht] at h1; cases h1
    | lex _ _ _ _ _ _ _ h1 => rw [ht] at h1; cases h1
  | top s t hc hw hs ht hr =>
    intro k
    cases k with
    | heavy _ _ kc kw' => exact .heavy _ _ (hc.trans kc) (by omega)
    | var _ _ kc kw' _ hu => exact .var _ _ (hc.trans kc) (by omega) hs hu
    | top _ _ kc kw' _ hu kr => exact .top _ _ (hc.trans kc) (by omega) hs hu (by omega)
    | lex _ _ _ _ _ kc kw' _ hu kn => exact .top _ _ (hc.trans kc) (by omega) hs hu (by rw [← kn]; exact hr)
  | lex s t i a b hc hw hs ht hn hl ha hb hti hne hab ih =>
    intro k
    cases k with
    | heavy _ _ kc kw' => exact .heavy _ _ (hc.trans kc) (by omega)
    | var _ _ kc kw' _ hu => exact .var _ _ (hc.trans kc) (by omega) hs hu
    | top _ _ kc kw' _ hu kr => exact .top _ _ (hc.trans kc) (by omega) hs hu (by rw [hn]; exact kr)
    | lex _ _ j b2 c kc kw' _ hu kn kl hb2 hcm htj kne hbc =>
      rcases Nat.lt_trichotomy i j with hij | hij | hij
      · refine .lex _ _ i a b (hc.trans kc) (by omega) hs hu (hn.trans kn) (hl.trans kl) ha ?_ (hti.trans (take_eq_le htj (Nat.le_of_lt hij))) hne hab
        rw [← take_eq_of_lt htj hij]; exact hb
      · subst hij
        obtain rfl : b = b2 := by rw [hb] at hb2; exact Option.some.inj hb2
        have hac := ih hbc
        exact .lex _ _ i a c (hc.trans kc) (by omega) hs hu (hn.trans kn) (hl.trans kl) ha hcm (hti.trans htj) (fun e => by subst e; exact Kbo.irrefl _ hac) hac
      · refine .lex _ _ j b2 c (hc.trans kc) (by omega) hs hu (hn.trans kn) (hl.trans kl) ?_ hcm ((take_eq_le hti (Nat.le_of_lt hij)).trans htj) kne hbc
        rw [take_eq_of_lt hti hij]; exact hb2
theorem vss_append (l r : List Tm) : Tm.vss (l ++ r) = Tm.vss l ++ Tm.vss r := by
  induction l with
  | nil => simp [Tm.vss]
  | cons x l ih => simp only [List.cons_append, Tm.vss, ih, List.append_assoc]
/-- closed under contexts: one argument -/
theorem Kbo.context {s t : Tm} (h : Kbo wt rk un s t) (nm : ByteArray) (l r : List Tm) : Kbo wt rk un (.mk nm false (l ++ s :: r)) (.mk nm false (l ++ t :: r)) := by
  have hc : Cov (.mk nm false (l ++ s :: r)) (.mk nm false (l ++ t :: r)) := fun k => by
    rw [Tm.vs_fun rfl, Tm.vs_fun rfl]
    show cntL k (Tm.vss (l ++ t :: r)) ≤ cntL k (Tm.vss (l ++ s :: r))
    rw [vss_append, vss_append, Tm.vss, Tm.vss, cntL_append, cntL_append, cntL_append, cntL_append]
    have := h.cov k; omega
  have hw : ∀ x : Tm, kw wt un (.mk nm false (l ++ x :: r)) = wt nm + (kws wt un l + (kw wt un x + kws wt un r)) := fun x => by
    rw [kw_fun rfl]
    show wt nm + kws wt un (l ++ x :: r) = _
    rw [kws_append, kws]
  have hle := h.le
  by_cases he : kw wt un t = kw wt un s
  · refine .lex _ _ l.length s t hc (by rw [hw, hw, he]) rfl rfl rfl (by simp [Tm.ts]) (by simp [Tm.ts]) (by simp [Tm.ts]) (by simp [Tm.ts]) (fun e => by subst e; exact Kbo.irrefl _ h) h
  · exact .heavy _ _ hc (by rw [hw, hw]; omega)

/-- closed under contexts -/
theorem Kbo.put {s t : Tm} (h : Kbo wt rk un s t) {c : Tm} (hc : c.bare) : ∀ {pos : List Int} {x : Tm}, c.at pos = some x → Kbo wt rk un (c.put pos s) (c.put pos t) := by
  induction c using Tm.ind with
  | h c ih =>
    intro pos x hx
    cases pos with
    | nil => simpa [Tm.put] using h
    | cons i l =>
      simp only [Tm.at] at hx
      cases hk : c.kid i with
      | none => rw [hk] at hx; cases hx
      | some u =>
        rw [hk] at hx
        have hu := Tm.kid_mem hk
        have hv : c.vr = false := by
          cases hv : c.vr with
          | false => rfl
          | true => rw [hc.vr0 hv] at hu; cases hu
        have h1 := ih u hu (hc.kids u hu) hx
        have hk' := hk
        unfold Tm.kid at hk'
        split at hk'
        · simp only [Tm.put, hk]
          have hlt : i.toNat < c.ts.length := (List.getElem?_eq_some_iff.1 hk').1
          have e : ∀ v : Tm, c.ts.set i.toNat v = c.ts.take i.toNat ++ v :: c.ts.drop (i.toNat + 1) := fun v => List.set_eq_take_append_cons_drop .. |>.trans (by rw [if_pos hlt])
          rw [e, e, hv]
          exact h1.context c.nm _ _
        · cases hk'

/-- the symbols among which the order is admissible -/
structure Adm (wt rk : ByteArray → Int) (un : Int) (p : ByteArray → Nat → Prop) : Prop where
  unit : 1 ≤ un
  nn : ∀ f n, p f n → 0 ≤ wt f
  const : ∀ f, p f 0 → un ≤ wt f
  one : ∀ f g n, p f 1 → wt f = 0 → p g n → ¬ (f = g ∧ n = 1) → rk g < rk f
/-- all function symbols of a term -/
inductive Tm.syms (p : ByteArray → Nat → Prop) : Tm → Prop
  | mk (t : Tm) : (t.vr = false → p t.nm t.ts.length) → (t.vr = true → t.ts = []) → (∀ u ∈ t.ts, u.syms p) → t.syms p
theorem Tm.syms.top {p : ByteArray → Nat → Prop} {t : Tm} (h : t.syms p) : t.vr = false → p t.nm t.ts.length := by cases h; assumption
theorem Tm.syms.vr0 {p : ByteArray → Nat → Prop} {t : Tm} (h : t.syms p) : t.vr = true → t.ts = [] := by cases h; assumption
theorem Tm.syms.kids {p : ByteArray → Nat → Prop} {t : Tm} (h : t.syms p) : ∀ u ∈ t.ts, u.syms p := by cases h; assumption
theorem kws_ge {l : List Tm} (h : ∀ u ∈ l, 1 ≤ kw wt un u) : (l.length : Int) ≤ kws wt un l := by
  induction l with
  | nil => simp [kws]
  | cons x l ih => have := h x (by simp); have := ih fun u hu => h u (by simp [hu]); rw [kws, List.length_cons]; omega
theorem kws_unit {l : List Tm} (hl : l ≠ []) (hu : 1 ≤ un) (h : ∀ u ∈ l, un ≤ kw wt un u) : un ≤ kws wt un l := by
  cases l with
  | nil => exact absurd rfl hl
  | cons x l =>
    have h1 := h x (by simp)
    have h2 := kws_ge (wt := wt) (un := un) (l := l) fun u hu' => Int.le_trans hu (h u (by simp [hu']))
    rw [kws]; omega
theorem Adm.weight {p : ByteArray → Nat → Prop} (ha : Adm wt rk un p) {t : Tm} (h : t.syms p) : un ≤ kw wt un t := by
  induction t using Tm.ind with
  | h t ih =>
    cases hv : t.vr with
    | true => rw [kw_var hv]; exact Int.le_refl _
    | false =>
      rw [kw_fun hv]
      have htop := h.top hv
      by_cases hl : t.ts = []
      · rw [hl] at htop ⊢
        have := ha.const _ htop
        simp only [kws]; omega
      · have h1 := ha.nn _ _ htop
        have h2 := kws_unit (wt := wt) (un := un) hl ha.unit fun u hu => ih u hu (h.kids u hu)
        omega
/-- a term is greater than its arguments -/
theorem Adm.arg {p : ByteArray → Nat → Prop} (ha : Adm wt rk un p) {c : Tm} (h : c.syms p) (hv : c.vr = false) {u : Tm} (hu : u ∈ c.ts) : Kbo wt rk un c u := by
  induction c using Tm.ind generalizing u with
  | h c ih =>
    obtain ⟨l, r, e⟩ := List.append_of_mem hu
    have hcov : Cov c u := fun k => by
      rw [Tm.vs_fun hv, e, vss_append, Tm.vss, cntL_append, cntL_append]; omega
    have hw : kw wt un c = wt c.nm + (kws wt un l + (kw wt un u + kws wt un r)) := by rw [kw_fun hv, e, kws_append, kws]
    have htop := h.top hv
    have h1 := ha.nn _ _ htop
    have hk : ∀ x ∈ c.ts, 1 ≤ kw wt un x := fun x hx => Int.le_trans ha.unit (ha.weight (h.kids x hx))
    have h2 := kws_ge (wt := wt) (un := un) (l := l) fun x hx => hk x (by rw [e]; simp [hx])
    have h3 := kws_ge (wt := wt) (un := un) (l := r) fun x hx => hk x (by rw [e]; simp [hx])
    by_cases hlt : kw wt un u < kw wt un c
    · exact .heavy _ _ hcov hlt
    · have hl0 : l = [] := List.length_eq_zero_iff.1 (by omega)
      have hr0 : r = [] := List.length_eq_zero_iff.1 (by omega)
      subst hl0; subst hr0
      simp only [List.nil_append] at e
      simp only [kws] at hw
      have heq : kw wt un c = kw wt un u := by omega
      have hw0 : wt c.nm = 0 := by omega
      have hp1 : p c.nm 1 := by rw [e] at htop; exact htop
      cases huv : u.vr with
      | true => exact .var _ _ hcov heq hv huv
      | false =>
        have hpu := (h.kids u hu).top huv
        by_cases hsame : c.nm = u.nm ∧ u.ts.length = 1
        · obtain ⟨v, hv1⟩ : ∃ v, u.ts = [v] := by
            have hl := hsame.2
            cases hts : u.ts with
            | nil => rw [hts] at hl; simp at hl
            | cons v q => cases q with
              | nil => exact ⟨v, rfl⟩
              | cons _ _ => rw [hts] at hl; simp at hl
          have hvm : v ∈ u.ts := by rw [hv1]; simp
          have hrec := ih u hu (h.kids u hu) huv hvm
          refine .lex _ _ 0 u v hcov heq hv huv hsame.1 (by rw [e, hv1]; rfl) (by rw [e]; rfl) (by rw [hv1]; rfl) rfl (fun e' => ?_) hrec
          have := mem_size hvm; rw [← e'] at this; omega
        · exact .top _ _ hcov heq hv huv (ha.one _ _ _ hp1 hw0 hpu hsame)
/-- a variable below the top -/
theorem Adm.occurs {p : ByteArray → Nat → Prop} (ha : Adm wt rk un p) (σ : Key → Tm) {s : Tm} {x : Key} (hv : s.vr = false) (hx : x ∈ s.vs) (h : (apF σ s).syms p) : Kbo wt rk un (apF σ s) (σ x) := by
  induction s using Tm.ind with
  | h s ih =>
    rw [Tm.vs_fun hv, Tm.vss_mem] at hx
    obtain ⟨u, hu, hx⟩ := hx
    rw [apF_fun σ hv] at h ⊢
    have hum : apF σ u ∈ (Tm.mk s.nm false (s.ts.map (apF σ))).ts := List.mem_map.2 ⟨u, hu, rfl⟩
    have h1 := ha.arg h rfl hum
    cases huv : u.vr with
    | true =>
      rw [Tm.vs_var huv] at hx
      obtain rfl := List.mem_singleton.1 hx
      rw [apF_var σ huv] at h1
      exact h1
    | false => exact h1.trans (ih u hu huv hx (h.kids _ hum))
theorem vs_apF (σ : Key → Tm) (k : Key) (t : Tm) : (cntL k (apF σ t).vs : Int) = sumL (fun x => (cntL k (σ x).vs : Int)) t.vs := by
  induction t using Tm.ind with
  | h t ih =>
    cases hv : t.vr with
    | true => rw [apF_var σ hv, Tm.vs_var hv]; simp [sumL]
    | false =>
      rw [apF_fun σ hv, Tm.vs_fun rfl, Tm.vs_fun hv]
      show (cntL k (Tm.vss (t.ts.map (apF σ))) : Int) = _
      have key : ∀ l : List Tm, (∀ u ∈ l, (cntL k (apF σ u).vs : Int) = sumL (fun x => (cntL k (σ x).vs : Int)) u.vs) → (cntL k (Tm.vss (l.map (apF σ))) : Int) = sumL (fun x => (cntL k (σ x).vs : Int)) (Tm.vss l) := by
        intro l
        induction l with
        | nil => intro _; simp [Tm.vss, cntL, sumL]
        | cons u l ihl =>
          intro h
          have h1 := h u (by simp)
          have h2 := ihl fun v hv => h v (by simp [hv])
          simp only [List.map_cons, Tm.vss, cntL_append, sumL_append]
          omega
      exact key t.ts ih
theorem kw_apF (σ : Key → Tm) (t : Tm) : kw wt un (apF σ t) = kw wt un t + sumL (fun x => kw wt un (σ x) - un) t.vs := by
  induction t using Tm.ind with
  | h t ih =>
    cases hv : t.vr with
    | true => rw [apF_var σ hv, Tm.vs_var hv, kw_var hv]; simp only [sumL]; omega
    | false =>
      rw [apF_fun σ hv, Tm.vs_fun hv, kw_fun rfl, kw_fun hv]
      show wt t.nm + kws wt un (t.ts.map (apF σ)) = _
      have key : ∀ l : List Tm, (∀ u ∈ l, kw wt un (apF σ u) = kw wt un u + sumL (fun x => kw wt un (σ x) - un) u.vs) → kws wt un (l.map (apF σ)) = kws wt un l + sumL (fun x => kw wt un (σ x) - un) (Tm.vss l) := by
        intro l
        induction l with
        | nil => intro _; simp [Tm.vss, kws, sumL]
        | cons u l ihl =>
          intro h
          have h1 := h u (by simp)
          have h2 := ihl fun v hv => h v (by simp [hv])
          simp only [List.map_cons, Tm.vss, kws, sumL_append]
          omega
      have := key t.ts ih
      omega
theorem syms_image {p : ByteArray → Nat → Prop} (σ : Key → Tm) {t : Tm} (h : (apF σ t).syms p) : ∀ x ∈ t.vs, (σ x).syms p := by
  induction t using Tm.ind with
  | h t ih =>
    intro x hx
    cases hv : t.vr with
    | true => rw [Tm.vs_var hv] at hx; obtain rfl := List.mem_singleton.1 hx; rwa [apF_var σ hv] at h
    | false =>
      rw [Tm.vs_fun hv, Tm.vss_mem] at hx
      obtain ⟨u, hu, hx⟩ := hx
      rw [apF_fun σ hv] at h
      exact ih u hu (h.kids _ (List.mem_map.2 ⟨u, hu, rfl⟩)) x hx
/-- closed under substitutions -/
theorem Adm.subst {p : ByteArray → Nat → Prop} (ha : Adm wt rk un p) (σ : Key → Tm) {s t : Tm} (h : Kbo wt rk un s t) : (apF σ s).syms p → Kbo wt rk un (apF σ s) (apF σ t) := by
  have hcov : ∀ s t : Tm, Cov s t → Cov (apF σ s) (apF σ t) := fun s t hc k => by
    have h1 := sumL_mono (d := fun x => (cntL k (σ x).vs : Int)) (fun _ _ => by omega) hc
    have h2 := vs_apF σ k s
    have h3 := vs_apF σ k t
    omega
  have hmore : ∀ s t : Tm, Cov s t → (apF σ s).syms p → sumL (fun x => kw wt un (σ x) - un) t.vs ≤ sumL (fun x => kw wt un (σ x) - un) s.vs := fun s t hc hs =>
    sumL_mono (fun x hx => by have := ha.weight (syms_image σ hs x hx); show 0 ≤ kw wt un (σ x) - un; omega) hc
  induction h with
  | heavy s t hc hw =>
    intro hs
    have := hmore s t hc hs
    exact .heavy _ _ (hcov s t hc) (by rw [kw_apF, kw_apF]; omega)
  | var s t hc hw hsv htv =>
    intro hs
    have hx : t.nm.data.toList ∈ s.vs := cntL_pos (by have := hc t.nm.data.toList; rw [Tm.vs_var htv] at this; simp only [cntL, if_true] at this; omega)
    rw [apF_var σ htv]
    exact ha.occurs σ hsv hx hs
  | top s t hc hw hsv htv hr =>
    intro hs
    have h1 := hmore s t hc hs
    have h2 := hcov s t hc
    by_cases he : kw wt un (apF σ s) = kw wt un (apF σ t)
    · rw [apF_fun σ hsv] at h2 he ⊢
      rw [apF_fun σ htv] at h2 he ⊢
      exact .top _ _ h2 he rfl rfl hr
    · exact .heavy _ _ h2 (by rw [kw_apF, kw_apF] at *; omega)
  | lex s t i a b hc hw hsv htv hn hl hia hib hti hne hab ih =>
    intro hs
    have h1 := hmore s t hc hs
    have h2 := hcov s t hc
    by_cases he : kw wt un (apF σ s) = kw wt un (apF σ t)
    · have hs' := hs
      rw [apF_fun σ hsv] at hs'
      have hk := ih (hs'.kids _ (List.mem_map.2 ⟨a, List.mem_of_getElem? hia, rfl⟩))
      rw [apF_fun σ hsv] at h2 he ⊢
      rw [apF_fun σ htv] at h2 he ⊢
      refine .lex _ _ i (apF σ a) (apF σ b) h2 he rfl rfl hn ?_ ?_ ?_ ?_ (fun e => by rw [e] at hk; exact Kbo.irrefl _ hk) hk
      · show (s.ts.map (apF σ)).length = (t.ts.map (apF σ)).length
        rw [List.length_map, List.length_map, hl]
      · show (s.ts.map (apF σ))[i]? = _
        rw [List.getElem?_map, hia]; rfl
      · show (t.ts.map (apF σ))[i]? = _
        rw [List.getElem?_map, hib]; rfl
      · show (s.ts.map (apF σ)).take i = (t.ts.map (apF σ)).take i
        rw [← List.map_take, ← List.map_take, hti]
    · exact .heavy _ _ h2 (by rw [kw_apF, kw_apF] at *; omega)
end
end Go.Proofs.YtnomppdmhgefiaaGreat
/- Weight orders: what is said of them. Plain mathematics; no program stands here. -/
namespace Go.Proofs.YtnomppdmhgefiaaGreat
open Go.RowKit

/-- valid entries and unit -/
structure WtOk (L : List Rk) (u : Int) : Prop where
  len : L.length ≤ 256
  nms : NmsOk L
  rks : ∀ p ∈ L, 0 ≤ p.2.1 ∧ p.2.1 ≤ 1000 ∧ 0 ≤ p.2.2 ∧ p.2.2 ≤ 1000
  unit : 1 ≤ u ∧ u ≤ 1000
/-- the weight of a name -/
def wtOf (L : List Rk) (k : Key) : Int := (entryOf L k).2.2
theorem entryOf_cases (L : List Rk) (k : Key) : (entryOf L k ∈ L ∧ (entryOf L k).1 = k) ∨ entryOf L k = (k, 0, 0) := by
  unfold entryOf
  cases h : L.find? (fun p => decide (p.1 = k)) with
  | none => exact .inr rfl
  | some p => exact .inl ⟨List.mem_of_find?_eq_some h, by have := List.find?_some h; simpa using this⟩
theorem WtOk.entry {L : List Rk} {u : Int} (h : WtOk L u) (k : Key) : 0 ≤ rkOf L k ∧ rkOf L k ≤ 1000 ∧ 0 ≤ wtOf L k ∧ wtOf L k ≤ 1000 := by
  unfold rkOf wtOf
  rcases entryOf_cases L k with e | e
  · exact h.rks _ e.1
  · rw [e]; simp
mutual
/-- the function symbols of a term: the top first -/
def Tm.sy : Tm → List Sy
  | .mk nm vr l => if vr = true then [] else (nm.data.toList, (l.length : Int)) :: Tm.sys l
def Tm.sys : List Tm → List Sy
  | [] => []
  | t :: r => t.sy ++ Tm.sys r
end
mutual
/-- the function symbols of a term: the arguments first -/
def Tm.of : Tm → List Sy
  | .mk nm vr l => Tm.ofs l ++ (if vr = true then [] else [(nm.data.toList, (l.length : Int))])
def Tm.ofs : List Tm → List Sy
  | [] => []
  | t :: r => t.of ++ Tm.ofs r
end
/-- one symbol among others -/
def AdmX (L : List Rk) (u : Int) (S : List Sy) (x : Sy) : Prop := (x.2 = 0 → u ≤ wtOf L x.1) ∧ (x.2 = 1 → wtOf L x.1 = 0 → ∀ y ∈ S, x ≠ y → rkOf L y.1 < rkOf L x.1)
/-- the order is admissible for these symbols -/
def AdmL (L : List Rk) (u : Int) (S : List Sy) : Prop := ∀ x ∈ S, AdmX L u S x
theorem AdmL.sub {L : List Rk} {u : Int} {S T : List Sy} (h : AdmL L u S) (hs : ∀ x ∈ T, x ∈ S) : AdmL L u T := fun x hx => ⟨(h x (hs x hx)).1, fun h1 h2 y hy => (h x (hs x hx)).2 h1 h2 y (hs y hy)⟩
theorem AdmL.congr {L : List Rk} {u : Int} {S T : List Sy} (h : ∀ x, x ∈ S ↔ x ∈ T) : AdmL L u S ↔ AdmL L u T := ⟨fun k => k.sub fun x hx => (h x).2 hx, fun k => k.sub fun x hx => (h x).1 hx⟩
section
variable {wt rk : ByteArray → Int} {un : Int}
end

/-- what a name has in a map of numbers -/
def valA (M : List (Key × Int)) (k : Key) : Int := (getA M k).getD 0
theorem valA_nil (k : Key) : valA [] k = 0 := rfl
/-- the sizes of the numbers -/
structure NmB (N : Nat) (g : Int) (M : List (Key × Int)) : Prop where
  wlo : -(1000 * N : Int) ≤ g
  whi : g ≤ 1000 * N
  len : M.length ≤ N
  lo : ∀ k, -(N : Int) ≤ valA M k
  hi : ∀ k, valA M k ≤ N
theorem NmB.mono {N N' : Nat} {g : Int} {M : List (Key × Int)} (h : NmB N g M) (hN : N ≤ N') : NmB N' g M :=
  ⟨by have := h.wlo; omega, by have := h.whi; omega, Nat.le_trans h.len hN, fun k => by have := h.lo k; omega, fun k => by have := h.hi k; omega⟩
theorem NmB.nil : NmB 0 0 [] := ⟨by simp, by simp, by simp, fun k => by simp [valA_nil], fun k => by simp [valA_nil]⟩
end Go.Proofs.YtnomppdmhgefiaaGreat
/- Merged: Wsy, Wso. -/
/- Symbols of terms in memory: appendSymbols, the reference's Of. -/
namespace Go.Proofs.YtnomppdmhgefiaaGreat
open Go.RowKit Go.Maps

/-- the slice value v holds these symbols, in blocks below n -/
def SyIs (n : Nat) (W : World) (l : List Sy) (v : Value) : Prop :=
  ∃ oa cap, v = .slice oa l.length cap ∧ l.length ≤ cap ∧
    (l ≠ [] → ∃ b o, oa = some ⟨b, o, none⟩ ∧ b < n ∧ ∀ i p, l[i]? = some p → W.cell? ⟨b, o + i * 2, none⟩ = some (.string (kb p.1)) ∧ W.cell? ⟨b, o + i * 2 + 1, none⟩ = some (.int .i64 p.2))
theorem SyIs.carry {n m : Nat} {A B : World} {l : List Sy} {v : Value} (h : SyIs n A l v) (hb : Below n A B) (hn : n ≤ m) : SyIs m B l v := by
  obtain ⟨oa, cap, rfl, h1, h3⟩ := h
  refine ⟨oa, cap, rfl, h1, fun hne => ?_⟩
  obtain ⟨b, o, rfl, hbn, hc⟩ := h3 hne
  refine ⟨b, o, rfl, by omega, fun i p hk => ?_⟩
  obtain ⟨c0, c1⟩ := hc i p hk
  exact ⟨(hb.cell (p := ⟨b, _, none⟩) hbn).trans c0, (hb.cell (p := ⟨b, _, none⟩) hbn).trans c1⟩
theorem SyIs.ofRow {W : World} {m : Nat} {v : Value} {l : List Sy} (h : W.ownsRow m 141 2 v l.length (syCells l)) : SyIs W.heap.size W l v := by
  have h0 := h
  rcases h.2 with ⟨rfl, hl⟩ | ⟨g, cap, cur, rfl, hb, hg, hle, _⟩
  · exact ⟨none, 0, by rw [hl], by omega, fun hne => absurd (List.length_eq_zero_iff.1 hl) hne⟩
  · refine ⟨_, cap, rfl, hle, fun _ => ⟨g, 0, rfl, (Array.getElem?_eq_some_iff.1 hg).1, fun i p hp => ?_⟩⟩
    obtain ⟨gg, cc, q, e1, e2, e3, e4⟩ := syGet h0 (List.getElem?_eq_some_iff.1 hp).1
    injection e1 with e1 _ _; injection e1 with e1; injection e1 with e1
    subst e1
    rw [hp] at e2; cases e2
    rw [Nat.zero_add]
    exact ⟨e3, e4⟩
theorem syCells_length (l : List Sy) : (syCells l).length = l.length * 2 := by
  induction l with
  | nil => rfl
  | cons p l ih => simp [syCells] at ih ⊢; omega
theorem syCells_one (l : List Sy) : ∀ u ∈ syCells l, u.oneCell' = true := fun u hu => by
  unfold syCells at hu
  obtain ⟨p, -, hp⟩ := List.mem_flatMap.1 hu
  simp at hp
  rcases hp with rfl | rfl <;> rfl
theorem sy_one (t : Tm) : syCells [(t.nm.data.toList, (t.ts.length : Int))] = [.string t.nm, .int .i64 t.ts.length] := by simp [syCells, kb_key]
end Go.Proofs.YtnomppdmhgefiaaGreat
/- Symbols of terms in memory: the reference's Of. -/
namespace Go.Proofs.YtnomppdmhgefiaaGreat
open Go.RowKit Go.Maps

/-- the symbols so far -/
structure OfSt (w W : World) (ms : List Sy) (v : Value) : Prop where
  row : W.ownsRow w.heap.size 141 2 v ms.length (syCells ms)
  low : Below w.heap.size w W
theorem OfSt.below {w A W : World} {ms : List Sy} {v : Value} (h : OfSt w A ms v) (hb : Below A.heap.size A W) : OfSt w W ms v :=
  ⟨h.row.kept (below_grown hb) (own_none _), h.low.trans (hb.mono h.low.size)⟩
theorem OfSt.grow {w A W : World} {ms ms' : List Sy} {v v' : Value} (h : OfSt w A ms v) (hg : A.grownBy W v.ownBlock) (ho : W.ownsRow w.heap.size 141 2 v' ms'.length (syCells ms')) : OfSt w W ms' v' :=
  ⟨ho, h.low.grown hg h.low.size fun j hj => (h.row.lt j hj).1⟩
end Go.Proofs.YtnomppdmhgefiaaGreat
