/- Merged: Mem, Own. -/
import Derived.WalkKit
import Derived.RangeFuncBox
import Derived.Deep.Draws
import Derived.Test.YtnomppdmhgefiaaTm
/- Small facts on memory. No program stands here. -/
namespace Go.Proofs.Ytnomppdmhgefiaa
open Go.RowKit
theorem add_blk (a : Addr) (j : Nat) : (a.add j).block = a.block := by unfold Addr.add; split <;> rfl
theorem below_drewN {B : Nat} {A W : World} (n : Nat) (h : Below B A W) : Below B A (W.drewN n) := ⟨h.os, h.tape, h.output, h.size, h.block⟩
theorem below_grown {A W : World} (h : Below A.heap.size A W) : A.grownBy W none := ⟨h.os, h.tape, h.output, h.size, fun i hi _ => h.block i hi⟩
theorem cell_at_new (W : World) (c : Array Value) (ty : TypeId) (j : Nat) : (W.alloc (.cells c ty)).cell? ⟨W.heap.size, j, none⟩ = c[j]? := by
  have h := World.alloc_heap_new W (.cells c ty)
  unfold World.cell?
  simp only [h]
  rfl
theorem cell_new_at (W : World) (c : Array Value) (ty : TypeId) (b j : Nat) (h : b = W.heap.size) : (W.alloc (.cells c ty)).cell? ⟨b, j, none⟩ = c[j]? := by
  subst h; exact cell_at_new W c ty j
theorem boxed_at (W : World) (v : Value) (ty : TypeId) (b : Nat) (h : b = W.heap.size) : Boxed (W.alloc (.cells #[v] ty)) b ty v := by
  subst h; exact Boxed.new W ty v
theorem cell_old (W : World) (o : Obj) (b j : Nat) (h : b < W.heap.size) : (W.alloc o).cell? ⟨b, j, none⟩ = W.cell? ⟨b, j, none⟩ :=
  ((Below.refl W.heap.size W).alloc (Nat.le_refl _) o).cell (p := ⟨b, j, none⟩) h


end Go.Proofs.Ytnomppdmhgefiaa
/- Terms in memory of their own, no block met twice; what may change beside them. No program stands here. -/
namespace Go.Proofs.Ytnomppdmhgefiaa
open Go.RowKit

/-- Of the blocks that are there, those below n₀ and from m on are as they were. -/
structure Fr (n₀ m : Nat) (A B : World) : Prop where
  os : B.os = A.os
  tape : B.tape = A.tape
  output : B.output = A.output
  size : A.heap.size ≤ B.heap.size
  block : ∀ k, k < A.heap.size → (k < n₀ ∨ m ≤ k) → B.heap[k]? = A.heap[k]?
theorem Fr.refl (n₀ m : Nat) (A : World) : Fr n₀ m A A := ⟨rfl, rfl, rfl, Nat.le_refl _, fun _ _ _ => rfl⟩
theorem Fr.trans {n₀ m : Nat} {A B C : World} (h : Fr n₀ m A B) (k : Fr n₀ m B C) : Fr n₀ m A C :=
  ⟨k.os.trans h.os, k.tape.trans h.tape, k.output.trans h.output, Nat.le_trans h.size k.size, fun i hi hc => (k.block i (Nat.lt_of_lt_of_le hi h.size) hc).trans (h.block i hi hc)⟩
theorem Fr.of_below {n₀ m : Nat} {A B : World} (h : Below A.heap.size A B) : Fr n₀ m A B := ⟨h.os, h.tape, h.output, h.size, fun k hk _ => h.block k hk⟩
theorem Fr.alloc {n₀ m : Nat} {A B : World} (h : Fr n₀ m A B) (o : Obj) : Fr n₀ m A (B.alloc o) := h.trans (Fr.of_below ((Below.refl _ B).alloc (Nat.le_refl _) o))
/-- a store into a block that is new to A -/
theorem Fr.setNew {n₀ m : Nat} {A B : World} (h : Fr n₀ m A B) {p : Addr} (hp : A.heap.size ≤ p.block) (v : Value) : Fr n₀ m A (B.setCell p v) :=
  ⟨h.os, h.tape, h.output, by simpa [World.setCell] using h.size, fun k hk hc => (Below.heap_setCell B p v k (by omega)).trans (h.block k hk hc)⟩
theorem Fr.below {n₀ m : Nat} {A B : World} (h : Fr n₀ m A B) (hn : n₀ ≤ A.heap.size) : Below n₀ A B := ⟨h.os, h.tape, h.output, h.size, fun k hk => h.block k (by omega) (.inl hk)⟩
theorem Fr.all {m : Nat} {A B : World} (h : Fr m m A B) : Below A.heap.size A B := ⟨h.os, h.tape, h.output, h.size, fun k hk => h.block k hk (by omega)⟩
theorem Fr.drew {n₀ m : Nat} {A B : World} (h : Fr n₀ m A B) : Fr n₀ m A B.drew := ⟨h.os, h.tape, h.output, h.size, h.block⟩

abbrev Child := Tm × Value × List Nat
def chCells (ch : List Child) : List Value := ch.flatMap fun c => [.string c.1.nm, .bool c.1.vr, c.2.1]
theorem chCells_append (a b : List Child) : chCells (a ++ b) = chCells a ++ chCells b := by simp [chCells]
theorem chCells_length (a : List Child) : (chCells a).length = a.length * 3 := by
  induction a with
  | nil => rfl
  | cons p a ih => simp [chCells] at ih ⊢; omega
theorem chCells_at (ch : List Child) (i : Nat) (c : Child) (h : ch[i]? = some c) :
    (chCells ch)[i * 3]? = some (.string c.1.nm) ∧ (chCells ch)[i * 3 + 1]? = some (.bool c.1.vr) ∧ (chCells ch)[i * 3 + 2]? = some c.2.1 := by
  induction ch generalizing i with
  | nil => simp at h
  | cons p ch ih =>
    cases i with
    | zero => simp at h; subst h; simp [chCells]
    | succ i =>
      obtain ⟨h1, h2, h3⟩ := ih i (by simpa using h)
      have e : ∀ r, (i + 1) * 3 + r = i * 3 + r + 3 := fun r => by omega
      refine ⟨?_, ?_, ?_⟩
      · have := e 0; simp only [Nat.add_zero] at this; rw [this]; simpa [chCells] using h1
      · rw [e 1]; simpa [chCells] using h2
      · rw [e 2]; simpa [chCells] using h3

/-- The slice value s holds the terms l in blocks fp of their own (e: the type of a term). -/
inductive SlOwn (e : TypeId) (W : World) : List Tm → Value → List Nat → Prop
  | nil : SlOwn e W [] (.slice none 0 0) []
  | row (g : Nat) (ch : List Child) (cur : Array Value) : ch ≠ [] → W.heap[g]? = some (.cells cur e (0, 0)) → cur.toList = chCells ch →
      (∀ c ∈ ch, SlOwn e W c.1.ts c.2.1 c.2.2) → SlOwn e W (ch.map (·.1)) (.slice (some ⟨g, 0, none⟩) ch.length ch.length) (g :: ch.flatMap (·.2.2))

theorem SlOwn.carry {e : TypeId} {A B : World} {l : List Tm} {s : Value} {fp : List Nat} (h : SlOwn e A l s fp) (hb : ∀ k ∈ fp, B.heap[k]? = A.heap[k]?) : SlOwn e B l s fp := by
  induction h with
  | nil => exact .nil
  | row g ch cur hne hg hc _ ih =>
    refine .row g ch cur hne ((hb g (by simp)).trans hg) hc fun c hcm => ih c hcm fun k hk => hb k ?_
    exact List.mem_cons_of_mem _ (List.mem_flatMap.2 ⟨c, hcm, hk⟩)

theorem SlOwn.lt {e : TypeId} {A : World} {l : List Tm} {s : Value} {fp : List Nat} (h : SlOwn e A l s fp) : ∀ k ∈ fp, k < A.heap.size := by
  induction h with
  | nil => simp
  | row g ch cur hne hg hc _ ih =>
    intro k hk
    rcases List.mem_cons.1 hk with rfl | hk
    · exact (Array.getElem?_eq_some_iff.1 hg).1
    · obtain ⟨c, hc, hk⟩ := List.mem_flatMap.1 hk
      exact ih c hc k hk

theorem SlOwn.form {e : TypeId} {A : World} {l : List Tm} {s : Value} {fp : List Nat} (h : SlOwn e A l s fp) : ∃ oa n c, s = .slice oa n c := by
  cases h with
  | nil => exact ⟨_, _, _, rfl⟩
  | row g ch cur hne hg hc hk => exact ⟨_, _, _, rfl⟩
theorem cells_of' {W : World} {B : Nat} {c : Array Value} {ty : TypeId} {fr : Nat × Nat} (h : W.heap[B]? = some (.cells c ty fr)) (j : Nat) : W.cell? ⟨B, j, none⟩ = c[j]? := by
  unfold World.cell?; simp only [h]; rfl
theorem frozen_of' {W : World} {B : Nat} {c : Array Value} {ty : TypeId} (h : W.heap[B]? = some (.cells c ty (0, 0))) (j : Nat) : W.frozen? ⟨B, j, none⟩ = false := by
  unfold World.frozen?; simp [h]

/-- Owned terms are terms. -/
theorem SlOwn.is {e : TypeId} {W : World} {n₀ : Nat} {l : List Tm} {s : Value} {fp : List Nat} (h : SlOwn e W l s fp) (hn : ∀ k ∈ fp, k < n₀) : SlIs n₀ W l s := by
  induction h with
  | nil => exact .nil0
  | row g ch cur hne hg hc hk ih =>
    have hlen : (ch.map (·.1)).length = ch.length := by simp
    have hcell : ∀ j, W.cell? ⟨g, j, none⟩ = (chCells ch)[j]? := fun j => by
      unfold World.cell?
      simp only [hg]
      rw [← hc, Array.getElem?_toList]; rfl
    have hch : ∀ i t, (ch.map (·.1))[i]? = some t → ∃ c : Child, ch[i]? = some c ∧ c.1 = t := fun i t ht => by rw [List.getElem?_map, Option.map_eq_some_iff] at ht; exact ht
    have key := SlIs.row (n₀ := n₀) (W := W) g 0 ch.length (ch.map (·.1)) (fun i => ((ch[i]?).map (·.2.1)).getD (.bool false)) (by simpa using hne) (hn g (by simp)) (by simp)
      (fun i t ht => by
        obtain ⟨c, hci, rfl⟩ := hch i t ht
        obtain ⟨h1, h2, h3⟩ := chCells_at ch i c hci
        simp only [Nat.zero_add, hcell, hci, Option.map_some, Option.getD_some]
        exact ⟨h1, h2, h3⟩)
      (fun i t ht => by
        obtain ⟨c, hci, rfl⟩ := hch i t ht
        have hm := List.mem_of_getElem? hci
        simp only [hci, Option.map_some, Option.getD_some]
        exact ih c hm fun k hk => hn k (List.mem_cons_of_mem _ (List.mem_flatMap.2 ⟨c, hm, hk⟩)))
      (fun i _ => by unfold World.frozen?; simp [hg])
    rw [hlen] at key
    exact key

theorem set3 {W : World} {g : Nat} {cur : Array Value} {e : TypeId} {fr : Nat × Nat} (h : W.heap[g]? = some (.cells cur e fr)) (i : Nat) (a b c : Value) :
    (((W.setCell ⟨g, i, none⟩ a).setCell ⟨g, i + 1, none⟩ b).setCell ⟨g, i + 2, none⟩ c).heap[g]? = some (.cells (((cur.setIfInBounds i a).setIfInBounds (i + 1) b).setIfInBounds (i + 2) c) e fr) := by
  simp [World.setCell, Array.getElem?_modify, h]
theorem set3_list (l z : List Value) (i : Nat) (x y v a b c : Value) (hl : l.length = i) : (((l ++ x :: y :: v :: z).set i a).set (i + 1) b).set (i + 2) c = l ++ a :: b :: c :: z := by
  subst hl
  simp

end Go.Proofs.Ytnomppdmhgefiaa
