/- What may change: all blocks that are there but some. No program stands here. -/
import Derived.Test.YtnhldpfbmccpfaaKp
namespace Go.Proofs.Ytnhldpfbmccpfaa
open Go.RowKit

/-- all blocks that are there, but those of which X holds, are as they were -/
structure FrX (X : Nat → Prop) (A B : World) : Prop where
  os : B.os = A.os
  tape : B.tape = A.tape
  output : B.output = A.output
  size : A.heap.size ≤ B.heap.size
  block : ∀ k, k < A.heap.size → ¬ X k → B.heap[k]? = A.heap[k]?
theorem FrX.refl (X : Nat → Prop) (A : World) : FrX X A A := ⟨rfl, rfl, rfl, Nat.le_refl _, fun _ _ _ => rfl⟩
theorem FrX.trans {X : Nat → Prop} {A B C : World} (h : FrX X A B) (k : FrX X B C) : FrX X A C :=
  ⟨k.os.trans h.os, k.tape.trans h.tape, k.output.trans h.output, Nat.le_trans h.size k.size, fun i hi hc => (k.block i (Nat.lt_of_lt_of_le hi h.size) hc).trans (h.block i hi hc)⟩
theorem FrX.of_below {X : Nat → Prop} {A B : World} (h : Below A.heap.size A B) : FrX X A B := ⟨h.os, h.tape, h.output, h.size, fun k hk _ => h.block k hk⟩
theorem FrX.mono {X Y : Nat → Prop} {A B : World} (h : FrX X A B) (hx : ∀ k, X k → Y k) : FrX Y A B := ⟨h.os, h.tape, h.output, h.size, fun k hk hc => h.block k hk (fun e => hc (hx k e))⟩
theorem FrX.grown {X : Nat → Prop} {A B : World} {b : Nat} (h : A.grownBy B (some b)) (hb : X b) : FrX X A B := ⟨h.os, h.tape, h.output, h.size, fun k hk hc => h.block k hk (fun e => by cases e; exact hc hb)⟩
/-- what X marks are no cells -/
theorem FrX.kpc {X : Nat → Prop} {A B : World} {n : Nat} (h : FrX X A B) (hn : n ≤ A.heap.size) (hx : ∀ k, X k → n ≤ k ∧ ∀ c t f, A.heap[k]? ≠ some (Obj.cells c t f)) : KpC n A B :=
  ⟨⟨h.os, h.tape, h.output, h.size, fun k hk => h.block k (by omega) (fun e => by have := (hx k e).1; omega)⟩, fun k c t f hk => (h.block k (Array.getElem?_eq_some_iff.1 hk).1 (fun e => (hx k e).2 c t f hk)).trans hk⟩
theorem FrX.below {X : Nat → Prop} {A B : World} {n : Nat} (h : FrX X A B) (hn : n ≤ A.heap.size) (hx : ∀ k, X k → n ≤ k) : Below n A B := ⟨h.os, h.tape, h.output, h.size, fun k hk => h.block k (by omega) (fun e => by have := hx k e; omega)⟩
theorem FrX.alloc {X : Nat → Prop} {A B : World} (h : FrX X A B) (o : Obj) : FrX X A (B.alloc o) := h.trans (FrX.of_below ((Below.refl _ B).alloc (Nat.le_refl _) o))
theorem FrX.drew {X : Nat → Prop} {A B : World} (h : FrX X A B) : FrX X A B.drew := ⟨h.os, h.tape, h.output, h.size, h.block⟩
theorem FrX.set {X : Nat → Prop} {A B : World} (h : FrX X A B) {p : Addr} (hp : X p.block) (v : Value) : FrX X A (B.setCell p v) :=
  h.trans ⟨rfl, rfl, rfl, by simp [World.setCell], fun k _ hc => Below.heap_setCell _ _ _ k (fun e => hc (by rw [e]; exact hp))⟩
theorem FrX.turned {X : Nat → Prop} {A B : World} {m : Nat} (h : A.grownBy B (some m)) (hm : X m) : FrX X A B := FrX.grown h hm
end Go.Proofs.Ytnhldpfbmccpfaa
