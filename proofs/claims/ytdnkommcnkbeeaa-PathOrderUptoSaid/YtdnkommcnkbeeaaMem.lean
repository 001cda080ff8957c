/- Small facts on memory. No program stands here. -/
import Derived.WalkKit
import Derived.RangeFuncBox
import Derived.Deep.Draws
namespace Go.Proofs.Ytdnkommcnkbeeaa
open Go.RowKit
theorem add_blk (a : Addr) (j : Nat) : (a.add j).block = a.block := by unfold Addr.add; split <;> rfl
theorem below_drewN {B : Nat} {A W : World} (n : Nat) (h : Below B A W) : Below B A (W.drewN n) := ⟨h.os, h.tape, h.output, h.size, h.block⟩
theorem below_grown {A W : World} (h : Below A.heap.size A W) : A.grownBy W none := ⟨h.os, h.tape, h.output, h.size, fun i hi _ => h.block i hi⟩
theorem cell_at_new (W : World) (c : Array Value) (ty : TypeId) (j : Nat) : (W.alloc (.cells c ty)).cell? ⟨W.heap.size, j, none⟩ = c[j]? := by
  have h := World.alloc_heap_new W (.cells c ty)
  unfold World.cell?
  simp only [h]
  rfl
theorem cell_new_at (W : World) (c : Array Value) (ty : TypeId) (b j : Nat) (h : b = W.heap.size) : (W.alloc (.cells c ty)).cell? ⟨b, j, none⟩ = c[j]? := by
  subst h; exact cell_at_new W c ty j
theorem boxed_at (W : World) (v : Value) (ty : TypeId) (b : Nat) (h : b = W.heap.size) : Boxed (W.alloc (.cells #[v] ty)) b ty v := by
  subst h; exact Boxed.new W ty v
theorem cell_old (W : World) (o : Obj) (b j : Nat) (h : b < W.heap.size) : (W.alloc o).cell? ⟨b, j, none⟩ = W.cell? ⟨b, j, none⟩ :=
  ((Below.refl W.heap.size W).alloc (Nat.le_refl _) o).cell (p := ⟨b, j, none⟩) h


end Go.Proofs.Ytdnkommcnkbeeaa
