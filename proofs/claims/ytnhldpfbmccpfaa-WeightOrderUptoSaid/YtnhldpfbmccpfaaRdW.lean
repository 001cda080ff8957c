/- What an argument reads as: a weight order. -/
import Derived.Test.YtnhldpfbmccpfaaRdK
namespace Go.Proofs.Ytnhldpfbmccpfaa
open Go.RowKit Go.ChangeShapes Go.WideShapes Go.ChangeAt Go.Deep

theorem cellsOrder : Try.prog.cellsOf 40 = 2 := by kernel_rfl
set_option maxRecDepth 100000 in
set_option maxHeartbeats 1000000 in
theorem order_open {H : Type} (enc : TypeId × Value → H) (W : World) (n : Nat) (cs : List Value) (x : DataW H × List MemPlace) (h : DataW.trod enc Try.prog W 0 (fun _ => true) true n 40 cs = some x) :
    ∃ (L : List Rk) (lv : Value) (u : Int), cs = [lv, .int .i64 u] ∧ RksIs W.heap.size W L lv ∧ rkBulk L ≤ Rows.uptoBulk x.1 := by
  obtain ⟨xs, m, rfl, rfl, hl, hlen, hf⟩ := DataW.trod_struct Try.underlying40 h
  rw [cellsOrder] at hl
  match cs, hl with
  | [v0, v1], _ =>
    match xs, hlen with
    | [y0, y1], _ =>
      have h0 := hf 0 _ rfl
      have h1 := hf 1 _ rfl
      simp only [List.getElem?_cons_zero, List.getElem?_cons_succ] at h0 h1
      obtain ⟨L, hL, hb⟩ := ranks_open enc W _ _ _ h0
      obtain ⟨a, ha, rfl, -⟩ := DataW.trod_int Try.underlying3 h1
      cases ha
      refine ⟨L, v0, a, rfl, hL, ?_⟩
      simp only [List.map_cons, List.map_nil, Rows.uptoBulk, Rows.uptoBulkAll]
      have hb' : rkBulk L ≤ Rows.uptoBulk y0.1 := hb
      omega
section
variable {H : Type} {enc : TypeId × Value → H} {w : World} (sp : Nat → Bool)
theorem sp_order (k : Nat) : SpAt enc Try.prog w sp k 40 := by
  match k with
  | 0 => exact sp_zero sp _
  | k + 1 => exact sp_struct2 sp Try.underlying40 (sp_ranks sp _) (sp_int sp Try.underlying3 _)
end
end Go.Proofs.Ytnhldpfbmccpfaa
