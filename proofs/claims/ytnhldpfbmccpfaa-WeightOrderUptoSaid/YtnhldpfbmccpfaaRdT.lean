/- What an argument reads as: an array of three terms. -/
import Derived.Test.YtnhldpfbmccpfaaRdK
namespace Go.Proofs.Ytnhldpfbmccpfaa
open Go.RowKit Go.ChangeShapes Go.WideShapes Go.ChangeAt Go.Deep

theorem cells3Term : Try.prog.cellsOf 41 = 9 := by kernel_rfl
set_option maxRecDepth 100000 in
set_option maxHeartbeats 1000000 in
theorem three_open {H : Type} (enc : TypeId × Value → H) (W : World) (n : Nat) (cs : List Value) (x : DataW H × List MemPlace) (h : DataW.trod enc Try.prog W 0 (fun _ => true) true n 41 cs = some x) (hfz : W.noneFrozen x.2) :
    ∃ (s t u : Tm) (sv tv uv : Value), cs = [.string s.nm, .bool s.vr, sv, .string t.nm, .bool t.vr, tv, .string u.nm, .bool u.vr, uv] ∧ SlIs W.heap.size W s.ts sv ∧ SlIs W.heap.size W t.ts tv ∧ SlIs W.heap.size W u.ts uv ∧ s.bulk + t.bulk + u.bulk ≤ Rows.uptoBulk x.1 := by
  obtain ⟨xs, m, rfl, rfl, hl, hlen, hf⟩ := DataW.trod_array Try.underlying41 h
  rw [cells3Term] at hl
  match cs, hl with
  | [a0, a1, a2, b0, b1, b2, d0, d1, d2], _ =>
    match xs, hlen with
    | [y0, y1, y2], _ =>
      have h0 := hf 0 (by omega)
      have h1 := hf 1 (by omega)
      have h2 := hf 2 (by omega)
      rw [cellsTerm] at h0 h1 h2
      simp only [List.getElem?_cons_zero, List.getElem?_cons_succ] at h0 h1 h2
      obtain ⟨s, sv, e0, hs, k0⟩ := term_open enc W m _ _ h0 (fun b off hp => hfz b off (by simp only [List.flatMap_cons, List.flatMap_nil, List.mem_append]; exact .inl hp))
      obtain ⟨t, tv, e1, ht, k1⟩ := term_open enc W m _ _ h1 (fun b off hp => hfz b off (by simp only [List.flatMap_cons, List.flatMap_nil, List.mem_append]; exact .inr (.inl hp)))
      obtain ⟨u, uv, e2, hu, k2⟩ := term_open enc W m _ _ h2 (fun b off hp => hfz b off (by simp only [List.flatMap_cons, List.flatMap_nil, List.mem_append]; exact .inr (.inr (.inl hp))))
      simp at e0 e1 e2
      obtain ⟨rfl, rfl, rfl⟩ := e0
      obtain ⟨rfl, rfl, rfl⟩ := e1
      obtain ⟨rfl, rfl, rfl⟩ := e2
      have e : Rows.uptoBulk (DataW.agg ([y0, y1, y2].map (·.1))) = Rows.uptoBulk y0.1 + (Rows.uptoBulk y1.1 + (Rows.uptoBulk y2.1 + 0)) + 1 := by simp only [List.map_cons, List.map_nil, Rows.uptoBulk, Rows.uptoBulkAll]
      refine ⟨s, t, u, _, _, _, rfl, hs, ht, hu, ?_⟩
      show _ ≤ Rows.uptoBulk (DataW.agg ([y0, y1, y2].map (·.1)))
      rw [e]
      have k0' : s.bulk ≤ Rows.uptoBulk y0.1 := k0
      have k1' : t.bulk ≤ Rows.uptoBulk y1.1 := k1
      have k2' : u.bulk ≤ Rows.uptoBulk y2.1 := k2
      omega
section
variable {H : Type} {enc : TypeId × Value → H} {w : World} (sp : Nat → Bool)
theorem sp_threeTerms (k : Nat) : SpAt enc Try.prog w sp k 41 := by
  match k with
  | 0 => exact sp_zero sp _
  | k + 1 => exact sp_array3 sp Try.underlying41 (sp_term sp k)
end
end Go.Proofs.Ytnhldpfbmccpfaa
