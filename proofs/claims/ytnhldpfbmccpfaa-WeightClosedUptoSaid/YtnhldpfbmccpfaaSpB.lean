/- Arguments read again: a struct of two fields, an array of three. -/
import Derived.Test.YtnhldpfbmccpfaaSp
namespace Go.Proofs.Ytnhldpfbmccpfaa
open Go.RowKit Go.ChangeShapes Go.WideShapes Go.ChangeAt Go.Deep

theorem uptoBulk_mem {H : Type} {d : DataW H} {l : List (DataW H)} (h : d ∈ l) : Rows.uptoBulk d ≤ Rows.uptoBulkAll l := by
  induction l with
  | nil => cases h
  | cons x l ih =>
    rw [Rows.uptoBulkAll]
    rcases List.mem_cons.1 h with rfl | h
    · omega
    · have := ih h; omega
section
variable {H : Type} {enc : TypeId × Value → H} {P : Program} {w : World} (sp : Nat → Bool)
theorem sp_struct2 {t : TypeId} {f0 f1 : Field} (ht : P.underlying t = some (.struct #[f0, f1])) {k : Nat} (h0 : SpAt enc P w sp k f0.type) (h1 : SpAt enc P w sp k f1.type) : SpAt enc P w sp (k + 1) t := by
  intro cs x h hp
  obtain ⟨xs, m, hkk, rfl, hl, hlen, hf⟩ := DataW.trod_struct ht h
  obtain rfl : m = k := by omega
  match xs, hlen with
  | [y0, y1], _ =>
    have g0 := hf 0 f0 rfl
    have g1 := hf 1 f1 rfl
    simp only [List.getElem?_cons_zero, List.getElem?_cons_succ] at g0 g1
    simp only [List.flatMap_cons, List.flatMap_nil, List.append_nil, List.mem_append] at hp
    obtain ⟨m0, k0⟩ := h0 _ _ g0 (fun p hpp => hp p (.inl hpp))
    obtain ⟨m1, k1⟩ := h1 _ _ g1 (fun p hpp => hp p (.inr hpp))
    have hq := trod_struct2_mk (enc := enc) ht hl (DataW.trod_le (show m0 ≤ max m0 m1 by omega) k0) (DataW.trod_le (show m1 ≤ max m0 m1 by omega) k1)
    exact ⟨_, by rw [hq]; simp⟩
theorem sp_array3 {t e : TypeId} (ht : P.underlying t = some (.array 3 e)) {k : Nat} (hk : SpAt enc P w sp k e) : SpAt enc P w sp (k + 1) t := by
  intro cs x h hp
  obtain ⟨xs, m, hkk, rfl, hl, hlen, hf⟩ := DataW.trod_array ht h
  obtain rfl : m = k := by omega
  match xs, hlen with
  | [y0, y1, y2], _ =>
    have g0 := hf 0 (by omega)
    have g1 := hf 1 (by omega)
    have g2 := hf 2 (by omega)
    simp only [List.getElem?_cons_zero, List.getElem?_cons_succ] at g0 g1 g2
    simp only [List.flatMap_cons, List.flatMap_nil, List.append_nil, List.mem_append] at hp
    obtain ⟨m0, k0⟩ := hk _ _ g0 (fun p hpp => hp p (.inl hpp))
    obtain ⟨m1, k1⟩ := hk _ _ g1 (fun p hpp => hp p (.inr (.inl hpp)))
    obtain ⟨m2, k2⟩ := hk _ _ g2 (fun p hpp => hp p (.inr (.inr hpp)))
    refine ⟨max m0 (max m1 m2) + 1, trod_array_mk (xs := [y0, y1, y2]) ht hl ?_⟩
    have j0 := DataW.trod_le (show m0 ≤ max m0 (max m1 m2) by omega) k0
    have j1 := DataW.trod_le (show m1 ≤ max m0 (max m1 m2) by omega) k1
    have j2 := DataW.trod_le (show m2 ≤ max m0 (max m1 m2) by omega) k2
    rw [show List.range 3 = [0, 1, 2] from rfl]
    rw [List.mapM_cons, j0]
    simp only [Option.bind_eq_bind, Option.bind_some, List.mapM_cons, j1, j2, List.mapM_nil, Option.pure_def]
end
end Go.Proofs.Ytnhldpfbmccpfaa
