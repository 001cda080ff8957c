/- What an argument reads as: precedences, three terms. -/
import Derived.Test.YtnomppdmhgefiaaSpB
import Derived.Test.YtnomppdmhgefiaaRkp
namespace Go.Proofs.Ytnomppdmhgefiaa
open Go.RowKit Go.ChangeShapes Go.WideShapes Go.ChangeAt Go.Deep

theorem cellsRank : Try.prog.cellsOf 50 = 3 := by kernel_rfl
instance : Inhabited Rk := ⟨([], 0, 0)⟩
set_option maxRecDepth 100000 in
set_option maxHeartbeats 1000000 in
theorem rank_open {H : Type} (enc : TypeId × Value → H) (W : World) (n : Nat) (cs : List Value) (x : DataW H × List MemPlace) (h : DataW.trod enc Try.prog W 0 (fun _ => true) true n 50 cs = some x) :
    ∃ (p : Rk), cs = [.string (kb p.1), .int .i64 p.2.1, .int .i64 p.2.2] ∧ 1 + p.1.length ≤ Rows.uptoBulk x.1 := by
  obtain ⟨xs, m, rfl, rfl, hl, hlen, hf⟩ := DataW.trod_struct Try.underlying50 h
  rw [cellsRank] at hl
  match cs, hl with
  | [v0, v1, v2], _ =>
    match xs, hlen with
    | [y0, y1, y2], _ =>
      have h0 := hf 0 _ rfl
      have h1 := hf 1 _ rfl
      have h2 := hf 2 _ rfl
      simp only [List.getElem?_cons_zero, List.getElem?_cons_succ] at h0 h1 h2
      obtain ⟨s, hs, rfl, -⟩ := DataW.trod_string Try.underlying9 h0
      obtain ⟨a, ha, rfl, -⟩ := DataW.trod_int Try.underlying3 h1
      obtain ⟨b, hb, rfl, -⟩ := DataW.trod_int Try.underlying3 h2
      cases hs
      cases ha
      cases hb
      refine ⟨(s.data.toList, a, b), by rw [kb_key], ?_⟩
      simp [Rows.uptoBulk, Rows.uptoBulkAll]
      have : s.data.size = s.size := rfl
      omega
set_option maxRecDepth 100000 in
set_option maxHeartbeats 1000000 in
theorem ranks_open {H : Type} (enc : TypeId × Value → H) (W : World) (n : Nat) (v : Value) (x : DataW H × List MemPlace) (h : DataW.trod enc Try.prog W 0 (fun _ => true) true n 22 [v] = some x) :
    ∃ (l : List Rk), RksIs W.heap.size W l v ∧ rkBulk l ≤ Rows.uptoBulk x.1 := by
  rcases DataW.trod_slice Try.underlying22 h with ⟨hc, rfl⟩ | ⟨a, len, cap, elems, rest, k, rfl, hc, rfl, hba, hlc, hcm, hel, hall, -, -⟩
  · cases hc
    exact ⟨[], ⟨none, 0, rfl, Nat.le_refl _, fun h => absurd rfl h⟩, rkBulk_le (by simp) (by simp)⟩
  · cases hc
    rw [cellsRank] at hall
    have key : ∀ i, i < len → ∃ p : Rk, W.cells? 0 (a.add (i * 3)) 3 = some [.string (kb p.1), .int .i64 p.2.1, .int .i64 p.2.2] ∧ ∃ e, elems[i]? = some e ∧ 1 + p.1.length ≤ Rows.uptoBulk e.1 := fun i hi => by
      have hi2 : i < elems.length := by omega
      have hh := hall i hi
      rw [List.getElem?_eq_getElem hi2] at hh
      obtain ⟨cs', g1, g2⟩ := Option.bind_eq_some_iff.1 hh
      obtain ⟨p, rfl, hbk⟩ := rank_open enc W k cs' _ g2
      exact ⟨p, g1, _, List.getElem?_eq_getElem hi2, hbk⟩
    obtain ⟨TS, hTS⟩ := choose_lt (α := Rk) key
    have hlen : ((List.range len).map fun i => TS i).length = len := by simp
    have hle : len ≤ Rows.uptoBulkAll (elems.map (·.1)) := by
      rw [← hel]
      have : ∀ l : List (DataW H × List MemPlace), (∀ e ∈ l, 1 ≤ Rows.uptoBulk e.1) → l.length ≤ Rows.uptoBulkAll (l.map (·.1)) := by
        intro l
        induction l with
        | nil => intro _; simp
        | cons e l ih => intro h; have h1 := h e (by simp); have h2 := ih fun x hx => h x (by simp [hx]); simp only [List.length_cons, List.map_cons, Rows.uptoBulkAll]; omega
      refine this elems fun e he => ?_
      obtain ⟨i, hi, hie⟩ := List.mem_iff_getElem.1 he
      obtain ⟨_, e', he', hb'⟩ := hTS i (by omega)
      rw [List.getElem?_eq_getElem hi, hie] at he'; cases he'
      omega
    have hup : Rows.uptoBulkAll (elems.map (·.1)) ≤ Rows.uptoBulk (DataW.slice (elems.map (·.1)) (rest.map (·.1))) := by simp only [Rows.uptoBulk]; omega
    refine ⟨(List.range len).map fun i => TS i, ⟨some a, cap, by rw [hlen], by rw [hlen]; exact hlc, fun hne => ?_⟩, rkBulk_le (by rw [hlen]; exact Nat.le_trans hle hup) fun p hp => ?_⟩
    · have hz0 : len ≠ 0 := by rintro rfl; simp at hne
      obtain ⟨c0, _⟩ := hTS 0 (by omega)
      have hsp : a.spot = none := by
        have := (World.cells?_some c0).2.2 0 (by omega)
        simp only [Nat.zero_mul] at this
        have e : (a.add 0).add 0 = a := by simp [Addr.add]
        rw [e] at this
        exact World.cell?_spot this
      obtain ⟨ab, ao, asp⟩ := a
      simp only at hsp; subst hsp
      have hlt : ab < W.heap.size := by
        have := (World.cells?_some c0).2.2 0 (by omega)
        exact World.block_lt_of_cell? W _ this
      refine ⟨ab, ao, rfl, hlt, fun i p hp => ?_⟩
      have hi : i < len := by have := (List.getElem?_eq_some_iff.1 hp).1; simpa using this
      rw [List.getElem?_map, List.getElem?_range hi] at hp
      cases hp
      have hc := (World.cells?_some (hTS i hi).1).2.2
      have k0 := hc 0 (by omega)
      have k1 := hc 1 (by omega)
      have k2 := hc 2 (by omega)
      simp only [addr_add, Nat.add_zero, Nat.add_assoc] at k0 k1 k2
      exact ⟨k0, by rw [Nat.add_assoc]; exact k1, by rw [Nat.add_assoc]; exact k2⟩
    · obtain ⟨i, hi, rfl⟩ := List.mem_map.1 hp
      have hi := List.mem_range.1 hi
      obtain ⟨_, e, he, hb⟩ := hTS i hi
      have := uptoBulk_mem (d := e.1) (l := elems.map (·.1)) (List.mem_map.2 ⟨e, List.mem_of_getElem? he, rfl⟩)
      exact Nat.le_trans hb (Nat.le_trans this hup)
section
variable {H : Type} {enc : TypeId × Value → H} {w : World} (sp : Nat → Bool)
theorem sp_rank (k : Nat) : SpAt enc Try.prog w sp k 50 := by
  match k with
  | 0 => exact sp_zero sp _
  | k + 1 => exact sp_struct3 sp Try.underlying50 (sp_string sp Try.underlying9 _) (sp_int sp Try.underlying3 _) (sp_int sp Try.underlying3 _)
theorem sp_ranks (k : Nat) : SpAt enc Try.prog w sp k 22 := by
  match k with
  | 0 => exact sp_zero sp _
  | k + 1 => exact sp_slice sp Try.underlying22 (by rw [cellsRank]; omega) (sp_rank sp k)
end
end Go.Proofs.Ytnomppdmhgefiaa
