/- What an argument reads as: a term in memory. -/
import Derived.ProofKit
import Derived.WalkKit
import Derived.DataReads
import Derived.ChangeArms
import Derived.Deep.Slices
import Derived.Test.YtnhldpfbmccpfaaRows
import Derived.Test.YtnhldpfbmccpfaaTm
namespace Go.Proofs.Ytnhldpfbmccpfaa
open Go.RowKit Go.ChangeShapes Go.WideShapes Go.ChangeAt Go.Deep

theorem cellsTerm : Try.prog.cellsOf 26 = 3 := by kernel_rfl
instance : Inhabited Tm := ⟨.mk ⟨#[]⟩ false []⟩
theorem addr_add (b o k : Nat) : (⟨b, o, none⟩ : Addr).add k = ⟨b, o + k, none⟩ := by unfold Addr.add; split <;> simp_all
theorem bulks_range {H : Type} (T : Nat → Tm) (es : List (DataW H)) (h : ∀ i d, es[i]? = some d → (T i).bulk ≤ Rows.uptoBulk d) : Tm.bulks ((List.range es.length).map T) ≤ Rows.uptoBulkAll es := by
  induction es generalizing T with
  | nil => simp [Tm.bulks, Rows.uptoBulkAll]
  | cons d es ih =>
    have h0 := h 0 d rfl
    have h1 := ih (fun i => T (i + 1)) (fun i d' hd => h (i + 1) d' (by simpa using hd))
    simp only [List.length_cons, List.range_succ_eq_map, List.map_cons, List.map_map, Tm.bulks, Rows.uptoBulkAll, Function.comp_def] at h1 ⊢
    have e : Tm.bulks (List.map (fun x => T x.succ) (List.range es.length)) = Tm.bulks (List.map (fun i => T (i + 1)) (List.range es.length)) := rfl
    rw [e]
    omega

set_option maxRecDepth 100000 in
set_option maxHeartbeats 1000000 in
theorem term_open {H : Type} (enc : TypeId × Value → H) (W : World) (n : Nat) : ∀ (cs : List Value) (x : DataW H × List MemPlace), DataW.trod enc Try.prog W 0 (fun _ => true) true n 26 cs = some x → W.noneFrozen x.2 →
    ∃ (t : Tm) (s : Value), cs = [.string t.nm, .bool t.vr, s] ∧ SlIs W.heap.size W t.ts s ∧ t.bulk ≤ Rows.uptoBulk x.1 := by
  induction n using Nat.strongRecOn with
  | ind n ih =>
    intro cs x h hfz
    obtain ⟨xs, m, rfl, rfl, hl, hlen, hf⟩ := DataW.trod_struct Try.underlying26 h
    rw [cellsTerm] at hl
    match cs, hl with
    | [v0, v1, v2], _ =>
      match xs, hlen with
      | [y0, y1, y2], _ =>
        have h0 := hf 0 _ rfl
        have h1 := hf 1 _ rfl
        have h2 := hf 2 _ rfl
        simp only [List.getElem?_cons_zero, List.getElem?_cons_succ] at h0 h1 h2
        obtain ⟨s, hs, rfl, -⟩ := DataW.trod_string Try.underlying9 h0
        obtain ⟨b, hb, rfl⟩ := DataW.trod_bool Try.underlying4 h1
        cases hs
        cases hb
        rcases DataW.trod_slice Try.underlying24 h2 with ⟨hc, rfl⟩ | ⟨a, len, cap, elems, rest, k, rfl, hc, rfl, hba, hlc, hcm, hel, hall, -, -⟩
        · cases hc
          refine ⟨.mk s b [], _, rfl, .nil0, ?_⟩
          simp [Tm.bulk, Tm.bulks, Rows.uptoBulk, Rows.uptoBulkAll]
          have : s.data.size = s.size := rfl
          omega
        · cases hc
          rw [cellsTerm] at hall hfz
          have key : ∀ i, i < len → ∃ ts : Tm × Value, W.cells? 0 (a.add (i * 3)) 3 = some [.string ts.1.nm, .bool ts.1.vr, ts.2] ∧ SlIs W.heap.size W ts.1.ts ts.2 ∧ ∃ e, elems[i]? = some e ∧ ts.1.bulk ≤ Rows.uptoBulk e.1 := fun i hi => by
            have hi2 : i < elems.length := by omega
            have hh := hall i hi
            rw [List.getElem?_eq_getElem hi2] at hh
            obtain ⟨cs', g1, g2⟩ := Option.bind_eq_some_iff.1 hh
            obtain ⟨t, s', rfl, ht, hbk⟩ := ih k (by omega) cs' _ g2 (fun b' off hp => hfz b' off (by
              simp only [List.flatMap_cons, List.flatMap_nil, List.mem_append]
              refine .inr (.inr (.inl (.inr (List.mem_flatMap.2 ⟨elems[i], List.mem_append.2 (.inl (List.getElem_mem hi2)), hp⟩))))))
            exact ⟨(t, s'), g1, ht, _, List.getElem?_eq_getElem hi2, hbk⟩
          obtain ⟨TS, hTS⟩ := choose_lt (α := Tm × Value) key
          refine ⟨.mk s b ((List.range len).map fun i => (TS i).1), _, rfl, ?_, ?_⟩
          · by_cases hz0 : len = 0
            · subst hz0; exact .nil1 a cap
            · obtain ⟨c0, _, _⟩ := hTS 0 (by omega)
              have hsp : a.spot = none := by
                have := (World.cells?_some c0).2.2 0 (by omega)
                simp only [Nat.zero_mul] at this
                have e : (a.add 0).add 0 = a := by simp [Addr.add]
                rw [e] at this
                exact World.cell?_spot this
              obtain ⟨ab, ao, asp⟩ := a
              simp only at hsp; subst hsp
              have hlt : ab < W.heap.size := by
                have := (World.cells?_some c0).2.2 0 (by omega)
                exact World.block_lt_of_cell? W _ this
              have hrow := SlIs.row (n₀ := W.heap.size) (W := W) ab ao cap ((List.range len).map fun i => (TS i).1) (fun i => (TS i).2) (by simpa using hz0) hlt (by simpa using hlc)
                (fun i t ht => by
                  have hi : i < len := by have := (List.getElem?_eq_some_iff.1 ht).1; simpa using this
                  rw [List.getElem?_map, List.getElem?_range hi] at ht
                  cases ht
                  have hc := (World.cells?_some (hTS i hi).1).2.2
                  have k0 := hc 0 (by omega)
                  have k1 := hc 1 (by omega)
                  have k2 := hc 2 (by omega)
                  simp only [addr_add, Nat.add_zero, Nat.add_assoc] at k0 k1 k2
                  exact ⟨k0, by rw [Nat.add_assoc]; exact k1, by rw [Nat.add_assoc]; exact k2⟩)
                (fun i t ht => by
                  have hi : i < len := by have := (List.getElem?_eq_some_iff.1 ht).1; simpa using this
                  rw [List.getElem?_map, List.getElem?_range hi] at ht
                  cases ht
                  exact (hTS i hi).2.1)
                (fun i hi => hfz ab (ao + i) (by
                  simp only [List.flatMap_cons, List.flatMap_nil, List.mem_append]
                  refine .inr (.inr (.inl (.inl ?_)))
                  simp only [MemPlace.row, List.mem_map, List.mem_range]
                  exact ⟨i, by simp at hi; omega, rfl⟩))
              simpa [Tm.ts] using hrow
          · have hbs := bulks_range (fun i => (TS i).1) (elems.map (·.1)) (fun i d hd => by
              rw [List.getElem?_map, Option.map_eq_some_iff] at hd
              obtain ⟨e, he, rfl⟩ := hd
              have hi : i < len := by have := (List.getElem?_eq_some_iff.1 he).1; omega
              obtain ⟨_, _, e', he', hb'⟩ := hTS i hi
              rw [he] at he'; cases he'
              exact hb')
            rw [List.length_map, hel] at hbs
            simp [Tm.bulk, Rows.uptoBulk, Rows.uptoBulkAll]
            have : s.data.size = s.size := rfl
            omega
end Go.Proofs.Ytnhldpfbmccpfaa
