/- Merged: Rd, Sp, SpB. -/
import Derived.ProofKit
import Derived.WalkKit
import Derived.DataReads
import Derived.ChangeArms
import Derived.Deep.Slices
import Derived.Test.YtnomppdmhgefiaaRows
import Derived.Test.YtnomppdmhgefiaaTm
import Derived.Deep.Strs
import Derived.OpenShut
/- What an argument reads as: a term in memory. -/
namespace Go.Proofs.Ytnomppdmhgefiaa
open Go.RowKit Go.ChangeShapes Go.WideShapes Go.ChangeAt Go.Deep

theorem cellsTerm : Try.prog.cellsOf 26 = 3 := by kernel_rfl
instance : Inhabited Tm := ⟨.mk ⟨#[]⟩ false []⟩
theorem addr_add (b o k : Nat) : (⟨b, o, none⟩ : Addr).add k = ⟨b, o + k, none⟩ := by unfold Addr.add; split <;> simp_all
theorem bulks_range {H : Type} (T : Nat → Tm) (es : List (DataW H)) (h : ∀ i d, es[i]? = some d → (T i).bulk ≤ Rows.uptoBulk d) : Tm.bulks ((List.range es.length).map T) ≤ Rows.uptoBulkAll es := by
  induction es generalizing T with
  | nil => simp [Tm.bulks, Rows.uptoBulkAll]
  | cons d es ih =>
    have h0 := h 0 d rfl
    have h1 := ih (fun i => T (i + 1)) (fun i d' hd => h (i + 1) d' (by simpa using hd))
    simp only [List.length_cons, List.range_succ_eq_map, List.map_cons, List.map_map, Tm.bulks, Rows.uptoBulkAll, Function.comp_def] at h1 ⊢
    have e : Tm.bulks (List.map (fun x => T x.succ) (List.range es.length)) = Tm.bulks (List.map (fun i => T (i + 1)) (List.range es.length)) := rfl
    rw [e]
    omega

set_option maxRecDepth 100000 in
set_option maxHeartbeats 1000000 in
theorem term_open {H : Type} (enc : TypeId × Value → H) (W : World) (n : Nat) : ∀ (cs : List Value) (x : DataW H × List MemPlace), DataW.trod enc Try.prog W 0 (fun _ => true) true n 26 cs = some x → W.noneFrozen x.2 →
    ∃ (t : Tm) (s : Value), cs = [.string t.nm, .bool t.vr, s] ∧ SlIs W.heap.size W t.ts s ∧ t.bulk ≤ Rows.uptoBulk x.1 := by
  induction n using Nat.strongRecOn with
  | ind n ih =>
    intro cs x h hfz
    obtain ⟨xs, m, rfl, rfl, hl, hlen, hf⟩ := DataW.trod_struct Try.underlying26 h
    rw [cellsTerm] at hl
    match cs, hl with
    | [v0, v1, v2], _ =>
      match xs, hlen with
      | [y0, y1, y2], _ =>
        have h0 := hf 0 _ rfl
        have h1 := hf 1 _ rfl
        have h2 := hf 2 _ rfl
        simp only [List.getElem?_cons_zero, List.getElem?_cons_succ] at h0 h1 h2
        obtain ⟨s, hs, rfl, -⟩ := DataW.trod_string Try.underlying9 h0
        obtain ⟨b, hb, rfl⟩ := DataW.trod_bool Try.underlying4 h1
        cases hs
        cases hb
        rcases DataW.trod_slice Try.underlying24 h2 with ⟨hc, rfl⟩ | ⟨a, len, cap, elems, rest, k, rfl, hc, rfl, hba, hlc, hcm, hel, hall, -, -⟩
        · cases hc
          refine ⟨.mk s b [], _, rfl, .nil0, ?_⟩
          simp [Tm.bulk, Tm.bulks, Rows.uptoBulk, Rows.uptoBulkAll]
          have : s.data.size = s.size := rfl
          omega
        · cases hc
          rw [cellsTerm] at hall hfz
          have key : ∀ i, i < len → ∃ ts : Tm × Value, W.cells? 0 (a.add (i * 3)) 3 = some [.string ts.1.nm, .bool ts.1.vr, ts.2] ∧ SlIs W.heap.size W ts.1.ts ts.2 ∧ ∃ e, elems[i]? = some e ∧ ts.1.bulk ≤ Rows.uptoBulk e.1 := fun i hi => by
            have hi2 : i < elems.length := by omega
            have hh := hall i hi
            rw [List.getElem?_eq_getElem hi2] at hh
            obtain ⟨cs', g1, g2⟩ := Option.bind_eq_some_iff.1 hh
            obtain ⟨t, s', rfl, ht, hbk⟩ := ih k (by omega) cs' _ g2 (fun b' off hp => hfz b' off (by
              simp only [List.flatMap_cons, List.flatMap_nil, List.mem_append]
              refine .inr (.inr (.inl (.inr (List.mem_flatMap.2 ⟨elems[i], List.mem_append.2 (.inl (List.getElem_mem hi2)), hp⟩))))))
            exact ⟨(t, s'), g1, ht, _, List.getElem?_eq_getElem hi2, hbk⟩
          obtain ⟨TS, hTS⟩ := choose_lt (α := Tm × Value) key
          refine ⟨.mk s b ((List.range len).map fun i => (TS i).1), _, rfl, ?_, ?_⟩
          · by_cases hz0 : len = 0
            · subst hz0; exact .nil1 a cap
            · obtain ⟨c0, _, _⟩ := hTS 0 (by omega)
              have hsp : a.spot = none := by
                have := (World.cells?_some c0).2.2 0 (by omega)
                simp only [Nat.zero_mul] at this
                have e : (a.add 0).add 0 = a := by simp [Addr.add]
                rw [e] at this
                exact World.cell?_spot this
              obtain ⟨ab, ao, asp⟩ := a
              simp only at hsp; subst hsp
              have hlt : ab < W.heap.size := by
                have := (World.cells?_some c0).2.2 0 (by omega)
                exact World.block_lt_of_cell? W _ this
              have hrow := SlIs.row (n₀ := W.heap.size) (W := W) ab ao cap ((List.range len).map fun i => (TS i).1) (fun i => (TS i).2) (by simpa using hz0) hlt (by simpa using hlc)
                (fun i t ht => by
                  have hi : i < len := by have := (List.getElem?_eq_some_iff.1 ht).1; simpa using this
                  rw [List.getElem?_map, List.getElem?_range hi] at ht
                  cases ht
                  have hc := (World.cells?_some (hTS i hi).1).2.2
                  have k0 := hc 0 (by omega)
                  have k1 := hc 1 (by omega)
                  have k2 := hc 2 (by omega)
                  simp only [addr_add, Nat.add_zero, Nat.add_assoc] at k0 k1 k2
                  exact ⟨k0, by rw [Nat.add_assoc]; exact k1, by rw [Nat.add_assoc]; exact k2⟩)
                (fun i t ht => by
                  have hi : i < len := by have := (List.getElem?_eq_some_iff.1 ht).1; simpa using this
                  rw [List.getElem?_map, List.getElem?_range hi] at ht
                  cases ht
                  exact (hTS i hi).2.1)
                (fun i hi => hfz ab (ao + i) (by
                  simp only [List.flatMap_cons, List.flatMap_nil, List.mem_append]
                  refine .inr (.inr (.inl (.inl ?_)))
                  simp only [MemPlace.row, List.mem_map, List.mem_range]
                  exact ⟨i, by simp at hi; omega, rfl⟩))
              simpa [Tm.ts] using hrow
          · have hbs := bulks_range (fun i => (TS i).1) (elems.map (·.1)) (fun i d hd => by
              rw [List.getElem?_map, Option.map_eq_some_iff] at hd
              obtain ⟨e, he, rfl⟩ := hd
              have hi : i < len := by have := (List.getElem?_eq_some_iff.1 he).1; omega
              obtain ⟨_, _, e', he', hb'⟩ := hTS i hi
              rw [he] at he'; cases he'
              exact hb')
            rw [List.length_map, hel] at hbs
            simp [Tm.bulk, Rows.uptoBulk, Rows.uptoBulkAll]
            have : s.data.size = s.size := rfl
            omega
end Go.Proofs.Ytnomppdmhgefiaa
/- An argument read again, whatever is said of spare room elsewhere. -/
namespace Go.Proofs.Ytnomppdmhgefiaa
open Go.RowKit Go.ChangeShapes Go.WideShapes Go.ChangeAt Go.Deep

section
variable {H : Type} {enc : TypeId × Value → H} {P : Program} {w : World} (sp : Nat → Bool)
/-- what is read of a value of type t with fuel k, is read so too under sp -/
def SpAt (enc : TypeId × Value → H) (P : Program) (w : World) (sp : Nat → Bool) (k : Nat) (t : TypeId) : Prop :=
  ∀ cs x, DataW.trod enc P w 0 (fun _ => true) true k t cs = some x → (∀ p ∈ x.2, sp p.block = true) → ∃ m, DataW.trod enc P w 0 sp true m t cs = some x

theorem sp_string {t : TypeId} (ht : P.underlying t = some .string) (k : Nat) : SpAt enc P w sp k t := by
  intro cs x h _
  obtain ⟨s, rfl, rfl, hs⟩ := DataW.trod_string ht h
  exact ⟨1, by simp [DataW.trod, ht, hs]⟩
theorem sp_bool {t : TypeId} (ht : P.underlying t = some .bool) (k : Nat) : SpAt enc P w sp k t := by
  intro cs x h _
  obtain ⟨b, rfl, rfl⟩ := DataW.trod_bool ht h
  exact ⟨1, by simp [DataW.trod, ht]⟩
theorem sp_int {t : TypeId} {q : IntKind} (ht : P.underlying t = some (.int q)) (k : Nat) : SpAt enc P w sp k t := by
  intro cs x h _
  obtain ⟨b, rfl, rfl, hw⟩ := DataW.trod_int ht h
  exact ⟨1, by simp [DataW.trod, ht, hw]⟩
theorem row_block {a : Addr} {n : Nat} (hn : 0 < n) : ∃ p ∈ MemPlace.row a n, p.block = a.block :=
  ⟨.cell a.block (a.off + 0), List.mem_map.2 ⟨0, List.mem_range.2 hn, rfl⟩, rfl⟩

theorem sp_slice {t e : TypeId} (ht : P.underlying t = some (.slice e)) (hc : 0 < P.cellsOf e) {k : Nat} (hk : SpAt enc P w sp k e) : SpAt enc P w sp (k + 1) t := by
  intro cs x h hp
  rcases DataW.trod_slice ht h with ⟨rfl, rfl⟩ | ⟨a, len, cap, elems, rest, k', hkk, rfl, rfl, hba, hlc, hcm, hel, hall, hrest, -⟩
  · exact ⟨1, by simp [DataW.trod, ht]⟩
  · obtain rfl : k' = k := by omega
    obtain ⟨hrl, hrall⟩ := hrest rfl
    have hx : ∀ i, i < cap → ∃ cs n, w.cells? 0 (a.add (i * P.cellsOf e)) (P.cellsOf e) = some cs ∧ DataW.trod enc P w 0 sp true n e cs = some (((elems ++ rest).getD i (.nil, [])).1, ((elems ++ rest).getD i (.nil, [])).2) := fun i hi => by
      have key : (w.cells? 0 (a.add (i * P.cellsOf e)) (P.cellsOf e)).bind (DataW.trod enc P w 0 (fun _ => true) true k' e) = (elems ++ rest)[i]? := by
        by_cases hil : i < len
        · rw [hall i hil, List.getElem?_append_left (by omega)]
        · have := hrall (i - len) (by omega)
          rw [show len + (i - len) = i by omega] at this
          rw [this, List.getElem?_append_right (by omega), hel]
      have hlt : i < (elems ++ rest).length := by rw [List.length_append]; omega
      rw [List.getElem?_eq_getElem hlt] at key
      obtain ⟨cs', h1, h2⟩ := Option.bind_eq_some_iff.1 key
      obtain ⟨m, hm⟩ := hk cs' _ h2 (fun p hpp => hp p (List.mem_append.2 (.inr (List.mem_flatMap.2 ⟨_, List.getElem_mem hlt, hpp⟩))))
      refine ⟨cs', m, h1, ?_⟩
      rw [hm, List.getD_eq_getElem?_getD, List.getElem?_eq_getElem hlt]
      rfl
    have e1 : (List.range len).map (fun i => ((elems ++ rest).getD i (.nil, [])).1) = elems.map (·.1) := by
      rw [map_by_index elems (.nil, []) (·.1), hel]
      refine List.map_congr_left fun i hi => ?_
      have hi' : i < elems.length := by rw [hel]; simpa using hi
      simp [List.getD, List.getElem?_append_left hi']
    have e2 : (List.range (cap - len)).map (fun j => ((elems ++ rest).getD (len + j) (.nil, [])).1) = rest.map (·.1) := by
      rw [map_by_index rest (.nil, []) (·.1), hrl]
      refine List.map_congr_left fun j _ => ?_
      simp [List.getD, List.getElem?_append_right (show elems.length ≤ len + j by omega), hel]
    have e3 : (List.range cap).flatMap (fun i => ((elems ++ rest).getD i (.nil, [])).2) = (elems ++ rest).flatMap (·.2) := by
      rw [flatMap_by_index (elems ++ rest) (.nil, []) (·.2), List.length_append, hel, hrl, show len + (cap - len) = cap by omega]
    have e4 : elems.length + rest.length = cap := by omega
    by_cases hz : cap = 0
    · subst hz
      obtain rfl : len = 0 := by omega
      obtain rfl : elems = [] := List.length_eq_zero_iff.1 hel
      obtain rfl : rest = [] := List.length_eq_zero_iff.1 (by omega)
      exact ⟨1, by simp [DataW.trod, ht, hcm, MemPlace.row]⟩
    · have hspa : sp a.block = true := by
        obtain ⟨p, hp1, hp2⟩ := row_block (a := a) (n := cap * P.cellsOf e) (Nat.mul_pos (by omega) hc)
        rw [← hp2]
        exact hp p (List.mem_append.2 (.inl (by rw [e4]; exact hp1)))
      obtain ⟨m, hm⟩ := shut_slice_whole_cells (enc := enc) (held := true) ht hba hlc hcm hspa _ _ hx
      refine ⟨m, ?_⟩
      rw [hm, e1, e2, e3, e4]
theorem sp_zero (t : TypeId) : SpAt enc P w sp 0 t := by intro cs x h; simp [DataW.trod] at h
theorem sp_struct3 {t : TypeId} {f0 f1 f2 : Field} (ht : P.underlying t = some (.struct #[f0, f1, f2])) {k : Nat} (h0 : SpAt enc P w sp k f0.type) (h1 : SpAt enc P w sp k f1.type) (h2 : SpAt enc P w sp k f2.type) : SpAt enc P w sp (k + 1) t := by
  intro cs x h hp
  obtain ⟨xs, m, hkk, rfl, hl, hlen, hf⟩ := DataW.trod_struct ht h
  obtain rfl : m = k := by omega
  match xs, hlen with
  | [y0, y1, y2], _ =>
    have g0 := hf 0 f0 rfl
    have g1 := hf 1 f1 rfl
    have g2 := hf 2 f2 rfl
    simp only [List.getElem?_cons_zero, List.getElem?_cons_succ] at g0 g1 g2
    simp only [List.flatMap_cons, List.flatMap_nil, List.append_nil, List.mem_append] at hp
    obtain ⟨m0, k0⟩ := h0 _ _ g0 (fun p hpp => hp p (.inl hpp))
    obtain ⟨m1, k1⟩ := h1 _ _ g1 (fun p hpp => hp p (.inr (.inl hpp)))
    obtain ⟨m2, k2⟩ := h2 _ _ g2 (fun p hpp => hp p (.inr (.inr hpp)))
    have hq := trod_struct3_mk (enc := enc) ht hl (DataW.trod_le (show m0 ≤ max m0 (max m1 m2) by omega) k0) (DataW.trod_le (show m1 ≤ max m0 (max m1 m2) by omega) k1) (DataW.trod_le (show m2 ≤ max m0 (max m1 m2) by omega) k2)
    exact ⟨_, by rw [hq]; simp⟩
theorem trod_array_mk {t e : TypeId} {n m : Nat} {cs : List Value} {spare : Nat → Bool} {xs : List (DataW H × List MemPlace)} (ht : P.underlying t = some (.array n e)) (hl : cs.length = P.cellsOf t)
    (hp : (List.range n).mapM (fun i => DataW.trod enc P w 0 spare true m e ((cs.drop (i * P.cellsOf e)).take (P.cellsOf e))) = some xs) : DataW.trod enc P w 0 spare true (m + 1) t cs = some (.agg (xs.map (·.1)), xs.flatMap (·.2)) := by
  unfold DataW.trod
  rw [ht]
  split <;> simp_all
theorem sp_array2 {t e : TypeId} (ht : P.underlying t = some (.array 2 e)) {k : Nat} (hk : SpAt enc P w sp k e) : SpAt enc P w sp (k + 1) t := by
  intro cs x h hp
  obtain ⟨xs, m, hkk, rfl, hl, hlen, hf⟩ := DataW.trod_array ht h
  obtain rfl : m = k := by omega
  match xs, hlen with
  | [y0, y1], _ =>
    have g0 := hf 0 (by omega)
    have g1 := hf 1 (by omega)
    simp only [List.getElem?_cons_zero, List.getElem?_cons_succ] at g0 g1
    simp only [List.flatMap_cons, List.flatMap_nil, List.append_nil, List.mem_append] at hp
    obtain ⟨m0, k0⟩ := hk _ _ g0 (fun p hpp => hp p (.inl hpp))
    obtain ⟨m1, k1⟩ := hk _ _ g1 (fun p hpp => hp p (.inr hpp))
    refine ⟨max m0 m1 + 1, trod_array_mk (xs := [y0, y1]) ht hl ?_⟩
    have j0 := DataW.trod_le (show m0 ≤ max m0 m1 by omega) k0
    have j1 := DataW.trod_le (show m1 ≤ max m0 m1 by omega) k1
    rw [show List.range 2 = [0, 1] from rfl]
    rw [List.mapM_cons, j0]
    simp only [Option.bind_eq_bind, Option.bind_some, List.mapM_cons, j1, List.mapM_nil, Option.pure_def]
theorem trod_again {t : TypeId} {w0 : World} {v : Value} {d : DataW H} {ps : List MemPlace} (hs : ∀ k, SpAt enc P w sp k t) (h : DataW.Trod enc P w0 0 (fun _ => true) true t v d ps) (hp : ∀ p ∈ ps, sp p.block = true) (hm : ∀ p ∈ ps, w0.sameAt w p) :
    DataW.Trod enc P w 0 sp true t v d ps := by
  obtain ⟨n, hn⟩ := h
  exact hs n _ _ (DataW.trod_carry n t _ _ hn hm) hp
end
section
variable {H : Type} {enc : TypeId × Value → H} {w : World} (sp : Nat → Bool)
theorem sp_term (k : Nat) : SpAt enc Try.prog w sp k 26 := by
  induction k using Nat.strongRecOn with
  | ind k ih =>
    match k with
    | 0 => exact sp_zero sp _
    | 1 => exact sp_struct3 sp Try.underlying26 (sp_zero sp _) (sp_zero sp _) (sp_zero sp _)
    | k + 2 => exact sp_struct3 sp Try.underlying26 (sp_string sp Try.underlying9 _) (sp_bool sp Try.underlying4 _) (sp_slice sp Try.underlying24 (by rw [cellsTerm]; omega) (ih k (by omega)))
end
end Go.Proofs.Ytnomppdmhgefiaa
/- Arguments read again: a struct of two fields, an array of three. -/
namespace Go.Proofs.Ytnomppdmhgefiaa
open Go.RowKit Go.ChangeShapes Go.WideShapes Go.ChangeAt Go.Deep

theorem uptoBulk_mem {H : Type} {d : DataW H} {l : List (DataW H)} (h : d ∈ l) : Rows.uptoBulk d ≤ Rows.uptoBulkAll l := by
  induction l with
  | nil => cases h
  | cons x l ih =>
    rw [Rows.uptoBulkAll]
    rcases List.mem_cons.1 h with rfl | h
    · omega
    · have := ih h; omega
section
variable {H : Type} {enc : TypeId × Value → H} {P : Program} {w : World} (sp : Nat → Bool)
theorem sp_struct2 {t : TypeId} {f0 f1 : Field} (ht : P.underlying t = some (.struct #[f0, f1])) {k : Nat} (h0 : SpAt enc P w sp k f0.type) (h1 : SpAt enc P w sp k f1.type) : SpAt enc P w sp (k + 1) t := by
  intro cs x h hp
  obtain ⟨xs, m, hkk, rfl, hl, hlen, hf⟩ := DataW.trod_struct ht h
  obtain rfl : m = k := by omega
  match xs, hlen with
  | [y0, y1], _ =>
    have g0 := hf 0 f0 rfl
    have g1 := hf 1 f1 rfl
    simp only [List.getElem?_cons_zero, List.getElem?_cons_succ] at g0 g1
    simp only [List.flatMap_cons, List.flatMap_nil, List.append_nil, List.mem_append] at hp
    obtain ⟨m0, k0⟩ := h0 _ _ g0 (fun p hpp => hp p (.inl hpp))
    obtain ⟨m1, k1⟩ := h1 _ _ g1 (fun p hpp => hp p (.inr hpp))
    have hq := trod_struct2_mk (enc := enc) ht hl (DataW.trod_le (show m0 ≤ max m0 m1 by omega) k0) (DataW.trod_le (show m1 ≤ max m0 m1 by omega) k1)
    exact ⟨_, by rw [hq]; simp⟩
theorem sp_array3 {t e : TypeId} (ht : P.underlying t = some (.array 3 e)) {k : Nat} (hk : SpAt enc P w sp k e) : SpAt enc P w sp (k + 1) t := by
  intro cs x h hp
  obtain ⟨xs, m, hkk, rfl, hl, hlen, hf⟩ := DataW.trod_array ht h
  obtain rfl : m = k := by omega
  match xs, hlen with
  | [y0, y1, y2], _ =>
    have g0 := hf 0 (by omega)
    have g1 := hf 1 (by omega)
    have g2 := hf 2 (by omega)
    simp only [List.getElem?_cons_zero, List.getElem?_cons_succ] at g0 g1 g2
    simp only [List.flatMap_cons, List.flatMap_nil, List.append_nil, List.mem_append] at hp
    obtain ⟨m0, k0⟩ := hk _ _ g0 (fun p hpp => hp p (.inl hpp))
    obtain ⟨m1, k1⟩ := hk _ _ g1 (fun p hpp => hp p (.inr (.inl hpp)))
    obtain ⟨m2, k2⟩ := hk _ _ g2 (fun p hpp => hp p (.inr (.inr hpp)))
    refine ⟨max m0 (max m1 m2) + 1, trod_array_mk (xs := [y0, y1, y2]) ht hl ?_⟩
    have j0 := DataW.trod_le (show m0 ≤ max m0 (max m1 m2) by omega) k0
    have j1 := DataW.trod_le (show m1 ≤ max m0 (max m1 m2) by omega) k1
    have j2 := DataW.trod_le (show m2 ≤ max m0 (max m1 m2) by omega) k2
    rw [show List.range 3 = [0, 1, 2] from rfl]
    rw [List.mapM_cons, j0]
    simp only [Option.bind_eq_bind, Option.bind_some, List.mapM_cons, j1, j2, List.mapM_nil, Option.pure_def]
end
end Go.Proofs.Ytnomppdmhgefiaa
