/- Merged: RdB, RdX, RdW. -/
import Derived.Test.YtnomppdmhgefiaaSpB
import Derived.Test.YtnomppdmhgefiaaSub
import Derived.Test.YtnomppdmhgefiaaLoc
import Derived.Test.YtnomppdmhgefiaaRdK
/- What an argument reads as: bindings in memory. -/
namespace Go.Proofs.Ytnomppdmhgefiaa
open Go.RowKit Go.ChangeShapes Go.WideShapes Go.ChangeAt Go.Deep

theorem cellsBind : Try.prog.cellsOf 109 = 4 := by kernel_rfl
theorem cellsBinds : Try.prog.cellsOf 74 = 1 := by kernel_rfl
instance : Inhabited Bd := ⟨([], .mk ⟨#[]⟩ false [])⟩
set_option maxRecDepth 100000 in
set_option maxHeartbeats 1000000 in
theorem bind_open {H : Type} (enc : TypeId × Value → H) (W : World) (n : Nat) (cs : List Value) (x : DataW H × List MemPlace) (h : DataW.trod enc Try.prog W 0 (fun _ => true) true n 109 cs = some x) (hfz : W.noneFrozen x.2) :
    ∃ (p : Bd) (s : Value), cs = [.string (kb p.1), .string p.2.nm, .bool p.2.vr, s] ∧ SlIs W.heap.size W p.2.ts s ∧ 1 + p.1.length + p.2.bulk ≤ Rows.uptoBulk x.1 := by
  obtain ⟨xs, m, rfl, rfl, hl, hlen, hf⟩ := DataW.trod_struct Try.underlying109 h
  rw [cellsBind] at hl
  match cs, hl with
  | [v0, v1, v2, v3], _ =>
    match xs, hlen with
    | [y0, y1], _ =>
      have h0 := hf 0 _ rfl
      have h1 := hf 1 _ rfl
      simp only [List.getElem?_cons_zero, List.getElem?_cons_succ] at h0 h1
      obtain ⟨s, hs, rfl, -⟩ := DataW.trod_string Try.underlying9 h0
      cases hs
      obtain ⟨t, st, e1, ht, hbt⟩ := term_open enc W m _ _ h1 (fun b off hp => hfz b off (by simp only [List.flatMap_cons, List.flatMap_nil, List.mem_append]; exact .inr (.inl hp)))
      cases e1
      refine ⟨(s.data.toList, t), v3, by rw [kb_key], ht, ?_⟩
      have hb' : t.bulk ≤ Rows.uptoBulk y1.1 := hbt
      have hl := bytes_len s
      simp [Rows.uptoBulk, Rows.uptoBulkAll]
      have : s.data.size = s.size := rfl
      simp at hl
      omega
set_option maxRecDepth 100000 in
set_option maxHeartbeats 1000000 in
theorem binds_open {H : Type} (enc : TypeId × Value → H) (W : World) (n : Nat) (v : Value) (x : DataW H × List MemPlace) (h : DataW.trod enc Try.prog W 0 (fun _ => true) true n 74 [v] = some x) (hfz : W.noneFrozen x.2) :
    ∃ (bl : List Bd), BindsIs W.heap.size W bl v ∧ bdBulk bl ≤ Rows.uptoBulk x.1 ∧ bl.length ≤ Rows.uptoBulk x.1 := by
  rcases DataW.trod_slice Try.underlying74 h with ⟨hc, rfl⟩ | ⟨a, len, cap, elems, rest, k, rfl, hc, rfl, hba, hlc, hcm, hel, hall, -, -⟩
  · cases hc
    exact ⟨[], ⟨none, 0, rfl, Nat.le_refl _, fun h => absurd rfl h⟩, bdBulk_le (by simp) (by simp), by simp⟩
  · cases hc
    rw [cellsBind] at hall hfz
    have key : ∀ i, i < len → ∃ ps : Bd × Value, W.cells? 0 (a.add (i * 4)) 4 = some [.string (kb ps.1.1), .string ps.1.2.nm, .bool ps.1.2.vr, ps.2] ∧ SlIs W.heap.size W ps.1.2.ts ps.2 ∧ ∃ e, elems[i]? = some e ∧ 1 + ps.1.1.length + ps.1.2.bulk ≤ Rows.uptoBulk e.1 := fun i hi => by
      have hi2 : i < elems.length := by omega
      have hh := hall i hi
      rw [List.getElem?_eq_getElem hi2] at hh
      obtain ⟨cs', g1, g2⟩ := Option.bind_eq_some_iff.1 hh
      obtain ⟨p, s', rfl, ht, hbk⟩ := bind_open enc W k cs' _ g2 (fun b' off hp => hfz b' off (List.mem_append.2 (.inr (List.mem_flatMap.2 ⟨elems[i], List.mem_append.2 (.inl (List.getElem_mem hi2)), hp⟩))))
      exact ⟨(p, s'), g1, ht, _, List.getElem?_eq_getElem hi2, hbk⟩
    obtain ⟨TS, hTS⟩ := choose_lt (α := Bd × Value) key
    have hlen : ((List.range len).map fun i => (TS i).1).length = len := by simp
    have hle : len ≤ Rows.uptoBulkAll (elems.map (·.1)) := by
      rw [← hel]
      have : ∀ l : List (DataW H × List MemPlace), (∀ e ∈ l, 1 ≤ Rows.uptoBulk e.1) → l.length ≤ Rows.uptoBulkAll (l.map (·.1)) := by
        intro l
        induction l with
        | nil => intro _; simp
        | cons e l ih => intro h; have h1 := h e (by simp); have h2 := ih fun x hx => h x (by simp [hx]); simp only [List.length_cons, List.map_cons, Rows.uptoBulkAll]; omega
      refine this elems fun e he => ?_
      obtain ⟨i, hi, hie⟩ := List.mem_iff_getElem.1 he
      obtain ⟨_, _, e', he', hb'⟩ := hTS i (by omega)
      rw [List.getElem?_eq_getElem hi, hie] at he'; cases he'
      omega
    have hup : Rows.uptoBulkAll (elems.map (·.1)) ≤ Rows.uptoBulk (DataW.slice (elems.map (·.1)) (rest.map (·.1))) := by simp only [Rows.uptoBulk]; omega
    refine ⟨(List.range len).map fun i => (TS i).1, ⟨some a, cap, by rw [hlen], by rw [hlen]; exact hlc, fun hne => ?_⟩, bdBulk_le (by rw [hlen]; exact Nat.le_trans hle hup) fun p hp => ?_, by rw [hlen]; exact Nat.le_trans hle hup⟩
    · have hz0 : len ≠ 0 := by rintro rfl; simp at hne
      obtain ⟨c0, _, _⟩ := hTS 0 (by omega)
      have hsp : a.spot = none := by
        have := (World.cells?_some c0).2.2 0 (by omega)
        simp only [Nat.zero_mul] at this
        have e : (a.add 0).add 0 = a := by simp [Addr.add]
        rw [e] at this
        exact World.cell?_spot this
      obtain ⟨ab, ao, asp⟩ := a
      simp only at hsp; subst hsp
      have hlt : ab < W.heap.size := by
        have := (World.cells?_some c0).2.2 0 (by omega)
        exact World.block_lt_of_cell? W _ this
      refine ⟨ab, ao, rfl, hlt, fun i p hp => ?_⟩
      have hi : i < len := by have := (List.getElem?_eq_some_iff.1 hp).1; simpa using this
      rw [List.getElem?_map, List.getElem?_range hi] at hp
      cases hp
      have hc := (World.cells?_some (hTS i hi).1).2.2
      have k0 := hc 0 (by omega)
      have k1 := hc 1 (by omega)
      have k2 := hc 2 (by omega)
      have k3 := hc 3 (by omega)
      simp only [addr_add, Nat.add_zero, Nat.add_assoc] at k0 k1 k2 k3
      exact ⟨(TS i).2, k0, by rw [Nat.add_assoc]; exact k1, by rw [Nat.add_assoc]; exact k2, by rw [Nat.add_assoc]; exact k3, (hTS i hi).2.1⟩
    · obtain ⟨i, hi, rfl⟩ := List.mem_map.1 hp
      have hi := List.mem_range.1 hi
      obtain ⟨_, _, e, he, hb⟩ := hTS i hi
      have := uptoBulk_mem (d := e.1) (l := elems.map (·.1)) (List.mem_map.2 ⟨e, List.mem_of_getElem? he, rfl⟩)
      exact Nat.le_trans hb (Nat.le_trans this hup)
section
variable {H : Type} {enc : TypeId × Value → H} {w : World} (sp : Nat → Bool)
theorem sp_bind (k : Nat) : SpAt enc Try.prog w sp k 109 := by
  match k with
  | 0 => exact sp_zero sp _
  | k + 1 => exact sp_struct2 sp Try.underlying109 (sp_string sp Try.underlying9 _) (sp_term sp _)
theorem sp_binds (k : Nat) : SpAt enc Try.prog w sp k 74 := by
  match k with
  | 0 => exact sp_zero sp _
  | k + 1 => exact sp_slice sp Try.underlying74 (by rw [cellsBind]; omega) (sp_bind sp k)
end
end Go.Proofs.Ytnomppdmhgefiaa
/- What an argument reads as: two terms; a substitution, a term and a position. -/
namespace Go.Proofs.Ytnomppdmhgefiaa
open Go.RowKit Go.ChangeShapes Go.WideShapes Go.ChangeAt Go.Deep

theorem cellsIntX : Try.prog.cellsOf 3 = 1 := by kernel_rfl
theorem cellsIntsX : Try.prog.cellsOf 44 = 1 := by kernel_rfl
theorem bulk_posX {H : Type} (d : DataW H) : 1 ≤ Rows.uptoBulk d := by
  cases d with
  | lit l => cases l <;> simp [Rows.uptoBulk]
  | nil => simp [Rows.uptoBulk]
  | ptr d => simp [Rows.uptoBulk]
  | slice elems spare => simp [Rows.uptoBulk]
  | agg parts => simp [Rows.uptoBulk]
  | iface t d => simp [Rows.uptoBulk]
  | map entries => simp [Rows.uptoBulk]
  | held h => simp [Rows.uptoBulk]
theorem bulk_lengthX {H : Type} (l : List (DataW H)) : l.length ≤ Rows.uptoBulkAll l := by
  induction l with
  | nil => simp [Rows.uptoBulkAll]
  | cons x r ih => have := bulk_posX x; simp only [Rows.uptoBulkAll, List.length_cons]; omega
theorem pos_openX {H : Type} (enc : TypeId × Value → H) (W : World) (n : Nat) (cs : List Value) (x : DataW H × List MemPlace) (h : DataW.trod enc Try.prog W 0 (fun _ => true) true n 44 cs = some x) :
    ∃ (l : List Int) (v : Value), cs = [v] ∧ PosIs W.heap.size W l v ∧ l.length ≤ Rows.uptoBulk x.1 ∧ (∀ oa m k, v = .slice oa m k → m ≤ k) := by
  rcases open_ints Try.underlying44 Try.underlying3 cellsIntX h with ⟨rfl, rfl⟩ | ⟨a, len, cap, zs, rfl, hba, hlc, hcm, hzl, rfl, hcell, -⟩
  · exact ⟨[], _, rfl, ⟨_, _, rfl, fun h => absurd rfl h⟩, by simp, by rintro oa m k ⟨⟩; exact Nat.le_refl _⟩
  · simp only [if_true] at hzl
    have hll : (zs.take len).length = len := by simp; omega
    refine ⟨zs.take len, _, rfl, ⟨some a, cap, by rw [hll], fun hne => ?_⟩, ?_, by rintro oa m k ⟨⟩; exact hlc⟩
    · have hpos : 0 < len := by
        cases len with
        | zero => exact absurd rfl hne
        | succ n => omega
      have h0 := hcell 0 (by omega)
      have e0 : a.add 0 = a := by simp [Addr.add]
      rw [e0] at h0
      have hsp := World.cell?_spot h0
      obtain ⟨ab, ao, asp⟩ := a
      simp only at hsp; subst hsp
      refine ⟨ab, ao, rfl, World.block_lt_of_cell? W _ h0, fun i x hx => ?_⟩
      have hi : i < len := by have := (List.getElem?_eq_some_iff.1 hx).1; omega
      have hc := hcell i (by omega)
      rw [addr_add] at hc
      rw [hc]
      rw [List.getElem?_take, if_pos hi] at hx
      rw [List.getD_eq_getElem?_getD, hx]; rfl
    · rw [hll]
      simp only [Rows.uptoBulk]
      have := bulk_lengthX (H := H) (lits .i64 (zs.take len))
      rw [show (lits (H := H) IntKind.i64 (zs.take len)).length = len by rw [lits, List.length_map]; exact hll] at this
      omega
section
variable {H : Type} {enc : TypeId × Value → H} {w : World} (sp : Nat → Bool)
theorem sp_intsX (k : Nat) : SpAt enc Try.prog w sp k 44 := by
  match k with
  | 0 => exact sp_zero sp _
  | k + 1 => exact sp_slice sp Try.underlying44 (by rw [cellsIntX]; omega) (sp_int sp Try.underlying3 k)
end
end Go.Proofs.Ytnomppdmhgefiaa
/- What an argument reads as: a weight order. -/
namespace Go.Proofs.Ytnomppdmhgefiaa
open Go.RowKit Go.ChangeShapes Go.WideShapes Go.ChangeAt Go.Deep

section
variable {H : Type} {enc : TypeId × Value → H} {w : World} (sp : Nat → Bool)
end
end Go.Proofs.Ytnomppdmhgefiaa
