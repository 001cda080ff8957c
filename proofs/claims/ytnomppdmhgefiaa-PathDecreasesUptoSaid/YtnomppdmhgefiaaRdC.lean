/- What an argument reads as: rules, steps, a derivation; rows in general. -/
import Derived.Test.YtnomppdmhgefiaaRdW
import Derived.Test.YtnomppdmhgefiaaSid
import Derived.Test.YtnomppdmhgefiaaTms
namespace Go.Proofs.Ytnomppdmhgefiaa
open Go.RowKit Go.ChangeShapes Go.WideShapes Go.ChangeAt Go.Deep

set_option maxRecDepth 100000 in
set_option maxHeartbeats 1000000 in
/-- a slice of elements of c cells each, read as a row -/
theorem row_open {H : Type} (enc : TypeId × Value → H) (W : World) {t e : TypeId} {c : Nat} {α : Type} [Inhabited α] (ht : Try.prog.underlying t = some (.slice e)) (hce : Try.prog.cellsOf e = c) (hc0 : 0 < c) (Q : α → List Value → Prop) (bd : α → Nat)
    (elem : ∀ n cs x, DataW.trod enc Try.prog W 0 (fun _ => true) true n e cs = some x → W.noneFrozen x.2 → ∃ a, Q a cs ∧ 1 + bd a ≤ Rows.uptoBulk x.1)
    (n : Nat) (v : Value) (x : DataW H × List MemPlace) (h : DataW.trod enc Try.prog W 0 (fun _ => true) true n t [v] = some x) (hfz : W.noneFrozen x.2) :
    ∃ (l : List α) (oa : Option Addr) (cap : Nat), v = .slice oa l.length cap ∧ l.length ≤ cap ∧ l.length < Rows.uptoBulk x.1 ∧ (∀ a ∈ l, bd a < Rows.uptoBulk x.1) ∧
      (l ≠ [] → ∃ b o, oa = some ⟨b, o, none⟩ ∧ b < W.heap.size ∧ (∀ i, i < l.length * c → W.frozen? ⟨b, o + i, none⟩ = false) ∧ ∀ i a, l[i]? = some a → ∃ cs, Q a cs ∧ cs.length = c ∧ ∀ j, j < c → W.cell? ⟨b, o + i * c + j, none⟩ = cs[j]?) := by
  rcases DataW.trod_slice ht h with ⟨hc, rfl⟩ | ⟨a, len, cap, elems, rest, k, rfl, hc, rfl, hba, hlc, hcm, hel, hall, -, -⟩
  · cases hc
    exact ⟨[], none, 0, rfl, Nat.le_refl _, by simp [Rows.uptoBulk], by simp, fun h => absurd rfl h⟩
  · cases hc
    rw [hce] at hall hfz
    have key : ∀ i, i < len → ∃ ps : α × List Value, W.cells? 0 (a.add (i * c)) c = some ps.2 ∧ Q ps.1 ps.2 ∧ ∃ e, elems[i]? = some e ∧ 1 + bd ps.1 ≤ Rows.uptoBulk e.1 := fun i hi => by
      have hi2 : i < elems.length := by omega
      have hh := hall i hi
      rw [List.getElem?_eq_getElem hi2] at hh
      obtain ⟨cs', g1, g2⟩ := Option.bind_eq_some_iff.1 hh
      obtain ⟨p, hq, hbk⟩ := elem k cs' _ g2 (fun b' off hp => hfz b' off (List.mem_append.2 (.inr (List.mem_flatMap.2 ⟨elems[i], List.mem_append.2 (.inl (List.getElem_mem hi2)), hp⟩))))
      exact ⟨(p, cs'), g1, hq, _, List.getElem?_eq_getElem hi2, hbk⟩
    obtain ⟨TS, hTS⟩ := choose_lt (α := α × List Value) key
    have hlen : ((List.range len).map fun i => (TS i).1).length = len := by simp
    have hle : len ≤ Rows.uptoBulkAll (elems.map (·.1)) := by
      have := bulk_lengthX (elems.map (·.1))
      rw [List.length_map] at this
      omega
    have hup : Rows.uptoBulkAll (elems.map (·.1)) < Rows.uptoBulk (DataW.slice (elems.map (·.1)) (rest.map (·.1))) := by simp only [Rows.uptoBulk]; omega
    refine ⟨(List.range len).map fun i => (TS i).1, some a, cap, by rw [hlen], by rw [hlen]; exact hlc, by rw [hlen]; exact Nat.lt_of_le_of_lt hle hup, fun p hp => ?_, fun hne => ?_⟩
    · obtain ⟨i, hi, rfl⟩ := List.mem_map.1 hp
      have hi := List.mem_range.1 hi
      obtain ⟨_, _, e, he, hb⟩ := hTS i hi
      have := uptoBulk_mem (d := e.1) (l := elems.map (·.1)) (List.mem_map.2 ⟨e, List.mem_of_getElem? he, rfl⟩)
      show bd (TS i).1 < Rows.uptoBulk (DataW.slice (elems.map (·.1)) (rest.map (·.1)))
      omega
    · have hz0 : len ≠ 0 := by rintro rfl; simp at hne
      obtain ⟨c0, _, _⟩ := hTS 0 (by omega)
      have hsp : a.spot = none := by
        have := (World.cells?_some c0).2.2 0 hc0
        simp only [Nat.zero_mul] at this
        have e : (a.add 0).add 0 = a := by simp [Addr.add]
        rw [e] at this
        have hl0 := (World.cells?_some c0).2.1
        rw [List.getElem?_eq_getElem (by omega)] at this
        exact World.cell?_spot this
      obtain ⟨ab, ao, asp⟩ := a
      simp only at hsp; subst hsp
      have hlt : ab < W.heap.size := by
        have := (World.cells?_some c0).2.2 0 hc0
        have hl0 := (World.cells?_some c0).2.1
        rw [List.getElem?_eq_getElem (by omega)] at this
        have := World.block_lt_of_cell? W _ this
        simpa [addr_add] using this
      refine ⟨ab, ao, rfl, hlt, fun i hi => hfz ab (ao + i) (List.mem_append.2 (.inl ?_)), fun i p hp => ?_⟩
      · rw [hlen] at hi
        simp only [MemPlace.row, List.mem_map, List.mem_range]
        exact ⟨i, Nat.lt_of_lt_of_le hi (Nat.mul_le_mul_right c (show len ≤ elems.length + rest.length by omega)), rfl⟩
      · have hi : i < len := by have := (List.getElem?_eq_some_iff.1 hp).1; simpa using this
        rw [List.getElem?_map, List.getElem?_range hi] at hp
        cases hp
        have hc := World.cells?_some (hTS i hi).1
        refine ⟨_, (hTS i hi).2.1, hc.2.1, fun j hj => ?_⟩
        have k0 := hc.2.2 j hj
        simp only [addr_add] at k0
        exact k0

theorem cellsRule : Try.prog.cellsOf 42 = 6 := by kernel_rfl
theorem cellsStep : Try.prog.cellsOf 46 = 2 := by kernel_rfl
theorem cellsChain : Try.prog.cellsOf 29 = 4 := by kernel_rfl
instance : Inhabited RlV := ⟨((.mk ⟨#[]⟩ false [], .bool false), (.mk ⟨#[]⟩ false [], .bool false))⟩
set_option maxRecDepth 100000 in
set_option maxHeartbeats 1000000 in
theorem rule_open {H : Type} (enc : TypeId × Value → H) (W : World) (n : Nat) (cs : List Value) (x : DataW H × List MemPlace) (h : DataW.trod enc Try.prog W 0 (fun _ => true) true n 42 cs = some x) (hfz : W.noneFrozen x.2) :
    ∃ p : RlV, (cs = [.string p.1.1.nm, .bool p.1.1.vr, p.1.2, .string p.2.1.nm, .bool p.2.1.vr, p.2.2] ∧ SlIs W.heap.size W p.1.1.ts p.1.2 ∧ SlIs W.heap.size W p.2.1.ts p.2.2) ∧ 1 + (p.1.1.bulk + p.2.1.bulk) ≤ Rows.uptoBulk x.1 := by
  obtain ⟨xs, m, rfl, rfl, hl, hlen, hf⟩ := DataW.trod_struct Try.underlying42 h
  rw [cellsRule] at hl
  match cs, hl with
  | [a0, a1, a2, b0, b1, b2], _ =>
    match xs, hlen with
    | [y0, y1], _ =>
      have h0 := hf 0 _ rfl
      have h1 := hf 1 _ rfl
      simp only [List.getElem?_cons_zero, List.getElem?_cons_succ] at h0 h1
      obtain ⟨s, sv, e0, hs, k0⟩ := term_open enc W m _ _ h0 (fun b off hp => hfz b off (by simp only [List.flatMap_cons, List.flatMap_nil, List.mem_append]; exact .inl hp))
      obtain ⟨t, tv, e1, ht, k1⟩ := term_open enc W m _ _ h1 (fun b off hp => hfz b off (by simp only [List.flatMap_cons, List.flatMap_nil, List.mem_append]; exact .inr (.inl hp)))
      cases e0
      cases e1
      have e : Rows.uptoBulk (DataW.agg ([y0, y1].map (·.1))) = Rows.uptoBulk y0.1 + (Rows.uptoBulk y1.1 + 0) + 1 := by simp only [List.map_cons, List.map_nil, Rows.uptoBulk, Rows.uptoBulkAll]
      refine ⟨((s, _), (t, _)), ⟨rfl, hs, ht⟩, ?_⟩
      show _ ≤ Rows.uptoBulk (DataW.agg ([y0, y1].map (·.1)))
      rw [e]
      have k0' : s.bulk ≤ Rows.uptoBulk y0.1 := k0
      have k1' : t.bulk ≤ Rows.uptoBulk y1.1 := k1
      show 1 + (s.bulk + t.bulk) ≤ _
      omega
theorem sides_bulk {R : List RlV} {B : Nat} (h : ∀ p ∈ R, p.1.1.bulk + p.2.1.bulk < B) : ∀ x ∈ sidesV R, x.1.bulk < B := by
  induction R with
  | nil => intro x hx; simp [sidesV] at hx
  | cons p l ih =>
    intro x hx
    have hp := h p (by simp)
    simp only [sidesV, List.mem_cons] at hx
    rcases hx with rfl | rfl | hx
    · omega
    · omega
    · exact ih (fun q hq => h q (by simp [hq])) x hx
set_option maxRecDepth 100000 in
set_option maxHeartbeats 1000000 in
theorem rules_open {H : Type} (enc : TypeId × Value → H) (W : World) (n : Nat) (v : Value) (x : DataW H × List MemPlace) (h : DataW.trod enc Try.prog W 0 (fun _ => true) true n 23 [v] = some x) (hfz : W.noneFrozen x.2) :
    ∃ (R : List RlV), RulV W.heap.size W R v ∧ R.length < Rows.uptoBulk x.1 ∧ (∀ x' ∈ sidesV R, x'.1.bulk < Rows.uptoBulk x.1) := by
  obtain ⟨l, oa, cap, rfl, hlc, hlb, hbd, hrow⟩ := row_open (α := RlV) enc W Try.underlying23 cellsRule (by omega) (fun p cs => cs = [.string p.1.1.nm, .bool p.1.1.vr, p.1.2, .string p.2.1.nm, .bool p.2.1.vr, p.2.2] ∧ SlIs W.heap.size W p.1.1.ts p.1.2 ∧ SlIs W.heap.size W p.2.1.ts p.2.2) (fun p => p.1.1.bulk + p.2.1.bulk) (fun n cs x h hf => rule_open enc W n cs x h hf) n v x h hfz
  refine ⟨l, ⟨oa, cap, rfl, hlc, fun hne => ?_⟩, hlb, sides_bulk hbd⟩
  obtain ⟨b, o, rfl, hb, -, hcs⟩ := hrow hne
  refine ⟨b, o, rfl, hb, fun i p hp => ?_⟩
  obtain ⟨cs, ⟨rfl, h1, h2⟩, -, hj⟩ := hcs i p hp
  exact ⟨⟨hj 0 (by omega), hj 1 (by omega), hj 2 (by omega), hj 3 (by omega), hj 4 (by omega), hj 5 (by omega)⟩, h1, h2⟩
set_option maxRecDepth 100000 in
set_option maxHeartbeats 1000000 in
theorem step_open {H : Type} (enc : TypeId × Value → H) (W : World) (n : Nat) (cs : List Value) (x : DataW H × List MemPlace) (h : DataW.trod enc Try.prog W 0 (fun _ => true) true n 46 cs = some x) :
    ∃ p : Int × List Int, (∃ op cp, cs = [.int .i64 p.1, .slice op p.2.length cp] ∧ p.2.length ≤ cp ∧ PosIs W.heap.size W p.2 (.slice op p.2.length cp)) ∧ 1 + p.2.length ≤ Rows.uptoBulk x.1 := by
  obtain ⟨xs, m, rfl, rfl, hl, hlen, hf⟩ := DataW.trod_struct Try.underlying46 h
  rw [cellsStep] at hl
  match cs, hl with
  | [a0, a1], _ =>
    match xs, hlen with
    | [y0, y1], _ =>
      have h0 := hf 0 _ rfl
      have h1 := hf 1 _ rfl
      simp only [List.getElem?_cons_zero, List.getElem?_cons_succ] at h0 h1
      obtain ⟨a, ha, rfl, -⟩ := DataW.trod_int Try.underlying3 h0
      cases ha
      obtain ⟨pos, pv, e2, hp, kp, hcap⟩ := pos_openX enc W m _ _ h1
      cases e2
      have hp' := hp
      obtain ⟨op, cp, rfl, -⟩ := hp'
      refine ⟨(a, pos), ⟨op, cp, rfl, hcap _ _ _ rfl, hp⟩, ?_⟩
      have kp' : pos.length ≤ Rows.uptoBulk y1.1 := kp
      simp only [List.map_cons, List.map_nil, Rows.uptoBulk, Rows.uptoBulkAll]
      omega
set_option maxRecDepth 100000 in
set_option maxHeartbeats 1000000 in
theorem steps_open {H : Type} (enc : TypeId × Value → H) (W : World) (n : Nat) (v : Value) (x : DataW H × List MemPlace) (h : DataW.trod enc Try.prog W 0 (fun _ => true) true n 27 [v] = some x) (hfz : W.noneFrozen x.2) :
    ∃ (L : List (Int × List Int)), StpsV W.heap.size W L v ∧ L.length < Rows.uptoBulk x.1 ∧ (∀ p ∈ L, p.2.length < Rows.uptoBulk x.1) := by
  obtain ⟨l, oa, cap, rfl, hlc, hlb, hbd, hrow⟩ := row_open (α := Int × List Int) enc W Try.underlying27 cellsStep (by omega) (fun p cs => ∃ op cp, cs = [.int .i64 p.1, .slice op p.2.length cp] ∧ p.2.length ≤ cp ∧ PosIs W.heap.size W p.2 (.slice op p.2.length cp)) (fun p => p.2.length) (fun n cs x h _ => step_open enc W n cs x h) n v x h hfz
  refine ⟨l, ⟨oa, cap, rfl, hlc, fun hne => ?_⟩, hlb, hbd⟩
  obtain ⟨b, o, rfl, hb, -, hcs⟩ := hrow hne
  refine ⟨b, o, rfl, hb, fun i p hp => ?_⟩
  obtain ⟨cs, ⟨op, cp, rfl, h1, h2⟩, -, hj⟩ := hcs i p hp
  exact ⟨op, cp, hj 0 (by omega), hj 1 (by omega), h1, h2⟩
set_option maxRecDepth 100000 in
set_option maxHeartbeats 1000000 in
theorem chain_open {H : Type} (enc : TypeId × Value → H) (W : World) (n : Nat) (cs : List Value) (x : DataW H × List MemPlace) (h : DataW.trod enc Try.prog W 0 (fun _ => true) true n 29 cs = some x) (hfz : W.noneFrozen x.2) :
    ∃ (t : Tm) (s : Value) (L : List (Int × List Int)) (sv : Value), cs = [.string t.nm, .bool t.vr, s, sv] ∧ SlIs W.heap.size W t.ts s ∧ StpsV W.heap.size W L sv ∧ t.bulk < Rows.uptoBulk x.1 ∧ L.length < Rows.uptoBulk x.1 ∧ (∀ p ∈ L, p.2.length < Rows.uptoBulk x.1) := by
  obtain ⟨xs, m, rfl, rfl, hl, hlen, hf⟩ := DataW.trod_struct Try.underlying29 h
  rw [cellsChain] at hl
  match cs, hl with
  | [a0, a1, a2, b0], _ =>
    match xs, hlen with
    | [y0, y1], _ =>
      have h0 := hf 0 _ rfl
      have h1 := hf 1 _ rfl
      simp only [List.getElem?_cons_zero, List.getElem?_cons_succ] at h0 h1
      obtain ⟨t, tv, e0, ht, k0⟩ := term_open enc W m _ _ h0 (fun b off hp => hfz b off (by simp only [List.flatMap_cons, List.flatMap_nil, List.mem_append]; exact .inl hp))
      obtain ⟨L, hL, k1, k2⟩ := steps_open enc W m _ _ h1 (fun b off hp => hfz b off (by simp only [List.flatMap_cons, List.flatMap_nil, List.mem_append]; exact .inr (.inl hp)))
      cases e0
      have e : Rows.uptoBulk (DataW.agg ([y0, y1].map (·.1))) = Rows.uptoBulk y0.1 + (Rows.uptoBulk y1.1 + 0) + 1 := by simp only [List.map_cons, List.map_nil, Rows.uptoBulk, Rows.uptoBulkAll]
      have k0' : t.bulk ≤ Rows.uptoBulk y0.1 := k0
      have k1' : L.length < Rows.uptoBulk y1.1 := k1
      refine ⟨t, _, L, _, rfl, ht, hL, ?_, ?_, fun p hp => ?_⟩
      · show _ < Rows.uptoBulk (DataW.agg ([y0, y1].map (·.1)))
        rw [e]; omega
      · show _ < Rows.uptoBulk (DataW.agg ([y0, y1].map (·.1)))
        rw [e]; omega
      · show _ < Rows.uptoBulk (DataW.agg ([y0, y1].map (·.1)))
        rw [e]
        have k2' : p.2.length < Rows.uptoBulk y1.1 := k2 p hp
        omega
section
variable {H : Type} {enc : TypeId × Value → H} {w : World} (sp : Nat → Bool)
theorem sp_rule (k : Nat) : SpAt enc Try.prog w sp k 42 := by
  match k with
  | 0 => exact sp_zero sp _
  | k + 1 => exact sp_struct2 sp Try.underlying42 (sp_term sp _) (sp_term sp _)
theorem sp_rules (k : Nat) : SpAt enc Try.prog w sp k 23 := by
  match k with
  | 0 => exact sp_zero sp _
  | k + 1 => exact sp_slice sp Try.underlying23 (by rw [cellsRule]; omega) (sp_rule sp k)
theorem sp_step (k : Nat) : SpAt enc Try.prog w sp k 46 := by
  match k with
  | 0 => exact sp_zero sp _
  | k + 1 => exact sp_struct2 sp Try.underlying46 (sp_int sp Try.underlying3 _) (sp_intsX sp _)
theorem sp_steps (k : Nat) : SpAt enc Try.prog w sp k 27 := by
  match k with
  | 0 => exact sp_zero sp _
  | k + 1 => exact sp_slice sp Try.underlying27 (by rw [cellsStep]; omega) (sp_step sp k)
theorem sp_chain (k : Nat) : SpAt enc Try.prog w sp k 29 := by
  match k with
  | 0 => exact sp_zero sp _
  | k + 1 => exact sp_struct2 sp Try.underlying29 (sp_term sp _) (sp_steps sp _)
end
end Go.Proofs.Ytnomppdmhgefiaa
