/- What an argument reads as: two terms; a substitution, a term and a position. -/
import Derived.Test.YtdnkommcnkbeeaaRdB
import Derived.Test.YtdnkommcnkbeeaaLoc
namespace Go.Proofs.Ytdnkommcnkbeeaa
open Go.RowKit Go.ChangeShapes Go.WideShapes Go.ChangeAt Go.Deep

theorem cells2Term : Try.prog.cellsOf 38 = 6 := by kernel_rfl
theorem cellsIntX : Try.prog.cellsOf 3 = 1 := by kernel_rfl
theorem cellsIntsX : Try.prog.cellsOf 40 = 1 := by kernel_rfl
theorem cellsAroundX : Try.prog.cellsOf 42 = 5 := by kernel_rfl
theorem bulk_posX {H : Type} (d : DataW H) : 1 ≤ Rows.uptoBulk d := by
  cases d with
  | lit l => cases l <;> simp [Rows.uptoBulk]
  | nil => simp [Rows.uptoBulk]
  | ptr d => simp [Rows.uptoBulk]
  | slice elems spare => simp [Rows.uptoBulk]
  | agg parts => simp [Rows.uptoBulk]
  | iface t d => simp [Rows.uptoBulk]
  | map entries => simp [Rows.uptoBulk]
  | held h => simp [Rows.uptoBulk]
theorem bulk_lengthX {H : Type} (l : List (DataW H)) : l.length ≤ Rows.uptoBulkAll l := by
  induction l with
  | nil => simp [Rows.uptoBulkAll]
  | cons x r ih => have := bulk_posX x; simp only [Rows.uptoBulkAll, List.length_cons]; omega
theorem pos_openX {H : Type} (enc : TypeId × Value → H) (W : World) (n : Nat) (cs : List Value) (x : DataW H × List MemPlace) (h : DataW.trod enc Try.prog W 0 (fun _ => true) true n 40 cs = some x) :
    ∃ (l : List Int) (v : Value), cs = [v] ∧ PosIs W.heap.size W l v ∧ l.length ≤ Rows.uptoBulk x.1 ∧ (∀ oa m k, v = .slice oa m k → m ≤ k) := by
  rcases open_ints Try.underlying40 Try.underlying3 cellsIntX h with ⟨rfl, rfl⟩ | ⟨a, len, cap, zs, rfl, hba, hlc, hcm, hzl, rfl, hcell, -⟩
  · exact ⟨[], _, rfl, ⟨_, _, rfl, fun h => absurd rfl h⟩, by simp, by rintro oa m k ⟨⟩; exact Nat.le_refl _⟩
  · simp only [if_true] at hzl
    have hll : (zs.take len).length = len := by simp; omega
    refine ⟨zs.take len, _, rfl, ⟨some a, cap, by rw [hll], fun hne => ?_⟩, ?_, by rintro oa m k ⟨⟩; exact hlc⟩
    · have hpos : 0 < len := by
        cases len with
        | zero => exact absurd rfl hne
        | succ n => omega
      have h0 := hcell 0 (by omega)
      have e0 : a.add 0 = a := by simp [Addr.add]
      rw [e0] at h0
      have hsp := World.cell?_spot h0
      obtain ⟨ab, ao, asp⟩ := a
      simp only at hsp; subst hsp
      refine ⟨ab, ao, rfl, World.block_lt_of_cell? W _ h0, fun i x hx => ?_⟩
      have hi : i < len := by have := (List.getElem?_eq_some_iff.1 hx).1; omega
      have hc := hcell i (by omega)
      rw [addr_add] at hc
      rw [hc]
      rw [List.getElem?_take, if_pos hi] at hx
      rw [List.getD_eq_getElem?_getD, hx]; rfl
    · rw [hll]
      simp only [Rows.uptoBulk]
      have := bulk_lengthX (H := H) (lits .i64 (zs.take len))
      rw [show (lits (H := H) IntKind.i64 (zs.take len)).length = len by rw [lits, List.length_map]; exact hll] at this
      omega
set_option maxRecDepth 100000 in
set_option maxHeartbeats 1000000 in
theorem two_openX {H : Type} (enc : TypeId × Value → H) (W : World) (n : Nat) (cs : List Value) (x : DataW H × List MemPlace) (h : DataW.trod enc Try.prog W 0 (fun _ => true) true n 38 cs = some x) (hfz : W.noneFrozen x.2) :
    ∃ (s t : Tm) (sv tv : Value), cs = [.string s.nm, .bool s.vr, sv, .string t.nm, .bool t.vr, tv] ∧ SlIs W.heap.size W s.ts sv ∧ SlIs W.heap.size W t.ts tv ∧ s.bulk + t.bulk ≤ Rows.uptoBulk x.1 := by
  obtain ⟨xs, m, rfl, rfl, hl, hlen, hf⟩ := DataW.trod_array Try.underlying38 h
  rw [cells2Term] at hl
  match cs, hl with
  | [a0, a1, a2, b0, b1, b2], _ =>
    match xs, hlen with
    | [y0, y1], _ =>
      have h0 := hf 0 (by omega)
      have h1 := hf 1 (by omega)
      rw [cellsTerm] at h0 h1
      simp only [List.getElem?_cons_zero, List.getElem?_cons_succ] at h0 h1
      obtain ⟨s, sv, e0, hs, k0⟩ := term_open enc W m _ _ h0 (fun b off hp => hfz b off (by simp only [List.flatMap_cons, List.flatMap_nil, List.mem_append]; exact .inl hp))
      obtain ⟨t, tv, e1, ht, k1⟩ := term_open enc W m _ _ h1 (fun b off hp => hfz b off (by simp only [List.flatMap_cons, List.flatMap_nil, List.mem_append]; exact .inr (.inl hp)))
      simp at e0 e1
      obtain ⟨rfl, rfl, rfl⟩ := e0
      obtain ⟨rfl, rfl, rfl⟩ := e1
      have e : Rows.uptoBulk (DataW.agg ([y0, y1].map (·.1))) = Rows.uptoBulk y0.1 + (Rows.uptoBulk y1.1 + 0) + 1 := by simp only [List.map_cons, List.map_nil, Rows.uptoBulk, Rows.uptoBulkAll]
      refine ⟨s, t, _, _, rfl, hs, ht, ?_⟩
      show _ ≤ Rows.uptoBulk (DataW.agg ([y0, y1].map (·.1)))
      rw [e]
      have k0' : s.bulk ≤ Rows.uptoBulk y0.1 := k0
      have k1' : t.bulk ≤ Rows.uptoBulk y1.1 := k1
      omega
set_option maxRecDepth 100000 in
set_option maxHeartbeats 1000000 in
theorem around_open {H : Type} (enc : TypeId × Value → H) (W : World) (n : Nat) (cs : List Value) (x : DataW H × List MemPlace) (h : DataW.trod enc Try.prog W 0 (fun _ => true) true n 42 cs = some x) (hfz : W.noneFrozen x.2) :
    ∃ (bl : List Bd) (bv : Value) (c : Tm) (cv : Value) (pos : List Int) (pv : Value), cs = [bv, .string c.nm, .bool c.vr, cv, pv] ∧ BindsIs W.heap.size W bl bv ∧ SlIs W.heap.size W c.ts cv ∧ PosIs W.heap.size W pos pv ∧ (∀ oa m k, pv = .slice oa m k → m ≤ k) ∧ bdBulk bl + c.bulk + pos.length ≤ Rows.uptoBulk x.1 := by
  obtain ⟨xs, m, rfl, rfl, hl, hlen, hf⟩ := DataW.trod_struct Try.underlying42 h
  rw [cellsAroundX] at hl
  match cs, hl with
  | [v0, v1, v2, v3, v4], _ =>
    match xs, hlen with
    | [y0, y1, y2], _ =>
      have h0 := hf 0 _ rfl
      have h1 := hf 1 _ rfl
      have h2 := hf 2 _ rfl
      simp only [List.getElem?_cons_zero, List.getElem?_cons_succ] at h0 h1 h2
      obtain ⟨bl, hbl, kb, -⟩ := binds_open enc W m v0 _ h0 (fun b off hp => hfz b off (by simp only [List.flatMap_cons, List.flatMap_nil, List.mem_append]; exact .inl hp))
      obtain ⟨c, cv, e1, hc, kc⟩ := term_open enc W m _ _ h1 (fun b off hp => hfz b off (by simp only [List.flatMap_cons, List.flatMap_nil, List.mem_append]; exact .inr (.inl hp)))
      obtain ⟨pos, pv, e2, hp, kp, hcap⟩ := pos_openX enc W m _ _ h2
      cases e1
      cases e2
      have e : Rows.uptoBulk (DataW.agg ([y0, y1, y2].map (·.1))) = Rows.uptoBulk y0.1 + (Rows.uptoBulk y1.1 + (Rows.uptoBulk y2.1 + 0)) + 1 := by simp only [List.map_cons, List.map_nil, Rows.uptoBulk, Rows.uptoBulkAll]
      refine ⟨bl, _, c, _, pos, _, rfl, hbl, hc, hp, hcap, ?_⟩
      show _ ≤ Rows.uptoBulk (DataW.agg ([y0, y1, y2].map (·.1)))
      rw [e]
      have k0' : bdBulk bl ≤ Rows.uptoBulk y0.1 := kb
      have k1' : c.bulk ≤ Rows.uptoBulk y1.1 := kc
      have k2' : pos.length ≤ Rows.uptoBulk y2.1 := kp
      omega
section
variable {H : Type} {enc : TypeId × Value → H} {w : World} (sp : Nat → Bool)
theorem sp_twoTermsX (k : Nat) : SpAt enc Try.prog w sp k 38 := by
  match k with
  | 0 => exact sp_zero sp _
  | k + 1 => exact sp_array2 sp Try.underlying38 (sp_term sp k)
theorem sp_intsX (k : Nat) : SpAt enc Try.prog w sp k 40 := by
  match k with
  | 0 => exact sp_zero sp _
  | k + 1 => exact sp_slice sp Try.underlying40 (by rw [cellsIntX]; omega) (sp_int sp Try.underlying3 k)
theorem sp_around (k : Nat) : SpAt enc Try.prog w sp k 42 := by
  match k with
  | 0 => exact sp_zero sp _
  | k + 1 => exact sp_struct3 sp Try.underlying42 (sp_binds sp k) (sp_term sp k) (sp_intsX sp k)
end
end Go.Proofs.Ytdnkommcnkbeeaa
