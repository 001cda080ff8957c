/- The names that a substitution changes. -/
import Derived.WalkKit
import Derived.ProofKit
import Derived.OpenShut
import Derived.Handy
import Derived.Lib.Hide
import Derived.Test.YtkglopdogakfoaaGreatDoorHcy
import Derived.Test.YtkglopdogakfoaaGreatDoorGf
import Derived.Test.YtkglopdogakfoaaGreatDoorItr
namespace Go.Proofs.YtkglopdogakfoaaGreatDoor
open Go.RowKit Go.Maps Go.Sort

/-- names that are gathered in a row of their own -/
structure NmSt (w W : World) (v : Value) (l : List Key) : Prop where
  row : W.ownsRow w.heap.size 9 1 v l.length (strs l)
  low : Below w.heap.size w W
theorem NmSt.start (w : World) : NmSt w w (.slice none 0 0) [] := ⟨World.ownsRow_nil _ _ _ _, Below.refl _ _⟩
theorem NmSt.below {w W A : World} {v : Value} {l : List Key} (h : NmSt w W v l) (hb : Below W.heap.size W A) : NmSt w A v l := ⟨h.row.kept (below_grown hb) (own_none _), h.low.trans (hb.mono h.low.size)⟩
theorem NmSt.step {w W B W5 : World} {v v5 : Value} {l : List Key} {x : Key} (h : NmSt w W v l) (hB : Below W.heap.size W B) (h5 : B.grownBy W5 v.ownBlock) (ho : W5.ownsRow w.heap.size 9 1 v5 (l.length + 1) (strs l ++ [.string (kb x)])) : NmSt w W5 v5 (l ++ [x]) := by
  have z0 := h.low.size
  have zB := hB.size
  have z5 := h5.size
  have own : ∀ j, v.ownBlock = some j → w.heap.size ≤ j ∧ j < W.heap.size := fun j hj => h.row.lt j hj
  refine ⟨by rw [List.length_append, strs_append]; exact ho, h5.os.trans (hB.os.trans h.low.os), h5.tape.trans (hB.tape.trans h.low.tape), h5.output.trans (hB.output.trans h.low.output), by omega, fun k hk => ?_⟩
  exact (h5.block k (by omega) (fun e => by have := own _ e.symm; omega)).trans ((hB.block k (by omega)).trans (h.low.block k hk))
theorem NmSt.shape {w W : World} {v : Value} {l : List Key} (h : NmSt w W v l) : ∃ o c, v = .slice o l.length c := ownsRow_shape h.row

/-- the names that are replaced and stand for no term, in order -/
def Chg (S : Sv) (L : List Key) : Prop := L.Pairwise (· < ·) ∧ ∀ x, x ∈ L ↔ x ∈ S.eq.map (·.1) ∧ x ∉ S.bd.map (·.1)
set_option maxRecDepth 100000 in
set_option maxHeartbeats 4000000 in
theorem changed_any {N : Nat} {GW : World → Prop} (HG : Hid (ItoaOk N GW)) (sb m1 m2 : Nat) (S : Sv) (hel : S.eq.length ≤ 1048576) (p : Nat → Prop) (w : World) (hS : SvIs GW sb m1 m2 p S w) :
    Calls Tryz.prog 144 #[.pointer (some ⟨sb, 0, none⟩)] w fun e w' => (∃ (v : Value) (L : List Key), e = .returned v ∧ StrIs w'.heap.size w' L v ∧ Chg S L) ∧ Below w.heap.size w w' := by
  obtain ⟨i0, hi, hz, hs1, hbb1⟩ := info_parts infoStr
  have HI := Lib.hid hi
  have HZ := Lib.hid hz
  have HS1 := Lib.hid hs1
  have HBB := Lib.hid hbb1
  have HS := Lib.hid hS
  obtain ⟨E, hE, he⟩ := id hS.eql
  have hEn : (E.map (·.1)).Nodup := by obtain ⟨_, _, h⟩ := hE; exact h.nodup
  have hEl : E.length ≤ 1048576 := Nat.le_trans (he.len hEn) hel
  have HSRT := Lib.hid (sortedE_any m2 E w hE hEl)
  have hord := sortK_order hEn
  have hlen : (sortK (E.map (·.1))).length ≤ 1048576 := by rw [sortK_len, List.length_map]; exact hEl
  have hmem : ∀ x, x ∈ sortK (E.map (·.1)) ↔ x ∈ S.eq.map (·.1) := fun x => sortK_mem.trans (he.keys x)
  obtain ⟨x0, x1⟩ := box2 hS.box
  generalize hso : sortK (E.map (·.1)) = so at HSRT hord hlen hmem
  have HORD := Lib.hid hord
  have HMEM := Lib.hid hmem
  clear hi hz hs1 hbb1 hS hE he hEn hEl hord hmem hso
  go_enter Tryz.func144, Tryz.ntmps144
  go_wp2_with (go_at_call 170; refine (keysE_any m2 _).mono ?_; rintro e w' ⟨rfl, rfl⟩)
  refine HSRT.out.mono ?_
  rintro e wb ⟨⟨sv, rfl, hsv⟩, hwb⟩
  have hsv' := hsv
  obtain ⟨oa, cap, rfl, hcap, -, hcell⟩ := hsv'
  have HWB := Lib.hid hwb
  have HC := Lib.hid hcell
  have hwz := hwb.size
  clear hsv hwb hcell HSRT
  go_wp2_with fail
  go_loopw [3, 15] (fun v i wr => ∃ (j : Nat) (l : List Key), j ≤ so.length ∧ i = .int .i64 j ∧ Hid (NmSt wb wr v l) ∧ Hid (l = (so.take j).filter fun k => decide (k ∉ S.bd.map (·.1)))) (fun _ i _ => so.length - (intOf i).toNat)
  case atStart => exact ⟨0, [], by omega, rfl, Lib.hid (NmSt.start wb), Lib.hid (by simp)⟩
  case round =>
    obtain ⟨j, l, hj, rfl, HST, HL⟩ := hrel
    obtain ⟨or, cr, rfl⟩ := HST.out.shape
    by_cases hlt : j < so.length
    · obtain ⟨k, hk⟩ : ∃ k, so[j]? = some k := ⟨_, List.getElem?_eq_getElem hlt⟩
      have hkm : k ∈ S.eq.map (·.1) := (HMEM.out k).1 (List.mem_of_getElem? hk)
      obtain ⟨b1, p1, rfl, hb1, hc1⟩ := HC.out (by intro e; rw [e] at hlt; simp at hlt)
      have hlow := HST.out.low
      have hlz := hlow.size
      have c1 := (hlow.cell (p := ⟨b1, p1 + j, none⟩) hb1).trans (hc1 j k hk)
      have hbw : Below w.heap.size w wr := HWB.out.trans (hlow.mono hwz)
      have hSr := HS.out.below HG.out hbw
      obtain ⟨x0, x1⟩ := box2 hSr.box
      have hkl : k.length ≤ 1048576 := by
        obtain ⟨q, hq, rfl⟩ := List.mem_map.1 hkm
        have := (hSr.ok.eqs q hq).1.1; omega
      have HKEY := Lib.hid (keyOf_kb hkl)
      have hll : l.length ≤ j := by rw [HL.out]; exact Nat.le_trans (List.length_filter_le _ _) (by rw [List.length_take]; omega)
      have HTK : Hid (so.take (j + 1) = so.take j ++ [k]) := Lib.hid (by rw [List.take_add_one, hk]; rfl)
      cases hg : getA S.bd k with
      | some t =>
        have hnew : (so.take (j + 1)).filter (fun k => decide (k ∉ S.bd.map (·.1))) = l := by
          rw [HTK.out, List.filter_append, ← HL.out, List.filter_cons, if_neg (by simpa using getA_mem.2 ⟨t, hg⟩)]; simp
        have HNEW := Lib.hid hnew
        obtain ⟨D, s, hown, hhas, hat, hs⟩ := hSr.bnd.at hg
        obtain ⟨o4, k4, rfl⟩ := hs.form
        have HOWN := Lib.hid hown
        have HHAS := Lib.hid hhas
        have HAT := Lib.hid hat
        clear hc1 hk hkm hlow hSr hnew hown hhas hat hs hg
        go_wp2_with (first
          | (at_lookup; refine tlook_hit _ 147 Tryz.underlying147 rfl (.tmp 23) (.tmp 24) rfl m1 S.bd.length D rfl HOWN.out (.string (kb k)) (.string k) rfl HKEY.out (.agg #[.string t.nm, .bool t.vr, .slice o4 t.ts.length k4]) HAT.out HHAS.out ?_))
        exact ⟨⟨j + 1, l, by omega, by go_num, Lib.hid (HST.out.below (by go_grown)), Lib.hid HNEW.out.symm⟩, by simp [intOf]; omega⟩
      | none =>
        have hnew : (so.take (j + 1)).filter (fun k => decide (k ∉ S.bd.map (·.1))) = l ++ [k] := by
          rw [HTK.out, List.filter_append, ← HL.out, List.filter_cons, if_pos (by simpa using getA_none.1 hg)]; simp
        have HNEW := Lib.hid hnew
        obtain ⟨D, hown, hhas, -⟩ := hSr.bnd.no hg
        have HOWN := Lib.hid hown
        have HHAS := Lib.hid hhas
        clear hc1 hk hkm hlow hSr hnew hown hhas hg
        go_wp2_with (first
          | (at_lookup; refine tlook_miss _ 147 Tryz.underlying147 rfl (.tmp 23) (.tmp 24) rfl m1 S.bd.length D rfl HOWN.out (.string (kb k)) (.string k) rfl HKEY.out HHAS.out ?_)
          | (at_builtin
             refine wpList_append_opt rfl (.tmp 30) (.tmp 32) 22 rfl wb.heap.size 9 i0 (.string ⟨#[]⟩) 1 16 Tryz.underlying22 HI.out HZ.out HS1.out HBB.out rfl (by decide) (.slice or l.length cr) l.length (strs l) rfl ((HST.out.row.alloc _).alloc _) (some ⟨wr.heap.size + 1, 0, none⟩) 1 1 [.string (kb k)] rfl rfl (fun h => by cases h) (fun ad had => by cases had; exact cell_one_at (heap_new_at _ _ _ (by simp))) (by simp [Value.oneCell']) (by unfold maxLen; omega) (by omega) (by simp; omega) ?_
             intro v7 w7 ho7 hg7 hat7
             have HST7 := Lib.hid (HST.out.step (x := k) (show Below wr.heap.size wr _ from by go_grown) hg7 ho7)
             clear ho7 hg7 hat7))
        exact ⟨⟨j + 1, l ++ [k], by omega, by go_num, HST7, Lib.hid HNEW.out.symm⟩, by simp [intOf]; omega⟩
    · obtain rfl : j = so.length := by omega
      have HL2 : Hid (l = so.filter fun k => decide (k ∉ S.bd.map (·.1))) := Lib.hid (by have := HL.out; rwa [List.take_length] at this)
      go_wp2_with fail
      go_ret
      refine ⟨⟨_, l, rfl, StrIs.ofRow HST.out.row, ?_, fun x => ?_⟩, HWB.out.trans (HST.out.low.mono hwz)⟩
      · rw [HL2.out]; exact HORD.out.filter _
      · rw [HL2.out, List.mem_filter, HMEM.out]; simp
end Go.Proofs.YtkglopdogakfoaaGreatDoor
