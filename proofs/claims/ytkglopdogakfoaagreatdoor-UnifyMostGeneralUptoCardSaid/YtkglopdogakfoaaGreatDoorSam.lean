/- The reference's SameSubst at equal substitutions. -/
import Derived.WalkKit
import Derived.ProofKit
import Derived.OpenShut
import Derived.Handy
import Derived.Lib.Hide
import Derived.Deep.RegionHeld3
import Derived.Test.YtkglopdogakfoaaGreatDoorGg
import Derived.Test.YtkglopdogakfoaaGreatDoorGi
namespace Go.Proofs.YtkglopdogakfoaaGreatDoor
open Go.RowKit
set_option maxRecDepth 100000 in
set_option maxHeartbeats 4000000 in
theorem rsameSubst_yes (bl : List Bd) (va vb : Value) (w : World) (ha : BindsIs w.heap.size w bl va) (hb : BindsIs w.heap.size w bl vb) (hlen : bl.length ≤ 1048576) (hk : ∀ q ∈ bl, q.2.bulk ≤ 1048576) :
    Calls Tryz.prog 70 #[va, vb] w fun e w' => e = .returned (.bool true) ∧ Below w.heap.size w w' := by
  have ha' := ha
  have hb' := hb
  obtain ⟨oa, ca, rfl, hcapa, -⟩ := ha'
  obtain ⟨ob, cb, rfl, hcapb, -⟩ := hb'
  have HA := Lib.hid ha
  have HB := Lib.hid hb
  have HK := Lib.hid hk
  clear ha hb hk
  go_enter Tryz.func70, Tryz.ntmps70
  go_wp2_with fail
  go_loopw [13] (fun i wr => ∃ j : Nat, j ≤ bl.length ∧ i = .int .i64 j ∧ Hid (Below w.heap.size w wr)) (fun i _ => bl.length - (intOf i).toNat)
  case atStart => exact ⟨0, by omega, rfl, Lib.hid (Below.refl _ _)⟩
  case round =>
    obtain ⟨j, hj, rfl, HBW⟩ := hrel
    by_cases hlt : j < bl.length
    · obtain ⟨b1, o1, p, s1, rfl, hbn1, hp, hpm, hs1, c0, c1, c2, c3⟩ := (HA.out.carry HBW.out (Nat.le_refl _)).get hlt
      obtain ⟨b2, o2, q, s2, rfl, hbn2, hq, hqm, hs2, d0, d1, d2, d3⟩ := (HB.out.carry HBW.out (Nat.le_refl _)).get hlt
      obtain rfl : p = q := by rw [hp] at hq; exact Option.some.inj hq
      obtain ⟨os, cs, rfl, -⟩ := hs1.form
      obtain ⟨ot, ct, rfl, -⟩ := hs2.form
      have hub := HK.out p hpm
      have hz := HBW.out.size
      have H1 := Lib.hid (hs1.carry ((Below.refl wr.heap.size wr).drew.mono hz) hz)
      have H2 := Lib.hid (hs2.carry ((Below.refl wr.heap.size wr).drew.mono hz) hz)
      have HW0 : Hid (Below w.heap.size w wr.drew) := Lib.hid (HBW.out.trans ((Below.refl wr.heap.size wr).drew.mono hz))
      have C : Hid (∀ W, Below wr.drew.heap.size wr.drew W → (W.cell? ⟨b1, o1 + j * 4, none⟩ = some (.string (kb p.1)) ∧ W.cell? ⟨b1, o1 + j * 4 + 1, none⟩ = some (.string p.2.nm) ∧ W.cell? ⟨b1, o1 + j * 4 + 2, none⟩ = some (.bool p.2.vr) ∧ W.cell? ⟨b1, o1 + j * 4 + 3, none⟩ = some (.slice os p.2.ts.length cs)) ∧ (W.cell? ⟨b2, o2 + j * 4, none⟩ = some (.string (kb p.1)) ∧ W.cell? ⟨b2, o2 + j * 4 + 1, none⟩ = some (.string p.2.nm) ∧ W.cell? ⟨b2, o2 + j * 4 + 2, none⟩ = some (.bool p.2.vr) ∧ W.cell? ⟨b2, o2 + j * 4 + 3, none⟩ = some (.slice ot p.2.ts.length ct))) := Lib.hid fun W hW =>
        ⟨⟨(hW.cell (p := ⟨b1, _, none⟩) (Nat.lt_of_lt_of_le hbn1 hz)).trans c0, (hW.cell (p := ⟨b1, _, none⟩) (Nat.lt_of_lt_of_le hbn1 hz)).trans c1, (hW.cell (p := ⟨b1, _, none⟩) (Nat.lt_of_lt_of_le hbn1 hz)).trans c2, (hW.cell (p := ⟨b1, _, none⟩) (Nat.lt_of_lt_of_le hbn1 hz)).trans c3⟩, (hW.cell (p := ⟨b2, _, none⟩) (Nat.lt_of_lt_of_le hbn2 hz)).trans d0, (hW.cell (p := ⟨b2, _, none⟩) (Nat.lt_of_lt_of_le hbn2 hz)).trans d1, (hW.cell (p := ⟨b2, _, none⟩) (Nat.lt_of_lt_of_le hbn2 hz)).trans d2, (hW.cell (p := ⟨b2, _, none⟩) (Nat.lt_of_lt_of_le hbn2 hz)).trans d3⟩
      have HEQ := Lib.hid (requal_any p.2 p.2 _ _ wr.drew hub hub H1.out H2.out)
      have hsame : ((kb p.1).toList != (kb p.1).toList) = false := by simp
      clear hp hq hpm hqm hs1 hs2
      go_wp2_with fail
      go_region_held3 (fun w' => (w'.cell? ⟨b1, o1 + j * 4, none⟩ = some (.string (kb p.1)) ∧ w'.cell? ⟨b1, o1 + j * 4 + 1, none⟩ = some (.string p.2.nm) ∧ w'.cell? ⟨b1, o1 + j * 4 + 2, none⟩ = some (.bool p.2.vr) ∧ w'.cell? ⟨b1, o1 + j * 4 + 3, none⟩ = some (.slice os p.2.ts.length cs)) ∧ (w'.cell? ⟨b2, o2 + j * 4, none⟩ = some (.string (kb p.1)) ∧ w'.cell? ⟨b2, o2 + j * 4 + 1, none⟩ = some (.string p.2.nm) ∧ w'.cell? ⟨b2, o2 + j * 4 + 2, none⟩ = some (.bool p.2.vr) ∧ w'.cell? ⟨b2, o2 + j * 4 + 3, none⟩ = some (.slice ot p.2.ts.length ct))) (go_keep) ((first
        | (go_at_call 12
           refine HEQ.out.mono ?_
           rintro e w5 ⟨⟨x5, rfl, h5⟩, hb5⟩
           obtain rfl : x5 = true := h5.2 (by first | rfl | trivial)
           obtain ⟨⟨c0, c1, c2, c3⟩, d0, d1, d2, d3⟩ := C.out w5 hb5
           have HW5 := Lib.hid (HW0.out.trans (hb5.mono HW0.out.size))
           clear h5 hb5)))
      go_wp2_with fail
      exact ⟨⟨j + 1, by omega, by go_num, HW5⟩, by simp [intOf]; omega⟩
    · obtain rfl : j = bl.length := by omega
      go_wp2_with fail
      go_ret
      exact ⟨rfl, HBW.out⟩
end Go.Proofs.YtkglopdogakfoaaGreatDoor
