/- The law PathRanks. -/
import Derived.WalkKit
import Derived.ProofKit
import Derived.OpenShut
import Derived.Handy
import Derived.Lib.Hide
import Derived.Test.YtdnkommcnkbeeaaRfk
import Derived.Test.YtdnkommcnkbeeaaEnt
import Derived.Test.YtdnkommcnkbeeaaAl6
namespace Go.Proofs.Ytdnkommcnkbeeaa
open Go.RowKit

set_option maxRecDepth 100000 in
set_option maxHeartbeats 8000000 in
theorem pathRanks_any (L : List Rk) (lv : Value) (k : Key) (w : World) (hL : RksIs w.heap.size w L lv) (hLb : rkBulk L ≤ 1048576) :
    Calls Try.prog 3 #[lv, .string (kb k)] w fun e w' => e = .returned (.bool true) ∧ Below w.heap.size w w' := by
  have hlen := Nat.le_trans (rkBulk_len L) hLb
  have HL := Lib.hid hL
  obtain ⟨ol, cl, rfl, -, -⟩ := hL
  have HLB := Lib.hid hLb
  clear hLb
  go_enter Try.func3, Try.ntmps3
  go_wp2_with fail
  refine (rPrec_any L _ w HL.out HLB.out).mono ?_
  rintro e w1 ⟨rfl, hb⟩
  have HB1 := Lib.hid hb
  clear hb
  go_wp2_with fail
  refine (pRank_any L k _ w1 (HL.out.carry HB1.out HB1.out.size) HLB.out).mono ?_
  rintro e w2 ⟨rfl, hb⟩
  have HB2 := Lib.hid (HB1.out.trans (hb.mono HB1.out.size))
  clear hb
  go_wp2_with fail
  refine (pathCheck_any L _ w2 (HL.out.carry HB2.out HB2.out.size) HLB.out).mono ?_
  rintro e w3 ⟨rfl, hb⟩
  have HB3 := Lib.hid (HB2.out.trans (hb.mono HB2.out.size))
  clear hb
  have hne : (precC L != precC L) = false := by simp
  by_cases h0 : precC L = 0
  · have HA := Lib.hid (rkAns_ok (k := k) h0)
    rw [HA.out]
    rw [h0]
    clear hne h0
    go_wp2_with fail
    refine (rEntry_any L k _ w3 (HL.out.carry HB3.out HB3.out.size) (by omega)).mono ?_
    rintro e w4 ⟨rfl, hb⟩
    have HB4 := Lib.hid (HB3.out.trans (hb.mono HB3.out.size))
    clear hb
    have hbb : (rkOf L k == (entryOf L k).2.1) = true := by rw [beq_iff_eq]; rfl
    rw [show rkv (entryOf L k) = .agg #[.string (kb (entryOf L k).1), .int .i64 (entryOf L k).2.1, .int .i64 (entryOf L k).2.2] from rfl]
    have hfd : ∀ (x y z : Value) (w : World), (Instr.field 28 (.agg #[x, y, z]) 1).run Try.prog w = .ok y w := fun _ _ _ _ => by kernel_rfl
    go_wp2_with fail
    refine (alive_any _).mono ?_
    rintro e w9 ⟨rfl, hb⟩
    have HB := Lib.hid (HB4.out.trans (hb.mono HB4.out.size))
    clear hb
    go_wp2_with fail
    go_ret
    exact ⟨rfl, HB.out⟩
  · have hd : (precC L != 0) = true := by rw [bne_iff_ne]; exact h0
    rw [rkAns_no h0]
    clear h0
    go_wp2_with fail
    refine (alive_any _).mono ?_
    rintro e w9 ⟨rfl, hb⟩
    have HB := Lib.hid (HB3.out.trans (hb.mono HB3.out.size))
    clear hb
    go_wp2_with fail
    go_ret
    exact ⟨rfl, HB.out⟩
end Go.Proofs.Ytdnkommcnkbeeaa
