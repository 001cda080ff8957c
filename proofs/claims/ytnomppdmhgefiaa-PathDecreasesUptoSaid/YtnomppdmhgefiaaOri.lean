/- Package path: Orients. -/
import Derived.Test.YtnomppdmhgefiaaCsy
import Derived.Test.YtnomppdmhgefiaaGrt
import Derived.Test.YtnomppdmhgefiaaTmw
namespace Go.Proofs.Ytnomppdmhgefiaa
open Go.RowKit

/-- what Orients answers -/
def OrPost (L : List Rk) (R : List RlV) (w : World) (e : Ending) (w' : World) : Prop :=
  ∃ (c : Int) (v' : Value), e = .returned (.tuple #[v', .int .i64 c]) ∧ (c = 0 → PrecOk L ∧ SysOk R ∧ w'.ownsRow w.heap.size 4 1 v' R.length (R.map fun p => .bool (gpB L p.1.1 p.2.1)))

theorem infoBool6 : (Try.prog.info? 4).map (fun i => (i.zero, i.size, i.bytes)) = some (some (.bool false), 1, 1) := by kernel_rfl

set_option maxRecDepth 100000 in
set_option maxHeartbeats 2000000 in
theorem orients_any (L : List Rk) (lv : Value) (R : List RlV) (rv : Value) (w : World) (hL : RksIs w.heap.size w L lv) (hLb : rkBulk L ≤ 1048576) (hR : RulV w.heap.size w R rv) (hRl : R.length ≤ 1048576) (hRb : ∀ x ∈ sidesV R, x.1.bulk ≤ 1048576) :
    Calls Try.prog 4 #[lv, rv] w fun e w' => OrPost L R w e w' ∧ Below w.heap.size w w' := by
  obtain ⟨i0, hi, hz0, hs1, hb1⟩ := info_parts infoBool6
  have HI := Lib.hid hi
  have HZ := Lib.hid hz0
  have HS1 := Lib.hid hs1
  have HB1 := Lib.hid hb1
  clear hi hz0 hs1 hb1
  obtain ⟨or', cr, rfl⟩ := hR.shape
  have hL' := hL
  obtain ⟨ol, cl, rfl, -, -⟩ := hL'
  have HL := Lib.hid hL
  have HR := Lib.hid hR
  have HLB := Lib.hid hLb
  have HRB := Lib.hid hRb
  clear hL hR hLb hRb
  go_enter Try.func4, Try.ntmps4
  go_wp2_with fail
  refine (pathCheck_any L _ w HL.out HLB.out).mono ?_
  rintro e w1 ⟨rfl, hb⟩
  have HW1 := Lib.hid hb
  clear hb
  by_cases hc : precC L = 0
  case neg =>
    have hd : (precC L != 0) = true := by rw [bne_iff_ne]; exact hc
    have HC := Lib.hid hc
    clear hc
    go_wp2_with fail
    refine bodyPost_ret (v := .tuple #[.slice none 0 0, .int .i64 (precC L)]) (by simp [results, Try.f4, go_sem]) rfl ?_
    exact ⟨⟨_, _, rfl, fun h => absurd h HC.out⟩, HW1.out⟩
  rw [hc]
  have HP := Lib.hid (precC_zero.1 hc)
  clear hc
  go_wp2_with fail
  refine (tcheckSystem_any R _ w1 (HR.out.carry HW1.out HW1.out.size) hRl HRB.out).mono ?_
  rintro e w2 ⟨⟨c, rfl, hc⟩, hb⟩
  have HW2 := Lib.hid (HW1.out.trans (hb.mono HW1.out.size))
  have HC := Lib.hid hc
  clear hb hc
  by_cases hc0 : c = 0
  case neg =>
    have hd : (c != 0) = true := by rw [bne_iff_ne]; exact hc0
    have HC0 := Lib.hid hc0
    clear hc0
    go_wp2_with fail
    refine bodyPost_ret (v := .tuple #[.slice none 0 0, .int .i64 c]) (by simp [results, Try.f4, go_sem]) rfl ?_
    exact ⟨⟨_, _, rfl, fun h => absurd h HC0.out⟩, HW2.out⟩
  subst hc0
  have HSY := Lib.hid (HC.out.1 rfl)
  clear HC
  go_wp2_with fail
  have HAS : Hid (∀ k p, R[k]? = some p → ((R.map fun p => Value.bool (gpB L p.1.1 p.2.1)).take (k + 1)) = ((R.map fun p => Value.bool (gpB L p.1.1 p.2.1)).take k) ++ [.bool (gpB L p.1.1 p.2.1)]) := Lib.hid (fun k p h => by rw [List.take_add_one, List.getElem?_map, h]; rfl)
  obtain ⟨M, hM⟩ : ∃ M, M = R.map fun p => Value.bool (gpB L p.1.1 p.2.1) := ⟨_, rfl⟩
  rw [← hM] at HAS
  have HM := Lib.hid hM
  clear hM
  go_loopw [8, 23] (fun o i wr => ∃ (k : Nat) (oo : Option Addr) (oc : Nat), k ≤ R.length ∧ o = .slice oo k oc ∧ i = .int .i64 k ∧ Hid (wr.ownsRow w.heap.size 4 1 (.slice oo k oc) k (M.take k)) ∧ Hid (Below w.heap.size w wr)) (fun _ i _ => R.length - (intOf i).toNat)
  case atStart => exact ⟨0, none, 0, by omega, rfl, rfl, Lib.hid (World.ownsRow_nil _ _ _ _), HW2⟩
  case round =>
    obtain ⟨k, oo, oc, hk, rfl, rfl, HO, HBW⟩ := hrel
    have hz := HBW.out.size
    by_cases hlt : k < R.length
    · obtain ⟨br, ob, pl, pr, ol2, or2, cl2, cr2, rfl, hbr, hpk, hsl, hsr, c0, c1, c2, c3, c4, c5⟩ := (HR.out.carry HBW.out (Nat.le_refl _)).get hlt
      have hpm := sidesV_mem (List.mem_of_getElem? hpk)
      have hokl := HSY.out.2.1 _ hpm.1
      have hokr := HSY.out.2.1 _ hpm.2
      have HCALL : Hid (∀ W, Below wr.heap.size wr W → Calls Try.prog 10 #[.slice ol L.length cl, .agg #[.string pl.nm, .bool pl.vr, .slice ol2 pl.ts.length cl2], .agg #[.string pr.nm, .bool pr.vr, .slice or2 pr.ts.length cr2]] W fun e w' => e = .returned (.bool (gpB L pl pr)) ∧ Below W.heap.size W w') := Lib.hid (fun W hW => by
        have h := isGreater_any L (.slice ol L.length cl) HP.out.nms (Nat.le_trans (rkBulk_len L) HLB.out) pl pr (.slice ol2 pl.ts.length cl2) (.slice or2 pr.ts.length cr2) W (HL.out.carry (HBW.out.trans (hW.mono hz)) (Nat.le_trans hz hW.size)) (hsl.carry (hW.mono hz) (Nat.le_trans hz hW.size)) (hsr.carry (hW.mono hz) (Nat.le_trans hz hW.size)) hokl.1.bare hokr.1.bare (HRB.out _ hpm.1) (HRB.out _ hpm.2)
        rw [GP.rel HP.out hokl hokr] at h
        exact h)
      have HPK := Lib.hid hpk
      clear hpk hsl hsr hpm hokl hokr
      go_wp2_with (first
        | (go_at_call 10
           refine (HCALL.out _ (by go_grown)).mono ?_
           rintro e w5 ⟨rfl, hb5⟩
           have HB5 : Hid (Below wr.heap.size wr w5) := Lib.hid ((show Below wr.heap.size wr _ from by go_grown).trans (hb5.mono (by simp)))
           have hz5 := HB5.out.size
           have HROW := Lib.hid (HO.out.kept (below_grown HB5.out) (own_none _))
           clear hb5)
        | (at_builtin
           refine wpList_append_opt rfl (.tmp 27) (.tmp 34) 30 rfl w.heap.size 4 i0 (.bool false) 1 1 Try.underlying30 HI.out HZ.out HS1.out HB1.out rfl (by decide) (.slice oo k oc) k (M.take k) rfl (HROW.out.alloc _) (some ⟨w5.heap.size, 0, none⟩) 1 1 [.bool (gpB L pl pr)] rfl rfl (fun h => by cases h) (fun ad had => by cases had; exact cell_one_at (heap_new_at _ _ _ (by simp))) (by simp [Value.oneCell']) (by unfold maxLen; omega) (by omega) (by simp; omega) ?_
           intro v7 w7 ho7 hg7 hat7
           obtain ⟨o7, c7, rfl⟩ := ownsRow_shape ho7
           have HO7 := Lib.hid ho7
           have HB7 : Hid (Below w.heap.size w w7) := Lib.hid (((HBW.out.trans (HB5.out.mono hz)).alloc (by omega) _).grown hg7 (by simp; omega) (fun j hj => (HO.out.lt j hj).1))
           clear ho7 hg7 hat7))
      exact ⟨⟨k + 1, o7, c7, by omega, by simp, by go_num, Lib.hid (by rw [HAS.out k _ HPK.out]; exact HO7.out), HB7⟩, by simp [intOf]; omega⟩
    · obtain rfl : k = R.length := by omega
      go_wp2_with fail
      refine bodyPost_ret (v := .tuple #[.slice oo R.length oc, .int .i64 0]) (by simp [results, Try.f4, go_sem]) rfl ?_
      refine ⟨⟨0, _, rfl, fun _ => ⟨HP.out, HSY.out, ?_⟩⟩, HBW.out⟩
      rw [← HM.out]
      have h := HO.out
      rwa [List.take_of_length_le (by rw [HM.out]; simp)] at h
end Go.Proofs.Ytnomppdmhgefiaa
