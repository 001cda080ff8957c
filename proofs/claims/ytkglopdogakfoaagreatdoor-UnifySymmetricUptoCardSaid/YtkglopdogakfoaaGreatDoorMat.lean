/- Match: the walk. What it hands back. -/
import Derived.WalkKit
import Derived.ProofKit
import Derived.OpenShut
import Derived.Handy
import Derived.Lib.Hide
import Derived.Test.YtkglopdogakfoaaGreatDoorMsu
import Derived.Test.YtkglopdogakfoaaGreatDoorGd
namespace Go.Proofs.YtkglopdogakfoaaGreatDoor
open Go.RowKit Go.Maps

set_option maxRecDepth 100000 in
set_option maxHeartbeats 2000000 in
theorem ucheck_any (a b : Tm) (sa sb : Value) (w : World) (ha : SlIs w.heap.size w a.ts sa) (hb : SlIs w.heap.size w b.ts sb) (hba : a.bulk ≤ 1048576) (hbb : b.bulk ≤ 1048576) :
    Calls Tryz.prog 111 #[tmv a sa, tmv b sb] w fun e w' => (∃ c : Int, e = .returned (.int .i64 c) ∧ (c = 0 ↔ a.ok ∧ b.ok)) ∧ Below w.heap.size w w' := by
  obtain ⟨oa, ca, rfl, -⟩ := ha.form
  obtain ⟨ob, cb, rfl, -⟩ := hb.form
  have HA := Lib.hid ha
  have HB := Lib.hid hb
  clear ha hb
  go_enter Tryz.func111, Tryz.ntmps111
  go_wp2_with fail
  refine (check_any a (.slice oa a.ts.length ca) _ (HA.out.carry (by go_grown) (by simp; omega)) hba).mono ?_
  rintro e w1 ⟨⟨c1, rfl, hc1⟩, hw1⟩
  have hbx := (hw1.block (w.heap.size + 1) (by simp)).trans (heap_new_at _ (.cells #[.string b.nm, .bool b.vr, .slice ob b.ts.length cb] 25) _ (by simp))
  have HW1 : Hid (Below w.heap.size w w1) := Lib.hid (Below.trans (by go_grown) (hw1.mono (by simp; omega)))
  have HC1 := Lib.hid hc1
  obtain ⟨⟨x0, x1, x2⟩, -⟩ := box3 hbx
  clear hc1 hw1 hbx
  by_cases hc0 : c1 = 0
  · subst hc0
    have HA0 := Lib.hid (HC1.out.1 rfl)
    go_wp2_with fail
    refine (check_any b (.slice ob b.ts.length cb) _ (HB.out.carry HW1.out HW1.out.size) hbb).mono ?_
    rintro e w2 ⟨⟨c2, rfl, hc2⟩, hw2⟩
    have HC2 := Lib.hid hc2
    have HW2 := Lib.hid (HW1.out.trans (hw2.mono HW1.out.size))
    clear hc2 hw2
    go_wp2_with fail
    go_ret
    exact ⟨⟨c2, rfl, fun h => ⟨HA0.out, HC2.out.1 h⟩, fun h => HC2.out.2 h.2⟩, HW2.out⟩
  · have hcb : (c1 != 0) = true := by rw [bne_iff_ne]; exact hc0
    have HC0 := Lib.hid hc0
    clear hc0
    go_wp2_with fail
    go_ret
    exact ⟨⟨c1, rfl, fun h => absurd h HC0.out, fun h => absurd (HC1.out.2 h.1) HC0.out⟩, HW1.out⟩

/-- what Match hands back -/
def MatPost (p t : Tm) (w' : World) (c : Int) (b : Bool) (v : Value) : Prop :=
  (c = 0 ↔ p.ok ∧ t.ok) ∧ (c = 0 → (b = true ∧ ∃ m, mtc p [] t = some m ∧ (m.map (·.1)).Nodup ∧ BindsIs w'.heap.size w' (subK m) v) ∨ (b = false ∧ mtc p [] t = none ∧ v = .slice none 0 0)) ∧ (c ≠ 0 → b = false ∧ v = .slice none 0 0)
theorem firsts_len (p : Tm) : (firsts [] p).length ≤ p.size := by have := firsts_length p []; simpa using this

set_option maxRecDepth 100000 in
set_option maxHeartbeats 4000000 in
theorem umatch_any (p t : Tm) (sp st : Value) (w : World) (hp : SlIs w.heap.size w p.ts sp) (ht : SlIs w.heap.size w t.ts st) (hbp : p.bulk ≤ 1048576) (hbt : t.bulk ≤ 1048576) :
    Calls Tryz.prog 69 #[tmv p sp, tmv t st] w fun e w' => (∃ (c : Int) (b : Bool) (v : Value), e = .returned (.tuple #[v, .bool b, .int .i64 c]) ∧ MatPost p t w' c b v) ∧ Below w.heap.size w w' := by
  obtain ⟨op, cp, rfl, -⟩ := hp.form
  obtain ⟨ot, ct, rfl, -⟩ := ht.form
  have HP := Lib.hid hp
  have HT := Lib.hid ht
  have hmm := @run_makeMap Tryz.prog
  clear hp ht
  go_enter Tryz.func69, Tryz.ntmps69
  go_wp2_with fail
  refine (ucheck_any p t (.slice op p.ts.length cp) (.slice ot t.ts.length ct) _ (HP.out.carry (by go_grown) (by simp; omega)) (HT.out.carry (by go_grown) (by simp; omega)) hbp hbt).mono ?_
  rintro e w1 ⟨⟨c, rfl, hc⟩, hw1⟩
  have hbp1 := (hw1.block w.heap.size (by simp; omega)).trans ((Below.heap_alloc _ _ _ (by simp)).trans (heap_new_at w (.cells #[.string p.nm, .bool p.vr, .slice op p.ts.length cp] 25) _ rfl))
  have hbt1 := (hw1.block (w.heap.size + 1) (by simp)).trans (heap_new_at _ (.cells #[.string t.nm, .bool t.vr, .slice ot t.ts.length ct] 25) _ (by simp))
  have HW1 : Hid (Below w.heap.size w w1) := Lib.hid (Below.trans (by go_grown) (hw1.mono (by simp; omega)))
  have HC := Lib.hid hc
  have hz1 : w.heap.size + 1 < w1.heap.size := (Array.getElem?_eq_some_iff.1 hbt1).1
  have HBP := Lib.hid ((Below.heap_alloc w1 (.map #[] 0) _ (by omega)).trans hbp1)
  have HBT := Lib.hid ((Below.heap_alloc w1 (.map #[] 0) _ (by omega)).trans hbt1)
  obtain ⟨⟨x0, x1, x2⟩, -⟩ := box3 HBP.out
  obtain ⟨⟨y0, y1, y2⟩, -⟩ := box3 HBT.out
  clear hc hw1 hbp1 hbt1
  by_cases hc0 : c = 0
  · subst hc0
    have HOK := Lib.hid (HC.out.1 rfl)
    have hbare := HOK.out.1.1.bare
    have hkl : (firsts [] p).length ≤ 1048576 := by have := firsts_len p; have := HOK.out.1.2.1; omega
    have hI0 : MtI (firsts [] p) w1.heap.size [] (w1.alloc (.map #[] 0)) := ⟨⟨_, World.ownsMap_made w1 _ _ _, TInv.empty _ _⟩, (fun q hq => by cases hq), (fun q hq => by cases hq)⟩
    obtain ⟨r, S', hst⟩ : ∃ r S', mstep [] p t = some (r, S') := ⟨_, _, rfl⟩
    have HST := Lib.hid hst
    have HMC := Lib.hid (match_any (firsts [] p) hkl w1.heap.size w1.heap.size (Nat.le_refl _) p [] t (.slice op p.ts.length cp) (.slice ot t.ts.length ct) (w1.alloc (.map #[] 0)) r S' hst hI0 (by simp)
      (HP.out.carry (HW1.out.trans (show Below w.heap.size w1 _ from (Below.refl _ _).alloc HW1.out.size _)) (by simp; omega)) (HT.out.carry (HW1.out.trans (show Below w.heap.size w1 _ from (Below.refl _ _).alloc HW1.out.size _)) (by simp; omega)) hbp hbt (vin_firsts p hbare [] _ fun k hk => hk))
    have HBARE := Lib.hid hbare
    clear hst hI0 hbare
    go_wp2_with fail
    refine HMC.out.mono ?_
    rintro e w2 ⟨rfl, hi2, hk2⟩
    have HI2 := Lib.hid hi2
    have HW2 : Hid (Below w.heap.size w w2) := Lib.hid ((HW1.out.trans ((Below.refl _ w1).alloc HW1.out.size _)).trans (hk2.low.mono HW1.out.size))
    clear hi2 hk2
    cases hm : mtc p [] t with
    | none =>
      have hr : r = false := by have h := HST.out; rw [mstep_no hm] at h; simp only [Option.some.injEq, Prod.mk.injEq] at h; exact h.1.symm
      subst hr
      have HM := Lib.hid hm
      clear hm
      go_wp2_with fail
      refine bodyPost_ret (v := .tuple #[.slice none 0 0, .bool false, .int .i64 0]) (by simp [results, Tryz.f69, go_sem]) rfl ?_
      exact ⟨⟨0, false, _, rfl, ⟨fun _ => HOK.out, fun _ => rfl⟩, fun _ => .inr ⟨rfl, HM.out, rfl⟩, fun h => absurd rfl h⟩, HW2.out⟩
    | some m =>
      have hrS : r = true ∧ S' = m := by have h := HST.out; rw [mstep_yes hm] at h; simp only [Option.some.injEq, Prod.mk.injEq] at h; exact ⟨h.1.symm, h.2.symm⟩
      obtain ⟨rfl, rfl⟩ := hrS
      have HM := Lib.hid hm
      have HI3 : Hid (MtI (firsts [] p) w1.heap.size S' w2) := Lib.hid (by have h := HI2.out; first | exact h rfl | exact h trivial)
      have HBB : Hid (∀ q ∈ S', q.2.bulk ≤ 1048576 ∧ q.2.bare ∧ q.1.length ≤ 1048576) := Lib.hid (by
        intro q hq
        obtain ⟨h1, h2⟩ := mtc_vals (fun u => u.bulk ≤ 1048576 ∧ u.bare) (fun t ⟨h1, h2⟩ u hu => ⟨by have := Tm.bulk_mem hu; have := Tm.bulk_eq t; omega, h2.kids u hu⟩) p [] t S' hm ⟨hbt, HOK.out.2.1.bare⟩ (fun q hq => by cases hq) q hq
        exact ⟨h1, h2, firsts_names p [] (fun x hx => by cases hx) hbp _ (HI3.out.keys q hq)⟩)
      clear hm
      have HSB := Lib.hid (msubst_any S' w1.heap.size w2 HI3.out.map (Nat.le_trans HI3.out.len hkl) HBB.out)
      go_wp2_with fail
      refine HSB.out.mono ?_
      rintro e w3 ⟨⟨v, rfl, hv⟩, hw3⟩
      obtain ⟨ov, cv, rfl, -⟩ := id hv
      have HV := Lib.hid hv
      have HW3 := Lib.hid (HW2.out.trans (hw3.mono HW2.out.size))
      clear hv hw3
      go_wp2_with fail
      refine bodyPost_ret (v := .tuple #[.slice ov (subK S').length cv, .bool true, .int .i64 0]) (by simp [results, Tryz.f69, go_sem]) rfl ?_
      exact ⟨⟨0, true, _, rfl, ⟨fun _ => HOK.out, fun _ => rfl⟩, fun _ => .inl ⟨rfl, S', HM.out, HI3.out.map.nodup, HV.out⟩, fun h => absurd rfl h⟩, HW3.out⟩
  · have hcb : (c != 0) = true := by rw [bne_iff_ne]; exact hc0
    have HC0 := Lib.hid hc0
    clear hc0
    go_wp2_with fail
    refine bodyPost_ret (v := .tuple #[.slice none 0 0, .bool false, .int .i64 c]) (by simp [results, Tryz.f69, go_sem]) rfl ?_
    exact ⟨⟨c, false, _, rfl, HC.out, fun h => absurd h HC0.out, fun _ => ⟨rfl, rfl⟩⟩, HW1.out⟩
end Go.Proofs.YtkglopdogakfoaaGreatDoor
