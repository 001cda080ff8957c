/- The law UnifyMatching. -/
import Derived.WalkKit
import Derived.ProofKit
import Derived.OpenShut
import Derived.Handy
import Derived.Lib.Hide
import Derived.Deep.RegionHeld3
import Derived.Test.YtgmloanagpkjeaaGreatDoorLmP
import Derived.Test.YtgmloanagpkjeaaGreatDoorGro
import Derived.Test.YtgmloanagpkjeaaGreatDoorRcs
import Derived.Test.YtgmloanagpkjeaaGreatDoorAl3
namespace Go.Proofs.YtgmloanagpkjeaaGreatDoor
open Go.RowKit

/-- the boxes of the two terms, and the bindings -/
structure LmSt (w W : World) (p t : Tm) (sp st : Value) (s : List Bd) (sv : Value) : Prop where
  a : TBx W w.heap.size p sp
  b : TBx W (w.heap.size + 1) t st
  s : BindsIs w.heap.size W s sv
  low : Below w.heap.size w W
theorem LmSt.carry {w A W : World} {p t : Tm} {sp st : Value} {s : List Bd} {sv : Value} (h : LmSt w A p t sp st s sv) (hb : Below A.heap.size A W) : LmSt w W p t sp st s sv :=
  ⟨h.a.carry hb, h.b.carry hb, h.s.carry (hb.mono h.low.size) (Nat.le_refl _), h.low.trans (hb.mono h.low.size)⟩
theorem LmSt.drew {w A : World} {p t : Tm} {sp st : Value} {s : List Bd} {sv : Value} (h : LmSt w A p t sp st s sv) : LmSt w A.drew p t sp st s sv := h.carry (Below.refl _ A).drew

theorem firsts_nodup' {p : Tm} (hp : p.ok) : (firsts [] p).Nodup := by
  obtain ⟨m', h1, h2, _⟩ := mtc_inst [] p hp.1.bare [] (by simp) (by simp)
  rw [← (match_len hp.1.bare h1).1]; exact h2
theorem sortK_order' {p : Tm} (hp : p.ok) : (sortK (firsts [] p)).Pairwise (· < ·) := sortK_order (firsts_nodup' hp)
theorem sortK_mem' (p : Tm) (x : Key) : x ∈ sortK (firsts [] p) ↔ x ∈ firsts [] p := sortK_mem

set_option maxRecDepth 100000 in
set_option maxHeartbeats 16000000 in
theorem matching_any (p t : Tm) (s : List Bd) (sp st sv : Value) (w : World) (hp : SlIs w.heap.size w p.ts sp) (ht : SlIs w.heap.size w t.ts st) (hs : BindsIs w.heap.size w s sv) (hbp : p.bulk ≤ 1048576) (hbt : t.bulk ≤ 1048576) (hbs : bdBulk s ≤ 1048576) :
    Calls Tryz.prog 12 #[tmv p sp, tmv t st, sv] w fun e w' => e = .returned (.bool true) ∧ Below w.heap.size w w' := by
  obtain ⟨op, cp, rfl, -⟩ := hp.form
  obtain ⟨ot, ct, rfl, -⟩ := ht.form
  have hs' := hs
  obtain ⟨os, cs, rfl, -, -⟩ := hs'
  have hsl := Nat.le_trans (bdBulk_len s) hbs
  have hsz := Tm.size_bulk p
  have hA1 : Below w.heap.size w (w.alloc (.cells #[.string p.nm, .bool p.vr, .slice op p.ts.length cp] 25)) := by go_grown
  have hA2 := (Below.refl _ (w.alloc (.cells #[.string p.nm, .bool p.vr, .slice op p.ts.length cp] 25))).alloc (Nat.le_refl _) (.cells #[.string t.nm, .bool t.vr, .slice ot t.ts.length ct] 25)
  have hbx2 := TBx.new (A := w.alloc (.cells #[.string p.nm, .bool p.vr, .slice op p.ts.length cp] 25)) (t := t) (s := .slice ot t.ts.length ct) (ht.carry hA1 hA1.size)
  rw [show (w.alloc (.cells #[.string p.nm, .bool p.vr, .slice op p.ts.length cp] 25)).heap.size = w.heap.size + 1 from by simp] at hbx2
  have HM0 : Hid (LmSt w ((w.alloc (.cells #[.string p.nm, .bool p.vr, .slice op p.ts.length cp] 25)).alloc (.cells #[.string t.nm, .bool t.vr, .slice ot t.ts.length ct] 25)) p t (.slice op p.ts.length cp) (.slice ot t.ts.length ct) s (.slice os s.length cs)) := Lib.hid
    ⟨(TBx.new (t := p) hp).carry hA2, hbx2, hs.carry (hA1.trans (hA2.mono hA1.size)) (Nat.le_refl _), hA1.trans (hA2.mono hA1.size)⟩
  clear hp ht hs hA1 hA2 hbx2
  go_enter Tryz.func12, Tryz.ntmps12
  rw [show tmv p (.slice op p.ts.length cp) = .agg #[.string p.nm, .bool p.vr, .slice op p.ts.length cp] from rfl, show tmv t (.slice ot t.ts.length ct) = .agg #[.string t.nm, .bool t.vr, .slice ot t.ts.length ct] from rfl]
  go_wp2_with fail
  refine (umatch_any p t (.slice op p.ts.length cp) (.slice ot t.ts.length ct) _ HM0.out.a.is HM0.out.b.is hbp hbt).mono ?_
  rintro e w1 ⟨⟨c, b, v, rfl, hm⟩, hb1⟩
  have HM1 := Lib.hid (HM0.out.carry hb1)
  obtain ⟨⟨x0, x1, x2⟩, -⟩ := box3 HM1.out.a.box; obtain ⟨⟨y0, y1, y2⟩, -⟩ := box3 HM1.out.b.box
  clear hb1 HM0
  by_cases hc : c = 0
  · subst hc
    obtain ⟨hv1, hv2⟩ := hm.1.1 rfl
    have HP := Lib.hid hv1
    have hv2' := hv2
    clear hv1 hv2'
    rcases hm.2.1 rfl with ⟨rfl, m, hm1, hm2, hm3⟩ | ⟨rfl, -, rfl⟩
    · have hml := (match_len HP.out.1.bare hm1).2
      have HSND := Lib.hid (match_sound HP.out.1.bare hm1 hm2)
      have hkl : (subK m).length ≤ 100000000 := by rw [subK_len]; omega
      have hm3' := hm3
      obtain ⟨ov, cv, rfl, -, -⟩ := hm3'
      have HU := Lib.hid (hm3.carry (Below.refl _ w1).drew (Nat.le_refl _))
      have HMD := Lib.hid HM1.out.drew
      clear hm hm1 hm2 hm3 hv2
      go_wp2_with fail
      go_region_held3 (fun w' => w'.cell? ⟨w.heap.size, 0, none⟩ = some (.string p.nm) ∧ w'.cell? ⟨w.heap.size, 1, none⟩ = some (.bool p.vr) ∧ w'.cell? ⟨w.heap.size, 2, none⟩ = some (.slice op p.ts.length cp) ∧ w'.cell? ⟨w.heap.size + 1, 0, none⟩ = some (.string t.nm) ∧ w'.cell? ⟨w.heap.size + 1, 1, none⟩ = some (.bool t.vr) ∧ w'.cell? ⟨w.heap.size + 1, 2, none⟩ = some (.slice ot t.ts.length ct)) (go_keep) ((first
        | (go_at_call 17
           refine (requal_any t t _ _ _ hbt hbt HX2.out HM2.out.b.is).mono ?_
           rintro e w3 ⟨⟨x3, rfl, h3⟩, hb3⟩
           obtain rfl : x3 = true := h3.2 (by first | rfl | trivial)
           have HM3 := Lib.hid (HM2.out.carry hb3)
           obtain ⟨⟨x0, x1, x2⟩, -⟩ := box3 HM3.out.a.box; obtain ⟨⟨y0, y1, y2⟩, -⟩ := box3 HM3.out.b.box
           clear h3 hb3)
        | (go_at_call 48
           refine (rapply_any (subK m) (.slice ov (subK m).length cv) w1.drew.heap.size hkl p _ _ (Nat.le_refl _) HU.out HMD.out.a.is hbp).mono ?_
           rintro e w2 ⟨⟨sl2, rfl, h2⟩, hb2⟩
           rw [HSND.out] at h2 ⊢
           have h2 := h2.lt.toIs fun b hb => hb.2
           obtain ⟨o2, c2, rfl, -⟩ := h2.form
           dsimp only [tmv]
           have HX2 := Lib.hid h2
           have HM2 := Lib.hid (HMD.out.carry hb2)
           obtain ⟨⟨x0, x1, x2⟩, -⟩ := box3 HM2.out.a.box; obtain ⟨⟨y0, y1, y2⟩, -⟩ := box3 HM2.out.b.box
           clear h2 hb2)))
      obtain ⟨⟨x0, x1, x2⟩, -⟩ := box3 HM3.out.a.box; obtain ⟨⟨y0, y1, y2⟩, -⟩ := box3 HM3.out.b.box
      go_wp2_with fail
      refine (rcheck_any p (.slice op p.ts.length cp) _ HM3.out.a.is hbp).mono ?_
      rintro e w4 ⟨⟨c4, rfl, h4⟩, hb4⟩
      have HM4 := Lib.hid (HM3.out.carry hb4)
      obtain ⟨⟨x0, x1, x2⟩, -⟩ := box3 HM4.out.a.box; obtain ⟨⟨y0, y1, y2⟩, -⟩ := box3 HM4.out.b.box
      have H4 := Lib.hid h4
      clear hb4 h4 HM3
      by_cases hc4 : c4 = 0
      · subst hc4
        have HPK := Lib.hid (H4.out rfl)
        go_wp2_with fail
        refine (rcheckSubst_any s (.slice os s.length cs) _ (HM4.out.s.carry (Below.refl _ _) HM4.out.low.size) hbs).mono ?_
        rintro e w5 ⟨⟨c5, rfl, h5⟩, hb5⟩
        have HM5 := Lib.hid (HM4.out.carry hb5)
        obtain ⟨⟨x0, x1, x2⟩, -⟩ := box3 HM5.out.a.box; obtain ⟨⟨y0, y1, y2⟩, -⟩ := box3 HM5.out.b.box
        have H5 := Lib.hid h5
        clear hb5 h5 HM4
        by_cases hc5 : c5 = 0
        · subst hc5
          have HSK := Lib.hid (H5.out rfl)
          have HFT := Lib.hid (rfits_any s (.slice os s.length cs) w5.heap.size (by omega) (fun q hq => ⟨(HSK.out.terms q hq).2.1, by have := (HSK.out.terms q hq).bulk; omega⟩) p (.slice op p.ts.length cp) w5 (Nat.le_refl _) (HM5.out.s.carry (Below.refl _ _) HM5.out.low.size) HM5.out.a.is hbp HPK.out.1.bare)
          have HIN := Lib.hid (fun h1 h2 => match_inst HPK.out HSK.out h1 h2)
          cases hfb : decide ((apB s p).size ≤ 4000 ∧ (apB s p).depth ≤ 200)
          · rw [hfb] at HFT
            clear hfb HIN
            go_wp2_with fail
            refine HFT.out.mono ?_
            rintro e w6 ⟨rfl, hb6⟩
            have HM6 := Lib.hid (HM5.out.carry hb6)
            clear hb6
            go_wp2_with fail
            refine (alive_any _).mono ?_
            rintro e w9 ⟨rfl, hb9⟩
            have HL9 : Hid (Below w.heap.size w w9) := Lib.hid (HM6.out.low.trans (hb9.mono HM6.out.low.size))
            clear hb9
            go_wp2_with fail
            go_ret
            exact ⟨rfl, HL9.out⟩
          · rw [hfb] at HFT
            have hfb2 := of_decide_eq_true hfb
            have HIN2 := Lib.hid (HIN.out hfb2.1 hfb2.2)
            clear hfb hfb2 HIN
            go_wp2_with fail
            refine HFT.out.mono ?_
            rintro e w6 ⟨rfl, hb6⟩
            have HM6 := Lib.hid (HM5.out.carry hb6)
            obtain ⟨⟨x0, x1, x2⟩, -⟩ := box3 HM6.out.a.box; obtain ⟨⟨y0, y1, y2⟩, -⟩ := box3 HM6.out.b.box
            have HMD6 := Lib.hid HM6.out.drew
            have HAPP := Lib.hid (rapply_any s (.slice os s.length cs) w6.drew.heap.size (by omega) p (.slice op p.ts.length cp) w6.drew (Nat.le_refl _) (HMD6.out.s.carry (Below.refl _ _) HMD6.out.low.size) HMD6.out.a.is hbp)
            clear hb6 HFT
            generalize apB s p = ap at HIN2 HAPP
            go_wp2_with fail
            go_region_held3 (fun w' => w'.cell? ⟨w.heap.size, 0, none⟩ = some (.string p.nm) ∧ w'.cell? ⟨w.heap.size, 1, none⟩ = some (.bool p.vr) ∧ w'.cell? ⟨w.heap.size, 2, none⟩ = some (.slice op p.ts.length cp) ∧ w'.cell? ⟨w.heap.size + 1, 0, none⟩ = some (.string t.nm) ∧ w'.cell? ⟨w.heap.size + 1, 1, none⟩ = some (.bool t.vr) ∧ w'.cell? ⟨w.heap.size + 1, 2, none⟩ = some (.slice ot t.ts.length ct)) (go_keep) ((first
              | (go_at_call 35
                 refine (umatch_any p ap (.slice op p.ts.length cp) (.slice o7 ap.ts.length k7) _ HM7.out.a.is HX7.out hbp HIN2.out.2.1).mono ?_
                 rintro e w8 ⟨⟨c8, b8, v8, rfl, hm8⟩, hb8⟩
                 obtain rfl : c8 = 0 := hm8.1.2 ⟨HPK.out, HIN2.out.1⟩
                 obtain ⟨rfl, m8, hm81, hm82, hm83⟩ := (hm8.2.1 rfl).resolve_right (fun h => HIN2.out.2.2.1 h.2.1)
                 have hm84 := hm83
                 obtain ⟨o8, k8, rfl, -, -⟩ := hm84
                 have HM8 := Lib.hid (HM7.out.carry hb8)
                 have HU8 := Lib.hid hm83
                 have HE8 := Lib.hid (HIN2.out.2.2.2 m8 hm81 hm82)
                 obtain ⟨⟨x0, x1, x2⟩, -⟩ := box3 HM8.out.a.box; obtain ⟨⟨y0, y1, y2⟩, -⟩ := box3 HM8.out.b.box
                 clear hm8 hm81 hm82 hm83 hb8)
              | (go_at_call 48
                 refine HAPP.out.mono ?_
                 rintro e w7 ⟨⟨sl7, rfl, h7⟩, hb7⟩
                 have h7 := h7.lt.toIs fun b hb => hb.2
                 obtain ⟨o7, k7, rfl, -⟩ := h7.form
                 dsimp only [tmv]
                 have HX7 := Lib.hid h7
                 have HM7 := Lib.hid (HMD6.out.carry hb7)
                 obtain ⟨⟨x0, x1, x2⟩, -⟩ := box3 HM7.out.a.box; obtain ⟨⟨y0, y1, y2⟩, -⟩ := box3 HM7.out.b.box
                 clear h7 hb7)))
            generalize subK m8 = U at HU8 HE8 ⊢
            have hul : U.length ≤ 1048576 := by
              have := HE8.out.1 _ (sortK_order' HPK.out) (sortK_mem' p)
              rw [this, sortK_len]; have := firsts_len p; omega
            have hX : Below w8.heap.size w8 (w8.alloc (.cells #[.string p.nm, .bool p.vr, .slice op p.ts.length cp] 25)) := by go_grown
            have HVR := Lib.hid (rvars_one p HPK.out.1.bare (.slice (some ⟨w8.heap.size, 0, none⟩) 1 1) _ (rowIs [(p, .slice op p.ts.length cp)] (heap_new_at w8 (.cells #[.string p.nm, .bool p.vr, .slice op p.ts.length cp] 25) _ rfl) (by simp) (by simp only [List.mem_cons, List.not_mem_nil, or_false]; rintro c rfl; exact HM8.out.a.is.carry hX hX.size)) hbp (firsts_names p [] (by simp) hbp))
            have HX := Lib.hid hX
            clear hX
            go_wp2_with fail
            refine HVR.out.mono ?_
            rintro e w10 ⟨⟨v10, r10, rfl, h1, h2, h3⟩, hb10⟩
            have hstr := h1
            obtain ⟨o10, k10, rfl, -, -, -⟩ := hstr
            have HM10 := Lib.hid ((HM8.out.carry HX.out).carry hb10)
            have HU10 := Lib.hid (HU8.out.carry (HX.out.trans (hb10.mono HX.out.size)) (Nat.le_refl _))
            have hleq : ((U.length : Int) != (r10.length : Int)) = false := by rw [HE8.out.1 r10 h2 h3]; simp
            have HUQ := Lib.hid HE8.out.2
            have HUS : Hid (w8.heap.size ≤ w10.heap.size) := Lib.hid (Nat.le_trans HX.out.size hb10.size)
            obtain ⟨⟨x0, x1, x2⟩, -⟩ := box3 HM10.out.a.box; obtain ⟨⟨y0, y1, y2⟩, -⟩ := box3 HM10.out.b.box
            clear h1 h2 h3 hb10 HVR
            go_wp2_with fail
            go_loopw [76] (fun i wr => ∃ j : Nat, j ≤ U.length ∧ i = .int .i64 j ∧ Hid (LmSt w wr p t (.slice op p.ts.length cp) (.slice ot t.ts.length ct) s (.slice os s.length cs)) ∧ Hid (BindsIs w8.heap.size wr U (.slice o8 U.length k8)) ∧ w8.heap.size ≤ wr.heap.size) (fun i _ => U.length - (intOf i).toNat)
            case atStart => exact ⟨0, by omega, rfl, HM10, HU10, HUS.out⟩
            case round =>
              obtain ⟨j, hj, rfl, HMR, HUR, hwr⟩ := hrel
              by_cases hlt : j < U.length
              · obtain ⟨b1, o1, q, sq, rfl, hbn1, hq, hqm, hsq, c0, c1, c2, c3⟩ := HUR.out.get hlt
                obtain ⟨oq, cq, rfl, -⟩ := hsq.form
                obtain ⟨hqi, hqb⟩ := HUQ.out q hqm
                have HQI := Lib.hid hqi
                have hB0 : Below wr.heap.size wr (wr.alloc (.cells #[.string (kb q.1), .string q.2.nm, .bool q.2.vr, .slice oq q.2.ts.length cq] 76)).drew := by go_grown
                have hbx0 := ((Below.refl (wr.alloc (.cells #[.string (kb q.1), .string q.2.nm, .bool q.2.vr, .slice oq q.2.ts.length cq] 76)).heap.size (wr.alloc (.cells #[.string (kb q.1), .string q.2.nm, .bool q.2.vr, .slice oq q.2.ts.length cq] 76))).drew.block wr.heap.size (by simp)).trans (heap_new_at wr (.cells #[.string (kb q.1), .string q.2.nm, .bool q.2.vr, .slice oq q.2.ts.length cq] 76) _ rfl)
                have HBX0 := Lib.hid hbx0
                have HMA := Lib.hid (HMR.out.carry hB0)
                have HUA := Lib.hid (HUR.out.carry (hB0.mono hwr) (Nat.le_refl _))
                have HQA := Lib.hid (hsq.carry (hB0.mono hwr) (Nat.le_trans hwr hB0.size))
                have HSA := Lib.hid (HMA.out.s.carry (Below.refl _ _) HMA.out.low.size)
                obtain ⟨d0, d1, d2, d3⟩ := box4 (heap_new_at wr (.cells #[.string (kb q.1), .string q.2.nm, .bool q.2.vr, .slice oq q.2.ts.length cq] 76) _ rfl)
                have hz0 : wr.heap.size < (wr.alloc (.cells #[.string (kb q.1), .string q.2.nm, .bool q.2.vr, .slice oq q.2.ts.length cq] 76)).drew.heap.size := (Array.getElem?_eq_some_iff.1 hbx0).1
                clear hq hqm hsq hB0 hbx0 hqi
                go_wp2_with fail
                go_region_held3 (fun w' => w'.cell? ⟨wr.heap.size, 0, none⟩ = some (.string (kb q.1)) ∧ w'.cell? ⟨wr.heap.size, 1, none⟩ = some (.string q.2.nm) ∧ w'.cell? ⟨wr.heap.size, 2, none⟩ = some (.bool q.2.vr) ∧ w'.cell? ⟨wr.heap.size, 3, none⟩ = some (.slice oq q.2.ts.length cq)) (go_keep) ((first
                  | (go_at_call 17
                     refine (requal_any q.2 q.2 _ _ _ hqb hqb HQ2.out HX2.out).mono ?_
                     rintro e w13 ⟨⟨x3, rfl, h3⟩, hb3⟩
                     obtain rfl : x3 = true := h3.2 (by first | rfl | trivial)
                     have HM13 := Lib.hid (HM12.out.carry hb3)
                     have HU13 := Lib.hid (HU12.out.carry (hb3.mono hz12) (Nat.le_refl _))
                     have hz13 := Nat.le_trans hz12 hb3.size
                     obtain ⟨d0, d1, d2, d3⟩ := box4 ((hb3.block _ (Array.getElem?_eq_some_iff.1 HBX2.out).1).trans HBX2.out)
                     clear h3 hb3)
                  | (go_at_call 51
                     refine (rimage_any s q.1 (.slice os s.length cs) _ _ (Nat.le_refl _) HSA.out (by omega)).mono ?_
                     rintro e w12 ⟨⟨sl2, rfl, h2⟩, hb2⟩
                     rw [← HQI.out] at h2 ⊢
                     obtain ⟨o2, k2, rfl, -⟩ := h2.form
                     dsimp only [tmv]
                     have HX2 := Lib.hid (h2.carry (Below.refl _ _) hb2.size)
                     have HQ2 := Lib.hid (HQA.out.carry hb2 hb2.size)
                     have HM12 := Lib.hid (HMA.out.carry hb2)
                     have hz12 : w8.heap.size ≤ w12.heap.size := Nat.le_trans hwr (Nat.le_trans (Nat.le_of_lt hz0) hb2.size)
                     have HU12 := Lib.hid (HUA.out.carry (hb2.mono (Nat.le_trans hwr (Nat.le_of_lt hz0))) (Nat.le_refl _))
                     have HBX2 := Lib.hid ((hb2.block _ hz0).trans HBX0.out)
                     obtain ⟨d0, d1, d2, d3⟩ := box4 HBX2.out
                     clear h2 hb2)))
                go_wp2_with fail
                exact ⟨⟨j + 1, by omega, by go_num, HM13, HU13, hz13⟩, by simp [intOf]; omega⟩
              · obtain rfl : j = U.length := by omega
                have HM11 := HMR
                go_wp2_with fail
                refine (alive_any _).mono ?_
                rintro e w9 ⟨rfl, hb9⟩
                have HL9 : Hid (Below w.heap.size w w9) := Lib.hid (HM11.out.low.trans (hb9.mono HM11.out.low.size))
                clear hb9
                go_wp2_with fail
                go_ret
                exact ⟨rfl, HL9.out⟩
        · have hcn : (c5 != 0) = true := by rw [bne_iff_ne]; exact hc5
          clear hc5
          go_wp2_with fail
          refine (alive_any _).mono ?_
          rintro e w9 ⟨rfl, hb9⟩
          have HL9 : Hid (Below w.heap.size w w9) := Lib.hid (HM5.out.low.trans (hb9.mono HM5.out.low.size))
          clear hb9
          go_wp2_with fail
          go_ret
          exact ⟨rfl, HL9.out⟩
      · have hcn : (c4 != 0) = true := by rw [bne_iff_ne]; exact hc4
        clear hc4
        go_wp2_with fail
        refine (alive_any _).mono ?_
        rintro e w9 ⟨rfl, hb9⟩
        have HL9 : Hid (Below w.heap.size w w9) := Lib.hid (HM4.out.low.trans (hb9.mono HM4.out.low.size))
        clear hb9
        go_wp2_with fail
        go_ret
        exact ⟨rfl, HL9.out⟩
    · clear hm hv2
      go_wp2_with fail
      go_quiet (fail)
      have HM3 := Lib.hid (HM1.out.carry (below_drewN nq (Below.refl _ w1)))
      generalize w1.drewN nq = w3 at HM3 ⊢
      obtain ⟨⟨x0, x1, x2⟩, -⟩ := box3 HM3.out.a.box; obtain ⟨⟨y0, y1, y2⟩, -⟩ := box3 HM3.out.b.box
      go_wp2_with fail
      refine (rcheck_any p (.slice op p.ts.length cp) _ HM3.out.a.is hbp).mono ?_
      rintro e w4 ⟨⟨c4, rfl, h4⟩, hb4⟩
      have HM4 := Lib.hid (HM3.out.carry hb4)
      obtain ⟨⟨x0, x1, x2⟩, -⟩ := box3 HM4.out.a.box; obtain ⟨⟨y0, y1, y2⟩, -⟩ := box3 HM4.out.b.box
      have H4 := Lib.hid h4
      clear hb4 h4 HM3
      by_cases hc4 : c4 = 0
      · subst hc4
        have HPK := Lib.hid (H4.out rfl)
        go_wp2_with fail
        refine (rcheckSubst_any s (.slice os s.length cs) _ (HM4.out.s.carry (Below.refl _ _) HM4.out.low.size) hbs).mono ?_
        rintro e w5 ⟨⟨c5, rfl, h5⟩, hb5⟩
        have HM5 := Lib.hid (HM4.out.carry hb5)
        obtain ⟨⟨x0, x1, x2⟩, -⟩ := box3 HM5.out.a.box; obtain ⟨⟨y0, y1, y2⟩, -⟩ := box3 HM5.out.b.box
        have H5 := Lib.hid h5
        clear hb5 h5 HM4
        by_cases hc5 : c5 = 0
        · subst hc5
          have HSK := Lib.hid (H5.out rfl)
          have HFT := Lib.hid (rfits_any s (.slice os s.length cs) w5.heap.size (by omega) (fun q hq => ⟨(HSK.out.terms q hq).2.1, by have := (HSK.out.terms q hq).bulk; omega⟩) p (.slice op p.ts.length cp) w5 (Nat.le_refl _) (HM5.out.s.carry (Below.refl _ _) HM5.out.low.size) HM5.out.a.is hbp HPK.out.1.bare)
          have HIN := Lib.hid (fun h1 h2 => match_inst HPK.out HSK.out h1 h2)
          cases hfb : decide ((apB s p).size ≤ 4000 ∧ (apB s p).depth ≤ 200)
          · rw [hfb] at HFT
            clear hfb HIN
            go_wp2_with fail
            refine HFT.out.mono ?_
            rintro e w6 ⟨rfl, hb6⟩
            have HM6 := Lib.hid (HM5.out.carry hb6)
            clear hb6
            go_wp2_with fail
            refine (alive_any _).mono ?_
            rintro e w9 ⟨rfl, hb9⟩
            have HL9 : Hid (Below w.heap.size w w9) := Lib.hid (HM6.out.low.trans (hb9.mono HM6.out.low.size))
            clear hb9
            go_wp2_with fail
            go_ret
            exact ⟨rfl, HL9.out⟩
          · rw [hfb] at HFT
            have hfb2 := of_decide_eq_true hfb
            have HIN2 := Lib.hid (HIN.out hfb2.1 hfb2.2)
            clear hfb hfb2 HIN
            go_wp2_with fail
            refine HFT.out.mono ?_
            rintro e w6 ⟨rfl, hb6⟩
            have HM6 := Lib.hid (HM5.out.carry hb6)
            obtain ⟨⟨x0, x1, x2⟩, -⟩ := box3 HM6.out.a.box; obtain ⟨⟨y0, y1, y2⟩, -⟩ := box3 HM6.out.b.box
            have HMD6 := Lib.hid HM6.out.drew
            have HAPP := Lib.hid (rapply_any s (.slice os s.length cs) w6.drew.heap.size (by omega) p (.slice op p.ts.length cp) w6.drew (Nat.le_refl _) (HMD6.out.s.carry (Below.refl _ _) HMD6.out.low.size) HMD6.out.a.is hbp)
            clear hb6 HFT
            generalize apB s p = ap at HIN2 HAPP
            go_wp2_with fail
            go_region_held3 (fun w' => w'.cell? ⟨w.heap.size, 0, none⟩ = some (.string p.nm) ∧ w'.cell? ⟨w.heap.size, 1, none⟩ = some (.bool p.vr) ∧ w'.cell? ⟨w.heap.size, 2, none⟩ = some (.slice op p.ts.length cp) ∧ w'.cell? ⟨w.heap.size + 1, 0, none⟩ = some (.string t.nm) ∧ w'.cell? ⟨w.heap.size + 1, 1, none⟩ = some (.bool t.vr) ∧ w'.cell? ⟨w.heap.size + 1, 2, none⟩ = some (.slice ot t.ts.length ct)) (go_keep) ((first
              | (go_at_call 35
                 refine (umatch_any p ap (.slice op p.ts.length cp) (.slice o7 ap.ts.length k7) _ HM7.out.a.is HX7.out hbp HIN2.out.2.1).mono ?_
                 rintro e w8 ⟨⟨c8, b8, v8, rfl, hm8⟩, hb8⟩
                 obtain rfl : c8 = 0 := hm8.1.2 ⟨HPK.out, HIN2.out.1⟩
                 obtain ⟨rfl, m8, hm81, hm82, hm83⟩ := (hm8.2.1 rfl).resolve_right (fun h => HIN2.out.2.2.1 h.2.1)
                 have hm84 := hm83
                 obtain ⟨o8, k8, rfl, -, -⟩ := hm84
                 have HM8 := Lib.hid (HM7.out.carry hb8)
                 have HU8 := Lib.hid hm83
                 have HE8 := Lib.hid (HIN2.out.2.2.2 m8 hm81 hm82)
                 obtain ⟨⟨x0, x1, x2⟩, -⟩ := box3 HM8.out.a.box; obtain ⟨⟨y0, y1, y2⟩, -⟩ := box3 HM8.out.b.box
                 clear hm8 hm81 hm82 hm83 hb8)
              | (go_at_call 48
                 refine HAPP.out.mono ?_
                 rintro e w7 ⟨⟨sl7, rfl, h7⟩, hb7⟩
                 have h7 := h7.lt.toIs fun b hb => hb.2
                 obtain ⟨o7, k7, rfl, -⟩ := h7.form
                 dsimp only [tmv]
                 have HX7 := Lib.hid h7
                 have HM7 := Lib.hid (HMD6.out.carry hb7)
                 obtain ⟨⟨x0, x1, x2⟩, -⟩ := box3 HM7.out.a.box; obtain ⟨⟨y0, y1, y2⟩, -⟩ := box3 HM7.out.b.box
                 clear h7 hb7)))
            generalize subK m8 = U at HU8 HE8 ⊢
            have hul : U.length ≤ 1048576 := by
              have := HE8.out.1 _ (sortK_order' HPK.out) (sortK_mem' p)
              rw [this, sortK_len]; have := firsts_len p; omega
            have hX : Below w8.heap.size w8 (w8.alloc (.cells #[.string p.nm, .bool p.vr, .slice op p.ts.length cp] 25)) := by go_grown
            have HVR := Lib.hid (rvars_one p HPK.out.1.bare (.slice (some ⟨w8.heap.size, 0, none⟩) 1 1) _ (rowIs [(p, .slice op p.ts.length cp)] (heap_new_at w8 (.cells #[.string p.nm, .bool p.vr, .slice op p.ts.length cp] 25) _ rfl) (by simp) (by simp only [List.mem_cons, List.not_mem_nil, or_false]; rintro c rfl; exact HM8.out.a.is.carry hX hX.size)) hbp (firsts_names p [] (by simp) hbp))
            have HX := Lib.hid hX
            clear hX
            go_wp2_with fail
            refine HVR.out.mono ?_
            rintro e w10 ⟨⟨v10, r10, rfl, h1, h2, h3⟩, hb10⟩
            have hstr := h1
            obtain ⟨o10, k10, rfl, -, -, -⟩ := hstr
            have HM10 := Lib.hid ((HM8.out.carry HX.out).carry hb10)
            have HU10 := Lib.hid (HU8.out.carry (HX.out.trans (hb10.mono HX.out.size)) (Nat.le_refl _))
            have hleq : ((U.length : Int) != (r10.length : Int)) = false := by rw [HE8.out.1 r10 h2 h3]; simp
            have HUQ := Lib.hid HE8.out.2
            have HUS : Hid (w8.heap.size ≤ w10.heap.size) := Lib.hid (Nat.le_trans HX.out.size hb10.size)
            obtain ⟨⟨x0, x1, x2⟩, -⟩ := box3 HM10.out.a.box; obtain ⟨⟨y0, y1, y2⟩, -⟩ := box3 HM10.out.b.box
            clear h1 h2 h3 hb10 HVR
            go_wp2_with fail
            go_loopw [76] (fun i wr => ∃ j : Nat, j ≤ U.length ∧ i = .int .i64 j ∧ Hid (LmSt w wr p t (.slice op p.ts.length cp) (.slice ot t.ts.length ct) s (.slice os s.length cs)) ∧ Hid (BindsIs w8.heap.size wr U (.slice o8 U.length k8)) ∧ w8.heap.size ≤ wr.heap.size) (fun i _ => U.length - (intOf i).toNat)
            case atStart => exact ⟨0, by omega, rfl, HM10, HU10, HUS.out⟩
            case round =>
              obtain ⟨j, hj, rfl, HMR, HUR, hwr⟩ := hrel
              by_cases hlt : j < U.length
              · obtain ⟨b1, o1, q, sq, rfl, hbn1, hq, hqm, hsq, c0, c1, c2, c3⟩ := HUR.out.get hlt
                obtain ⟨oq, cq, rfl, -⟩ := hsq.form
                obtain ⟨hqi, hqb⟩ := HUQ.out q hqm
                have HQI := Lib.hid hqi
                have hB0 : Below wr.heap.size wr (wr.alloc (.cells #[.string (kb q.1), .string q.2.nm, .bool q.2.vr, .slice oq q.2.ts.length cq] 76)).drew := by go_grown
                have hbx0 := ((Below.refl (wr.alloc (.cells #[.string (kb q.1), .string q.2.nm, .bool q.2.vr, .slice oq q.2.ts.length cq] 76)).heap.size (wr.alloc (.cells #[.string (kb q.1), .string q.2.nm, .bool q.2.vr, .slice oq q.2.ts.length cq] 76))).drew.block wr.heap.size (by simp)).trans (heap_new_at wr (.cells #[.string (kb q.1), .string q.2.nm, .bool q.2.vr, .slice oq q.2.ts.length cq] 76) _ rfl)
                have HBX0 := Lib.hid hbx0
                have HMA := Lib.hid (HMR.out.carry hB0)
                have HUA := Lib.hid (HUR.out.carry (hB0.mono hwr) (Nat.le_refl _))
                have HQA := Lib.hid (hsq.carry (hB0.mono hwr) (Nat.le_trans hwr hB0.size))
                have HSA := Lib.hid (HMA.out.s.carry (Below.refl _ _) HMA.out.low.size)
                obtain ⟨d0, d1, d2, d3⟩ := box4 (heap_new_at wr (.cells #[.string (kb q.1), .string q.2.nm, .bool q.2.vr, .slice oq q.2.ts.length cq] 76) _ rfl)
                have hz0 : wr.heap.size < (wr.alloc (.cells #[.string (kb q.1), .string q.2.nm, .bool q.2.vr, .slice oq q.2.ts.length cq] 76)).drew.heap.size := (Array.getElem?_eq_some_iff.1 hbx0).1
                clear hq hqm hsq hB0 hbx0 hqi
                go_wp2_with fail
                go_region_held3 (fun w' => w'.cell? ⟨wr.heap.size, 0, none⟩ = some (.string (kb q.1)) ∧ w'.cell? ⟨wr.heap.size, 1, none⟩ = some (.string q.2.nm) ∧ w'.cell? ⟨wr.heap.size, 2, none⟩ = some (.bool q.2.vr) ∧ w'.cell? ⟨wr.heap.size, 3, none⟩ = some (.slice oq q.2.ts.length cq)) (go_keep) ((first
                  | (go_at_call 17
                     refine (requal_any q.2 q.2 _ _ _ hqb hqb HQ2.out HX2.out).mono ?_
                     rintro e w13 ⟨⟨x3, rfl, h3⟩, hb3⟩
                     obtain rfl : x3 = true := h3.2 (by first | rfl | trivial)
                     have HM13 := Lib.hid (HM12.out.carry hb3)
                     have HU13 := Lib.hid (HU12.out.carry (hb3.mono hz12) (Nat.le_refl _))
                     have hz13 := Nat.le_trans hz12 hb3.size
                     obtain ⟨d0, d1, d2, d3⟩ := box4 ((hb3.block _ (Array.getElem?_eq_some_iff.1 HBX2.out).1).trans HBX2.out)
                     clear h3 hb3)
                  | (go_at_call 51
                     refine (rimage_any s q.1 (.slice os s.length cs) _ _ (Nat.le_refl _) HSA.out (by omega)).mono ?_
                     rintro e w12 ⟨⟨sl2, rfl, h2⟩, hb2⟩
                     rw [← HQI.out] at h2 ⊢
                     obtain ⟨o2, k2, rfl, -⟩ := h2.form
                     dsimp only [tmv]
                     have HX2 := Lib.hid (h2.carry (Below.refl _ _) hb2.size)
                     have HQ2 := Lib.hid (HQA.out.carry hb2 hb2.size)
                     have HM12 := Lib.hid (HMA.out.carry hb2)
                     have hz12 : w8.heap.size ≤ w12.heap.size := Nat.le_trans hwr (Nat.le_trans (Nat.le_of_lt hz0) hb2.size)
                     have HU12 := Lib.hid (HUA.out.carry (hb2.mono (Nat.le_trans hwr (Nat.le_of_lt hz0))) (Nat.le_refl _))
                     have HBX2 := Lib.hid ((hb2.block _ hz0).trans HBX0.out)
                     obtain ⟨d0, d1, d2, d3⟩ := box4 HBX2.out
                     clear h2 hb2)))
                go_wp2_with fail
                exact ⟨⟨j + 1, by omega, by go_num, HM13, HU13, hz13⟩, by simp [intOf]; omega⟩
              · obtain rfl : j = U.length := by omega
                have HM11 := HMR
                go_wp2_with fail
                refine (alive_any _).mono ?_
                rintro e w9 ⟨rfl, hb9⟩
                have HL9 : Hid (Below w.heap.size w w9) := Lib.hid (HM11.out.low.trans (hb9.mono HM11.out.low.size))
                clear hb9
                go_wp2_with fail
                go_ret
                exact ⟨rfl, HL9.out⟩
        · have hcn : (c5 != 0) = true := by rw [bne_iff_ne]; exact hc5
          clear hc5
          go_wp2_with fail
          refine (alive_any _).mono ?_
          rintro e w9 ⟨rfl, hb9⟩
          have HL9 : Hid (Below w.heap.size w w9) := Lib.hid (HM5.out.low.trans (hb9.mono HM5.out.low.size))
          clear hb9
          go_wp2_with fail
          go_ret
          exact ⟨rfl, HL9.out⟩
      · have hcn : (c4 != 0) = true := by rw [bne_iff_ne]; exact hc4
        clear hc4
        go_wp2_with fail
        refine (alive_any _).mono ?_
        rintro e w9 ⟨rfl, hb9⟩
        have HL9 : Hid (Below w.heap.size w w9) := Lib.hid (HM4.out.low.trans (hb9.mono HM4.out.low.size))
        clear hb9
        go_wp2_with fail
        go_ret
        exact ⟨rfl, HL9.out⟩
  · obtain ⟨rfl, rfl⟩ := hm.2.2 hc
    have hcz : (c == 0) = false := by rw [beq_eq_false_iff_ne]; exact hc
    clear hm hc
    go_wp2_with fail
    go_quiet (fail)
    have HM3 := Lib.hid (HM1.out.carry (below_drewN nq (Below.refl _ w1)))
    generalize w1.drewN nq = w3 at HM3 ⊢
    obtain ⟨⟨x0, x1, x2⟩, -⟩ := box3 HM3.out.a.box; obtain ⟨⟨y0, y1, y2⟩, -⟩ := box3 HM3.out.b.box
    go_wp2_with fail
    refine (rcheck_any p (.slice op p.ts.length cp) _ HM3.out.a.is hbp).mono ?_
    rintro e w4 ⟨⟨c4, rfl, h4⟩, hb4⟩
    have HM4 := Lib.hid (HM3.out.carry hb4)
    obtain ⟨⟨x0, x1, x2⟩, -⟩ := box3 HM4.out.a.box; obtain ⟨⟨y0, y1, y2⟩, -⟩ := box3 HM4.out.b.box
    have H4 := Lib.hid h4
    clear hb4 h4 HM3
    by_cases hc4 : c4 = 0
    · subst hc4
      have HPK := Lib.hid (H4.out rfl)
      go_wp2_with fail
      refine (rcheckSubst_any s (.slice os s.length cs) _ (HM4.out.s.carry (Below.refl _ _) HM4.out.low.size) hbs).mono ?_
      rintro e w5 ⟨⟨c5, rfl, h5⟩, hb5⟩
      have HM5 := Lib.hid (HM4.out.carry hb5)
      obtain ⟨⟨x0, x1, x2⟩, -⟩ := box3 HM5.out.a.box; obtain ⟨⟨y0, y1, y2⟩, -⟩ := box3 HM5.out.b.box
      have H5 := Lib.hid h5
      clear hb5 h5 HM4
      by_cases hc5 : c5 = 0
      · subst hc5
        have HSK := Lib.hid (H5.out rfl)
        have HFT := Lib.hid (rfits_any s (.slice os s.length cs) w5.heap.size (by omega) (fun q hq => ⟨(HSK.out.terms q hq).2.1, by have := (HSK.out.terms q hq).bulk; omega⟩) p (.slice op p.ts.length cp) w5 (Nat.le_refl _) (HM5.out.s.carry (Below.refl _ _) HM5.out.low.size) HM5.out.a.is hbp HPK.out.1.bare)
        have HIN := Lib.hid (fun h1 h2 => match_inst HPK.out HSK.out h1 h2)
        cases hfb : decide ((apB s p).size ≤ 4000 ∧ (apB s p).depth ≤ 200)
        · rw [hfb] at HFT
          clear hfb HIN
          go_wp2_with fail
          refine HFT.out.mono ?_
          rintro e w6 ⟨rfl, hb6⟩
          have HM6 := Lib.hid (HM5.out.carry hb6)
          clear hb6
          go_wp2_with fail
          refine (alive_any _).mono ?_
          rintro e w9 ⟨rfl, hb9⟩
          have HL9 : Hid (Below w.heap.size w w9) := Lib.hid (HM6.out.low.trans (hb9.mono HM6.out.low.size))
          clear hb9
          go_wp2_with fail
          go_ret
          exact ⟨rfl, HL9.out⟩
        · rw [hfb] at HFT
          have hfb2 := of_decide_eq_true hfb
          have HIN2 := Lib.hid (HIN.out hfb2.1 hfb2.2)
          clear hfb hfb2 HIN
          go_wp2_with fail
          refine HFT.out.mono ?_
          rintro e w6 ⟨rfl, hb6⟩
          have HM6 := Lib.hid (HM5.out.carry hb6)
          obtain ⟨⟨x0, x1, x2⟩, -⟩ := box3 HM6.out.a.box; obtain ⟨⟨y0, y1, y2⟩, -⟩ := box3 HM6.out.b.box
          have HMD6 := Lib.hid HM6.out.drew
          have HAPP := Lib.hid (rapply_any s (.slice os s.length cs) w6.drew.heap.size (by omega) p (.slice op p.ts.length cp) w6.drew (Nat.le_refl _) (HMD6.out.s.carry (Below.refl _ _) HMD6.out.low.size) HMD6.out.a.is hbp)
          clear hb6 HFT
          generalize apB s p = ap at HIN2 HAPP
          go_wp2_with fail
          go_region_held3 (fun w' => w'.cell? ⟨w.heap.size, 0, none⟩ = some (.string p.nm) ∧ w'.cell? ⟨w.heap.size, 1, none⟩ = some (.bool p.vr) ∧ w'.cell? ⟨w.heap.size, 2, none⟩ = some (.slice op p.ts.length cp) ∧ w'.cell? ⟨w.heap.size + 1, 0, none⟩ = some (.string t.nm) ∧ w'.cell? ⟨w.heap.size + 1, 1, none⟩ = some (.bool t.vr) ∧ w'.cell? ⟨w.heap.size + 1, 2, none⟩ = some (.slice ot t.ts.length ct)) (go_keep) ((first
            | (go_at_call 35
               refine (umatch_any p ap (.slice op p.ts.length cp) (.slice o7 ap.ts.length k7) _ HM7.out.a.is HX7.out hbp HIN2.out.2.1).mono ?_
               rintro e w8 ⟨⟨c8, b8, v8, rfl, hm8⟩, hb8⟩
               obtain rfl : c8 = 0 := hm8.1.2 ⟨HPK.out, HIN2.out.1⟩
               obtain ⟨rfl, m8, hm81, hm82, hm83⟩ := (hm8.2.1 rfl).resolve_right (fun h => HIN2.out.2.2.1 h.2.1)
               have hm84 := hm83
               obtain ⟨o8, k8, rfl, -, -⟩ := hm84
               have HM8 := Lib.hid (HM7.out.carry hb8)
               have HU8 := Lib.hid hm83
               have HE8 := Lib.hid (HIN2.out.2.2.2 m8 hm81 hm82)
               obtain ⟨⟨x0, x1, x2⟩, -⟩ := box3 HM8.out.a.box; obtain ⟨⟨y0, y1, y2⟩, -⟩ := box3 HM8.out.b.box
               clear hm8 hm81 hm82 hm83 hb8)
            | (go_at_call 48
               refine HAPP.out.mono ?_
               rintro e w7 ⟨⟨sl7, rfl, h7⟩, hb7⟩
               have h7 := h7.lt.toIs fun b hb => hb.2
               obtain ⟨o7, k7, rfl, -⟩ := h7.form
               dsimp only [tmv]
               have HX7 := Lib.hid h7
               have HM7 := Lib.hid (HMD6.out.carry hb7)
               obtain ⟨⟨x0, x1, x2⟩, -⟩ := box3 HM7.out.a.box; obtain ⟨⟨y0, y1, y2⟩, -⟩ := box3 HM7.out.b.box
               clear h7 hb7)))
          generalize subK m8 = U at HU8 HE8 ⊢
          have hul : U.length ≤ 1048576 := by
            have := HE8.out.1 _ (sortK_order' HPK.out) (sortK_mem' p)
            rw [this, sortK_len]; have := firsts_len p; omega
          have hX : Below w8.heap.size w8 (w8.alloc (.cells #[.string p.nm, .bool p.vr, .slice op p.ts.length cp] 25)) := by go_grown
          have HVR := Lib.hid (rvars_one p HPK.out.1.bare (.slice (some ⟨w8.heap.size, 0, none⟩) 1 1) _ (rowIs [(p, .slice op p.ts.length cp)] (heap_new_at w8 (.cells #[.string p.nm, .bool p.vr, .slice op p.ts.length cp] 25) _ rfl) (by simp) (by simp only [List.mem_cons, List.not_mem_nil, or_false]; rintro c rfl; exact HM8.out.a.is.carry hX hX.size)) hbp (firsts_names p [] (by simp) hbp))
          have HX := Lib.hid hX
          clear hX
          go_wp2_with fail
          refine HVR.out.mono ?_
          rintro e w10 ⟨⟨v10, r10, rfl, h1, h2, h3⟩, hb10⟩
          have hstr := h1
          obtain ⟨o10, k10, rfl, -, -, -⟩ := hstr
          have HM10 := Lib.hid ((HM8.out.carry HX.out).carry hb10)
          have HU10 := Lib.hid (HU8.out.carry (HX.out.trans (hb10.mono HX.out.size)) (Nat.le_refl _))
          have hleq : ((U.length : Int) != (r10.length : Int)) = false := by rw [HE8.out.1 r10 h2 h3]; simp
          have HUQ := Lib.hid HE8.out.2
          have HUS : Hid (w8.heap.size ≤ w10.heap.size) := Lib.hid (Nat.le_trans HX.out.size hb10.size)
          obtain ⟨⟨x0, x1, x2⟩, -⟩ := box3 HM10.out.a.box; obtain ⟨⟨y0, y1, y2⟩, -⟩ := box3 HM10.out.b.box
          clear h1 h2 h3 hb10 HVR
          go_wp2_with fail
          go_loopw [76] (fun i wr => ∃ j : Nat, j ≤ U.length ∧ i = .int .i64 j ∧ Hid (LmSt w wr p t (.slice op p.ts.length cp) (.slice ot t.ts.length ct) s (.slice os s.length cs)) ∧ Hid (BindsIs w8.heap.size wr U (.slice o8 U.length k8)) ∧ w8.heap.size ≤ wr.heap.size) (fun i _ => U.length - (intOf i).toNat)
          case atStart => exact ⟨0, by omega, rfl, HM10, HU10, HUS.out⟩
          case round =>
            obtain ⟨j, hj, rfl, HMR, HUR, hwr⟩ := hrel
            by_cases hlt : j < U.length
            · obtain ⟨b1, o1, q, sq, rfl, hbn1, hq, hqm, hsq, c0, c1, c2, c3⟩ := HUR.out.get hlt
              obtain ⟨oq, cq, rfl, -⟩ := hsq.form
              obtain ⟨hqi, hqb⟩ := HUQ.out q hqm
              have HQI := Lib.hid hqi
              have hB0 : Below wr.heap.size wr (wr.alloc (.cells #[.string (kb q.1), .string q.2.nm, .bool q.2.vr, .slice oq q.2.ts.length cq] 76)).drew := by go_grown
              have hbx0 := ((Below.refl (wr.alloc (.cells #[.string (kb q.1), .string q.2.nm, .bool q.2.vr, .slice oq q.2.ts.length cq] 76)).heap.size (wr.alloc (.cells #[.string (kb q.1), .string q.2.nm, .bool q.2.vr, .slice oq q.2.ts.length cq] 76))).drew.block wr.heap.size (by simp)).trans (heap_new_at wr (.cells #[.string (kb q.1), .string q.2.nm, .bool q.2.vr, .slice oq q.2.ts.length cq] 76) _ rfl)
              have HBX0 := Lib.hid hbx0
              have HMA := Lib.hid (HMR.out.carry hB0)
              have HUA := Lib.hid (HUR.out.carry (hB0.mono hwr) (Nat.le_refl _))
              have HQA := Lib.hid (hsq.carry (hB0.mono hwr) (Nat.le_trans hwr hB0.size))
              have HSA := Lib.hid (HMA.out.s.carry (Below.refl _ _) HMA.out.low.size)
              obtain ⟨d0, d1, d2, d3⟩ := box4 (heap_new_at wr (.cells #[.string (kb q.1), .string q.2.nm, .bool q.2.vr, .slice oq q.2.ts.length cq] 76) _ rfl)
              have hz0 : wr.heap.size < (wr.alloc (.cells #[.string (kb q.1), .string q.2.nm, .bool q.2.vr, .slice oq q.2.ts.length cq] 76)).drew.heap.size := (Array.getElem?_eq_some_iff.1 hbx0).1
              clear hq hqm hsq hB0 hbx0 hqi
              go_wp2_with fail
              go_region_held3 (fun w' => w'.cell? ⟨wr.heap.size, 0, none⟩ = some (.string (kb q.1)) ∧ w'.cell? ⟨wr.heap.size, 1, none⟩ = some (.string q.2.nm) ∧ w'.cell? ⟨wr.heap.size, 2, none⟩ = some (.bool q.2.vr) ∧ w'.cell? ⟨wr.heap.size, 3, none⟩ = some (.slice oq q.2.ts.length cq)) (go_keep) ((first
                | (go_at_call 17
                   refine (requal_any q.2 q.2 _ _ _ hqb hqb HQ2.out HX2.out).mono ?_
                   rintro e w13 ⟨⟨x3, rfl, h3⟩, hb3⟩
                   obtain rfl : x3 = true := h3.2 (by first | rfl | trivial)
                   have HM13 := Lib.hid (HM12.out.carry hb3)
                   have HU13 := Lib.hid (HU12.out.carry (hb3.mono hz12) (Nat.le_refl _))
                   have hz13 := Nat.le_trans hz12 hb3.size
                   obtain ⟨d0, d1, d2, d3⟩ := box4 ((hb3.block _ (Array.getElem?_eq_some_iff.1 HBX2.out).1).trans HBX2.out)
                   clear h3 hb3)
                | (go_at_call 51
                   refine (rimage_any s q.1 (.slice os s.length cs) _ _ (Nat.le_refl _) HSA.out (by omega)).mono ?_
                   rintro e w12 ⟨⟨sl2, rfl, h2⟩, hb2⟩
                   rw [← HQI.out] at h2 ⊢
                   obtain ⟨o2, k2, rfl, -⟩ := h2.form
                   dsimp only [tmv]
                   have HX2 := Lib.hid (h2.carry (Below.refl _ _) hb2.size)
                   have HQ2 := Lib.hid (HQA.out.carry hb2 hb2.size)
                   have HM12 := Lib.hid (HMA.out.carry hb2)
                   have hz12 : w8.heap.size ≤ w12.heap.size := Nat.le_trans hwr (Nat.le_trans (Nat.le_of_lt hz0) hb2.size)
                   have HU12 := Lib.hid (HUA.out.carry (hb2.mono (Nat.le_trans hwr (Nat.le_of_lt hz0))) (Nat.le_refl _))
                   have HBX2 := Lib.hid ((hb2.block _ hz0).trans HBX0.out)
                   obtain ⟨d0, d1, d2, d3⟩ := box4 HBX2.out
                   clear h2 hb2)))
              go_wp2_with fail
              exact ⟨⟨j + 1, by omega, by go_num, HM13, HU13, hz13⟩, by simp [intOf]; omega⟩
            · obtain rfl : j = U.length := by omega
              have HM11 := HMR
              go_wp2_with fail
              refine (alive_any _).mono ?_
              rintro e w9 ⟨rfl, hb9⟩
              have HL9 : Hid (Below w.heap.size w w9) := Lib.hid (HM11.out.low.trans (hb9.mono HM11.out.low.size))
              clear hb9
              go_wp2_with fail
              go_ret
              exact ⟨rfl, HL9.out⟩
      · have hcn : (c5 != 0) = true := by rw [bne_iff_ne]; exact hc5
        clear hc5
        go_wp2_with fail
        refine (alive_any _).mono ?_
        rintro e w9 ⟨rfl, hb9⟩
        have HL9 : Hid (Below w.heap.size w w9) := Lib.hid (HM5.out.low.trans (hb9.mono HM5.out.low.size))
        clear hb9
        go_wp2_with fail
        go_ret
        exact ⟨rfl, HL9.out⟩
    · have hcn : (c4 != 0) = true := by rw [bne_iff_ne]; exact hc4
      clear hc4
      go_wp2_with fail
      refine (alive_any _).mono ?_
      rintro e w9 ⟨rfl, hb9⟩
      have HL9 : Hid (Below w.heap.size w w9) := Lib.hid (HM4.out.low.trans (hb9.mono HM4.out.low.size))
      clear hb9
      go_wp2_with fail
      go_ret
      exact ⟨rfl, HL9.out⟩
end Go.Proofs.YtgmloanagpkjeaaGreatDoor
