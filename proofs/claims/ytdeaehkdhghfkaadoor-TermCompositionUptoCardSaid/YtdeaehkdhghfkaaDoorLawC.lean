/- The law on composition: the walk. -/
import Derived.WalkKit
import Derived.ProofKit
import Derived.OpenShut
import Derived.Handy
import Derived.Lib.Hide
import Derived.Lib.SmallJoins
import Derived.Test.YtdeaehkdhghfkaaDoorCom2
import Derived.Test.YtdeaehkdhghfkaaDoorAlive
namespace Go.Proofs.YtdeaehkdhghfkaaDoor
open Go.RowKit

def BBx (W : World) (bl : List Bd) (v : Value) : Prop := BindsIs W.heap.size W bl v
theorem BBx.carry {A W : World} {bl : List Bd} {v : Value} (h : BBx A bl v) (hb : Below A.heap.size A W) : BBx W bl v := BindsIs.carry h hb hb.size
/-- what an application gives: its size -/
theorem apply_bulk {bl : List Bd} {t u : Tm} {c : Int} (h : (c = 0 ∧ SubOk bl ∧ t.ok ∧ (apB bl t).small ∧ u = apB bl t) ∨ (c ≠ 0 ∧ u = Tm.none ∧ (SubOk bl → t.ok → ¬ (apB bl t).small ∧ c = 3))) : u.bulk ≤ 1048576 := by
  rcases h with ⟨_, h1, h2, h3, rfl⟩ | ⟨_, rfl, _⟩
  · have : (apB bl t).ok := ⟨apB_formed (fun q hq => (h1.terms q hq).1) h2.1, h3.1, h3.2⟩
    have := this.bulk
    omega
  · exact none_bulk
/-- the two ways round end alike -/
theorem ways_alike {b1 b2 : List Bd} {t x y : Tm} {c d : Int} (hx : (c = 0 ∧ SubOk b1 ∧ t.ok ∧ (apB b1 t).small ∧ x = apB b1 t) ∨ (c ≠ 0 ∧ x = Tm.none ∧ (SubOk b1 → t.ok → ¬ (apB b1 t).small ∧ c = 3)))
    (hy : (d = 0 ∧ SubOk b2 ∧ t.ok ∧ (apB b2 t).small ∧ y = apB b2 t) ∨ (d ≠ 0 ∧ y = Tm.none ∧ (SubOk b2 → t.ok → ¬ (apB b2 t).small ∧ d = 3))) (ht : t.ok) (h1 : SubOk b1) (h2 : SubOk b2) (he : apB b1 t = apB b2 t) :
    (c = 0 ∧ d = 0 ∧ x = y) ∨ (c = 3 ∧ d = 3 ∧ x = y) := by
  rcases hx with ⟨rfl, _, _, hs, rfl⟩ | ⟨_, rfl, hx⟩
  · rcases hy with ⟨rfl, _, _, _, rfl⟩ | ⟨_, _, hy⟩
    · exact .inl ⟨rfl, rfl, he⟩
    · rw [he] at hs; exact absurd hs (hy h2 ht).1
  · have hx := hx h1 ht
    rcases hy with ⟨_, _, _, hs, _⟩ | ⟨_, rfl, hy⟩
    · rw [← he] at hs; exact absurd hs hx.1
    · exact .inr ⟨hx.2, (hy h2 ht).2, rfl⟩

/-- what is asked of the reference's Check -/
def RChk : Prop := ∀ (t : Tm) (s : Value) (w : World), SlIs w.heap.size w t.ts s → t.bulk ≤ 1048576 →
    Calls Tryd.prog 12 #[tmv t s] w fun e w' => (∃ c : Int, e = .returned (.int .i64 c) ∧ (c = 0 → t.ok)) ∧ Below w.heap.size w w'
set_option maxRecDepth 100000 in
set_option maxHeartbeats 8000000 in
theorem composition_any (HRC : Hid RChk) (q0 q1 q2 : List Bd) (t : Tm) (v0 v1 v2 s : Value) (w : World) (h0 : BindsIs w.heap.size w q0 v0) (h1 : BindsIs w.heap.size w q1 v1) (h2 : BindsIs w.heap.size w q2 v2) (hs : SlIs w.heap.size w t.ts s)
    (hb0 : bdBulk q0 ≤ 1048576) (hb1 : bdBulk q1 ≤ 1048576) (hb2 : bdBulk q2 ≤ 1048576) (hlen : q0.length + q1.length + q2.length ≤ 1048576) (hbt : t.bulk ≤ 1048576) :
    Calls Tryd.prog 9 #[.agg #[v0, v1, v2], tmv t s] w fun e w' => e = .returned (.bool true) ∧ Below w.heap.size w w' := by
  obtain ⟨oa, ca, rfl, -⟩ := hs.form
  have h0' := h0; have h1' := h1; have h2' := h2
  obtain ⟨p0, k0, rfl, -, -⟩ := h0'
  obtain ⟨p1, k1, rfl, -, -⟩ := h1'
  obtain ⟨p2, k2, rfl, -, -⟩ := h2'
  have HB0 := Lib.hid hb0; have HB1 := Lib.hid hb1; have HB2 := Lib.hid hb2; have HBT := Lib.hid hbt; have HLEN := Lib.hid hlen
  have hbw : Below w.heap.size w ((w.alloc (.cells #[.slice p0 q0.length k0, .slice p1 q1.length k1, .slice p2 q2.length k2] 86)).alloc (.cells #[.string t.nm, .bool t.vr, .slice oa t.ts.length ca] 24)) := by go_grown
  have HW0 := Lib.hid hbw
  have HQ0 : Hid (QBx ((w.alloc (.cells #[.slice p0 q0.length k0, .slice p1 q1.length k1, .slice p2 q2.length k2] 86)).alloc (.cells #[.string t.nm, .bool t.vr, .slice oa t.ts.length ca] 24)) w.heap.size q0 q1 q2 (.slice p0 q0.length k0) (.slice p1 q1.length k1) (.slice p2 q2.length k2)) :=
    Lib.hid ⟨(Below.heap_alloc _ _ _ (by simp)).trans (heap_new_at _ _ _ rfl), h0.carry hbw hbw.size, h1.carry hbw hbw.size, h2.carry hbw hbw.size⟩
  have HT0 : Hid (TBx ((w.alloc (.cells #[.slice p0 q0.length k0, .slice p1 q1.length k1, .slice p2 q2.length k2] 86)).alloc (.cells #[.string t.nm, .bool t.vr, .slice oa t.ts.length ca] 24)) (w.heap.size + 1) t (.slice oa t.ts.length ca)) :=
    Lib.hid ⟨heap_new_at _ _ _ (by simp), hs.carry hbw hbw.size⟩
  clear h0 h1 h2 hs hb0 hb1 hb2 hlen hbt hbw
  obtain ⟨⟨a0, a1, a2⟩, -⟩ := box3 HQ0.out.box
  go_enter Tryd.func9, Tryd.ntmps9
  rw [show tmv t (.slice oa t.ts.length ca) = .agg #[.string t.nm, .bool t.vr, .slice oa t.ts.length ca] from rfl]
  go_wp2_with fail
  clear a0 a1 a2
  generalize ((w.alloc (.cells #[.slice p0 q0.length k0, .slice p1 q1.length k1, .slice p2 q2.length k2] 86)).alloc (.cells #[.string t.nm, .bool t.vr, .slice oa t.ts.length ca] 24)) = W0 at HW0 HQ0 HT0 ⊢
  refine (compose_law q0 q1 _ _ _ HQ0.out.h0 HQ0.out.h1 HB0.out HB1.out).mono ?_
  rintro e V1 ⟨⟨c1, sl1, rfl, hc1⟩, hb1⟩
  have HQ1 := Lib.hid (HQ0.out.carry hb1); have HT1 := Lib.hid (HT0.out.carry hb1); have HW1 := Lib.hid (HW0.out.trans (hb1.mono HW0.out.size))
  have HC1 := Lib.hid hc1
  have HV1 := Lib.hid hb1
  clear hb1 hc1
  obtain ⟨⟨a0, a1, a2⟩, -⟩ := box3 HQ1.out.box
  go_wp2_with fail
  clear a0 a1 a2
  refine (compose_law q1 q2 _ _ _ HQ1.out.h1 HQ1.out.h2 HB1.out HB2.out).mono ?_
  rintro e V2 ⟨⟨c2, sl2, rfl, hc2⟩, hb2⟩
  have HQ2 := Lib.hid (HQ1.out.carry hb2); have HT2 := Lib.hid (HT1.out.carry hb2); have HW2 := Lib.hid (HW1.out.trans (hb2.mono HW1.out.size))
  have HC2 := Lib.hid hc2
  have HV2 := Lib.hid hb2
  clear hb2 hc2
  by_cases hn1 : c1 = 0
  · by_cases hn2 : c2 = 0
    · subst hn1
      subst hn2
      obtain ⟨hsu0, hsu1, su, hsu, hsuok, hsul, hsua⟩ : SubOk q0 ∧ SubOk q1 ∧ ∃ ys, BBx V1 ys sl1 ∧ SubOk ys ∧ ys.length ≤ q0.length + q1.length ∧ ∀ t, apB ys t = apB q1 (apB q0 t) := by
        rcases HC1.out with ⟨_, h⟩ | ⟨h, _⟩
        · exact h
        · exact absurd rfl h
      have hf := hsu
      obtain ⟨o1, k1, rfl, -, -⟩ := hf
      have HSU2 := Lib.hid (hsu.carry HV2.out)
      have HO0 := Lib.hid hsu0; have HO1 := Lib.hid hsu1
      have HOKSU := Lib.hid hsuok
      have HASU := Lib.hid hsua
      have HLSU := Lib.hid hsul
      have HBSU : Hid (bdBulk su ≤ 1048576) := Lib.hid (hsuok.bulk (by have := HLEN.out; omega))
      clear hsu hsu0 hsu1 hsuok hsul hsua HC1
      obtain ⟨huw0, huw1, uw, huw, huwok, huwl, huwa⟩ : SubOk q1 ∧ SubOk q2 ∧ ∃ ys, BBx V2 ys sl2 ∧ SubOk ys ∧ ys.length ≤ q1.length + q2.length ∧ ∀ t, apB ys t = apB q2 (apB q1 t) := by
        rcases HC2.out with ⟨_, h⟩ | ⟨h, _⟩
        · exact h
        · exact absurd rfl h
      have hf := huw
      obtain ⟨o2, k2, rfl, -, -⟩ := hf
      have HUW2 := Lib.hid (huw)
      have HO1b := Lib.hid huw0; have HO2 := Lib.hid huw1
      have HOKUW := Lib.hid huwok
      have HAUW := Lib.hid huwa
      have HLUW := Lib.hid huwl
      have HBUW : Hid (bdBulk uw ≤ 1048576) := Lib.hid (huwok.bulk (by have := HLEN.out; omega))
      clear huw huw0 huw1 huwok huwl huwa HC2
      obtain ⟨⟨b0, b1, b2⟩, -⟩ := box3 HT2.out.box
      go_wp2_with fail
      clear b0 b1 b2
      refine (tapply_any su _ t _ _ HSU2.out HBSU.out HT2.out.is HBT.out).mono ?_
      rintro e V3 ⟨xa, c3, ⟨⟨s3, rfl, h3⟩, hb3⟩, hc3⟩
      obtain ⟨o3, k3, rfl, -⟩ := h3.form
      dsimp only [tmv]
      have hbn := hb3.alloc hb3.size (.cells #[.string xa.nm, .bool xa.vr, .slice o3 xa.ts.length k3] 24)
      have HQ3 := Lib.hid (HQ2.out.carry hbn); have HT3 := Lib.hid (HT2.out.carry hbn); have HSU3 := Lib.hid (HSU2.out.carry hbn); have HUW3 := Lib.hid (HUW2.out.carry hbn); have HW3 := Lib.hid (HW2.out.trans (hbn.mono HW2.out.size))
      have HXA3 := Lib.hid (TBx.new h3)
      have HC3 := Lib.hid hc3
      have HK3 := Lib.hid (apply_bulk hc3)
      clear hb3 hbn h3 hc3
      obtain ⟨⟨a0, a1, a2⟩, -⟩ := box3 HQ3.out.box
      obtain ⟨⟨b0, b1, b2⟩, -⟩ := box3 HT3.out.box
      go_wp2_with fail
      clear a0 a1 a2 b0 b1 b2
      refine (tapply_any q0 _ t _ _ HQ3.out.h0 HB0.out HT3.out.is HBT.out).mono ?_
      rintro e V4 ⟨xb, c4, ⟨⟨s4, rfl, h4⟩, hb4⟩, hc4⟩
      obtain ⟨o4, k4, rfl, -⟩ := h4.form
      dsimp only [tmv]
      have hbn := hb4.alloc hb4.size (.cells #[.string xb.nm, .bool xb.vr, .slice o4 xb.ts.length k4] 24)
      have HQ4 := Lib.hid (HQ3.out.carry hbn); have HT4 := Lib.hid (HT3.out.carry hbn); have HSU4 := Lib.hid (HSU3.out.carry hbn); have HUW4 := Lib.hid (HUW3.out.carry hbn); have HXA4 := Lib.hid (HXA3.out.carry hbn); have HW4 := Lib.hid (HW3.out.trans (hbn.mono HW3.out.size))
      have HXB4 := Lib.hid (TBx.new h4)
      have HC4 := Lib.hid hc4
      have HK4 := Lib.hid (apply_bulk hc4)
      clear hb4 hbn h4 hc4
      obtain ⟨⟨a0, a1, a2⟩, -⟩ := box3 HQ4.out.box
      obtain ⟨⟨b0, b1, b2⟩, -⟩ := box3 HXB4.out.box
      go_wp2_with fail
      clear a0 a1 a2 b0 b1 b2
      refine (tapply_any q1 _ xb _ _ HQ4.out.h1 HB1.out HXB4.out.is HK4.out).mono ?_
      rintro e V5 ⟨xc, c5, ⟨⟨s5, rfl, h5⟩, hb5⟩, hc5⟩
      obtain ⟨o5, k5, rfl, -⟩ := h5.form
      dsimp only [tmv]
      have hbn := hb5.alloc hb5.size (.cells #[.string xc.nm, .bool xc.vr, .slice o5 xc.ts.length k5] 24)
      have HQ5 := Lib.hid (HQ4.out.carry hbn); have HT5 := Lib.hid (HT4.out.carry hbn); have HSU5 := Lib.hid (HSU4.out.carry hbn); have HUW5 := Lib.hid (HUW4.out.carry hbn); have HXA5 := Lib.hid (HXA4.out.carry hbn); have HW5 := Lib.hid (HW4.out.trans (hbn.mono HW4.out.size))
      have HXC5 := Lib.hid (TBx.new h5)
      have HC5 := Lib.hid hc5
      have HK5 := Lib.hid (apply_bulk hc5)
      clear hb5 hbn h5 hc5
      by_cases hn3 : c3 = 0
      · by_cases hn4 : c4 = 0
        · by_cases hn5 : c5 = 0
          · subst hn3
            subst hn4
            subst hn5
            obtain rfl : xa = xc := by
              rcases HC3.out with ⟨_, _, _, _, ea⟩ | ⟨h, _⟩
              · rcases HC4.out with ⟨_, _, _, _, eb⟩ | ⟨h, _⟩
                · rcases HC5.out with ⟨_, _, _, _, ec⟩ | ⟨h, _⟩
                  · rw [ea, ec, eb, HASU.out]
                  · exact absurd rfl h
                · exact absurd rfl h
              · exact absurd rfl h
            clear HC3 HC4 HC5
            obtain ⟨⟨x0, x1, x2⟩, -⟩ := box3 HXA5.out.box
            obtain ⟨⟨y0, y1, y2⟩, -⟩ := box3 HXC5.out.box
            go_wp2_with fail
            clear x0 x1 x2 y0 y1 y2
            refine (requal_any xa xa _ _ _ HK3.out HK3.out HXA5.out.is HXC5.out.is).mono ?_
            rintro e V6 ⟨⟨r6, rfl, hr6⟩, hb6⟩
            obtain rfl : r6 = true := hr6.2 rfl
            have HQ6 := Lib.hid (HQ5.out.carry hb6); have HT6 := Lib.hid (HT5.out.carry hb6); have HSU6 := Lib.hid (HSU5.out.carry hb6); have HUW6 := Lib.hid (HUW5.out.carry hb6); have HW6 := Lib.hid (HW5.out.trans (hb6.mono HW5.out.size))
            clear hb6 hr6
            obtain ⟨⟨a0, a1, a2⟩, -⟩ := box3 HQ6.out.box
            go_wp2_with fail
            clear a0 a1 a2
            refine (compose_law su q2 _ _ _ HSU6.out HQ6.out.h2 HBSU.out HB2.out).mono ?_
            rintro e V7 ⟨⟨c7, sl7, rfl, hc7⟩, hb7⟩
            have HQ7 := Lib.hid (HQ6.out.carry hb7); have HT7 := Lib.hid (HT6.out.carry hb7); have HSU7 := Lib.hid (HSU6.out.carry hb7); have HUW7 := Lib.hid (HUW6.out.carry hb7); have HW7 := Lib.hid (HW6.out.trans (hb7.mono HW6.out.size))
            have HC7 := Lib.hid hc7
            have HV7 := Lib.hid hb7
            clear hb7 hc7
            obtain ⟨⟨a0, a1, a2⟩, -⟩ := box3 HQ7.out.box
            go_wp2_with fail
            clear a0 a1 a2
            refine (compose_law q0 uw _ _ _ HQ7.out.h0 HUW7.out HB0.out HBUW.out).mono ?_
            rintro e V8 ⟨⟨c8, sl8, rfl, hc8⟩, hb8⟩
            have HQ8 := Lib.hid (HQ7.out.carry hb8); have HT8 := Lib.hid (HT7.out.carry hb8); have HSU8 := Lib.hid (HSU7.out.carry hb8); have HUW8 := Lib.hid (HUW7.out.carry hb8); have HW8 := Lib.hid (HW7.out.trans (hb8.mono HW7.out.size))
            have HC8 := Lib.hid hc8
            have HV8 := Lib.hid hb8
            clear hb8 hc8
            by_cases hn7 : c7 = 0
            · by_cases hn8 : c8 = 0
              · subst hn7
                subst hn8
                obtain ⟨hone0, hone1, one, hone, honeok, honel, honea⟩ : SubOk su ∧ SubOk q2 ∧ ∃ ys, BBx V7 ys sl7 ∧ SubOk ys ∧ ys.length ≤ su.length + q2.length ∧ ∀ t, apB ys t = apB q2 (apB su t) := by
                  rcases HC7.out with ⟨_, h⟩ | ⟨h, _⟩
                  · exact h
                  · exact absurd rfl h
                have hf := hone
                obtain ⟨o7, k7, rfl, -, -⟩ := hf
                have HONE8 := Lib.hid (hone.carry HV8.out)
                have HOs := Lib.hid hone0; have HO2b := Lib.hid hone1
                have HOKONE := Lib.hid honeok
                have HAONE := Lib.hid honea
                have HLONE := Lib.hid honel
                have HBONE : Hid (bdBulk one ≤ 1048576) := Lib.hid (honeok.bulk (by have := HLEN.out; have := HLSU.out; omega))
                clear hone hone0 hone1 honeok honel honea HC7
                obtain ⟨htwo0, htwo1, two, htwo, htwook, htwol, htwoa⟩ : SubOk q0 ∧ SubOk uw ∧ ∃ ys, BBx V8 ys sl8 ∧ SubOk ys ∧ ys.length ≤ q0.length + uw.length ∧ ∀ t, apB ys t = apB uw (apB q0 t) := by
                  rcases HC8.out with ⟨_, h⟩ | ⟨h, _⟩
                  · exact h
                  · exact absurd rfl h
                have hf := htwo
                obtain ⟨o8, k8, rfl, -, -⟩ := hf
                have HTWO8 := Lib.hid (htwo)
                have HO0b := Lib.hid htwo0; have HOu := Lib.hid htwo1
                have HOKTWO := Lib.hid htwook
                have HATWO := Lib.hid htwoa
                have HLTWO := Lib.hid htwol
                have HBTWO : Hid (bdBulk two ≤ 1048576) := Lib.hid (htwook.bulk (by have := HLEN.out; have := HLUW.out; omega))
                clear htwo htwo0 htwo1 htwook htwol htwoa HC8
                obtain ⟨⟨b0, b1, b2⟩, -⟩ := box3 HT8.out.box
                go_wp2_with fail
                clear b0 b1 b2
                refine (HRC.out t _ _ HT8.out.is HBT.out).mono ?_
                rintro e V9 ⟨⟨c9, rfl, hc9⟩, hb9⟩
                have HQ9 := Lib.hid (HQ8.out.carry hb9); have HT9 := Lib.hid (HT8.out.carry hb9); have HSU9 := Lib.hid (HSU8.out.carry hb9); have HUW9 := Lib.hid (HUW8.out.carry hb9); have HONE9 := Lib.hid (HONE8.out.carry hb9); have HTWO9 := Lib.hid (HTWO8.out.carry hb9); have HW9 := Lib.hid (HW8.out.trans (hb9.mono HW8.out.size))
                have HC9 := Lib.hid hc9
                clear hb9 hc9
                by_cases hn9 : c9 = 0
                · have HOKT := Lib.hid (HC9.out hn9)
                  subst hn9
                  clear HC9
                  obtain ⟨⟨b0, b1, b2⟩, -⟩ := box3 HT9.out.box
                  go_wp2_with fail
                  clear b0 b1 b2
                  refine (tapply_any one _ t _ _ HONE9.out HBONE.out HT9.out.is HBT.out).mono ?_
                  rintro e V10 ⟨x, c10, ⟨⟨s10, rfl, h10⟩, hb10⟩, hc10⟩
                  obtain ⟨o10, k10, rfl, -⟩ := h10.form
                  dsimp only [tmv]
                  have hbn := hb10.alloc hb10.size (.cells #[.string x.nm, .bool x.vr, .slice o10 x.ts.length k10] 24)
                  have HQ10 := Lib.hid (HQ9.out.carry hbn); have HT10 := Lib.hid (HT9.out.carry hbn); have HSU10 := Lib.hid (HSU9.out.carry hbn); have HUW10 := Lib.hid (HUW9.out.carry hbn); have HONE10 := Lib.hid (HONE9.out.carry hbn); have HTWO10 := Lib.hid (HTWO9.out.carry hbn); have HW10 := Lib.hid (HW9.out.trans (hbn.mono HW9.out.size))
                  have HX10 := Lib.hid (TBx.new h10)
                  have HC10 := Lib.hid hc10
                  have HK10 := Lib.hid (apply_bulk hc10)
                  clear hb10 hbn h10 hc10
                  obtain ⟨⟨b0, b1, b2⟩, -⟩ := box3 HT10.out.box
                  go_wp2_with fail
                  clear b0 b1 b2
                  refine (tapply_any two _ t _ _ HTWO10.out HBTWO.out HT10.out.is HBT.out).mono ?_
                  rintro e V11 ⟨y, c11, ⟨⟨s11, rfl, h11⟩, hb11⟩, hc11⟩
                  obtain ⟨o11, k11, rfl, -⟩ := h11.form
                  dsimp only [tmv]
                  have hbn := hb11.alloc hb11.size (.cells #[.string y.nm, .bool y.vr, .slice o11 y.ts.length k11] 24)
                  have HQ11 := Lib.hid (HQ10.out.carry hbn); have HT11 := Lib.hid (HT10.out.carry hbn); have HSU11 := Lib.hid (HSU10.out.carry hbn); have HUW11 := Lib.hid (HUW10.out.carry hbn); have HONE11 := Lib.hid (HONE10.out.carry hbn); have HTWO11 := Lib.hid (HTWO10.out.carry hbn); have HX11 := Lib.hid (HX10.out.carry hbn); have HW11 := Lib.hid (HW10.out.trans (hbn.mono HW10.out.size))
                  have HY11 := Lib.hid (TBx.new h11)
                  have HC11 := Lib.hid hc11
                  have HK11 := Lib.hid (apply_bulk hc11)
                  clear hb11 hbn h11 hc11
                  have hal := ways_alike HC10.out HC11.out HOKT.out HOKONE.out HOKTWO.out (by rw [HAONE.out, HASU.out, HATWO.out, HAUW.out])
                  clear HC10 HC11
                  rcases hal with ⟨rfl, rfl, rfl⟩ | ⟨rfl, rfl, rfl⟩
                  · obtain ⟨⟨x0, x1, x2⟩, -⟩ := box3 HX11.out.box
                    obtain ⟨⟨y0, y1, y2⟩, -⟩ := box3 HY11.out.box
                    go_wp2_with fail
                    clear x0 x1 x2 y0 y1 y2
                    refine (requal_any x x _ _ _ HK10.out HK10.out HX11.out.is HY11.out.is).mono ?_
                    rintro e V12 ⟨⟨r12, rfl, hr12⟩, hb12⟩
                    obtain rfl : r12 = true := hr12.2 rfl
                    have HW12 := Lib.hid (HW11.out.trans (hb12.mono HW11.out.size))
                    clear hb12 hr12
                    go_wp2_with fail
                    refine (alive_any _).mono ?_
                    rintro e wz ⟨rfl, hbz⟩
                    go_wp2_with fail
                    go_ret
                    exact ⟨rfl, HW12.out.trans (hbz.mono HW12.out.size)⟩
                  · obtain ⟨⟨x0, x1, x2⟩, -⟩ := box3 HX11.out.box
                    obtain ⟨⟨y0, y1, y2⟩, -⟩ := box3 HY11.out.box
                    go_wp2_with fail
                    clear x0 x1 x2 y0 y1 y2
                    refine (requal_any x x _ _ _ HK10.out HK10.out HX11.out.is HY11.out.is).mono ?_
                    rintro e V12 ⟨⟨r12, rfl, hr12⟩, hb12⟩
                    obtain rfl : r12 = true := hr12.2 rfl
                    have HW12 := Lib.hid (HW11.out.trans (hb12.mono HW11.out.size))
                    clear hb12 hr12
                    go_wp2_with fail
                    refine (alive_any _).mono ?_
                    rintro e wz ⟨rfl, hbz⟩
                    go_wp2_with fail
                    go_ret
                    exact ⟨rfl, HW12.out.trans (hbz.mono HW12.out.size)⟩
                · have hne9 : (c9 != 0) = true := by rw [bne_iff_ne]; exact hn9
                  clear hn9
                  go_wp2_with fail
                  refine (alive_any _).mono ?_
                  rintro e wz ⟨rfl, hbz⟩
                  go_wp2_with fail
                  go_ret
                  exact ⟨rfl, HW9.out.trans (hbz.mono HW9.out.size)⟩
              · have hne8 : (c8 != 0) = true := by rw [bne_iff_ne]; exact hn8
                clear hn8
                subst hn7
                go_wp2_with fail
                refine (alive_any _).mono ?_
                rintro e wz ⟨rfl, hbz⟩
                go_wp2_with fail
                go_ret
                exact ⟨rfl, HW8.out.trans (hbz.mono HW8.out.size)⟩
            · have hne7 : (c7 != 0) = true := by rw [bne_iff_ne]; exact hn7
              clear hn7
              go_wp2_with fail
              refine (alive_any _).mono ?_
              rintro e wz ⟨rfl, hbz⟩
              go_wp2_with fail
              go_ret
              exact ⟨rfl, HW8.out.trans (hbz.mono HW8.out.size)⟩
          · have hne5 : (c5 == 0) = false := by rw [beq_eq_false_iff_ne]; exact hn5
            clear hn5
            subst hn3
            subst hn4
            have HQ6 := HQ5; have HT6 := HT5; have HSU6 := HSU5; have HUW6 := HUW5; have HW6 := HW5
            obtain ⟨⟨a0, a1, a2⟩, -⟩ := box3 HQ6.out.box
            go_wp2_with fail
            clear a0 a1 a2
            refine (compose_law su q2 _ _ _ HSU6.out HQ6.out.h2 HBSU.out HB2.out).mono ?_
            rintro e V7 ⟨⟨c7, sl7, rfl, hc7⟩, hb7⟩
            have HQ7 := Lib.hid (HQ6.out.carry hb7); have HT7 := Lib.hid (HT6.out.carry hb7); have HSU7 := Lib.hid (HSU6.out.carry hb7); have HUW7 := Lib.hid (HUW6.out.carry hb7); have HW7 := Lib.hid (HW6.out.trans (hb7.mono HW6.out.size))
            have HC7 := Lib.hid hc7
            have HV7 := Lib.hid hb7
            clear hb7 hc7
            obtain ⟨⟨a0, a1, a2⟩, -⟩ := box3 HQ7.out.box
            go_wp2_with fail
            clear a0 a1 a2
            refine (compose_law q0 uw _ _ _ HQ7.out.h0 HUW7.out HB0.out HBUW.out).mono ?_
            rintro e V8 ⟨⟨c8, sl8, rfl, hc8⟩, hb8⟩
            have HQ8 := Lib.hid (HQ7.out.carry hb8); have HT8 := Lib.hid (HT7.out.carry hb8); have HSU8 := Lib.hid (HSU7.out.carry hb8); have HUW8 := Lib.hid (HUW7.out.carry hb8); have HW8 := Lib.hid (HW7.out.trans (hb8.mono HW7.out.size))
            have HC8 := Lib.hid hc8
            have HV8 := Lib.hid hb8
            clear hb8 hc8
            by_cases hn7 : c7 = 0
            · by_cases hn8 : c8 = 0
              · subst hn7
                subst hn8
                obtain ⟨hone0, hone1, one, hone, honeok, honel, honea⟩ : SubOk su ∧ SubOk q2 ∧ ∃ ys, BBx V7 ys sl7 ∧ SubOk ys ∧ ys.length ≤ su.length + q2.length ∧ ∀ t, apB ys t = apB q2 (apB su t) := by
                  rcases HC7.out with ⟨_, h⟩ | ⟨h, _⟩
                  · exact h
                  · exact absurd rfl h
                have hf := hone
                obtain ⟨o7, k7, rfl, -, -⟩ := hf
                have HONE8 := Lib.hid (hone.carry HV8.out)
                have HOs := Lib.hid hone0; have HO2b := Lib.hid hone1
                have HOKONE := Lib.hid honeok
                have HAONE := Lib.hid honea
                have HLONE := Lib.hid honel
                have HBONE : Hid (bdBulk one ≤ 1048576) := Lib.hid (honeok.bulk (by have := HLEN.out; have := HLSU.out; omega))
                clear hone hone0 hone1 honeok honel honea HC7
                obtain ⟨htwo0, htwo1, two, htwo, htwook, htwol, htwoa⟩ : SubOk q0 ∧ SubOk uw ∧ ∃ ys, BBx V8 ys sl8 ∧ SubOk ys ∧ ys.length ≤ q0.length + uw.length ∧ ∀ t, apB ys t = apB uw (apB q0 t) := by
                  rcases HC8.out with ⟨_, h⟩ | ⟨h, _⟩
                  · exact h
                  · exact absurd rfl h
                have hf := htwo
                obtain ⟨o8, k8, rfl, -, -⟩ := hf
                have HTWO8 := Lib.hid (htwo)
                have HO0b := Lib.hid htwo0; have HOu := Lib.hid htwo1
                have HOKTWO := Lib.hid htwook
                have HATWO := Lib.hid htwoa
                have HLTWO := Lib.hid htwol
                have HBTWO : Hid (bdBulk two ≤ 1048576) := Lib.hid (htwook.bulk (by have := HLEN.out; have := HLUW.out; omega))
                clear htwo htwo0 htwo1 htwook htwol htwoa HC8
                obtain ⟨⟨b0, b1, b2⟩, -⟩ := box3 HT8.out.box
                go_wp2_with fail
                clear b0 b1 b2
                refine (HRC.out t _ _ HT8.out.is HBT.out).mono ?_
                rintro e V9 ⟨⟨c9, rfl, hc9⟩, hb9⟩
                have HQ9 := Lib.hid (HQ8.out.carry hb9); have HT9 := Lib.hid (HT8.out.carry hb9); have HSU9 := Lib.hid (HSU8.out.carry hb9); have HUW9 := Lib.hid (HUW8.out.carry hb9); have HONE9 := Lib.hid (HONE8.out.carry hb9); have HTWO9 := Lib.hid (HTWO8.out.carry hb9); have HW9 := Lib.hid (HW8.out.trans (hb9.mono HW8.out.size))
                have HC9 := Lib.hid hc9
                clear hb9 hc9
                by_cases hn9 : c9 = 0
                · have HOKT := Lib.hid (HC9.out hn9)
                  subst hn9
                  clear HC9
                  obtain ⟨⟨b0, b1, b2⟩, -⟩ := box3 HT9.out.box
                  go_wp2_with fail
                  clear b0 b1 b2
                  refine (tapply_any one _ t _ _ HONE9.out HBONE.out HT9.out.is HBT.out).mono ?_
                  rintro e V10 ⟨x, c10, ⟨⟨s10, rfl, h10⟩, hb10⟩, hc10⟩
                  obtain ⟨o10, k10, rfl, -⟩ := h10.form
                  dsimp only [tmv]
                  have hbn := hb10.alloc hb10.size (.cells #[.string x.nm, .bool x.vr, .slice o10 x.ts.length k10] 24)
                  have HQ10 := Lib.hid (HQ9.out.carry hbn); have HT10 := Lib.hid (HT9.out.carry hbn); have HSU10 := Lib.hid (HSU9.out.carry hbn); have HUW10 := Lib.hid (HUW9.out.carry hbn); have HONE10 := Lib.hid (HONE9.out.carry hbn); have HTWO10 := Lib.hid (HTWO9.out.carry hbn); have HW10 := Lib.hid (HW9.out.trans (hbn.mono HW9.out.size))
                  have HX10 := Lib.hid (TBx.new h10)
                  have HC10 := Lib.hid hc10
                  have HK10 := Lib.hid (apply_bulk hc10)
                  clear hb10 hbn h10 hc10
                  obtain ⟨⟨b0, b1, b2⟩, -⟩ := box3 HT10.out.box
                  go_wp2_with fail
                  clear b0 b1 b2
                  refine (tapply_any two _ t _ _ HTWO10.out HBTWO.out HT10.out.is HBT.out).mono ?_
                  rintro e V11 ⟨y, c11, ⟨⟨s11, rfl, h11⟩, hb11⟩, hc11⟩
                  obtain ⟨o11, k11, rfl, -⟩ := h11.form
                  dsimp only [tmv]
                  have hbn := hb11.alloc hb11.size (.cells #[.string y.nm, .bool y.vr, .slice o11 y.ts.length k11] 24)
                  have HQ11 := Lib.hid (HQ10.out.carry hbn); have HT11 := Lib.hid (HT10.out.carry hbn); have HSU11 := Lib.hid (HSU10.out.carry hbn); have HUW11 := Lib.hid (HUW10.out.carry hbn); have HONE11 := Lib.hid (HONE10.out.carry hbn); have HTWO11 := Lib.hid (HTWO10.out.carry hbn); have HX11 := Lib.hid (HX10.out.carry hbn); have HW11 := Lib.hid (HW10.out.trans (hbn.mono HW10.out.size))
                  have HY11 := Lib.hid (TBx.new h11)
                  have HC11 := Lib.hid hc11
                  have HK11 := Lib.hid (apply_bulk hc11)
                  clear hb11 hbn h11 hc11
                  have hal := ways_alike HC10.out HC11.out HOKT.out HOKONE.out HOKTWO.out (by rw [HAONE.out, HASU.out, HATWO.out, HAUW.out])
                  clear HC10 HC11
                  rcases hal with ⟨rfl, rfl, rfl⟩ | ⟨rfl, rfl, rfl⟩
                  · obtain ⟨⟨x0, x1, x2⟩, -⟩ := box3 HX11.out.box
                    obtain ⟨⟨y0, y1, y2⟩, -⟩ := box3 HY11.out.box
                    go_wp2_with fail
                    clear x0 x1 x2 y0 y1 y2
                    refine (requal_any x x _ _ _ HK10.out HK10.out HX11.out.is HY11.out.is).mono ?_
                    rintro e V12 ⟨⟨r12, rfl, hr12⟩, hb12⟩
                    obtain rfl : r12 = true := hr12.2 rfl
                    have HW12 := Lib.hid (HW11.out.trans (hb12.mono HW11.out.size))
                    clear hb12 hr12
                    go_wp2_with fail
                    refine (alive_any _).mono ?_
                    rintro e wz ⟨rfl, hbz⟩
                    go_wp2_with fail
                    go_ret
                    exact ⟨rfl, HW12.out.trans (hbz.mono HW12.out.size)⟩
                  · obtain ⟨⟨x0, x1, x2⟩, -⟩ := box3 HX11.out.box
                    obtain ⟨⟨y0, y1, y2⟩, -⟩ := box3 HY11.out.box
                    go_wp2_with fail
                    clear x0 x1 x2 y0 y1 y2
                    refine (requal_any x x _ _ _ HK10.out HK10.out HX11.out.is HY11.out.is).mono ?_
                    rintro e V12 ⟨⟨r12, rfl, hr12⟩, hb12⟩
                    obtain rfl : r12 = true := hr12.2 rfl
                    have HW12 := Lib.hid (HW11.out.trans (hb12.mono HW11.out.size))
                    clear hb12 hr12
                    go_wp2_with fail
                    refine (alive_any _).mono ?_
                    rintro e wz ⟨rfl, hbz⟩
                    go_wp2_with fail
                    go_ret
                    exact ⟨rfl, HW12.out.trans (hbz.mono HW12.out.size)⟩
                · have hne9 : (c9 != 0) = true := by rw [bne_iff_ne]; exact hn9
                  clear hn9
                  go_wp2_with fail
                  refine (alive_any _).mono ?_
                  rintro e wz ⟨rfl, hbz⟩
                  go_wp2_with fail
                  go_ret
                  exact ⟨rfl, HW9.out.trans (hbz.mono HW9.out.size)⟩
              · have hne8 : (c8 != 0) = true := by rw [bne_iff_ne]; exact hn8
                clear hn8
                subst hn7
                go_wp2_with fail
                refine (alive_any _).mono ?_
                rintro e wz ⟨rfl, hbz⟩
                go_wp2_with fail
                go_ret
                exact ⟨rfl, HW8.out.trans (hbz.mono HW8.out.size)⟩
            · have hne7 : (c7 != 0) = true := by rw [bne_iff_ne]; exact hn7
              clear hn7
              go_wp2_with fail
              refine (alive_any _).mono ?_
              rintro e wz ⟨rfl, hbz⟩
              go_wp2_with fail
              go_ret
              exact ⟨rfl, HW8.out.trans (hbz.mono HW8.out.size)⟩
        · have hne4 : (c4 == 0) = false := by rw [beq_eq_false_iff_ne]; exact hn4
          clear hn4
          subst hn3
          have HQ6 := HQ5; have HT6 := HT5; have HSU6 := HSU5; have HUW6 := HUW5; have HW6 := HW5
          obtain ⟨⟨a0, a1, a2⟩, -⟩ := box3 HQ6.out.box
          go_wp2_with fail
          clear a0 a1 a2
          refine (compose_law su q2 _ _ _ HSU6.out HQ6.out.h2 HBSU.out HB2.out).mono ?_
          rintro e V7 ⟨⟨c7, sl7, rfl, hc7⟩, hb7⟩
          have HQ7 := Lib.hid (HQ6.out.carry hb7); have HT7 := Lib.hid (HT6.out.carry hb7); have HSU7 := Lib.hid (HSU6.out.carry hb7); have HUW7 := Lib.hid (HUW6.out.carry hb7); have HW7 := Lib.hid (HW6.out.trans (hb7.mono HW6.out.size))
          have HC7 := Lib.hid hc7
          have HV7 := Lib.hid hb7
          clear hb7 hc7
          obtain ⟨⟨a0, a1, a2⟩, -⟩ := box3 HQ7.out.box
          go_wp2_with fail
          clear a0 a1 a2
          refine (compose_law q0 uw _ _ _ HQ7.out.h0 HUW7.out HB0.out HBUW.out).mono ?_
          rintro e V8 ⟨⟨c8, sl8, rfl, hc8⟩, hb8⟩
          have HQ8 := Lib.hid (HQ7.out.carry hb8); have HT8 := Lib.hid (HT7.out.carry hb8); have HSU8 := Lib.hid (HSU7.out.carry hb8); have HUW8 := Lib.hid (HUW7.out.carry hb8); have HW8 := Lib.hid (HW7.out.trans (hb8.mono HW7.out.size))
          have HC8 := Lib.hid hc8
          have HV8 := Lib.hid hb8
          clear hb8 hc8
          by_cases hn7 : c7 = 0
          · by_cases hn8 : c8 = 0
            · subst hn7
              subst hn8
              obtain ⟨hone0, hone1, one, hone, honeok, honel, honea⟩ : SubOk su ∧ SubOk q2 ∧ ∃ ys, BBx V7 ys sl7 ∧ SubOk ys ∧ ys.length ≤ su.length + q2.length ∧ ∀ t, apB ys t = apB q2 (apB su t) := by
                rcases HC7.out with ⟨_, h⟩ | ⟨h, _⟩
                · exact h
                · exact absurd rfl h
              have hf := hone
              obtain ⟨o7, k7, rfl, -, -⟩ := hf
              have HONE8 := Lib.hid (hone.carry HV8.out)
              have HOs := Lib.hid hone0; have HO2b := Lib.hid hone1
              have HOKONE := Lib.hid honeok
              have HAONE := Lib.hid honea
              have HLONE := Lib.hid honel
              have HBONE : Hid (bdBulk one ≤ 1048576) := Lib.hid (honeok.bulk (by have := HLEN.out; have := HLSU.out; omega))
              clear hone hone0 hone1 honeok honel honea HC7
              obtain ⟨htwo0, htwo1, two, htwo, htwook, htwol, htwoa⟩ : SubOk q0 ∧ SubOk uw ∧ ∃ ys, BBx V8 ys sl8 ∧ SubOk ys ∧ ys.length ≤ q0.length + uw.length ∧ ∀ t, apB ys t = apB uw (apB q0 t) := by
                rcases HC8.out with ⟨_, h⟩ | ⟨h, _⟩
                · exact h
                · exact absurd rfl h
              have hf := htwo
              obtain ⟨o8, k8, rfl, -, -⟩ := hf
              have HTWO8 := Lib.hid (htwo)
              have HO0b := Lib.hid htwo0; have HOu := Lib.hid htwo1
              have HOKTWO := Lib.hid htwook
              have HATWO := Lib.hid htwoa
              have HLTWO := Lib.hid htwol
              have HBTWO : Hid (bdBulk two ≤ 1048576) := Lib.hid (htwook.bulk (by have := HLEN.out; have := HLUW.out; omega))
              clear htwo htwo0 htwo1 htwook htwol htwoa HC8
              obtain ⟨⟨b0, b1, b2⟩, -⟩ := box3 HT8.out.box
              go_wp2_with fail
              clear b0 b1 b2
              refine (HRC.out t _ _ HT8.out.is HBT.out).mono ?_
              rintro e V9 ⟨⟨c9, rfl, hc9⟩, hb9⟩
              have HQ9 := Lib.hid (HQ8.out.carry hb9); have HT9 := Lib.hid (HT8.out.carry hb9); have HSU9 := Lib.hid (HSU8.out.carry hb9); have HUW9 := Lib.hid (HUW8.out.carry hb9); have HONE9 := Lib.hid (HONE8.out.carry hb9); have HTWO9 := Lib.hid (HTWO8.out.carry hb9); have HW9 := Lib.hid (HW8.out.trans (hb9.mono HW8.out.size))
              have HC9 := Lib.hid hc9
              clear hb9 hc9
              by_cases hn9 : c9 = 0
              · have HOKT := Lib.hid (HC9.out hn9)
                subst hn9
                clear HC9
                obtain ⟨⟨b0, b1, b2⟩, -⟩ := box3 HT9.out.box
                go_wp2_with fail
                clear b0 b1 b2
                refine (tapply_any one _ t _ _ HONE9.out HBONE.out HT9.out.is HBT.out).mono ?_
                rintro e V10 ⟨x, c10, ⟨⟨s10, rfl, h10⟩, hb10⟩, hc10⟩
                obtain ⟨o10, k10, rfl, -⟩ := h10.form
                dsimp only [tmv]
                have hbn := hb10.alloc hb10.size (.cells #[.string x.nm, .bool x.vr, .slice o10 x.ts.length k10] 24)
                have HQ10 := Lib.hid (HQ9.out.carry hbn); have HT10 := Lib.hid (HT9.out.carry hbn); have HSU10 := Lib.hid (HSU9.out.carry hbn); have HUW10 := Lib.hid (HUW9.out.carry hbn); have HONE10 := Lib.hid (HONE9.out.carry hbn); have HTWO10 := Lib.hid (HTWO9.out.carry hbn); have HW10 := Lib.hid (HW9.out.trans (hbn.mono HW9.out.size))
                have HX10 := Lib.hid (TBx.new h10)
                have HC10 := Lib.hid hc10
                have HK10 := Lib.hid (apply_bulk hc10)
                clear hb10 hbn h10 hc10
                obtain ⟨⟨b0, b1, b2⟩, -⟩ := box3 HT10.out.box
                go_wp2_with fail
                clear b0 b1 b2
                refine (tapply_any two _ t _ _ HTWO10.out HBTWO.out HT10.out.is HBT.out).mono ?_
                rintro e V11 ⟨y, c11, ⟨⟨s11, rfl, h11⟩, hb11⟩, hc11⟩
                obtain ⟨o11, k11, rfl, -⟩ := h11.form
                dsimp only [tmv]
                have hbn := hb11.alloc hb11.size (.cells #[.string y.nm, .bool y.vr, .slice o11 y.ts.length k11] 24)
                have HQ11 := Lib.hid (HQ10.out.carry hbn); have HT11 := Lib.hid (HT10.out.carry hbn); have HSU11 := Lib.hid (HSU10.out.carry hbn); have HUW11 := Lib.hid (HUW10.out.carry hbn); have HONE11 := Lib.hid (HONE10.out.carry hbn); have HTWO11 := Lib.hid (HTWO10.out.carry hbn); have HX11 := Lib.hid (HX10.out.carry hbn); have HW11 := Lib.hid (HW10.out.trans (hbn.mono HW10.out.size))
                have HY11 := Lib.hid (TBx.new h11)
                have HC11 := Lib.hid hc11
                have HK11 := Lib.hid (apply_bulk hc11)
                clear hb11 hbn h11 hc11
                have hal := ways_alike HC10.out HC11.out HOKT.out HOKONE.out HOKTWO.out (by rw [HAONE.out, HASU.out, HATWO.out, HAUW.out])
                clear HC10 HC11
                rcases hal with ⟨rfl, rfl, rfl⟩ | ⟨rfl, rfl, rfl⟩
                · obtain ⟨⟨x0, x1, x2⟩, -⟩ := box3 HX11.out.box
                  obtain ⟨⟨y0, y1, y2⟩, -⟩ := box3 HY11.out.box
                  go_wp2_with fail
                  clear x0 x1 x2 y0 y1 y2
                  refine (requal_any x x _ _ _ HK10.out HK10.out HX11.out.is HY11.out.is).mono ?_
                  rintro e V12 ⟨⟨r12, rfl, hr12⟩, hb12⟩
                  obtain rfl : r12 = true := hr12.2 rfl
                  have HW12 := Lib.hid (HW11.out.trans (hb12.mono HW11.out.size))
                  clear hb12 hr12
                  go_wp2_with fail
                  refine (alive_any _).mono ?_
                  rintro e wz ⟨rfl, hbz⟩
                  go_wp2_with fail
                  go_ret
                  exact ⟨rfl, HW12.out.trans (hbz.mono HW12.out.size)⟩
                · obtain ⟨⟨x0, x1, x2⟩, -⟩ := box3 HX11.out.box
                  obtain ⟨⟨y0, y1, y2⟩, -⟩ := box3 HY11.out.box
                  go_wp2_with fail
                  clear x0 x1 x2 y0 y1 y2
                  refine (requal_any x x _ _ _ HK10.out HK10.out HX11.out.is HY11.out.is).mono ?_
                  rintro e V12 ⟨⟨r12, rfl, hr12⟩, hb12⟩
                  obtain rfl : r12 = true := hr12.2 rfl
                  have HW12 := Lib.hid (HW11.out.trans (hb12.mono HW11.out.size))
                  clear hb12 hr12
                  go_wp2_with fail
                  refine (alive_any _).mono ?_
                  rintro e wz ⟨rfl, hbz⟩
                  go_wp2_with fail
                  go_ret
                  exact ⟨rfl, HW12.out.trans (hbz.mono HW12.out.size)⟩
              · have hne9 : (c9 != 0) = true := by rw [bne_iff_ne]; exact hn9
                clear hn9
                go_wp2_with fail
                refine (alive_any _).mono ?_
                rintro e wz ⟨rfl, hbz⟩
                go_wp2_with fail
                go_ret
                exact ⟨rfl, HW9.out.trans (hbz.mono HW9.out.size)⟩
            · have hne8 : (c8 != 0) = true := by rw [bne_iff_ne]; exact hn8
              clear hn8
              subst hn7
              go_wp2_with fail
              refine (alive_any _).mono ?_
              rintro e wz ⟨rfl, hbz⟩
              go_wp2_with fail
              go_ret
              exact ⟨rfl, HW8.out.trans (hbz.mono HW8.out.size)⟩
          · have hne7 : (c7 != 0) = true := by rw [bne_iff_ne]; exact hn7
            clear hn7
            go_wp2_with fail
            refine (alive_any _).mono ?_
            rintro e wz ⟨rfl, hbz⟩
            go_wp2_with fail
            go_ret
            exact ⟨rfl, HW8.out.trans (hbz.mono HW8.out.size)⟩
      · have hne3 : (c3 == 0) = false := by rw [beq_eq_false_iff_ne]; exact hn3
        clear hn3
        have HQ6 := HQ5; have HT6 := HT5; have HSU6 := HSU5; have HUW6 := HUW5; have HW6 := HW5
        obtain ⟨⟨a0, a1, a2⟩, -⟩ := box3 HQ6.out.box
        go_wp2_with fail
        clear a0 a1 a2
        refine (compose_law su q2 _ _ _ HSU6.out HQ6.out.h2 HBSU.out HB2.out).mono ?_
        rintro e V7 ⟨⟨c7, sl7, rfl, hc7⟩, hb7⟩
        have HQ7 := Lib.hid (HQ6.out.carry hb7); have HT7 := Lib.hid (HT6.out.carry hb7); have HSU7 := Lib.hid (HSU6.out.carry hb7); have HUW7 := Lib.hid (HUW6.out.carry hb7); have HW7 := Lib.hid (HW6.out.trans (hb7.mono HW6.out.size))
        have HC7 := Lib.hid hc7
        have HV7 := Lib.hid hb7
        clear hb7 hc7
        obtain ⟨⟨a0, a1, a2⟩, -⟩ := box3 HQ7.out.box
        go_wp2_with fail
        clear a0 a1 a2
        refine (compose_law q0 uw _ _ _ HQ7.out.h0 HUW7.out HB0.out HBUW.out).mono ?_
        rintro e V8 ⟨⟨c8, sl8, rfl, hc8⟩, hb8⟩
        have HQ8 := Lib.hid (HQ7.out.carry hb8); have HT8 := Lib.hid (HT7.out.carry hb8); have HSU8 := Lib.hid (HSU7.out.carry hb8); have HUW8 := Lib.hid (HUW7.out.carry hb8); have HW8 := Lib.hid (HW7.out.trans (hb8.mono HW7.out.size))
        have HC8 := Lib.hid hc8
        have HV8 := Lib.hid hb8
        clear hb8 hc8
        by_cases hn7 : c7 = 0
        · by_cases hn8 : c8 = 0
          · subst hn7
            subst hn8
            obtain ⟨hone0, hone1, one, hone, honeok, honel, honea⟩ : SubOk su ∧ SubOk q2 ∧ ∃ ys, BBx V7 ys sl7 ∧ SubOk ys ∧ ys.length ≤ su.length + q2.length ∧ ∀ t, apB ys t = apB q2 (apB su t) := by
              rcases HC7.out with ⟨_, h⟩ | ⟨h, _⟩
              · exact h
              · exact absurd rfl h
            have hf := hone
            obtain ⟨o7, k7, rfl, -, -⟩ := hf
            have HONE8 := Lib.hid (hone.carry HV8.out)
            have HOs := Lib.hid hone0; have HO2b := Lib.hid hone1
            have HOKONE := Lib.hid honeok
            have HAONE := Lib.hid honea
            have HLONE := Lib.hid honel
            have HBONE : Hid (bdBulk one ≤ 1048576) := Lib.hid (honeok.bulk (by have := HLEN.out; have := HLSU.out; omega))
            clear hone hone0 hone1 honeok honel honea HC7
            obtain ⟨htwo0, htwo1, two, htwo, htwook, htwol, htwoa⟩ : SubOk q0 ∧ SubOk uw ∧ ∃ ys, BBx V8 ys sl8 ∧ SubOk ys ∧ ys.length ≤ q0.length + uw.length ∧ ∀ t, apB ys t = apB uw (apB q0 t) := by
              rcases HC8.out with ⟨_, h⟩ | ⟨h, _⟩
              · exact h
              · exact absurd rfl h
            have hf := htwo
            obtain ⟨o8, k8, rfl, -, -⟩ := hf
            have HTWO8 := Lib.hid (htwo)
            have HO0b := Lib.hid htwo0; have HOu := Lib.hid htwo1
            have HOKTWO := Lib.hid htwook
            have HATWO := Lib.hid htwoa
            have HLTWO := Lib.hid htwol
            have HBTWO : Hid (bdBulk two ≤ 1048576) := Lib.hid (htwook.bulk (by have := HLEN.out; have := HLUW.out; omega))
            clear htwo htwo0 htwo1 htwook htwol htwoa HC8
            obtain ⟨⟨b0, b1, b2⟩, -⟩ := box3 HT8.out.box
            go_wp2_with fail
            clear b0 b1 b2
            refine (HRC.out t _ _ HT8.out.is HBT.out).mono ?_
            rintro e V9 ⟨⟨c9, rfl, hc9⟩, hb9⟩
            have HQ9 := Lib.hid (HQ8.out.carry hb9); have HT9 := Lib.hid (HT8.out.carry hb9); have HSU9 := Lib.hid (HSU8.out.carry hb9); have HUW9 := Lib.hid (HUW8.out.carry hb9); have HONE9 := Lib.hid (HONE8.out.carry hb9); have HTWO9 := Lib.hid (HTWO8.out.carry hb9); have HW9 := Lib.hid (HW8.out.trans (hb9.mono HW8.out.size))
            have HC9 := Lib.hid hc9
            clear hb9 hc9
            by_cases hn9 : c9 = 0
            · have HOKT := Lib.hid (HC9.out hn9)
              subst hn9
              clear HC9
              obtain ⟨⟨b0, b1, b2⟩, -⟩ := box3 HT9.out.box
              go_wp2_with fail
              clear b0 b1 b2
              refine (tapply_any one _ t _ _ HONE9.out HBONE.out HT9.out.is HBT.out).mono ?_
              rintro e V10 ⟨x, c10, ⟨⟨s10, rfl, h10⟩, hb10⟩, hc10⟩
              obtain ⟨o10, k10, rfl, -⟩ := h10.form
              dsimp only [tmv]
              have hbn := hb10.alloc hb10.size (.cells #[.string x.nm, .bool x.vr, .slice o10 x.ts.length k10] 24)
              have HQ10 := Lib.hid (HQ9.out.carry hbn); have HT10 := Lib.hid (HT9.out.carry hbn); have HSU10 := Lib.hid (HSU9.out.carry hbn); have HUW10 := Lib.hid (HUW9.out.carry hbn); have HONE10 := Lib.hid (HONE9.out.carry hbn); have HTWO10 := Lib.hid (HTWO9.out.carry hbn); have HW10 := Lib.hid (HW9.out.trans (hbn.mono HW9.out.size))
              have HX10 := Lib.hid (TBx.new h10)
              have HC10 := Lib.hid hc10
              have HK10 := Lib.hid (apply_bulk hc10)
              clear hb10 hbn h10 hc10
              obtain ⟨⟨b0, b1, b2⟩, -⟩ := box3 HT10.out.box
              go_wp2_with fail
              clear b0 b1 b2
              refine (tapply_any two _ t _ _ HTWO10.out HBTWO.out HT10.out.is HBT.out).mono ?_
              rintro e V11 ⟨y, c11, ⟨⟨s11, rfl, h11⟩, hb11⟩, hc11⟩
              obtain ⟨o11, k11, rfl, -⟩ := h11.form
              dsimp only [tmv]
              have hbn := hb11.alloc hb11.size (.cells #[.string y.nm, .bool y.vr, .slice o11 y.ts.length k11] 24)
              have HQ11 := Lib.hid (HQ10.out.carry hbn); have HT11 := Lib.hid (HT10.out.carry hbn); have HSU11 := Lib.hid (HSU10.out.carry hbn); have HUW11 := Lib.hid (HUW10.out.carry hbn); have HONE11 := Lib.hid (HONE10.out.carry hbn); have HTWO11 := Lib.hid (HTWO10.out.carry hbn); have HX11 := Lib.hid (HX10.out.carry hbn); have HW11 := Lib.hid (HW10.out.trans (hbn.mono HW10.out.size))
              have HY11 := Lib.hid (TBx.new h11)
              have HC11 := Lib.hid hc11
              have HK11 := Lib.hid (apply_bulk hc11)
              clear hb11 hbn h11 hc11
              have hal := ways_alike HC10.out HC11.out HOKT.out HOKONE.out HOKTWO.out (by rw [HAONE.out, HASU.out, HATWO.out, HAUW.out])
              clear HC10 HC11
              rcases hal with ⟨rfl, rfl, rfl⟩ | ⟨rfl, rfl, rfl⟩
              · obtain ⟨⟨x0, x1, x2⟩, -⟩ := box3 HX11.out.box
                obtain ⟨⟨y0, y1, y2⟩, -⟩ := box3 HY11.out.box
                go_wp2_with fail
                clear x0 x1 x2 y0 y1 y2
                refine (requal_any x x _ _ _ HK10.out HK10.out HX11.out.is HY11.out.is).mono ?_
                rintro e V12 ⟨⟨r12, rfl, hr12⟩, hb12⟩
                obtain rfl : r12 = true := hr12.2 rfl
                have HW12 := Lib.hid (HW11.out.trans (hb12.mono HW11.out.size))
                clear hb12 hr12
                go_wp2_with fail
                refine (alive_any _).mono ?_
                rintro e wz ⟨rfl, hbz⟩
                go_wp2_with fail
                go_ret
                exact ⟨rfl, HW12.out.trans (hbz.mono HW12.out.size)⟩
              · obtain ⟨⟨x0, x1, x2⟩, -⟩ := box3 HX11.out.box
                obtain ⟨⟨y0, y1, y2⟩, -⟩ := box3 HY11.out.box
                go_wp2_with fail
                clear x0 x1 x2 y0 y1 y2
                refine (requal_any x x _ _ _ HK10.out HK10.out HX11.out.is HY11.out.is).mono ?_
                rintro e V12 ⟨⟨r12, rfl, hr12⟩, hb12⟩
                obtain rfl : r12 = true := hr12.2 rfl
                have HW12 := Lib.hid (HW11.out.trans (hb12.mono HW11.out.size))
                clear hb12 hr12
                go_wp2_with fail
                refine (alive_any _).mono ?_
                rintro e wz ⟨rfl, hbz⟩
                go_wp2_with fail
                go_ret
                exact ⟨rfl, HW12.out.trans (hbz.mono HW12.out.size)⟩
            · have hne9 : (c9 != 0) = true := by rw [bne_iff_ne]; exact hn9
              clear hn9
              go_wp2_with fail
              refine (alive_any _).mono ?_
              rintro e wz ⟨rfl, hbz⟩
              go_wp2_with fail
              go_ret
              exact ⟨rfl, HW9.out.trans (hbz.mono HW9.out.size)⟩
          · have hne8 : (c8 != 0) = true := by rw [bne_iff_ne]; exact hn8
            clear hn8
            subst hn7
            go_wp2_with fail
            refine (alive_any _).mono ?_
            rintro e wz ⟨rfl, hbz⟩
            go_wp2_with fail
            go_ret
            exact ⟨rfl, HW8.out.trans (hbz.mono HW8.out.size)⟩
        · have hne7 : (c7 != 0) = true := by rw [bne_iff_ne]; exact hn7
          clear hn7
          go_wp2_with fail
          refine (alive_any _).mono ?_
          rintro e wz ⟨rfl, hbz⟩
          go_wp2_with fail
          go_ret
          exact ⟨rfl, HW8.out.trans (hbz.mono HW8.out.size)⟩
    · have hne2 : (c2 != 0) = true := by rw [bne_iff_ne]; exact hn2
      clear hn2
      subst hn1
      go_wp2_with fail
      refine (alive_any _).mono ?_
      rintro e wz ⟨rfl, hbz⟩
      go_wp2_with fail
      go_ret
      exact ⟨rfl, HW2.out.trans (hbz.mono HW2.out.size)⟩
  · have hne1 : (c1 != 0) = true := by rw [bne_iff_ne]; exact hn1
    clear hn1
    go_wp2_with fail
    refine (alive_any _).mono ?_
    rintro e wz ⟨rfl, hbz⟩
    go_wp2_with fail
    go_ret
    exact ⟨rfl, HW2.out.trans (hbz.mono HW2.out.size)⟩
end Go.Proofs.YtdeaehkdhghfkaaDoor
