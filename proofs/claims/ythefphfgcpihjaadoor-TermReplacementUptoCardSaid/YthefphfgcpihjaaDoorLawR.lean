/- The law on replacement: the walk. -/
import Derived.WalkKit
import Derived.ProofKit
import Derived.OpenShut
import Derived.Handy
import Derived.Lib.Hide
import Derived.BigQuiet
import Derived.Test.YthefphfgcpihjaaDoorPure
import Derived.Test.YthefphfgcpihjaaDoorAlive
namespace Go.Proofs.YthefphfgcpihjaaDoor
open Go.RowKit

/-- a term in a box -/
structure TBox (W : World) (b : Nat) (t : Tm) (s : Value) : Prop where
  box : W.heap[b]? = some (.cells #[.string t.nm, .bool t.vr, s] 24 (0, 0))
  is : SlIs W.heap.size W t.ts s
theorem TBox.carry {A W : World} {b : Nat} {t : Tm} {s : Value} (h : TBox A b t s) (hb : Below A.heap.size A W) : TBox W b t s :=
  ⟨(hb.block b (Array.getElem?_eq_some_iff.1 h.box).1).trans h.box, h.is.carry hb hb.size⟩
theorem TBox.new {A : World} {t : Tm} {s : Value} (h : SlIs A.heap.size A t.ts s) : TBox (A.alloc (.cells #[.string t.nm, .bool t.vr, s] 24)) A.heap.size t s :=
  ⟨heap_new_at _ _ _ rfl, h.carry ((Below.refl _ A).alloc (Nat.le_refl _) _) (by simp)⟩
/-- what the law was given -/
structure RM (Bt Bu : Nat) (t u v : Tm) (p q : List Int) (st su sv pv qv : Value) (W : World) : Prop where
  tb : TBox W Bt t st
  ub : W.heap[Bu]? = some (.cells #[.string u.nm, .bool u.vr, su, .string v.nm, .bool v.vr, sv] 83 (0, 0))
  iu : SlIs W.heap.size W u.ts su
  iv : SlIs W.heap.size W v.ts sv
  pp : PosIs W.heap.size W p pv
  qq : PosIs W.heap.size W q qv
theorem RM.carry {Bt Bu : Nat} {t u v : Tm} {p q : List Int} {st su sv pv qv : Value} {A W : World} (h : RM Bt Bu t u v p q st su sv pv qv A) (hb : Below A.heap.size A W) : RM Bt Bu t u v p q st su sv pv qv W :=
  ⟨h.tb.carry hb, (hb.block Bu (Array.getElem?_eq_some_iff.1 h.ub).1).trans h.ub, h.iu.carry hb hb.size, h.iv.carry hb hb.size, h.pp.carry hb hb.size, h.qq.carry hb hb.size⟩

theorem six {W : World} {b : Nat} {a0 a1 a2 a3 a4 a5 : Value} {e : TypeId} (h : W.heap[b]? = some (.cells #[a0, a1, a2, a3, a4, a5] e (0, 0))) :
    W.cell? ⟨b, 0, none⟩ = some a0 ∧ W.cell? ⟨b, 1, none⟩ = some a1 ∧ W.cell? ⟨b, 2, none⟩ = some a2 ∧ W.cell? ⟨b, 3, none⟩ = some a3 ∧ W.cell? ⟨b, 4, none⟩ = some a4 ∧ W.cell? ⟨b, 5, none⟩ = some a5 :=
  ⟨cells_of' h 0, cells_of' h 1, cells_of' h 2, cells_of' h 3, cells_of' h 4, cells_of' h 5⟩

set_option maxRecDepth 100000 in
set_option maxHeartbeats 4000000 in
theorem replacement_any (t u v : Tm) (p q : List Int) (st su sv pv qv : Value) (w : World) (ht : SlIs w.heap.size w t.ts st) (hu : SlIs w.heap.size w u.ts su) (hv : SlIs w.heap.size w v.ts sv) (hp : PosIs w.heap.size w p pv) (hq : PosIs w.heap.size w q qv)
    (hpl : p.length ≤ 1048576) (hql : q.length ≤ 1048576) (hb : t.bulk + u.bulk + v.bulk ≤ 1048576) :
    Calls Tryd.prog 8 #[tmv t st, .agg #[pv, qv], .agg #[.string u.nm, .bool u.vr, su, .string v.nm, .bool v.vr, sv]] w fun e w' => e = .returned (.bool true) ∧ Below w.heap.size w w' := by
  obtain ⟨oa, ca, rfl, -⟩ := ht.form
  obtain ⟨ob, cb, rfl, -⟩ := hu.form
  obtain ⟨oc, cc, rfl, -⟩ := hv.form
  obtain ⟨od, cd, rfl, -⟩ := hp.form
  obtain ⟨oe, ce, rfl, -⟩ := hq.form
  have HB := Lib.hid hb
  clear hb
  go_enter Tryd.func8, Tryd.ntmps8
  rw [show tmv t (.slice oa t.ts.length ca) = .agg #[.string t.nm, .bool t.vr, .slice oa t.ts.length ca] from rfl]
  go_wp2_with fail
  have hb0 : Below w.heap.size w (((w.alloc (.cells #[.string t.nm, .bool t.vr, .slice oa t.ts.length ca] 24)).alloc (.cells #[.slice od p.length cd, .slice oe q.length ce] 82)).alloc (.cells #[.string u.nm, .bool u.vr, .slice ob u.ts.length cb, .string v.nm, .bool v.vr, .slice oc v.ts.length cc] 83)) := by go_grown
  have hr0 : RM w.heap.size (w.heap.size + 1 + 1) t u v p q (.slice oa t.ts.length ca) (.slice ob u.ts.length cb) (.slice oc v.ts.length cc) (.slice od p.length cd) (.slice oe q.length ce) (((w.alloc (.cells #[.string t.nm, .bool t.vr, .slice oa t.ts.length ca] 24)).alloc (.cells #[.slice od p.length cd, .slice oe q.length ce] 82)).alloc (.cells #[.string u.nm, .bool u.vr, .slice ob u.ts.length cb, .string v.nm, .bool v.vr, .slice oc v.ts.length cc] 83)) :=
    ⟨⟨(Below.heap_alloc _ _ _ (by simp; omega)).trans ((Below.heap_alloc _ _ _ (by simp)).trans (heap_new_at _ _ _ rfl)), ht.carry hb0 hb0.size⟩, heap_new_at _ _ _ (by simp), hu.carry hb0 hb0.size, hv.carry hb0 hb0.size, hp.carry hb0 hb0.size, hq.carry hb0 hb0.size⟩
  have HR := Lib.hid hr0
  have HW := Lib.hid hb0
  clear hr0 hb0 ht hu hv hp hq
  go_quiet (fail)
  have HR0 := Lib.hid (HR.out.carry (below_drewN nq (Below.refl _ _)))
  have HW0 := Lib.hid (below_drewN nq HW.out)
  clear HR HW
  generalize World.drewN _ nq = W0 at HR0 HW0 ⊢
  obtain ⟨⟨t0, t1, t2⟩, -⟩ := box3 HR0.out.tb.box
  go_wp2_with fail
  refine (at_any t _ p _ _ HR0.out.tb.is HR0.out.pp hpl (by have := HB.out; omega)).mono ?_
  rintro e W1 ⟨r9, c9, ⟨⟨sl9, rfl, hsl⟩, hbk⟩, hcase9⟩
  have HC9 := Lib.hid hcase9
  clear hcase9
  obtain ⟨o9, k9, rfl, -⟩ := hsl.form
  dsimp only [tmv]
  have hbn := hbk.alloc hbk.size (.cells #[.string (r9).nm, .bool (r9).vr, .slice o9 (r9).ts.length k9] 24)
  have hxn := TBox.new hsl
  have HR1 := Lib.hid (HR0.out.carry hbn)
  have HW1 := Lib.hid (HW0.out.trans (hbn.mono HW0.out.size))
  have HX9_1 := Lib.hid hxn
  clear hsl hbk hxn hbn HR0 HW0
  clear t0 t1 t2
  obtain ⟨⟨t0, t1, t2⟩, -⟩ := box3 HR1.out.tb.box
  obtain ⟨⟨x90, x91, x92⟩, -⟩ := box3 HX9_1.out.box
  go_wp2_with fail
  · refine (alive_any _).mono ?_
    rintro e wz ⟨rfl, hbz⟩
    go_wp2_with fail
    go_ret
    exact ⟨rfl, HW1.out.trans (hbz.mono HW1.out.size)⟩
  · have hc9 : c9 = 0 := by simpa using (show (c9 != 0) = false by assumption)
    subst hc9
    obtain ⟨hok, hat⟩ : t.ok ∧ t.at p = some r9 := by
      rcases HC9.out with ⟨_, h1, h2⟩ | ⟨h, _⟩
      · exact ⟨h1, h2⟩
      · exact absurd rfl h
    have HOK := Lib.hid hok
    have HAT := Lib.hid hat
    have h9b := Tm.at_bulk hat
    have HB9 := Lib.hid h9b
    clear hok hat h9b HC9
    refine (put_any t _ p _ r9 _ _ HR1.out.tb.is HR1.out.pp HX9_1.out.is hpl ⟨(by have := HB.out; omega), (by have := HB.out; have := HB9.out; omega), (by rw [Tm.put_at HAT.out]; have := HB.out; omega)⟩).mono ?_
    rintro e W2 ⟨r11, c11, ⟨⟨sl11, rfl, hsl⟩, hbk⟩, hcase11⟩
    obtain ⟨rfl, hrr⟩ := hcase11.back HOK.out HAT.out
    have hrr := hrr.symm
    subst hrr
    clear hcase11
    obtain ⟨o11, k11, rfl, -⟩ := hsl.form
    dsimp only [tmv]
    have hbn := hbk.alloc hbk.size (.cells #[.string (t).nm, .bool (t).vr, .slice o11 (t).ts.length k11] 24)
    have hxn := TBox.new hsl
    have HR2 := Lib.hid (HR1.out.carry hbn)
    have HW2 := Lib.hid (HW1.out.trans (hbn.mono HW1.out.size))
    have HX9_2 := Lib.hid (HX9_1.out.carry hbn)
    have HX11_2 := Lib.hid hxn
    clear hsl hbk hxn hbn HR1 HW1 HX9_1
    clear t0 t1 t2 x90 x91 x92
    obtain ⟨⟨t0, t1, t2⟩, -⟩ := box3 HR2.out.tb.box
    obtain ⟨⟨x110, x111, x112⟩, -⟩ := box3 HX11_2.out.box
    go_wp2_with fail
    refine (requal_any t t _ _ _ (by have := HB.out; omega) (by have := HB.out; omega) HX11_2.out.is HR2.out.tb.is).mono ?_
    rintro e W3 ⟨⟨x, rfl, hx⟩, hbk⟩
    obtain rfl : x = true := hx.2 rfl
    clear hx
    have HR3 := Lib.hid (HR2.out.carry hbk)
    have HW3 := Lib.hid (HW2.out.trans (hbk.mono HW2.out.size))
    have HX9_3 := Lib.hid (HX9_2.out.carry hbk)
    have HX11_3 := Lib.hid (HX11_2.out.carry hbk)
    clear hbk HR2 HW2 HX9_2 HX11_2
    clear t0 t1 t2 x110 x111 x112
    obtain ⟨⟨t0, t1, t2⟩, -⟩ := box3 HR3.out.tb.box
    obtain ⟨u0, u1, u2, v0, v1, v2⟩ := six HR3.out.ub
    go_wp2_with fail
    refine (put_any t _ p _ u _ _ HR3.out.tb.is HR3.out.pp HR3.out.iu hpl ⟨(by have := HB.out; omega), (by have := HB.out; omega), (by have := Tm.put_bulk t p u; have := HB.out; omega)⟩).mono ?_
    rintro e W4 ⟨r13, c13, ⟨⟨sl13, rfl, hsl⟩, hbk⟩, hcase13⟩
    have HC13 := Lib.hid hcase13
    clear hcase13
    obtain ⟨o13, k13, rfl, -⟩ := hsl.form
    dsimp only [tmv]
    have hbn := hbk.alloc hbk.size (.cells #[.string (r13).nm, .bool (r13).vr, .slice o13 (r13).ts.length k13] 24)
    have hxn := TBox.new hsl
    have HR4 := Lib.hid (HR3.out.carry hbn)
    have HW4 := Lib.hid (HW3.out.trans (hbn.mono HW3.out.size))
    have HX9_4 := Lib.hid (HX9_3.out.carry hbn)
    have HX11_4 := Lib.hid (HX11_3.out.carry hbn)
    have HX13_4 := Lib.hid hxn
    clear hsl hbk hxn hbn HR3 HW3 HX9_3 HX11_3
    clear t0 t1 t2 u0 u1 u2 v0 v1 v2
    obtain ⟨⟨x130, x131, x132⟩, -⟩ := box3 HX13_4.out.box
    go_wp2_with fail
    · refine (alive_any _).mono ?_
      rintro e wz ⟨rfl, hbz⟩
      go_wp2_with fail
      go_ret
      exact ⟨rfl, HW4.out.trans (hbz.mono HW4.out.size)⟩
    · have hc13 : c13 = 0 := by simpa using (show (c13 != 0) = false by assumption)
      subst hc13
      obtain ⟨hou, hok2, hrr⟩ : u.ok ∧ (t.put p u).ok ∧ t.put p u = r13 := by
        rcases HC13.out with ⟨_, _, _, h1, h2, h3⟩ | ⟨h, _⟩
        · exact ⟨h1, h2, h3.symm⟩
        · exact absurd rfl h
      subst hrr
      have HOU := Lib.hid hou
      have HO2 := Lib.hid hok2
      have HPB := Lib.hid (Tm.put_bulk t p u)
      clear hou hok2 HC13
      refine (at_any (t.put p u) _ p _ _ HX13_4.out.is HR4.out.pp hpl (by have := HB.out; have := HPB.out; omega)).mono ?_
      rintro e W5 ⟨r15, c15, ⟨⟨sl15, rfl, hsl⟩, hbk⟩, hcase15⟩
      have hs15 : c15 = 0 ∧ u = r15 := by
        rcases hcase15 with ⟨h0, _, h2⟩ | ⟨_, h, _⟩
        · rw [Tm.at_put_same (by rw [HAT.out]; rfl)] at h2; cases h2; exact ⟨h0, rfl⟩
        · exact absurd ⟨HO2.out, by rw [Tm.at_put_same (by rw [HAT.out]; rfl)]; rfl⟩ h
      obtain ⟨rfl, hrr⟩ := hs15
      subst hrr
      clear hcase15
      obtain ⟨o15, k15, rfl, -⟩ := hsl.form
      dsimp only [tmv]
      have hbn := hbk.alloc hbk.size (.cells #[.string (u).nm, .bool (u).vr, .slice o15 (u).ts.length k15] 24)
      have hxn := TBox.new hsl
      have HR5 := Lib.hid (HR4.out.carry hbn)
      have HW5 := Lib.hid (HW4.out.trans (hbn.mono HW4.out.size))
      have HX9_5 := Lib.hid (HX9_4.out.carry hbn)
      have HX11_5 := Lib.hid (HX11_4.out.carry hbn)
      have HX13_5 := Lib.hid (HX13_4.out.carry hbn)
      have HX15_5 := Lib.hid hxn
      clear hsl hbk hxn hbn HR4 HW4 HX9_4 HX11_4 HX13_4
      clear x130 x131 x132
      obtain ⟨u0, u1, u2, v0, v1, v2⟩ := six HR5.out.ub
      obtain ⟨⟨x150, x151, x152⟩, -⟩ := box3 HX15_5.out.box
      go_wp2_with fail
      refine (requal_any u u _ _ _ (by have := HB.out; omega) (by have := HB.out; omega) HX15_5.out.is HR5.out.iu).mono ?_
      rintro e W6 ⟨⟨x, rfl, hx⟩, hbk⟩
      obtain rfl : x = true := hx.2 rfl
      clear hx
      have HR6 := Lib.hid (HR5.out.carry hbk)
      have HW6 := Lib.hid (HW5.out.trans (hbk.mono HW5.out.size))
      have HX9_6 := Lib.hid (HX9_5.out.carry hbk)
      have HX11_6 := Lib.hid (HX11_5.out.carry hbk)
      have HX13_6 := Lib.hid (HX13_5.out.carry hbk)
      have HX15_6 := Lib.hid (HX15_5.out.carry hbk)
      clear hbk HR5 HW5 HX9_5 HX11_5 HX13_5 HX15_5
      clear u0 u1 u2 v0 v1 v2 x150 x151 x152
      go_wp2_with fail
      refine (parallel_below p q _ _ _ _ HR6.out.pp HR6.out.qq hpl hql).mono ?_
      rintro e W7 ⟨⟨x, rfl, hx⟩, hbk⟩
      have HPX := Lib.hid hx
      clear hx
      have HR7 := Lib.hid (HR6.out.carry hbk)
      have HW7 := Lib.hid (HW6.out.trans (hbk.mono HW6.out.size))
      have HX9_7 := Lib.hid (HX9_6.out.carry hbk)
      have HX11_7 := Lib.hid (HX11_6.out.carry hbk)
      have HX13_7 := Lib.hid (HX13_6.out.carry hbk)
      have HX15_7 := Lib.hid (HX15_6.out.carry hbk)
      clear hbk HR6 HW6 HX9_6 HX11_6 HX13_6 HX15_6
      cases x
      · go_wp2_with fail
        refine (alive_any _).mono ?_
        rintro e wz ⟨rfl, hbz⟩
        go_wp2_with fail
        go_ret
        exact ⟨rfl, HW7.out.trans (hbz.mono HW7.out.size)⟩
      · have hpar : Parallel p q := HPX.out.1 rfl
        have HPAR := Lib.hid hpar
        clear hpar HPX
        obtain ⟨⟨x130, x131, x132⟩, -⟩ := box3 HX13_7.out.box
        obtain ⟨u0, u1, u2, v0, v1, v2⟩ := six HR7.out.ub
        go_wp2_with fail
        refine (put_any (t.put p u) _ q _ v _ _ HX13_7.out.is HR7.out.qq HR7.out.iv hql ⟨(by have := HB.out; have := HPB.out; omega), (by have := HB.out; omega), (by have := Tm.put_bulk (t.put p u) q v; have := HPB.out; have := HB.out; omega)⟩).mono ?_
        rintro e W8 ⟨r17, c17, ⟨⟨sl17, rfl, hsl⟩, hbk⟩, hcase17⟩
        have HC17 := Lib.hid hcase17
        clear hcase17
        obtain ⟨o17, k17, rfl, -⟩ := hsl.form
        dsimp only [tmv]
        have hbn := hbk.alloc hbk.size (.cells #[.string (r17).nm, .bool (r17).vr, .slice o17 (r17).ts.length k17] 24)
        have hxn := TBox.new hsl
        have HR8 := Lib.hid (HR7.out.carry hbn)
        have HW8 := Lib.hid (HW7.out.trans (hbn.mono HW7.out.size))
        have HX9_8 := Lib.hid (HX9_7.out.carry hbn)
        have HX11_8 := Lib.hid (HX11_7.out.carry hbn)
        have HX13_8 := Lib.hid (HX13_7.out.carry hbn)
        have HX15_8 := Lib.hid (HX15_7.out.carry hbn)
        have HX17_8 := Lib.hid hxn
        clear hsl hbk hxn hbn HR7 HW7 HX9_7 HX11_7 HX13_7 HX15_7
        clear x130 x131 x132 u0 u1 u2 v0 v1 v2
        obtain ⟨⟨t0, t1, t2⟩, -⟩ := box3 HR8.out.tb.box
        obtain ⟨u0, u1, u2, v0, v1, v2⟩ := six HR8.out.ub
        go_wp2_with fail
        refine (put_any t _ q _ v _ _ HR8.out.tb.is HR8.out.qq HR8.out.iv hql ⟨(by have := HB.out; omega), (by have := HB.out; omega), (by have := Tm.put_bulk t q v; have := HB.out; omega)⟩).mono ?_
        rintro e W9 ⟨r19, c19, ⟨⟨sl19, rfl, hsl⟩, hbk⟩, hcase19⟩
        have HC19 := Lib.hid hcase19
        have HB19 := Lib.hid hcase19.bulk
        clear hcase19
        obtain ⟨o19, k19, rfl, -⟩ := hsl.form
        dsimp only [tmv]
        have hbn := hbk.alloc hbk.size (.cells #[.string (r19).nm, .bool (r19).vr, .slice o19 (r19).ts.length k19] 24)
        have hxn := TBox.new hsl
        have HR9 := Lib.hid (HR8.out.carry hbn)
        have HW9 := Lib.hid (HW8.out.trans (hbn.mono HW8.out.size))
        have HX9_9 := Lib.hid (HX9_8.out.carry hbn)
        have HX11_9 := Lib.hid (HX11_8.out.carry hbn)
        have HX13_9 := Lib.hid (HX13_8.out.carry hbn)
        have HX15_9 := Lib.hid (HX15_8.out.carry hbn)
        have HX17_9 := Lib.hid (HX17_8.out.carry hbn)
        have HX19_9 := Lib.hid hxn
        clear hsl hbk hxn hbn HR8 HW8 HX9_8 HX11_8 HX13_8 HX15_8 HX17_8
        clear t0 t1 t2 u0 u1 u2 v0 v1 v2
        obtain ⟨⟨x190, x191, x192⟩, -⟩ := box3 HX19_9.out.box
        obtain ⟨u0, u1, u2, v0, v1, v2⟩ := six HR9.out.ub
        go_wp2_with fail
        refine (put_any r19 _ p _ u _ _ HX19_9.out.is HR9.out.pp HR9.out.iu hpl ⟨(by have := HB.out; have := HB19.out; omega), (by have := HB.out; omega), (by have := Tm.put_bulk r19 p u; have := HB19.out; have := HB.out; omega)⟩).mono ?_
        rintro e W10 ⟨r21, c21, ⟨⟨sl21, rfl, hsl⟩, hbk⟩, hcase21⟩
        have HC21 := Lib.hid hcase21
        clear hcase21
        obtain ⟨o21, k21, rfl, -⟩ := hsl.form
        dsimp only [tmv]
        have hbn := hbk.alloc hbk.size (.cells #[.string (r21).nm, .bool (r21).vr, .slice o21 (r21).ts.length k21] 24)
        have hxn := TBox.new hsl
        have HR10 := Lib.hid (HR9.out.carry hbn)
        have HW10 := Lib.hid (HW9.out.trans (hbn.mono HW9.out.size))
        have HX9_10 := Lib.hid (HX9_9.out.carry hbn)
        have HX11_10 := Lib.hid (HX11_9.out.carry hbn)
        have HX13_10 := Lib.hid (HX13_9.out.carry hbn)
        have HX15_10 := Lib.hid (HX15_9.out.carry hbn)
        have HX17_10 := Lib.hid (HX17_9.out.carry hbn)
        have HX19_10 := Lib.hid (HX19_9.out.carry hbn)
        have HX21_10 := Lib.hid hxn
        clear hsl hbk hxn hbn HR9 HW9 HX9_9 HX11_9 HX13_9 HX15_9 HX17_9 HX19_9
        clear x190 x191 x192 u0 u1 u2 v0 v1 v2
        by_cases hc19 : c19 = 0
        · subst hc19
          obtain ⟨hq1, hov, hok3, hrr⟩ : (t.at q).isSome ∧ v.ok ∧ (t.put q v).ok ∧ t.put q v = r19 := by
            rcases HC19.out with ⟨_, _, h1, h2, h3, h4⟩ | ⟨h, _⟩
            · exact ⟨h1, h2, h3, h4.symm⟩
            · exact absurd rfl h
          subst hrr
          obtain ⟨hcc, hrr⟩ := PutSays.par HPAR.out (by rw [HAT.out]; rfl) hq1 HOU.out hov HO2.out hok3 HC17.out HC21.out
          subst hcc
          subst hrr
          have HB17 := Lib.hid HC17.out.bulk
          clear hq1 hov hok3 HC17 HC19 HC21
          obtain ⟨⟨x170, x171, x172⟩, -⟩ := box3 HX17_10.out.box
          obtain ⟨⟨x210, x211, x212⟩, -⟩ := box3 HX21_10.out.box
          go_wp2_with fail
          refine (requal_any r17 r17 _ _ _ (by have := HB17.out; have := HPB.out; have := HB.out; omega) (by have := HB17.out; have := HPB.out; have := HB.out; omega) HX17_10.out.is HX21_10.out.is).mono ?_
          rintro e W11 ⟨⟨x, rfl, hx⟩, hbk⟩
          obtain rfl : x = true := hx.2 rfl
          clear hx
          have HR11 := Lib.hid (HR10.out.carry hbk)
          have HW11 := Lib.hid (HW10.out.trans (hbk.mono HW10.out.size))
          have HX9_11 := Lib.hid (HX9_10.out.carry hbk)
          have HX11_11 := Lib.hid (HX11_10.out.carry hbk)
          have HX13_11 := Lib.hid (HX13_10.out.carry hbk)
          have HX15_11 := Lib.hid (HX15_10.out.carry hbk)
          have HX17_11 := Lib.hid (HX17_10.out.carry hbk)
          have HX19_11 := Lib.hid (HX19_10.out.carry hbk)
          have HX21_11 := Lib.hid (HX21_10.out.carry hbk)
          clear hbk HR10 HW10 HX9_10 HX11_10 HX13_10 HX15_10 HX17_10 HX19_10 HX21_10
          clear x170 x171 x172 x210 x211 x212
          go_wp2_with fail
          refine (alive_any _).mono ?_
          rintro e wz ⟨rfl, hbz⟩
          go_wp2_with fail
          go_ret
          exact ⟨rfl, HW11.out.trans (hbz.mono HW11.out.size)⟩
        · have hne : (c19 != 0) = true := by rw [bne_iff_ne]; exact hc19
          obtain ⟨⟨x170, x171, x172⟩, -⟩ := box3 HX17_10.out.box
          obtain ⟨⟨x210, x211, x212⟩, -⟩ := box3 HX21_10.out.box
          go_wp2_with fail
          refine (alive_any _).mono ?_
          rintro e wz ⟨rfl, hbz⟩
          go_wp2_with fail
          go_ret
          exact ⟨rfl, HW10.out.trans (hbz.mono HW10.out.size)⟩
end Go.Proofs.YthefphfgcpihjaaDoor
