/- Package path: Greater; the law's greater. -/
import Derived.WalkKit
import Derived.ProofKit
import Derived.OpenShut
import Derived.Handy
import Derived.Lib.Hide
import Derived.Test.YtdnkommcnkbeeaaIsg
namespace Go.Proofs.Ytdnkommcnkbeeaa
open Go.RowKit

/-- the call says that s is greater than t -/
def GP (L : List Rk) (s t : Tm) : Prop := PrecOk L ∧ s.ok ∧ t.ok ∧ Lpo (rkB L) s t
open Classical in
noncomputable def gpB (L : List Rk) (s t : Tm) : Bool := decide (GP L s t)
open Classical in
theorem gpB_yes {L : List Rk} {s t : Tm} : gpB L s t = true ↔ GP L s t := by unfold gpB; exact decide_eq_true_iff
open Classical in
theorem gpB_no {L : List Rk} {s t : Tm} : gpB L s t = false ↔ ¬ GP L s t := by unfold gpB; exact decide_eq_false_iff_not
/-- how Greater ends -/
def GrPost (L : List Rk) (s t : Tm) (e : Ending) : Prop := ∃ c : Int, e = .returned (.tuple #[.bool (gpB L s t), .int .i64 c]) ∧ (c = 0 ↔ PrecOk L ∧ s.ok ∧ t.ok)
theorem GP.rel {L : List Rk} {s t : Tm} (h : PrecOk L) (hs : s.ok) (ht : t.ok) : (rel (rkB L) s t == 2) = gpB L s t := by
  cases hb : gpB L s t with
  | true => have := (gpB_yes.1 hb).2.2.2; rw [beq_iff_eq]; exact rel_2.2 this
  | false => rw [beq_eq_false_iff_ne]; exact fun e => gpB_no.1 hb ⟨h, hs, ht, rel_2.1 e⟩

set_option maxRecDepth 100000 in
set_option maxHeartbeats 4000000 in
theorem pgreater_any (L : List Rk) (lv : Value) (s t : Tm) (sv tv : Value) (w : World) (hL : RksIs w.heap.size w L lv) (hLb : rkBulk L ≤ 1048576) (hs : SlIs w.heap.size w s.ts sv) (ht : SlIs w.heap.size w t.ts tv) (hbs : s.bulk ≤ 1048576) (hbt : t.bulk ≤ 1048576) :
    Calls Try.prog 32 #[lv, tmv s sv, tmv t tv] w fun e w' => GrPost L s t e ∧ Below w.heap.size w w' := by
  obtain ⟨os, cs, rfl, -⟩ := hs.form
  obtain ⟨ot, ct, rfl, -⟩ := ht.form
  have hL' := hL
  obtain ⟨ol, cl, rfl, -, -⟩ := hL'
  have hlen := Nat.le_trans (rkBulk_len L) hLb
  have hA : Below w.heap.size w (w.alloc (.cells #[.string s.nm, .bool s.vr, .slice os s.ts.length cs] 34)) := by go_grown
  have hB := (Below.refl _ (w.alloc (.cells #[.string s.nm, .bool s.vr, .slice os s.ts.length cs] 34))).alloc (Nat.le_refl _) (.cells #[.string t.nm, .bool t.vr, .slice ot t.ts.length ct] 34)
  have HW0 : Hid (Below w.heap.size w ((w.alloc (.cells #[.string s.nm, .bool s.vr, .slice os s.ts.length cs] 34)).alloc (.cells #[.string t.nm, .bool t.vr, .slice ot t.ts.length ct] 34))) := Lib.hid (hA.trans (hB.mono hA.size))
  have HX0 : Hid (((w.alloc (.cells #[.string s.nm, .bool s.vr, .slice os s.ts.length cs] 34)).alloc (.cells #[.string t.nm, .bool t.vr, .slice ot t.ts.length ct] 34)).heap[w.heap.size]? = some (.cells #[.string s.nm, .bool s.vr, .slice os s.ts.length cs] 34 (0, 0))) := Lib.hid ((Below.heap_alloc _ _ _ (by simp)).trans (heap_new_at _ _ _ rfl))
  have HY0 : Hid (((w.alloc (.cells #[.string s.nm, .bool s.vr, .slice os s.ts.length cs] 34)).alloc (.cells #[.string t.nm, .bool t.vr, .slice ot t.ts.length ct] 34)).heap[w.heap.size + 1]? = some (.cells #[.string t.nm, .bool t.vr, .slice ot t.ts.length ct] 34 (0, 0))) := Lib.hid (heap_new_at _ _ _ (by simp))
  have HL := Lib.hid hL
  have HS := Lib.hid hs
  have HT := Lib.hid ht
  have HLB := Lib.hid hLb
  clear hL hs ht hA hB hLb
  go_enter Try.func32, Try.ntmps32
  rw [show tmv s (.slice os s.ts.length cs) = .agg #[.string s.nm, .bool s.vr, .slice os s.ts.length cs] from rfl, show tmv t (.slice ot t.ts.length ct) = .agg #[.string t.nm, .bool t.vr, .slice ot t.ts.length ct] from rfl]
  go_wp2_with fail
  generalize ((w.alloc (.cells #[.string s.nm, .bool s.vr, .slice os s.ts.length cs] 34)).alloc (.cells #[.string t.nm, .bool t.vr, .slice ot t.ts.length ct] 34)) = W0 at HW0 HX0 HY0 ⊢
  refine (pathCheck_any L _ W0 (HL.out.carry HW0.out HW0.out.size) HLB.out).mono ?_
  rintro e w1 ⟨rfl, hb⟩
  have HW1 := Lib.hid (HW0.out.trans (hb.mono HW0.out.size))
  have HX1 := Lib.hid ((hb.block _ (Array.getElem?_eq_some_iff.1 HX0.out).1).trans HX0.out)
  have HY1 := Lib.hid ((hb.block _ (Array.getElem?_eq_some_iff.1 HY0.out).1).trans HY0.out)
  clear hb
  by_cases hc : precC L = 0
  case neg =>
    have hd : (precC L != 0) = true := by rw [bne_iff_ne]; exact hc
    have HNP : Hid (¬ PrecOk L) := Lib.hid fun h => hc (precC_zero.2 h)
    have HG : Hid (gpB L s t = false) := Lib.hid (gpB_no.2 fun h => HNP.out h.1)
    have HC := Lib.hid hc
    clear hc
    go_wp2_with fail
    go_ret2
    exact ⟨⟨_, by rw [HG.out]; rfl, fun h => absurd h HC.out, fun h => absurd h.1 HNP.out⟩, HW1.out⟩
  rw [hc]
  have HP := Lib.hid (precC_zero.1 hc)
  clear hc
  obtain ⟨⟨x0, x1, x2⟩, -⟩ := box3 HX1.out
  go_wp2_with fail
  refine (check_any s _ w1 (HS.out.carry HW1.out HW1.out.size) hbs).mono ?_
  rintro e w2 ⟨⟨c, rfl, hc⟩, hb⟩
  have HW2 := Lib.hid (HW1.out.trans (hb.mono HW1.out.size))
  have HX2 := Lib.hid ((hb.block _ (Array.getElem?_eq_some_iff.1 HX1.out).1).trans HX1.out)
  have HY2 := Lib.hid ((hb.block _ (Array.getElem?_eq_some_iff.1 HY1.out).1).trans HY1.out)
  have HC := Lib.hid hc
  clear hb hc x0 x1 x2
  by_cases hc0 : c = 0
  case neg =>
    have hd : (c != 0) = true := by rw [bne_iff_ne]; exact hc0
    have HNP : Hid (¬ s.ok) := Lib.hid fun h => hc0 (HC.out.2 h)
    have HG : Hid (gpB L s t = false) := Lib.hid (gpB_no.2 fun h => HNP.out h.2.1)
    have HC0 := Lib.hid hc0
    clear hc0
    go_wp2_with fail
    go_ret2
    exact ⟨⟨_, by rw [HG.out]; rfl, fun h => absurd h HC0.out, fun h => absurd h.2.1 HNP.out⟩, HW2.out⟩
  subst hc0
  have HSO := Lib.hid (HC.out.1 rfl)
  obtain ⟨⟨y0, y1, y2⟩, -⟩ := box3 HY2.out
  go_wp2_with fail
  refine (check_any t _ w2 (HT.out.carry HW2.out HW2.out.size) hbt).mono ?_
  rintro e w3 ⟨⟨c, rfl, hc⟩, hb⟩
  have HW3 := Lib.hid (HW2.out.trans (hb.mono HW2.out.size))
  have HX3 := Lib.hid ((hb.block _ (Array.getElem?_eq_some_iff.1 HX2.out).1).trans HX2.out)
  have HY3 := Lib.hid ((hb.block _ (Array.getElem?_eq_some_iff.1 HY2.out).1).trans HY2.out)
  have HC2 := Lib.hid hc
  clear hb hc y0 y1 y2
  by_cases hc0 : c = 0
  case neg =>
    have hd : (c != 0) = true := by rw [bne_iff_ne]; exact hc0
    have HNP : Hid (¬ t.ok) := Lib.hid fun h => hc0 (HC2.out.2 h)
    have HG : Hid (gpB L s t = false) := Lib.hid (gpB_no.2 fun h => HNP.out h.2.2.1)
    have HC0 := Lib.hid hc0
    clear hc0
    go_wp2_with fail
    go_ret2
    exact ⟨⟨_, by rw [HG.out]; rfl, fun h => absurd h HC0.out, fun h => absurd h.2.2 HNP.out⟩, HW3.out⟩
  subst hc0
  have HTO := Lib.hid (HC2.out.1 rfl)
  obtain ⟨⟨x0, x1, x2⟩, -⟩ := box3 HX3.out
  obtain ⟨⟨y0, y1, y2⟩, -⟩ := box3 HY3.out
  go_wp2_with fail
  refine (isGreater_any L _ HP.out.nms hlen s t _ _ w3 (HL.out.carry HW3.out HW3.out.size) (HS.out.carry HW3.out HW3.out.size) (HT.out.carry HW3.out HW3.out.size) HSO.out.1.bare HTO.out.1.bare hbs hbt).mono ?_
  rintro e w4 ⟨rfl, hb⟩
  have HW4 := Lib.hid (HW3.out.trans (hb.mono HW3.out.size))
  have HR := Lib.hid (GP.rel HP.out HSO.out HTO.out)
  clear hb
  go_wp2_with fail
  go_ret2
  exact ⟨⟨0, by rw [HR.out]; rfl, fun _ => ⟨HP.out, HSO.out, HTO.out⟩, fun _ => rfl⟩, HW4.out⟩
set_option maxRecDepth 100000 in
set_option maxHeartbeats 4000000 in
theorem lgreater_any (L : List Rk) (lv : Value) (s t : Tm) (sv tv : Value) (w : World) (hL : RksIs w.heap.size w L lv) (hLb : rkBulk L ≤ 1048576) (hs : SlIs w.heap.size w s.ts sv) (ht : SlIs w.heap.size w t.ts tv) (hbs : s.bulk ≤ 1048576) (hbt : t.bulk ≤ 1048576) :
    Calls Try.prog 13 #[lv, tmv s sv, tmv t tv] w fun e w' => e = .returned (.bool (gpB L s t)) ∧ Below w.heap.size w w' := by
  obtain ⟨os, cs, rfl, -⟩ := hs.form
  obtain ⟨ot, ct, rfl, -⟩ := ht.form
  have hL' := hL
  obtain ⟨ol, cl, rfl, -, -⟩ := hL'
  have HW0 : Hid (Below w.heap.size w ((w.alloc (.cells #[.string s.nm, .bool s.vr, .slice os s.ts.length cs] 34)).alloc (.cells #[.string t.nm, .bool t.vr, .slice ot t.ts.length ct] 34))) := Lib.hid (by go_grown)
  have HG := Lib.hid (pgreater_any L _ s t _ _ ((w.alloc (.cells #[.string s.nm, .bool s.vr, .slice os s.ts.length cs] 34)).alloc (.cells #[.string t.nm, .bool t.vr, .slice ot t.ts.length ct] 34)) (hL.carry HW0.out HW0.out.size) hLb (hs.carry HW0.out HW0.out.size) (ht.carry HW0.out HW0.out.size) hbs hbt)
  clear hL hs ht
  go_enter Try.func13, Try.ntmps13
  rw [show tmv s (.slice os s.ts.length cs) = .agg #[.string s.nm, .bool s.vr, .slice os s.ts.length cs] from rfl, show tmv t (.slice ot t.ts.length ct) = .agg #[.string t.nm, .bool t.vr, .slice ot t.ts.length ct] from rfl]
  go_wp2_with fail
  refine HG.out.mono ?_
  rintro e w1 ⟨⟨c, rfl, hc⟩, hb⟩
  have HB := Lib.hid (HW0.out.trans (hb.mono HW0.out.size))
  have HC := Lib.hid hc
  clear hb hc HG
  by_cases hc0 : c = 0
  · subst hc0
    go_wp2_with fail
    go_ret
    exact ⟨rfl, HB.out⟩
  · have hd : (c == 0) = false := by rw [beq_eq_false_iff_ne]; exact hc0
    have HG : Hid (gpB L s t = false) := Lib.hid (gpB_no.2 fun h => hc0 (HC.out.2 ⟨h.1, h.2.1, h.2.2.1⟩))
    clear hc0
    go_wp2_with fail
    go_ret
    exact ⟨by rw [HG.out]; rfl, HB.out⟩
end Go.Proofs.Ytdnkommcnkbeeaa
