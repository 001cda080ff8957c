/- Merged: Al6p, Al6. -/
import Derived.Test.YtnomppdmhgefiaaGrt
import Derived.WalkKit
import Derived.ProofKit
import Derived.OpenShut
import Derived.Handy
import Derived.Lib.Hide
import Derived.Test.YtnomppdmhgefiaaInv
import Derived.Test.YtnomppdmhgefiaaTmw
import Derived.Test.YtnomppdmhgefiaaRnp
/- The chapter's example of a path order, plain; terms and rows of terms between the operations of a drawn region. -/
namespace Go.Proofs.Ytnomppdmhgefiaa
open Go.RowKit

def nX6 : ByteArray := ⟨#[120]⟩
def nY6 : ByteArray := ⟨#[121]⟩
def nS6 : ByteArray := ⟨#[115]⟩
def nAdd6 : ByteArray := ⟨#[97, 100, 100]⟩
def tX6 : Tm := .mk nX6 true []
def tY6 : Tm := .mk nY6 true []
def tS6 (t : Tm) : Tm := .mk nS6 false [t]
def tAdd6 (t u : Tm) : Tm := .mk nAdd6 false [t, u]
def exS6 : Tm := tAdd6 (tS6 tX6) tY6
def exT6 : Tm := tS6 (tAdd6 tX6 tY6)
def exL6 : List Rk := [([97, 100, 100], 2, 0), ([115], 1, 0)]
theorem tX6_f : tX6.formed := by unfold Tm.formed; decide
theorem tY6_f : tY6.formed := by unfold Tm.formed; decide
theorem tSX6_f : (tS6 tX6).formed := by unfold Tm.formed; decide
theorem tAXY6_f : (tAdd6 tX6 tY6).formed := by unfold Tm.formed; decide
theorem exS6_ok : exS6.ok := ⟨by unfold Tm.formed; decide, by decide, by decide⟩
theorem exT6_ok : exT6.ok := ⟨by unfold Tm.formed; decide, by decide, by decide⟩
theorem exL6_nms : NmsOk exL6 := by
  intro i p hp
  match i, hp with
  | 0, hp => cases hp; exact ⟨by decide, fun q h => absurd h (by omega)⟩
  | 1, hp => cases hp; exact ⟨by decide, fun q _ hq => by cases hq; decide⟩
  | i + 2, hp => simp [exL6] at hp
theorem exL6_ok : PrecOk exL6 := by
  refine ⟨by decide, exL6_nms, fun p hp => ?_⟩
  simp only [exL6, List.mem_cons, List.not_mem_nil, or_false] at hp
  rcases hp with rfl | rfl <;> decide
theorem ex6_gt : Lpo (rkB exL6) exS6 exT6 := by
  have hr : rkB exL6 nS6 < rkB exL6 nAdd6 := by decide
  have h1 : Lpo (rkB exL6) (tS6 tX6) tX6 := .arg _ _ rfl (by simp [tS6, Tm.ts])
  have h2 : ∀ b ∈ (tAdd6 tX6 tY6).ts, Lpo (rkB exL6) exS6 b := by
    intro b hb
    simp only [tAdd6, Tm.ts, List.mem_cons, List.not_mem_nil, or_false] at hb
    rcases hb with rfl | rfl
    · exact .sub _ _ (tS6 tX6) rfl (by simp [exS6, tAdd6, Tm.ts]) h1
    · exact .arg _ _ rfl (by simp [exS6, tAdd6, Tm.ts])
  refine .top exS6 exT6 rfl rfl hr fun b hb => ?_
  simp only [exT6, tS6, Tm.ts, List.mem_cons, List.not_mem_nil, or_false] at hb
  subst hb
  exact .lex _ _ 0 (tS6 tX6) tX6 rfl rfl rfl rfl h2 rfl rfl rfl h1
theorem ex6_yes : gpB exL6 exS6 exT6 = true := gpB_yes.2 ⟨exL6_ok, exS6_ok, exT6_ok, ex6_gt⟩
theorem ex6_no : gpB exL6 exT6 exS6 = false := gpB_no.2 fun h => ex6_gt.asymm h.2.2.2

end Go.Proofs.Ytnomppdmhgefiaa
/- alive of the laws on path orders. -/
namespace Go.Proofs.Ytnomppdmhgefiaa
open Go.RowKit

theorem lvar_mk (nm : ByteArray) (w : World) : Calls Try.prog 13 #[.string nm] w fun e w' => e = .returned (.agg #[.string nm, .bool true, .slice none 0 0]) ∧ Below w.heap.size w w' := by
  go_enter Try.func13, Try.ntmps13
  go_wp2_with fail
  exact bodyPost_ret (v := .agg #[.string nm, .bool true, .slice none 0 0]) (by simp [results, Try.f13, go_sem]) rfl ⟨rfl, by go_grown⟩
theorem lsym_mk (nm : ByteArray) (o : Option Addr) (n c : Nat) (w : World) : Calls Try.prog 14 #[.string nm, .slice o n c] w fun e w' => e = .returned (.agg #[.string nm, .bool false, .slice o n c]) ∧ Below w.heap.size w w' := by
  go_enter Try.func14, Try.ntmps14
  go_wp2_with fail
  exact bodyPost_ret (v := .agg #[.string nm, .bool false, .slice o n c]) (by simp [results, Try.f14, go_sem]) rfl ⟨rfl, by go_grown⟩
theorem fX : ∀ u ∈ [tX6], u.formed := by intro u hu; obtain rfl := List.mem_singleton.1 hu; exact tX6_f
theorem fXY : ∀ u ∈ [tX6, tY6], u.formed := by intro u hu; simp only [List.mem_cons, List.not_mem_nil, or_false] at hu; rcases hu with rfl | rfl; exact tX6_f; exact tY6_f
theorem fSXY : ∀ u ∈ [tS6 tX6, tY6], u.formed := by intro u hu; simp only [List.mem_cons, List.not_mem_nil, or_false] at hu; rcases hu with rfl | rfl; exact tSX6_f; exact tY6_f
theorem fAXY : ∀ u ∈ [tAdd6 tX6 tY6], u.formed := by intro u hu; obtain rfl := List.mem_singleton.1 hu; exact tAXY6_f

/-- what lies between the region's operations -/
structure AvI (w0 : World) (f : Nat → Bool) (w : World) (v4 v5 v15 v16 v17 v18 v19 v20 v21 v22 v23 v24 v25 v26 : Value) : Prop where
  low : Below w0.heap.size w0 w
  f0 : f 0 = true → v15 = (.agg #[.string ⟨#[120]⟩, .bool true, .slice none 0 0])
  f1 : f 1 = true → RowW w [tX6] v16
  f2 : f 2 = true → TmW w (tS6 tX6) v17
  f3 : f 3 = true → v18 = (.agg #[.string ⟨#[121]⟩, .bool true, .slice none 0 0])
  f4 : f 4 = true → RowW w [tS6 tX6, tY6] v19
  f5 : f 5 = true → TmW w exS6 v20
  f6 : f 6 = true → v21 = (.agg #[.string ⟨#[120]⟩, .bool true, .slice none 0 0])
  f7 : f 7 = true → v22 = (.agg #[.string ⟨#[121]⟩, .bool true, .slice none 0 0])
  f8 : f 8 = true → RowW w [tX6, tY6] v23
  f9 : f 9 = true → TmW w (tAdd6 tX6 tY6) v24
  f10 : f 10 = true → RowW w [tAdd6 tX6 tY6] v25
  f11 : f 11 = true → TmW w exT6 v26
  f12 : f 12 = true → ∃ p, v4 = ptr p ∧ w0.heap.size ≤ p ∧ p < w.heap.size ∧ (f 14 = false → w.heap[p]? = some zeroBx) ∧ (f 14 = true → ∃ s, TBx w p exS6 s)
  f13 : f 13 = true → ∃ p, v5 = ptr p ∧ w0.heap.size ≤ p ∧ p < w.heap.size ∧ (f 15 = false → w.heap[p]? = some zeroBx) ∧ (f 15 = true → ∃ s, TBx w p exT6 s)
  ne : f 12 = true → f 13 = true → v4 ≠ v5
  o14 : f 14 = true → f 12 = true ∧ f 13 = true
  o15 : f 15 = true → f 13 = true ∧ f 14 = true
theorem AvI.keep {w0 A W : World} {f : Nat → Bool} {v4 v5 v15 v16 v17 v18 v19 v20 v21 v22 v23 v24 v25 v26 : Value} (h : AvI w0 f A v4 v5 v15 v16 v17 v18 v19 v20 v21 v22 v23 v24 v25 v26) (hb : Below A.heap.size A W) : AvI w0 f W v4 v5 v15 v16 v17 v18 v19 v20 v21 v22 v23 v24 v25 v26 :=
  ⟨h.low.trans (hb.mono h.low.size), h.f0, fun k => (h.f1 k).keep hb, fun k => (h.f2 k).keep hb, h.f3, fun k => (h.f4 k).keep hb, fun k => (h.f5 k).keep hb, h.f6, h.f7, fun k => (h.f8 k).keep hb, fun k => (h.f9 k).keep hb, fun k => (h.f10 k).keep hb, fun k => (h.f11 k).keep hb, fun k => by obtain ⟨p, h1, h2, h3, h4, h5⟩ := h.f12 k; exact ⟨p, h1, h2, Nat.lt_of_lt_of_le h3 hb.size, fun e => (hb.block p h3).trans (h4 e), fun e => (h5 e).imp fun _ h6 => h6.carry hb⟩, fun k => by obtain ⟨p, h1, h2, h3, h4, h5⟩ := h.f13 k; exact ⟨p, h1, h2, Nat.lt_of_lt_of_le h3 hb.size, fun e => (hb.block p h3).trans (h4 e), fun e => (h5 e).imp fun _ h6 => h6.carry hb⟩, h.ne, h.o14, h.o15⟩
/-- the invariant -/
def AvInv (w0 : World) (lv : Value) (p2 : Nat) (r10 r11 r12 : Value) (f : Nat → Bool) (a : Act) (w : World) : Prop :=
  ∃ v4 v5 v15 v16 v17 v18 v19 v20 v21 v22 v23 v24 v25 v26, a = { tmps := #[.bool false, lv, .pointer (some ⟨p2, 0, none⟩), .pointer (some ⟨p2 + 1, 0, none⟩), v4, v5, undef, undef, undef, undef, r10, r11, r12, (.agg #[.string ⟨#[120]⟩, .bool true, .slice none 0 0]), (.agg #[.string ⟨#[121]⟩, .bool true, .slice none 0 0]), v15, v16, v17, v18, v19, v20, v21, v22, v23, v24, v25, v26, undef, undef, undef, undef, undef, undef, undef, undef, undef, undef, undef, undef, undef, undef, undef, undef, undef, undef, undef, undef, undef, undef, undef, undef, undef, undef, undef], defers := [] } ∧ AvI w0 f w v4 v5 v15 v16 v17 v18 v19 v20 v21 v22 v23 v24 v25 v26

set_option maxRecDepth 100000 in
set_option maxHeartbeats 8000000 in
theorem alive_any (w : World) : Calls Try.prog 6 #[] w fun e w' => e = .returned (.bool true) ∧ Below w.heap.size w w' := by
  have HV := Lib.hid lvar_mk
  have HY := Lib.hid lsym_mk
  go_enter Try.func6, Try.ntmps6
  go_wp2_with fail
  refine (HV.out ⟨#[120]⟩ _).mono ?_
  rintro e w1 ⟨rfl, hb⟩
  have hrk := (hb.block w.heap.size (by simp)).trans (heap_new_at w (.cells #[.string ⟨#[97, 100, 100]⟩, .int .i64 2, .int .i64 0, .string ⟨#[115]⟩, .int .i64 1, .int .i64 0] 50) _ rfl)
  have HB1 : Hid (Below w.heap.size w w1) := Lib.hid ((show Below w.heap.size w (w.alloc (.cells #[.string ⟨#[97, 100, 100]⟩, .int .i64 2, .int .i64 0, .string ⟨#[115]⟩, .int .i64 1, .int .i64 0] 50)) from by go_grown).trans (hb.mono (by simp)))
  have HRK := Lib.hid hrk
  clear hb hrk
  go_wp2_with fail
  refine (HV.out ⟨#[121]⟩ _).mono ?_
  rintro e w2 ⟨rfl, hb2⟩
  have HB2 := Lib.hid (HB1.out.trans (hb2.mono HB1.out.size))
  have HRK2 := Lib.hid ((hb2.block w.heap.size (Array.getElem?_eq_some_iff.1 HRK.out).1).trans HRK.out)
  clear hb2
  go_wp2_with fail
  have HX0 := Lib.hid (show ((w2.alloc (.cells #[.string ⟨#[120]⟩, .bool true, .slice none 0 0] 26)).alloc (.cells #[.string ⟨#[121]⟩, .bool true, .slice none 0 0] 26)).heap[w2.heap.size]? = some (.cells #[.string ⟨#[120]⟩, .bool true, .slice none 0 0] 26 (0, 0)) from (Below.heap_alloc _ _ _ (by simp)).trans (heap_new_at _ _ _ rfl))
  have HY0 := Lib.hid (show ((w2.alloc (.cells #[.string ⟨#[120]⟩, .bool true, .slice none 0 0] 26)).alloc (.cells #[.string ⟨#[121]⟩, .bool true, .slice none 0 0] 26)).heap[w2.heap.size + 1]? = some (.cells #[.string ⟨#[121]⟩, .bool true, .slice none 0 0] 26 (0, 0)) from heap_new_at _ _ _ (by simp))
  have HW0 : Hid (Below w2.heap.size w2 ((w2.alloc (.cells #[.string ⟨#[120]⟩, .bool true, .slice none 0 0] 26)).alloc (.cells #[.string ⟨#[121]⟩, .bool true, .slice none 0 0] 26))) := Lib.hid (by go_grown)
  generalize ((w2.alloc (.cells #[.string ⟨#[120]⟩, .bool true, .slice none 0 0] 26)).alloc (.cells #[.string ⟨#[121]⟩, .bool true, .slice none 0 0] 26)) = W0 at HX0 HY0 HW0 ⊢
  have HRK0 := Lib.hid ((HW0.out.block w.heap.size (Array.getElem?_eq_some_iff.1 HRK2.out).1).trans HRK2.out)
  have HB0 := Lib.hid (HB2.out.trans (HW0.out.mono HB2.out.size))
  have hx0 := (Array.getElem?_eq_some_iff.1 HX0.out).1
  have hy0 := (Array.getElem?_eq_some_iff.1 HY0.out).1
  have hr0 := (Array.getElem?_eq_some_iff.1 HRK0.out).1
  generalize w2.heap.size = p2 at HX0 HY0 hx0 hy0 ⊢
  clear HW0 HRK2 HB2 HRK HB1
  refine wp_region_inv (AvInv W0 (.slice (some ⟨w.heap.size, 0, none⟩) 2 2) p2 (.agg #[.string ⟨#[97, 100, 100]⟩, .int .i64 2, .int .i64 0]) (.agg #[.string ⟨#[115]⟩, .int .i64 1, .int .i64 0]) (.slice (some ⟨w.heap.size, 0, none⟩) 2 2)) (by kernel_rfl) (by kernel_rfl) ?h0 ?hend ?hstep
  case h0 => exact ⟨_, _, _, _, _, _, _, _, _, _, _, _, _, _, rfl, (Below.refl _ W0).drew, nofun, nofun, nofun, nofun, nofun, nofun, nofun, nofun, nofun, nofun, nofun, nofun, nofun, nofun, nofun, nofun, nofun⟩
  case hstep =>
    rintro i o ho f a W ⟨v4, v5, v15, v16, v17, v18, v19, v20, v21, v22, v23, v24, v25, v26, rfl, h⟩ hfi hd K' hK
    have HI := Lib.hid h
    match i, ho with
    | 0, ho =>
      cases ho
      obtain ⟨⟨c0, c1, c2⟩, -⟩ := box3 ((h.low.block _ hx0).trans HX0.out)
      clear h
      go_simp
      exact hK.out _ _ ⟨v4, v5, _, v16, v17, v18, v19, v20, v21, v22, v23, v24, v25, v26, rfl, HI.out.low, fun _ => rfl, HI.out.f1, HI.out.f2, HI.out.f3, HI.out.f4, HI.out.f5, HI.out.f6, HI.out.f7, HI.out.f8, HI.out.f9, HI.out.f10, HI.out.f11, HI.out.f12, HI.out.f13, HI.out.ne, HI.out.o14, HI.out.o15⟩
    | 1, ho =>
      cases ho
      have e := h.f0 (hd ⟨0, .data⟩ (by simp) rfl)
      subst e
      have hrow := fun (Wz : World) => (RowW.one (t := tX6) .nil0 : RowW (Wz.alloc _) _ _)
      have HROW := Lib.hid hrow
      clear h hrow hd
      go_simp
      have H1 := HI.out.keep ((Below.refl W.heap.size W).alloc (Nat.le_refl _) (.cells #[.string ⟨#[120]⟩, .bool true, .slice none 0 0] 26))
      exact hK.out _ _ ⟨v4, v5, _, _, v17, v18, v19, v20, v21, v22, v23, v24, v25, v26, rfl, H1.low, H1.f0, fun _ => HROW.out W, H1.f2, H1.f3, H1.f4, H1.f5, H1.f6, H1.f7, H1.f8, H1.f9, H1.f10, H1.f11, H1.f12, H1.f13, H1.ne, H1.o14, H1.o15⟩
    | 2, ho =>
      cases ho
      obtain ⟨bq, e, hq⟩ := h.f1 (hd ⟨1, .data⟩ (by simp) rfl)
      subst e
      have HQ := Lib.hid hq
      clear h hd hq
      simp only [List.length_cons, List.length_nil, Nat.reduceAdd] at HI HQ ⊢
      go_simp
      refine (HY.out ⟨#[115]⟩ (some ⟨bq, 0, none⟩) 1 1 _).mono ?_
      rintro e W1 ⟨rfl, hb⟩
      have H1 := HI.out.keep hb
      exact hK.out _ _ ⟨v4, v5, v15, _, _, v18, v19, v20, v21, v22, v23, v24, v25, v26, rfl, H1.low, H1.f0, H1.f1, fun _ => ⟨_, _, _, rfl, HQ.out.carry hb hb.size⟩, H1.f3, H1.f4, H1.f5, H1.f6, H1.f7, H1.f8, H1.f9, H1.f10, H1.f11, H1.f12, H1.f13, H1.ne, H1.o14, H1.o15⟩
    | 3, ho =>
      cases ho
      obtain ⟨⟨c0, c1, c2⟩, -⟩ := box3 ((h.low.block _ hy0).trans HY0.out)
      clear h
      go_simp
      exact hK.out _ _ ⟨v4, v5, v15, v16, v17, _, v19, v20, v21, v22, v23, v24, v25, v26, rfl, HI.out.low, HI.out.f0, HI.out.f1, HI.out.f2, fun _ => rfl, HI.out.f4, HI.out.f5, HI.out.f6, HI.out.f7, HI.out.f8, HI.out.f9, HI.out.f10, HI.out.f11, HI.out.f12, HI.out.f13, HI.out.ne, HI.out.o14, HI.out.o15⟩
    | 4, ho =>
      cases ho
      have e := h.f3 (hd ⟨3, .data⟩ (by simp) rfl)
      subst e
      obtain ⟨oq, nq, cq, e, hq⟩ := h.f2 (hd ⟨2, .data⟩ (by simp) rfl)
      subst e
      have hrow := RowW.two (t := tS6 tX6) (u := tY6) hq .nil0
      have HROW := Lib.hid hrow
      clear h hrow hd hq
      go_simp
      have H1 := HI.out.keep ((Below.refl W.heap.size W).alloc (Nat.le_refl _) (.cells #[.string ⟨#[115]⟩, .bool false, .slice oq nq cq, .string ⟨#[121]⟩, .bool true, .slice none 0 0] 26))
      exact hK.out _ _ ⟨v4, v5, v15, v16, _, _, _, v20, v21, v22, v23, v24, v25, v26, rfl, H1.low, H1.f0, H1.f1, H1.f2, H1.f3, fun _ => HROW.out, H1.f5, H1.f6, H1.f7, H1.f8, H1.f9, H1.f10, H1.f11, H1.f12, H1.f13, H1.ne, H1.o14, H1.o15⟩
    | 5, ho =>
      cases ho
      obtain ⟨bq, e, hq⟩ := h.f4 (hd ⟨4, .data⟩ (by simp) rfl)
      subst e
      have HQ := Lib.hid hq
      clear h hd hq
      simp only [List.length_cons, List.length_nil, Nat.reduceAdd] at HI HQ ⊢
      go_simp
      refine (HY.out ⟨#[97, 100, 100]⟩ (some ⟨bq, 0, none⟩) 2 2 _).mono ?_
      rintro e W1 ⟨rfl, hb⟩
      have H1 := HI.out.keep hb
      exact hK.out _ _ ⟨v4, v5, v15, v16, v17, v18, _, _, v21, v22, v23, v24, v25, v26, rfl, H1.low, H1.f0, H1.f1, H1.f2, H1.f3, H1.f4, fun _ => ⟨_, _, _, rfl, HQ.out.carry hb hb.size⟩, H1.f6, H1.f7, H1.f8, H1.f9, H1.f10, H1.f11, H1.f12, H1.f13, H1.ne, H1.o14, H1.o15⟩
    | 6, ho =>
      cases ho
      obtain ⟨⟨c0, c1, c2⟩, -⟩ := box3 ((h.low.block _ hx0).trans HX0.out)
      clear h
      go_simp
      exact hK.out _ _ ⟨v4, v5, v15, v16, v17, v18, v19, v20, _, v22, v23, v24, v25, v26, rfl, HI.out.low, HI.out.f0, HI.out.f1, HI.out.f2, HI.out.f3, HI.out.f4, HI.out.f5, fun _ => rfl, HI.out.f7, HI.out.f8, HI.out.f9, HI.out.f10, HI.out.f11, HI.out.f12, HI.out.f13, HI.out.ne, HI.out.o14, HI.out.o15⟩
    | 7, ho =>
      cases ho
      obtain ⟨⟨c0, c1, c2⟩, -⟩ := box3 ((h.low.block _ hy0).trans HY0.out)
      clear h
      go_simp
      exact hK.out _ _ ⟨v4, v5, v15, v16, v17, v18, v19, v20, v21, _, v23, v24, v25, v26, rfl, HI.out.low, HI.out.f0, HI.out.f1, HI.out.f2, HI.out.f3, HI.out.f4, HI.out.f5, HI.out.f6, fun _ => rfl, HI.out.f8, HI.out.f9, HI.out.f10, HI.out.f11, HI.out.f12, HI.out.f13, HI.out.ne, HI.out.o14, HI.out.o15⟩
    | 8, ho =>
      cases ho
      have e := h.f6 (hd ⟨6, .data⟩ (by simp) rfl)
      subst e
      have e := h.f7 (hd ⟨7, .data⟩ (by simp) rfl)
      subst e
      have hrow := fun (Wz : World) => (RowW.two (t := tX6) (u := tY6) .nil0 .nil0 : RowW (Wz.alloc _) _ _)
      have HROW := Lib.hid hrow
      clear h hrow hd
      go_simp
      have H1 := HI.out.keep ((Below.refl W.heap.size W).alloc (Nat.le_refl _) (.cells #[.string ⟨#[120]⟩, .bool true, .slice none 0 0, .string ⟨#[121]⟩, .bool true, .slice none 0 0] 26))
      exact hK.out _ _ ⟨v4, v5, v15, v16, v17, v18, v19, v20, _, _, _, v24, v25, v26, rfl, H1.low, H1.f0, H1.f1, H1.f2, H1.f3, H1.f4, H1.f5, H1.f6, H1.f7, fun _ => HROW.out W, H1.f9, H1.f10, H1.f11, H1.f12, H1.f13, H1.ne, H1.o14, H1.o15⟩
    | 9, ho =>
      cases ho
      obtain ⟨bq, e, hq⟩ := h.f8 (hd ⟨8, .data⟩ (by simp) rfl)
      subst e
      have HQ := Lib.hid hq
      clear h hd hq
      simp only [List.length_cons, List.length_nil, Nat.reduceAdd] at HI HQ ⊢
      go_simp
      refine (HY.out ⟨#[97, 100, 100]⟩ (some ⟨bq, 0, none⟩) 2 2 _).mono ?_
      rintro e W1 ⟨rfl, hb⟩
      have H1 := HI.out.keep hb
      exact hK.out _ _ ⟨v4, v5, v15, v16, v17, v18, v19, v20, v21, v22, _, _, v25, v26, rfl, H1.low, H1.f0, H1.f1, H1.f2, H1.f3, H1.f4, H1.f5, H1.f6, H1.f7, H1.f8, fun _ => ⟨_, _, _, rfl, HQ.out.carry hb hb.size⟩, H1.f10, H1.f11, H1.f12, H1.f13, H1.ne, H1.o14, H1.o15⟩
    | 10, ho =>
      cases ho
      obtain ⟨oq, nq, cq, e, hq⟩ := h.f9 (hd ⟨9, .data⟩ (by simp) rfl)
      subst e
      have hrow := RowW.one (t := tAdd6 tX6 tY6) hq
      have HROW := Lib.hid hrow
      clear h hrow hd hq
      go_simp
      have H1 := HI.out.keep ((Below.refl W.heap.size W).alloc (Nat.le_refl _) (.cells #[.string ⟨#[97, 100, 100]⟩, .bool false, .slice oq nq cq] 26))
      exact hK.out _ _ ⟨v4, v5, v15, v16, v17, v18, v19, v20, v21, v22, v23, _, _, v26, rfl, H1.low, H1.f0, H1.f1, H1.f2, H1.f3, H1.f4, H1.f5, H1.f6, H1.f7, H1.f8, H1.f9, fun _ => HROW.out, H1.f11, H1.f12, H1.f13, H1.ne, H1.o14, H1.o15⟩
    | 11, ho =>
      cases ho
      obtain ⟨bq, e, hq⟩ := h.f10 (hd ⟨10, .data⟩ (by simp) rfl)
      subst e
      have HQ := Lib.hid hq
      clear h hd hq
      simp only [List.length_cons, List.length_nil, Nat.reduceAdd] at HI HQ ⊢
      go_simp
      refine (HY.out ⟨#[115]⟩ (some ⟨bq, 0, none⟩) 1 1 _).mono ?_
      rintro e W1 ⟨rfl, hb⟩
      have H1 := HI.out.keep hb
      exact hK.out _ _ ⟨v4, v5, v15, v16, v17, v18, v19, v20, v21, v22, v23, v24, _, _, rfl, H1.low, H1.f0, H1.f1, H1.f2, H1.f3, H1.f4, H1.f5, H1.f6, H1.f7, H1.f8, H1.f9, H1.f10, fun _ => ⟨_, _, _, rfl, HQ.out.carry hb hb.size⟩, H1.f12, H1.f13, H1.ne, H1.o14, H1.o15⟩
    | 12, ho =>
      cases ho
      clear h
      go_simp
      have hb := (Below.refl W.heap.size W).alloc (Nat.le_refl _) zeroBx
      have H1 := HI.out.keep hb
      exact hK.out _ (W.alloc zeroBx) ⟨ptr W.heap.size, v5, v15, v16, v17, v18, v19, v20, v21, v22, v23, v24, v25, v26, rfl, H1.low, H1.f0, H1.f1, H1.f2, H1.f3, H1.f4, H1.f5, H1.f6, H1.f7, H1.f8, H1.f9, H1.f10, H1.f11, fun _ => ⟨_, rfl, HI.out.low.size, by simp, fun _ => heap_new_at _ _ _ rfl, (fun k => by have := (HI.out.o14 k).1; rw [hfi] at this; cases this)⟩, H1.f13, fun _ k e => by obtain ⟨p, h1, h2, h3, -⟩ := HI.out.f13 k; have := ptr_inj (e.trans h1); omega, (fun k => by have := (HI.out.o14 k).1; rw [hfi] at this; cases this), H1.o15⟩
    | 13, ho =>
      cases ho
      clear h
      go_simp
      have hb := (Below.refl W.heap.size W).alloc (Nat.le_refl _) zeroBx
      have H1 := HI.out.keep hb
      exact hK.out _ (W.alloc zeroBx) ⟨v4, ptr W.heap.size, v15, v16, v17, v18, v19, v20, v21, v22, v23, v24, v25, v26, rfl, H1.low, H1.f0, H1.f1, H1.f2, H1.f3, H1.f4, H1.f5, H1.f6, H1.f7, H1.f8, H1.f9, H1.f10, H1.f11, H1.f12, fun _ => ⟨_, rfl, HI.out.low.size, by simp, fun _ => heap_new_at _ _ _ rfl, (fun k => by have := (HI.out.o15 k).1; rw [hfi] at this; cases this)⟩, fun k _ e => by obtain ⟨p, h1, h2, h3, -⟩ := HI.out.f12 k; have := ptr_inj (h1.symm.trans e); omega, (fun k => by have := (HI.out.o14 k).2; rw [hfi] at this; cases this), (fun k => by have := (HI.out.o15 k).1; rw [hfi] at this; cases this)⟩
    | 14, ho =>
      cases ho
      have dm := hd ⟨12, .data⟩ (by simp) rfl
      have dt := hd ⟨5, .data⟩ (by simp) rfl
      have dz := hd ⟨13, .phase⟩ (by simp) rfl
      obtain ⟨p, e7, h2, h3, h4, -⟩ := h.f12 dm
      obtain ⟨oq, nq, cq, e, hq⟩ := h.f5 dt
      subst e7
      subst e
      have hz := h4 hfi
      have HZ := Lib.hid hz
      have HQ := Lib.hid hq
      have HNE := Lib.hid (h.ne dm dz)
      obtain ⟨⟨c0, c1, c2⟩, g0, g1, g2⟩ := box3 hz
      clear h hd h4 hz hq
      unfold ptr
      go_simp
      exact hK.out _ _ ⟨ptr p, v5, v15, v16, v17, v18, v19, _, v21, v22, v23, v24, v25, v26, rfl, below_set3 HI.out.low (b := p) h2 (.string ⟨#[97, 100, 100]⟩) (.bool false) (.slice oq nq cq), HI.out.f0, fun k => (HI.out.f1 k).setz HZ.out fX (.string ⟨#[97, 100, 100]⟩) (.bool false) (.slice oq nq cq), fun k => (HI.out.f2 k).setz HZ.out fX (.string ⟨#[97, 100, 100]⟩) (.bool false) (.slice oq nq cq), HI.out.f3, fun k => (HI.out.f4 k).setz HZ.out fSXY (.string ⟨#[97, 100, 100]⟩) (.bool false) (.slice oq nq cq), fun k => (HI.out.f5 k).setz HZ.out fSXY (.string ⟨#[97, 100, 100]⟩) (.bool false) (.slice oq nq cq), HI.out.f6, HI.out.f7, fun k => (HI.out.f8 k).setz HZ.out fXY (.string ⟨#[97, 100, 100]⟩) (.bool false) (.slice oq nq cq), fun k => (HI.out.f9 k).setz HZ.out fXY (.string ⟨#[97, 100, 100]⟩) (.bool false) (.slice oq nq cq), fun k => (HI.out.f10 k).setz HZ.out fAXY (.string ⟨#[97, 100, 100]⟩) (.bool false) (.slice oq nq cq), fun k => (HI.out.f11 k).setz HZ.out fAXY (.string ⟨#[97, 100, 100]⟩) (.bool false) (.slice oq nq cq), fun _ => ⟨p, rfl, h2, by simp [World.setCell]; omega, nofun, fun _ => ⟨_, box3_set HZ.out (.string ⟨#[97, 100, 100]⟩) (.bool false) (.slice oq nq cq), HQ.out.setz HZ.out fSXY _ _ _⟩⟩, fun k => by obtain ⟨q, h1, h2, h3, h4, h5⟩ := HI.out.f13 k; have hpq : q ≠ p := fun e => HNE.out (by rw [h1, e]); exact ⟨q, h1, h2, by simp [World.setCell]; omega, fun e => (heap_set3 W p q (.string ⟨#[97, 100, 100]⟩) (.bool false) (.slice oq nq cq) hpq).trans (h4 e), fun e => (h5 e).imp fun _ h6 => ⟨(heap_set3 W p q (.string ⟨#[97, 100, 100]⟩) (.bool false) (.slice oq nq cq) hpq).trans h6.box, h6.is.setz HZ.out fAXY _ _ _⟩⟩, HI.out.ne, fun _ => ⟨dm, dz⟩, fun k => ⟨(HI.out.o15 k).1, rfl⟩⟩
    | 15, ho =>
      cases ho
      have dm := hd ⟨13, .data⟩ (by simp) rfl
      have dt := hd ⟨11, .data⟩ (by simp) rfl
      have dz := hd ⟨12, .phase⟩ (by simp) rfl
      have d14 := hd ⟨14, .chain⟩ (by simp) rfl
      obtain ⟨p, e7, h2, h3, h4, -⟩ := h.f13 dm
      obtain ⟨oq, nq, cq, e, hq⟩ := h.f11 dt
      subst e7
      subst e
      have hz := h4 hfi
      have HZ := Lib.hid hz
      have HQ := Lib.hid hq
      have HNE := Lib.hid (h.ne dz dm)
      obtain ⟨⟨c0, c1, c2⟩, g0, g1, g2⟩ := box3 hz
      clear h hd h4 hz hq
      unfold ptr
      go_simp
      exact hK.out _ _ ⟨v4, ptr p, v15, v16, v17, v18, v19, v20, v21, v22, v23, v24, v25, _, rfl, below_set3 HI.out.low (b := p) h2 (.string ⟨#[115]⟩) (.bool false) (.slice oq nq cq), HI.out.f0, fun k => (HI.out.f1 k).setz HZ.out fX (.string ⟨#[115]⟩) (.bool false) (.slice oq nq cq), fun k => (HI.out.f2 k).setz HZ.out fX (.string ⟨#[115]⟩) (.bool false) (.slice oq nq cq), HI.out.f3, fun k => (HI.out.f4 k).setz HZ.out fSXY (.string ⟨#[115]⟩) (.bool false) (.slice oq nq cq), fun k => (HI.out.f5 k).setz HZ.out fSXY (.string ⟨#[115]⟩) (.bool false) (.slice oq nq cq), HI.out.f6, HI.out.f7, fun k => (HI.out.f8 k).setz HZ.out fXY (.string ⟨#[115]⟩) (.bool false) (.slice oq nq cq), fun k => (HI.out.f9 k).setz HZ.out fXY (.string ⟨#[115]⟩) (.bool false) (.slice oq nq cq), fun k => (HI.out.f10 k).setz HZ.out fAXY (.string ⟨#[115]⟩) (.bool false) (.slice oq nq cq), fun k => (HI.out.f11 k).setz HZ.out fAXY (.string ⟨#[115]⟩) (.bool false) (.slice oq nq cq), fun k => by obtain ⟨q, h1, h2, h3, h4, h5⟩ := HI.out.f12 k; have hpq : q ≠ p := fun e => HNE.out (by rw [h1, e]); exact ⟨q, h1, h2, by simp [World.setCell]; omega, fun e => (heap_set3 W p q (.string ⟨#[115]⟩) (.bool false) (.slice oq nq cq) hpq).trans (h4 e), fun e => (h5 e).imp fun _ h6 => ⟨(heap_set3 W p q (.string ⟨#[115]⟩) (.bool false) (.slice oq nq cq) hpq).trans h6.box, h6.is.setz HZ.out fSXY _ _ _⟩⟩, fun _ => ⟨p, rfl, h2, by simp [World.setCell]; omega, nofun, fun _ => ⟨_, box3_set HZ.out (.string ⟨#[115]⟩) (.bool false) (.slice oq nq cq), HQ.out.setz HZ.out fAXY _ _ _⟩⟩, HI.out.ne, HI.out.o14, fun _ => ⟨dm, d14⟩⟩
    | i + 16, ho => simp at ho
  case hend =>
    rintro f a W ⟨v4, v5, v15, v16, v17, v18, v19, v20, v21, v22, v23, v24, v25, v26, rfl, h⟩ hall
    obtain ⟨p, rfl, -, -, -, h5⟩ := h.f12 (hall 12 (by simp))
    obtain ⟨q, rfl, -, -, -, h6⟩ := h.f13 (hall 13 (by simp))
    obtain ⟨s4, h5⟩ := h5 (hall 14 (by simp))
    obtain ⟨s5, h6⟩ := h6 (hall 15 (by simp))
    obtain ⟨o4, c4, rfl, -⟩ := h5.is.form
    obtain ⟨o5, c5, rfl, -⟩ := h6.is.form
    have HLOW := Lib.hid h.low
    have HS := Lib.hid h5
    have HT := Lib.hid h6
    have HB3 := Lib.hid (HB0.out.trans (HLOW.out.mono HB0.out.size))
    have hrk := (HLOW.out.block w.heap.size hr0).trans HRK0.out
    have HRK : Hid (RksIs W.heap.size W exL6 (.slice (some ⟨w.heap.size, 0, none⟩) 2 2)) := Lib.hid ⟨_, _, rfl, by decide, fun _ => ⟨_, _, rfl, (Array.getElem?_eq_some_iff.1 hrk).1, fun i x hx => by
      match i, hx with
      | 0, hx => cases hx; exact ⟨cells_of' hrk 0, cells_of' hrk 1, cells_of' hrk 2⟩
      | 1, hx => cases hx; exact ⟨cells_of' hrk 3, cells_of' hrk 4, cells_of' hrk 5⟩
      | i + 2, hx => simp [exL6] at hx⟩⟩
    clear h h5 h6 hall hrk
    obtain ⟨⟨x0, x1, x2⟩, -⟩ := box3 HS.out.box
    obtain ⟨⟨y0, y1, y2⟩, -⟩ := box3 HT.out.box
    unfold ptr
    go_wp2_with fail
    refine (pgreater_any exL6 _ exS6 exT6 _ _ W HRK.out (by decide) HS.out.is HT.out.is (by decide) (by decide)).mono ?_
    rintro e wa ⟨⟨c, rfl, hc⟩, hb⟩
    rw [ex6_yes]
    obtain rfl : c = 0 := hc.2 ⟨exL6_ok, exS6_ok, exT6_ok⟩
    have HS1 := Lib.hid (HS.out.carry hb)
    have HT1 := Lib.hid (HT.out.carry hb)
    have HRK1 := Lib.hid (HRK.out.carry hb hb.size)
    have HB4 := Lib.hid (HB3.out.trans (hb.mono HB3.out.size))
    clear hb hc x0 x1 x2 y0 y1 y2
    obtain ⟨⟨x0, x1, x2⟩, -⟩ := box3 HS1.out.box
    obtain ⟨⟨y0, y1, y2⟩, -⟩ := box3 HT1.out.box
    go_wp2_with fail
    refine (pgreater_any exL6 _ exT6 exS6 _ _ wa HRK1.out (by decide) HT1.out.is HS1.out.is (by decide) (by decide)).mono ?_
    rintro e wb ⟨⟨c, rfl, hc⟩, hb⟩
    rw [ex6_no]
    obtain rfl : c = 0 := hc.2 ⟨exL6_ok, exT6_ok, exS6_ok⟩
    have HB5 := Lib.hid (HB4.out.trans (hb.mono HB4.out.size))
    clear hb hc x0 x1 x2 y0 y1 y2
    go_wp2_with fail
    go_ret
    exact ⟨rfl, HB5.out⟩
end Go.Proofs.Ytnomppdmhgefiaa
