/- The chapter's example of a weight order; checkSymbols, Admissible, alive. -/
import Derived.Test.YtnhldpfbmccpfaaWgt
namespace Go.Proofs.Ytnhldpfbmccpfaa
open Go.RowKit Go.Shelf Go.Maps

def nA7 : ByteArray := ⟨#[97]⟩
def nF7 : ByteArray := ⟨#[102]⟩
def tA7 : Tm := .mk nA7 false []
def tF7 : Tm := .mk nF7 false [tA7]
def exL7 : List Rk := [([97], 0, 1), ([102], 1, 0)]
def exM7 : List Rk := [([97], 1, 1), ([102], 1, 0)]
def exS7 : List Sy := [([97], 0), ([102], 1)]
theorem tA7_ok : tA7.ok := ⟨by unfold Tm.formed; decide, by decide, by decide⟩
theorem tF7_ok : tF7.ok := ⟨by unfold Tm.formed; decide, by decide, by decide⟩
theorem exL7_nms {a b c d : Int} : NmsOk [([97], a, b), ([102], c, d)] := by
  intro i p hp
  match i, hp with
  | 0, hp => cases hp; exact ⟨show isName (kb [97]) true = true by decide, fun q h => absurd h (by omega)⟩
  | 1, hp => cases hp; exact ⟨show isName (kb [102]) true = true by decide, fun q _ hq => by cases hq; exact (show ([97] : Key) < [102] by decide)⟩
  | i + 2, hp => simp at hp
theorem exL7_ok : WtOk exL7 1 := by
  refine ⟨by decide, exL7_nms, fun p hp => ?_, by decide⟩
  simp only [exL7, List.mem_cons, List.not_mem_nil, or_false] at hp
  rcases hp with rfl | rfl <;> decide
theorem exM7_ok : WtOk exM7 1 := by
  refine ⟨by decide, exL7_nms, fun p hp => ?_, by decide⟩
  simp only [exM7, List.mem_cons, List.not_mem_nil, or_false] at hp
  rcases hp with rfl | rfl <;> decide
theorem ex7_sy : tF7.sy ++ tA7.sy = [([102], 1), ([97], 0), ([97], 0)] := rfl
theorem ex7_adm : AdmL exL7 1 (tF7.sy ++ tA7.sy) := by
  rw [ex7_sy]
  intro x hx
  simp only [List.mem_cons, List.not_mem_nil, or_false] at hx
  rcases hx with rfl | rfl | rfl
  · refine ⟨by decide, fun _ _ y hy hne => ?_⟩
    simp only [List.mem_cons, List.not_mem_nil, or_false] at hy
    rcases hy with rfl | rfl | rfl
    · exact absurd rfl hne
    · decide
    · decide
  · exact ⟨by decide, fun h => by cases h⟩
  · exact ⟨by decide, fun h => by cases h⟩
theorem ex7_gt : Kbo (wtB exL7) (rkB exL7) 1 tF7 tA7 :=
  .top _ _ (fun k => by rw [show tF7.vs = [] from rfl, show tA7.vs = [] from rfl]; exact Nat.le_refl _) (by decide) rfl rfl (by decide)
theorem ex7_yes : wgB exL7 1 tF7 tA7 = true := wgB_yes.2 ⟨⟨exL7_ok, tF7_ok, tA7_ok, ex7_adm⟩, ex7_gt⟩
theorem ex7_no : admB exM7 1 exS7 = false := admB_no.2 fun h => by
  have := (h ([102], 1) (by decide)).2 rfl (by decide) ([97], 0) (by decide) (by decide)
  revert this; decide
set_option maxRecDepth 100000 in
set_option maxHeartbeats 4000000 in
theorem chkSy_any (S : List Sy) (hS : Hid (∀ x ∈ S, isName (kb x.1) true = true ∧ x.1.length ≤ 1048576 ∧ 0 ≤ x.2 ∧ x.2 ≤ 8)) (hSl : S.length ≤ 1048576) (sv : Value) (w : World) (hs : SyIs w.heap.size w S sv) :
    Calls Try.prog 57 #[sv] w fun e w' => e = .returned (.int .i64 0) ∧ Below w.heap.size w w' := by
  obtain ⟨os, cs, rfl, hcap, hc⟩ := hs
  have HC := Lib.hid hc
  clear hc
  go_enter Try.func57, Try.ntmps57
  go_wp2_with fail
  go_loopw [9] (fun i wr => ∃ k : Nat, k ≤ S.length ∧ i = .int .i64 k ∧ Hid (Below w.heap.size w wr)) (fun i _ => S.length - (intOf i).toNat)
  case atStart => exact ⟨0, by omega, rfl, Lib.hid (Below.refl _ _)⟩
  case round =>
    obtain ⟨k, hk, rfl, HB⟩ := hrel
    by_cases hlt : k < S.length
    · obtain ⟨p, hp⟩ : ∃ p, S[k]? = some p := ⟨_, List.getElem?_eq_getElem hlt⟩
      obtain ⟨b1, o1, rfl, hbn, hc1⟩ := HC.out (by rintro rfl; simp at hlt)
      obtain ⟨c0, c1⟩ := hc1 k p hp
      have c0 := (HB.out.cell (p := ⟨b1, _, none⟩) hbn).trans c0
      have c1 := (HB.out.cell (p := ⟨b1, _, none⟩) hbn).trans c1
      have hn := (hS.out p (List.mem_of_getElem? hp)).1
      have hsz : (kb p.1).size ≤ 1048576 := (hS.out p (List.mem_of_getElem? hp)).2.1
      have HAL : Hid (Below w.heap.size w (wr.alloc (.cells #[.string (kb p.1), .int .i64 p.2] 80))) := Lib.hid (HB.out.alloc HB.out.size _)
      clear hc1 hp
      go_wp2_with fail
      refine (isName_any (kb p.1) true _ hsz).mono ?_
      rintro e w2 ⟨rfl, rfl⟩
      rw [hn]
      go_wp2_with fail
      exact ⟨⟨k + 1, by omega, by go_num, HAL⟩, by simp [intOf]; omega⟩
    · obtain rfl : k = S.length := by omega
      go_wp2_with fail
      go_loopw [20] (fun i wr => ∃ k : Nat, k ≤ S.length ∧ i = .int .i64 k ∧ Hid (Below w.heap.size w wr)) (fun i _ => S.length - (intOf i).toNat)
      case atStart => exact ⟨0, by omega, rfl, HB⟩
      case round =>
        obtain ⟨k, hk, rfl, HB⟩ := hrel
        by_cases hlt : k < S.length
        · obtain ⟨p, hp⟩ : ∃ p, S[k]? = some p := ⟨_, List.getElem?_eq_getElem hlt⟩
          obtain ⟨b1, o1, rfl, hbn, hc1⟩ := HC.out (by rintro rfl; simp at hlt)
          obtain ⟨c0, c1⟩ := hc1 k p hp
          have c0 := (HB.out.cell (p := ⟨b1, _, none⟩) hbn).trans c0
          have c1 := (HB.out.cell (p := ⟨b1, _, none⟩) hbn).trans c1
          have h8 := (hS.out p (List.mem_of_getElem? hp)).2.2
          have h81 := h8.1
          have h82 : ¬ 8 < p.2 := by omega
          have HAL : Hid (Below w.heap.size w (wr.alloc (.cells #[.string (kb p.1), .int .i64 p.2] 80))) := Lib.hid (HB.out.alloc HB.out.size _)
          clear hc1 hp
          go_wp2_with fail
          exact ⟨⟨k + 1, by omega, by go_num, HAL⟩, by simp [intOf]; omega⟩
        · obtain rfl : k = S.length := by omega
          go_wp2_with fail
          go_ret
          exact ⟨rfl, HB.out⟩
set_option maxRecDepth 100000 in
set_option maxHeartbeats 4000000 in
theorem wAdm_yes {L : List Rk} {u : Int} (HP : Hid (WtOk L u)) (S : List Sy) (hS : Hid (∀ x ∈ S, isName (kb x.1) true = true ∧ x.1.length ≤ 1048576 ∧ 0 ≤ x.2 ∧ x.2 ≤ 8)) (hSl : S.length ≤ 1048576) (lv sv : Value) (w : World) (hL : RksIs w.heap.size w L lv) (hLb : rkBulk L ≤ 1048576) (hs : SyIs w.heap.size w S sv) :
    Calls Try.prog 31 #[lv, .int .i64 u, sv] w fun e w' => e = .returned (.tuple #[.bool (admB L u S), .int .i64 0]) ∧ Below w.heap.size w w' := by
  have HL := Lib.hid hL
  have HS := Lib.hid hs
  obtain ⟨ol, cl, rfl, -, -⟩ := hL
  obtain ⟨os, cs, rfl, -, -⟩ := hs
  go_enter Try.func31, Try.ntmps31
  go_wp2_with fail
  refine (wCheck_any L u _ w HL.out hLb).mono ?_
  rintro e w1 ⟨⟨c, rfl, hc⟩, hb⟩
  obtain rfl := hc.2 HP.out
  have HB1 := Lib.hid hb
  clear hb hc
  go_wp2_with fail
  refine (chkSy_any S hS hSl _ w1 (HS.out.carry HB1.out HB1.out.size)).mono ?_
  rintro e w2 ⟨rfl, hb⟩
  have HB2 := Lib.hid (HB1.out.trans (hb.mono HB1.out.size))
  clear hb
  go_wp2_with fail
  refine (isAdm_any HP S (Lib.hid fun x hx => ⟨(hS.out x hx).2.1, (hS.out x hx).2.2.1, by have := (hS.out x hx).2.2.2; omega⟩) (by omega) _ _ w2 (HL.out.carry HB2.out HB2.out.size) (HS.out.carry HB2.out HB2.out.size)).mono ?_
  rintro e w3 ⟨rfl, hb⟩
  have HB3 := Lib.hid (HB2.out.trans (hb.mono HB2.out.size))
  clear hb
  go_wp2_with fail
  go_ret2
  exact ⟨rfl, HB3.out⟩
/-- two entries as they lie -/
theorem RksIs.two {n : Nat} {W : World} {b : Nat} (hb : b < n) {k1 k2 : Key} {r1 w1 r2 w2 : Int} {e : TypeId} (h : W.heap[b]? = some (.cells #[.string (kb k1), .int .i64 r1, .int .i64 w1, .string (kb k2), .int .i64 r2, .int .i64 w2] e (0, 0))) : RksIs n W [(k1, r1, w1), (k2, r2, w2)] (.slice (some ⟨b, 0, none⟩) 2 2) :=
  ⟨_, 2, rfl, Nat.le_refl _, fun _ => ⟨b, 0, rfl, hb, fun i p hp => by
    match i, hp with
    | 0, hp => cases hp; exact ⟨cells_of' h 0, cells_of' h 1, cells_of' h 2⟩
    | 1, hp => cases hp; exact ⟨cells_of' h 3, cells_of' h 4, cells_of' h 5⟩
    | i + 2, hp => simp at hp⟩⟩
theorem SyIs.two {n : Nat} {W : World} {b : Nat} (hb : b < n) {k1 k2 : Key} {r1 r2 : Int} {e : TypeId} (h : W.heap[b]? = some (.cells #[.string (kb k1), .int .i64 r1, .string (kb k2), .int .i64 r2] e (0, 0))) : SyIs n W [(k1, r1), (k2, r2)] (.slice (some ⟨b, 0, none⟩) 2 2) :=
  ⟨_, 2, rfl, Nat.le_refl _, fun _ => ⟨b, 0, rfl, hb, fun i p hp => by
    match i, hp with
    | 0, hp => cases hp; exact ⟨cells_of' h 0, cells_of' h 1⟩
    | 1, hp => cases hp; exact ⟨cells_of' h 2, cells_of' h 3⟩
    | i + 2, hp => simp at hp⟩⟩
set_option maxRecDepth 100000 in
set_option maxHeartbeats 4000000 in
theorem alive7_any (w : World) : Calls Try.prog 12 #[] w fun e w' => e = .returned (.bool true) ∧ Below w.heap.size w w' := by
  go_enter Try.func12, Try.ntmps12
  go_wp2_with fail
  have hB0 : Below w.heap.size w (((w.alloc (.cells #[.string ⟨#[97]⟩, .int .i64 0, .int .i64 1, .string ⟨#[102]⟩, .int .i64 1, .int .i64 0] 67)).alloc (.cells #[.string ⟨#[97]⟩, .bool false, .slice none 0 0] 26)).alloc (.cells #[.string ⟨#[97]⟩, .bool false, .slice none 0 0] 26)) := by go_grown
  have hz0 : (((w.alloc (.cells #[.string ⟨#[97]⟩, .int .i64 0, .int .i64 1, .string ⟨#[102]⟩, .int .i64 1, .int .i64 0] 67)).alloc (.cells #[.string ⟨#[97]⟩, .bool false, .slice none 0 0] 26)).alloc (.cells #[.string ⟨#[97]⟩, .bool false, .slice none 0 0] 26)).heap.size = w.heap.size + 3 := by simp
  have h0 : (((w.alloc (.cells #[.string ⟨#[97]⟩, .int .i64 0, .int .i64 1, .string ⟨#[102]⟩, .int .i64 1, .int .i64 0] 67)).alloc (.cells #[.string ⟨#[97]⟩, .bool false, .slice none 0 0] 26)).alloc (.cells #[.string ⟨#[97]⟩, .bool false, .slice none 0 0] 26)).heap[w.heap.size]? = some (.cells #[.string ⟨#[97]⟩, .int .i64 0, .int .i64 1, .string ⟨#[102]⟩, .int .i64 1, .int .i64 0] 67 (0, 0)) := (Below.heap_alloc _ _ _ (by simp; omega)).trans ((Below.heap_alloc _ _ _ (by simp)).trans (heap_new_at _ _ _ rfl))
  have h2 : (((w.alloc (.cells #[.string ⟨#[97]⟩, .int .i64 0, .int .i64 1, .string ⟨#[102]⟩, .int .i64 1, .int .i64 0] 67)).alloc (.cells #[.string ⟨#[97]⟩, .bool false, .slice none 0 0] 26)).alloc (.cells #[.string ⟨#[97]⟩, .bool false, .slice none 0 0] 26)).heap[w.heap.size + 2]? = some (.cells #[.string ⟨#[97]⟩, .bool false, .slice none 0 0] 26 (0, 0)) := heap_new_at _ _ _ (by simp)
  have hc := wgreater_any exL7 1 (.slice (some ⟨w.heap.size, 0, none⟩) 2 2) tF7 tA7 (.slice (some ⟨w.heap.size + 2, 0, none⟩) 1 1) (.slice none 0 0) (((w.alloc (.cells #[.string ⟨#[97]⟩, .int .i64 0, .int .i64 1, .string ⟨#[102]⟩, .int .i64 1, .int .i64 0] 67)).alloc (.cells #[.string ⟨#[97]⟩, .bool false, .slice none 0 0] 26)).alloc (.cells #[.string ⟨#[97]⟩, .bool false, .slice none 0 0] 26)) (RksIs.two (by rw [hz0]; omega) h0) (by decide)
    (SlIs.row (w.heap.size + 2) 0 1 [tA7] (fun _ => .slice none 0 0) (by simp) (by rw [hz0]; omega) (Nat.le_refl _) (fun i t hi => by
      match i, hi with
      | 0, hi => cases hi; exact ⟨cells_of' h2 0, cells_of' h2 1, cells_of' h2 2⟩
      | i + 1, hi => simp at hi) (fun i t hi => by
      match i, hi with
      | 0, hi => cases hi; exact .nil0
      | i + 1, hi => simp at hi) (fun i _ => frozen_of' h2 _)) .nil0 (by decide) (by decide)
  refine Calls.mono hc ?_
  rintro e w1 ⟨⟨c, rfl, hc⟩, hb⟩
  obtain rfl := hc.2 ⟨exL7_ok, tF7_ok, tA7_ok, ex7_adm⟩
  rw [ex7_yes]
  have HB1 := Lib.hid (hB0.trans (hb.mono hB0.size))
  clear hB0 hz0 h0 h2 hc hb
  go_wp2_with fail
  have hB0 : Below w1.heap.size w1 ((w1.alloc (.cells #[.string ⟨#[97]⟩, .int .i64 1, .int .i64 1, .string ⟨#[102]⟩, .int .i64 1, .int .i64 0] 67)).alloc (.cells #[.string ⟨#[97]⟩, .int .i64 0, .string ⟨#[102]⟩, .int .i64 1] 80)) := by go_grown
  have hz0 : ((w1.alloc (.cells #[.string ⟨#[97]⟩, .int .i64 1, .int .i64 1, .string ⟨#[102]⟩, .int .i64 1, .int .i64 0] 67)).alloc (.cells #[.string ⟨#[97]⟩, .int .i64 0, .string ⟨#[102]⟩, .int .i64 1] 80)).heap.size = w1.heap.size + 2 := by simp
  have h0 : ((w1.alloc (.cells #[.string ⟨#[97]⟩, .int .i64 1, .int .i64 1, .string ⟨#[102]⟩, .int .i64 1, .int .i64 0] 67)).alloc (.cells #[.string ⟨#[97]⟩, .int .i64 0, .string ⟨#[102]⟩, .int .i64 1] 80)).heap[w1.heap.size]? = some (.cells #[.string ⟨#[97]⟩, .int .i64 1, .int .i64 1, .string ⟨#[102]⟩, .int .i64 1, .int .i64 0] 67 (0, 0)) := (Below.heap_alloc _ _ _ (by simp)).trans (heap_new_at _ _ _ rfl)
  have h2 : ((w1.alloc (.cells #[.string ⟨#[97]⟩, .int .i64 1, .int .i64 1, .string ⟨#[102]⟩, .int .i64 1, .int .i64 0] 67)).alloc (.cells #[.string ⟨#[97]⟩, .int .i64 0, .string ⟨#[102]⟩, .int .i64 1] 80)).heap[w1.heap.size + 1]? = some (.cells #[.string ⟨#[97]⟩, .int .i64 0, .string ⟨#[102]⟩, .int .i64 1] 80 (0, 0)) := heap_new_at _ _ _ (by simp)
  have hc := wAdm_yes (Lib.hid exM7_ok) exS7 (Lib.hid fun x hx => by
      simp only [exS7, List.mem_cons, List.not_mem_nil, or_false] at hx
      rcases hx with rfl | rfl <;> decide) (by decide) (.slice (some ⟨w1.heap.size, 0, none⟩) 2 2) (.slice (some ⟨w1.heap.size + 1, 0, none⟩) 2 2) ((w1.alloc (.cells #[.string ⟨#[97]⟩, .int .i64 1, .int .i64 1, .string ⟨#[102]⟩, .int .i64 1, .int .i64 0] 67)).alloc (.cells #[.string ⟨#[97]⟩, .int .i64 0, .string ⟨#[102]⟩, .int .i64 1] 80)) (RksIs.two (by rw [hz0]; omega) h0) (by decide) (SyIs.two (by rw [hz0]; omega) h2)
  rw [ex7_no] at hc
  refine Calls.mono hc ?_
  rintro e w2 ⟨rfl, hb⟩
  have HB2 := Lib.hid (HB1.out.trans (hB0.mono HB1.out.size))
  have HB3 := Lib.hid (HB2.out.trans (hb.mono HB2.out.size))
  clear hB0 hz0 h0 h2 hc hb
  go_wp2_with fail
  go_ret
  exact ⟨rfl, HB3.out⟩
end Go.Proofs.Ytnhldpfbmccpfaa
