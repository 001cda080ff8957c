/- Packed: Ft7. -/
import Derived.Test.YtnomppdmhgefiaaGreatF22
import Derived.Test.YtnomppdmhgefiaaGreatF24
/- Merged: Al7, Ft7. -/
/- The chapter's example of a weight order; checkSymbols, Admissible, alive. -/
namespace Go.Proofs.YtnomppdmhgefiaaGreat
open Go.RowKit Go.Shelf Go.Maps

def nA7 : ByteArray := ⟨#[97]⟩
def nF7 : ByteArray := ⟨#[102]⟩
def tA7 : Tm := .mk nA7 false []
def tF7 : Tm := .mk nF7 false [tA7]
def exL7 : List Rk := [([97], 0, 1), ([102], 1, 0)]
def exM7 : List Rk := [([97], 1, 1), ([102], 1, 0)]
def exS7 : List Sy := [([97], 0), ([102], 1)]
theorem tA7_ok : tA7.ok := ⟨by unfold Tm.formed; decide, by decide, by decide⟩
theorem tF7_ok : tF7.ok := ⟨by unfold Tm.formed; decide, by decide, by decide⟩
theorem exL7_nms {a b c d : Int} : NmsOk [([97], a, b), ([102], c, d)] := by
  intro i p hp
  match i, hp with
  | 0, hp => cases hp; exact ⟨show isName (kb [97]) true = true by decide, fun q h => absurd h (by omega)⟩
  | 1, hp => cases hp; exact ⟨show isName (kb [102]) true = true by decide, fun q _ hq => by cases hq; exact (show ([97] : Key) < [102] by decide)⟩
  | i + 2, hp => simp at hp
theorem exL7_ok : WtOk exL7 1 := by
  refine ⟨by decide, exL7_nms, fun p hp => ?_, by decide⟩
  simp only [exL7, List.mem_cons, List.not_mem_nil, or_false] at hp
  rcases hp with rfl | rfl <;> decide
theorem exM7_ok : WtOk exM7 1 := by
  refine ⟨by decide, exL7_nms, fun p hp => ?_, by decide⟩
  simp only [exM7, List.mem_cons, List.not_mem_nil, or_false] at hp
  rcases hp with rfl | rfl <;> decide
theorem ex7_sy : tF7.sy ++ tA7.sy = [([102], 1), ([97], 0), ([97], 0)] := rfl
theorem ex7_adm : AdmL exL7 1 (tF7.sy ++ tA7.sy) := by
  rw [ex7_sy]
  intro x hx
  simp only [List.mem_cons, List.not_mem_nil, or_false] at hx
  rcases hx with rfl | rfl | rfl
  · refine ⟨by decide, fun _ _ y hy hne => ?_⟩
    simp only [List.mem_cons, List.not_mem_nil, or_false] at hy
    rcases hy with rfl | rfl | rfl
    · exact absurd rfl hne
    · decide
    · decide
  · exact ⟨by decide, fun h => by cases h⟩
  · exact ⟨by decide, fun h => by cases h⟩
theorem ex7_gt : Kbo (wtB exL7) (rkB exL7) 1 tF7 tA7 :=
  .top _ _ (fun k => by rw [show tF7.vs = [] from rfl, show tA7.vs = [] from rfl]; exact Nat.le_refl _) (by decide) rfl rfl (by decide)
theorem ex7_yes : wgB exL7 1 tF7 tA7 = true := wgB_yes.2 ⟨⟨exL7_ok, tF7_ok, tA7_ok, ex7_adm⟩, ex7_gt⟩
theorem ex7_no : admB exM7 1 exS7 = false := admB_no.2 fun h => by
  have := (h ([102], 1) (by decide)).2 rfl (by decide) ([97], 0) (by decide) (by decide)
  revert this; decide
set_option maxRecDepth 100000 in
set_option maxHeartbeats 4000000 in
theorem chkSy_any (S : List Sy) (hS : Hid (∀ x ∈ S, isName (kb x.1) true = true ∧ x.1.length ≤ 1048576 ∧ 0 ≤ x.2 ∧ x.2 ≤ 8)) (hSl : S.length ≤ 1048576) (sv : Value) (w : World) (hs : SyIs w.heap.size w S sv) :
    Calls Tryz.prog 134 #[sv] w fun e w' => e = .returned (.int .i64 0) ∧ Below w.heap.size w w' := by
  obtain ⟨os, cs, rfl, hcap, hc⟩ := hs
  have HC := Lib.hid hc
  clear hc
  go_enter Tryz.func134, Tryz.ntmps134
  go_wp2_with fail
  go_loopw [9] (fun i wr => ∃ k : Nat, k ≤ S.length ∧ i = .int .i64 k ∧ Hid (Below w.heap.size w wr)) (fun i _ => S.length - (intOf i).toNat)
  case atStart => exact ⟨0, by omega, rfl, Lib.hid (Below.refl _ _)⟩
  case round =>
    obtain ⟨k, hk, rfl, HB⟩ := hrel
    by_cases hlt : k < S.length
    · obtain ⟨p, hp⟩ : ∃ p, S[k]? = some p := ⟨_, List.getElem?_eq_getElem hlt⟩
      obtain ⟨b1, o1, rfl, hbn, hc1⟩ := HC.out (by rintro rfl; simp at hlt)
      obtain ⟨c0, c1⟩ := hc1 k p hp
      have c0 := (HB.out.cell (p := ⟨b1, _, none⟩) hbn).trans c0
      have c1 := (HB.out.cell (p := ⟨b1, _, none⟩) hbn).trans c1
      have hn := (hS.out p (List.mem_of_getElem? hp)).1
      have hsz : (kb p.1).size ≤ 1048576 := (hS.out p (List.mem_of_getElem? hp)).2.1
      have HAL : Hid (Below w.heap.size w (wr.alloc (.cells #[.string (kb p.1), .int .i64 p.2] 141))) := Lib.hid (HB.out.alloc HB.out.size _)
      clear hc1 hp
      go_wp2_with fail
      refine (isName_any (kb p.1) true _ hsz).mono ?_
      rintro e w2 ⟨rfl, rfl⟩
      rw [hn]
      go_wp2_with fail
      exact ⟨⟨k + 1, by omega, by go_num, HAL⟩, by simp [intOf]; omega⟩
    · obtain rfl : k = S.length := by omega
      go_wp2_with fail
      go_loopw [20] (fun i wr => ∃ k : Nat, k ≤ S.length ∧ i = .int .i64 k ∧ Hid (Below w.heap.size w wr)) (fun i _ => S.length - (intOf i).toNat)
      case atStart => exact ⟨0, by omega, rfl, HB⟩
      case round =>
        obtain ⟨k, hk, rfl, HB⟩ := hrel
        by_cases hlt : k < S.length
        · obtain ⟨p, hp⟩ : ∃ p, S[k]? = some p := ⟨_, List.getElem?_eq_getElem hlt⟩
          obtain ⟨b1, o1, rfl, hbn, hc1⟩ := HC.out (by rintro rfl; simp at hlt)
          obtain ⟨c0, c1⟩ := hc1 k p hp
          have c0 := (HB.out.cell (p := ⟨b1, _, none⟩) hbn).trans c0
          have c1 := (HB.out.cell (p := ⟨b1, _, none⟩) hbn).trans c1
          have h8 := (hS.out p (List.mem_of_getElem? hp)).2.2
          have h81 := h8.1
          have h82 : ¬ 8 < p.2 := by omega
          have HAL : Hid (Below w.heap.size w (wr.alloc (.cells #[.string (kb p.1), .int .i64 p.2] 141))) := Lib.hid (HB.out.alloc HB.out.size _)
          clear hc1 hp
          go_wp2_with fail
          exact ⟨⟨k + 1, by omega, by go_num, HAL⟩, by simp [intOf]; omega⟩
        · obtain rfl : k = S.length := by omega
          go_wp2_with fail
          go_ret
          exact ⟨rfl, HB.out⟩
set_option maxRecDepth 100000 in
set_option maxHeartbeats 4000000 in
theorem wAdm_yes {L : List Rk} {u : Int} (HP : Hid (WtOk L u)) (S : List Sy) (hS : Hid (∀ x ∈ S, isName (kb x.1) true = true ∧ x.1.length ≤ 1048576 ∧ 0 ≤ x.2 ∧ x.2 ≤ 8)) (hSl : S.length ≤ 1048576) (lv sv : Value) (w : World) (hL : RksIs w.heap.size w L lv) (hLb : rkBulk L ≤ 1048576) (hs : SyIs w.heap.size w S sv) :
    Calls Tryz.prog 75 #[lv, .int .i64 u, sv] w fun e w' => e = .returned (.tuple #[.bool (admB L u S), .int .i64 0]) ∧ Below w.heap.size w w' := by
  have HL := Lib.hid hL
  have HS := Lib.hid hs
  obtain ⟨ol, cl, rfl, -, -⟩ := hL
  obtain ⟨os, cs, rfl, -, -⟩ := hs
  go_enter Tryz.func75, Tryz.ntmps75
  go_wp2_with fail
  refine (wCheck_any L u _ w HL.out hLb).mono ?_
  rintro e w1 ⟨⟨c, rfl, hc⟩, hb⟩
  obtain rfl := hc.2 HP.out
  have HB1 := Lib.hid hb
  clear hb hc
  go_wp2_with fail
  refine (chkSy_any S hS hSl _ w1 (HS.out.carry HB1.out HB1.out.size)).mono ?_
  rintro e w2 ⟨rfl, hb⟩
  have HB2 := Lib.hid (HB1.out.trans (hb.mono HB1.out.size))
  clear hb
  go_wp2_with fail
  refine (isAdm_any HP S (Lib.hid fun x hx => ⟨(hS.out x hx).2.1, (hS.out x hx).2.2.1, by have := (hS.out x hx).2.2.2; omega⟩) (by omega) _ _ w2 (HL.out.carry HB2.out HB2.out.size) (HS.out.carry HB2.out HB2.out.size)).mono ?_
  rintro e w3 ⟨rfl, hb⟩
  have HB3 := Lib.hid (HB2.out.trans (hb.mono HB2.out.size))
  clear hb
  go_wp2_with fail
  go_ret2
  exact ⟨rfl, HB3.out⟩
/-- two entries as they lie -/
theorem RksIs.two {n : Nat} {W : World} {b : Nat} (hb : b < n) {k1 k2 : Key} {r1 w1 r2 w2 : Int} {e : TypeId} (h : W.heap[b]? = some (.cells #[.string (kb k1), .int .i64 r1, .int .i64 w1, .string (kb k2), .int .i64 r2, .int .i64 w2] e (0, 0))) : RksIs n W [(k1, r1, w1), (k2, r2, w2)] (.slice (some ⟨b, 0, none⟩) 2 2) :=
  ⟨_, 2, rfl, Nat.le_refl _, fun _ => ⟨b, 0, rfl, hb, fun i p hp => by
    match i, hp with
    | 0, hp => cases hp; exact ⟨cells_of' h 0, cells_of' h 1, cells_of' h 2⟩
    | 1, hp => cases hp; exact ⟨cells_of' h 3, cells_of' h 4, cells_of' h 5⟩
    | i + 2, hp => simp at hp⟩⟩
theorem SyIs.two {n : Nat} {W : World} {b : Nat} (hb : b < n) {k1 k2 : Key} {r1 r2 : Int} {e : TypeId} (h : W.heap[b]? = some (.cells #[.string (kb k1), .int .i64 r1, .string (kb k2), .int .i64 r2] e (0, 0))) : SyIs n W [(k1, r1), (k2, r2)] (.slice (some ⟨b, 0, none⟩) 2 2) :=
  ⟨_, 2, rfl, Nat.le_refl _, fun _ => ⟨b, 0, rfl, hb, fun i p hp => by
    match i, hp with
    | 0, hp => cases hp; exact ⟨cells_of' h 0, cells_of' h 1⟩
    | 1, hp => cases hp; exact ⟨cells_of' h 2, cells_of' h 3⟩
    | i + 2, hp => simp at hp⟩⟩
set_option maxRecDepth 100000 in
set_option maxHeartbeats 4000000 in
theorem alive7_any (w : World) : Calls Tryz.prog 29 #[] w fun e w' => e = .returned (.bool true) ∧ Below w.heap.size w w' := by
  go_enter Tryz.func29, Tryz.ntmps29
  go_wp2_with fail
  have hB0 : Below w.heap.size w (((w.alloc (.cells #[.string ⟨#[97]⟩, .int .i64 0, .int .i64 1, .string ⟨#[102]⟩, .int .i64 1, .int .i64 0] 137)).alloc (.cells #[.string ⟨#[97]⟩, .bool false, .slice none 0 0] 25)).alloc (.cells #[.string ⟨#[97]⟩, .bool false, .slice none 0 0] 25)) := by go_grown
  have hz0 : (((w.alloc (.cells #[.string ⟨#[97]⟩, .int .i64 0, .int .i64 1, .string ⟨#[102]⟩, .int .i64 1, .int .i64 0] 137)).alloc (.cells #[.string ⟨#[97]⟩, .bool false, .slice none 0 0] 25)).alloc (.cells #[.string ⟨#[97]⟩, .bool false, .slice none 0 0] 25)).heap.size = w.heap.size + 3 := by simp
  have h0 : (((w.alloc (.cells #[.string ⟨#[97]⟩, .int .i64 0, .int .i64 1, .string ⟨#[102]⟩, .int .i64 1, .int .i64 0] 137)).alloc (.cells #[.string ⟨#[97]⟩, .bool false, .slice none 0 0] 25)).alloc (.cells #[.string ⟨#[97]⟩, .bool false, .slice none 0 0] 25)).heap[w.heap.size]? = some (.cells #[.string ⟨#[97]⟩, .int .i64 0, .int .i64 1, .string ⟨#[102]⟩, .int .i64 1, .int .i64 0] 137 (0, 0)) := (Below.heap_alloc _ _ _ (by simp; omega)).trans ((Below.heap_alloc _ _ _ (by simp)).trans (heap_new_at _ _ _ rfl))
  have h2 : (((w.alloc (.cells #[.string ⟨#[97]⟩, .int .i64 0, .int .i64 1, .string ⟨#[102]⟩, .int .i64 1, .int .i64 0] 137)).alloc (.cells #[.string ⟨#[97]⟩, .bool false, .slice none 0 0] 25)).alloc (.cells #[.string ⟨#[97]⟩, .bool false, .slice none 0 0] 25)).heap[w.heap.size + 2]? = some (.cells #[.string ⟨#[97]⟩, .bool false, .slice none 0 0] 25 (0, 0)) := heap_new_at _ _ _ (by simp)
  have hc := wgreater_any exL7 1 (.slice (some ⟨w.heap.size, 0, none⟩) 2 2) tF7 tA7 (.slice (some ⟨w.heap.size + 2, 0, none⟩) 1 1) (.slice none 0 0) (((w.alloc (.cells #[.string ⟨#[97]⟩, .int .i64 0, .int .i64 1, .string ⟨#[102]⟩, .int .i64 1, .int .i64 0] 137)).alloc (.cells #[.string ⟨#[97]⟩, .bool false, .slice none 0 0] 25)).alloc (.cells #[.string ⟨#[97]⟩, .bool false, .slice none 0 0] 25)) (RksIs.two (by rw [hz0]; omega) h0) (by decide)
    (SlIs.row (w.heap.size + 2) 0 1 [tA7] (fun _ => .slice none 0 0) (by simp) (by rw [hz0]; omega) (Nat.le_refl _) (fun i t hi => by
      match i, hi with
      | 0, hi => cases hi; exact ⟨cells_of' h2 0, cells_of' h2 1, cells_of' h2 2⟩
      | i + 1, hi => simp at hi) (fun i t hi => by
      match i, hi with
      | 0, hi => cases hi; exact .nil0
      | i + 1, hi => simp at hi) (fun i _ => frozen_of' h2 _)) .nil0 (by decide) (by decide)
  refine Calls.mono hc ?_
  rintro e w1 ⟨⟨c, rfl, hc⟩, hb⟩
  obtain rfl := hc.2 ⟨exL7_ok, tF7_ok, tA7_ok, ex7_adm⟩
  rw [ex7_yes]
  have HB1 := Lib.hid (hB0.trans (hb.mono hB0.size))
  clear hB0 hz0 h0 h2 hc hb
  go_wp2_with fail
  have hB0 : Below w1.heap.size w1 ((w1.alloc (.cells #[.string ⟨#[97]⟩, .int .i64 1, .int .i64 1, .string ⟨#[102]⟩, .int .i64 1, .int .i64 0] 137)).alloc (.cells #[.string ⟨#[97]⟩, .int .i64 0, .string ⟨#[102]⟩, .int .i64 1] 141)) := by go_grown
  have hz0 : ((w1.alloc (.cells #[.string ⟨#[97]⟩, .int .i64 1, .int .i64 1, .string ⟨#[102]⟩, .int .i64 1, .int .i64 0] 137)).alloc (.cells #[.string ⟨#[97]⟩, .int .i64 0, .string ⟨#[102]⟩, .int .i64 1] 141)).heap.size = w1.heap.size + 2 := by simp
  have h0 : ((w1.alloc (.cells #[.string ⟨#[97]⟩, .int .i64 1, .int .i64 1, .string ⟨#[102]⟩, .int .i64 1, .int .i64 0] 137)).alloc (.cells #[.string ⟨#[97]⟩, .int .i64 0, .string ⟨#[102]⟩, .int .i64 1] 141)).heap[w1.heap.size]? = some (.cells #[.string ⟨#[97]⟩, .int .i64 1, .int .i64 1, .string ⟨#[102]⟩, .int .i64 1, .int .i64 0] 137 (0, 0)) := (Below.heap_alloc _ _ _ (by simp)).trans (heap_new_at _ _ _ rfl)
  have h2 : ((w1.alloc (.cells #[.string ⟨#[97]⟩, .int .i64 1, .int .i64 1, .string ⟨#[102]⟩, .int .i64 1, .int .i64 0] 137)).alloc (.cells #[.string ⟨#[97]⟩, .int .i64 0, .string ⟨#[102]⟩, .int .i64 1] 141)).heap[w1.heap.size + 1]? = some (.cells #[.string ⟨#[97]⟩, .int .i64 0, .string ⟨#[102]⟩, .int .i64 1] 141 (0, 0)) := heap_new_at _ _ _ (by simp)
  have hc := wAdm_yes (Lib.hid exM7_ok) exS7 (Lib.hid fun x hx => by
      simp only [exS7, List.mem_cons, List.not_mem_nil, or_false] at hx
      rcases hx with rfl | rfl <;> decide) (by decide) (.slice (some ⟨w1.heap.size, 0, none⟩) 2 2) (.slice (some ⟨w1.heap.size + 1, 0, none⟩) 2 2) ((w1.alloc (.cells #[.string ⟨#[97]⟩, .int .i64 1, .int .i64 1, .string ⟨#[102]⟩, .int .i64 1, .int .i64 0] 137)).alloc (.cells #[.string ⟨#[97]⟩, .int .i64 0, .string ⟨#[102]⟩, .int .i64 1] 141)) (RksIs.two (by rw [hz0]; omega) h0) (by decide) (SyIs.two (by rw [hz0]; omega) h2)
  rw [ex7_no] at hc
  refine Calls.mono hc ?_
  rintro e w2 ⟨rfl, hb⟩
  have HB2 := Lib.hid (HB1.out.trans (hB0.mono HB1.out.size))
  have HB3 := Lib.hid (HB2.out.trans (hb.mono HB2.out.size))
  clear hB0 hz0 h0 h2 hc hb
  go_wp2_with fail
  go_ret
  exact ⟨rfl, HB3.out⟩
end Go.Proofs.YtnomppdmhgefiaaGreat
/- Stage 7: the law's fits. -/
namespace Go.Proofs.YtnomppdmhgefiaaGreat
open Go.RowKit Go.Shelf Go.Maps

/-- the order is valid and admissible for the symbols of all terms -/
def FT (L : List Rk) (u : Int) (l : List Tm) : Prop := WtOk L u ∧ (∀ t ∈ l, t.ok) ∧ AdmL L u (Tm.ofs l)
open Classical in
noncomputable def ftB (L : List Rk) (u : Int) (l : List Tm) : Bool := decide (FT L u l)
open Classical in
theorem ftB_yes {L : List Rk} {u : Int} {l : List Tm} : ftB L u l = true ↔ FT L u l := by unfold ftB; exact decide_eq_true_iff
open Classical in
theorem ftB_no {L : List Rk} {u : Int} {l : List Tm} : ftB L u l = false ↔ ¬ FT L u l := by unfold ftB; exact decide_eq_false_iff_not
structure FtSt (w W : World) (lv : Value) (u : Int) : Prop where
  o : W.heap[w.heap.size]? = some (.cells #[lv, .int .i64 u] 56 (0, 0))
  low : Below w.heap.size w W
theorem FtSt.carry {w A W : World} {lv : Value} {u : Int} (h : FtSt w A lv u) (hb : Below A.heap.size A W) : FtSt w W lv u :=
  ⟨(hb.block _ (Array.getElem?_eq_some_iff.1 h.o).1).trans h.o, h.low.trans (hb.mono h.low.size)⟩
theorem FtSt.two {w W : World} {lv : Value} {u : Int} (h : FtSt w W lv u) : W.cell? ⟨w.heap.size, 0, none⟩ = some lv ∧ W.cell? ⟨w.heap.size, 1, none⟩ = some (.int .i64 u) := (box2w h.o).1
set_option maxRecDepth 100000 in
set_option maxHeartbeats 4000000 in
theorem fits7_sz (L : List Rk) (u : Int) (l : List Tm) (lv sv : Value) (w : World) (hL : RksIs w.heap.size w L lv) (hLb : rkBulk L ≤ 1048576) (hs : SlIs w.heap.size w l sv) (hub : ∀ t ∈ l, t.bulk ≤ 1048576) (hsz : Tm.sizes l ≤ 8589934592) (hll : l.length ≤ 4194304) :
    Calls Tryz.prog 27 #[.agg #[lv, .int .i64 u], sv] w fun e w' => e = .returned (.bool (ftB L u l)) ∧ Below w.heap.size w w' := by
  obtain ⟨os, cs, rfl, -⟩ := hs.form
  have hL' := hL
  obtain ⟨ol, cl, rfl, -, -⟩ := hL'
  have hlen := Nat.le_trans (rkBulk_len L) hLb
  have HUB := Lib.hid hub
  clear hub
  have HL := Lib.hid hL
  have HS := Lib.hid hs
  have HLB := Lib.hid hLb
  have H0 : Hid (FtSt w (w.alloc (.cells #[.slice ol L.length cl, .int .i64 u] 56)).drew (.slice ol L.length cl) u) := Lib.hid ⟨heap_new_at _ _ _ rfl, by go_grown⟩
  clear hL hs hLb
  go_enter Tryz.func27, Tryz.ntmps27
  go_wp2_with fail
  refine wp_region_noPanic ?_
  refine wp_region_held_drew (S := fun w' => w'.cell? ⟨w.heap.size, 0, none⟩ = some (.slice ol L.length cl) ∧ w'.cell? ⟨w.heap.size, 1, none⟩ = some (.int .i64 u)) (by kernel_rfl) H0.out.two (fun _ => ?_)
  simp only [List.size_toArray, List.length_cons, List.length_nil, Nat.reduceAdd]
  refine wpAnyH_take (i := 0) (v := ?_) (by simp only [List.getElem?_toArray, List.getElem?_cons_zero]; rfl) (by kernel_rfl) (by kernel_rfl) (by kernel_rfl) (fun _ _ _ h => h) (Or.inl ⟨by rfl, ?_⟩) H0.out.two ?_
  case refine_2 => (intro ww hSw; obtain ⟨s1, s2⟩ := hSw; go_simp; try with_reducible rfl)
  try simp only [Act.put, List.setIfInBounds_toArray, List.set_cons_zero, List.set_cons_succ]
  refine wpAnyH_take (i := 1) (v := ?_) (by simp only [List.getElem?_toArray, List.getElem?_cons_zero, List.getElem?_cons_succ]; rfl) (by kernel_rfl) (by kernel_rfl) (by kernel_rfl) (fun _ _ _ h => h) (Or.inl ⟨by rfl, ?_⟩) H0.out.two ?_
  case refine_2 => (intro ww hSw; obtain ⟨s1, s2⟩ := hSw; go_simp; try with_reducible rfl)
  try simp only [Act.put, List.setIfInBounds_toArray, List.set_cons_zero, List.set_cons_succ]
  refine wpAnyH_take (i := 2) (v := ?_) (by simp only [List.getElem?_toArray, List.getElem?_cons_zero, List.getElem?_cons_succ]; rfl) (by kernel_rfl) (by kernel_rfl) (by kernel_rfl) (fun _ _ _ h => h) (Or.inl ⟨by rfl, ?_⟩) H0.out.two ?_
  case refine_2 => (intro ww hSw; obtain ⟨s1, s2⟩ := hSw; go_simp; try with_reducible rfl)
  try simp only [Act.put, List.setIfInBounds_toArray, List.set_cons_zero, List.set_cons_succ]
  refine wpAnyH_take (i := 3) (v := ?_) (by simp only [List.getElem?_toArray, List.getElem?_cons_zero, List.getElem?_cons_succ]; rfl) (by kernel_rfl) (by kernel_rfl) (by kernel_rfl) (fun _ _ _ h => h) (Or.inl ⟨by rfl, ?_⟩) H0.out.two ?_
  case refine_2 => (intro ww hSw; obtain ⟨s1, s2⟩ := hSw; go_simp; try with_reducible rfl)
  try simp only [Act.put, List.setIfInBounds_toArray, List.set_cons_zero, List.set_cons_succ]
  refine wpAnyH_ready (rs := [4]) (by kernel_rfl) (by simp) ?_
  refine AllReadyH.cons (by simp only [List.getElem?_toArray, List.getElem?_cons_zero, List.getElem?_cons_succ]; rfl) (fun K' hK => ?_) AllReadyH.nil
  go_simp
  refine (r7Check_any L u (.slice ol L.length cl) _ (HL.out.carry H0.out.low H0.out.low.size) HLB.out).mono ?_
  rintro e w1 ⟨⟨c, rfl, hc⟩, hb1⟩
  have H1 := Lib.hid (H0.out.carry hb1)
  have HC := Lib.hid hc
  clear hb1 hc
  refine hK.out _ _ H1.out.two (fun _ => ?_)
  clear hK
  try simp only [Act.put, List.setIfInBounds_toArray, List.set_cons_zero, List.set_cons_succ]
  by_cases hc0 : c = 0
  case neg =>
    have hd : (c == 0) = false := by rw [beq_eq_false_iff_ne]; exact hc0
    have HF : Hid (ftB L u l = false) := Lib.hid (ftB_no.2 fun h => hc0 (HC.out.2 h.1))
    clear hc0
    refine wpAnyH_take (i := 5) (v := ?_) (by simp only [List.getElem?_toArray, List.getElem?_cons_zero, List.getElem?_cons_succ]; rfl) (by kernel_rfl) (by kernel_rfl) (by kernel_rfl) (fun _ _ _ h => h) (Or.inl ⟨by rfl, ?_⟩) H1.out.two ?_
    case refine_2 => (intro ww hSw; obtain ⟨s1, s2⟩ := hSw; go_simp; try with_reducible rfl)
    try simp only [Act.put, List.setIfInBounds_toArray, List.set_cons_zero, List.set_cons_succ]
    refine wpAnyH_take (i := 6) (v := ?_) (by simp only [List.getElem?_toArray, List.getElem?_cons_zero, List.getElem?_cons_succ]; rfl) (by kernel_rfl) (by kernel_rfl) (by kernel_rfl) (fun _ _ _ h => h) (Or.inl ⟨by rfl, ?_⟩) H1.out.two ?_
    case refine_2 => (intro ww hSw; obtain ⟨s1, s2⟩ := hSw; go_simp; try with_reducible rfl)
    try simp only [Act.put, List.setIfInBounds_toArray, List.set_cons_zero, List.set_cons_succ]
    refine wpAnyH_take (i := 7) (v := _) (by simp only [List.getElem?_toArray, List.getElem?_cons_zero, List.getElem?_cons_succ]; rfl) (by kernel_rfl) (by kernel_rfl) (by kernel_rfl) (fun _ _ _ h => h) (Or.inr ⟨by rfl, rfl⟩) H1.out.two ?_
    try simp only [Act.put, List.setIfInBounds_toArray, List.set_cons_zero, List.set_cons_succ]
    refine wpAnyH_take (i := 8) (v := _) (by simp only [List.getElem?_toArray, List.getElem?_cons_zero, List.getElem?_cons_succ]; rfl) (by kernel_rfl) (by kernel_rfl) (by kernel_rfl) (fun _ _ _ h => h) (Or.inr ⟨by rfl, rfl⟩) H1.out.two ?_
    try simp only [Act.put, List.setIfInBounds_toArray, List.set_cons_zero, List.set_cons_succ]
    refine wpAnyH_take (i := 9) (v := _) (by simp only [List.getElem?_toArray, List.getElem?_cons_zero, List.getElem?_cons_succ]; rfl) (by kernel_rfl) (by kernel_rfl) (by kernel_rfl) (fun _ _ _ h => h) (Or.inr ⟨by rfl, rfl⟩) H1.out.two ?_
    try simp only [Act.put, List.setIfInBounds_toArray, List.set_cons_zero, List.set_cons_succ]
    refine wpAnyH_take (i := 10) (v := ?_) (by simp only [List.getElem?_toArray, List.getElem?_cons_zero, List.getElem?_cons_succ]; rfl) (by kernel_rfl) (by kernel_rfl) (by kernel_rfl) (fun _ _ _ h => h) (Or.inl ⟨by rfl, ?_⟩) H1.out.two ?_
    case refine_2 => (intro ww hSw; obtain ⟨s1, s2⟩ := hSw; go_simp; try with_reducible rfl)
    try simp only [Act.put, List.setIfInBounds_toArray, List.set_cons_zero, List.set_cons_succ]
    refine wpAnyH_take (i := 11) (v := ?_) (by simp only [List.getElem?_toArray, List.getElem?_cons_zero, List.getElem?_cons_succ]; rfl) (by kernel_rfl) (by kernel_rfl) (by kernel_rfl) (fun _ _ _ h => h) (Or.inl ⟨by rfl, ?_⟩) H1.out.two ?_
    case refine_2 => (intro ww hSw; obtain ⟨s1, s2⟩ := hSw; go_simp; try with_reducible rfl)
    try simp only [Act.put, List.setIfInBounds_toArray, List.set_cons_zero, List.set_cons_succ]
    refine wpAnyH_take (i := 12) (v := _) (by simp only [List.getElem?_toArray, List.getElem?_cons_zero, List.getElem?_cons_succ]; rfl) (by kernel_rfl) (by kernel_rfl) (by kernel_rfl) (fun _ _ _ h => h) (Or.inr ⟨by rfl, rfl⟩) H1.out.two ?_
    try simp only [Act.put, List.setIfInBounds_toArray, List.set_cons_zero, List.set_cons_succ]
    refine wpAnyH_take (i := 13) (v := _) (by simp only [List.getElem?_toArray, List.getElem?_cons_zero, List.getElem?_cons_succ]; rfl) (by kernel_rfl) (by kernel_rfl) (by kernel_rfl) (fun _ _ _ h => h) (Or.inr ⟨by rfl, rfl⟩) H1.out.two ?_
    try simp only [Act.put, List.setIfInBounds_toArray, List.set_cons_zero, List.set_cons_succ]
    refine wpAnyH_take (i := 14) (v := _) (by simp only [List.getElem?_toArray, List.getElem?_cons_zero, List.getElem?_cons_succ]; rfl) (by kernel_rfl) (by kernel_rfl) (by kernel_rfl) (fun _ _ _ h => h) (Or.inr ⟨by rfl, rfl⟩) H1.out.two ?_
    try simp only [Act.put, List.setIfInBounds_toArray, List.set_cons_zero, List.set_cons_succ]
    refine wpAnyH_take (i := 15) (v := _) (by simp only [List.getElem?_toArray, List.getElem?_cons_zero, List.getElem?_cons_succ]; rfl) (by kernel_rfl) (by kernel_rfl) (by kernel_rfl) (fun _ _ _ h => h) (Or.inr ⟨by rfl, rfl⟩) H1.out.two ?_
    try simp only [Act.put, List.setIfInBounds_toArray, List.set_cons_zero, List.set_cons_succ]
    refine wpAnyH_take (i := 16) (v := _) (by simp only [List.getElem?_toArray, List.getElem?_cons_zero, List.getElem?_cons_succ]; rfl) (by kernel_rfl) (by kernel_rfl) (by kernel_rfl) (fun _ _ _ h => h) (Or.inr ⟨by rfl, rfl⟩) H1.out.two ?_
    try simp only [Act.put, List.setIfInBounds_toArray, List.set_cons_zero, List.set_cons_succ]
    refine wpAnyH_take (i := 17) (v := _) (by simp only [List.getElem?_toArray, List.getElem?_cons_zero, List.getElem?_cons_succ]; rfl) (by kernel_rfl) (by kernel_rfl) (by kernel_rfl) (fun _ _ _ h => h) (Or.inr ⟨by rfl, rfl⟩) H1.out.two ?_
    try simp only [Act.put, List.setIfInBounds_toArray, List.set_cons_zero, List.set_cons_succ]
    refine wpAnyH_take (i := 18) (v := _) (by simp only [List.getElem?_toArray, List.getElem?_cons_zero, List.getElem?_cons_succ]; rfl) (by kernel_rfl) (by kernel_rfl) (by kernel_rfl) (fun _ _ _ h => h) (Or.inr ⟨by rfl, rfl⟩) H1.out.two ?_
    try simp only [Act.put, List.setIfInBounds_toArray, List.set_cons_zero, List.set_cons_succ]
    refine wpAnyH_take (i := 19) (v := ?_) (by simp only [List.getElem?_toArray, List.getElem?_cons_zero, List.getElem?_cons_succ]; rfl) (by kernel_rfl) (by kernel_rfl) (by kernel_rfl) (fun _ _ _ h => h) (Or.inl ⟨by rfl, ?_⟩) H1.out.two ?_
    case refine_2 => (intro ww hSw; obtain ⟨s1, s2⟩ := hSw; go_simp; try with_reducible rfl)
    try simp only [Act.put, List.setIfInBounds_toArray, List.set_cons_zero, List.set_cons_succ]
    refine wpAnyH_take (i := 20) (v := ?_) (by simp only [List.getElem?_toArray, List.getElem?_cons_zero, List.getElem?_cons_succ]; rfl) (by kernel_rfl) (by kernel_rfl) (by kernel_rfl) (fun _ _ _ h => h) (Or.inl ⟨by rfl, ?_⟩) H1.out.two ?_
    case refine_2 => (intro ww hSw; obtain ⟨s1, s2⟩ := hSw; go_simp; try with_reducible rfl)
    try simp only [Act.put, List.setIfInBounds_toArray, List.set_cons_zero, List.set_cons_succ]
    refine wpAnyH_done (by kernel_rfl) ?_ _
    refine NoPanic.normal ?_
    go_wp2_with fail
    go_ret
    exact ⟨by rw [HF.out]; rfl, H1.out.low⟩
  subst hc0
  have HP := Lib.hid (HC.out.1 rfl)
  refine wpAnyH_take (i := 5) (v := ?_) (by simp only [List.getElem?_toArray, List.getElem?_cons_zero, List.getElem?_cons_succ]; rfl) (by kernel_rfl) (by kernel_rfl) (by kernel_rfl) (fun _ _ _ h => h) (Or.inl ⟨by rfl, ?_⟩) H1.out.two ?_
  case refine_2 => (intro ww hSw; obtain ⟨s1, s2⟩ := hSw; go_simp; try with_reducible rfl)
  try simp only [Act.put, List.setIfInBounds_toArray, List.set_cons_zero, List.set_cons_succ]
  refine wpAnyH_take (i := 6) (v := ?_) (by simp only [List.getElem?_toArray, List.getElem?_cons_zero, List.getElem?_cons_succ]; rfl) (by kernel_rfl) (by kernel_rfl) (by kernel_rfl) (fun _ _ _ h => h) (Or.inl ⟨by rfl, ?_⟩) H1.out.two ?_
  case refine_2 => (intro ww hSw; obtain ⟨s1, s2⟩ := hSw; go_simp; try with_reducible rfl)
  try simp only [Act.put, List.setIfInBounds_toArray, List.set_cons_zero, List.set_cons_succ]
  refine wpAnyH_take (i := 7) (v := ?_) (by simp only [List.getElem?_toArray, List.getElem?_cons_zero, List.getElem?_cons_succ]; rfl) (by kernel_rfl) (by kernel_rfl) (by kernel_rfl) (fun _ _ _ h => h) (Or.inl ⟨by rfl, ?_⟩) H1.out.two ?_
  case refine_2 => (intro ww hSw; obtain ⟨s1, s2⟩ := hSw; go_simp; try with_reducible rfl)
  try simp only [Act.put, List.setIfInBounds_toArray, List.set_cons_zero, List.set_cons_succ]
  refine wpAnyH_ready (rs := [8]) (by kernel_rfl) (by simp) ?_
  refine AllReadyH.cons (by simp only [List.getElem?_toArray, List.getElem?_cons_zero, List.getElem?_cons_succ]; rfl) (fun K' hK => ?_) AllReadyH.nil
  go_simp
  refine (rcheckAll_each l (.slice os l.length cs) w1 (HS.out.carry H1.out.low H1.out.low.size) HUB.out hll).mono ?_
  rintro e w2 ⟨⟨c, rfl, hc⟩, hb2⟩
  have H2 := Lib.hid (H1.out.carry hb2)
  have HC2 := Lib.hid hc
  clear hb2 hc
  refine hK.out _ _ H2.out.two (fun _ => ?_)
  clear hK
  try simp only [Act.put, List.setIfInBounds_toArray, List.set_cons_zero, List.set_cons_succ]
  by_cases hc0 : c = 0
  case neg =>
    have hd : (c == 0) = false := by rw [beq_eq_false_iff_ne]; exact hc0
    have HF : Hid (ftB L u l = false) := Lib.hid (ftB_no.2 fun h => hc0 (HC2.out.2 h.2.1))
    clear hc0
    refine wpAnyH_take (i := 9) (v := ?_) (by simp only [List.getElem?_toArray, List.getElem?_cons_zero, List.getElem?_cons_succ]; rfl) (by kernel_rfl) (by kernel_rfl) (by kernel_rfl) (fun _ _ _ h => h) (Or.inl ⟨by rfl, ?_⟩) H2.out.two ?_
    case refine_2 => (intro ww hSw; obtain ⟨s1, s2⟩ := hSw; go_simp; try with_reducible rfl)
    try simp only [Act.put, List.setIfInBounds_toArray, List.set_cons_zero, List.set_cons_succ]
    refine wpAnyH_take (i := 10) (v := ?_) (by simp only [List.getElem?_toArray, List.getElem?_cons_zero, List.getElem?_cons_succ]; rfl) (by kernel_rfl) (by kernel_rfl) (by kernel_rfl) (fun _ _ _ h => h) (Or.inl ⟨by rfl, ?_⟩) H2.out.two ?_
    case refine_2 => (intro ww hSw; obtain ⟨s1, s2⟩ := hSw; go_simp; try with_reducible rfl)
    try simp only [Act.put, List.setIfInBounds_toArray, List.set_cons_zero, List.set_cons_succ]
    refine wpAnyH_take (i := 11) (v := ?_) (by simp only [List.getElem?_toArray, List.getElem?_cons_zero, List.getElem?_cons_succ]; rfl) (by kernel_rfl) (by kernel_rfl) (by kernel_rfl) (fun _ _ _ h => h) (Or.inl ⟨by rfl, ?_⟩) H2.out.two ?_
    case refine_2 => (intro ww hSw; obtain ⟨s1, s2⟩ := hSw; go_simp; try with_reducible rfl)
    try simp only [Act.put, List.setIfInBounds_toArray, List.set_cons_zero, List.set_cons_succ]
    refine wpAnyH_take (i := 12) (v := _) (by simp only [List.getElem?_toArray, List.getElem?_cons_zero, List.getElem?_cons_succ]; rfl) (by kernel_rfl) (by kernel_rfl) (by kernel_rfl) (fun _ _ _ h => h) (Or.inr ⟨by rfl, rfl⟩) H2.out.two ?_
    try simp only [Act.put, List.setIfInBounds_toArray, List.set_cons_zero, List.set_cons_succ]
    refine wpAnyH_take (i := 13) (v := _) (by simp only [List.getElem?_toArray, List.getElem?_cons_zero, List.getElem?_cons_succ]; rfl) (by kernel_rfl) (by kernel_rfl) (by kernel_rfl) (fun _ _ _ h => h) (Or.inr ⟨by rfl, rfl⟩) H2.out.two ?_
    try simp only [Act.put, List.setIfInBounds_toArray, List.set_cons_zero, List.set_cons_succ]
    refine wpAnyH_take (i := 14) (v := _) (by simp only [List.getElem?_toArray, List.getElem?_cons_zero, List.getElem?_cons_succ]; rfl) (by kernel_rfl) (by kernel_rfl) (by kernel_rfl) (fun _ _ _ h => h) (Or.inr ⟨by rfl, rfl⟩) H2.out.two ?_
    try simp only [Act.put, List.setIfInBounds_toArray, List.set_cons_zero, List.set_cons_succ]
    refine wpAnyH_take (i := 15) (v := _) (by simp only [List.getElem?_toArray, List.getElem?_cons_zero, List.getElem?_cons_succ]; rfl) (by kernel_rfl) (by kernel_rfl) (by kernel_rfl) (fun _ _ _ h => h) (Or.inr ⟨by rfl, rfl⟩) H2.out.two ?_
    try simp only [Act.put, List.setIfInBounds_toArray, List.set_cons_zero, List.set_cons_succ]
    refine wpAnyH_take (i := 16) (v := _) (by simp only [List.getElem?_toArray, List.getElem?_cons_zero, List.getElem?_cons_succ]; rfl) (by kernel_rfl) (by kernel_rfl) (by kernel_rfl) (fun _ _ _ h => h) (Or.inr ⟨by rfl, rfl⟩) H2.out.two ?_
    try simp only [Act.put, List.setIfInBounds_toArray, List.set_cons_zero, List.set_cons_succ]
    refine wpAnyH_take (i := 17) (v := _) (by simp only [List.getElem?_toArray, List.getElem?_cons_zero, List.getElem?_cons_succ]; rfl) (by kernel_rfl) (by kernel_rfl) (by kernel_rfl) (fun _ _ _ h => h) (Or.inr ⟨by rfl, rfl⟩) H2.out.two ?_
    try simp only [Act.put, List.setIfInBounds_toArray, List.set_cons_zero, List.set_cons_succ]
    refine wpAnyH_take (i := 18) (v := _) (by simp only [List.getElem?_toArray, List.getElem?_cons_zero, List.getElem?_cons_succ]; rfl) (by kernel_rfl) (by kernel_rfl) (by kernel_rfl) (fun _ _ _ h => h) (Or.inr ⟨by rfl, rfl⟩) H2.out.two ?_
    try simp only [Act.put, List.setIfInBounds_toArray, List.set_cons_zero, List.set_cons_succ]
    refine wpAnyH_take (i := 19) (v := ?_) (by simp only [List.getElem?_toArray, List.getElem?_cons_zero, List.getElem?_cons_succ]; rfl) (by kernel_rfl) (by kernel_rfl) (by kernel_rfl) (fun _ _ _ h => h) (Or.inl ⟨by rfl, ?_⟩) H2.out.two ?_
    case refine_2 => (intro ww hSw; obtain ⟨s1, s2⟩ := hSw; go_simp; try with_reducible rfl)
    try simp only [Act.put, List.setIfInBounds_toArray, List.set_cons_zero, List.set_cons_succ]
    refine wpAnyH_take (i := 20) (v := ?_) (by simp only [List.getElem?_toArray, List.getElem?_cons_zero, List.getElem?_cons_succ]; rfl) (by kernel_rfl) (by kernel_rfl) (by kernel_rfl) (fun _ _ _ h => h) (Or.inl ⟨by rfl, ?_⟩) H2.out.two ?_
    case refine_2 => (intro ww hSw; obtain ⟨s1, s2⟩ := hSw; go_simp; try with_reducible rfl)
    try simp only [Act.put, List.setIfInBounds_toArray, List.set_cons_zero, List.set_cons_succ]
    refine wpAnyH_done (by kernel_rfl) ?_ _
    refine NoPanic.normal ?_
    go_wp2_with fail
    go_ret
    exact ⟨by rw [HF.out]; rfl, H2.out.low⟩
  subst hc0
  have HOK := Lib.hid (HC2.out.1 rfl)
  refine wpAnyH_take (i := 9) (v := ?_) (by simp only [List.getElem?_toArray, List.getElem?_cons_zero, List.getElem?_cons_succ]; rfl) (by kernel_rfl) (by kernel_rfl) (by kernel_rfl) (fun _ _ _ h => h) (Or.inl ⟨by rfl, ?_⟩) H2.out.two ?_
  case refine_2 => (intro ww hSw; obtain ⟨s1, s2⟩ := hSw; go_simp; try with_reducible rfl)
  try simp only [Act.put, List.setIfInBounds_toArray, List.set_cons_zero, List.set_cons_succ]
  refine wpAnyH_take (i := 10) (v := ?_) (by simp only [List.getElem?_toArray, List.getElem?_cons_zero, List.getElem?_cons_succ]; rfl) (by kernel_rfl) (by kernel_rfl) (by kernel_rfl) (fun _ _ _ h => h) (Or.inl ⟨by rfl, ?_⟩) H2.out.two ?_
  case refine_2 => (intro ww hSw; obtain ⟨s1, s2⟩ := hSw; go_simp; try with_reducible rfl)
  try simp only [Act.put, List.setIfInBounds_toArray, List.set_cons_zero, List.set_cons_succ]
  refine wpAnyH_take (i := 11) (v := ?_) (by simp only [List.getElem?_toArray, List.getElem?_cons_zero, List.getElem?_cons_succ]; rfl) (by kernel_rfl) (by kernel_rfl) (by kernel_rfl) (fun _ _ _ h => h) (Or.inl ⟨by rfl, ?_⟩) H2.out.two ?_
  case refine_2 => (intro ww hSw; obtain ⟨s1, s2⟩ := hSw; go_simp; try with_reducible rfl)
  try simp only [Act.put, List.setIfInBounds_toArray, List.set_cons_zero, List.set_cons_succ]
  refine wpAnyH_take (i := 12) (v := ?_) (by simp only [List.getElem?_toArray, List.getElem?_cons_zero, List.getElem?_cons_succ]; rfl) (by kernel_rfl) (by kernel_rfl) (by kernel_rfl) (fun _ _ _ h => h) (Or.inl ⟨by rfl, ?_⟩) H2.out.two ?_
  case refine_2 => (intro ww hSw; obtain ⟨s1, s2⟩ := hSw; go_simp; try with_reducible rfl)
  try simp only [Act.put, List.setIfInBounds_toArray, List.set_cons_zero, List.set_cons_succ]
  refine wpAnyH_take (i := 13) (v := ?_) (by simp only [List.getElem?_toArray, List.getElem?_cons_zero, List.getElem?_cons_succ]; rfl) (by kernel_rfl) (by kernel_rfl) (by kernel_rfl) (fun _ _ _ h => h) (Or.inl ⟨by rfl, ?_⟩) H2.out.two ?_
  case refine_2 => (intro ww hSw; obtain ⟨s1, s2⟩ := hSw; go_simp; try with_reducible rfl)
  try simp only [Act.put, List.setIfInBounds_toArray, List.set_cons_zero, List.set_cons_succ]
  refine wpAnyH_take (i := 14) (v := ?_) (by simp only [List.getElem?_toArray, List.getElem?_cons_zero, List.getElem?_cons_succ]; rfl) (by kernel_rfl) (by kernel_rfl) (by kernel_rfl) (fun _ _ _ h => h) (Or.inl ⟨by rfl, ?_⟩) H2.out.two ?_
  case refine_2 => (intro ww hSw; obtain ⟨s1, s2⟩ := hSw; go_simp; try with_reducible rfl)
  try simp only [Act.put, List.setIfInBounds_toArray, List.set_cons_zero, List.set_cons_succ]
  refine wpAnyH_take (i := 15) (v := ?_) (by simp only [List.getElem?_toArray, List.getElem?_cons_zero, List.getElem?_cons_succ]; rfl) (by kernel_rfl) (by kernel_rfl) (by kernel_rfl) (fun _ _ _ h => h) (Or.inl ⟨by rfl, ?_⟩) H2.out.two ?_
  case refine_2 => (intro ww hSw; obtain ⟨s1, s2⟩ := hSw; go_simp; try with_reducible rfl)
  try simp only [Act.put, List.setIfInBounds_toArray, List.set_cons_zero, List.set_cons_succ]
  refine wpAnyH_take (i := 16) (v := ?_) (by simp only [List.getElem?_toArray, List.getElem?_cons_zero, List.getElem?_cons_succ]; rfl) (by kernel_rfl) (by kernel_rfl) (by kernel_rfl) (fun _ _ _ h => h) (Or.inl ⟨by rfl, ?_⟩) H2.out.two ?_
  case refine_2 => (intro ww hSw; obtain ⟨s1, s2⟩ := hSw; go_simp; try with_reducible rfl)
  try simp only [Act.put, List.setIfInBounds_toArray, List.set_cons_zero, List.set_cons_succ]
  refine wpAnyH_ready (rs := [17]) (by kernel_rfl) (by simp) ?_
  refine AllReadyH.cons (by simp only [List.getElem?_toArray, List.getElem?_cons_zero, List.getElem?_cons_succ]; rfl) (fun K' hK => ?_) AllReadyH.nil
  go_simp
  refine (of_any (Tm.sizes l) l (.slice os l.length cs) w2 (Nat.le_refl _) (by omega) HUB.out hll (HS.out.carry H2.out.low H2.out.low.size)).mono ?_
  rintro e w3 ⟨v3, rfl, hof⟩
  obtain ⟨M, hM⟩ : ∃ M, M = Tm.ofs l := ⟨_, rfl⟩
  rw [← hM] at hof
  have HM := Lib.hid hM
  clear hM
  obtain ⟨o3, c3, rfl⟩ := ownsRow_shape hof.row
  have H3 := Lib.hid (H2.out.carry hof.low)
  have HSY := Lib.hid (SyIs.ofRow hof.row)
  clear hof
  refine hK.out _ _ H3.out.two (fun _ => ?_)
  clear hK
  try simp only [Act.put, List.setIfInBounds_toArray, List.set_cons_zero, List.set_cons_succ]
  refine wpAnyH_ready (rs := [18]) (by kernel_rfl) (by simp) ?_
  refine AllReadyH.cons (by simp only [List.getElem?_toArray, List.getElem?_cons_zero, List.getElem?_cons_succ]; rfl) (fun K' hK => ?_) AllReadyH.nil
  go_simp
  refine (rAdm_any L u M (by rw [HM.out]; have := Tm.ofs_len l; omega) (.slice ol L.length cl) _ w3 (HL.out.carry H3.out.low H3.out.low.size) hlen HSY.out).mono ?_
  rintro e w4 ⟨rfl, hb4⟩
  have H4 := Lib.hid (H3.out.carry hb4)
  clear hb4
  have HF : Hid (admB L u M = ftB L u l) := Lib.hid (by
    rw [HM.out]
    cases ha : admB L u (Tm.ofs l) with
    | true => exact (ftB_yes.2 ⟨HP.out, HOK.out, admB_yes.1 ha⟩).symm
    | false => exact (ftB_no.2 fun h => admB_no.1 ha h.2.2).symm)
  refine hK.out _ _ H4.out.two (fun _ => ?_)
  clear hK
  try simp only [Act.put, List.setIfInBounds_toArray, List.set_cons_zero, List.set_cons_succ]
  refine wpAnyH_take (i := 19) (v := ?_) (by simp only [List.getElem?_toArray, List.getElem?_cons_zero, List.getElem?_cons_succ]; rfl) (by kernel_rfl) (by kernel_rfl) (by kernel_rfl) (fun _ _ _ h => h) (Or.inl ⟨by rfl, ?_⟩) H4.out.two ?_
  case refine_2 => (intro ww hSw; obtain ⟨s1, s2⟩ := hSw; go_simp; try with_reducible rfl)
  try simp only [Act.put, List.setIfInBounds_toArray, List.set_cons_zero, List.set_cons_succ]
  refine wpAnyH_take (i := 20) (v := ?_) (by simp only [List.getElem?_toArray, List.getElem?_cons_zero, List.getElem?_cons_succ]; rfl) (by kernel_rfl) (by kernel_rfl) (by kernel_rfl) (fun _ _ _ h => h) (Or.inl ⟨by rfl, ?_⟩) H4.out.two ?_
  case refine_2 => (intro ww hSw; obtain ⟨s1, s2⟩ := hSw; go_simp; try with_reducible rfl)
  try simp only [Act.put, List.setIfInBounds_toArray, List.set_cons_zero, List.set_cons_succ]
  refine wpAnyH_done (by kernel_rfl) ?_ _
  refine NoPanic.normal ?_
  go_wp2_with fail
  go_ret
  exact ⟨by rw [HF.out]; rfl, H4.out.low⟩
end Go.Proofs.YtnomppdmhgefiaaGreat
