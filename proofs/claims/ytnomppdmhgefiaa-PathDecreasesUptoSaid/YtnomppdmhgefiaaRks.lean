/- Merged: Rkw, Rkc, Rks. -/
import Derived.WalkKit
import Derived.ProofKit
import Derived.OpenShut
import Derived.Handy
import Derived.Lib.Hide
import Derived.Test.YtnomppdmhgefiaaRkp
import Derived.Test.YtnomppdmhgefiaaShelf
import Derived.Deep.RegionHeld3
import Derived.Laws.Cover1
import Derived.Sort.Walk0
/- Package path: the small functions on entries. -/
namespace Go.Proofs.Ytnomppdmhgefiaa
open Go.RowKit Go.Shelf

/-- an entry as a value -/
@[reducible] def rkv (p : Rk) : Value := .agg #[.string (kb p.1), .int .i64 p.2.1, .int .i64 p.2.2]
theorem rkName_any (p : Rk) (w : World) :
    Calls Try.prog 16 #[rkv p] w fun e w' => e = .returned (.string (kb p.1)) ∧ Below w.heap.size w w' := by
  go_enter Try.func16, Try.ntmps16
  rw [show rkv p = .agg #[.string (kb p.1), .int .i64 p.2.1, .int .i64 p.2.2] from rfl]
  go_wp2_with fail
  go_ret
  exact ⟨rfl, by go_grown⟩
theorem rkFits_any (p : Rk) (w : World) :
    Calls Try.prog 17 #[rkv p] w fun e w' => e = .returned (.bool (decide (0 ≤ p.2.1 ∧ p.2.1 ≤ 1000 ∧ p.2.2 = 0))) ∧ Below w.heap.size w w' := by
  have h0 : Below w.heap.size w (w.alloc (.cells #[.string (kb p.1), .int .i64 p.2.1, .int .i64 p.2.2] 50)) := by go_grown
  have HB := Lib.hid h0
  clear h0
  by_cases h1 : 0 ≤ p.2.1
  · by_cases h2 : p.2.1 ≤ 1000
    · by_cases h3 : p.2.2 = 0
      · have e1 : decide (0 ≤ p.2.1) = true := decide_eq_true h1
        have e2 : decide (p.2.1 ≤ 1000) = true := decide_eq_true h2
        have e3 : (p.2.2 == 0) = true := by rw [h3]; rfl
        have HE : Hid (decide (0 ≤ p.2.1 ∧ p.2.1 ≤ 1000 ∧ p.2.2 = 0) = true) := Lib.hid (decide_eq_true ⟨h1, h2, h3⟩)
        clear h1 h2 h3
        go_enter Try.func17, Try.ntmps17
        rw [show rkv p = .agg #[.string (kb p.1), .int .i64 p.2.1, .int .i64 p.2.2] from rfl]
        go_wp2_with fail
        go_ret
        exact ⟨by rw [HE.out]; rfl, HB.out⟩
      · have e1 : decide (0 ≤ p.2.1) = true := decide_eq_true h1
        have e2 : decide (p.2.1 ≤ 1000) = true := decide_eq_true h2
        have e3 : (p.2.2 == 0) = false := by simpa using h3
        have HE : Hid (decide (0 ≤ p.2.1 ∧ p.2.1 ≤ 1000 ∧ p.2.2 = 0) = false) := Lib.hid (decide_eq_false fun h => h3 h.2.2)
        clear h1 h2 h3
        go_enter Try.func17, Try.ntmps17
        rw [show rkv p = .agg #[.string (kb p.1), .int .i64 p.2.1, .int .i64 p.2.2] from rfl]
        go_wp2_with fail
        go_ret
        exact ⟨by rw [HE.out]; rfl, HB.out⟩
    · have e1 : decide (0 ≤ p.2.1) = true := decide_eq_true h1
      have e2 : decide (p.2.1 ≤ 1000) = false := decide_eq_false h2
      have HE : Hid (decide (0 ≤ p.2.1 ∧ p.2.1 ≤ 1000 ∧ p.2.2 = 0) = false) := Lib.hid (decide_eq_false fun h => h2 h.2.1)
      clear h1 h2
      go_enter Try.func17, Try.ntmps17
      rw [show rkv p = .agg #[.string (kb p.1), .int .i64 p.2.1, .int .i64 p.2.2] from rfl]
      go_wp2_with fail
      go_ret
      exact ⟨by rw [HE.out]; rfl, HB.out⟩
  · have e1 : decide (0 ≤ p.2.1) = false := decide_eq_false h1
    have HE : Hid (decide (0 ≤ p.2.1 ∧ p.2.1 ≤ 1000 ∧ p.2.2 = 0) = false) := Lib.hid (decide_eq_false fun h => h1 h.1)
    clear h1
    go_enter Try.func17, Try.ntmps17
    rw [show rkv p = .agg #[.string (kb p.1), .int .i64 p.2.1, .int .i64 p.2.2] from rfl]
    go_wp2_with fail
    go_ret
    exact ⟨by rw [HE.out]; rfl, HB.out⟩
theorem rkCmp_any (p : Rk) (k : Key) (w : World) :
    Calls Try.prog 54 #[rkv p, .string (kb k)] w fun e w' => e = .returned (.int .i64 (Lib.compareBytes p.1 k)) ∧ Below w.heap.size w w' := by
  go_enter Try.func54, Try.ntmps54
  rw [show rkv p = .agg #[.string (kb p.1), .int .i64 p.2.1, .int .i64 p.2.2] from rfl]
  go_wp2_with fail
  refine (Try.strings_Compare _ _ _).mono ?_
  rintro e w' ⟨rfl, rfl⟩
  go_wp2_with fail
  go_ret
  exact ⟨rfl, by go_grown⟩
end Go.Proofs.Ytnomppdmhgefiaa
/- Package path: checkList at entries, Check. -/
namespace Go.Proofs.Ytnomppdmhgefiaa
open Go.RowKit Go.Shelf

/-- the cells of an entry -/
def RkAt (W : World) (b o : Nat) (p : Rk) : Prop := W.cell? ⟨b, o, none⟩ = some (.string (kb p.1)) ∧ W.cell? ⟨b, o + 1, none⟩ = some (.int .i64 p.2.1) ∧ W.cell? ⟨b, o + 2, none⟩ = some (.int .i64 p.2.2)
theorem RkAt.carry {n : Nat} {A W : World} {b o : Nat} {p : Rk} (h : RkAt A b o p) (hb : Below n A W) (hn : b < n) : RkAt W b o p :=
  ⟨(hb.cell (p := ⟨b, _, none⟩) hn).trans h.1, (hb.cell (p := ⟨b, _, none⟩) hn).trans h.2.1, (hb.cell (p := ⟨b, _, none⟩) hn).trans h.2.2⟩
theorem RkAt.box {W : World} {b : Nat} {p : Rk} {t : TypeId} {fr : Nat × Nat} (h : W.heap[b]? = some (.cells #[.string (kb p.1), .int .i64 p.2.1, .int .i64 p.2.2] t fr)) : RkAt W b 0 p :=
  ⟨cells_of' h 0, cells_of' h 1, cells_of' h 2⟩
theorem gtB_yes {a b : Key} (h : a < b) : (!Op.bytesLess (kb a).toList (kb b).toList) = false := by rw [kb_toList, kb_toList, bytesLess_eq, decide_eq_true h]; rfl
theorem gtB_no {a b : Key} (h : ¬ a < b) : (!Op.bytesLess (kb a).toList (kb b).toList) = true := by rw [kb_toList, kb_toList, bytesLess_eq, decide_eq_false h]; rfl
/-- the box of an entry, and what lay before -/
structure CkSt (w W : World) (X : Nat) (p : Rk) : Prop where
  box : W.heap[X]? = some (.cells #[.string (kb p.1), .int .i64 p.2.1, .int .i64 p.2.2] 50 (0, 0))
  low : Below w.heap.size w W
theorem CkSt.carry {w A W : World} {X : Nat} {p : Rk} (h : CkSt w A X p) (hb : Below A.heap.size A W) : CkSt w W X p :=
  ⟨(hb.block X (Array.getElem?_eq_some_iff.1 h.box).1).trans h.box, h.low.trans (hb.mono h.low.size)⟩
theorem CkSt.drew {w A : World} {X : Nat} {p : Rk} (h : CkSt w A X p) : CkSt w A.drew X p := h.carry (Below.refl _ A).drew
theorem CkSt.three {w W : World} {X : Nat} {p : Rk} (h : CkSt w W X p) : W.cell? ⟨X, 0, none⟩ = some (.string (kb p.1)) ∧ W.cell? ⟨X, 1, none⟩ = some (.int .i64 p.2.1) ∧ W.cell? ⟨X, 2, none⟩ = some (.int .i64 p.2.2) := (box3 h.box).1
theorem CkSt.six {w W : World} {X : Nat} {p q : Rk} (h : CkSt w W X p) {b o : Nat} (hq : RkAt w b o q) (hb : b < w.heap.size) : W.cell? ⟨X, 0, none⟩ = some (.string (kb p.1)) ∧ W.cell? ⟨X, 1, none⟩ = some (.int .i64 p.2.1) ∧ W.cell? ⟨X, 2, none⟩ = some (.int .i64 p.2.2) ∧ W.cell? ⟨b, o, none⟩ = some (.string (kb q.1)) ∧ W.cell? ⟨b, o + 1, none⟩ = some (.int .i64 q.2.1) ∧ W.cell? ⟨b, o + 2, none⟩ = some (.int .i64 q.2.2) :=
  ⟨h.three.1, h.three.2.1, h.three.2.2, (hq.carry h.low hb).1, (hq.carry h.low hb).2.1, (hq.carry h.low hb).2.2⟩
/-- the names up to k are in order -/
def NmsTo (l : List Rk) (k : Nat) : Prop := ∀ i p, i < k → l[i]? = some p → isName (kb p.1) true = true ∧ ∀ q, 0 < i → l[i - 1]? = some q → q.1 < p.1
theorem NmsTo.all {l : List Rk} (h : NmsTo l l.length) : NmsOk l := fun i p hp => h i p (List.getElem?_eq_some_iff.1 hp).1 hp
theorem NmsTo.step {l : List Rk} {k : Nat} (h : NmsTo l k) {p : Rk} (hp : l[k]? = some p) (h1 : isName (kb p.1) true = true) (h2 : ∀ q, 0 < k → l[k - 1]? = some q → q.1 < p.1) : NmsTo l (k + 1) := fun i x hi hx => by
  by_cases e : i = k
  · subst e; rw [hp] at hx; cases hx; exact ⟨h1, h2⟩
  · exact h i x (by omega) hx
theorem precC_len {l : List Rk} (h : 256 < l.length) : precC l = 3 := by unfold precC; rw [if_pos h]
theorem precC_nms {l : List Rk} (h : ¬ 256 < l.length) (h2 : ¬ NmsOk l) : precC l = 4 := by unfold precC; rw [if_neg h, if_pos h2]
theorem precC_rks {l : List Rk} (h : ¬ 256 < l.length) (h2 : NmsOk l) (h3 : ¬ RksOk l) : precC l = 2 := by unfold precC; rw [if_neg h, if_neg (fun e => e h2), if_neg h3]

set_option maxRecDepth 100000 in
set_option maxHeartbeats 8000000 in
theorem checkList_any (l : List Rk) (v : Value) (w : World) (hl : RksIs w.heap.size w l v) (hb : rkBulk l ≤ 1048576) :
    Calls Try.prog 18 #[v, .func (.func 16) #[] #[], .func (.func 17) #[] #[]] w fun e w' => e = .returned (.int .i64 (precC l)) ∧ Below w.heap.size w w' := by
  obtain ⟨oa, cap, rfl, hcap, hc⟩ := hl
  have HC := Lib.hid hc
  have hlen := Nat.le_trans (rkBulk_len l) hb
  have HNL : Hid (∀ p ∈ l, p.1.length ≤ 1048576) := Lib.hid fun p hp => by have := rkBulk_mem hp; omega
  clear hc hb
  go_enter Try.func18, Try.ntmps18
  by_cases h256 : 256 < l.length
  · have hd : decide ((256 : Int) < (l.length : Int)) = true := decide_eq_true (by omega)
    have HE := Lib.hid (precC_len h256)
    clear h256
    go_wp2_with fail
    go_ret
    exact ⟨by rw [HE.out]; rfl, Below.refl _ _⟩
  have hd : decide ((256 : Int) < (l.length : Int)) = false := decide_eq_false (by omega)
  go_wp2_with fail
  go_loopw [16] (fun i wr => ∃ k : Nat, k ≤ l.length ∧ i = .int .i64 k ∧ Hid (NmsTo l k) ∧ Hid (Below w.heap.size w wr)) (fun i _ => l.length - (intOf i).toNat)
  case atStart => exact ⟨0, by omega, rfl, Lib.hid (fun i p hi => absurd hi (by omega)), Lib.hid (Below.refl _ _)⟩
  case round =>
    obtain ⟨k, hk, rfl, HN, HBW⟩ := hrel
    by_cases hlt : k < l.length
    · obtain ⟨p, hp⟩ : ∃ p, l[k]? = some p := ⟨_, List.getElem?_eq_getElem hlt⟩
      obtain ⟨b1, o1, rfl, hbn, hc1⟩ := HC.out (by rintro rfl; simp at hlt)
      obtain ⟨c0, c1, c2⟩ := hc1 k p hp
      have c0 := (HBW.out.cell (p := ⟨b1, _, none⟩) hbn).trans c0
      have c1 := (HBW.out.cell (p := ⟨b1, _, none⟩) hbn).trans c1
      have c2 := (HBW.out.cell (p := ⟨b1, _, none⟩) hbn).trans c2
      have HP := Lib.hid hp
      have hpl := HNL.out p (List.mem_of_getElem? hp)
      have HC1 := Lib.hid hc1
      clear hc1 hp
      have hst : CkSt w (wr.alloc (.cells #[.string (kb p.1), .int .i64 p.2.1, .int .i64 p.2.2] 50)) wr.heap.size p := ⟨heap_new_at _ _ _ rfl, HBW.out.alloc HBW.out.size _⟩
      have Hw0 := Lib.hid hst.drew
      clear hst
      have hsz : (kb p.1).size ≤ 1048576 := hpl
      go_wp2_with fail
      cases hn : isName (kb p.1) true
      · have HN0 : Hid (precC l = 4) := Lib.hid (precC_nms h256 fun h => by have := (h k p HP.out).1; rw [hn] at this; cases this)
        refine wp_region_noPanic ?_
        refine wp_region_held_drew (S := fun w' => w'.cell? ⟨wr.heap.size, 0, none⟩ = some (.string (kb p.1)) ∧ w'.cell? ⟨wr.heap.size, 1, none⟩ = some (.int .i64 p.2.1) ∧ w'.cell? ⟨wr.heap.size, 2, none⟩ = some (.int .i64 p.2.2)) (by kernel_rfl) Hw0.out.three (fun _ => ?_)
        simp only [List.size_toArray, List.length_cons, List.length_nil, Nat.reduceAdd]
        refine wpAnyH_take (i := 0) (v := ?_) (by simp only [List.getElem?_toArray, List.getElem?_cons_zero]; rfl) (by kernel_rfl) (by kernel_rfl) (by kernel_rfl) (fun _ _ _ h => h) (Or.inl ⟨by rfl, ?_⟩) Hw0.out.three ?_
        case refine_2 => (intro ww hSw; obtain ⟨s1, s2, s3⟩ := hSw; go_simp; try with_reducible rfl)
        try simp only [Act.put, List.setIfInBounds_toArray, List.set_cons_zero, List.set_cons_succ]
        refine wpAnyH_take (i := 1) (v := ?_) (by simp only [List.getElem?_toArray, List.getElem?_cons_zero, List.getElem?_cons_succ]; rfl) (by kernel_rfl) (by kernel_rfl) (by kernel_rfl) (fun _ _ _ h => h) (Or.inl ⟨by rfl, ?_⟩) Hw0.out.three ?_
        case refine_2 => (intro ww hSw; obtain ⟨s1, s2, s3⟩ := hSw; go_simp; try with_reducible rfl)
        try simp only [Act.put, List.setIfInBounds_toArray, List.set_cons_zero, List.set_cons_succ]
        refine wpAnyH_ready (rs := [2]) (by kernel_rfl) (by simp) ?_
        refine AllReadyH.cons (by simp only [List.getElem?_toArray, List.getElem?_cons_zero, List.getElem?_cons_succ]; rfl) (fun K' hK => ?_) AllReadyH.nil
        go_simp
        refine (rkName_any p _).mono ?_
        rintro e w1 ⟨rfl, hbw1⟩
        have Hw1 := Lib.hid (Hw0.out.carry hbw1)
        clear hbw1
        refine hK.out _ _ Hw1.out.three (fun _ => ?_)
        clear hK
        try simp only [Act.put, List.setIfInBounds_toArray, List.set_cons_zero, List.set_cons_succ]
        refine wpAnyH_ready (rs := [3]) (by kernel_rfl) (by simp) ?_
        refine AllReadyH.cons (by simp only [List.getElem?_toArray, List.getElem?_cons_zero, List.getElem?_cons_succ]; rfl) (fun K' hK => ?_) AllReadyH.nil
        go_simp
        refine (isName_any (kb p.1) true _ hsz).mono ?_
        rintro e w2 ⟨rfl, rfl⟩
        rw [hn]
        refine hK.out _ _ Hw1.out.three (fun _ => ?_)
        clear hK
        try simp only [Act.put, List.setIfInBounds_toArray, List.set_cons_zero, List.set_cons_succ]
        refine wpAnyH_take (i := 4) (v := ?_) (by simp only [List.getElem?_toArray, List.getElem?_cons_zero, List.getElem?_cons_succ]; rfl) (by kernel_rfl) (by kernel_rfl) (by kernel_rfl) (fun _ _ _ h => h) (Or.inl ⟨by rfl, ?_⟩) Hw1.out.three ?_
        case refine_2 => (intro ww hSw; obtain ⟨s1, s2, s3⟩ := hSw; go_simp; try with_reducible rfl)
        try simp only [Act.put, List.setIfInBounds_toArray, List.set_cons_zero, List.set_cons_succ]
        refine wpAnyH_take (i := 5) (v := ?_) (by simp only [List.getElem?_toArray, List.getElem?_cons_zero, List.getElem?_cons_succ]; rfl) (by kernel_rfl) (by kernel_rfl) (by kernel_rfl) (fun _ _ _ h => h) (Or.inl ⟨by rfl, ?_⟩) Hw1.out.three ?_
        case refine_2 => (intro ww hSw; obtain ⟨s1, s2, s3⟩ := hSw; go_simp; try with_reducible rfl)
        try simp only [Act.put, List.setIfInBounds_toArray, List.set_cons_zero, List.set_cons_succ]
        refine wpAnyH_take (i := 6) (v := _) (by simp only [List.getElem?_toArray, List.getElem?_cons_zero, List.getElem?_cons_succ]; rfl) (by kernel_rfl) (by kernel_rfl) (by kernel_rfl) (fun _ _ _ h => h) (Or.inr ⟨by rfl, rfl⟩) Hw1.out.three ?_
        try simp only [Act.put, List.setIfInBounds_toArray, List.set_cons_zero, List.set_cons_succ]
        refine wpAnyH_take (i := 7) (v := _) (by simp only [List.getElem?_toArray, List.getElem?_cons_zero, List.getElem?_cons_succ]; rfl) (by kernel_rfl) (by kernel_rfl) (by kernel_rfl) (fun _ _ _ h => h) (Or.inr ⟨by rfl, rfl⟩) Hw1.out.three ?_
        try simp only [Act.put, List.setIfInBounds_toArray, List.set_cons_zero, List.set_cons_succ]
        refine wpAnyH_take (i := 8) (v := _) (by simp only [List.getElem?_toArray, List.getElem?_cons_zero, List.getElem?_cons_succ]; rfl) (by kernel_rfl) (by kernel_rfl) (by kernel_rfl) (fun _ _ _ h => h) (Or.inr ⟨by rfl, rfl⟩) Hw1.out.three ?_
        try simp only [Act.put, List.setIfInBounds_toArray, List.set_cons_zero, List.set_cons_succ]
        refine wpAnyH_take (i := 9) (v := _) (by simp only [List.getElem?_toArray, List.getElem?_cons_zero, List.getElem?_cons_succ]; rfl) (by kernel_rfl) (by kernel_rfl) (by kernel_rfl) (fun _ _ _ h => h) (Or.inr ⟨by rfl, rfl⟩) Hw1.out.three ?_
        try simp only [Act.put, List.setIfInBounds_toArray, List.set_cons_zero, List.set_cons_succ]
        refine wpAnyH_take (i := 10) (v := _) (by simp only [List.getElem?_toArray, List.getElem?_cons_zero, List.getElem?_cons_succ]; rfl) (by kernel_rfl) (by kernel_rfl) (by kernel_rfl) (fun _ _ _ h => h) (Or.inr ⟨by rfl, rfl⟩) Hw1.out.three ?_
        try simp only [Act.put, List.setIfInBounds_toArray, List.set_cons_zero, List.set_cons_succ]
        refine wpAnyH_take (i := 11) (v := _) (by simp only [List.getElem?_toArray, List.getElem?_cons_zero, List.getElem?_cons_succ]; rfl) (by kernel_rfl) (by kernel_rfl) (by kernel_rfl) (fun _ _ _ h => h) (Or.inr ⟨by rfl, rfl⟩) Hw1.out.three ?_
        try simp only [Act.put, List.setIfInBounds_toArray, List.set_cons_zero, List.set_cons_succ]
        refine wpAnyH_take (i := 12) (v := _) (by simp only [List.getElem?_toArray, List.getElem?_cons_zero, List.getElem?_cons_succ]; rfl) (by kernel_rfl) (by kernel_rfl) (by kernel_rfl) (fun _ _ _ h => h) (Or.inr ⟨by rfl, rfl⟩) Hw1.out.three ?_
        try simp only [Act.put, List.setIfInBounds_toArray, List.set_cons_zero, List.set_cons_succ]
        refine wpAnyH_take (i := 13) (v := _) (by simp only [List.getElem?_toArray, List.getElem?_cons_zero, List.getElem?_cons_succ]; rfl) (by kernel_rfl) (by kernel_rfl) (by kernel_rfl) (fun _ _ _ h => h) (Or.inr ⟨by rfl, rfl⟩) Hw1.out.three ?_
        try simp only [Act.put, List.setIfInBounds_toArray, List.set_cons_zero, List.set_cons_succ]
        refine wpAnyH_take (i := 14) (v := _) (by simp only [List.getElem?_toArray, List.getElem?_cons_zero, List.getElem?_cons_succ]; rfl) (by kernel_rfl) (by kernel_rfl) (by kernel_rfl) (fun _ _ _ h => h) (Or.inr ⟨by rfl, rfl⟩) Hw1.out.three ?_
        try simp only [Act.put, List.setIfInBounds_toArray, List.set_cons_zero, List.set_cons_succ]
        refine wpAnyH_take (i := 15) (v := _) (by simp only [List.getElem?_toArray, List.getElem?_cons_zero, List.getElem?_cons_succ]; rfl) (by kernel_rfl) (by kernel_rfl) (by kernel_rfl) (fun _ _ _ h => h) (Or.inr ⟨by rfl, rfl⟩) Hw1.out.three ?_
        try simp only [Act.put, List.setIfInBounds_toArray, List.set_cons_zero, List.set_cons_succ]
        refine wpAnyH_take (i := 16) (v := _) (by simp only [List.getElem?_toArray, List.getElem?_cons_zero, List.getElem?_cons_succ]; rfl) (by kernel_rfl) (by kernel_rfl) (by kernel_rfl) (fun _ _ _ h => h) (Or.inr ⟨by rfl, rfl⟩) Hw1.out.three ?_
        try simp only [Act.put, List.setIfInBounds_toArray, List.set_cons_zero, List.set_cons_succ]
        refine wpAnyH_take (i := 17) (v := _) (by simp only [List.getElem?_toArray, List.getElem?_cons_zero, List.getElem?_cons_succ]; rfl) (by kernel_rfl) (by kernel_rfl) (by kernel_rfl) (fun _ _ _ h => h) (Or.inr ⟨by rfl, rfl⟩) Hw1.out.three ?_
        try simp only [Act.put, List.setIfInBounds_toArray, List.set_cons_zero, List.set_cons_succ]
        refine wpAnyH_take (i := 18) (v := _) (by simp only [List.getElem?_toArray, List.getElem?_cons_zero, List.getElem?_cons_succ]; rfl) (by kernel_rfl) (by kernel_rfl) (by kernel_rfl) (fun _ _ _ h => h) (Or.inr ⟨by rfl, rfl⟩) Hw1.out.three ?_
        try simp only [Act.put, List.setIfInBounds_toArray, List.set_cons_zero, List.set_cons_succ]
        refine wpAnyH_take (i := 19) (v := _) (by simp only [List.getElem?_toArray, List.getElem?_cons_zero, List.getElem?_cons_succ]; rfl) (by kernel_rfl) (by kernel_rfl) (by kernel_rfl) (fun _ _ _ h => h) (Or.inr ⟨by rfl, rfl⟩) Hw1.out.three ?_
        try simp only [Act.put, List.setIfInBounds_toArray, List.set_cons_zero, List.set_cons_succ]
        refine wpAnyH_take (i := 20) (v := _) (by simp only [List.getElem?_toArray, List.getElem?_cons_zero, List.getElem?_cons_succ]; rfl) (by kernel_rfl) (by kernel_rfl) (by kernel_rfl) (fun _ _ _ h => h) (Or.inr ⟨by rfl, rfl⟩) Hw1.out.three ?_
        try simp only [Act.put, List.setIfInBounds_toArray, List.set_cons_zero, List.set_cons_succ]
        refine wpAnyH_take (i := 21) (v := ?_) (by simp only [List.getElem?_toArray, List.getElem?_cons_zero, List.getElem?_cons_succ]; rfl) (by kernel_rfl) (by kernel_rfl) (by kernel_rfl) (fun _ _ _ h => h) (Or.inl ⟨by rfl, ?_⟩) Hw1.out.three ?_
        case refine_2 => (intro ww hSw; obtain ⟨s1, s2, s3⟩ := hSw; go_simp; try with_reducible rfl)
        try simp only [Act.put, List.setIfInBounds_toArray, List.set_cons_zero, List.set_cons_succ]
        refine wpAnyH_done (by kernel_rfl) ?_ _
        refine NoPanic.normal ?_
        go_wp2_with fail
        go_ret
        exact ⟨by rw [HN0.out]; rfl, Hw1.out.low⟩
      · have HN1 := Lib.hid hn
        by_cases hk0 : k = 0
        · subst hk0
          refine wp_region_noPanic ?_
          refine wp_region_held_drew (S := fun w' => w'.cell? ⟨wr.heap.size, 0, none⟩ = some (.string (kb p.1)) ∧ w'.cell? ⟨wr.heap.size, 1, none⟩ = some (.int .i64 p.2.1) ∧ w'.cell? ⟨wr.heap.size, 2, none⟩ = some (.int .i64 p.2.2)) (by kernel_rfl) Hw0.out.three (fun _ => ?_)
          simp only [List.size_toArray, List.length_cons, List.length_nil, Nat.reduceAdd]
          refine wpAnyH_take (i := 0) (v := ?_) (by simp only [List.getElem?_toArray, List.getElem?_cons_zero]; rfl) (by kernel_rfl) (by kernel_rfl) (by kernel_rfl) (fun _ _ _ h => h) (Or.inl ⟨by rfl, ?_⟩) Hw0.out.three ?_
          case refine_2 => (intro ww hSw; obtain ⟨s1, s2, s3⟩ := hSw; go_simp; try with_reducible rfl)
          try simp only [Act.put, List.setIfInBounds_toArray, List.set_cons_zero, List.set_cons_succ]
          refine wpAnyH_take (i := 1) (v := ?_) (by simp only [List.getElem?_toArray, List.getElem?_cons_zero, List.getElem?_cons_succ]; rfl) (by kernel_rfl) (by kernel_rfl) (by kernel_rfl) (fun _ _ _ h => h) (Or.inl ⟨by rfl, ?_⟩) Hw0.out.three ?_
          case refine_2 => (intro ww hSw; obtain ⟨s1, s2, s3⟩ := hSw; go_simp; try with_reducible rfl)
          try simp only [Act.put, List.setIfInBounds_toArray, List.set_cons_zero, List.set_cons_succ]
          refine wpAnyH_ready (rs := [2]) (by kernel_rfl) (by simp) ?_
          refine AllReadyH.cons (by simp only [List.getElem?_toArray, List.getElem?_cons_zero, List.getElem?_cons_succ]; rfl) (fun K' hK => ?_) AllReadyH.nil
          go_simp
          refine (rkName_any p _).mono ?_
          rintro e w1 ⟨rfl, hbw1⟩
          have Hw1 := Lib.hid (Hw0.out.carry hbw1)
          clear hbw1
          refine hK.out _ _ Hw1.out.three (fun _ => ?_)
          clear hK
          try simp only [Act.put, List.setIfInBounds_toArray, List.set_cons_zero, List.set_cons_succ]
          refine wpAnyH_ready (rs := [3]) (by kernel_rfl) (by simp) ?_
          refine AllReadyH.cons (by simp only [List.getElem?_toArray, List.getElem?_cons_zero, List.getElem?_cons_succ]; rfl) (fun K' hK => ?_) AllReadyH.nil
          go_simp
          refine (isName_any (kb p.1) true _ hsz).mono ?_
          rintro e w2 ⟨rfl, rfl⟩
          rw [hn]
          refine hK.out _ _ Hw1.out.three (fun _ => ?_)
          clear hK
          try simp only [Act.put, List.setIfInBounds_toArray, List.set_cons_zero, List.set_cons_succ]
          refine wpAnyH_take (i := 4) (v := ?_) (by simp only [List.getElem?_toArray, List.getElem?_cons_zero, List.getElem?_cons_succ]; rfl) (by kernel_rfl) (by kernel_rfl) (by kernel_rfl) (fun _ _ _ h => h) (Or.inl ⟨by rfl, ?_⟩) Hw1.out.three ?_
          case refine_2 => (intro ww hSw; obtain ⟨s1, s2, s3⟩ := hSw; go_simp; try with_reducible rfl)
          try simp only [Act.put, List.setIfInBounds_toArray, List.set_cons_zero, List.set_cons_succ]
          refine wpAnyH_take (i := 5) (v := ?_) (by simp only [List.getElem?_toArray, List.getElem?_cons_zero, List.getElem?_cons_succ]; rfl) (by kernel_rfl) (by kernel_rfl) (by kernel_rfl) (fun _ _ _ h => h) (Or.inl ⟨by rfl, ?_⟩) Hw1.out.three ?_
          case refine_2 => (intro ww hSw; obtain ⟨s1, s2, s3⟩ := hSw; go_simp; try with_reducible rfl)
          try simp only [Act.put, List.setIfInBounds_toArray, List.set_cons_zero, List.set_cons_succ]
          refine wpAnyH_take (i := 6) (v := ?_) (by simp only [List.getElem?_toArray, List.getElem?_cons_zero, List.getElem?_cons_succ]; rfl) (by kernel_rfl) (by kernel_rfl) (by kernel_rfl) (fun _ _ _ h => h) (Or.inl ⟨by rfl, ?_⟩) Hw1.out.three ?_
          case refine_2 => (intro ww hSw; obtain ⟨s1, s2, s3⟩ := hSw; go_simp; try with_reducible rfl)
          try simp only [Act.put, List.setIfInBounds_toArray, List.set_cons_zero, List.set_cons_succ]
          refine wpAnyH_take (i := 7) (v := ?_) (by simp only [List.getElem?_toArray, List.getElem?_cons_zero, List.getElem?_cons_succ]; rfl) (by kernel_rfl) (by kernel_rfl) (by kernel_rfl) (fun _ _ _ h => h) (Or.inl ⟨by rfl, ?_⟩) Hw1.out.three ?_
          case refine_2 => (intro ww hSw; obtain ⟨s1, s2, s3⟩ := hSw; go_simp; try with_reducible rfl)
          try simp only [Act.put, List.setIfInBounds_toArray, List.set_cons_zero, List.set_cons_succ]
          refine wpAnyH_take (i := 8) (v := ?_) (by simp only [List.getElem?_toArray, List.getElem?_cons_zero, List.getElem?_cons_succ]; rfl) (by kernel_rfl) (by kernel_rfl) (by kernel_rfl) (fun _ _ _ h => h) (Or.inl ⟨by rfl, ?_⟩) Hw1.out.three ?_
          case refine_2 => (intro ww hSw; obtain ⟨s1, s2, s3⟩ := hSw; go_simp; try with_reducible rfl)
          try simp only [Act.put, List.setIfInBounds_toArray, List.set_cons_zero, List.set_cons_succ]
          refine wpAnyH_take (i := 9) (v := _) (by simp only [List.getElem?_toArray, List.getElem?_cons_zero, List.getElem?_cons_succ]; rfl) (by kernel_rfl) (by kernel_rfl) (by kernel_rfl) (fun _ _ _ h => h) (Or.inr ⟨by rfl, rfl⟩) Hw1.out.three ?_
          try simp only [Act.put, List.setIfInBounds_toArray, List.set_cons_zero, List.set_cons_succ]
          refine wpAnyH_take (i := 10) (v := _) (by simp only [List.getElem?_toArray, List.getElem?_cons_zero, List.getElem?_cons_succ]; rfl) (by kernel_rfl) (by kernel_rfl) (by kernel_rfl) (fun _ _ _ h => h) (Or.inr ⟨by rfl, rfl⟩) Hw1.out.three ?_
          try simp only [Act.put, List.setIfInBounds_toArray, List.set_cons_zero, List.set_cons_succ]
          refine wpAnyH_take (i := 11) (v := _) (by simp only [List.getElem?_toArray, List.getElem?_cons_zero, List.getElem?_cons_succ]; rfl) (by kernel_rfl) (by kernel_rfl) (by kernel_rfl) (fun _ _ _ h => h) (Or.inr ⟨by rfl, rfl⟩) Hw1.out.three ?_
          try simp only [Act.put, List.setIfInBounds_toArray, List.set_cons_zero, List.set_cons_succ]
          refine wpAnyH_take (i := 12) (v := _) (by simp only [List.getElem?_toArray, List.getElem?_cons_zero, List.getElem?_cons_succ]; rfl) (by kernel_rfl) (by kernel_rfl) (by kernel_rfl) (fun _ _ _ h => h) (Or.inr ⟨by rfl, rfl⟩) Hw1.out.three ?_
          try simp only [Act.put, List.setIfInBounds_toArray, List.set_cons_zero, List.set_cons_succ]
          refine wpAnyH_take (i := 13) (v := _) (by simp only [List.getElem?_toArray, List.getElem?_cons_zero, List.getElem?_cons_succ]; rfl) (by kernel_rfl) (by kernel_rfl) (by kernel_rfl) (fun _ _ _ h => h) (Or.inr ⟨by rfl, rfl⟩) Hw1.out.three ?_
          try simp only [Act.put, List.setIfInBounds_toArray, List.set_cons_zero, List.set_cons_succ]
          refine wpAnyH_take (i := 14) (v := _) (by simp only [List.getElem?_toArray, List.getElem?_cons_zero, List.getElem?_cons_succ]; rfl) (by kernel_rfl) (by kernel_rfl) (by kernel_rfl) (fun _ _ _ h => h) (Or.inr ⟨by rfl, rfl⟩) Hw1.out.three ?_
          try simp only [Act.put, List.setIfInBounds_toArray, List.set_cons_zero, List.set_cons_succ]
          refine wpAnyH_take (i := 15) (v := _) (by simp only [List.getElem?_toArray, List.getElem?_cons_zero, List.getElem?_cons_succ]; rfl) (by kernel_rfl) (by kernel_rfl) (by kernel_rfl) (fun _ _ _ h => h) (Or.inr ⟨by rfl, rfl⟩) Hw1.out.three ?_
          try simp only [Act.put, List.setIfInBounds_toArray, List.set_cons_zero, List.set_cons_succ]
          refine wpAnyH_take (i := 16) (v := _) (by simp only [List.getElem?_toArray, List.getElem?_cons_zero, List.getElem?_cons_succ]; rfl) (by kernel_rfl) (by kernel_rfl) (by kernel_rfl) (fun _ _ _ h => h) (Or.inr ⟨by rfl, rfl⟩) Hw1.out.three ?_
          try simp only [Act.put, List.setIfInBounds_toArray, List.set_cons_zero, List.set_cons_succ]
          refine wpAnyH_take (i := 17) (v := _) (by simp only [List.getElem?_toArray, List.getElem?_cons_zero, List.getElem?_cons_succ]; rfl) (by kernel_rfl) (by kernel_rfl) (by kernel_rfl) (fun _ _ _ h => h) (Or.inr ⟨by rfl, rfl⟩) Hw1.out.three ?_
          try simp only [Act.put, List.setIfInBounds_toArray, List.set_cons_zero, List.set_cons_succ]
          refine wpAnyH_take (i := 18) (v := _) (by simp only [List.getElem?_toArray, List.getElem?_cons_zero, List.getElem?_cons_succ]; rfl) (by kernel_rfl) (by kernel_rfl) (by kernel_rfl) (fun _ _ _ h => h) (Or.inr ⟨by rfl, rfl⟩) Hw1.out.three ?_
          try simp only [Act.put, List.setIfInBounds_toArray, List.set_cons_zero, List.set_cons_succ]
          refine wpAnyH_take (i := 19) (v := _) (by simp only [List.getElem?_toArray, List.getElem?_cons_zero, List.getElem?_cons_succ]; rfl) (by kernel_rfl) (by kernel_rfl) (by kernel_rfl) (fun _ _ _ h => h) (Or.inr ⟨by rfl, rfl⟩) Hw1.out.three ?_
          try simp only [Act.put, List.setIfInBounds_toArray, List.set_cons_zero, List.set_cons_succ]
          refine wpAnyH_take (i := 20) (v := ?_) (by simp only [List.getElem?_toArray, List.getElem?_cons_zero, List.getElem?_cons_succ]; rfl) (by kernel_rfl) (by kernel_rfl) (by kernel_rfl) (fun _ _ _ h => h) (Or.inl ⟨by rfl, ?_⟩) Hw1.out.three ?_
          case refine_2 => (intro ww hSw; obtain ⟨s1, s2, s3⟩ := hSw; go_simp; try with_reducible rfl)
          try simp only [Act.put, List.setIfInBounds_toArray, List.set_cons_zero, List.set_cons_succ]
          refine wpAnyH_take (i := 21) (v := ?_) (by simp only [List.getElem?_toArray, List.getElem?_cons_zero, List.getElem?_cons_succ]; rfl) (by kernel_rfl) (by kernel_rfl) (by kernel_rfl) (fun _ _ _ h => h) (Or.inl ⟨by rfl, ?_⟩) Hw1.out.three ?_
          case refine_2 => (intro ww hSw; obtain ⟨s1, s2, s3⟩ := hSw; go_simp; try with_reducible rfl)
          try simp only [Act.put, List.setIfInBounds_toArray, List.set_cons_zero, List.set_cons_succ]
          refine wpAnyH_done (by kernel_rfl) ?_ _
          refine NoPanic.normal ?_
          go_wp2_with fail
          exact ⟨⟨1, by omega, by go_num, Lib.hid (HN.out.step HP.out HN1.out (fun q h0 => absurd h0 (by omega))), Lib.hid Hw1.out.low⟩, by simp [intOf]; omega⟩
        · obtain ⟨m, rfl⟩ : ∃ m, k = m + 1 := ⟨k - 1, by omega⟩
          obtain ⟨q, hq⟩ : ∃ q, l[m]? = some q := ⟨_, List.getElem?_eq_getElem (by omega)⟩
          clear hk0
          have hml : m < l.length := by omega
          have hk4 : IntKind.i64.wrap (m : Int) = (m : Int) := IntWalk.i64_in _ (by omega)
          have hqc : RkAt w b1 (o1 + m * 3) q := HC1.out m q hq
          have HQ := Lib.hid hq
          have HQC := Lib.hid hqc
          clear hq hqc
          obtain ⟨r, hr⟩ : ∃ r : Bool, (!Op.bytesLess (kb q.1).toList (kb p.1).toList) = r := ⟨_, rfl⟩
          refine wp_region_noPanic ?_
          refine wp_region_held_drew (S := fun w' => w'.cell? ⟨wr.heap.size, 0, none⟩ = some (.string (kb p.1)) ∧ w'.cell? ⟨wr.heap.size, 1, none⟩ = some (.int .i64 p.2.1) ∧ w'.cell? ⟨wr.heap.size, 2, none⟩ = some (.int .i64 p.2.2) ∧ w'.cell? ⟨b1, o1 + m * 3, none⟩ = some (.string (kb q.1)) ∧ w'.cell? ⟨b1, o1 + m * 3 + 1, none⟩ = some (.int .i64 q.2.1) ∧ w'.cell? ⟨b1, o1 + m * 3 + 2, none⟩ = some (.int .i64 q.2.2)) (by kernel_rfl) (Hw0.out.six HQC.out hbn) (fun _ => ?_)
          simp only [List.size_toArray, List.length_cons, List.length_nil, Nat.reduceAdd]
          refine wpAnyH_take (i := 0) (v := ?_) (by simp only [List.getElem?_toArray, List.getElem?_cons_zero]; rfl) (by kernel_rfl) (by kernel_rfl) (by kernel_rfl) (fun _ _ _ h => h) (Or.inl ⟨by rfl, ?_⟩) (Hw0.out.six HQC.out hbn) ?_
          case refine_2 => (intro ww hSw; obtain ⟨s1, s2, s3, s4, s5, s6⟩ := hSw; go_simp; try with_reducible rfl)
          try simp only [Act.put, List.setIfInBounds_toArray, List.set_cons_zero, List.set_cons_succ]
          refine wpAnyH_take (i := 1) (v := ?_) (by simp only [List.getElem?_toArray, List.getElem?_cons_zero, List.getElem?_cons_succ]; rfl) (by kernel_rfl) (by kernel_rfl) (by kernel_rfl) (fun _ _ _ h => h) (Or.inl ⟨by rfl, ?_⟩) (Hw0.out.six HQC.out hbn) ?_
          case refine_2 => (intro ww hSw; obtain ⟨s1, s2, s3, s4, s5, s6⟩ := hSw; go_simp; try with_reducible rfl)
          try simp only [Act.put, List.setIfInBounds_toArray, List.set_cons_zero, List.set_cons_succ]
          refine wpAnyH_ready (rs := [2]) (by kernel_rfl) (by simp) ?_
          refine AllReadyH.cons (by simp only [List.getElem?_toArray, List.getElem?_cons_zero, List.getElem?_cons_succ]; rfl) (fun K' hK => ?_) AllReadyH.nil
          go_simp
          refine (rkName_any p _).mono ?_
          rintro e w1 ⟨rfl, hbw1⟩
          have Hw1 := Lib.hid (Hw0.out.carry hbw1)
          clear hbw1
          refine hK.out _ _ (Hw1.out.six HQC.out hbn) (fun _ => ?_)
          clear hK
          try simp only [Act.put, List.setIfInBounds_toArray, List.set_cons_zero, List.set_cons_succ]
          refine wpAnyH_ready (rs := [3]) (by kernel_rfl) (by simp) ?_
          refine AllReadyH.cons (by simp only [List.getElem?_toArray, List.getElem?_cons_zero, List.getElem?_cons_succ]; rfl) (fun K' hK => ?_) AllReadyH.nil
          go_simp
          refine (isName_any (kb p.1) true _ hsz).mono ?_
          rintro e w2 ⟨rfl, rfl⟩
          rw [hn]
          refine hK.out _ _ (Hw1.out.six HQC.out hbn) (fun _ => ?_)
          clear hK
          try simp only [Act.put, List.setIfInBounds_toArray, List.set_cons_zero, List.set_cons_succ]
          refine wpAnyH_take (i := 4) (v := ?_) (by simp only [List.getElem?_toArray, List.getElem?_cons_zero, List.getElem?_cons_succ]; rfl) (by kernel_rfl) (by kernel_rfl) (by kernel_rfl) (fun _ _ _ h => h) (Or.inl ⟨by rfl, ?_⟩) (Hw1.out.six HQC.out hbn) ?_
          case refine_2 => (intro ww hSw; obtain ⟨s1, s2, s3, s4, s5, s6⟩ := hSw; go_simp; try with_reducible rfl)
          try simp only [Act.put, List.setIfInBounds_toArray, List.set_cons_zero, List.set_cons_succ]
          refine wpAnyH_take (i := 5) (v := ?_) (by simp only [List.getElem?_toArray, List.getElem?_cons_zero, List.getElem?_cons_succ]; rfl) (by kernel_rfl) (by kernel_rfl) (by kernel_rfl) (fun _ _ _ h => h) (Or.inl ⟨by rfl, ?_⟩) (Hw1.out.six HQC.out hbn) ?_
          case refine_2 => (intro ww hSw; obtain ⟨s1, s2, s3, s4, s5, s6⟩ := hSw; go_simp; try with_reducible rfl)
          try simp only [Act.put, List.setIfInBounds_toArray, List.set_cons_zero, List.set_cons_succ]
          refine wpAnyH_take (i := 6) (v := ?_) (by simp only [List.getElem?_toArray, List.getElem?_cons_zero, List.getElem?_cons_succ]; rfl) (by kernel_rfl) (by kernel_rfl) (by kernel_rfl) (fun _ _ _ h => h) (Or.inl ⟨by rfl, ?_⟩) (Hw1.out.six HQC.out hbn) ?_
          case refine_2 => (intro ww hSw; obtain ⟨s1, s2, s3, s4, s5, s6⟩ := hSw; go_simp; try with_reducible rfl)
          try simp only [Act.put, List.setIfInBounds_toArray, List.set_cons_zero, List.set_cons_succ]
          refine wpAnyH_take (i := 7) (v := ?_) (by simp only [List.getElem?_toArray, List.getElem?_cons_zero, List.getElem?_cons_succ]; rfl) (by kernel_rfl) (by kernel_rfl) (by kernel_rfl) (fun _ _ _ h => h) (Or.inl ⟨by rfl, ?_⟩) (Hw1.out.six HQC.out hbn) ?_
          case refine_2 => (intro ww hSw; obtain ⟨s1, s2, s3, s4, s5, s6⟩ := hSw; go_simp; try with_reducible rfl)
          try simp only [Act.put, List.setIfInBounds_toArray, List.set_cons_zero, List.set_cons_succ]
          refine wpAnyH_take (i := 8) (v := ?_) (by simp only [List.getElem?_toArray, List.getElem?_cons_zero, List.getElem?_cons_succ]; rfl) (by kernel_rfl) (by kernel_rfl) (by kernel_rfl) (fun _ _ _ h => h) (Or.inl ⟨by rfl, ?_⟩) (Hw1.out.six HQC.out hbn) ?_
          case refine_2 => (intro ww hSw; obtain ⟨s1, s2, s3, s4, s5, s6⟩ := hSw; go_simp; try with_reducible rfl)
          try simp only [Act.put, List.setIfInBounds_toArray, List.set_cons_zero, List.set_cons_succ]
          refine wpAnyH_take (i := 9) (v := ?_) (by simp only [List.getElem?_toArray, List.getElem?_cons_zero, List.getElem?_cons_succ]; rfl) (by kernel_rfl) (by kernel_rfl) (by kernel_rfl) (fun _ _ _ h => h) (Or.inl ⟨by rfl, ?_⟩) (Hw1.out.six HQC.out hbn) ?_
          case refine_2 => (intro ww hSw; obtain ⟨s1, s2, s3, s4, s5, s6⟩ := hSw; go_simp; try with_reducible rfl)
          try simp only [Act.put, List.setIfInBounds_toArray, List.set_cons_zero, List.set_cons_succ]
          refine wpAnyH_take (i := 10) (v := ?_) (by simp only [List.getElem?_toArray, List.getElem?_cons_zero, List.getElem?_cons_succ]; rfl) (by kernel_rfl) (by kernel_rfl) (by kernel_rfl) (fun _ _ _ h => h) (Or.inl ⟨by rfl, ?_⟩) (Hw1.out.six HQC.out hbn) ?_
          case refine_2 => (intro ww hSw; obtain ⟨s1, s2, s3, s4, s5, s6⟩ := hSw; go_simp; try with_reducible rfl)
          try simp only [Act.put, List.setIfInBounds_toArray, List.set_cons_zero, List.set_cons_succ]
          refine wpAnyH_take (i := 11) (v := ?_) (by simp only [List.getElem?_toArray, List.getElem?_cons_zero, List.getElem?_cons_succ]; rfl) (by kernel_rfl) (by kernel_rfl) (by kernel_rfl) (fun _ _ _ h => h) (Or.inl ⟨by rfl, ?_⟩) (Hw1.out.six HQC.out hbn) ?_
          case refine_2 => (intro ww hSw; obtain ⟨s1, s2, s3, s4, s5, s6⟩ := hSw; go_simp; try with_reducible rfl)
          try simp only [Act.put, List.setIfInBounds_toArray, List.set_cons_zero, List.set_cons_succ]
          refine wpAnyH_take (i := 12) (v := ?_) (by simp only [List.getElem?_toArray, List.getElem?_cons_zero, List.getElem?_cons_succ]; rfl) (by kernel_rfl) (by kernel_rfl) (by kernel_rfl) (fun _ _ _ h => h) (Or.inl ⟨by rfl, ?_⟩) (Hw1.out.six HQC.out hbn) ?_
          case refine_2 => (intro ww hSw; obtain ⟨s1, s2, s3, s4, s5, s6⟩ := hSw; go_simp; try with_reducible rfl)
          try simp only [Act.put, List.setIfInBounds_toArray, List.set_cons_zero, List.set_cons_succ]
          refine wpAnyH_take (i := 13) (v := ?_) (by simp only [List.getElem?_toArray, List.getElem?_cons_zero, List.getElem?_cons_succ]; rfl) (by kernel_rfl) (by kernel_rfl) (by kernel_rfl) (fun _ _ _ h => h) (Or.inl ⟨by rfl, ?_⟩) (Hw1.out.six HQC.out hbn) ?_
          case refine_2 => (intro ww hSw; obtain ⟨s1, s2, s3, s4, s5, s6⟩ := hSw; go_simp; try with_reducible rfl)
          try simp only [Act.put, List.setIfInBounds_toArray, List.set_cons_zero, List.set_cons_succ]
          refine wpAnyH_take (i := 14) (v := ?_) (by simp only [List.getElem?_toArray, List.getElem?_cons_zero, List.getElem?_cons_succ]; rfl) (by kernel_rfl) (by kernel_rfl) (by kernel_rfl) (fun _ _ _ h => h) (Or.inl ⟨by rfl, ?_⟩) (Hw1.out.six HQC.out hbn) ?_
          case refine_2 => (intro ww hSw; obtain ⟨s1, s2, s3, s4, s5, s6⟩ := hSw; go_simp; try with_reducible rfl)
          try simp only [Act.put, List.setIfInBounds_toArray, List.set_cons_zero, List.set_cons_succ]
          refine wpAnyH_take (i := 16) (v := ?_) (by simp only [List.getElem?_toArray, List.getElem?_cons_zero, List.getElem?_cons_succ]; rfl) (by kernel_rfl) (by kernel_rfl) (by kernel_rfl) (fun _ _ _ h => h) (Or.inl ⟨by rfl, ?_⟩) (Hw1.out.six HQC.out hbn) ?_
          case refine_2 => (intro ww hSw; obtain ⟨s1, s2, s3, s4, s5, s6⟩ := hSw; go_simp; try with_reducible rfl)
          try simp only [Act.put, List.setIfInBounds_toArray, List.set_cons_zero, List.set_cons_succ]
          refine wpAnyH_take (i := 17) (v := ?_) (by simp only [List.getElem?_toArray, List.getElem?_cons_zero, List.getElem?_cons_succ]; rfl) (by kernel_rfl) (by kernel_rfl) (by kernel_rfl) (fun _ _ _ h => h) (Or.inl ⟨by rfl, ?_⟩) (Hw1.out.six HQC.out hbn) ?_
          case refine_2 => (intro ww hSw; obtain ⟨s1, s2, s3, s4, s5, s6⟩ := hSw; go_simp; try with_reducible rfl)
          try simp only [Act.put, List.setIfInBounds_toArray, List.set_cons_zero, List.set_cons_succ]
          refine wpAnyH_ready (rs := [15]) (by kernel_rfl) (by simp) ?_
          refine AllReadyH.cons (by simp only [List.getElem?_toArray, List.getElem?_cons_zero, List.getElem?_cons_succ]; rfl) (fun K' hK => ?_) AllReadyH.nil
          go_simp
          refine (rkName_any q _).mono ?_
          rintro e w3 ⟨rfl, hbw3⟩
          have Hw3 := Lib.hid (Hw1.out.carry hbw3)
          clear hbw3
          refine hK.out _ _ (Hw3.out.six HQC.out hbn) (fun _ => ?_)
          clear hK
          try simp only [Act.put, List.setIfInBounds_toArray, List.set_cons_zero, List.set_cons_succ]
          refine wpAnyH_ready (rs := [18]) (by kernel_rfl) (by simp) ?_
          refine AllReadyH.cons (by simp only [List.getElem?_toArray, List.getElem?_cons_zero, List.getElem?_cons_succ]; rfl) (fun K' hK => ?_) AllReadyH.nil
          go_simp
          refine (rkName_any p _).mono ?_
          rintro e w4 ⟨rfl, hbw4⟩
          have Hw4 := Lib.hid (Hw3.out.carry hbw4)
          clear hbw4
          refine hK.out _ _ (Hw4.out.six HQC.out hbn) (fun _ => ?_)
          clear hK
          try simp only [Act.put, List.setIfInBounds_toArray, List.set_cons_zero, List.set_cons_succ]
          refine wpAnyH_take (i := 19) (v := ?_) (by simp only [List.getElem?_toArray, List.getElem?_cons_zero, List.getElem?_cons_succ]; rfl) (by kernel_rfl) (by kernel_rfl) (by kernel_rfl) (fun _ _ _ h => h) (Or.inl ⟨by rfl, ?_⟩) (Hw4.out.six HQC.out hbn) ?_
          case refine_2 => (intro ww hSw; obtain ⟨s1, s2, s3, s4, s5, s6⟩ := hSw; go_simp; try with_reducible rfl)
          try simp only [Act.put, List.setIfInBounds_toArray, List.set_cons_zero, List.set_cons_succ]
          refine wpAnyH_take (i := 20) (v := ?_) (by simp only [List.getElem?_toArray, List.getElem?_cons_zero, List.getElem?_cons_succ]; rfl) (by kernel_rfl) (by kernel_rfl) (by kernel_rfl) (fun _ _ _ h => h) (Or.inl ⟨by rfl, ?_⟩) (Hw4.out.six HQC.out hbn) ?_
          case refine_2 => (intro ww hSw; obtain ⟨s1, s2, s3, s4, s5, s6⟩ := hSw; go_simp; try with_reducible rfl)
          try simp only [Act.put, List.setIfInBounds_toArray, List.set_cons_zero, List.set_cons_succ]
          refine wpAnyH_take (i := 21) (v := ?_) (by simp only [List.getElem?_toArray, List.getElem?_cons_zero, List.getElem?_cons_succ]; rfl) (by kernel_rfl) (by kernel_rfl) (by kernel_rfl) (fun _ _ _ h => h) (Or.inl ⟨by rfl, ?_⟩) (Hw4.out.six HQC.out hbn) ?_
          case refine_2 => (intro ww hSw; obtain ⟨s1, s2, s3, s4, s5, s6⟩ := hSw; go_simp; try with_reducible rfl)
          try simp only [Act.put, List.setIfInBounds_toArray, List.set_cons_zero, List.set_cons_succ]
          refine wpAnyH_done (by kernel_rfl) ?_ _
          refine NoPanic.normal ?_
          cases r
          · have hqp : q.1 < p.1 := Classical.not_not.1 fun h => by rw [gtB_no h] at hr; cases hr
            go_wp2_with fail
            exact ⟨⟨m + 1 + 1, by omega, by go_num, Lib.hid (HN.out.step HP.out HN1.out (fun q' _ h1 => by rw [show m + 1 - 1 = m from rfl, HQ.out] at h1; cases h1; exact hqp)), Lib.hid Hw4.out.low⟩, by simp [intOf]; omega⟩
          · have hqp : ¬ q.1 < p.1 := fun h => by rw [gtB_yes h] at hr; cases hr
            have HN0 : Hid (precC l = 4) := Lib.hid (precC_nms h256 fun h => hqp ((h (m + 1) p HP.out).2 q (by omega) HQ.out))
            go_wp2_with fail
            go_ret
            exact ⟨by rw [HN0.out]; rfl, Hw4.out.low⟩
    · obtain rfl : k = l.length := by omega
      have HNO := Lib.hid HN.out.all
      clear HN
      have HBW0 := HBW
      clear HBW
      go_wp2_with fail
      go_loopw [46] (fun i wr => ∃ k : Nat, k ≤ l.length ∧ i = .int .i64 k ∧ Hid (∀ x ∈ l.take k, 0 ≤ x.2.1 ∧ x.2.1 ≤ 1000 ∧ x.2.2 = 0) ∧ Hid (Below w.heap.size w wr)) (fun i _ => l.length - (intOf i).toNat)
      case atStart => exact ⟨0, by omega, rfl, Lib.hid (fun x hx => by simp at hx), HBW0⟩
      case round =>
        obtain ⟨k, hk, rfl, HF, HBW⟩ := hrel
        by_cases hlt : k < l.length
        · obtain ⟨p, hp⟩ : ∃ p, l[k]? = some p := ⟨_, List.getElem?_eq_getElem hlt⟩
          obtain ⟨b1, o1, rfl, hbn, hc1⟩ := HC.out (by rintro rfl; simp at hlt)
          obtain ⟨c0, c1, c2⟩ := hc1 k p hp
          have c0 := (HBW.out.cell (p := ⟨b1, _, none⟩) hbn).trans c0
          have c1 := (HBW.out.cell (p := ⟨b1, _, none⟩) hbn).trans c1
          have c2 := (HBW.out.cell (p := ⟨b1, _, none⟩) hbn).trans c2
          have HP := Lib.hid hp
          clear hc1 hp
          go_wp2_with fail
          refine (rkFits_any p _).mono ?_
          rintro e w1 ⟨rfl, hb1⟩
          have HB1 : Hid (Below w.heap.size w w1) := Lib.hid ((HBW.out.alloc HBW.out.size _).trans (hb1.mono (by have := HBW.out.size; simp; omega)))
          clear hb1
          by_cases hf : 0 ≤ p.2.1 ∧ p.2.1 ≤ 1000 ∧ p.2.2 = 0
          · rw [decide_eq_true hf]
            go_wp2_with fail
            refine ⟨⟨k + 1, by omega, by go_num, Lib.hid (fun x hx => ?_), HB1⟩, by simp [intOf]; omega⟩
            rw [List.take_add_one, HP.out] at hx
            rcases List.mem_append.1 hx with hx | hx
            · exact HF.out x hx
            · obtain rfl : x = p := by simpa using hx
              exact hf
          · rw [decide_eq_false hf]
            have HN0 : Hid (precC l = 2) := Lib.hid (precC_rks h256 HNO.out fun h => hf (h p (List.mem_of_getElem? HP.out)))
            go_wp2_with fail
            go_ret
            exact ⟨by rw [HN0.out]; rfl, HB1.out⟩
        · obtain rfl : k = l.length := by omega
          have HZ : Hid (precC l = 0) := Lib.hid (precC_zero.2 ⟨by omega, HNO.out, fun x hx => HF.out x (by rw [List.take_length]; exact hx)⟩)
          go_wp2_with fail
          go_ret
          exact ⟨by rw [HZ.out]; rfl, HBW.out⟩
theorem pathCheck_any (l : List Rk) (v : Value) (w : World) (hl : RksIs w.heap.size w l v) (hb : rkBulk l ≤ 1048576) :
    Calls Try.prog 8 #[v] w fun e w' => e = .returned (.int .i64 (precC l)) ∧ Below w.heap.size w w' := by
  have HK := Lib.hid (checkList_any l v w hl hb)
  obtain ⟨oa, cap, rfl, -, -⟩ := hl
  go_enter Try.func8, Try.ntmps8
  go_wp2_with fail
  refine HK.out.mono ?_
  rintro e w' ⟨rfl, hb1⟩
  go_wp2_with fail
  go_ret
  exact ⟨rfl, hb1⟩
end Go.Proofs.Ytnomppdmhgefiaa
/- Package path: the rank of a name (a search by halves). -/
namespace Go.Proofs.Ytnomppdmhgefiaa
open Go.RowKit Go.Shelf

theorem cmpB_lt : ∀ (a b : Key), Lib.compareBytes a b < 0 ↔ a < b
  | [], [] => by simp [Lib.compareBytes]
  | [], b :: y => by simp [Lib.compareBytes]
  | a :: x, [] => by simp [Lib.compareBytes]
  | a :: x, b :: y => by
    have ih := cmpB_lt x y
    unfold Lib.compareBytes
    rw [List.cons_lt_cons_iff]
    by_cases h1 : a < b
    · simp [h1]
    · rw [if_neg h1]
      by_cases h2 : b < a
      · have hne : a ≠ b := fun e => by subst e; exact h1 h2
        simp [h1, h2, hne]
      · have he : a = b := UInt8.le_antisymm (UInt8.not_lt.1 h2) (UInt8.not_lt.1 h1)
        rw [if_neg h2, ih]
        simp [he]
theorem cmpB_eq : ∀ (a b : Key), Lib.compareBytes a b = 0 ↔ a = b
  | [], [] => by simp [Lib.compareBytes]
  | [], b :: y => by simp [Lib.compareBytes]
  | a :: x, [] => by simp [Lib.compareBytes]
  | a :: x, b :: y => by
    have ih := cmpB_eq x y
    unfold Lib.compareBytes
    by_cases h1 : a < b
    · have hne : a ≠ b := fun e => by subst e; exact absurd h1 (UInt8.lt_irrefl _)
      simp [h1, hne]
    · rw [if_neg h1]
      by_cases h2 : b < a
      · have hne : a ≠ b := fun e => by subst e; exact absurd h2 (UInt8.lt_irrefl _)
        simp [h2, hne]
      · have he : a = b := UInt8.le_antisymm (UInt8.not_lt.1 h2) (UInt8.not_lt.1 h1)
        rw [if_neg h2, ih]
        simp [he]
theorem cmpB_cases (a b : Key) : Lib.compareBytes a b = -1 ∨ Lib.compareBytes a b = 0 ∨ Lib.compareBytes a b = 1 := by
  induction a generalizing b with
  | nil => cases b <;> simp [Lib.compareBytes]
  | cons x a ih =>
    cases b with
    | nil => simp [Lib.compareBytes]
    | cons y b =>
      unfold Lib.compareBytes
      split
      · exact .inl rfl
      · split
        · exact .inr (.inr rfl)
        · exact ih b

/-- what the search by halves knows -/
structure BsSt (l : List Rk) (k : Key) (lo hi : Nat) : Prop where
  le : lo ≤ hi
  top : hi ≤ l.length
  low : ∀ j p, j < lo → l[j]? = some p → p.1 < k
  high : ∀ j p, hi ≤ j → l[j]? = some p → ¬ p.1 < k
set_option maxRecDepth 100000 in
set_option maxHeartbeats 8000000 in
theorem rkSearch_any (l : List Rk) (k : Key) (v : Value) (w : World) (hl : RksIs w.heap.size w l v) (hlen : l.length ≤ 1048576) (hn : NmsOk l) :
    Calls Try.prog 53 #[v, .string (kb k), .func (.func 54) #[] #[]] w fun e w' => (∃ (i : Nat) (f : Bool), e = .returned (.tuple #[.int .i64 i, .bool f]) ∧ ((f = true ∧ ∃ p, l[i]? = some p ∧ p.1 = k) ∨ (f = false ∧ rkOf l k = 0))) ∧ Below w.heap.size w w' := by
  obtain ⟨oa, cap, rfl, hcap, hc⟩ := hl
  have HC := Lib.hid hc
  have HN := Lib.hid hn
  clear hc hn
  go_enter Try.func53, Try.ntmps53
  go_wp2_with fail
  go_loopw [9, 10] (fun i j wr => ∃ lo hi : Nat, i = .int .i64 lo ∧ j = .int .i64 hi ∧ lo ≤ hi ∧ hi ≤ l.length ∧ Hid (BsSt l k lo hi) ∧ Hid (Below w.heap.size w wr)) (fun i j _ => (intOf j).toNat - (intOf i).toNat)
  case atStart => exact ⟨0, l.length, rfl, rfl, by omega, by omega, Lib.hid ⟨by omega, Nat.le_refl _, fun j p hj => absurd hj (by omega), fun j p hj hp => by have := (List.getElem?_eq_some_iff.1 hp).1; omega⟩, Lib.hid (Below.refl _ _)⟩
  case round =>
    obtain ⟨lo, hi, rfl, rfl, h1, h2, HS, HBW⟩ := hrel
    by_cases hlt : lo < hi
    · obtain ⟨p, hp⟩ : ∃ p, l[(lo + hi) / 2]? = some p := ⟨_, List.getElem?_eq_getElem (by omega)⟩
      obtain ⟨b1, o1, rfl, hbn, hc1⟩ := HC.out (by rintro rfl; simp at h2; omega)
      obtain ⟨c0, c1, c2⟩ := hc1 _ p hp
      have c0 := (HBW.out.cell (p := ⟨b1, _, none⟩) hbn).trans c0
      have c1 := (HBW.out.cell (p := ⟨b1, _, none⟩) hbn).trans c1
      have c2 := (HBW.out.cell (p := ⟨b1, _, none⟩) hbn).trans c2
      have HP := Lib.hid hp
      clear hc1 hp
      go_wp2_with fail
      refine (rkCmp_any p k _).mono ?_
      rintro e w1 ⟨rfl, hb1⟩
      have HB1 : Hid (Below w.heap.size w w1) := Lib.hid (HBW.out.trans (hb1.mono HBW.out.size))
      clear hb1
      by_cases hlt2 : p.1 < k
      · have hd : decide (Lib.compareBytes p.1 k < 0) = true := decide_eq_true ((cmpB_lt _ _).2 hlt2)
        have HS2 : Hid (BsSt l k ((lo + hi) / 2 + 1) hi) := Lib.hid ⟨by omega, h2, fun j q hj hq => by
          by_cases e : j = (lo + hi) / 2
          · subst e; rw [HP.out] at hq; cases hq; exact hlt2
          · exact List.lt_trans (HN.out.lt (by omega) hq HP.out) hlt2, HS.out.high⟩
        clear hlt2
        go_wp2_with fail
        exact ⟨⟨(lo + hi) / 2 + 1, hi, by rw [show ((lo : Int) + (hi : Int)) / 2 + 1 = (((lo + hi) / 2 + 1 : Nat) : Int) by omega], rfl, by omega, h2, HS2, HB1⟩, by simp [intOf]; omega⟩
      · have hd : decide (Lib.compareBytes p.1 k < 0) = false := decide_eq_false fun h => hlt2 ((cmpB_lt _ _).1 h)
        have HS2 : Hid (BsSt l k lo ((lo + hi) / 2)) := Lib.hid ⟨by omega, by omega, HS.out.low, fun j q hj hq h => by
          by_cases e : j = (lo + hi) / 2
          · subst e; rw [HP.out] at hq; cases hq; exact hlt2 h
          · exact hlt2 (List.lt_trans (HN.out.lt (by omega) HP.out hq) h)⟩
        clear hlt2
        go_wp2_with fail
        exact ⟨⟨lo, (lo + hi) / 2, rfl, by rw [show ((lo : Int) + (hi : Int)) / 2 = (((lo + hi) / 2 : Nat) : Int) by omega], by omega, by omega, HS2, HB1⟩, by simp [intOf]; omega⟩
    · obtain rfl : hi = lo := by omega
      by_cases hle : hi < l.length
      · obtain ⟨p, hp⟩ : ∃ p, l[hi]? = some p := ⟨_, List.getElem?_eq_getElem hle⟩
        obtain ⟨b1, o1, rfl, hbn, hc1⟩ := HC.out (by rintro rfl; simp at hle)
        obtain ⟨c0, c1, c2⟩ := hc1 _ p hp
        have c0 := (HBW.out.cell (p := ⟨b1, _, none⟩) hbn).trans c0
        have c1 := (HBW.out.cell (p := ⟨b1, _, none⟩) hbn).trans c1
        have c2 := (HBW.out.cell (p := ⟨b1, _, none⟩) hbn).trans c2
        have HP := Lib.hid hp
        clear hc1 hp
        go_wp2_with fail
        refine (rkCmp_any p k _).mono ?_
        rintro e w1 ⟨rfl, hb1⟩
        have HB1 : Hid (Below w.heap.size w w1) := Lib.hid (HBW.out.trans (hb1.mono HBW.out.size))
        clear hb1
        by_cases he : p.1 = k
        · have hd : (Lib.compareBytes p.1 k == 0) = true := by rw [beq_iff_eq]; exact (cmpB_eq _ _).2 he
          have HE := Lib.hid he
          clear he
          go_wp2_with fail
          go_ret2
          exact ⟨⟨hi, true, rfl, .inl ⟨rfl, p, HP.out, HE.out⟩⟩, HB1.out⟩
        · have hd : (Lib.compareBytes p.1 k == 0) = false := by rw [beq_eq_false_iff_ne]; exact fun h => he ((cmpB_eq _ _).1 h)
          have HE : Hid (rkOf l k = 0) := Lib.hid (rkOf_no HN.out HS.out.low fun q hq => ⟨HS.out.high hi q (Nat.le_refl _) hq, by rw [HP.out] at hq; cases hq; exact he⟩)
          clear he
          go_wp2_with fail
          go_ret2
          exact ⟨⟨hi, false, rfl, .inr ⟨rfl, HE.out⟩⟩, HB1.out⟩
      · have HE : Hid (rkOf l k = 0) := Lib.hid (rkOf_no HN.out HS.out.low fun q hq => by have := (List.getElem?_eq_some_iff.1 hq).1; omega)
        go_wp2_with fail
        go_ret2
        exact ⟨⟨hi, false, rfl, .inr ⟨rfl, HE.out⟩⟩, HBW.out⟩
set_option maxRecDepth 100000 in
set_option maxHeartbeats 4000000 in
theorem rkRank_any (l : List Rk) (k : Key) (v : Value) (w : World) (hl : RksIs w.heap.size w l v) (hlen : l.length ≤ 1048576) (hn : NmsOk l) :
    Calls Try.prog 40 #[v, .string (kb k)] w fun e w' => e = .returned (.int .i64 (rkOf l k)) ∧ Below w.heap.size w w' := by
  have HK := Lib.hid (rkSearch_any l k v w hl hlen hn)
  obtain ⟨oa, cap, rfl, hcap, hc⟩ := hl
  have HC := Lib.hid hc
  have HN := Lib.hid hn
  clear hc hn
  go_enter Try.func40, Try.ntmps40
  go_wp2_with fail
  refine HK.out.mono ?_
  rintro e w1 ⟨⟨i, f, rfl, hc⟩, hb1⟩
  have HB := Lib.hid hb1
  clear hb1 HK
  cases f
  · obtain ⟨-, h0⟩ := hc.resolve_left (by rintro ⟨h, -⟩; cases h)
    have H0 := Lib.hid h0
    clear h0 hc
    go_wp2_with fail
    go_ret
    exact ⟨by rw [H0.out]; rfl, HB.out⟩
  · obtain ⟨-, p, hp, hk⟩ := hc.resolve_right (by rintro ⟨h, -⟩; cases h)
    have hi := (List.getElem?_eq_some_iff.1 hp).1
    obtain ⟨b1, o1, rfl, hbn, hc1⟩ := HC.out (by rintro rfl; simp at hi)
    obtain ⟨c0, c1, c2⟩ := hc1 _ p hp
    have c1 := (HB.out.cell (p := ⟨b1, _, none⟩) hbn).trans c1
    have HR := Lib.hid (rkOf_at HN.out hp hk)
    clear hc1 hp hk hc c0 c2
    go_wp2_with fail
    go_ret
    exact ⟨by rw [HR.out]; rfl, HB.out⟩
end Go.Proofs.Ytnomppdmhgefiaa
