/- Packed: Wra, Ckl. -/
import Derived.Test.YtnomppdmhgefiaaGreatF18
import Derived.Test.YtnomppdmhgefiaaGreatF23
import Derived.Test.YtnomppdmhgefiaaGreatF08
/- The reference of package weight: Above, Admissible. -/
namespace Go.Proofs.YtnomppdmhgefiaaGreat
open Go.RowKit Go.Shelf Go.Maps

set_option maxRecDepth 100000 in
set_option maxHeartbeats 4000000 in
theorem rAbove_any (L : List Rk) (f g : Key) (v : Value) (w : World) (hl : RksIs w.heap.size w L v) (hlen : L.length ≤ 1048576) :
    Calls Tryz.prog 132 #[v, .string (kb f), .string (kb g)] w fun e w' => e = .returned (.bool (decide (rkOf L g < rkOf L f))) ∧ Below w.heap.size w w' := by
  have HE : Hid (∀ (k : Key) (W : World), Below w.heap.size w W → Calls Tryz.prog 131 #[v, .string (kb k)] W fun e w' => e = .returned (rkv (entryOf L k)) ∧ Below W.heap.size W w') := Lib.hid fun k W hW => rEntry_any L k v W (hl.carry hW hW.size) (by omega)
  obtain ⟨ol, cl, rfl, -, -⟩ := hl
  have hfd := rkFld1
  go_enter Tryz.func132, Tryz.ntmps132
  go_wp2_with fail
  refine (HE.out f _ (Below.refl _ _)).mono ?_
  rintro e w1 ⟨rfl, hb1⟩
  have HB1 := Lib.hid hb1
  clear hb1
  go_wp2_with fail
  refine (HE.out g _ HB1.out).mono ?_
  rintro e w2 ⟨rfl, hb2⟩
  have HB2 := Lib.hid (HB1.out.trans (hb2.mono HB1.out.size))
  clear hb2
  go_wp2_with fail
  go_ret
  exact ⟨rfl, HB2.out⟩
/-- up to j nothing stands against x -/
def AdmTo (L : List Rk) (S : List Sy) (x : Sy) (j : Nat) : Prop := x.2 = 1 → wtOf L x.1 = 0 → ∀ y ∈ S.take j, x ≠ y → rkOf L y.1 < rkOf L x.1
theorem AdmTo.step {L : List Rk} {S : List Sy} {x y : Sy} {j : Nat} (h : AdmTo L S x j) (hy : S[j]? = some y) (h2 : x.2 = 1 → wtOf L x.1 = 0 → x ≠ y → rkOf L y.1 < rkOf L x.1) : AdmTo L S x (j + 1) := fun a b z hz hne => by
  rw [List.take_add_one, hy] at hz
  rcases List.mem_append.1 hz with hz | hz
  · exact h a b z hz hne
  · obtain rfl : z = y := by simpa using hz
    exact h2 a b hne
set_option maxRecDepth 100000 in
set_option maxHeartbeats 4000000 in
theorem rAdm_any (L : List Rk) (u : Int) (S : List Sy) (hSl : S.length ≤ 8589934592) (lv sv : Value) (w : World) (hL : RksIs w.heap.size w L lv) (hlen : L.length ≤ 1048576) (hS : SyIs w.heap.size w S sv) :
    Calls Tryz.prog 73 #[lv, .int .i64 u, sv] w fun e w' => e = .returned (.bool (admB L u S)) ∧ Below w.heap.size w w' := by
  have HE : Hid (∀ (k : Key) (W : World), Below w.heap.size w W → Calls Tryz.prog 131 #[lv, .string (kb k)] W fun e w' => e = .returned (rkv (entryOf L k)) ∧ Below W.heap.size W w') := Lib.hid fun k W hW => rEntry_any L k lv W (hL.carry hW hW.size) (by omega)
  have HAB : Hid (∀ (f g : Key) (W : World), Below w.heap.size w W → Calls Tryz.prog 132 #[lv, .string (kb f), .string (kb g)] W fun e w' => e = .returned (.bool (decide (rkOf L g < rkOf L f))) ∧ Below W.heap.size W w') := Lib.hid fun f g W hW => rAbove_any L f g lv W (hL.carry hW hW.size) hlen
  obtain ⟨ol, cl, rfl, -, -⟩ := hL
  obtain ⟨os, cs, rfl, hcap, hc⟩ := hS
  have HC := Lib.hid hc
  clear hc
  go_enter Tryz.func73, Tryz.ntmps73
  go_wp2_with fail
  go_loopw [14] (fun i wr => ∃ k : Nat, k ≤ S.length ∧ i = .int .i64 k ∧ Hid (∀ x ∈ S.take k, AdmX L u S x) ∧ Hid (Below w.heap.size w wr)) (fun i _ => S.length - (intOf i).toNat)
  case atStart => exact ⟨0, by omega, rfl, Lib.hid (by simp), Lib.hid (Below.refl _ _)⟩
  case round =>
    obtain ⟨k, hk, rfl, HD, HBW⟩ := hrel
    by_cases hlt : k < S.length
    · obtain ⟨p, hp⟩ : ∃ p, S[k]? = some p := ⟨_, List.getElem?_eq_getElem hlt⟩
      obtain ⟨b1, o1, rfl, hbn, hc1⟩ := HC.out (by rintro rfl; simp at hlt)
      obtain ⟨c0, c1⟩ := hc1 k p hp
      have c0 := (HBW.out.cell (p := ⟨b1, _, none⟩) hbn).trans c0
      have c1 := (HBW.out.cell (p := ⟨b1, _, none⟩) hbn).trans c1
      have HC1 := Lib.hid hc1
      have HP := Lib.hid hp
      have HBX := Lib.hid (heap_new_at wr (.cells #[.string (kb p.1), .int .i64 p.2] 141) _ rfl)
      have HAL : Hid (Below w.heap.size w (wr.alloc (.cells #[.string (kb p.1), .int .i64 p.2] 141))) := Lib.hid (HBW.out.alloc HBW.out.size _)
      clear hc1 hp
      have hfd := rkFld2
      go_wp2_with fail
      refine (HE.out p.1 _ HAL.out).mono ?_
      rintro e w1 ⟨rfl, hb1⟩
      have HB1 := Lib.hid (HAL.out.trans (hb1.mono HAL.out.size))
      have HBX1 := Lib.hid ((hb1.block _ (by simp)).trans HBX.out)
      generalize hp1 : entryOf L p.1 = p1
      have HP1 : Hid (p1.2.2 = wtOf L p.1) := Lib.hid (by rw [← hp1]; rfl)
      obtain ⟨x0, x1⟩ := (box2w HBX1.out).1
      clear hp1 hb1 c0 c1 HBX
      by_cases h0 : p.2 = 0
      · have hd0 : (p.2 == 0) = true := by rw [h0]; rfl
        by_cases hw : p1.2.2 < u
        · have hdw : decide (p1.2.2 < u) = true := decide_eq_true hw
          have HX : Hid (admB L u S = false) := Lib.hid (admB_no.2 fun h => by have := (h p (List.mem_of_getElem? HP.out)).1 h0; rw [← HP1.out] at this; omega)
          go_wp2_with fail
          go_ret
          exact ⟨by rw [HX.out]; rfl, HB1.out⟩
        · have hdw : decide (p1.2.2 < u) = false := decide_eq_false hw
          have HC0 : Hid (p.2 = 0 → u ≤ wtOf L p.1) := Lib.hid fun _ => by rw [← HP1.out]; omega
          clear h0
          go_wp2_with fail
          clear x0 x1 hfd
          go_loopw [33] (fun i wr => ∃ j : Nat, j ≤ S.length ∧ i = .int .i64 j ∧ Hid (AdmTo L S p j) ∧ Hid (Below w1.heap.size w1 wr)) (fun i _ => S.length - (intOf i).toNat)
          case atStart => exact ⟨0, by omega, rfl, Lib.hid (fun _ _ y hy => by simp at hy), Lib.hid (Below.refl _ _)⟩
          case round =>
            obtain ⟨j, hj, rfl, HT, HBJ⟩ := hrel
            have hz0 := HB1.out.size
            have hzj := HBJ.out.size
            by_cases hjt : j < S.length
            · obtain ⟨q, hq⟩ : ∃ q, S[j]? = some q := ⟨_, List.getElem?_eq_getElem hjt⟩
              obtain ⟨c0, c1⟩ := HC1.out j q hq
              have c0 := ((HB1.out.trans (HBJ.out.mono hz0)).cell (p := ⟨b1, _, none⟩) hbn).trans c0
              have c1 := ((HB1.out.trans (HBJ.out.mono hz0)).cell (p := ⟨b1, _, none⟩) hbn).trans c1
              have HQ := Lib.hid hq
              have hA : Below wr.heap.size wr (wr.alloc (.cells #[.string (kb q.1), .int .i64 q.2] 141)) := by go_grown
              have HBQ : Hid (Below w1.heap.size w1 (wr.alloc (.cells #[.string (kb q.1), .int .i64 q.2] 141))) := Lib.hid (HBJ.out.trans (hA.mono hzj))
              obtain ⟨x0, x1⟩ := (box2w ((HBQ.out.block _ (Array.getElem?_eq_some_iff.1 HBX1.out).1).trans HBX1.out)).1
              clear hq hA
              by_cases h1 : p.2 = 1
              · have hd1 : (p.2 == 1) = true := by rw [h1]; rfl
                have H1 := Lib.hid h1
                clear h1
                by_cases hz : p1.2.2 = 0
                · have hdz : (p1.2.2 == 0) = true := by rw [hz]; rfl
                  have HZ : Hid (wtOf L p.1 = 0) := Lib.hid (by rw [← HP1.out]; exact hz)
                  clear hz
                  by_cases hpq : p = q
                  · subst hpq
                    have HBF := HBQ
                    have HTF : Hid (AdmTo L S p (j + 1)) := Lib.hid (HT.out.step HQ.out (fun _ _ h => absurd rfl h))
                    go_wp2_with fail
                    exact ⟨⟨j + 1, by omega, by go_num, HTF, HBF⟩, by simp [intOf]; omega⟩
                  · have HNE := Lib.hid hpq
                    by_cases hn1 : p.1 = q.1
                    · have hn2 : ¬ p.2 = q.2 := fun e => hpq (Prod.ext hn1 e)
                      have hb1 := kb_beq_yes hn1
                      have hb2 : (p.2 == q.2) = false := by rw [beq_eq_false_iff_ne]; exact hn2
                      clear hn1 hn2 hpq
                      go_wp2_with fail
                      refine (HAB.out p.1 q.1 _ (HB1.out.trans (HBQ.out.mono HB1.out.size))).mono ?_
                      rintro e w4 ⟨rfl, hb4⟩
                      have HBQ4 : Hid (Below w1.heap.size w1 w4) := Lib.hid (HBQ.out.trans (hb4.mono (by have := HBQ.out.size; simp; omega)))
                      clear hb4
                      by_cases hr : rkOf L q.1 < rkOf L p.1
                      · have hd : decide (rkOf L q.1 < rkOf L p.1) = true := decide_eq_true hr
                        have HR := Lib.hid hr
                        rw [hd]
                        clear hr
                        have HBF := HBQ4
                        have HTF : Hid (AdmTo L S p (j + 1)) := Lib.hid (HT.out.step HQ.out (fun _ _ _ => HR.out))
                        go_wp2_with fail
                        exact ⟨⟨j + 1, by omega, by go_num, HTF, HBF⟩, by simp [intOf]; omega⟩
                      · have hd : decide (rkOf L q.1 < rkOf L p.1) = false := decide_eq_false hr
                        rw [hd]
                        have HX : Hid (admB L u S = false) := Lib.hid (admB_no.2 fun h => hr ((h p (List.mem_of_getElem? HP.out)).2 H1.out HZ.out q (List.mem_of_getElem? HQ.out) HNE.out))
                        clear hr
                        go_wp2_with fail
                        go_ret
                        exact ⟨by rw [HX.out]; rfl, HB1.out.trans (HBQ4.out.mono HB1.out.size)⟩
                    · have hb1 := kb_beq_no hn1
                      clear hn1 hpq
                      go_wp2_with fail
                      refine (HAB.out p.1 q.1 _ (HB1.out.trans (HBQ.out.mono HB1.out.size))).mono ?_
                      rintro e w4 ⟨rfl, hb4⟩
                      have HBQ4 : Hid (Below w1.heap.size w1 w4) := Lib.hid (HBQ.out.trans (hb4.mono (by have := HBQ.out.size; simp; omega)))
                      clear hb4
                      by_cases hr : rkOf L q.1 < rkOf L p.1
                      · have hd : decide (rkOf L q.1 < rkOf L p.1) = true := decide_eq_true hr
                        have HR := Lib.hid hr
                        rw [hd]
                        clear hr
                        have HBF := HBQ4
                        have HTF : Hid (AdmTo L S p (j + 1)) := Lib.hid (HT.out.step HQ.out (fun _ _ _ => HR.out))
                        go_wp2_with fail
                        exact ⟨⟨j + 1, by omega, by go_num, HTF, HBF⟩, by simp [intOf]; omega⟩
                      · have hd : decide (rkOf L q.1 < rkOf L p.1) = false := decide_eq_false hr
                        rw [hd]
                        have HX : Hid (admB L u S = false) := Lib.hid (admB_no.2 fun h => hr ((h p (List.mem_of_getElem? HP.out)).2 H1.out HZ.out q (List.mem_of_getElem? HQ.out) HNE.out))
                        clear hr
                        go_wp2_with fail
                        go_ret
                        exact ⟨by rw [HX.out]; rfl, HB1.out.trans (HBQ4.out.mono HB1.out.size)⟩
                · have hdz : (p1.2.2 == 0) = false := by rw [beq_eq_false_iff_ne]; exact hz
                  have HZ : Hid (¬ wtOf L p.1 = 0) := Lib.hid (by rw [← HP1.out]; exact hz)
                  clear hz
                  have HBF := HBQ
                  have HTF : Hid (AdmTo L S p (j + 1)) := Lib.hid (HT.out.step HQ.out (fun _ h => absurd h HZ.out))
                  go_wp2_with fail
                  exact ⟨⟨j + 1, by omega, by go_num, HTF, HBF⟩, by simp [intOf]; omega⟩
              · have hd1 : (p.2 == 1) = false := by rw [beq_eq_false_iff_ne]; exact h1
                have H1 := Lib.hid h1
                clear h1
                have HBF := HBQ
                have HTF : Hid (AdmTo L S p (j + 1)) := Lib.hid (HT.out.step HQ.out (fun h => absurd h H1.out))
                go_wp2_with fail
                exact ⟨⟨j + 1, by omega, by go_num, HTF, HBF⟩, by simp [intOf]; omega⟩
            · obtain rfl : j = S.length := by omega
              have HD2 : Hid (∀ x ∈ S.take (k + 1), AdmX L u S x) := Lib.hid fun x hx => by
                rw [List.take_add_one, HP.out] at hx
                rcases List.mem_append.1 hx with hx | hx
                · exact HD.out x hx
                · obtain rfl : x = p := by simpa using hx
                  exact ⟨HC0.out, fun h1 h2 y hy => HT.out h1 h2 y (by rw [List.take_length]; exact hy)⟩
              have HBF : Hid (Below w.heap.size w wr) := Lib.hid (HB1.out.trans (HBJ.out.mono hz0))
              go_wp2_with fail
              exact ⟨⟨k + 1, by omega, by go_num, HD2, HBF⟩, by simp [intOf]; omega⟩
      · have hd0 : (p.2 == 0) = false := by rw [beq_eq_false_iff_ne]; exact h0
        have HC0 : Hid (p.2 = 0 → u ≤ wtOf L p.1) := Lib.hid fun h => absurd h h0
        clear h0
        go_wp2_with fail
        clear x0 x1 hfd
        go_loopw [33] (fun i wr => ∃ j : Nat, j ≤ S.length ∧ i = .int .i64 j ∧ Hid (AdmTo L S p j) ∧ Hid (Below w1.heap.size w1 wr)) (fun i _ => S.length - (intOf i).toNat)
        case atStart => exact ⟨0, by omega, rfl, Lib.hid (fun _ _ y hy => by simp at hy), Lib.hid (Below.refl _ _)⟩
        case round =>
          obtain ⟨j, hj, rfl, HT, HBJ⟩ := hrel
          have hz0 := HB1.out.size
          have hzj := HBJ.out.size
          by_cases hjt : j < S.length
          · obtain ⟨q, hq⟩ : ∃ q, S[j]? = some q := ⟨_, List.getElem?_eq_getElem hjt⟩
            obtain ⟨c0, c1⟩ := HC1.out j q hq
            have c0 := ((HB1.out.trans (HBJ.out.mono hz0)).cell (p := ⟨b1, _, none⟩) hbn).trans c0
            have c1 := ((HB1.out.trans (HBJ.out.mono hz0)).cell (p := ⟨b1, _, none⟩) hbn).trans c1
            have HQ := Lib.hid hq
            have hA : Below wr.heap.size wr (wr.alloc (.cells #[.string (kb q.1), .int .i64 q.2] 141)) := by go_grown
            have HBQ : Hid (Below w1.heap.size w1 (wr.alloc (.cells #[.string (kb q.1), .int .i64 q.2] 141))) := Lib.hid (HBJ.out.trans (hA.mono hzj))
            obtain ⟨x0, x1⟩ := (box2w ((HBQ.out.block _ (Array.getElem?_eq_some_iff.1 HBX1.out).1).trans HBX1.out)).1
            clear hq hA
            by_cases h1 : p.2 = 1
            · have hd1 : (p.2 == 1) = true := by rw [h1]; rfl
              have H1 := Lib.hid h1
              clear h1
              by_cases hz : p1.2.2 = 0
              · have hdz : (p1.2.2 == 0) = true := by rw [hz]; rfl
                have HZ : Hid (wtOf L p.1 = 0) := Lib.hid (by rw [← HP1.out]; exact hz)
                clear hz
                by_cases hpq : p = q
                · subst hpq
                  have HBF := HBQ
                  have HTF : Hid (AdmTo L S p (j + 1)) := Lib.hid (HT.out.step HQ.out (fun _ _ h => absurd rfl h))
                  go_wp2_with fail
                  exact ⟨⟨j + 1, by omega, by go_num, HTF, HBF⟩, by simp [intOf]; omega⟩
                · have HNE := Lib.hid hpq
                  by_cases hn1 : p.1 = q.1
                  · have hn2 : ¬ p.2 = q.2 := fun e => hpq (Prod.ext hn1 e)
                    have hb1 := kb_beq_yes hn1
                    have hb2 : (p.2 == q.2) = false := by rw [beq_eq_false_iff_ne]; exact hn2
                    clear hn1 hn2 hpq
                    go_wp2_with fail
                    refine (HAB.out p.1 q.1 _ (HB1.out.trans (HBQ.out.mono HB1.out.size))).mono ?_
                    rintro e w4 ⟨rfl, hb4⟩
                    have HBQ4 : Hid (Below w1.heap.size w1 w4) := Lib.hid (HBQ.out.trans (hb4.mono (by have := HBQ.out.size; simp; omega)))
                    clear hb4
                    by_cases hr : rkOf L q.1 < rkOf L p.1
                    · have hd : decide (rkOf L q.1 < rkOf L p.1) = true := decide_eq_true hr
                      have HR := Lib.hid hr
                      rw [hd]
                      clear hr
                      have HBF := HBQ4
                      have HTF : Hid (AdmTo L S p (j + 1)) := Lib.hid (HT.out.step HQ.out (fun _ _ _ => HR.out))
                      go_wp2_with fail
                      exact ⟨⟨j + 1, by omega, by go_num, HTF, HBF⟩, by simp [intOf]; omega⟩
                    · have hd : decide (rkOf L q.1 < rkOf L p.1) = false := decide_eq_false hr
                      rw [hd]
                      have HX : Hid (admB L u S = false) := Lib.hid (admB_no.2 fun h => hr ((h p (List.mem_of_getElem? HP.out)).2 H1.out HZ.out q (List.mem_of_getElem? HQ.out) HNE.out))
                      clear hr
                      go_wp2_with fail
                      go_ret
                      exact ⟨by rw [HX.out]; rfl, HB1.out.trans (HBQ4.out.mono HB1.out.size)⟩
                  · have hb1 := kb_beq_no hn1
                    clear hn1 hpq
                    go_wp2_with fail
                    refine (HAB.out p.1 q.1 _ (HB1.out.trans (HBQ.out.mono HB1.out.size))).mono ?_
                    rintro e w4 ⟨rfl, hb4⟩
                    have HBQ4 : Hid (Below w1.heap.size w1 w4) := Lib.hid (HBQ.out.trans (hb4.mono (by have := HBQ.out.size; simp; omega)))
                    clear hb4
                    by_cases hr : rkOf L q.1 < rkOf L p.1
                    · have hd : decide (rkOf L q.1 < rkOf L p.1) = true := decide_eq_true hr
                      have HR := Lib.hid hr
                      rw [hd]
                      clear hr
                      have HBF := HBQ4
                      have HTF : Hid (AdmTo L S p (j + 1)) := Lib.hid (HT.out.step HQ.out (fun _ _ _ => HR.out))
                      go_wp2_with fail
                      exact ⟨⟨j + 1, by omega, by go_num, HTF, HBF⟩, by simp [intOf]; omega⟩
                    · have hd : decide (rkOf L q.1 < rkOf L p.1) = false := decide_eq_false hr
                      rw [hd]
                      have HX : Hid (admB L u S = false) := Lib.hid (admB_no.2 fun h => hr ((h p (List.mem_of_getElem? HP.out)).2 H1.out HZ.out q (List.mem_of_getElem? HQ.out) HNE.out))
                      clear hr
                      go_wp2_with fail
                      go_ret
                      exact ⟨by rw [HX.out]; rfl, HB1.out.trans (HBQ4.out.mono HB1.out.size)⟩
              · have hdz : (p1.2.2 == 0) = false := by rw [beq_eq_false_iff_ne]; exact hz
                have HZ : Hid (¬ wtOf L p.1 = 0) := Lib.hid (by rw [← HP1.out]; exact hz)
                clear hz
                have HBF := HBQ
                have HTF : Hid (AdmTo L S p (j + 1)) := Lib.hid (HT.out.step HQ.out (fun _ h => absurd h HZ.out))
                go_wp2_with fail
                exact ⟨⟨j + 1, by omega, by go_num, HTF, HBF⟩, by simp [intOf]; omega⟩
            · have hd1 : (p.2 == 1) = false := by rw [beq_eq_false_iff_ne]; exact h1
              have H1 := Lib.hid h1
              clear h1
              have HBF := HBQ
              have HTF : Hid (AdmTo L S p (j + 1)) := Lib.hid (HT.out.step HQ.out (fun h => absurd h H1.out))
              go_wp2_with fail
              exact ⟨⟨j + 1, by omega, by go_num, HTF, HBF⟩, by simp [intOf]; omega⟩
          · obtain rfl : j = S.length := by omega
            have HD2 : Hid (∀ x ∈ S.take (k + 1), AdmX L u S x) := Lib.hid fun x hx => by
              rw [List.take_add_one, HP.out] at hx
              rcases List.mem_append.1 hx with hx | hx
              · exact HD.out x hx
              · obtain rfl : x = p := by simpa using hx
                exact ⟨HC0.out, fun h1 h2 y hy => HT.out h1 h2 y (by rw [List.take_length]; exact hy)⟩
            have HBF : Hid (Below w.heap.size w wr) := Lib.hid (HB1.out.trans (HBJ.out.mono hz0))
            go_wp2_with fail
            exact ⟨⟨k + 1, by omega, by go_num, HD2, HBF⟩, by simp [intOf]; omega⟩
    · obtain rfl : k = S.length := by omega
      have HX : Hid (admB L u S = true) := Lib.hid (admB_yes.2 fun x hx => HD.out x (by rw [List.take_length]; exact hx))
      go_wp2_with fail
      go_ret
      exact ⟨by rw [HX.out]; rfl, HBW.out⟩
end Go.Proofs.YtnomppdmhgefiaaGreat
/- The reference's CheckAll. -/
namespace Go.Proofs.YtnomppdmhgefiaaGreat
open Go.RowKit

set_option maxRecDepth 100000 in
set_option maxHeartbeats 4000000 in
theorem rcheckAll_each (L : List Tm) (s : Value) (w : World) (hs : SlIs w.heap.size w L s) (hub : ∀ t ∈ L, t.bulk ≤ 1048576) (hlen : L.length ≤ 4194304) :
    Calls Tryz.prog 72 #[s] w fun e w' => (∃ c : Int, e = .returned (.int .i64 c) ∧ (c = 0 ↔ ∀ t ∈ L, t.ok)) ∧ Below w.heap.size w w' := by
  obtain ⟨oa, ca, rfl, -⟩ := hs.form
  have HSL := Lib.hid hs
  have HUB := Lib.hid hub
  clear hs hub
  go_enter Tryz.func72, Tryz.ntmps72
  go_wp2_with fail
  go_loopw [2, 8] (fun _ i wr => ∃ k : Nat, k ≤ L.length ∧ i = .int .i64 k ∧ Hid (∀ t ∈ L.take k, t.ok) ∧ Hid (Below w.heap.size w wr)) (fun _ i _ => L.length - (intOf i).toNat)
  case atStart => exact ⟨0, by omega, rfl, Lib.hid (by simp), Lib.hid (Below.refl _ _)⟩
  case round =>
    obtain ⟨k, hk, rfl, HOK, HBW⟩ := hrel
    by_cases hlt : k < L.length
    · have hz := HBW.out.size
      obtain ⟨b, o, u, su, rfl, hbb, hu, hum, hus, c1, c2, c3⟩ := (HSL.out.carry HBW.out hz).get hlt
      obtain ⟨ou, cu, rfl, -⟩ := hus.form
      have hub := HUB.out u hum
      have HTK := Lib.hid (Tm.take_snoc hu)
      have HUM := Lib.hid hum
      have IHu : ∀ W1, Below wr.heap.size wr W1 → Hid (Calls Tryz.prog 18 #[tmv u (.slice ou u.ts.length cu)] W1 fun e w' => (∃ c : Int, e = .returned (.int .i64 c) ∧ (c = 0 ↔ u.ok)) ∧ Below W1.heap.size W1 w') := fun W1 hW => Lib.hid
        (rcheck_iff u _ W1 (hus.carry hW hW.size) (by omega))
      clear hu hum hus
      go_wp2_with fail
      refine (IHu _ (by go_grown)).out.mono ?_
      rintro e w1 ⟨⟨c, rfl, hc⟩, hb1⟩
      have HC := Lib.hid hc
      have HB1 : Hid (Below w.heap.size w w1) := Lib.hid (HBW.out.trans ((show Below wr.heap.size wr _ from by go_grown).trans (hb1.mono (by simp)) |>.mono hz))
      clear hc hb1 IHu
      by_cases hc0 : c = 0
      · subst hc0
        have HU := Lib.hid (HC.out.1 rfl)
        go_wp2_with fail
        refine ⟨⟨k + 1, by omega, by go_num, Lib.hid (fun t ht => ?_), HB1⟩, by simp [intOf]; omega⟩
        rw [HTK.out] at ht
        rcases List.mem_append.1 ht with ht | ht
        · exact HOK.out t ht
        · obtain rfl := List.mem_singleton.1 ht; exact HU.out
      · have hcn : (c != 0) = true := by rw [bne_iff_ne]; exact hc0
        have HNO : Hid (¬ ∀ t ∈ L, t.ok) := Lib.hid fun h => hc0 (HC.out.2 (h u HUM.out))
        have HC0 := Lib.hid hc0
        clear hc0
        go_wp2_with fail
        go_ret
        exact ⟨⟨c, rfl, fun h => absurd h HC0.out, fun h => absurd h HNO.out⟩, HB1.out⟩
    · obtain rfl : k = L.length := by omega
      have HALL : Hid (∀ t ∈ L, t.ok) := Lib.hid fun t ht => HOK.out t (by rw [List.take_length]; exact ht)
      go_wp2_with fail
      go_ret
      exact ⟨⟨0, rfl, fun _ => HALL.out, fun _ => rfl⟩, HBW.out⟩

end Go.Proofs.YtnomppdmhgefiaaGreat
