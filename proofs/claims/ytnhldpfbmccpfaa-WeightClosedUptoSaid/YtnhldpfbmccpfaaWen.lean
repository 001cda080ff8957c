/- Package weight: the entry of a name (a search by halves). -/
import Derived.Test.YtnhldpfbmccpfaaRks
import Derived.Test.YtnhldpfbmccpfaaWkp
namespace Go.Proofs.Ytnhldpfbmccpfaa
open Go.RowKit Go.Shelf

theorem wkCmp_any (p : Rk) (k : Key) (w : World) :
    Calls Try.prog 86 #[rkv p, .string (kb k)] w fun e w' => e = .returned (.int .i64 (Lib.compareBytes p.1 k)) ∧ Below w.heap.size w w' := by
  go_enter Try.func86, Try.ntmps86
  rw [show rkv p = .agg #[.string (kb p.1), .int .i64 p.2.1, .int .i64 p.2.2] from rfl]
  go_wp2_with fail
  refine (Try.strings_Compare _ _ _).mono ?_
  rintro e w' ⟨rfl, rfl⟩
  go_wp2_with fail
  go_ret
  exact ⟨rfl, by go_grown⟩
set_option maxRecDepth 100000 in
set_option maxHeartbeats 8000000 in
theorem wkSearch_any (l : List Rk) (k : Key) (v : Value) (w : World) (hl : RksIs w.heap.size w l v) (hlen : l.length ≤ 1048576) (hn : NmsOk l) :
    Calls Try.prog 82 #[v, .string (kb k), .func (.func 86) #[] #[]] w fun e w' => (∃ (i : Nat) (f : Bool), e = .returned (.tuple #[.int .i64 i, .bool f]) ∧ ((f = true ∧ ∃ p, l[i]? = some p ∧ p.1 = k) ∨ (f = false ∧ entryOf l k = (k, 0, 0)))) ∧ Below w.heap.size w w' := by
  obtain ⟨oa, cap, rfl, hcap, hc⟩ := hl
  have HC := Lib.hid hc
  have HN := Lib.hid hn
  clear hc hn
  go_enter Try.func82, Try.ntmps82
  go_wp2_with fail
  go_loopw [9, 10] (fun i j wr => ∃ lo hi : Nat, i = .int .i64 lo ∧ j = .int .i64 hi ∧ lo ≤ hi ∧ hi ≤ l.length ∧ Hid (BsSt l k lo hi) ∧ Hid (Below w.heap.size w wr)) (fun i j _ => (intOf j).toNat - (intOf i).toNat)
  case atStart => exact ⟨0, l.length, rfl, rfl, by omega, by omega, Lib.hid ⟨by omega, Nat.le_refl _, fun j p hj => absurd hj (by omega), fun j p hj hp => by have := (List.getElem?_eq_some_iff.1 hp).1; omega⟩, Lib.hid (Below.refl _ _)⟩
  case round =>
    obtain ⟨lo, hi, rfl, rfl, h1, h2, HS, HBW⟩ := hrel
    by_cases hlt : lo < hi
    · obtain ⟨p, hp⟩ : ∃ p, l[(lo + hi) / 2]? = some p := ⟨_, List.getElem?_eq_getElem (by omega)⟩
      obtain ⟨b1, o1, rfl, hbn, hc1⟩ := HC.out (by rintro rfl; simp at h2; omega)
      obtain ⟨c0, c1, c2⟩ := hc1 _ p hp
      have c0 := (HBW.out.cell (p := ⟨b1, _, none⟩) hbn).trans c0
      have c1 := (HBW.out.cell (p := ⟨b1, _, none⟩) hbn).trans c1
      have c2 := (HBW.out.cell (p := ⟨b1, _, none⟩) hbn).trans c2
      have HP := Lib.hid hp
      clear hc1 hp
      go_wp2_with fail
      refine (wkCmp_any p k _).mono ?_
      rintro e w1 ⟨rfl, hb1⟩
      have HB1 : Hid (Below w.heap.size w w1) := Lib.hid (HBW.out.trans (hb1.mono HBW.out.size))
      clear hb1
      by_cases hlt2 : p.1 < k
      · have hd : decide (Lib.compareBytes p.1 k < 0) = true := decide_eq_true ((cmpB_lt _ _).2 hlt2)
        have HS2 : Hid (BsSt l k ((lo + hi) / 2 + 1) hi) := Lib.hid ⟨by omega, h2, fun j q hj hq => by
          by_cases e : j = (lo + hi) / 2
          · subst e; rw [HP.out] at hq; cases hq; exact hlt2
          · exact List.lt_trans (HN.out.lt (by omega) hq HP.out) hlt2, HS.out.high⟩
        clear hlt2
        go_wp2_with fail
        exact ⟨⟨(lo + hi) / 2 + 1, hi, by rw [show ((lo : Int) + (hi : Int)) / 2 + 1 = (((lo + hi) / 2 + 1 : Nat) : Int) by omega], rfl, by omega, h2, HS2, HB1⟩, by simp [intOf]; omega⟩
      · have hd : decide (Lib.compareBytes p.1 k < 0) = false := decide_eq_false fun h => hlt2 ((cmpB_lt _ _).1 h)
        have HS2 : Hid (BsSt l k lo ((lo + hi) / 2)) := Lib.hid ⟨by omega, by omega, HS.out.low, fun j q hj hq h => by
          by_cases e : j = (lo + hi) / 2
          · subst e; rw [HP.out] at hq; cases hq; exact hlt2 h
          · exact hlt2 (List.lt_trans (HN.out.lt (by omega) HP.out hq) h)⟩
        clear hlt2
        go_wp2_with fail
        exact ⟨⟨lo, (lo + hi) / 2, rfl, by rw [show ((lo : Int) + (hi : Int)) / 2 = (((lo + hi) / 2 : Nat) : Int) by omega], by omega, by omega, HS2, HB1⟩, by simp [intOf]; omega⟩
    · obtain rfl : hi = lo := by omega
      by_cases hle : hi < l.length
      · obtain ⟨p, hp⟩ : ∃ p, l[hi]? = some p := ⟨_, List.getElem?_eq_getElem hle⟩
        obtain ⟨b1, o1, rfl, hbn, hc1⟩ := HC.out (by rintro rfl; simp at hle)
        obtain ⟨c0, c1, c2⟩ := hc1 _ p hp
        have c0 := (HBW.out.cell (p := ⟨b1, _, none⟩) hbn).trans c0
        have c1 := (HBW.out.cell (p := ⟨b1, _, none⟩) hbn).trans c1
        have c2 := (HBW.out.cell (p := ⟨b1, _, none⟩) hbn).trans c2
        have HP := Lib.hid hp
        clear hc1 hp
        go_wp2_with fail
        refine (wkCmp_any p k _).mono ?_
        rintro e w1 ⟨rfl, hb1⟩
        have HB1 : Hid (Below w.heap.size w w1) := Lib.hid (HBW.out.trans (hb1.mono HBW.out.size))
        clear hb1
        by_cases he : p.1 = k
        · have hd : (Lib.compareBytes p.1 k == 0) = true := by rw [beq_iff_eq]; exact (cmpB_eq _ _).2 he
          have HE := Lib.hid he
          clear he
          go_wp2_with fail
          go_ret2
          exact ⟨⟨hi, true, rfl, .inl ⟨rfl, p, HP.out, HE.out⟩⟩, HB1.out⟩
        · have hd : (Lib.compareBytes p.1 k == 0) = false := by rw [beq_eq_false_iff_ne]; exact fun h => he ((cmpB_eq _ _).1 h)
          have HE : Hid (entryOf l k = (k, 0, 0)) := Lib.hid (entryOf_no HN.out HS.out.low fun q hq => ⟨HS.out.high hi q (Nat.le_refl _) hq, by rw [HP.out] at hq; cases hq; exact he⟩)
          clear he
          go_wp2_with fail
          go_ret2
          exact ⟨⟨hi, false, rfl, .inr ⟨rfl, HE.out⟩⟩, HB1.out⟩
      · have HE : Hid (entryOf l k = (k, 0, 0)) := Lib.hid (entryOf_no HN.out HS.out.low fun q hq => by have := (List.getElem?_eq_some_iff.1 hq).1; omega)
        go_wp2_with fail
        go_ret2
        exact ⟨⟨hi, false, rfl, .inr ⟨rfl, HE.out⟩⟩, HBW.out⟩
theorem box2w {W : World} {b : Nat} {x y : Value} {e : TypeId} (h : W.heap[b]? = some (.cells #[x, y] e (0, 0))) :
    (W.cell? ⟨b, 0, none⟩ = some x ∧ W.cell? ⟨b, 1, none⟩ = some y) ∧ W.frozen? ⟨b, 0, none⟩ = false ∧ W.frozen? ⟨b, 1, none⟩ = false :=
  ⟨⟨cells_of' h 0, cells_of' h 1⟩, frozen_of' h _, frozen_of' h _⟩
theorem rkFld1 (p : Rk) (w : World) : (Instr.field 67 (rkv p) 1).run Try.prog w = .ok (.int .i64 p.2.1) w := by kernel_rfl
theorem rkFld2 (p : Rk) (w : World) : (Instr.field 67 (rkv p) 2).run Try.prog w = .ok (.int .i64 p.2.2) w := by kernel_rfl
/-- an order as a value -/
@[reducible] def orv (lv : Value) (u : Int) : Value := .agg #[lv, .int .i64 u]
set_option maxRecDepth 100000 in
set_option maxHeartbeats 4000000 in
theorem entry_any (l : List Rk) (u : Int) (k : Key) (v : Value) (w : World) (hl : RksIs w.heap.size w l v) (hlen : l.length ≤ 1048576) (hn : NmsOk l) :
    Calls Try.prog 73 #[orv v u, .string (kb k)] w fun e w' => e = .returned (rkv (entryOf l k)) ∧ Below w.heap.size w w' := by
  have HK : Hid (∀ W, Below w.heap.size w W → Calls Try.prog 82 #[v, .string (kb k), .func (.func 86) #[] #[]] W fun e w' => (∃ (i : Nat) (f : Bool), e = .returned (.tuple #[.int .i64 i, .bool f]) ∧ ((f = true ∧ ∃ p, l[i]? = some p ∧ p.1 = k) ∨ (f = false ∧ entryOf l k = (k, 0, 0)))) ∧ Below W.heap.size W w') :=
    Lib.hid fun W hW => wkSearch_any l k v W (hl.carry hW hW.size) hlen hn
  obtain ⟨oa, cap, rfl, hcap, hc⟩ := hl
  have HC := Lib.hid hc
  have HN := Lib.hid hn
  clear hc hn
  have HB0 : Hid (Below w.heap.size w ((w.alloc (.cells #[.slice oa l.length cap, .int .i64 u] 111)).alloc (.cells #[.string ⟨#[]⟩, .int .i64 0, .int .i64 0] 67))) := Lib.hid (by go_grown)
  have HX0 : Hid (((w.alloc (.cells #[.slice oa l.length cap, .int .i64 u] 111)).alloc (.cells #[.string ⟨#[]⟩, .int .i64 0, .int .i64 0] 67)).heap[w.heap.size]? = some (.cells #[.slice oa l.length cap, .int .i64 u] 111 (0, 0))) := Lib.hid ((Below.heap_alloc _ _ _ (by simp)).trans (heap_new_at _ _ _ rfl))
  have HY0 : Hid (((w.alloc (.cells #[.slice oa l.length cap, .int .i64 u] 111)).alloc (.cells #[.string ⟨#[]⟩, .int .i64 0, .int .i64 0] 67)).heap[w.heap.size + 1]? = some (.cells #[.string ⟨#[]⟩, .int .i64 0, .int .i64 0] 67 (0, 0))) := Lib.hid (heap_new_at _ _ _ (by simp))
  go_enter Try.func73, Try.ntmps73
  rw [show orv (.slice oa l.length cap) u = .agg #[.slice oa l.length cap, .int .i64 u] from rfl]
  go_wp2_with fail
  generalize ((w.alloc (.cells #[.slice oa l.length cap, .int .i64 u] 111)).alloc (.cells #[.string ⟨#[]⟩, .int .i64 0, .int .i64 0] 67)) = W0 at HB0 HX0 HY0 ⊢
  refine (HK.out W0 HB0.out).mono ?_
  rintro e w1 ⟨⟨i, f, rfl, hc⟩, hb1⟩
  have HB := Lib.hid (HB0.out.trans (hb1.mono HB0.out.size))
  have HX := Lib.hid ((hb1.block _ (Array.getElem?_eq_some_iff.1 HX0.out).1).trans HX0.out)
  have HY := Lib.hid ((hb1.block _ (Array.getElem?_eq_some_iff.1 HY0.out).1).trans HY0.out)
  have hx := box2w HX.out
  have hy := box3 HY.out
  clear hb1 HK
  cases f
  · obtain ⟨-, h0⟩ := hc.resolve_left (by rintro ⟨h, -⟩; cases h)
    have H0 := Lib.hid h0
    clear h0 hc
    go_wp2_with fail
    have hq := box3_set HY.out (.string (kb k)) (.int .i64 0) (.int .i64 0)
    obtain ⟨⟨q0, q1, q2⟩, -⟩ := box3 hq
    have hbf := below_set3 HB.out (b := w.heap.size + 1) (by omega) (.string (kb k)) (.int .i64 0) (.int .i64 0)
    refine bodyPost_ret (v := .agg #[.string (kb k), .int .i64 0, .int .i64 0]) (by simp [results, Try.f73, go_sem, q0, q1, q2]) rfl ?_
    rw [H0.out]
    exact ⟨rfl, hbf⟩
  · obtain ⟨-, p, hp, hk⟩ := hc.resolve_right (by rintro ⟨h, -⟩; cases h)
    have hi := (List.getElem?_eq_some_iff.1 hp).1
    obtain ⟨b1, o1, rfl, hbn, hc1⟩ := HC.out (by rintro rfl; simp at hi)
    obtain ⟨c0, c1, c2⟩ := hc1 _ p hp
    have c0 := (HB.out.cell (p := ⟨b1, _, none⟩) hbn).trans c0
    have c1 := (HB.out.cell (p := ⟨b1, _, none⟩) hbn).trans c1
    have c2 := (HB.out.cell (p := ⟨b1, _, none⟩) hbn).trans c2
    have HR := Lib.hid (entryOf_at HN.out hp hk)
    clear hc1 hp hk hc
    go_wp2_with fail
    have hq := box3_set HY.out (.string (kb p.1)) (.int .i64 p.2.1) (.int .i64 p.2.2)
    obtain ⟨⟨q0, q1, q2⟩, -⟩ := box3 hq
    have hbf := below_set3 HB.out (b := w.heap.size + 1) (by omega) (.string (kb p.1)) (.int .i64 p.2.1) (.int .i64 p.2.2)
    refine bodyPost_ret (v := .agg #[.string (kb p.1), .int .i64 p.2.1, .int .i64 p.2.2]) (by simp [results, Try.f73, go_sem, q0, q1, q2]) rfl ?_
    rw [HR.out]
    exact ⟨rfl, hbf⟩
end Go.Proofs.Ytnhldpfbmccpfaa
