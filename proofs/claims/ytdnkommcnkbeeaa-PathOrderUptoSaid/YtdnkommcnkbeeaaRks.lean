/- Package path: the rank of a name (a search by halves). -/
import Derived.WalkKit
import Derived.ProofKit
import Derived.OpenShut
import Derived.Handy
import Derived.Lib.Hide
import Derived.Test.YtdnkommcnkbeeaaRkc
namespace Go.Proofs.Ytdnkommcnkbeeaa
open Go.RowKit Go.Shelf

theorem cmpB_lt : ∀ (a b : Key), Lib.compareBytes a b < 0 ↔ a < b
  | [], [] => by simp [Lib.compareBytes]
  | [], b :: y => by simp [Lib.compareBytes]
  | a :: x, [] => by simp [Lib.compareBytes]
  | a :: x, b :: y => by
    have ih := cmpB_lt x y
    unfold Lib.compareBytes
    rw [List.cons_lt_cons_iff]
    by_cases h1 : a < b
    · simp [h1]
    · rw [if_neg h1]
      by_cases h2 : b < a
      · have hne : a ≠ b := fun e => by subst e; exact h1 h2
        simp [h1, h2, hne]
      · have he : a = b := UInt8.le_antisymm (UInt8.not_lt.1 h2) (UInt8.not_lt.1 h1)
        rw [if_neg h2, ih]
        simp [he]
theorem cmpB_eq : ∀ (a b : Key), Lib.compareBytes a b = 0 ↔ a = b
  | [], [] => by simp [Lib.compareBytes]
  | [], b :: y => by simp [Lib.compareBytes]
  | a :: x, [] => by simp [Lib.compareBytes]
  | a :: x, b :: y => by
    have ih := cmpB_eq x y
    unfold Lib.compareBytes
    by_cases h1 : a < b
    · have hne : a ≠ b := fun e => by subst e; exact absurd h1 (UInt8.lt_irrefl _)
      simp [h1, hne]
    · rw [if_neg h1]
      by_cases h2 : b < a
      · have hne : a ≠ b := fun e => by subst e; exact absurd h2 (UInt8.lt_irrefl _)
        simp [h2, hne]
      · have he : a = b := UInt8.le_antisymm (UInt8.not_lt.1 h2) (UInt8.not_lt.1 h1)
        rw [if_neg h2, ih]
        simp [he]
theorem cmpB_cases (a b : Key) : Lib.compareBytes a b = -1 ∨ Lib.compareBytes a b = 0 ∨ Lib.compareBytes a b = 1 := by
  induction a generalizing b with
  | nil => cases b <;> simp [Lib.compareBytes]
  | cons x a ih =>
    cases b with
    | nil => simp [Lib.compareBytes]
    | cons y b =>
      unfold Lib.compareBytes
      split
      · exact .inl rfl
      · split
        · exact .inr (.inr rfl)
        · exact ih b

/-- what the search by halves knows -/
structure BsSt (l : List Rk) (k : Key) (lo hi : Nat) : Prop where
  le : lo ≤ hi
  top : hi ≤ l.length
  low : ∀ j p, j < lo → l[j]? = some p → p.1 < k
  high : ∀ j p, hi ≤ j → l[j]? = some p → ¬ p.1 < k
set_option maxRecDepth 100000 in
set_option maxHeartbeats 8000000 in
theorem rkSearch_any (l : List Rk) (k : Key) (v : Value) (w : World) (hl : RksIs w.heap.size w l v) (hlen : l.length ≤ 1048576) (hn : NmsOk l) :
    Calls Try.prog 44 #[v, .string (kb k), .func (.func 45) #[] #[]] w fun e w' => (∃ (i : Nat) (f : Bool), e = .returned (.tuple #[.int .i64 i, .bool f]) ∧ ((f = true ∧ ∃ p, l[i]? = some p ∧ p.1 = k) ∨ (f = false ∧ rkOf l k = 0))) ∧ Below w.heap.size w w' := by
  obtain ⟨oa, cap, rfl, hcap, hc⟩ := hl
  have HC := Lib.hid hc
  have HN := Lib.hid hn
  clear hc hn
  go_enter Try.func44, Try.ntmps44
  go_wp2_with fail
  go_loopw [9, 10] (fun i j wr => ∃ lo hi : Nat, i = .int .i64 lo ∧ j = .int .i64 hi ∧ lo ≤ hi ∧ hi ≤ l.length ∧ Hid (BsSt l k lo hi) ∧ Hid (Below w.heap.size w wr)) (fun i j _ => (intOf j).toNat - (intOf i).toNat)
  case atStart => exact ⟨0, l.length, rfl, rfl, by omega, by omega, Lib.hid ⟨by omega, Nat.le_refl _, fun j p hj => absurd hj (by omega), fun j p hj hp => by have := (List.getElem?_eq_some_iff.1 hp).1; omega⟩, Lib.hid (Below.refl _ _)⟩
  case round =>
    obtain ⟨lo, hi, rfl, rfl, h1, h2, HS, HBW⟩ := hrel
    by_cases hlt : lo < hi
    · obtain ⟨p, hp⟩ : ∃ p, l[(lo + hi) / 2]? = some p := ⟨_, List.getElem?_eq_getElem (by omega)⟩
      obtain ⟨b1, o1, rfl, hbn, hc1⟩ := HC.out (by rintro rfl; simp at h2; omega)
      obtain ⟨c0, c1, c2⟩ := hc1 _ p hp
      have c0 := (HBW.out.cell (p := ⟨b1, _, none⟩) hbn).trans c0
      have c1 := (HBW.out.cell (p := ⟨b1, _, none⟩) hbn).trans c1
      have c2 := (HBW.out.cell (p := ⟨b1, _, none⟩) hbn).trans c2
      have HP := Lib.hid hp
      clear hc1 hp
      go_wp2_with fail
      refine (rkCmp_any p k _).mono ?_
      rintro e w1 ⟨rfl, hb1⟩
      have HB1 : Hid (Below w.heap.size w w1) := Lib.hid (HBW.out.trans (hb1.mono HBW.out.size))
      clear hb1
      by_cases hlt2 : p.1 < k
      · have hd : decide (Lib.compareBytes p.1 k < 0) = true := decide_eq_true ((cmpB_lt _ _).2 hlt2)
        have HS2 : Hid (BsSt l k ((lo + hi) / 2 + 1) hi) := Lib.hid ⟨by omega, h2, fun j q hj hq => by
          by_cases e : j = (lo + hi) / 2
          · subst e; rw [HP.out] at hq; cases hq; exact hlt2
          · exact List.lt_trans (HN.out.lt (by omega) hq HP.out) hlt2, HS.out.high⟩
        clear hlt2
        go_wp2_with fail
        exact ⟨⟨(lo + hi) / 2 + 1, hi, by rw [show ((lo : Int) + (hi : Int)) / 2 + 1 = (((lo + hi) / 2 + 1 : Nat) : Int) by omega], rfl, by omega, h2, HS2, HB1⟩, by simp [intOf]; omega⟩
      · have hd : decide (Lib.compareBytes p.1 k < 0) = false := decide_eq_false fun h => hlt2 ((cmpB_lt _ _).1 h)
        have HS2 : Hid (BsSt l k lo ((lo + hi) / 2)) := Lib.hid ⟨by omega, by omega, HS.out.low, fun j q hj hq h => by
          by_cases e : j = (lo + hi) / 2
          · subst e; rw [HP.out] at hq; cases hq; exact hlt2 h
          · exact hlt2 (List.lt_trans (HN.out.lt (by omega) HP.out hq) h)⟩
        clear hlt2
        go_wp2_with fail
        exact ⟨⟨lo, (lo + hi) / 2, rfl, by rw [show ((lo : Int) + (hi : Int)) / 2 = (((lo + hi) / 2 : Nat) : Int) by omega], by omega, by omega, HS2, HB1⟩, by simp [intOf]; omega⟩
    · obtain rfl : hi = lo := by omega
      by_cases hle : hi < l.length
      · obtain ⟨p, hp⟩ : ∃ p, l[hi]? = some p := ⟨_, List.getElem?_eq_getElem hle⟩
        obtain ⟨b1, o1, rfl, hbn, hc1⟩ := HC.out (by rintro rfl; simp at hle)
        obtain ⟨c0, c1, c2⟩ := hc1 _ p hp
        have c0 := (HBW.out.cell (p := ⟨b1, _, none⟩) hbn).trans c0
        have c1 := (HBW.out.cell (p := ⟨b1, _, none⟩) hbn).trans c1
        have c2 := (HBW.out.cell (p := ⟨b1, _, none⟩) hbn).trans c2
        have HP := Lib.hid hp
        clear hc1 hp
        go_wp2_with fail
        refine (rkCmp_any p k _).mono ?_
        rintro e w1 ⟨rfl, hb1⟩
        have HB1 : Hid (Below w.heap.size w w1) := Lib.hid (HBW.out.trans (hb1.mono HBW.out.size))
        clear hb1
        by_cases he : p.1 = k
        · have hd : (Lib.compareBytes p.1 k == 0) = true := by rw [beq_iff_eq]; exact (cmpB_eq _ _).2 he
          have HE := Lib.hid he
          clear he
          go_wp2_with fail
          go_ret2
          exact ⟨⟨hi, true, rfl, .inl ⟨rfl, p, HP.out, HE.out⟩⟩, HB1.out⟩
        · have hd : (Lib.compareBytes p.1 k == 0) = false := by rw [beq_eq_false_iff_ne]; exact fun h => he ((cmpB_eq _ _).1 h)
          have HE : Hid (rkOf l k = 0) := Lib.hid (rkOf_no HN.out HS.out.low fun q hq => ⟨HS.out.high hi q (Nat.le_refl _) hq, by rw [HP.out] at hq; cases hq; exact he⟩)
          clear he
          go_wp2_with fail
          go_ret2
          exact ⟨⟨hi, false, rfl, .inr ⟨rfl, HE.out⟩⟩, HB1.out⟩
      · have HE : Hid (rkOf l k = 0) := Lib.hid (rkOf_no HN.out HS.out.low fun q hq => by have := (List.getElem?_eq_some_iff.1 hq).1; omega)
        go_wp2_with fail
        go_ret2
        exact ⟨⟨hi, false, rfl, .inr ⟨rfl, HE.out⟩⟩, HBW.out⟩
set_option maxRecDepth 100000 in
set_option maxHeartbeats 4000000 in
theorem rkRank_any (l : List Rk) (k : Key) (v : Value) (w : World) (hl : RksIs w.heap.size w l v) (hlen : l.length ≤ 1048576) (hn : NmsOk l) :
    Calls Try.prog 26 #[v, .string (kb k)] w fun e w' => e = .returned (.int .i64 (rkOf l k)) ∧ Below w.heap.size w w' := by
  have HK := Lib.hid (rkSearch_any l k v w hl hlen hn)
  obtain ⟨oa, cap, rfl, hcap, hc⟩ := hl
  have HC := Lib.hid hc
  have HN := Lib.hid hn
  clear hc hn
  go_enter Try.func26, Try.ntmps26
  go_wp2_with fail
  refine HK.out.mono ?_
  rintro e w1 ⟨⟨i, f, rfl, hc⟩, hb1⟩
  have HB := Lib.hid hb1
  clear hb1 HK
  cases f
  · obtain ⟨-, h0⟩ := hc.resolve_left (by rintro ⟨h, -⟩; cases h)
    have H0 := Lib.hid h0
    clear h0 hc
    go_wp2_with fail
    go_ret
    exact ⟨by rw [H0.out]; rfl, HB.out⟩
  · obtain ⟨-, p, hp, hk⟩ := hc.resolve_right (by rintro ⟨h, -⟩; cases h)
    have hi := (List.getElem?_eq_some_iff.1 hp).1
    obtain ⟨b1, o1, rfl, hbn, hc1⟩ := HC.out (by rintro rfl; simp at hi)
    obtain ⟨c0, c1, c2⟩ := hc1 _ p hp
    have c1 := (HB.out.cell (p := ⟨b1, _, none⟩) hbn).trans c1
    have HR := Lib.hid (rkOf_at HN.out hp hk)
    clear hc1 hp hk hc c0 c2
    go_wp2_with fail
    go_ret
    exact ⟨by rw [HR.out]; rfl, HB.out⟩
end Go.Proofs.Ytdnkommcnkbeeaa
