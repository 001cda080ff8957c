/- Package path: the small functions on entries. -/
import Derived.WalkKit
import Derived.ProofKit
import Derived.OpenShut
import Derived.Handy
import Derived.Lib.Hide
import Derived.Test.YtdnkommcnkbeeaaRkp
import Derived.Test.YtdnkommcnkbeeaaShelf
namespace Go.Proofs.Ytdnkommcnkbeeaa
open Go.RowKit Go.Shelf

/-- an entry as a value -/
@[reducible] def rkv (p : Rk) : Value := .agg #[.string (kb p.1), .int .i64 p.2.1, .int .i64 p.2.2]
theorem rkName_any (p : Rk) (w : World) :
    Calls Try.prog 27 #[rkv p] w fun e w' => e = .returned (.string (kb p.1)) ∧ Below w.heap.size w w' := by
  go_enter Try.func27, Try.ntmps27
  rw [show rkv p = .agg #[.string (kb p.1), .int .i64 p.2.1, .int .i64 p.2.2] from rfl]
  go_wp2_with fail
  go_ret
  exact ⟨rfl, by go_grown⟩
theorem rkFits_any (p : Rk) (w : World) :
    Calls Try.prog 28 #[rkv p] w fun e w' => e = .returned (.bool (decide (0 ≤ p.2.1 ∧ p.2.1 ≤ 1000 ∧ p.2.2 = 0))) ∧ Below w.heap.size w w' := by
  have h0 : Below w.heap.size w (w.alloc (.cells #[.string (kb p.1), .int .i64 p.2.1, .int .i64 p.2.2] 28)) := by go_grown
  have HB := Lib.hid h0
  clear h0
  by_cases h1 : 0 ≤ p.2.1
  · by_cases h2 : p.2.1 ≤ 1000
    · by_cases h3 : p.2.2 = 0
      · have e1 : decide (0 ≤ p.2.1) = true := decide_eq_true h1
        have e2 : decide (p.2.1 ≤ 1000) = true := decide_eq_true h2
        have e3 : (p.2.2 == 0) = true := by rw [h3]; rfl
        have HE : Hid (decide (0 ≤ p.2.1 ∧ p.2.1 ≤ 1000 ∧ p.2.2 = 0) = true) := Lib.hid (decide_eq_true ⟨h1, h2, h3⟩)
        clear h1 h2 h3
        go_enter Try.func28, Try.ntmps28
        rw [show rkv p = .agg #[.string (kb p.1), .int .i64 p.2.1, .int .i64 p.2.2] from rfl]
        go_wp2_with fail
        go_ret
        exact ⟨by rw [HE.out]; rfl, HB.out⟩
      · have e1 : decide (0 ≤ p.2.1) = true := decide_eq_true h1
        have e2 : decide (p.2.1 ≤ 1000) = true := decide_eq_true h2
        have e3 : (p.2.2 == 0) = false := by simpa using h3
        have HE : Hid (decide (0 ≤ p.2.1 ∧ p.2.1 ≤ 1000 ∧ p.2.2 = 0) = false) := Lib.hid (decide_eq_false fun h => h3 h.2.2)
        clear h1 h2 h3
        go_enter Try.func28, Try.ntmps28
        rw [show rkv p = .agg #[.string (kb p.1), .int .i64 p.2.1, .int .i64 p.2.2] from rfl]
        go_wp2_with fail
        go_ret
        exact ⟨by rw [HE.out]; rfl, HB.out⟩
    · have e1 : decide (0 ≤ p.2.1) = true := decide_eq_true h1
      have e2 : decide (p.2.1 ≤ 1000) = false := decide_eq_false h2
      have HE : Hid (decide (0 ≤ p.2.1 ∧ p.2.1 ≤ 1000 ∧ p.2.2 = 0) = false) := Lib.hid (decide_eq_false fun h => h2 h.2.1)
      clear h1 h2
      go_enter Try.func28, Try.ntmps28
      rw [show rkv p = .agg #[.string (kb p.1), .int .i64 p.2.1, .int .i64 p.2.2] from rfl]
      go_wp2_with fail
      go_ret
      exact ⟨by rw [HE.out]; rfl, HB.out⟩
  · have e1 : decide (0 ≤ p.2.1) = false := decide_eq_false h1
    have HE : Hid (decide (0 ≤ p.2.1 ∧ p.2.1 ≤ 1000 ∧ p.2.2 = 0) = false) := Lib.hid (decide_eq_false fun h => h1 h.1)
    clear h1
    go_enter Try.func28, Try.ntmps28
    rw [show rkv p = .agg #[.string (kb p.1), .int .i64 p.2.1, .int .i64 p.2.2] from rfl]
    go_wp2_with fail
    go_ret
    exact ⟨by rw [HE.out]; rfl, HB.out⟩
theorem rkCmp_any (p : Rk) (k : Key) (w : World) :
    Calls Try.prog 45 #[rkv p, .string (kb k)] w fun e w' => e = .returned (.int .i64 (Lib.compareBytes p.1 k)) ∧ Below w.heap.size w w' := by
  go_enter Try.func45, Try.ntmps45
  rw [show rkv p = .agg #[.string (kb p.1), .int .i64 p.2.1, .int .i64 p.2.2] from rfl]
  go_wp2_with fail
  refine (Try.strings_Compare _ _ _).mono ?_
  rintro e w' ⟨rfl, rfl⟩
  go_wp2_with fail
  go_ret
  exact ⟨rfl, by go_grown⟩
end Go.Proofs.Ytdnkommcnkbeeaa
