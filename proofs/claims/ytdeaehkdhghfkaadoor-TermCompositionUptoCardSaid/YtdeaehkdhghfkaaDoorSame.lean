/- Positions compared: SamePos, parallel, same. -/
import Derived.WalkKit
import Derived.ProofKit
import Derived.OpenShut
import Derived.Handy
import Derived.Lib.Hide
import Derived.BigQuiet
import Derived.Test.YtdeaehkdhghfkaaDoorPosR
namespace Go.Proofs.YtdeaehkdhghfkaaDoor
open Go.RowKit

set_option maxRecDepth 100000 in
set_option maxHeartbeats 1000000 in
theorem samePos_any (a b : List Int) (va vb : Value) (w : World) (n₀ : Nat) (ha : PosIs n₀ w a va) (hb : PosIs n₀ w b vb) (hla : a.length ≤ 1048576) (hlb : b.length ≤ 1048576) :
    Calls Tryd.prog 86 #[va, vb] w fun e w' => e = .returned (.bool (decide (a = b))) ∧ ∃ m, w' = w.drewN m := by
  obtain ⟨oa, ca, rfl, hfa⟩ := ha.form
  obtain ⟨ob, cb, rfl, hfb⟩ := hb.form
  have HA := Lib.hid hfa
  have HB := Lib.hid hfb
  clear ha hb hfa hfb
  by_cases hlen : a.length = b.length
  · have hne : ((a.length : Int) != (b.length : Int)) = false := by rw [bne_eq_false_iff_eq]; omega
    have HLEN := Lib.hid hlen
    go_enter Tryd.func86, Tryd.ntmps86
    go_wp2_with fail
    go_loopw [13] (fun i wr => ∃ (j m : Nat), j ≤ a.length ∧ i = .int .i64 j ∧ wr = w.drewN m ∧ Hid (∀ k, k < j → a[k]? = b[k]?)) (fun i _ => a.length - (intOf i).toNat)
    case atStart => exact ⟨0, 0, by omega, rfl, rfl, Lib.hid (fun k h => absurd h (by omega))⟩
    case round =>
      obtain ⟨j, m, hj, rfl, rfl, HE⟩ := hrel
      by_cases hlt : j < a.length
      · have hltb : j < b.length := by omega
        obtain ⟨x, hx⟩ : ∃ x, a[j]? = some x := ⟨_, List.getElem?_eq_getElem hlt⟩
        obtain ⟨y, hy⟩ : ∃ y, b[j]? = some y := ⟨_, List.getElem?_eq_getElem hltb⟩
        obtain ⟨b1, o1, rfl, _, hc1⟩ := HA.out (by rintro rfl; simp at hlt)
        obtain ⟨b2, o2, rfl, _, hc2⟩ := HB.out (by rintro rfl; simp at hltb)
        have h1 := hc1 j x hx
        have h2 := hc2 j y hy
        have HX := Lib.hid hx
        have HY := Lib.hid hy
        clear hc1 hc2 hx hy
        by_cases hxy : x = y
        · have hbb : (x != y) = false := by rw [bne_eq_false_iff_eq]; exact hxy
          have HXY := Lib.hid hxy
          clear hxy
          go_wp2_with fail
          go_quiet (fail)
          go_wp2_with fail
          exact ⟨⟨j + 1, _, by omega, by go_num, rfl, Lib.hid (fun k hk => by
            by_cases e : k = j
            · subst e; rw [HX.out, HY.out, HXY.out]
            · exact HE.out k (by omega))⟩, by simp [intOf]; omega⟩
        · have hbb : (x != y) = true := by rw [bne_iff_ne]; exact hxy
          have HXY : Hid (decide (a = b) = false) := Lib.hid (by rw [decide_eq_false_iff_not]; rintro rfl; have h3 := HX.out; rw [HY.out] at h3; cases h3; exact hxy rfl)
          clear hxy
          go_wp2_with fail
          go_quiet (fail)
          go_wp2_with fail
          go_ret
          refine ⟨by rw [HXY.out]; rfl, ?_⟩
          exact ⟨m + nq, by simp⟩
      · have HAB : Hid (decide (a = b) = true) := Lib.hid (by
          rw [decide_eq_true_iff]
          apply List.ext_getElem?
          intro k
          by_cases hk : k < a.length
          · exact HE.out k (by omega)
          · rw [List.getElem?_eq_none (by omega), List.getElem?_eq_none (by omega)])
        go_wp2_with fail
        go_ret
        refine ⟨by rw [HAB.out]; rfl, ?_⟩
        exact ⟨_, rfl⟩
  · have hne : ((a.length : Int) != (b.length : Int)) = true := by rw [bne_iff_ne]; omega
    have HAB : Hid (decide (a = b) = false) := Lib.hid (by rw [decide_eq_false_iff_not]; rintro rfl; exact hlen rfl)
    go_enter Tryd.func86, Tryd.ntmps86
    go_wp2_with fail
    go_ret
    exact ⟨by rw [HAB.out]; rfl, 0, rfl⟩

/-- do the positions part before either ends? -/
def Parallel (a b : List Int) : Prop := ∃ (k : Nat) (x y : Int), a[k]? = some x ∧ b[k]? = some y ∧ x ≠ y

set_option maxRecDepth 100000 in
set_option maxHeartbeats 1000000 in
theorem parallel_any (a b : List Int) (va vb : Value) (w : World) (n₀ : Nat) (ha : PosIs n₀ w a va) (hb : PosIs n₀ w b vb) (hla : a.length ≤ 1048576) (hlb : b.length ≤ 1048576) :
    Calls Tryd.prog 54 #[va, vb] w fun e w' => (∃ r : Bool, e = .returned (.bool r) ∧ (r = true ↔ Parallel a b)) ∧ ∃ m, w' = w.drewN m := by
  obtain ⟨oa, ca, rfl, hfa⟩ := ha.form
  obtain ⟨ob, cb, rfl, hfb⟩ := hb.form
  have HA := Lib.hid hfa
  have HB := Lib.hid hfb
  clear ha hb hfa hfb
  have hmin : min (a.length : Int) (b.length : Int) = ((min a.length b.length : Nat) : Int) := by omega
  go_enter Tryd.func54, Tryd.ntmps54
  go_wp2_with fail
  go_loopw [11] (fun i wr => ∃ (j m : Nat), j ≤ min a.length b.length ∧ i = .int .i64 j ∧ wr = w.drewN m ∧ Hid (∀ k, k < j → a[k]? = b[k]?)) (fun i _ => min a.length b.length - (intOf i).toNat)
  case atStart => exact ⟨0, 0, by omega, rfl, rfl, Lib.hid (fun k h => absurd h (by omega))⟩
  case round =>
    obtain ⟨j, m, hj, rfl, rfl, HE⟩ := hrel
    by_cases hlt : j < min a.length b.length
    · have hlta : j < a.length := by omega
      have hltb : j < b.length := by omega
      obtain ⟨x, hx⟩ : ∃ x, a[j]? = some x := ⟨_, List.getElem?_eq_getElem hlta⟩
      obtain ⟨y, hy⟩ : ∃ y, b[j]? = some y := ⟨_, List.getElem?_eq_getElem hltb⟩
      obtain ⟨b1, o1, rfl, _, hc1⟩ := HA.out (by rintro rfl; simp at hlta)
      obtain ⟨b2, o2, rfl, _, hc2⟩ := HB.out (by rintro rfl; simp at hltb)
      have h1 := hc1 j x hx
      have h2 := hc2 j y hy
      have HX := Lib.hid hx
      have HY := Lib.hid hy
      clear hc1 hc2 hx hy
      by_cases hxy : x = y
      · have hbb : (x != y) = false := by rw [bne_eq_false_iff_eq]; exact hxy
        have HXY := Lib.hid hxy
        clear hxy
        go_wp2_with fail
        go_quiet (fail)
        go_wp2_with fail
        exact ⟨⟨j + 1, _, by omega, by go_num, rfl, Lib.hid (fun k hk => by
          by_cases e : k = j
          · subst e; rw [HX.out, HY.out, HXY.out]
          · exact HE.out k (by omega))⟩, by simp [intOf]; omega⟩
      · have hbb : (x != y) = true := by rw [bne_iff_ne]; exact hxy
        have HP : Hid (Parallel a b) := Lib.hid ⟨j, x, y, HX.out, HY.out, hxy⟩
        clear hxy
        go_wp2_with fail
        go_quiet (fail)
        go_wp2_with fail
        go_ret
        exact ⟨⟨true, rfl, fun _ => HP.out, fun _ => rfl⟩, m + nq, by simp⟩
    · have HP : Hid (¬ Parallel a b) := Lib.hid (by
        rintro ⟨k, x, y, h1, h2, h3⟩
        have k1 := (List.getElem?_eq_some_iff.1 h1).1
        have k2 := (List.getElem?_eq_some_iff.1 h2).1
        rw [HE.out k (by omega), h2] at h1
        cases h1
        exact h3 rfl)
      go_wp2_with fail
      go_ret
      exact ⟨⟨false, rfl, fun h => (by cases h), fun h => absurd h HP.out⟩, _, rfl⟩
theorem parallel_below (a b : List Int) (va vb : Value) (w : World) (n₀ : Nat) (ha : PosIs n₀ w a va) (hb : PosIs n₀ w b vb) (hla : a.length ≤ 1048576) (hlb : b.length ≤ 1048576) :
    Calls Tryd.prog 54 #[va, vb] w fun e w' => (∃ r : Bool, e = .returned (.bool r) ∧ (r = true ↔ Parallel a b)) ∧ Below w.heap.size w w' :=
  (parallel_any a b va vb w n₀ ha hb hla hlb).mono (by rintro e w' ⟨h, m, rfl⟩; exact ⟨h, below_drewN m (Below.refl _ _)⟩)
end Go.Proofs.YtdeaehkdhghfkaaDoor
