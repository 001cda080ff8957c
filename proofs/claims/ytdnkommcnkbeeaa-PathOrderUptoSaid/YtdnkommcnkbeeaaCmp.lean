/- The reference's comparison of terms: zero just where the terms are equal. -/
import Derived.WalkKit
import Derived.ProofKit
import Derived.OpenShut
import Derived.Handy
import Derived.Lib.Hide
import Derived.BigQuiet
import Derived.Deep.RegionHeld3
import Derived.Deep.LoopGhost
import Derived.Test.YtdnkommcnkbeeaaNm2
import Derived.Test.YtdnkommcnkbeeaaSz
import Derived.Test.YtdnkommcnkbeeaaMal
namespace Go.Proofs.Ytdnkommcnkbeeaa
open Go.RowKit

def cmpi (a b : Int) : Int := if a < b then -1 else if b < a then 1 else 0
theorem cmpi_zero (a b : Int) : cmpi a b = 0 ↔ a = b := by unfold cmpi; split <;> (try split) <;> omega

set_option maxHeartbeats 400000 in
theorem cmpInts_any (a b : Int) (w : World) : Calls Try.prog 51 #[.int .i64 a, .int .i64 b] w fun e w' => e = .returned (.int .i64 (cmpi a b)) ∧ w = w' := by
  by_cases h1 : a < b
  · have HE := Lib.hid (show cmpi a b = -1 by simp [cmpi, h1])
    go_enter Try.func51, Try.ntmps51
    go_wp2_with fail
    go_ret
    exact ⟨ret_int HE.out.symm, rfl⟩
  · by_cases h2 : b < a
    · have HE := Lib.hid (show cmpi a b = 1 by simp [cmpi, h1, h2])
      go_enter Try.func51, Try.ntmps51
      go_wp2_with fail
      go_ret
      exact ⟨ret_int HE.out.symm, rfl⟩
    · have HE := Lib.hid (show cmpi a b = 0 by simp [cmpi, h1, h2])
      go_enter Try.func51, Try.ntmps51
      go_wp2_with fail
      go_ret
      exact ⟨ret_int HE.out.symm, rfl⟩

/-- where two names first part -/
theorem names_eq {a b : ByteArray} (hs : a.size = b.size) (h : ∀ k, k < a.size → a.data.toList[k]? = b.data.toList[k]?) : a = b := by
  have e : a.data.toList = b.data.toList := by
    apply List.ext_getElem?
    intro k
    by_cases hk : k < a.size
    · exact h k hk
    · rw [List.getElem?_eq_none (by rw [bytes_len]; omega), List.getElem?_eq_none (by rw [bytes_len]; omega)]
  cases a; cases b
  simpa using e

theorem cmpi_neg (a b : Int) : cmpi a b < 0 ↔ a < b := by unfold cmpi; split <;> (try split) <;> omega
theorem lt_split {l r : List UInt8} {k : Nat} {x y : UInt8} (h : ∀ j, j < k → l[j]? = r[j]?) (hx : l[k]? = some x) (hy : r[k]? = some y) (hne : x ≠ y) : l < r ↔ x < y := by
  induction k generalizing l r with
  | zero =>
    cases l with
    | nil => cases hx
    | cons a l =>
      cases r with
      | nil => cases hy
      | cons b r =>
        simp at hx hy; subst hx; subst hy
        rw [List.cons_lt_cons_iff]
        exact ⟨fun h => by rcases h with h | ⟨h, _⟩; exact h; exact absurd h hne, .inl⟩
  | succ k ih =>
    cases l with
    | nil => cases hx
    | cons a l =>
      cases r with
      | nil => cases hy
      | cons b r =>
        have h0 := h 0 (by omega)
        simp at h0; subst h0
        rw [List.cons_lt_cons_iff]
        have h2 := ih (l := l) (r := r) (fun j hj => by simpa using h (j + 1) (by omega)) (by simpa using hx) (by simpa using hy)
        rw [← h2]
        exact ⟨fun h => by rcases h with h | ⟨_, h⟩; exact absurd h (UInt8.lt_irrefl _); exact h, fun h => .inr ⟨rfl, h⟩⟩
theorem lt_end {l r : List UInt8} {k : Nat} (h : ∀ j, j < k → l[j]? = r[j]?) (h1 : k ≤ l.length) (h2 : k ≤ r.length) (hk : k = l.length ∨ k = r.length) : l < r ↔ l.length < r.length := by
  induction k generalizing l r with
  | zero =>
    cases l with
    | nil =>
      cases r with
      | nil => simp
      | cons b r => simp
    | cons a l =>
      cases r with
      | nil => simp
      | cons b r => simp at hk
  | succ k ih =>
    cases l with
    | nil => simp at h1
    | cons a l =>
      cases r with
      | nil => simp at h2
      | cons b r =>
        have h0 := h 0 (by omega)
        simp at h0; subst h0
        rw [List.cons_lt_cons_iff]
        have h3 := ih (l := l) (r := r) (fun j hj => by simpa using h (j + 1) (by omega)) (by simpa using h1) (by simpa using h2) (by simpa using hk)
        rw [List.length_cons, List.length_cons, Nat.add_lt_add_iff_right, ← h3]
        exact ⟨fun h => by rcases h with h | ⟨_, h⟩; exact absurd h (UInt8.lt_irrefl _); exact h, fun h => .inr ⟨rfl, h⟩⟩

set_option maxHeartbeats 1000000 in
theorem cmpNames_full (a b : ByteArray) (w : World) (ha : a.size ≤ 1048576) (hb : b.size ≤ 1048576) :
    Calls Try.prog 37 #[.string a, .string b] w fun e w' => (∃ c : Int, e = .returned (.int .i64 c) ∧ (c = 0 ↔ a = b) ∧ (c < 0 ↔ a.data.toList < b.data.toList)) ∧ Below w.heap.size w w' := by
  go_enter Try.func37, Try.ntmps37
  go_wp2_with fail
  go_loopw [5, 11] (fun _ i wr => ∃ k : Nat, k ≤ a.size ∧ k ≤ b.size ∧ i = .int .i64 k ∧ Hid (∀ j, j < k → a.data.toList[j]? = b.data.toList[j]?) ∧ Below w.heap.size w wr) (fun _ i _ => a.size - (intOf i).toNat)
  case atStart => exact ⟨0, by omega, by omega, rfl, Lib.hid (fun j h => absurd h (by omega)), Below.refl _ _⟩
  case round =>
    obtain ⟨k, hka, hkb, rfl, HE, hbw⟩ := hrel
    by_cases hlt : k < a.size ∧ k < b.size
    · obtain ⟨h1, h2⟩ := hlt
      have GA := Lib.hid (bytes_get h1)
      have GB := Lib.hid (bytes_get h2)
      by_cases hq : a[k].toNat = b[k].toNat
      · have HQ : Hid (a[k] = b[k]) := Lib.hid (UInt8.toNat_inj.1 hq)
        have hbb : (((a[k]'h1).toNat : Int) != ((b[k]'h2).toNat : Int)) = false := by rw [bne_eq_false_iff_eq]; omega
        clear hq
        go_wp2_with fail
        go_quiet (fail)
        go_wp2_with fail
        exact ⟨⟨k + 1, by omega, by omega, by go_num, Lib.hid (fun j hj => by
          by_cases e : j = k
          · subst e; rw [GA.out, GB.out, HQ.out]
          · exact HE.out j (by omega)), below_drewN nq hbw⟩, by simp [intOf]; omega⟩
      · have HQ : Hid (a ≠ b) := Lib.hid (fun e => hq (by subst e; rfl))
        have HLT : Hid (cmpi ((a[k]'h1).toNat : Int) ((b[k]'h2).toNat : Int) < 0 ↔ a.data.toList < b.data.toList) := Lib.hid (by
          rw [cmpi_neg, lt_split HE.out GA.out GB.out (fun e => hq (by rw [e])), UInt8.lt_iff_toNat_lt]; omega)
        have HZ : Hid (cmpi ((a[k]'h1).toNat : Int) ((b[k]'h2).toNat : Int) ≠ 0) := Lib.hid (fun e => hq (by have := (cmpi_zero _ _).1 e; omega))
        have hbb : (((a[k]'h1).toNat : Int) != ((b[k]'h2).toNat : Int)) = true := by rw [bne_iff_ne]; omega
        clear hq
        go_wp2_with fail
        go_quiet (fail)
        go_wp2_with fail
        have hbq := below_drewN nq hbw
        generalize wr.drewN nq = wq at hbq ⊢
        have hla := UInt8.toNat_lt (a[k]'h1)
        have hlb := UInt8.toNat_lt (b[k]'h2)
        have hwa : IntKind.i64.wrap ((a[k]'h1).toNat : Int) = ((a[k]'h1).toNat : Int) := IntWalk.i64_in _ (by omega)
        have hwb : IntKind.i64.wrap ((b[k]'h2).toNat : Int) = ((b[k]'h2).toNat : Int) := IntWalk.i64_in _ (by omega)
        go_quiet ((go_at_call 51; exact Calls.quiet_of_same ((cmpInts_any _ _ _).mono fun _ _ h => ⟨h.1, h.2.symm⟩)))
        go_wp2_with fail
        go_ret
        exact ⟨⟨_, rfl, ⟨fun h => absurd h HZ.out, fun h => absurd h HQ.out⟩, HLT.out⟩, below_drewN _ hbq⟩
    · go_wp2_with fail
      refine (cmpInts_any _ _ _).mono ?_
      rintro e w2 ⟨rfl, rfl⟩
      go_wp2_with fail
      go_ret
      refine ⟨⟨_, rfl, ⟨fun h => ?_, fun h => ?_⟩, ?_⟩, hbw⟩
      · have := (cmpi_zero _ _).1 h
        exact names_eq (by omega) (fun j hj => HE.out j (by omega))
      · subst h; exact (cmpi_zero _ _).2 rfl
      · rw [cmpi_neg, lt_end HE.out (by rw [bytes_len]; omega) (by rw [bytes_len]; omega) (by rw [bytes_len, bytes_len]; omega), bytes_len, bytes_len]; omega
theorem cmpNames_any (a b : ByteArray) (w : World) (ha : a.size ≤ 1048576) (hb : b.size ≤ 1048576) :
    Calls Try.prog 37 #[.string a, .string b] w fun e w' => (∃ c : Int, e = .returned (.int .i64 c) ∧ (c = 0 ↔ a = b)) ∧ Below w.heap.size w w' :=
  (cmpNames_full a b w ha hb).mono fun _ _ ⟨⟨c, h, h1, _⟩, hb⟩ => ⟨⟨c, h, h1⟩, hb⟩
end Go.Proofs.Ytdnkommcnkbeeaa
