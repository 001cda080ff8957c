/- More on names: their bytes, what is a name; the walks of the program's and the reference's functions on names. -/
import Derived.Test.YtdnkommcnkbeeaaRows
import Derived.Test.YtdnkommcnkbeeaaTm
import Derived.WalkKit
import Derived.ProofKit
import Derived.OpenShut
import Derived.Handy
import Derived.Lib.Hide
import Derived.Test.YtdnkommcnkbeeaaNm
import Derived.Test.YtdnkommcnkbeeaaShelf
namespace Go.Proofs.Ytdnkommcnkbeeaa
open Go.RowKit

/-- the name without the mark, where a mark may be -/
def baseOf (s : ByteArray) (m : Bool) : ByteArray := if m then ⟨(Lib.trimSuffix s.data.toList [35]).toArray⟩ else s
def isName (s : ByteArray) (m : Bool) : Bool := decide (0 < (baseOf s m).size) && decide (s.size ≤ 24) && plain (baseOf s m)
theorem baseOf_size (s : ByteArray) (m : Bool) : (baseOf s m).size ≤ s.size := by
  unfold baseOf
  split
  · show (Lib.trimSuffix s.data.toList [35]).length ≤ s.size
    rw [← bytes_len]
    unfold Lib.trimSuffix
    split
    · simp
    · simp
  · exact Nat.le_refl _

theorem trim_any (s : ByteArray) (w : World) (hs : s.size ≤ 1048576) :
    Calls Try.prog 60 #[.string s, .string ⟨#[35]⟩] w fun e w' => e = .returned (.string (baseOf s true)) ∧ w = w' :=
  (Try.strings_TrimSuffix s ⟨#[35]⟩ w (by omega)).mono fun _ _ ⟨he, hw⟩ => ⟨by rw [he]; rfl, hw.symm⟩
theorem isName_eq {s : ByteArray} {m : Bool} {b : Bool} (h0 : 0 < (baseOf s m).size) (h : s.size ≤ 24) (hb : plain (baseOf s m) = b) : isName s m = b := by simp [isName, h0, h, hb]
theorem isName_no {s : ByteArray} {m : Bool} (h : ¬ (0 < (baseOf s m).size ∧ s.size ≤ 24)) : isName s m = false := by
  unfold isName
  by_cases h0 : 0 < (baseOf s m).size <;> by_cases h1 : s.size ≤ 24 <;> simp_all <;> omega

set_option maxHeartbeats 1000000 in
theorem isName_yes (s : ByteArray) (w : World) (hs : s.size ≤ 1048576) :
    Calls Try.prog 47 #[.string s, .bool true] w fun e w' => e = .returned (.bool (isName s true)) ∧ w = w' := by
  have hb := baseOf_size s true
  by_cases h0 : 0 < (baseOf s true).size
  · by_cases h24 : s.size ≤ 24
    · have HE := Lib.hid (isName_eq h0 h24 rfl)
      go_enter Try.func47, Try.ntmps47
      go_wp2_with (first | (go_at_call 60; refine (trim_any _ _ hs).mono ?_; rintro e w' ⟨rfl, rfl⟩) | (go_at_call 61; refine (plain_any _ _ (by omega)).mono ?_; rintro e w' ⟨rfl, rfl⟩))
      go_ret
      exact ⟨ret_bool HE.out.symm, rfl⟩
    · have HE := Lib.hid (isName_no (s := s) (m := true) (fun h => h24 h.2))
      go_enter Try.func47, Try.ntmps47
      go_wp2_with (go_at_call 60; refine (trim_any _ _ hs).mono ?_; rintro e w' ⟨rfl, rfl⟩)
      go_ret
      exact ⟨ret_bool HE.out.symm, rfl⟩
  · have HE := Lib.hid (isName_no (s := s) (m := true) (fun h => h0 h.1))
    go_enter Try.func47, Try.ntmps47
    go_wp2_with (go_at_call 60; refine (trim_any _ _ hs).mono ?_; rintro e w' ⟨rfl, rfl⟩)
    go_ret
    exact ⟨ret_bool HE.out.symm, rfl⟩

set_option maxHeartbeats 1000000 in
theorem isName_not (s : ByteArray) (w : World) (hs : s.size ≤ 1048576) :
    Calls Try.prog 47 #[.string s, .bool false] w fun e w' => e = .returned (.bool (isName s false)) ∧ w = w' := by
  by_cases h0 : 0 < s.size
  · by_cases h24 : s.size ≤ 24
    · have HE := Lib.hid (isName_eq (s := s) (m := false) h0 h24 rfl)
      go_enter Try.func47, Try.ntmps47
      go_wp2_with (go_at_call 61; refine (plain_any _ _ (by omega)).mono ?_; rintro e w' ⟨rfl, rfl⟩)
      go_ret
      exact ⟨ret_bool HE.out.symm, rfl⟩
    · have HE := Lib.hid (isName_no (s := s) (m := false) (fun h => h24 h.2))
      go_enter Try.func47, Try.ntmps47
      go_wp2_with fail
      go_ret
      exact ⟨ret_bool HE.out.symm, rfl⟩
  · have HE := Lib.hid (isName_no (s := s) (m := false) (fun h => h0 h.1))
    go_enter Try.func47, Try.ntmps47
    go_wp2_with fail
    go_ret
    exact ⟨ret_bool HE.out.symm, rfl⟩
theorem isName_any (s : ByteArray) (m : Bool) (w : World) (hs : s.size ≤ 1048576) :
    Calls Try.prog 47 #[.string s, .bool m] w fun e w' => e = .returned (.bool (isName s m)) ∧ w = w' := by
  cases m
  · exact isName_not s w hs
  · exact isName_yes s w hs

/-- has the node of a term the form of a variable or of an applied symbol? (n: the number of its arguments) -/
def nodeOk (nm : ByteArray) (vr : Bool) (n : Nat) : Bool := if vr then isName nm false && n == 0 else isName nm true && decide (n ≤ 8)

set_option maxHeartbeats 1000000 in
theorem isFormed_any (nm : ByteArray) (vr : Bool) (oa : Option Addr) (n cap : Nat) (w : World) (hs : nm.size ≤ 1048576) (hn : n ≤ 1048576) :
    Calls Try.prog 63 #[.agg #[.string nm, .bool vr, .slice oa n cap]] w fun e w' => e = .returned (.bool (nodeOk nm vr n)) ∧ Below w.heap.size w w' := by
  cases vr
  · cases hi : isName nm true
    all_goals have HI := Lib.hid hi
    all_goals clear hi
    all_goals by_cases h8 : n ≤ 8
    all_goals have HE : Hid (nodeOk nm false n = (isName nm true && decide (n ≤ 8))) := Lib.hid (by simp [nodeOk])
    all_goals go_enter Try.func63, Try.ntmps63
    all_goals go_wp2_with (go_at_call 47; refine (isName_any _ _ _ hs).mono ?_; rintro e w' ⟨rfl, rfl⟩; rw [HI.out])
    all_goals go_ret
    all_goals exact ⟨ret_bool (by rw [HE.out, HI.out]; first | (simp [h8]; done) | (simp [h8]; omega)), by go_grown⟩
  · cases hi : isName nm false
    all_goals have HI := Lib.hid hi
    all_goals clear hi
    all_goals by_cases h8 : n = 0
    all_goals have HE : Hid (nodeOk nm true n = (isName nm false && n == 0)) := Lib.hid (by simp [nodeOk])
    all_goals first | subst h8 | have h9 : ((n : Int) == 0) = false := by rw [beq_eq_false_iff_ne]; omega
    all_goals go_enter Try.func63, Try.ntmps63
    all_goals go_wp2_with (go_at_call 47; refine (isName_any _ _ _ hs).mono ?_; rintro e w' ⟨rfl, rfl⟩; rw [HI.out])
    all_goals go_ret
    all_goals exact ⟨ret_bool (by rw [HE.out, HI.out]; simp_all), by go_grown⟩
end Go.Proofs.Ytdnkommcnkbeeaa
