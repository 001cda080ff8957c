/- Package path: within, above. -/
import Derived.WalkKit
import Derived.ProofKit
import Derived.OpenShut
import Derived.Handy
import Derived.Lib.Hide
import Derived.BigQuiet
import Derived.Test.YtdnkommcnkbeeaaRel
import Derived.Test.YtdnkommcnkbeeaaNd
namespace Go.Proofs.Ytdnkommcnkbeeaa
open Go.RowKit

/-- a node in blocks that are there -/
abbrev NdW (rk : ByteArray → Int) (W : World) (b o : Nat) (t : Tm) (s : Value) : Prop := NdAt rk (· < W.heap.size) W b o t s
theorem NdAt.keep {rk : ByteArray → Int} {A W : World} {b o : Nat} {t : Tm} {s : Value} (h : NdW rk A b o t s) (hb : Below A.heap.size A W) : NdW rk W b o t s :=
  NdAt.carry h fun x hx => ⟨hb.block x hx, Nat.lt_of_lt_of_le hx hb.size⟩
abbrev NdL (rk : ByteArray → Int) (W : World) (l : List Tm) (s : Value) : Prop := NdP rk (· < W.heap.size) W l s
theorem NdP.keep {rk : ByteArray → Int} {A W : World} {l : List Tm} {s : Value} (h : NdL rk A l s) (hb : Below A.heap.size A W) : NdL rk W l s :=
  NdP.carry (fun x hx => ⟨hb.block x hx, Nat.lt_of_lt_of_le hx hb.size⟩) h
/-- compare at terms of a size below N -/
def CmpH (rk : ByteArray → Int) (N : Nat) : Prop := ∀ (s t : Tm) (sv tv : Value) (b o b2 o2 : Nat) (W : World), s.size + t.size < N → s.bare → t.bare → s.size ≤ 1048576 → t.size ≤ 1048576 → NdW rk W b o s sv → NdW rk W b2 o2 t tv →
  Calls Try.prog 56 #[.pointer (some ⟨b, o, none⟩), .pointer (some ⟨b2, o2, none⟩)] W fun e w' => e = .returned (.int .i64 (rel rk s t)) ∧ Below W.heap.size W w'
theorem withinR_yes {rk : ByteArray → Int} {l : List Tm} {a t : Tm} (h : a ∈ l) (h2 : rel rk a t ≠ 0) : withinR rk l t = 2 := by
  unfold withinR; rw [if_pos ⟨a, h, h2⟩]
theorem withinR_no {rk : ByteArray → Int} {l : List Tm} {t : Tm} (h : ∀ a ∈ l, rel rk a t = 0) : withinR rk l t = 0 := by
  unfold withinR; rw [if_neg fun ⟨a, h1, h2⟩ => h2 (h a h1)]
theorem aboveR_no {rk : ByteArray → Int} {l : List Tm} {s b : Tm} (h : b ∈ l) (h2 : rel rk s b ≠ 2) : aboveR rk s l = 0 := by
  unfold aboveR; rw [if_neg fun k => h2 (k b h)]
theorem aboveR_yes {rk : ByteArray → Int} {l : List Tm} {s : Tm} (h : ∀ b ∈ l, rel rk s b = 2) : aboveR rk s l = 2 := by
  unfold aboveR; rw [if_pos h]

set_option maxRecDepth 100000 in
set_option maxHeartbeats 4000000 in
theorem within_any {rk : ByteArray → Int} {N : Nat} (HH : Hid (CmpH rk N)) (l : List Tm) (t : Tm) (lv tv : Value) (b2 o2 : Nat) (w : World) (hl : NdL rk w l lv) (ht : NdW rk w b2 o2 t tv)
    (hsz : ∀ a ∈ l, a.size + t.size < N ∧ a.bare ∧ a.size ≤ 1048576) (htb : t.bare) (hts : t.size ≤ 1048576) (hll : l.length ≤ 1048576) :
    Calls Try.prog 69 #[lv, .pointer (some ⟨b2, o2, none⟩)] w fun e w' => e = .returned (.int .i64 (withinR rk l t)) ∧ Below w.heap.size w w' := by
  obtain ⟨oa, cap, rfl⟩ := hl.form
  have HL := Lib.hid hl
  have HT := Lib.hid ht
  have HSZ := Lib.hid hsz
  have HTB := Lib.hid htb
  clear hl ht hsz htb
  go_enter Try.func69, Try.ntmps69
  go_wp2_with fail
  go_loopw [8] (fun i wr => ∃ k : Nat, k ≤ l.length ∧ i = .int .i64 k ∧ Hid (∀ a ∈ l.take k, rel rk a t = 0) ∧ Hid (Below w.heap.size w wr)) (fun i _ => l.length - (intOf i).toNat)
  case atStart => exact ⟨0, by omega, rfl, Lib.hid (by simp), Lib.hid (Below.refl _ _)⟩
  case round =>
    obtain ⟨k, hk, rfl, HN, HBW⟩ := hrel
    by_cases hlt : k < l.length
    · obtain ⟨b, o, a, sv, rfl, -, ha, ham, hat⟩ := (HL.out.keep HBW.out).get hlt
      have HA := Lib.hid ha
      have HAM := Lib.hid ham
      have HC := Lib.hid (HH.out a t sv tv b (o + k * 5) b2 o2 wr (HSZ.out a ham).1 (HSZ.out a ham).2.1 HTB.out (HSZ.out a ham).2.2 hts hat (HT.out.keep HBW.out))
      clear ha ham hat
      go_wp2_with fail
      refine HC.out.mono ?_
      rintro e w1 ⟨rfl, hb1⟩
      have HB1 : Hid (Below w.heap.size w w1) := Lib.hid (HBW.out.trans (hb1.mono HBW.out.size))
      clear hb1 HC
      by_cases hr : rel rk a t = 0
      · rw [hr]
        go_wp2_with fail
        refine ⟨⟨k + 1, by omega, by go_num, Lib.hid (fun x hx => ?_), HB1⟩, by simp [intOf]; omega⟩
        rw [List.take_add_one, HA.out] at hx
        rcases List.mem_append.1 hx with hx | hx
        · exact HN.out x hx
        · obtain rfl : x = a := by simpa using hx
          exact hr
      · have hd : (rel rk a t != 0) = true := by rw [bne_iff_ne]; exact hr
        have HR := Lib.hid (withinR_yes HAM.out hr)
        clear hr
        go_wp2_with fail
        go_ret
        exact ⟨by rw [HR.out]; rfl, HB1.out⟩
    · obtain rfl : k = l.length := by omega
      have HR := Lib.hid (withinR_no (rk := rk) (t := t) (fun a ha => HN.out a (by rw [List.take_length]; exact ha)))
      go_wp2_with fail
      go_ret
      exact ⟨by rw [HR.out]; rfl, HBW.out⟩
set_option maxRecDepth 100000 in
set_option maxHeartbeats 4000000 in
theorem above_any {rk : ByteArray → Int} {N : Nat} (HH : Hid (CmpH rk N)) (l : List Tm) (s : Tm) (lv sv : Value) (b2 o2 : Nat) (w : World) (hl : NdL rk w l lv) (hs : NdW rk w b2 o2 s sv)
    (hsz : ∀ a ∈ l, s.size + a.size < N ∧ a.bare ∧ a.size ≤ 1048576) (hsb : s.bare) (hss : s.size ≤ 1048576) (hll : l.length ≤ 1048576) :
    Calls Try.prog 70 #[.pointer (some ⟨b2, o2, none⟩), lv] w fun e w' => e = .returned (.int .i64 (aboveR rk s l)) ∧ Below w.heap.size w w' := by
  obtain ⟨oa, cap, rfl⟩ := hl.form
  have HL := Lib.hid hl
  have HS := Lib.hid hs
  have HSZ := Lib.hid hsz
  have HSB := Lib.hid hsb
  clear hl hs hsz hsb
  go_enter Try.func70, Try.ntmps70
  go_wp2_with fail
  go_loopw [8] (fun i wr => ∃ k : Nat, k ≤ l.length ∧ i = .int .i64 k ∧ Hid (∀ a ∈ l.take k, rel rk s a = 2) ∧ Hid (Below w.heap.size w wr)) (fun i _ => l.length - (intOf i).toNat)
  case atStart => exact ⟨0, by omega, rfl, Lib.hid (by simp), Lib.hid (Below.refl _ _)⟩
  case round =>
    obtain ⟨k, hk, rfl, HN, HBW⟩ := hrel
    by_cases hlt : k < l.length
    · obtain ⟨b, o, a, av, rfl, -, ha, ham, hat⟩ := (HL.out.keep HBW.out).get hlt
      have HA := Lib.hid ha
      have HAM := Lib.hid ham
      have HC := Lib.hid (HH.out s a sv av b2 o2 b (o + k * 5) wr (HSZ.out a ham).1 HSB.out (HSZ.out a ham).2.1 hss (HSZ.out a ham).2.2 (HS.out.keep HBW.out) hat)
      clear ha ham hat
      go_wp2_with fail
      refine HC.out.mono ?_
      rintro e w1 ⟨rfl, hb1⟩
      have HB1 : Hid (Below w.heap.size w w1) := Lib.hid (HBW.out.trans (hb1.mono HBW.out.size))
      clear hb1 HC
      by_cases hr : rel rk s a = 2
      · rw [hr]
        go_wp2_with fail
        refine ⟨⟨k + 1, by omega, by go_num, Lib.hid (fun x hx => ?_), HB1⟩, by simp [intOf]; omega⟩
        rw [List.take_add_one, HA.out] at hx
        rcases List.mem_append.1 hx with hx | hx
        · exact HN.out x hx
        · obtain rfl : x = a := by simpa using hx
          exact hr
      · have hd : (rel rk s a != 2) = true := by rw [bne_iff_ne]; exact hr
        have HR := Lib.hid (aboveR_no HAM.out hr)
        clear hr
        go_wp2_with fail
        go_ret
        exact ⟨by rw [HR.out]; rfl, HB1.out⟩
    · obtain rfl : k = l.length := by omega
      have HR := Lib.hid (aboveR_yes (rk := rk) (s := s) (fun a ha => HN.out a (by rw [List.take_length]; exact ha)))
      go_wp2_with fail
      go_ret
      exact ⟨by rw [HR.out]; rfl, HBW.out⟩
end Go.Proofs.Ytdnkommcnkbeeaa
