/- Merged: Rel, Cpr, Ndr, Grt. -/
import Derived.Test.YtnomppdmhgefiaaLpo
import Derived.WalkKit
import Derived.ProofKit
import Derived.OpenShut
import Derived.Handy
import Derived.Lib.Hide
import Derived.BigQuiet
import Derived.Test.YtnomppdmhgefiaaNd
import Derived.Deep.RegionHeld3
import Derived.Test.YtnomppdmhgefiaaInv
/- How the program compares two terms: plain mathematics. No program stands here. -/
namespace Go.Proofs.Ytnomppdmhgefiaa
open Go.RowKit

open Classical in
/-- 1: equal; 2: greater; 0: neither -/
noncomputable def rel (rk : ByteArray → Int) (s t : Tm) : Int := if s = t then 1 else if Lpo rk s t then 2 else 0
open Classical in
/-- an argument is equal or greater -/
noncomputable def withinR (rk : ByteArray → Int) (l : List Tm) (t : Tm) : Int := if ∃ a ∈ l, rel rk a t ≠ 0 then 2 else 0
open Classical in
/-- greater than all arguments -/
noncomputable def aboveR (rk : ByteArray → Int) (s : Tm) (l : List Tm) : Int := if ∀ b ∈ l, rel rk s b = 2 then 2 else 0
section
variable {rk : ByteArray → Int}
theorem rel_self (s : Tm) : rel rk s s = 1 := by unfold rel; rw [if_pos rfl]
theorem rel_gt {s t : Tm} (h : Lpo rk s t) : rel rk s t = 2 := by
  unfold rel; rw [if_neg (fun e => by subst e; exact Lpo.irrefl _ h), if_pos h]
theorem rel_no {s t : Tm} (h : s ≠ t) (k : ¬ Lpo rk s t) : rel rk s t = 0 := by unfold rel; rw [if_neg h, if_neg k]
theorem rel_1 {s t : Tm} : rel rk s t = 1 ↔ s = t := by
  refine ⟨fun h => ?_, fun h => by subst h; exact rel_self _⟩
  unfold rel at h
  split at h
  · assumption
  · split at h <;> omega
theorem rel_2 {s t : Tm} : rel rk s t = 2 ↔ Lpo rk s t := by
  refine ⟨fun h => ?_, rel_gt⟩
  unfold rel at h
  split at h
  · omega
  · split at h
    · assumption
    · omega
theorem rel_0 {s t : Tm} : rel rk s t = 0 ↔ s ≠ t ∧ ¬ Lpo rk s t := by
  refine ⟨fun h => ⟨fun e => ?_, fun e => ?_⟩, fun h => rel_no h.1 h.2⟩
  · rw [rel_1.2 e] at h; omega
  · rw [rel_2.2 e] at h; omega
theorem rel_three (rk : ByteArray → Int) (s t : Tm) : rel rk s t = 0 ∨ rel rk s t = 1 ∨ rel rk s t = 2 := by
  unfold rel; split
  · exact .inr (.inl rfl)
  · split
    · exact .inr (.inr rfl)
    · exact .inl rfl
theorem rel_ne0 {s t : Tm} : rel rk s t ≠ 0 ↔ s = t ∨ Lpo rk s t := by
  rcases rel_three rk s t with h | h | h
  · have := rel_0.1 h; simp [h, this]
  · exact ⟨fun _ => .inl (rel_1.1 h), fun _ => by omega⟩
  · simp [h, rel_2.1 h]
theorem rel_vars {s t : Tm} (hs : s.bare) (ht : t.bare) (h1 : s.vr = true) (h2 : t.vr = true) (h3 : s.nm = t.nm) : rel rk s t = 1 :=
  rel_1.2 (Tm.ext' h3 (h1.trans h2.symm) ((hs.vr0 h1).trans (ht.vr0 h2).symm))
theorem rel_var {s t : Tm} (h1 : s.vr = true) (h : ¬ (t.vr = true ∧ s.nm = t.nm)) : rel rk s t = 0 :=
  rel_no (fun e => by subst e; exact h ⟨h1, rfl⟩) (fun e => by rw [e.fun] at h1; cases h1)
open Classical in
theorem withinR_eq (l : List Tm) (t : Tm) : withinR rk l t = if ∃ a ∈ l, a = t ∨ Lpo rk a t then 2 else 0 := by
  unfold withinR
  simp only [rel_ne0]
open Classical in
theorem aboveR_eq (s : Tm) (l : List Tm) : aboveR rk s l = if ∀ b ∈ l, Lpo rk s b then 2 else 0 := by
  unfold aboveR
  simp only [rel_2]
theorem rel_iff2 {s t : Tm} (hne : s ≠ t) {p : Prop} [Decidable p] (h : Lpo rk s t ↔ p) : rel rk s t = if p then 2 else 0 := by
  by_cases hp : p
  · rw [if_pos hp]; exact rel_gt (h.2 hp)
  · rw [if_neg hp]; exact rel_no hne (fun e => hp (h.1 e))
open Classical in
theorem rel_funvar {s t : Tm} (h1 : s.vr = false) (h2 : t.vr = true) : rel rk s t = withinR rk s.ts t := by
  rw [withinR_eq]
  have hne : s ≠ t := fun e => by rw [e, h2] at h1; cases h1
  refine rel_iff2 hne ⟨fun h => ?_, fun h => .of' h1 (.inl h)⟩
  rcases h.cases' with h | ⟨h, -⟩
  · exact h
  · rw [h2] at h; cases h
open Classical in
theorem rel_rank {s t : Tm} (h1 : s.vr = false) (h2 : t.vr = false) (h : rk t.nm < rk s.nm) : rel rk s t = aboveR rk s t.ts := by
  rw [aboveR_eq]
  have hne : s ≠ t := fun e => by rw [e] at h; omega
  exact rel_iff2 hne ⟨fun k b hb => k.trans (.arg t b h2 hb), fun k => .top s t h1 h2 h k⟩
open Classical in
theorem rel_other {s t : Tm} (h1 : s.vr = false) (h : ¬ rk t.nm < rk s.nm) (h3 : ¬ (s.nm = t.nm ∧ s.ts.length = t.ts.length)) : rel rk s t = withinR rk s.ts t := by
  rw [withinR_eq]
  have hne : s ≠ t := fun e => by rw [e] at h3; exact h3 ⟨rfl, rfl⟩
  refine rel_iff2 hne ⟨fun k => ?_, fun k => .of' h1 (.inl k)⟩
  rcases k.cases' with k | ⟨-, -, k | ⟨k1, k2, -⟩⟩
  · exact k
  · exact absurd k h
  · exact absurd ⟨k1, k2⟩ h3
open Classical in
/-- the first arguments that differ: greater -/
theorem rel_first2 {s t a b : Tm} {i : Nat} (h1 : s.vr = false) (h2 : t.vr = false) (hn : s.nm = t.nm) (hl : s.ts.length = t.ts.length) (hti : s.ts.take i = t.ts.take i) (ha : s.ts[i]? = some a) (hb : t.ts[i]? = some b) (h : rel rk a b = 2) : rel rk s t = aboveR rk s (t.ts.drop (i + 1)) := by
  have hab := rel_2.1 h
  rw [aboveR_eq]
  have hst : s ≠ t := fun e => by rw [e, hb] at ha; cases ha; exact Lpo.irrefl _ hab
  refine rel_iff2 hst ⟨fun k c hc => k.trans (.arg t c h2 (List.mem_of_mem_drop hc)), fun k => .lex s t i a b h1 h2 hn hl (fun c hc => ?_) ha hb hti hab⟩
  obtain ⟨j, hj⟩ := List.getElem?_of_mem hc
  rcases Nat.lt_trichotomy j i with hji | rfl | hji
  · refine .arg s c h1 (List.mem_of_getElem? (i := j) ?_)
    rw [take_eq_of_lt hti hji]; exact hj
  · rw [hb] at hj; cases hj
    exact .sub s _ a h1 (List.mem_of_getElem? ha) hab
  · refine k c (List.mem_of_getElem? (i := j - (i + 1)) ?_)
    rw [List.getElem?_drop, show i + 1 + (j - (i + 1)) = j by omega]; exact hj
open Classical in
/-- the first arguments that differ: not greater -/
theorem rel_first0 {s t a b : Tm} {i : Nat} (h1 : s.vr = false) (h2 : t.vr = false) (hr : ¬ rk t.nm < rk s.nm) (hti : s.ts.take i = t.ts.take i) (ha : s.ts[i]? = some a) (hb : t.ts[i]? = some b) (h : rel rk a b = 0) : rel rk s t = withinR rk (s.ts.drop (i + 1)) t := by
  obtain ⟨hne, hng⟩ := rel_0.1 h
  rw [withinR_eq]
  have hst : s ≠ t := fun e => by rw [e, hb] at ha; cases ha; exact hne rfl
  refine rel_iff2 hst ⟨fun k => ?_, fun ⟨c, hc, k⟩ => .of' h1 (.inl ⟨c, List.mem_of_mem_drop hc, k⟩)⟩
  rcases k.cases' with ⟨c, hc, k⟩ | ⟨-, k0, k | ⟨k1, k2, j, a2, b2, ha2, hb2, htj, k⟩⟩
  · obtain ⟨j, hj⟩ := List.getElem?_of_mem hc
    rcases Nat.lt_trichotomy j i with hji | rfl | hji
    · rw [take_eq_of_lt hti hji] at hj
      have htc : Lpo rk t c := .arg t c h2 (List.mem_of_getElem? hj)
      rcases k with rfl | k
      · exact absurd htc (Lpo.irrefl _)
      · exact absurd (k.trans htc) (Lpo.irrefl _)
    · rw [ha] at hj; cases hj
      have htb : Lpo rk t b := .arg t b h2 (List.mem_of_getElem? hb)
      rcases k with rfl | k
      · exact absurd htb hng
      · exact absurd (k.trans htb) hng
    · exact ⟨c, List.mem_of_getElem? (i := j - (i + 1)) (by rw [List.getElem?_drop, show i + 1 + (j - (i + 1)) = j by omega]; exact hj), k⟩
  · exact absurd k hr
  · rcases Nat.lt_trichotomy j i with hji | rfl | hji
    · rw [take_eq_of_lt hti hji, hb2] at ha2; cases ha2
      exact absurd k (Lpo.irrefl _)
    · rw [ha] at ha2; rw [hb] at hb2; cases ha2; cases hb2
      exact absurd k hng
    · have := take_eq_of_lt htj hji
      rw [ha, hb] at this; cases this
      exact absurd rfl hne
theorem rel_same {s t : Tm} (h : s.vr = t.vr) (hn : s.nm = t.nm) (ht : s.ts.take s.ts.length = t.ts.take s.ts.length) (hl : s.ts.length = t.ts.length) : rel rk s t = 1 := by
  rw [List.take_length, hl, List.take_length] at ht
  exact rel_1.2 (Tm.ext' hn h ht)
end
end Go.Proofs.Ytnomppdmhgefiaa
/- Merged: Wth, Cpr. -/
/- Package path: within, above. -/
namespace Go.Proofs.Ytnomppdmhgefiaa
open Go.RowKit

/-- a node in blocks that are there -/
abbrev NdW (rk : ByteArray → Int) (W : World) (b o : Nat) (t : Tm) (s : Value) : Prop := NdAt rk (· < W.heap.size) W b o t s
theorem NdAt.keep {rk : ByteArray → Int} {A W : World} {b o : Nat} {t : Tm} {s : Value} (h : NdW rk A b o t s) (hb : Below A.heap.size A W) : NdW rk W b o t s :=
  NdAt.carry h fun x hx => ⟨hb.block x hx, Nat.lt_of_lt_of_le hx hb.size⟩
abbrev NdL (rk : ByteArray → Int) (W : World) (l : List Tm) (s : Value) : Prop := NdP rk (· < W.heap.size) W l s
theorem NdP.keep {rk : ByteArray → Int} {A W : World} {l : List Tm} {s : Value} (h : NdL rk A l s) (hb : Below A.heap.size A W) : NdL rk W l s :=
  NdP.carry (fun x hx => ⟨hb.block x hx, Nat.lt_of_lt_of_le hx hb.size⟩) h
/-- compare at terms of a size below N -/
def CmpH (rk : ByteArray → Int) (N : Nat) : Prop := ∀ (s t : Tm) (sv tv : Value) (b o b2 o2 : Nat) (W : World), s.size + t.size < N → s.bare → t.bare → s.size ≤ 1048576 → t.size ≤ 1048576 → NdW rk W b o s sv → NdW rk W b2 o2 t tv →
  Calls Try.prog 24 #[.pointer (some ⟨b, o, none⟩), .pointer (some ⟨b2, o2, none⟩)] W fun e w' => e = .returned (.int .i64 (rel rk s t)) ∧ Below W.heap.size W w'
theorem withinR_yes {rk : ByteArray → Int} {l : List Tm} {a t : Tm} (h : a ∈ l) (h2 : rel rk a t ≠ 0) : withinR rk l t = 2 := by
  unfold withinR; rw [if_pos ⟨a, h, h2⟩]
theorem withinR_no {rk : ByteArray → Int} {l : List Tm} {t : Tm} (h : ∀ a ∈ l, rel rk a t = 0) : withinR rk l t = 0 := by
  unfold withinR; rw [if_neg fun ⟨a, h1, h2⟩ => h2 (h a h1)]
theorem aboveR_no {rk : ByteArray → Int} {l : List Tm} {s b : Tm} (h : b ∈ l) (h2 : rel rk s b ≠ 2) : aboveR rk s l = 0 := by
  unfold aboveR; rw [if_neg fun k => h2 (k b h)]
theorem aboveR_yes {rk : ByteArray → Int} {l : List Tm} {s : Tm} (h : ∀ b ∈ l, rel rk s b = 2) : aboveR rk s l = 2 := by
  unfold aboveR; rw [if_pos h]

set_option maxRecDepth 100000 in
set_option maxHeartbeats 4000000 in
theorem within_any {rk : ByteArray → Int} {N : Nat} (HH : Hid (CmpH rk N)) (l : List Tm) (t : Tm) (lv tv : Value) (b2 o2 : Nat) (w : World) (hl : NdL rk w l lv) (ht : NdW rk w b2 o2 t tv)
    (hsz : ∀ a ∈ l, a.size + t.size < N ∧ a.bare ∧ a.size ≤ 1048576) (htb : t.bare) (hts : t.size ≤ 1048576) (hll : l.length ≤ 1048576) :
    Calls Try.prog 41 #[lv, .pointer (some ⟨b2, o2, none⟩)] w fun e w' => e = .returned (.int .i64 (withinR rk l t)) ∧ Below w.heap.size w w' := by
  obtain ⟨oa, cap, rfl⟩ := hl.form
  have HL := Lib.hid hl
  have HT := Lib.hid ht
  have HSZ := Lib.hid hsz
  have HTB := Lib.hid htb
  clear hl ht hsz htb
  go_enter Try.func41, Try.ntmps41
  go_wp2_with fail
  go_loopw [8] (fun i wr => ∃ k : Nat, k ≤ l.length ∧ i = .int .i64 k ∧ Hid (∀ a ∈ l.take k, rel rk a t = 0) ∧ Hid (Below w.heap.size w wr)) (fun i _ => l.length - (intOf i).toNat)
  case atStart => exact ⟨0, by omega, rfl, Lib.hid (by simp), Lib.hid (Below.refl _ _)⟩
  case round =>
    obtain ⟨k, hk, rfl, HN, HBW⟩ := hrel
    by_cases hlt : k < l.length
    · obtain ⟨b, o, a, sv, rfl, -, ha, ham, hat⟩ := (HL.out.keep HBW.out).get hlt
      have HA := Lib.hid ha
      have HAM := Lib.hid ham
      have HC := Lib.hid (HH.out a t sv tv b (o + k * 5) b2 o2 wr (HSZ.out a ham).1 (HSZ.out a ham).2.1 HTB.out (HSZ.out a ham).2.2 hts hat (HT.out.keep HBW.out))
      clear ha ham hat
      go_wp2_with fail
      refine HC.out.mono ?_
      rintro e w1 ⟨rfl, hb1⟩
      have HB1 : Hid (Below w.heap.size w w1) := Lib.hid (HBW.out.trans (hb1.mono HBW.out.size))
      clear hb1 HC
      by_cases hr : rel rk a t = 0
      · rw [hr]
        go_wp2_with fail
        refine ⟨⟨k + 1, by omega, by go_num, Lib.hid (fun x hx => ?_), HB1⟩, by simp [intOf]; omega⟩
        rw [List.take_add_one, HA.out] at hx
        rcases List.mem_append.1 hx with hx | hx
        · exact HN.out x hx
        · obtain rfl : x = a := by simpa using hx
          exact hr
      · have hd : (rel rk a t != 0) = true := by rw [bne_iff_ne]; exact hr
        have HR := Lib.hid (withinR_yes HAM.out hr)
        clear hr
        go_wp2_with fail
        go_ret
        exact ⟨by rw [HR.out]; rfl, HB1.out⟩
    · obtain rfl : k = l.length := by omega
      have HR := Lib.hid (withinR_no (rk := rk) (t := t) (fun a ha => HN.out a (by rw [List.take_length]; exact ha)))
      go_wp2_with fail
      go_ret
      exact ⟨by rw [HR.out]; rfl, HBW.out⟩
set_option maxRecDepth 100000 in
set_option maxHeartbeats 4000000 in
theorem above_any {rk : ByteArray → Int} {N : Nat} (HH : Hid (CmpH rk N)) (l : List Tm) (s : Tm) (lv sv : Value) (b2 o2 : Nat) (w : World) (hl : NdL rk w l lv) (hs : NdW rk w b2 o2 s sv)
    (hsz : ∀ a ∈ l, s.size + a.size < N ∧ a.bare ∧ a.size ≤ 1048576) (hsb : s.bare) (hss : s.size ≤ 1048576) (hll : l.length ≤ 1048576) :
    Calls Try.prog 42 #[.pointer (some ⟨b2, o2, none⟩), lv] w fun e w' => e = .returned (.int .i64 (aboveR rk s l)) ∧ Below w.heap.size w w' := by
  obtain ⟨oa, cap, rfl⟩ := hl.form
  have HL := Lib.hid hl
  have HS := Lib.hid hs
  have HSZ := Lib.hid hsz
  have HSB := Lib.hid hsb
  clear hl hs hsz hsb
  go_enter Try.func42, Try.ntmps42
  go_wp2_with fail
  go_loopw [8] (fun i wr => ∃ k : Nat, k ≤ l.length ∧ i = .int .i64 k ∧ Hid (∀ a ∈ l.take k, rel rk s a = 2) ∧ Hid (Below w.heap.size w wr)) (fun i _ => l.length - (intOf i).toNat)
  case atStart => exact ⟨0, by omega, rfl, Lib.hid (by simp), Lib.hid (Below.refl _ _)⟩
  case round =>
    obtain ⟨k, hk, rfl, HN, HBW⟩ := hrel
    by_cases hlt : k < l.length
    · obtain ⟨b, o, a, av, rfl, -, ha, ham, hat⟩ := (HL.out.keep HBW.out).get hlt
      have HA := Lib.hid ha
      have HAM := Lib.hid ham
      have HC := Lib.hid (HH.out s a sv av b2 o2 b (o + k * 5) wr (HSZ.out a ham).1 HSB.out (HSZ.out a ham).2.1 hss (HSZ.out a ham).2.2 (HS.out.keep HBW.out) hat)
      clear ha ham hat
      go_wp2_with fail
      refine HC.out.mono ?_
      rintro e w1 ⟨rfl, hb1⟩
      have HB1 : Hid (Below w.heap.size w w1) := Lib.hid (HBW.out.trans (hb1.mono HBW.out.size))
      clear hb1 HC
      by_cases hr : rel rk s a = 2
      · rw [hr]
        go_wp2_with fail
        refine ⟨⟨k + 1, by omega, by go_num, Lib.hid (fun x hx => ?_), HB1⟩, by simp [intOf]; omega⟩
        rw [List.take_add_one, HA.out] at hx
        rcases List.mem_append.1 hx with hx | hx
        · exact HN.out x hx
        · obtain rfl : x = a := by simpa using hx
          exact hr
      · have hd : (rel rk s a != 2) = true := by rw [bne_iff_ne]; exact hr
        have HR := Lib.hid (aboveR_no HAM.out hr)
        clear hr
        go_wp2_with fail
        go_ret
        exact ⟨by rw [HR.out]; rfl, HB1.out⟩
    · obtain rfl : k = l.length := by omega
      have HR := Lib.hid (aboveR_yes (rk := rk) (s := s) (fun a ha => HN.out a (by rw [List.take_length]; exact ha)))
      go_wp2_with fail
      go_ret
      exact ⟨by rw [HR.out]; rfl, HBW.out⟩
end Go.Proofs.Ytnomppdmhgefiaa
/- Package path: inOrder, compare. -/
namespace Go.Proofs.Ytnomppdmhgefiaa
open Go.RowKit

theorem NdP.none {rk : ByteArray → Int} {p : Nat → Prop} {W : World} {l : List Tm} (hl : l = []) {n : Nat} (hn : n = 0) (a : Addr) (c : Nat) : NdP rk p W l (.slice (some a) n c) := by subst hl; subst hn; exact .nil1 _ _
set_option maxRecDepth 100000 in
set_option maxHeartbeats 8000000 in
theorem inOrder_any {rk : ByteArray → Int} (s t : Tm) (HH : Hid (CmpH rk (s.size + t.size))) (sv tv : Value) (b o b2 o2 : Nat) (w : World) (hs : NdW rk w b o s sv) (ht : NdW rk w b2 o2 t tv)
    (hsb : s.bare) (htb : t.bare) (hss : s.size ≤ 1048576) (hts : t.size ≤ 1048576) (h1 : s.vr = false) (h2 : t.vr = false) (hn : s.nm = t.nm) (hl : s.ts.length = t.ts.length) :
    Calls Try.prog 43 #[.pointer (some ⟨b, o, none⟩), .pointer (some ⟨b2, o2, none⟩)] w fun e w' => e = .returned (.int .i64 (rel rk s t)) ∧ Below w.heap.size w w' := by
  obtain ⟨os, cs, rfl⟩ := hs.is.form
  obtain ⟨ot, ct, rfl⟩ := ht.is.form
  have hlen : s.ts.length ≤ 1048576 := by have := Tm.length_sizes s.ts; have := Tm.size_eq s; omega
  have hlen2 : t.ts.length ≤ 1048576 := by have := Tm.length_sizes t.ts; have := Tm.size_eq t; omega
  have HSN := Lib.hid hs
  have HTN := Lib.hid ht
  have HSB := Lib.hid hsb
  have HTB := Lib.hid htb
  have HN := Lib.hid hn
  have HL := Lib.hid hl
  have H1 := Lib.hid h1
  have H2 := Lib.hid h2
  have xa := hs.ar
  have ya := ht.ar
  clear hs ht hsb htb hn hl h1 h2
  go_enter Try.func43, Try.ntmps43
  go_wp2_with fail
  go_loopw [11] (fun i wr => ∃ k : Nat, k ≤ s.ts.length ∧ i = .int .i64 k ∧ Hid (s.ts.take k = t.ts.take k) ∧ Hid (Below w.heap.size w wr)) (fun i _ => s.ts.length - (intOf i).toNat)
  case atStart => exact ⟨0, by omega, rfl, Lib.hid (by simp), Lib.hid (Below.refl _ _)⟩
  case round =>
    clear xa ya
    obtain ⟨k, hk, rfl, HK, HBW⟩ := hrel
    by_cases hlt : k < s.ts.length
    · have hlt2 : k < t.ts.length := by rw [← HL.out]; exact hlt
      have hs1 := HSN.out.keep HBW.out
      have ht1 := HTN.out.keep HBW.out
      obtain ⟨bs, ps, a, av, rfl, -, ha, ham, hat⟩ := hs1.is.get hlt
      obtain ⟨bt, pt, c, cv, rfl, -, hc, hcm, hct⟩ := ht1.is.get hlt2
      have HA := Lib.hid ha
      have HC := Lib.hid hc
      have HAT := Lib.hid hat
      have HCT := Lib.hid hct
      have HAM := Lib.hid ham
      have HCM := Lib.hid hcm
      have has := mem_size ham
      have hcs := mem_size hcm
      have S0 : Hid (wr.drew.cell? ⟨b, o + 4, none⟩ = some (.slice (some ⟨bs, ps, none⟩) s.ts.length cs) ∧ wr.drew.cell? ⟨b2, o2 + 4, none⟩ = some (.slice (some ⟨bt, pt, none⟩) t.ts.length ct)) := Lib.hid ⟨hs1.ar, ht1.ar⟩
      have HCALL := Lib.hid (HH.out a c av cv bs (ps + k * 5) bt (pt + k * 5) wr.drew (by omega) (HSB.out.kids a ham) (HTB.out.kids c hcm) (by omega) (by omega) (hat.keep (Below.refl _ wr).drew) (hct.keep (Below.refl _ wr).drew))
      clear hs1 ht1 ha hc hat hct ham hcm
      go_wp2_with fail
      refine wp_region_noPanic ?_
      refine wp_region_held_drew (S := fun w' => w'.cell? ⟨b, o + 4, none⟩ = some (.slice (some ⟨bs, ps, none⟩) s.ts.length cs) ∧ w'.cell? ⟨b2, o2 + 4, none⟩ = some (.slice (some ⟨bt, pt, none⟩) t.ts.length ct)) (by kernel_rfl) S0.out (fun _ => ?_)
      simp only [List.size_toArray, List.length_cons, List.length_nil, Nat.reduceAdd]
      refine wpAnyH_take (i := 0) (v := ?_) (by simp only [List.getElem?_toArray, List.getElem?_cons_zero]; rfl) (by kernel_rfl) (by kernel_rfl) (by kernel_rfl) (fun _ _ _ h => h) (Or.inl ⟨by rfl, ?_⟩) S0.out ?_
      case refine_2 => (intro ww hSw; obtain ⟨s1, s2⟩ := hSw; go_simp; try with_reducible rfl)
      try simp only [Act.put, List.setIfInBounds_toArray, List.set_cons_zero, List.set_cons_succ]
      refine wpAnyH_take (i := 1) (v := ?_) (by simp only [List.getElem?_toArray, List.getElem?_cons_zero, List.getElem?_cons_succ]; rfl) (by kernel_rfl) (by kernel_rfl) (by kernel_rfl) (fun _ _ _ h => h) (Or.inl ⟨by rfl, ?_⟩) S0.out ?_
      case refine_2 => (intro ww hSw; obtain ⟨s1, s2⟩ := hSw; go_simp; try with_reducible rfl)
      try simp only [Act.put, List.setIfInBounds_toArray, List.set_cons_zero, List.set_cons_succ]
      refine wpAnyH_take (i := 2) (v := ?_) (by simp only [List.getElem?_toArray, List.getElem?_cons_zero, List.getElem?_cons_succ]; rfl) (by kernel_rfl) (by kernel_rfl) (by kernel_rfl) (fun _ _ _ h => h) (Or.inl ⟨by rfl, ?_⟩) S0.out ?_
      case refine_2 => (intro ww hSw; obtain ⟨s1, s2⟩ := hSw; go_simp; try with_reducible rfl)
      try simp only [Act.put, List.setIfInBounds_toArray, List.set_cons_zero, List.set_cons_succ]
      refine wpAnyH_take (i := 3) (v := ?_) (by simp only [List.getElem?_toArray, List.getElem?_cons_zero, List.getElem?_cons_succ]; rfl) (by kernel_rfl) (by kernel_rfl) (by kernel_rfl) (fun _ _ _ h => h) (Or.inl ⟨by rfl, ?_⟩) S0.out ?_
      case refine_2 => (intro ww hSw; obtain ⟨s1, s2⟩ := hSw; go_simp; try with_reducible rfl)
      try simp only [Act.put, List.setIfInBounds_toArray, List.set_cons_zero, List.set_cons_succ]
      refine wpAnyH_take (i := 4) (v := ?_) (by simp only [List.getElem?_toArray, List.getElem?_cons_zero, List.getElem?_cons_succ]; rfl) (by kernel_rfl) (by kernel_rfl) (by kernel_rfl) (fun _ _ _ h => h) (Or.inl ⟨by rfl, ?_⟩) S0.out ?_
      case refine_2 => (intro ww hSw; obtain ⟨s1, s2⟩ := hSw; go_simp; try with_reducible rfl)
      try simp only [Act.put, List.setIfInBounds_toArray, List.set_cons_zero, List.set_cons_succ]
      refine wpAnyH_take (i := 5) (v := ?_) (by simp only [List.getElem?_toArray, List.getElem?_cons_zero, List.getElem?_cons_succ]; rfl) (by kernel_rfl) (by kernel_rfl) (by kernel_rfl) (fun _ _ _ h => h) (Or.inl ⟨by rfl, ?_⟩) S0.out ?_
      case refine_2 => (intro ww hSw; obtain ⟨s1, s2⟩ := hSw; go_simp; try with_reducible rfl)
      try simp only [Act.put, List.setIfInBounds_toArray, List.set_cons_zero, List.set_cons_succ]
      refine wpAnyH_take (i := 6) (v := ?_) (by simp only [List.getElem?_toArray, List.getElem?_cons_zero, List.getElem?_cons_succ]; rfl) (by kernel_rfl) (by kernel_rfl) (by kernel_rfl) (fun _ _ _ h => h) (Or.inl ⟨by rfl, ?_⟩) S0.out ?_
      case refine_2 => (intro ww hSw; obtain ⟨s1, s2⟩ := hSw; go_simp; try with_reducible rfl)
      try simp only [Act.put, List.setIfInBounds_toArray, List.set_cons_zero, List.set_cons_succ]
      refine wpAnyH_take (i := 7) (v := ?_) (by simp only [List.getElem?_toArray, List.getElem?_cons_zero, List.getElem?_cons_succ]; rfl) (by kernel_rfl) (by kernel_rfl) (by kernel_rfl) (fun _ _ _ h => h) (Or.inl ⟨by rfl, ?_⟩) S0.out ?_
      case refine_2 => (intro ww hSw; obtain ⟨s1, s2⟩ := hSw; go_simp; try with_reducible rfl)
      try simp only [Act.put, List.setIfInBounds_toArray, List.set_cons_zero, List.set_cons_succ]
      refine wpAnyH_take (i := 8) (v := ?_) (by simp only [List.getElem?_toArray, List.getElem?_cons_zero, List.getElem?_cons_succ]; rfl) (by kernel_rfl) (by kernel_rfl) (by kernel_rfl) (fun _ _ _ h => h) (Or.inl ⟨by rfl, ?_⟩) S0.out ?_
      case refine_2 => (intro ww hSw; obtain ⟨s1, s2⟩ := hSw; go_simp; try with_reducible rfl)
      try simp only [Act.put, List.setIfInBounds_toArray, List.set_cons_zero, List.set_cons_succ]
      refine wpAnyH_take (i := 9) (v := ?_) (by simp only [List.getElem?_toArray, List.getElem?_cons_zero, List.getElem?_cons_succ]; rfl) (by kernel_rfl) (by kernel_rfl) (by kernel_rfl) (fun _ _ _ h => h) (Or.inl ⟨by rfl, ?_⟩) S0.out ?_
      case refine_2 => (intro ww hSw; obtain ⟨s1, s2⟩ := hSw; go_simp; try with_reducible rfl)
      try simp only [Act.put, List.setIfInBounds_toArray, List.set_cons_zero, List.set_cons_succ]
      refine wpAnyH_take (i := 10) (v := ?_) (by simp only [List.getElem?_toArray, List.getElem?_cons_zero, List.getElem?_cons_succ]; rfl) (by kernel_rfl) (by kernel_rfl) (by kernel_rfl) (fun _ _ _ h => h) (Or.inl ⟨by rfl, ?_⟩) S0.out ?_
      case refine_2 => (intro ww hSw; obtain ⟨s1, s2⟩ := hSw; go_simp; try with_reducible rfl)
      try simp only [Act.put, List.setIfInBounds_toArray, List.set_cons_zero, List.set_cons_succ]
      refine wpAnyH_take (i := 11) (v := ?_) (by simp only [List.getElem?_toArray, List.getElem?_cons_zero, List.getElem?_cons_succ]; rfl) (by kernel_rfl) (by kernel_rfl) (by kernel_rfl) (fun _ _ _ h => h) (Or.inl ⟨by rfl, ?_⟩) S0.out ?_
      case refine_2 => (intro ww hSw; obtain ⟨s1, s2⟩ := hSw; go_simp; try with_reducible rfl)
      try simp only [Act.put, List.setIfInBounds_toArray, List.set_cons_zero, List.set_cons_succ]
      refine wpAnyH_ready (rs := [12]) (by kernel_rfl) (by simp) ?_
      refine AllReadyH.cons (by simp only [List.getElem?_toArray, List.getElem?_cons_zero, List.getElem?_cons_succ]; rfl) (fun K' hK => ?_) AllReadyH.nil
      go_simp
      refine HCALL.out.mono ?_
      rintro e w1 ⟨rfl, hb1⟩
      have HB1 : Hid (Below w.heap.size w w1) := Lib.hid ((HBW.out.drew).trans (hb1.mono HBW.out.size))
      have hs1 := HSN.out.keep HB1.out
      have ht1 := HTN.out.keep HB1.out
      have S1 : Hid (w1.cell? ⟨b, o + 4, none⟩ = some (.slice (some ⟨bs, ps, none⟩) s.ts.length cs) ∧ w1.cell? ⟨b2, o2 + 4, none⟩ = some (.slice (some ⟨bt, pt, none⟩) t.ts.length ct)) := Lib.hid ⟨hs1.ar, ht1.ar⟩
      clear hb1 HCALL hs1 ht1
      refine hK.out _ _ S1.out (fun _ => ?_)
      clear hK
      try simp only [Act.put, List.setIfInBounds_toArray, List.set_cons_zero, List.set_cons_succ]
      refine wpAnyH_done (by kernel_rfl) ?_ _
      refine NoPanic.normal ?_
      rcases rel_three rk a c with hr | hr | hr
      · rw [hr]
        have HR := Lib.hid (rel_first0 (rk := rk) H1.out H2.out (by rw [HN.out]; omega) HK.out HA.out HC.out hr)
        obtain ⟨y1, y2⟩ := S1.out
        obtain ⟨bs', ps', e1, -, hcap, hdr⟩ := NdP.drop (HSN.out.keep HB1.out).is hlt
        cases e1
        have hdk := hdr (k + 1) (by omega)
        have HDK := Lib.hid hdk
        have HW := fun (sl : Value) (hsl : NdL rk w1 (s.ts.drop (k + 1)) sl) => Lib.hid (within_any HH (s.ts.drop (k + 1)) t sl _ b2 o2 w1 hsl (HTN.out.keep HB1.out) (fun x hx => by have := mem_size (List.mem_of_mem_drop hx); exact ⟨by omega, HSB.out.kids x (List.mem_of_mem_drop hx), by omega⟩) HTB.out hts (by rw [List.length_drop]; omega))
        clear hdk hdr
        by_cases hcp : cs = k + 1
        · have hlk : s.ts.length = k + 1 := by omega
          have HLK := Lib.hid hlk
          clear hlk
          go_wp2_with fail
          refine (HW _ (NdP.none (by rw [List.drop_eq_nil_iff]; have := HLK.out; omega) (by have := HLK.out; omega) _ _)).out.mono ?_
          rintro e w2 ⟨rfl, hb2⟩
          have HB2 : Hid (Below w.heap.size w w2) := Lib.hid (HB1.out.trans (hb2.mono HB1.out.size))
          clear hb2
          go_wp2_with fail
          go_ret
          exact ⟨by rw [HR.out]; rfl, HB2.out⟩
        · go_wp2_with fail
          refine (HW _ HDK.out).out.mono ?_
          rintro e w2 ⟨rfl, hb2⟩
          have HB2 : Hid (Below w.heap.size w w2) := Lib.hid (HB1.out.trans (hb2.mono HB1.out.size))
          clear hb2
          go_wp2_with fail
          go_ret
          exact ⟨by rw [HR.out]; rfl, HB2.out⟩
      · rw [hr]
        have he : a = c := rel_1.1 hr
        have HK2 : Hid (s.ts.take (k + 1) = t.ts.take (k + 1)) := Lib.hid (by rw [List.take_add_one, List.take_add_one, HK.out, HA.out, HC.out, he])
        go_wp2_with fail
        exact ⟨⟨k + 1, by omega, by go_num, HK2, HB1⟩, by simp [intOf]; omega⟩
      · rw [hr]
        have HR := Lib.hid (rel_first2 (rk := rk) H1.out H2.out HN.out HL.out HK.out HA.out HC.out hr)
        obtain ⟨y1, y2⟩ := S1.out
        obtain ⟨bt', pt', e1, -, hcap, hdr⟩ := NdP.drop (HTN.out.keep HB1.out).is hlt2
        cases e1
        have hdk := hdr (k + 1) (by omega)
        have HDK := Lib.hid hdk
        have HW := fun (sl : Value) (hsl : NdL rk w1 (t.ts.drop (k + 1)) sl) => Lib.hid (above_any HH (t.ts.drop (k + 1)) s sl _ b o w1 hsl (HSN.out.keep HB1.out) (fun x hx => by have := mem_size (List.mem_of_mem_drop hx); exact ⟨by omega, HTB.out.kids x (List.mem_of_mem_drop hx), by omega⟩) HSB.out hss (by rw [List.length_drop]; omega))
        clear hdk hdr
        by_cases hcp : ct = k + 1
        · have hlk : t.ts.length = k + 1 := by omega
          have HLK := Lib.hid hlk
          clear hlk
          go_wp2_with fail
          refine (HW _ (NdP.none (by rw [List.drop_eq_nil_iff]; have := HLK.out; omega) (by have := HLK.out; omega) _ _)).out.mono ?_
          rintro e w2 ⟨rfl, hb2⟩
          have HB2 : Hid (Below w.heap.size w w2) := Lib.hid (HB1.out.trans (hb2.mono HB1.out.size))
          clear hb2
          go_wp2_with fail
          go_ret
          exact ⟨by rw [HR.out]; rfl, HB2.out⟩
        · go_wp2_with fail
          refine (HW _ HDK.out).out.mono ?_
          rintro e w2 ⟨rfl, hb2⟩
          have HB2 : Hid (Below w.heap.size w w2) := Lib.hid (HB1.out.trans (hb2.mono HB1.out.size))
          clear hb2
          go_wp2_with fail
          go_ret
          exact ⟨by rw [HR.out]; rfl, HB2.out⟩
    · obtain rfl : k = s.ts.length := by omega
      have HR := Lib.hid (rel_same (rk := rk) (H1.out.trans H2.out.symm) HN.out HK.out HL.out)
      go_wp2_with fail
      go_ret
      exact ⟨by rw [HR.out]; rfl, HBW.out⟩
theorem nm_beq_yes {a b : ByteArray} (h : a = b) : (a.toList == b.toList) = true := by rw [h, beq_self_eq_true]
theorem nm_beq_no {a b : ByteArray} (h : a ≠ b) : (a.toList == b.toList) = false := by
  rw [beq_eq_false_iff_ne]
  intro e
  apply h
  rw [ByteArray.toList_eq, ByteArray.toList_eq] at e
  have : a.data = b.data := Array.toList_inj.1 e
  cases a; cases b; cases this; rfl
theorem CmpH.mono {rk : ByteArray → Int} {N M : Nat} (h : CmpH rk N) (hm : M ≤ N) : CmpH rk M := fun s t sv tv b o b2 o2 W hl => h s t sv tv b o b2 o2 W (by omega)
set_option maxRecDepth 100000 in
set_option maxHeartbeats 8000000 in
theorem compare_step {rk : ByteArray → Int} (s t : Tm) (HH : Hid (CmpH rk (s.size + t.size))) (sv tv : Value) (b o b2 o2 : Nat) (w : World) (hs : NdW rk w b o s sv) (ht : NdW rk w b2 o2 t tv)
    (hsb : s.bare) (htb : t.bare) (hss : s.size ≤ 1048576) (hts : t.size ≤ 1048576) :
    Calls Try.prog 24 #[.pointer (some ⟨b, o, none⟩), .pointer (some ⟨b2, o2, none⟩)] w fun e w' => e = .returned (.int .i64 (rel rk s t)) ∧ Below w.heap.size w w' := by
  obtain ⟨os, cs, rfl⟩ := hs.is.form
  obtain ⟨ot, ct, rfl⟩ := ht.is.form
  have hlen : s.ts.length ≤ 1048576 := by have := Tm.length_sizes s.ts; have := Tm.size_eq s; omega
  have hlen2 : t.ts.length ≤ 1048576 := by have := Tm.length_sizes t.ts; have := Tm.size_eq t; omega
  have HS := Lib.hid hs
  have HT := Lib.hid ht
  have HSB := Lib.hid hsb
  have HTB := Lib.hid htb
  have HWI := fun (W : World) (hW : Below w.heap.size w W) => Lib.hid (within_any HH s.ts t (.slice os s.ts.length cs) (.slice ot t.ts.length ct) b2 o2 W (HS.out.keep hW).is (HT.out.keep hW) (fun x hx => by have := mem_size hx; exact ⟨by omega, HSB.out.kids x hx, by omega⟩) HTB.out hts hlen)
  have HAB := fun (W : World) (hW : Below w.heap.size w W) => Lib.hid (above_any HH t.ts s (.slice ot t.ts.length ct) (.slice os s.ts.length cs) b o W (HT.out.keep hW).is (HS.out.keep hW) (fun x hx => by have := mem_size hx; exact ⟨by omega, HTB.out.kids x hx, by omega⟩) HSB.out hss hlen2)
  obtain ⟨-, x0, x1, x3, x4, -⟩ := hs
  obtain ⟨-, y0, y1, y3, y4, -⟩ := ht
  clear hsb htb
  go_enter Try.func24, Try.ntmps24
  cases h1 : s.vr with
  | true =>
    rw [h1] at x1
    by_cases h2 : t.vr = true ∧ s.nm = t.nm
    · have HR := Lib.hid (rel_vars (rk := rk) HSB.out HTB.out h1 h2.1 h2.2)
      have hb := nm_beq_yes h2.2
      rw [h2.1] at y1
      clear h1 h2
      go_wp2_with fail
      go_quiet (fail)
      go_wp2_with fail
      go_ret
      exact ⟨by rw [HR.out]; rfl, below_drewN nq (Below.refl _ _)⟩
    · have HR := Lib.hid (rel_var (rk := rk) h1 h2)
      cases h3 : t.vr with
      | true =>
        have hb := nm_beq_no (fun e => h2 ⟨h3, e⟩)
        rw [h3] at y1
        clear h1 h2 h3
        go_wp2_with fail
        go_quiet (fail)
        go_wp2_with fail
        go_ret
        exact ⟨by rw [HR.out]; rfl, below_drewN nq (Below.refl _ _)⟩
      | false =>
        rw [h3] at y1
        clear h1 h2 h3
        go_wp2_with fail
        go_quiet (fail)
        go_wp2_with fail
        go_ret
        exact ⟨by rw [HR.out]; rfl, below_drewN nq (Below.refl _ _)⟩
  | false =>
    rw [h1] at x1
    cases h2 : t.vr with
    | true =>
      rw [h2] at y1
      have HR := Lib.hid (rel_funvar (rk := rk) h1 h2)
      clear h1 h2
      go_wp2_with fail
      go_quiet (fail)
      have HB := Lib.hid (below_drewN nq (Below.refl w.heap.size w))
      go_wp2_with fail
      refine (HWI _ HB.out).out.mono ?_
      rintro e w2 ⟨rfl, hb2⟩
      have HB2 : Hid (Below w.heap.size w w2) := Lib.hid (HB.out.trans (hb2.mono HB.out.size))
      clear hb2
      go_wp2_with fail
      go_ret
      exact ⟨by rw [HR.out]; rfl, HB2.out⟩
    | false =>
      rw [h2] at y1
      rw [ndRank_fun h1] at x3
      rw [ndRank_fun h2] at y3
      have H1 := Lib.hid h1
      have H2 := Lib.hid h2
      clear h1 h2
      go_wp2_with fail
      go_quiet (fail)
      have HB0 := Lib.hid (below_drewN nq (Below.refl w.heap.size w))
      have hs1 := HS.out.keep HB0.out
      have ht1 := HT.out.keep HB0.out
      generalize w.drewN nq = wa at HB0 hs1 ht1 ⊢
      clear x0 x1 x3 x4 y0 y1 y3 y4
      obtain ⟨-, x0, x1, x3, x4, -⟩ := hs1
      obtain ⟨-, y0, y1, y3, y4, -⟩ := ht1
      rw [H1.out] at x1
      rw [H2.out] at y1
      rw [ndRank_fun H1.out] at x3
      rw [ndRank_fun H2.out] at y3
      by_cases hr : rk t.nm < rk s.nm
      · have HR := Lib.hid (rel_rank (rk := rk) H1.out H2.out hr)
        have hd : decide (rk t.nm < rk s.nm) = true := decide_eq_true hr
        clear hr
        go_wp2_with fail
        go_quiet (fail)
        rename_i nq2
        have HB1 := Lib.hid (below_drewN nq HB0.out)
        go_wp2_with fail
        refine (HAB _ HB1.out).out.mono ?_
        rintro e w2 ⟨rfl, hb2⟩
        have HB2 : Hid (Below w.heap.size w w2) := Lib.hid (HB1.out.trans (hb2.mono HB1.out.size))
        clear hb2
        go_wp2_with fail
        go_ret
        exact ⟨by rw [HR.out]; rfl, HB2.out⟩
      · have HRK := Lib.hid hr
        have hd : decide (rk t.nm < rk s.nm) = false := decide_eq_false hr
        clear hr
        go_wp2_with fail
        go_quiet (fail)
        have HB1 := Lib.hid (below_drewN nq HB0.out)
        have hs1 := HS.out.keep HB1.out
        have ht1 := HT.out.keep HB1.out
        generalize wa.drewN nq = wb at HB1 hs1 ht1 ⊢
        clear x0 x1 x3 x4 y0 y1 y3 y4 hd
        obtain ⟨-, x0, x1, x3, x4, -⟩ := hs1
        obtain ⟨-, y0, y1, y3, y4, -⟩ := ht1
        rw [H1.out] at x1
        rw [H2.out] at y1
        rw [ndRank_fun H1.out] at x3
        rw [ndRank_fun H2.out] at y3
        by_cases hn : s.nm = t.nm
        · have hb := nm_beq_yes hn
          by_cases hl : s.ts.length = t.ts.length
          · have hlb : ((s.ts.length : Int) == (t.ts.length : Int)) = true := by rw [hl]; simp
            have HE : Hid (s.nm = t.nm ∧ s.ts.length = t.ts.length) := Lib.hid ⟨hn, hl⟩
            clear hn hl
            go_wp2_with fail
            go_quiet (fail)
            have HB2 := Lib.hid (below_drewN nq HB1.out)
            go_wp2_with fail
            refine (inOrder_any s t HH (.slice os s.ts.length cs) (.slice ot t.ts.length ct) b o b2 o2 _ (HS.out.keep HB2.out) (HT.out.keep HB2.out) HSB.out HTB.out hss hts H1.out H2.out HE.out.1 HE.out.2).mono ?_
            rintro e w2 ⟨rfl, hb2⟩
            have HB3 : Hid (Below w.heap.size w w2) := Lib.hid (HB2.out.trans (hb2.mono HB2.out.size))
            clear hb2
            go_wp2_with fail
            go_ret
            exact ⟨rfl, HB3.out⟩
          · have hlb : ((s.ts.length : Int) == (t.ts.length : Int)) = false := by rw [beq_eq_false_iff_ne]; omega
            have HR := Lib.hid (rel_other (rk := rk) H1.out (Int.not_lt.2 HRK.out) (fun h => hl h.2))
            clear hn hl
            go_wp2_with fail
            go_quiet (fail)
            have HB2 := Lib.hid (below_drewN nq HB1.out)
            go_wp2_with fail
            refine (HWI _ HB2.out).out.mono ?_
            rintro e w2 ⟨rfl, hb2⟩
            have HB3 : Hid (Below w.heap.size w w2) := Lib.hid (HB2.out.trans (hb2.mono HB2.out.size))
            clear hb2
            go_wp2_with fail
            go_ret
            exact ⟨by rw [HR.out]; rfl, HB3.out⟩
        · have hb := nm_beq_no hn
          have HR := Lib.hid (rel_other (rk := rk) H1.out (Int.not_lt.2 HRK.out) (fun h => hn h.1))
          clear hn
          go_wp2_with fail
          go_quiet (fail)
          have HB2 := Lib.hid (below_drewN nq HB1.out)
          go_wp2_with fail
          refine (HWI _ HB2.out).out.mono ?_
          rintro e w2 ⟨rfl, hb2⟩
          have HB3 : Hid (Below w.heap.size w w2) := Lib.hid (HB2.out.trans (hb2.mono HB2.out.size))
          clear hb2
          go_wp2_with fail
          go_ret
          exact ⟨by rw [HR.out]; rfl, HB3.out⟩
theorem cmp_any (rk : ByteArray → Int) (N : Nat) : CmpH rk N := by
  induction N with
  | zero => intro s t sv tv b o b2 o2 W h; omega
  | succ N ih =>
    intro s t sv tv b o b2 o2 W h hsb htb hss hts hs ht
    exact compare_step s t (Lib.hid (ih.mono (by omega))) sv tv b o b2 o2 W hs ht hsb htb hss hts
end Go.Proofs.Ytnomppdmhgefiaa
/- Package path: ranked. -/
namespace Go.Proofs.Ytnomppdmhgefiaa
open Go.RowKit

theorem cells_new5 (W : World) (a b c d f : Value) (e : TypeId) : ∀ j u, [a, b, c, d, f][j]? = some u → (W.alloc (.cells #[a, b, c, d, f] e)).cell? ((⟨W.heap.size, 0, none⟩ : Addr).add j) = some u := by
  intro j u hj
  rw [ad_add, Nat.zero_add]
  have h := cells_of' (heap_new_at W (.cells #[a, b, c, d, f] e) W.heap.size rfl) j
  rw [h, ← Array.getElem?_toList]
  exact hj
/-- the node of a term, in new memory -/
def NdRes (L : List Rk) (w : World) (t : Tm) (e : Ending) (w' : World) : Prop :=
  ∃ oa n c nv, e = .returned (.agg #[.string t.nm, .bool t.vr, .slice oa n c, .int .i64 (ndRank (rkB L) t), nv]) ∧ NdP (rkB L) (fun b => w.heap.size ≤ b) w' t.ts nv
set_option maxRecDepth 100000 in
set_option maxHeartbeats 4000000 in
theorem ranked_var (L : List Rk) (lv : Value) (t : Tm) (s : Value) (w : World) (hL : RksIs w.heap.size w L lv) (hv : t.vr = true) (hbare : t.bare) (hs : SlIs w.heap.size w t.ts s) :
    Calls Try.prog 23 #[lv, tmv t s] w fun e w' => NdRes L w t e w' ∧ Below w.heap.size w w' := by
  obtain ⟨oa, ca, rfl, -⟩ := hs.form
  obtain ⟨ol, cl, rfl, -, -⟩ := hL
  have H0 := Lib.hid (hbare.vr0 hv)
  go_enter Try.func23, Try.ntmps23
  rw [show tmv t (.slice oa t.ts.length ca) = .agg #[.string t.nm, .bool t.vr, .slice oa t.ts.length ca] from rfl, hv]
  go_wp2_with fail
  have hr : (((w.alloc (.cells #[.string t.nm, .bool true, .slice oa t.ts.length ca] 26)).alloc (.cells #[.string t.nm, .bool true, .slice oa t.ts.length ca, .int .i64 0, .slice none 0 0] 67)).alloc (.cells #[.string t.nm, .bool true, .slice oa t.ts.length ca, .int .i64 0, .slice none 0 0] 67)).heap[w.heap.size + 1]? = some (.cells #[.string t.nm, .bool true, .slice oa t.ts.length ca, .int .i64 0, .slice none 0 0] 67 (0, 0)) := (Below.heap_alloc _ _ _ (by simp)).trans (heap_new_at _ _ _ (by simp))
  obtain ⟨⟨q0, q1, q2, q3, q4⟩, -⟩ := box5 hr
  refine bodyPost_ret (v := .agg #[.string t.nm, .bool true, .slice oa t.ts.length ca, .int .i64 0, .slice none 0 0]) (by simp [results, Try.f23, go_sem, q0, q1, q2, q3, q4]) rfl ?_
  exact ⟨⟨_, _, _, _, by rw [ndRank_var hv, hv], by rw [H0.out]; exact .nil0⟩, by go_grown⟩

set_option maxRecDepth 100000 in
set_option maxHeartbeats 8000000 in
theorem ranked_any (L : List Rk) (lv : Value) (hLn : NmsOk L) (hLl : L.length ≤ 1048576) (t : Tm) : ∀ (s : Value) (w : World), RksIs w.heap.size w L lv → t.bare → SlIs w.heap.size w t.ts s → t.bulk ≤ 1048576 →
    Calls Try.prog 23 #[lv, tmv t s] w fun e w' => NdRes L w t e w' ∧ Below w.heap.size w w' := by
  induction t using Tm.ind with
  | h t ih =>
    intro s w hL hbare hs hb
    by_cases hv : t.vr = true
    · exact ranked_var L lv t s w hL hv hbare hs
    · have hv : t.vr = false := by simpa using hv
      obtain ⟨oa, ca, rfl, -⟩ := hs.form
      have hL' := hL
      obtain ⟨ol, cl, rfl, -, -⟩ := hL'
      obtain ⟨i0, hi, hz, hs1, hb1⟩ := info_parts infoNode
      have HI := Lib.hid hi
      have HZ := Lib.hid hz
      have HS1 := Lib.hid hs1
      have HB1 := Lib.hid hb1
      have htl : t.ts.length ≤ 1048576 := by have := Tm.length_sizes t.ts; have := Tm.size_bulk t; have := Tm.size_eq t; omega
      have IH := Lib.hid ih
      have HLL := Lib.hid hL
      have HSL := Lib.hid hs
      have HBK := Lib.hid hb
      have HBR := Lib.hid hbare
      have HLN := Lib.hid hLn
      have HRK := Lib.hid (ndRank_fun (rk := rkB L) hv)
      have HR := fun W1 (hW : Below w.heap.size w W1) => Lib.hid (rkRank_any L t.nm.data.toList (.slice ol L.length cl) W1 (hL.carry hW hW.size) hLl hLn)
      clear ih hL hs hb hi hz hs1 hb1 hbare
      go_enter Try.func23, Try.ntmps23
      rw [show tmv t (.slice oa t.ts.length ca) = .agg #[.string t.nm, .bool t.vr, .slice oa t.ts.length ca] from rfl, hv]
      go_wp2_with fail
      have hb0 : Below w.heap.size w (((w.alloc (.cells #[.string t.nm, .bool false, .slice oa t.ts.length ca] 26)).alloc (.cells #[.string ⟨#[]⟩, .bool false, .slice none 0 0, .int .i64 0, .slice none 0 0] 67)).alloc (.cells #[.string t.nm, .bool false, .slice oa t.ts.length ca, .int .i64 0, .slice none 0 0] 67)) := by go_grown
      have hr := (HR _ hb0).out
      rw [kb_key] at hr
      refine hr.mono ?_
      rintro e w1 ⟨rfl, hb1⟩
      have hret := (hb1.block (w.heap.size + 1) (by simp)).trans ((Below.heap_alloc _ _ _ (by simp)).trans (heap_new_at (w.alloc (.cells #[.string t.nm, .bool false, .slice oa t.ts.length ca] 26)) (.cells #[.string ⟨#[]⟩, .bool false, .slice none 0 0, .int .i64 0, .slice none 0 0] 67) _ (by simp)))
      have hout := (hb1.block (w.heap.size + 2) (by simp)).trans (heap_new_at _ (.cells #[.string t.nm, .bool false, .slice oa t.ts.length ca, .int .i64 0, .slice none 0 0] 67) _ (by simp))
      have hbox := (hb1.block w.heap.size (by simp; omega)).trans ((Below.heap_alloc _ _ _ (by simp; omega)).trans ((Below.heap_alloc _ _ _ (by simp)).trans (heap_new_at w (.cells #[.string t.nm, .bool false, .slice oa t.ts.length ca] 26) _ rfl)))
      have hout2 := set1 hout 3 (.int .i64 (rkOf L t.nm.data.toList))
      simp only [List.setIfInBounds_toArray, List.set_cons_zero, List.set_cons_succ] at hout2
      have HBW1 : Hid (Below w.heap.size w (w1.setCell ⟨w.heap.size + 2, 3, none⟩ (.int .i64 (rkOf L t.nm.data.toList)))) := Lib.hid ((hb0.trans (hb1.mono hb0.size)).setCell (p := ⟨w.heap.size + 2, 3, none⟩) (by show w.heap.size ≤ w.heap.size + 2; omega) _)
      have HST0 := Lib.hid (NpSt.start (rk := rkB L) (l := t.ts) HBW1.out hout2 ((Below.heap_setCell _ _ _ _ (by show w.heap.size + 1 ≠ w.heap.size + 2; omega)).trans hret))
      obtain ⟨⟨x0, x1, x2, x3, x4⟩, f0, f1, f2, f3, f4⟩ := box5 hout
      obtain ⟨⟨y0, y1, y2⟩, -⟩ := box3 hbox
      clear hb0 hb1 hret hout hbox hout2 hr
      go_wp2_with fail
      go_loopw [21] (fun i wr => ∃ (k : Nat) (v : Value) (ch : List (Tm × Value × Value)), k ≤ t.ts.length ∧ i = .int .i64 k ∧ Hid (NpSt (rkB L) w t.nm (.slice oa t.ts.length ca) (rkOf L t.nm.data.toList) t.ts k wr v ch)) (fun i _ => t.ts.length - (intOf i).toNat)
      case atStart => exact ⟨0, _, _, by omega, rfl, HST0⟩
      case round =>
        clear x0 x1 x2 x3 x4 f0 f1 f2 f3 f4 y0 y1 y2
        obtain ⟨k, v, ch, hk, rfl, HST⟩ := hrel
        have hst := HST.out
        have hzo := (Array.getElem?_eq_some_iff.1 hst.out).1
        by_cases hlt : k < t.ts.length
        · obtain ⟨b, o, u, su, rfl, hbb, hu, hum, hus, c1, c2, c3⟩ := (HSL.out.carry hst.low (Nat.le_refl _)).get (k := k) hlt
          obtain ⟨ou, cu, rfl, -⟩ := hus.form
          obtain ⟨ov, cv, rfl⟩ := ownsRow_shape hst.row
          have HCHL : Hid (ch.length = k) := Lib.hid (by have := congrArg List.length hst.terms; simp at this; omega)
          have HLOWA : Hid (Below wr.heap.size wr (wr.alloc (.cells #[.string u.nm, .bool u.vr, .slice ou u.ts.length cu] 26)).drew) := Lib.hid (by go_grown)
          have hub : u.bulk ≤ 1048576 := by have := Tm.bulk_mem hum; have := Tm.bulk_eq t; have := HBK.out; omega
          have hout := (Below.heap_alloc wr (.cells #[.string u.nm, .bool u.vr, .slice ou u.ts.length cu] 26) (w.heap.size + 2) (by omega)).trans hst.out
          obtain ⟨⟨x0, x1, x2, x3, x4⟩, f0, f1, f2, f3, f4⟩ := box5 hout
          have hown : ∀ j, (Value.slice ov ch.length cv).ownBlock = some j → w.heap.size + 3 ≤ j ∧ j < wr.heap.size := fun j hj => hst.row.lt j hj
          have HOWN := Lib.hid hown
          have HOUT := Lib.hid hout
          have HU := Lib.hid hu
          have hz := hst.low.size
          have hlow := hst.low
          have HLOW := Lib.hid hlow
          have IHu := fun W1 (hW : Below wr.heap.size wr W1) => Lib.hid (IH.out u hum _ W1 (HLL.out.carry (hlow.trans (hW.mono hz)) (by have := hW.size; omega)) (HBR.out.kids u hum) (hus.carry (B := W1) (hW.mono hz) (by have := hW.size; omega)) hub)
          clear hst hu hus hown hout hlow
          go_wp2_with fail
          have hxA := (box5 HOUT.out).1.2.2.2.2
          have HYA := Lib.hid (box3 (heap_new_at wr (.cells #[.string u.nm, .bool u.vr, .slice ou u.ts.length cu] 26) _ rfl)).1
          refine wp_region_noPanic ?_
          refine wp_region_held_drew (S := fun w' => w'.cell? ⟨wr.heap.size, 0, none⟩ = some (.string u.nm) ∧ w'.cell? ⟨wr.heap.size, 1, none⟩ = some (.bool u.vr) ∧ w'.cell? ⟨wr.heap.size, 2, none⟩ = some (.slice ou u.ts.length cu)) (by kernel_rfl) HYA.out (fun _ => ?_)
          simp only [List.size_toArray, List.length_cons, List.length_nil, Nat.reduceAdd]
          refine wpAnyH_take (i := 0) (v := ?_) (by simp only [List.getElem?_toArray, List.getElem?_cons_zero]; rfl) (by kernel_rfl) (by kernel_rfl) (by kernel_rfl) (fun _ _ _ h => h) (Or.inl ⟨by rfl, ?_⟩) HYA.out ?_
          case refine_2 => (intro ww hSw; obtain ⟨s1, s2, s3⟩ := hSw; go_simp; try with_reducible rfl)
          try simp only [Act.put, List.setIfInBounds_toArray, List.set_cons_zero, List.set_cons_succ]
          refine wpAnyH_take (i := 2) (v := ?_) (by simp only [List.getElem?_toArray, List.getElem?_cons_zero, List.getElem?_cons_succ]; rfl) (by kernel_rfl) (by kernel_rfl) (by kernel_rfl) (fun _ _ _ h => h) (Or.inl ⟨by rfl, ?_⟩) HYA.out ?_
          case refine_2 => (intro ww hSw; obtain ⟨s1, s2, s3⟩ := hSw; go_simp; try with_reducible rfl)
          try simp only [Act.put, List.setIfInBounds_toArray, List.set_cons_zero, List.set_cons_succ]
          refine wpAnyH_take (i := 3) (v := ?_) (by simp only [List.getElem?_toArray, List.getElem?_cons_zero, List.getElem?_cons_succ]; rfl) (by kernel_rfl) (by kernel_rfl) (by kernel_rfl) (fun _ _ _ h => h) (Or.inl ⟨by rfl, ?_⟩) HYA.out ?_
          case refine_2 => (intro ww hSw; obtain ⟨s1, s2, s3⟩ := hSw; go_simp; try with_reducible rfl)
          try simp only [Act.put, List.setIfInBounds_toArray, List.set_cons_zero, List.set_cons_succ]
          refine wpAnyH_ready (rs := [1, 4]) (by kernel_rfl) (by simp) ?_
          refine AllReadyH.cons (by simp only [List.getElem?_toArray, List.getElem?_cons_zero, List.getElem?_cons_succ]; rfl) (fun K' hK => ?_) ?_
          · go_simp
            refine hK.out _ _ HYA.out (fun _ => ?_)
            clear hK
            try simp only [Act.put, List.setIfInBounds_toArray, List.set_cons_zero, List.set_cons_succ]
            refine wpAnyH_ready (rs := [4]) (by kernel_rfl) (by simp) ?_
            refine AllReadyH.cons (by simp only [List.getElem?_toArray, List.getElem?_cons_zero, List.getElem?_cons_succ]; rfl) (fun K' hK => ?_) AllReadyH.nil
            go_simp
            refine (IHu _ HLOWA.out).out.mono ?_
            rintro e w4 ⟨⟨o3, n3, c3, sl4, rfl, hsl4⟩, hb4⟩
            obtain ⟨o4, c4, rfl⟩ := hsl4.form
            have hout4 := (hb4.block (w.heap.size + 2) (by simp; omega)).trans HOUT.out
            have hbx4 := (hb4.block wr.heap.size (by simp)).trans (heap_new_at wr (.cells #[.string u.nm, .bool u.vr, .slice ou u.ts.length cu] 26) _ rfl)
            obtain ⟨⟨x0, x1, x2, x3, x4⟩, f0, f1, f2, f3, f4⟩ := box5 hout4
            have HY4 := Lib.hid (box3 hbx4).1
            have HSL4 := Lib.hid hsl4
            have HB4 := Lib.hid hb4
            have HOUT4 := Lib.hid hout4
            have HBX4 := Lib.hid hbx4
            have HZ4 := Lib.hid (show wr.heap.size < w4.heap.size from (Array.getElem?_eq_some_iff.1 hbx4).1)
            clear hsl4 hb4 hout4 hbx4
            refine hK.out _ _ HY4.out (fun _ => ?_)
            clear hK
            try simp only [Act.put, List.setIfInBounds_toArray, List.set_cons_zero, List.set_cons_succ]
            refine wpAnyH_ready (rs := [5]) (by kernel_rfl) (by simp) ?_
            refine AllReadyH.cons (by simp only [List.getElem?_toArray, List.getElem?_cons_zero, List.getElem?_cons_succ]; rfl) (fun K' hK => ?_) AllReadyH.nil
            go_simp
            have hy5 := (box3 ((Below.heap_alloc w4 (.cells #[.string u.nm, .bool u.vr, .slice o3 n3 c3, .int .i64 (ndRank (rkB L) u), .slice o4 u.ts.length c4] 67) _ HZ4.out).trans HBX4.out)).1
            have hx5 := (box5 ((Below.heap_alloc w4 (.cells #[.string u.nm, .bool u.vr, .slice o3 n3 c3, .int .i64 (ndRank (rkB L) u), .slice o4 u.ts.length c4] 67) (w.heap.size + 2) (by have := HZ4.out; omega)).trans HOUT4.out)).1.2.2.2.2
            have HY5 := Lib.hid hy5
            clear hy5
            refine hK.out _ _ HY5.out (fun _ => ?_)
            clear hK
            try simp only [Act.put, List.setIfInBounds_toArray, List.set_cons_zero, List.set_cons_succ]
            refine wpAnyH_ready (rs := [6]) (by kernel_rfl) (by simp) ?_
            refine AllReadyH.cons (by simp only [List.getElem?_toArray, List.getElem?_cons_zero, List.getElem?_cons_succ]; rfl) (fun K' hK => ?_) AllReadyH.nil
            refine step_append_opt rfl (.tmp 26) (.tmp 30) 65 rfl (w.heap.size + 3) 67 i0 (.agg #[.string ⟨#[]⟩, .bool false, .slice none 0 0, .int .i64 0, .slice none 0 0]) 5 80 Try.underlying65 HI.out HZ.out HS1.out HB1.out rfl (by decide) (.slice ov ch.length cv) ch.length (ndCells (rkB L) ch) rfl (HST.out.row.kept (below_grown (HLOWA.out.trans ((HB4.out.mono (by simp)).alloc (Nat.le_of_lt HZ4.out) _))) (own_none _)) (some ⟨w4.heap.size, 0, none⟩) 1 1 [.string u.nm, .bool u.vr, .slice o3 n3 c3, .int .i64 (ndRank (rkB L) u), .slice o4 u.ts.length c4] rfl rfl (fun h => by cases h) (fun ad had => by cases had; exact cells_new5 _ _ _ _ _ _ _) (by simp [Value.oneCell']) (by have := HCHL.out; unfold maxLen; omega) (by have := HCHL.out; omega) (by have := HLOW.out.size; have := HZ4.out; simp; omega) ?_
            intro v5 w5 ho5 hg5 hat5
            obtain ⟨o5, c5, rfl⟩ := ownsRow_shape ho5
            have hout5 := (hg5.block (w.heap.size + 2) (by have := HZ4.out; simp; omega) (fun e => by have := (HOWN.out _ e.symm).1; omega)).trans ((Below.heap_alloc _ _ _ (by have := HZ4.out; omega)).trans HOUT4.out)
            have hbx5 := (hg5.block wr.heap.size (by have := HZ4.out; simp; omega) (fun e => by have := (HOWN.out _ e.symm).2; omega)).trans ((Below.heap_alloc _ _ _ HZ4.out).trans HBX4.out)
            obtain ⟨⟨x0, x1, x2, x3, x4⟩, f0, f1, f2, f3, f4⟩ := box5 hout5
            have HBX5 := Lib.hid hbx5
            have HY6 := Lib.hid (box3 hbx5).1
            have HST5 := Lib.hid (HST.out.step HU.out HLOWA.out HB4.out HSL4.out ((Below.refl _ w4).alloc (Nat.le_refl _) _) hg5 ho5 hat5)
            clear ho5 hg5 hat5 hout5 hbx5
            refine hK.out _ _ HY6.out (fun _ => ?_)
            clear hK
            try simp only [Act.put, List.setIfInBounds_toArray, List.set_cons_zero, List.set_cons_succ]
            refine wpAnyH_take (i := 7) (v := ?_) (by simp only [List.getElem?_toArray, List.getElem?_cons_zero, List.getElem?_cons_succ]; rfl) (by kernel_rfl) (by kernel_rfl) (by kernel_rfl) (fun _ _ _ h => h) (Or.inl ⟨by rfl, ?_⟩) HY6.out ?_
            case refine_2 => (intro ww hSw; obtain ⟨s1, s2, s3⟩ := hSw; go_simp; try with_reducible rfl)
            try simp only [Act.put, List.setIfInBounds_toArray, List.set_cons_zero, List.set_cons_succ]
            refine wpAnyH_ready (rs := [8]) (by kernel_rfl) (by simp) ?_
            refine AllReadyH.cons (by simp only [List.getElem?_toArray, List.getElem?_cons_zero, List.getElem?_cons_succ]; rfl) (fun K' hK => ?_) AllReadyH.nil
            go_simp
            have HY7 := Lib.hid (box3 ((Below.heap_setCell w5 ⟨w.heap.size + 2, 4, none⟩ (.slice o5 (ch.length + 1) c5) wr.heap.size (by show wr.heap.size ≠ w.heap.size + 2; omega)).trans HBX5.out)).1
            refine hK.out _ _ HY7.out (fun _ => ?_)
            clear hK
            try simp only [Act.put, List.setIfInBounds_toArray, List.set_cons_zero, List.set_cons_succ]
            refine wpAnyH_done (by kernel_rfl) ?_ _
            refine NoPanic.normal ?_
            go_wp2_with fail
            exact ⟨⟨k + 1, _, _, by omega, by go_num, HST5⟩, by simp [intOf]; omega⟩
          · refine AllReadyH.cons (by simp only [List.getElem?_toArray, List.getElem?_cons_zero, List.getElem?_cons_succ]; rfl) (fun K' hK => ?_) AllReadyH.nil
            go_simp
            refine (IHu _ HLOWA.out).out.mono ?_
            rintro e w4 ⟨⟨o3, n3, c3, sl4, rfl, hsl4⟩, hb4⟩
            obtain ⟨o4, c4, rfl⟩ := hsl4.form
            have hout4 := (hb4.block (w.heap.size + 2) (by simp; omega)).trans HOUT.out
            have hbx4 := (hb4.block wr.heap.size (by simp)).trans (heap_new_at wr (.cells #[.string u.nm, .bool u.vr, .slice ou u.ts.length cu] 26) _ rfl)
            obtain ⟨⟨x0, x1, x2, x3, x4⟩, f0, f1, f2, f3, f4⟩ := box5 hout4
            have HY4 := Lib.hid (box3 hbx4).1
            have HSL4 := Lib.hid hsl4
            have HB4 := Lib.hid hb4
            have HOUT4 := Lib.hid hout4
            have HBX4 := Lib.hid hbx4
            have HZ4 := Lib.hid (show wr.heap.size < w4.heap.size from (Array.getElem?_eq_some_iff.1 hbx4).1)
            clear hsl4 hb4 hout4 hbx4
            refine hK.out _ _ HY4.out (fun _ => ?_)
            clear hK
            try simp only [Act.put, List.setIfInBounds_toArray, List.set_cons_zero, List.set_cons_succ]
            refine wpAnyH_ready (rs := [1, 5]) (by kernel_rfl) (by simp) ?_
            refine AllReadyH.cons (by simp only [List.getElem?_toArray, List.getElem?_cons_zero, List.getElem?_cons_succ]; rfl) (fun K' hK => ?_) ?_
            · go_simp
              refine hK.out _ _ HY4.out (fun _ => ?_)
              clear hK
              try simp only [Act.put, List.setIfInBounds_toArray, List.set_cons_zero, List.set_cons_succ]
              refine wpAnyH_ready (rs := [5]) (by kernel_rfl) (by simp) ?_
              refine AllReadyH.cons (by simp only [List.getElem?_toArray, List.getElem?_cons_zero, List.getElem?_cons_succ]; rfl) (fun K' hK => ?_) AllReadyH.nil
              go_simp
              have hy5 := (box3 ((Below.heap_alloc w4 (.cells #[.string u.nm, .bool u.vr, .slice o3 n3 c3, .int .i64 (ndRank (rkB L) u), .slice o4 u.ts.length c4] 67) _ HZ4.out).trans HBX4.out)).1
              have hx5 := (box5 ((Below.heap_alloc w4 (.cells #[.string u.nm, .bool u.vr, .slice o3 n3 c3, .int .i64 (ndRank (rkB L) u), .slice o4 u.ts.length c4] 67) (w.heap.size + 2) (by have := HZ4.out; omega)).trans HOUT4.out)).1.2.2.2.2
              have HY5 := Lib.hid hy5
              clear hy5
              refine hK.out _ _ HY5.out (fun _ => ?_)
              clear hK
              try simp only [Act.put, List.setIfInBounds_toArray, List.set_cons_zero, List.set_cons_succ]
              refine wpAnyH_ready (rs := [6]) (by kernel_rfl) (by simp) ?_
              refine AllReadyH.cons (by simp only [List.getElem?_toArray, List.getElem?_cons_zero, List.getElem?_cons_succ]; rfl) (fun K' hK => ?_) AllReadyH.nil
              refine step_append_opt rfl (.tmp 26) (.tmp 30) 65 rfl (w.heap.size + 3) 67 i0 (.agg #[.string ⟨#[]⟩, .bool false, .slice none 0 0, .int .i64 0, .slice none 0 0]) 5 80 Try.underlying65 HI.out HZ.out HS1.out HB1.out rfl (by decide) (.slice ov ch.length cv) ch.length (ndCells (rkB L) ch) rfl (HST.out.row.kept (below_grown (HLOWA.out.trans ((HB4.out.mono (by simp)).alloc (Nat.le_of_lt HZ4.out) _))) (own_none _)) (some ⟨w4.heap.size, 0, none⟩) 1 1 [.string u.nm, .bool u.vr, .slice o3 n3 c3, .int .i64 (ndRank (rkB L) u), .slice o4 u.ts.length c4] rfl rfl (fun h => by cases h) (fun ad had => by cases had; exact cells_new5 _ _ _ _ _ _ _) (by simp [Value.oneCell']) (by have := HCHL.out; unfold maxLen; omega) (by have := HCHL.out; omega) (by have := HLOW.out.size; have := HZ4.out; simp; omega) ?_
              intro v5 w5 ho5 hg5 hat5
              obtain ⟨o5, c5, rfl⟩ := ownsRow_shape ho5
              have hout5 := (hg5.block (w.heap.size + 2) (by have := HZ4.out; simp; omega) (fun e => by have := (HOWN.out _ e.symm).1; omega)).trans ((Below.heap_alloc _ _ _ (by have := HZ4.out; omega)).trans HOUT4.out)
              have hbx5 := (hg5.block wr.heap.size (by have := HZ4.out; simp; omega) (fun e => by have := (HOWN.out _ e.symm).2; omega)).trans ((Below.heap_alloc _ _ _ HZ4.out).trans HBX4.out)
              obtain ⟨⟨x0, x1, x2, x3, x4⟩, f0, f1, f2, f3, f4⟩ := box5 hout5
              have HBX5 := Lib.hid hbx5
              have HY6 := Lib.hid (box3 hbx5).1
              have HST5 := Lib.hid (HST.out.step HU.out HLOWA.out HB4.out HSL4.out ((Below.refl _ w4).alloc (Nat.le_refl _) _) hg5 ho5 hat5)
              clear ho5 hg5 hat5 hout5 hbx5
              refine hK.out _ _ HY6.out (fun _ => ?_)
              clear hK
              try simp only [Act.put, List.setIfInBounds_toArray, List.set_cons_zero, List.set_cons_succ]
              refine wpAnyH_take (i := 7) (v := ?_) (by simp only [List.getElem?_toArray, List.getElem?_cons_zero, List.getElem?_cons_succ]; rfl) (by kernel_rfl) (by kernel_rfl) (by kernel_rfl) (fun _ _ _ h => h) (Or.inl ⟨by rfl, ?_⟩) HY6.out ?_
              case refine_2 => (intro ww hSw; obtain ⟨s1, s2, s3⟩ := hSw; go_simp; try with_reducible rfl)
              try simp only [Act.put, List.setIfInBounds_toArray, List.set_cons_zero, List.set_cons_succ]
              refine wpAnyH_ready (rs := [8]) (by kernel_rfl) (by simp) ?_
              refine AllReadyH.cons (by simp only [List.getElem?_toArray, List.getElem?_cons_zero, List.getElem?_cons_succ]; rfl) (fun K' hK => ?_) AllReadyH.nil
              go_simp
              have HY7 := Lib.hid (box3 ((Below.heap_setCell w5 ⟨w.heap.size + 2, 4, none⟩ (.slice o5 (ch.length + 1) c5) wr.heap.size (by show wr.heap.size ≠ w.heap.size + 2; omega)).trans HBX5.out)).1
              refine hK.out _ _ HY7.out (fun _ => ?_)
              clear hK
              try simp only [Act.put, List.setIfInBounds_toArray, List.set_cons_zero, List.set_cons_succ]
              refine wpAnyH_done (by kernel_rfl) ?_ _
              refine NoPanic.normal ?_
              go_wp2_with fail
              exact ⟨⟨k + 1, _, _, by omega, by go_num, HST5⟩, by simp [intOf]; omega⟩
            · refine AllReadyH.cons (by simp only [List.getElem?_toArray, List.getElem?_cons_zero, List.getElem?_cons_succ]; rfl) (fun K' hK => ?_) AllReadyH.nil
              go_simp
              have hy5 := (box3 ((Below.heap_alloc w4 (.cells #[.string u.nm, .bool u.vr, .slice o3 n3 c3, .int .i64 (ndRank (rkB L) u), .slice o4 u.ts.length c4] 67) _ HZ4.out).trans HBX4.out)).1
              have hx5 := (box5 ((Below.heap_alloc w4 (.cells #[.string u.nm, .bool u.vr, .slice o3 n3 c3, .int .i64 (ndRank (rkB L) u), .slice o4 u.ts.length c4] 67) (w.heap.size + 2) (by have := HZ4.out; omega)).trans HOUT4.out)).1.2.2.2.2
              have HY5 := Lib.hid hy5
              clear hy5
              refine hK.out _ _ HY5.out (fun _ => ?_)
              clear hK
              try simp only [Act.put, List.setIfInBounds_toArray, List.set_cons_zero, List.set_cons_succ]
              refine wpAnyH_ready (rs := [1]) (by kernel_rfl) (by simp) ?_
              refine AllReadyH.cons (by simp only [List.getElem?_toArray, List.getElem?_cons_zero, List.getElem?_cons_succ]; rfl) (fun K' hK => ?_) AllReadyH.nil
              go_simp
              refine hK.out _ _ HY5.out (fun _ => ?_)
              clear hK
              try simp only [Act.put, List.setIfInBounds_toArray, List.set_cons_zero, List.set_cons_succ]
              refine wpAnyH_ready (rs := [6]) (by kernel_rfl) (by simp) ?_
              refine AllReadyH.cons (by simp only [List.getElem?_toArray, List.getElem?_cons_zero, List.getElem?_cons_succ]; rfl) (fun K' hK => ?_) AllReadyH.nil
              refine step_append_opt rfl (.tmp 26) (.tmp 30) 65 rfl (w.heap.size + 3) 67 i0 (.agg #[.string ⟨#[]⟩, .bool false, .slice none 0 0, .int .i64 0, .slice none 0 0]) 5 80 Try.underlying65 HI.out HZ.out HS1.out HB1.out rfl (by decide) (.slice ov ch.length cv) ch.length (ndCells (rkB L) ch) rfl (HST.out.row.kept (below_grown (HLOWA.out.trans ((HB4.out.mono (by simp)).alloc (Nat.le_of_lt HZ4.out) _))) (own_none _)) (some ⟨w4.heap.size, 0, none⟩) 1 1 [.string u.nm, .bool u.vr, .slice o3 n3 c3, .int .i64 (ndRank (rkB L) u), .slice o4 u.ts.length c4] rfl rfl (fun h => by cases h) (fun ad had => by cases had; exact cells_new5 _ _ _ _ _ _ _) (by simp [Value.oneCell']) (by have := HCHL.out; unfold maxLen; omega) (by have := HCHL.out; omega) (by have := HLOW.out.size; have := HZ4.out; simp; omega) ?_
              intro v5 w5 ho5 hg5 hat5
              obtain ⟨o5, c5, rfl⟩ := ownsRow_shape ho5
              have hout5 := (hg5.block (w.heap.size + 2) (by have := HZ4.out; simp; omega) (fun e => by have := (HOWN.out _ e.symm).1; omega)).trans ((Below.heap_alloc _ _ _ (by have := HZ4.out; omega)).trans HOUT4.out)
              have hbx5 := (hg5.block wr.heap.size (by have := HZ4.out; simp; omega) (fun e => by have := (HOWN.out _ e.symm).2; omega)).trans ((Below.heap_alloc _ _ _ HZ4.out).trans HBX4.out)
              obtain ⟨⟨x0, x1, x2, x3, x4⟩, f0, f1, f2, f3, f4⟩ := box5 hout5
              have HBX5 := Lib.hid hbx5
              have HY6 := Lib.hid (box3 hbx5).1
              have HST5 := Lib.hid (HST.out.step HU.out HLOWA.out HB4.out HSL4.out ((Below.refl _ w4).alloc (Nat.le_refl _) _) hg5 ho5 hat5)
              clear ho5 hg5 hat5 hout5 hbx5
              refine hK.out _ _ HY6.out (fun _ => ?_)
              clear hK
              try simp only [Act.put, List.setIfInBounds_toArray, List.set_cons_zero, List.set_cons_succ]
              refine wpAnyH_take (i := 7) (v := ?_) (by simp only [List.getElem?_toArray, List.getElem?_cons_zero, List.getElem?_cons_succ]; rfl) (by kernel_rfl) (by kernel_rfl) (by kernel_rfl) (fun _ _ _ h => h) (Or.inl ⟨by rfl, ?_⟩) HY6.out ?_
              case refine_2 => (intro ww hSw; obtain ⟨s1, s2, s3⟩ := hSw; go_simp; try with_reducible rfl)
              try simp only [Act.put, List.setIfInBounds_toArray, List.set_cons_zero, List.set_cons_succ]
              refine wpAnyH_ready (rs := [8]) (by kernel_rfl) (by simp) ?_
              refine AllReadyH.cons (by simp only [List.getElem?_toArray, List.getElem?_cons_zero, List.getElem?_cons_succ]; rfl) (fun K' hK => ?_) AllReadyH.nil
              go_simp
              have HY7 := Lib.hid (box3 ((Below.heap_setCell w5 ⟨w.heap.size + 2, 4, none⟩ (.slice o5 (ch.length + 1) c5) wr.heap.size (by show wr.heap.size ≠ w.heap.size + 2; omega)).trans HBX5.out)).1
              refine hK.out _ _ HY7.out (fun _ => ?_)
              clear hK
              try simp only [Act.put, List.setIfInBounds_toArray, List.set_cons_zero, List.set_cons_succ]
              refine wpAnyH_done (by kernel_rfl) ?_ _
              refine NoPanic.normal ?_
              go_wp2_with fail
              exact ⟨⟨k + 1, _, _, by omega, by go_num, HST5⟩, by simp [intOf]; omega⟩
        · obtain rfl : k = t.ts.length := by omega
          obtain ⟨ov, cv, rfl⟩ := ownsRow_shape hst.row
          have hlow := hst.low
          have hrow := hst.row
          have hkids := hst.kids
          have hterms := hst.terms
          rw [List.take_length] at hterms
          have hres : NdP (rkB L) (fun b => w.heap.size + 3 ≤ b) wr t.ts (.slice ov ch.length cv) := by
            rw [← hterms]
            exact NdP.ofRow hrow (fun b hb => hb) (fun c hc => (hkids c hc).carry fun b hb => ⟨rfl, hb.1⟩)
          obtain ⟨⟨x0, x1, x2, x3, x4⟩, f0, f1, f2, f3, f4⟩ := box5 hst.out
          obtain ⟨⟨y0, y1, y2, y3, y4⟩, g0, g1, g2, g3, g4⟩ := box5 hst.ret
          have HRET := Lib.hid hst.ret
          have HRES := Lib.hid hres
          have HLOW := Lib.hid hlow
          clear hst hlow hrow hkids hterms hres
          go_wp2_with fail
          have hq := box5_set HRET.out (.string t.nm) (.bool false) (.slice oa t.ts.length ca) (.int .i64 (rkOf L t.nm.data.toList)) (.slice ov ch.length cv)
          obtain ⟨⟨q0, q1, q2, q3, q4⟩, -⟩ := box5 hq
          have hbf := below_set5 HLOW.out (b := w.heap.size + 1) (by omega) (.string t.nm) (.bool false) (.slice oa t.ts.length ca) (.int .i64 (rkOf L t.nm.data.toList)) (.slice ov ch.length cv)
          refine bodyPost_ret (v := .agg #[.string t.nm, .bool false, .slice oa t.ts.length ca, .int .i64 (rkOf L t.nm.data.toList), .slice ov ch.length cv]) (by simp [results, Try.f23, go_sem, q0, q1, q2, q3, q4]) rfl ?_
          exact ⟨⟨_, _, _, _, by rw [HRK.out, hv]; rfl, HRES.out.carry fun b hb => ⟨heap_set5 _ _ _ _ _ _ _ _ (by omega), by omega⟩⟩, hbf⟩
end Go.Proofs.Ytnomppdmhgefiaa
/- Merged: Isg, Grt. -/
/- Package path: isGreater, Greater. -/
namespace Go.Proofs.Ytnomppdmhgefiaa
open Go.RowKit

/-- the node of a term as a value -/
def NdV (rk : ByteArray → Int) (p : Nat → Prop) (W : World) (t : Tm) (v : Value) : Prop := ∃ oa n c nv, v = .agg #[.string t.nm, .bool t.vr, .slice oa n c, .int .i64 (ndRank rk t), nv] ∧ NdP rk p W t.ts nv
/-- the box of a node -/
def NdB (rk : ByteArray → Int) (p : Nat → Prop) (W : World) (b : Nat) (t : Tm) : Prop := ∃ oa n c nv, W.heap[b]? = some (.cells #[.string t.nm, .bool t.vr, .slice oa n c, .int .i64 (ndRank rk t), nv] 67 (0, 0)) ∧ NdP rk p W t.ts nv
def zeroNd : Obj := .cells #[.string ⟨#[]⟩, .bool false, .slice none 0 0, .int .i64 0, .slice none 0 0] 67 (0, 0)
/-- blocks that are not the variables' -/
def bOk (f : Nat → Bool) (W : World) (v7 v8 : Value) (b : Nat) : Prop := b < W.heap.size ∧ (f 6 = true → v7 ≠ ptr b) ∧ (f 7 = true → v8 ≠ ptr b)
/-- what lies between the region's operations -/
structure IgI (rk : ByteArray → Int) (w0 : World) (lv : Value) (s t : Tm) (sv tv : Value) (f : Nat → Bool) (w : World) (v7 v8 v9 v10 v11 v12 v13 v14 : Value) : Prop where
  low : Below w0.heap.size w0 w
  bs : w.heap[w0.heap.size]? = some (.cells #[.string s.nm, .bool s.vr, sv] 26 (0, 0))
  bt : w.heap[w0.heap.size + 1]? = some (.cells #[.string t.nm, .bool t.vr, tv] 26 (0, 0))
  f0 : f 0 = true → v9 = lv
  f1 : f 1 = true → v10 = .agg #[.string s.nm, .bool s.vr, sv]
  f2 : f 2 = true → NdV rk (bOk f w v7 v8) w s v11
  f3 : f 3 = true → v12 = lv
  f4 : f 4 = true → v13 = .agg #[.string t.nm, .bool t.vr, tv]
  f5 : f 5 = true → NdV rk (bOk f w v7 v8) w t v14
  f6 : f 6 = true → ∃ p, v7 = ptr p ∧ w0.heap.size + 2 ≤ p ∧ p < w.heap.size ∧ (f 8 = false → w.heap[p]? = some zeroNd) ∧ (f 8 = true → NdB rk (bOk f w v7 v8) w p s)
  f7 : f 7 = true → ∃ p, v8 = ptr p ∧ w0.heap.size + 2 ≤ p ∧ p < w.heap.size ∧ (f 9 = false → w.heap[p]? = some zeroNd) ∧ (f 9 = true → NdB rk (bOk f w v7 v8) w p t)
  ne : f 6 = true → f 7 = true → v7 ≠ v8
  o8 : f 8 = true → f 6 = true ∧ f 7 = true
  o9 : f 9 = true → f 7 = true ∧ f 8 = true
theorem NdV.keep {rk : ByteArray → Int} {f : Nat → Bool} {A W : World} {v7 v8 v : Value} {t : Tm} (h : NdV rk (bOk f A v7 v8) A t v) (hb : Below A.heap.size A W) : NdV rk (bOk f W v7 v8) W t v := by
  obtain ⟨oa, n, c, nv, rfl, h⟩ := h
  exact ⟨oa, n, c, nv, rfl, h.carry fun b hbb => ⟨hb.block b hbb.1, Nat.lt_of_lt_of_le hbb.1 hb.size, hbb.2⟩⟩
theorem NdB.keep {rk : ByteArray → Int} {f : Nat → Bool} {A W : World} {v7 v8 : Value} {b : Nat} {t : Tm} (h : NdB rk (bOk f A v7 v8) A b t) (hb : Below A.heap.size A W) : NdB rk (bOk f W v7 v8) W b t := by
  obtain ⟨oa, n, c, nv, h1, h⟩ := h
  exact ⟨oa, n, c, nv, (hb.block b (Array.getElem?_eq_some_iff.1 h1).1).trans h1, h.carry fun b hbb => ⟨hb.block b hbb.1, Nat.lt_of_lt_of_le hbb.1 hb.size, hbb.2⟩⟩
/-- other conditions on the blocks -/
theorem NdV.weak {rk : ByteArray → Int} {p q : Nat → Prop} {A W : World} {t : Tm} {v : Value} (h : NdV rk p A t v) (hpq : ∀ b, p b → W.heap[b]? = A.heap[b]? ∧ q b) : NdV rk q W t v := by
  obtain ⟨oa, n, c, nv, h1, h⟩ := h
  exact ⟨oa, n, c, nv, h1, h.carry hpq⟩
theorem NdB.weak {rk : ByteArray → Int} {p q : Nat → Prop} {A W : World} {b : Nat} {t : Tm} (h : NdB rk p A b t) (he : W.heap[b]? = A.heap[b]?) (hpq : ∀ b, p b → W.heap[b]? = A.heap[b]? ∧ q b) : NdB rk q W b t := by
  obtain ⟨oa, n, c, nv, h1, h⟩ := h
  exact ⟨oa, n, c, nv, he.trans h1, h.carry hpq⟩
theorem IgI.keep {rk : ByteArray → Int} {w0 A W : World} {lv : Value} {s t : Tm} {sv tv : Value} {f : Nat → Bool} {v7 v8 v9 v10 v11 v12 v13 v14 : Value} (h : IgI rk w0 lv s t sv tv f A v7 v8 v9 v10 v11 v12 v13 v14) (hb : Below A.heap.size A W) : IgI rk w0 lv s t sv tv f W v7 v8 v9 v10 v11 v12 v13 v14 :=
  ⟨h.low.trans (hb.mono h.low.size), (hb.block _ (Array.getElem?_eq_some_iff.1 h.bs).1).trans h.bs, (hb.block _ (Array.getElem?_eq_some_iff.1 h.bt).1).trans h.bt, h.f0, h.f1, fun k => (h.f2 k).keep hb, h.f3, h.f4, fun k => (h.f5 k).keep hb,
    fun k => by obtain ⟨p, h1, h2, h3, h4, h5⟩ := h.f6 k; exact ⟨p, h1, h2, Nat.lt_of_lt_of_le h3 hb.size, fun e => (hb.block p h3).trans (h4 e), fun e => (h5 e).keep hb⟩,
    fun k => by obtain ⟨p, h1, h2, h3, h4, h5⟩ := h.f7 k; exact ⟨p, h1, h2, Nat.lt_of_lt_of_le h3 hb.size, fun e => (hb.block p h3).trans (h4 e), fun e => (h5 e).keep hb⟩, h.ne, h.o8, h.o9⟩
/-- the invariant -/
def IgInv (rk : ByteArray → Int) (w0 : World) (lv : Value) (s t : Tm) (sv tv : Value) (f : Nat → Bool) (a : Act) (w : World) : Prop :=
  ∃ v7 v8 v9 v10 v11 v12 v13 v14, a = { tmps := #[lv, .agg #[.string s.nm, .bool s.vr, sv], .agg #[.string t.nm, .bool t.vr, tv], undef, .pointer (some ⟨w0.heap.size, 0, none⟩), .pointer (some ⟨w0.heap.size + 1, 0, none⟩), .bool false, v7, v8, v9, v10, v11, v12, v13, v14, undef, undef], defers := [] } ∧
    IgI rk w0 lv s t sv tv f w v7 v8 v9 v10 v11 v12 v13 v14
theorem NdB.at {rk : ByteArray → Int} {p : Nat → Prop} {W : World} {b : Nat} {t : Tm} (h : NdB rk p W b t) (hp : ∀ b, p b → b < W.heap.size) : ∃ s, NdW rk W b 0 t s := by
  obtain ⟨oa, n, c, nv, h1, h⟩ := h
  obtain ⟨⟨c0, c1, c2, c3, c4⟩, -⟩ := box5 h1
  exact ⟨nv, (Array.getElem?_eq_some_iff.1 h1).1, c0, c1, c3, c4, h.carry fun b hb => ⟨rfl, hp b hb⟩⟩
set_option maxRecDepth 100000 in
set_option maxHeartbeats 8000000 in
theorem isGreater_any (L : List Rk) (lv : Value) (hLn : NmsOk L) (hLl : L.length ≤ 1048576) (s t : Tm) (sv tv : Value) (w : World) (hL : RksIs w.heap.size w L lv) (hs : SlIs w.heap.size w s.ts sv) (ht : SlIs w.heap.size w t.ts tv)
    (hsb : s.bare) (htb : t.bare) (hbs : s.bulk ≤ 1048576) (hbt : t.bulk ≤ 1048576) :
    Calls Try.prog 10 #[lv, tmv s sv, tmv t tv] w fun e w' => e = .returned (.bool (rel (rkB L) s t == 2)) ∧ Below w.heap.size w w' := by
  obtain ⟨os, cs, rfl, -⟩ := hs.form
  obtain ⟨ot, ct, rfl, -⟩ := ht.form
  have hL' := hL
  obtain ⟨ol, cl, rfl, -, -⟩ := hL'
  have HR1 : Hid (∀ W, Below w.heap.size w W → Calls Try.prog 23 #[.slice ol L.length cl, .agg #[.string s.nm, .bool s.vr, .slice os s.ts.length cs]] W fun e w' => NdRes L W s e w' ∧ Below W.heap.size W w') := Lib.hid fun W hW => ranked_any L _ hLn hLl s _ W (hL.carry hW hW.size) hsb (hs.carry hW hW.size) hbs
  have HR2 : Hid (∀ W, Below w.heap.size w W → Calls Try.prog 23 #[.slice ol L.length cl, .agg #[.string t.nm, .bool t.vr, .slice ot t.ts.length ct]] W fun e w' => NdRes L W t e w' ∧ Below W.heap.size W w') := Lib.hid fun W hW => ranked_any L _ hLn hLl t _ W (hL.carry hW hW.size) htb (ht.carry hW hW.size) hbt
  have hsz := Tm.size_bulk s
  have htz := Tm.size_bulk t
  have HSB := Lib.hid hsb
  have HTB := Lib.hid htb
  clear hL hs ht hsb htb
  go_enter Try.func10, Try.ntmps10
  rw [show tmv s (.slice os s.ts.length cs) = .agg #[.string s.nm, .bool s.vr, .slice os s.ts.length cs] from rfl, show tmv t (.slice ot t.ts.length ct) = .agg #[.string t.nm, .bool t.vr, .slice ot t.ts.length ct] from rfl]
  go_wp2_with fail
  have hb0 : Below w.heap.size w ((w.alloc (.cells #[.string s.nm, .bool s.vr, .slice os s.ts.length cs] 26)).alloc (.cells #[.string t.nm, .bool t.vr, .slice ot t.ts.length ct] 26)) := by go_grown
  refine wp_region_inv (IgInv (rkB L) w (.slice ol L.length cl) s t (.slice os s.ts.length cs) (.slice ot t.ts.length ct)) (by kernel_rfl) (by kernel_rfl) ?h0 ?hend ?hstep
  case h0 =>
    exact ⟨_, _, _, _, _, _, _, _, rfl, hb0.drew, (Below.heap_alloc _ _ _ (by simp)).trans (heap_new_at _ _ _ rfl), heap_new_at _ _ _ (by simp), nofun, nofun, nofun, nofun, nofun, nofun, nofun, nofun, nofun, nofun, nofun⟩
  case hstep =>
    rintro i o ho f a W ⟨v7, v8, v9, v10, v11, v12, v13, v14, rfl, h⟩ hfi hd K' hK
    have HI := Lib.hid h
    match i, ho with
    | 0, ho =>
      cases ho
      go_simp
      exact hK.out _ _ ⟨v7, v8, _, v10, v11, v12, v13, v14, rfl, h.low, h.bs, h.bt, fun _ => rfl, h.f1, h.f2, h.f3, h.f4, h.f5, h.f6, h.f7, h.ne, h.o8, h.o9⟩
    | 1, ho =>
      cases ho
      obtain ⟨⟨c0, c1, c2⟩, -⟩ := box3 h.bs
      clear h
      go_simp
      exact hK.out _ _ ⟨v7, v8, v9, _, v11, v12, v13, v14, rfl, HI.out.low, HI.out.bs, HI.out.bt, HI.out.f0, fun _ => rfl, HI.out.f2, HI.out.f3, HI.out.f4, HI.out.f5, HI.out.f6, HI.out.f7, HI.out.ne, HI.out.o8, HI.out.o9⟩
    | 2, ho =>
      cases ho
      have d0 := hd ⟨0, .data⟩ (by simp) rfl
      have d1 := hd ⟨1, .data⟩ (by simp) rfl
      have e9 := h.f0 d0
      have e10 := h.f1 d1
      subst e9
      subst e10
      clear h d0 d1 hd
      go_simp
      refine (HR1.out W HI.out.low).mono ?_
      rintro e W1 ⟨⟨oa, n, c, nv, rfl, hnd⟩, hb⟩
      have H1 := HI.out.keep hb
      exact hK.out _ _ ⟨v7, v8, _, _, _, v12, v13, v14, rfl, H1.low, H1.bs, H1.bt, H1.f0, H1.f1, fun _ => ⟨_, _, _, _, rfl, hnd.lt.carry fun b hb2 => ⟨rfl, hb2.2, fun k e => by obtain ⟨p, e1, -, e2, -⟩ := HI.out.f6 k; have e3 := hb2.1; have := ptr_inj (e1.symm.trans e); omega, fun k e => by obtain ⟨p, e1, -, e2, -⟩ := HI.out.f7 k; have e3 := hb2.1; have := ptr_inj (e1.symm.trans e); omega⟩⟩, H1.f3, H1.f4, H1.f5, H1.f6, H1.f7, H1.ne, H1.o8, H1.o9⟩
    | 3, ho =>
      cases ho
      go_simp
      exact hK.out _ _ ⟨v7, v8, v9, v10, v11, _, v13, v14, rfl, h.low, h.bs, h.bt, h.f0, h.f1, h.f2, fun _ => rfl, h.f4, h.f5, h.f6, h.f7, h.ne, h.o8, h.o9⟩
    | 4, ho =>
      cases ho
      obtain ⟨⟨c0, c1, c2⟩, -⟩ := box3 h.bt
      clear h
      go_simp
      exact hK.out _ _ ⟨v7, v8, v9, v10, v11, v12, _, v14, rfl, HI.out.low, HI.out.bs, HI.out.bt, HI.out.f0, HI.out.f1, HI.out.f2, HI.out.f3, fun _ => rfl, HI.out.f5, HI.out.f6, HI.out.f7, HI.out.ne, HI.out.o8, HI.out.o9⟩
    | 5, ho =>
      cases ho
      have d0 := hd ⟨3, .data⟩ (by simp) rfl
      have d1 := hd ⟨4, .data⟩ (by simp) rfl
      have e9 := h.f3 d0
      have e10 := h.f4 d1
      subst e9
      subst e10
      clear h d0 d1 hd
      go_simp
      refine (HR2.out W HI.out.low).mono ?_
      rintro e W1 ⟨⟨oa, n, c, nv, rfl, hnd⟩, hb⟩
      have H1 := HI.out.keep hb
      exact hK.out _ _ ⟨v7, v8, v9, v10, v11, _, _, _, rfl, H1.low, H1.bs, H1.bt, H1.f0, H1.f1, H1.f2, H1.f3, H1.f4, fun _ => ⟨_, _, _, _, rfl, hnd.lt.carry fun b hb2 => ⟨rfl, hb2.2, fun k e => by obtain ⟨p, e1, -, e2, -⟩ := HI.out.f6 k; have e3 := hb2.1; have := ptr_inj (e1.symm.trans e); omega, fun k e => by obtain ⟨p, e1, -, e2, -⟩ := HI.out.f7 k; have e3 := hb2.1; have := ptr_inj (e1.symm.trans e); omega⟩⟩, H1.f6, H1.f7, H1.ne, H1.o8, H1.o9⟩
    | 6, ho =>
      cases ho
      clear h
      go_simp
      have hb := (Below.refl W.heap.size W).alloc (Nat.le_refl _) zeroNd
      have H1 := HI.out.keep hb
      have wk : ∀ b, bOk f W v7 v8 b → (W.alloc zeroNd).heap[b]? = W.heap[b]? ∧ bOk (flag f 6) (W.alloc zeroNd) (ptr W.heap.size) v8 b := fun b hbb => ⟨hb.block b hbb.1, Nat.lt_of_lt_of_le hbb.1 hb.size, fun _ e => by have := ptr_inj e; have := hbb.1; omega, hbb.2.2⟩
      exact hK.out _ (W.alloc zeroNd) ⟨ptr W.heap.size, v8, v9, v10, v11, v12, v13, v14, rfl, H1.low, H1.bs, H1.bt, H1.f0, H1.f1, fun k => (HI.out.f2 k).weak wk, H1.f3, H1.f4, fun k => (HI.out.f5 k).weak wk,
        fun _ => ⟨_, rfl, by have := (Array.getElem?_eq_some_iff.1 HI.out.bt).1; omega, by simp, fun _ => heap_new_at _ _ _ rfl, (fun k => by have := (HI.out.o8 k).1; rw [hfi] at this; cases this)⟩,
        fun k => by obtain ⟨p, h1, h2, h3, h4, h5⟩ := HI.out.f7 k; exact ⟨p, h1, h2, Nat.lt_of_lt_of_le h3 hb.size, fun e => (hb.block p h3).trans (h4 e), fun e => (h5 e).weak (hb.block p h3) wk⟩,
        fun _ k e => by obtain ⟨p, h1, h2, h3, -⟩ := HI.out.f7 k; have := ptr_inj (e.trans h1); omega, (fun k => by have := (HI.out.o8 k).1; rw [hfi] at this; cases this), H1.o9⟩
    | 7, ho =>
      cases ho
      clear h
      go_simp
      have hb := (Below.refl W.heap.size W).alloc (Nat.le_refl _) zeroNd
      have H1 := HI.out.keep hb
      have wk : ∀ b, bOk f W v7 v8 b → (W.alloc zeroNd).heap[b]? = W.heap[b]? ∧ bOk (flag f 7) (W.alloc zeroNd) v7 (ptr W.heap.size) b := fun b hbb => ⟨hb.block b hbb.1, Nat.lt_of_lt_of_le hbb.1 hb.size, hbb.2.1, fun _ e => by have := ptr_inj e; have := hbb.1; omega⟩
      exact hK.out _ (W.alloc zeroNd) ⟨v7, ptr W.heap.size, v9, v10, v11, v12, v13, v14, rfl, H1.low, H1.bs, H1.bt, H1.f0, H1.f1, fun k => (HI.out.f2 k).weak wk, H1.f3, H1.f4, fun k => (HI.out.f5 k).weak wk,
        fun k => by obtain ⟨p, h1, h2, h3, h4, h5⟩ := HI.out.f6 k; exact ⟨p, h1, h2, Nat.lt_of_lt_of_le h3 hb.size, fun e => (hb.block p h3).trans (h4 e), fun e => (h5 e).weak (hb.block p h3) wk⟩,
        fun _ => ⟨_, rfl, by have := (Array.getElem?_eq_some_iff.1 HI.out.bt).1; omega, by simp, fun _ => heap_new_at _ _ _ rfl, (fun k => by have := (HI.out.o9 k).1; rw [hfi] at this; cases this)⟩,
        fun k _ e => by obtain ⟨p, h1, h2, h3, -⟩ := HI.out.f6 k; have := ptr_inj (h1.symm.trans e); omega, (fun k => by have := (HI.out.o8 k).2; rw [hfi] at this; cases this), (fun k => by have := (HI.out.o9 k).1; rw [hfi] at this; cases this)⟩
    | 8, ho =>
      cases ho
      have d6 := hd ⟨6, .data⟩ (by simp) rfl
      have d2 := hd ⟨2, .data⟩ (by simp) rfl
      have d7 := hd ⟨7, .phase⟩ (by simp) rfl
      obtain ⟨p, e7, h2, h3, h4, -⟩ := h.f6 d6
      obtain ⟨oa, n, c, nv, e11, hnd⟩ := h.f2 d2
      subst e7
      subst e11
      obtain ⟨on, cn, rfl⟩ := hnd.form
      have hz := h4 hfi
      have hne := h.ne d6 d7
      have HZ := Lib.hid hz
      have HND := Lib.hid hnd
      have HNE := Lib.hid hne
      obtain ⟨⟨c0, c1, c2, c3, c4⟩, g0, g1, g2, g3, g4⟩ := box5 hz
      clear h hd h4 hz hnd hne
      unfold ptr
      go_simp
      have hq := box5_set HZ.out (.string s.nm) (.bool s.vr) (.slice oa n c) (.int .i64 (ndRank (rkB L) s)) (.slice on s.ts.length cn)
      have hbl := below_set5 HI.out.low (b := p) (by omega) (.string s.nm) (.bool s.vr) (.slice oa n c) (.int .i64 (ndRank (rkB L) s)) (.slice on s.ts.length cn)
      have hst := fun k (hk : k ≠ p) => heap_set5 W p k (.string s.nm) (.bool s.vr) (.slice oa n c) (.int .i64 (ndRank (rkB L) s)) (.slice on s.ts.length cn) hk
      have wk : ∀ b, bOk f W (ptr p) v8 b → (((((W.setCell ⟨p, 0, none⟩ (.string s.nm)).setCell ⟨p, 1, none⟩ (.bool s.vr)).setCell ⟨p, 2, none⟩ (.slice oa n c)).setCell ⟨p, 3, none⟩ (.int .i64 (ndRank (rkB L) s))).setCell ⟨p, 4, none⟩ (.slice on s.ts.length cn)).heap[b]? = W.heap[b]? ∧ bOk (flag f 8) (((((W.setCell ⟨p, 0, none⟩ (.string s.nm)).setCell ⟨p, 1, none⟩ (.bool s.vr)).setCell ⟨p, 2, none⟩ (.slice oa n c)).setCell ⟨p, 3, none⟩ (.int .i64 (ndRank (rkB L) s))).setCell ⟨p, 4, none⟩ (.slice on s.ts.length cn)) (ptr p) v8 b :=
        fun b hbb => ⟨hst b (fun e => hbb.2.1 d6 (by rw [e])), by have := hbb.1; simp [World.setCell]; omega, fun _ => hbb.2.1 d6, hbb.2.2⟩
      exact hK.out _ _ ⟨ptr p, v8, v9, v10, _, v12, v13, v14, rfl, hbl, (hst _ (by omega)).trans HI.out.bs, (hst _ (by omega)).trans HI.out.bt, HI.out.f0, HI.out.f1, fun k => (HI.out.f2 k).weak wk, HI.out.f3, HI.out.f4, fun k => (HI.out.f5 k).weak wk,
        fun _ => ⟨p, rfl, h2, by simp [World.setCell]; omega, nofun, fun _ => ⟨oa, n, c, _, hq, HND.out.carry wk⟩⟩,
        fun k => by obtain ⟨q, h1, h2, h3, h4, h5⟩ := HI.out.f7 k; have hpq : q ≠ p := fun e => HNE.out (by rw [h1, e]); exact ⟨q, h1, h2, by simp [World.setCell]; omega, fun e => (hst q hpq).trans (h4 e), fun e => (h5 e).weak (hst q hpq) wk⟩,
        HI.out.ne, fun _ => ⟨d6, d7⟩, fun k => ⟨(HI.out.o9 k).1, rfl⟩⟩
    | 9, ho =>
      cases ho
      have d7 := hd ⟨7, .data⟩ (by simp) rfl
      have d5 := hd ⟨5, .data⟩ (by simp) rfl
      have d8 := hd ⟨8, .chain⟩ (by simp) rfl
      have d6 := hd ⟨6, .phase⟩ (by simp) rfl
      obtain ⟨p, e7, h2, h3, h4, -⟩ := h.f7 d7
      obtain ⟨oa, n, c, nv, e11, hnd⟩ := h.f5 d5
      subst e7
      subst e11
      obtain ⟨on, cn, rfl⟩ := hnd.form
      have hz := h4 hfi
      have hne := h.ne d6 d7
      have HZ := Lib.hid hz
      have HND := Lib.hid hnd
      have HNE := Lib.hid hne
      obtain ⟨⟨c0, c1, c2, c3, c4⟩, g0, g1, g2, g3, g4⟩ := box5 hz
      clear h hd h4 hz hnd hne
      unfold ptr
      go_simp
      have hq := box5_set HZ.out (.string t.nm) (.bool t.vr) (.slice oa n c) (.int .i64 (ndRank (rkB L) t)) (.slice on t.ts.length cn)
      have hbl := below_set5 HI.out.low (b := p) (by omega) (.string t.nm) (.bool t.vr) (.slice oa n c) (.int .i64 (ndRank (rkB L) t)) (.slice on t.ts.length cn)
      have hst := fun k (hk : k ≠ p) => heap_set5 W p k (.string t.nm) (.bool t.vr) (.slice oa n c) (.int .i64 (ndRank (rkB L) t)) (.slice on t.ts.length cn) hk
      have wk : ∀ b, bOk f W v7 (ptr p) b → (((((W.setCell ⟨p, 0, none⟩ (.string t.nm)).setCell ⟨p, 1, none⟩ (.bool t.vr)).setCell ⟨p, 2, none⟩ (.slice oa n c)).setCell ⟨p, 3, none⟩ (.int .i64 (ndRank (rkB L) t))).setCell ⟨p, 4, none⟩ (.slice on t.ts.length cn)).heap[b]? = W.heap[b]? ∧ bOk (flag f 9) (((((W.setCell ⟨p, 0, none⟩ (.string t.nm)).setCell ⟨p, 1, none⟩ (.bool t.vr)).setCell ⟨p, 2, none⟩ (.slice oa n c)).setCell ⟨p, 3, none⟩ (.int .i64 (ndRank (rkB L) t))).setCell ⟨p, 4, none⟩ (.slice on t.ts.length cn)) v7 (ptr p) b :=
        fun b hbb => ⟨hst b (fun e => hbb.2.2 d7 (by rw [e])), by have := hbb.1; simp [World.setCell]; omega, hbb.2.1, fun _ => hbb.2.2 d7⟩
      exact hK.out _ _ ⟨v7, ptr p, v9, v10, v11, v12, v13, _, rfl, hbl, (hst _ (by omega)).trans HI.out.bs, (hst _ (by omega)).trans HI.out.bt, HI.out.f0, HI.out.f1, fun k => (HI.out.f2 k).weak wk, HI.out.f3, HI.out.f4, fun k => (HI.out.f5 k).weak wk,
        fun k => by obtain ⟨q, h1, h2, h3, h4, h5⟩ := HI.out.f6 k; have hpq : q ≠ p := fun e => HNE.out (by rw [h1, e]); exact ⟨q, h1, h2, by simp [World.setCell]; omega, fun e => (hst q hpq).trans (h4 e), fun e => (h5 e).weak (hst q hpq) wk⟩,
        fun _ => ⟨p, rfl, h2, by simp [World.setCell]; omega, nofun, fun _ => ⟨oa, n, c, _, hq, HND.out.carry wk⟩⟩,
        HI.out.ne, HI.out.o8, fun _ => ⟨d7, d8⟩⟩
    | i + 10, ho => simp at ho
  case hend =>
    rintro f a W ⟨v7, v8, v9, v10, v11, v12, v13, v14, rfl, h⟩ hall
    obtain ⟨p, rfl, -, -, -, h5⟩ := h.f6 (hall 6 (by simp))
    obtain ⟨q, rfl, -, -, -, h6⟩ := h.f7 (hall 7 (by simp))
    obtain ⟨ns, hns⟩ := (h5 (hall 8 (by simp))).at fun b hb => hb.1
    obtain ⟨nt, hnt⟩ := (h6 (hall 9 (by simp))).at fun b hb => hb.1
    have HNS := Lib.hid hns
    have HNT := Lib.hid hnt
    have HLOW := Lib.hid h.low
    clear h h5 h6 hns hnt hall
    unfold ptr
    go_wp2_with fail
    refine (cmp_any (rkB L) (s.size + t.size + 1) s t ns nt p 0 q 0 W (by omega) HSB.out HTB.out (by omega) (by omega) HNS.out HNT.out).mono ?_
    rintro e W2 ⟨rfl, hb⟩
    have HB2 := Lib.hid (HLOW.out.trans (hb.mono HLOW.out.size))
    clear hb
    go_wp2_with fail
    go_ret
    exact ⟨rfl, HB2.out⟩
end Go.Proofs.Ytnomppdmhgefiaa
/- Package path: Greater; the law's greater. -/
namespace Go.Proofs.Ytnomppdmhgefiaa
open Go.RowKit

/-- the call says that s is greater than t -/
def GP (L : List Rk) (s t : Tm) : Prop := PrecOk L ∧ s.ok ∧ t.ok ∧ Lpo (rkB L) s t
open Classical in
noncomputable def gpB (L : List Rk) (s t : Tm) : Bool := decide (GP L s t)
open Classical in
theorem gpB_yes {L : List Rk} {s t : Tm} : gpB L s t = true ↔ GP L s t := by unfold gpB; exact decide_eq_true_iff
open Classical in
theorem gpB_no {L : List Rk} {s t : Tm} : gpB L s t = false ↔ ¬ GP L s t := by unfold gpB; exact decide_eq_false_iff_not
/-- how Greater ends -/
def GrPost (L : List Rk) (s t : Tm) (e : Ending) : Prop := ∃ c : Int, e = .returned (.tuple #[.bool (gpB L s t), .int .i64 c]) ∧ (c = 0 ↔ PrecOk L ∧ s.ok ∧ t.ok)
theorem GP.rel {L : List Rk} {s t : Tm} (h : PrecOk L) (hs : s.ok) (ht : t.ok) : (rel (rkB L) s t == 2) = gpB L s t := by
  cases hb : gpB L s t with
  | true => have := (gpB_yes.1 hb).2.2.2; rw [beq_iff_eq]; exact rel_2.2 this
  | false => rw [beq_eq_false_iff_ne]; exact fun e => gpB_no.1 hb ⟨h, hs, ht, rel_2.1 e⟩

set_option maxRecDepth 100000 in
set_option maxHeartbeats 4000000 in
theorem pgreater_any (L : List Rk) (lv : Value) (s t : Tm) (sv tv : Value) (w : World) (hL : RksIs w.heap.size w L lv) (hLb : rkBulk L ≤ 1048576) (hs : SlIs w.heap.size w s.ts sv) (ht : SlIs w.heap.size w t.ts tv) (hbs : s.bulk ≤ 1048576) (hbt : t.bulk ≤ 1048576) :
    Calls Try.prog 15 #[lv, tmv s sv, tmv t tv] w fun e w' => GrPost L s t e ∧ Below w.heap.size w w' := by
  obtain ⟨os, cs, rfl, -⟩ := hs.form
  obtain ⟨ot, ct, rfl, -⟩ := ht.form
  have hL' := hL
  obtain ⟨ol, cl, rfl, -, -⟩ := hL'
  have hlen := Nat.le_trans (rkBulk_len L) hLb
  have hA : Below w.heap.size w (w.alloc (.cells #[.string s.nm, .bool s.vr, .slice os s.ts.length cs] 26)) := by go_grown
  have hB := (Below.refl _ (w.alloc (.cells #[.string s.nm, .bool s.vr, .slice os s.ts.length cs] 26))).alloc (Nat.le_refl _) (.cells #[.string t.nm, .bool t.vr, .slice ot t.ts.length ct] 26)
  have HW0 : Hid (Below w.heap.size w ((w.alloc (.cells #[.string s.nm, .bool s.vr, .slice os s.ts.length cs] 26)).alloc (.cells #[.string t.nm, .bool t.vr, .slice ot t.ts.length ct] 26))) := Lib.hid (hA.trans (hB.mono hA.size))
  have HX0 : Hid (((w.alloc (.cells #[.string s.nm, .bool s.vr, .slice os s.ts.length cs] 26)).alloc (.cells #[.string t.nm, .bool t.vr, .slice ot t.ts.length ct] 26)).heap[w.heap.size]? = some (.cells #[.string s.nm, .bool s.vr, .slice os s.ts.length cs] 26 (0, 0))) := Lib.hid ((Below.heap_alloc _ _ _ (by simp)).trans (heap_new_at _ _ _ rfl))
  have HY0 : Hid (((w.alloc (.cells #[.string s.nm, .bool s.vr, .slice os s.ts.length cs] 26)).alloc (.cells #[.string t.nm, .bool t.vr, .slice ot t.ts.length ct] 26)).heap[w.heap.size + 1]? = some (.cells #[.string t.nm, .bool t.vr, .slice ot t.ts.length ct] 26 (0, 0))) := Lib.hid (heap_new_at _ _ _ (by simp))
  have HL := Lib.hid hL
  have HS := Lib.hid hs
  have HT := Lib.hid ht
  have HLB := Lib.hid hLb
  clear hL hs ht hA hB hLb
  go_enter Try.func15, Try.ntmps15
  rw [show tmv s (.slice os s.ts.length cs) = .agg #[.string s.nm, .bool s.vr, .slice os s.ts.length cs] from rfl, show tmv t (.slice ot t.ts.length ct) = .agg #[.string t.nm, .bool t.vr, .slice ot t.ts.length ct] from rfl]
  go_wp2_with fail
  generalize ((w.alloc (.cells #[.string s.nm, .bool s.vr, .slice os s.ts.length cs] 26)).alloc (.cells #[.string t.nm, .bool t.vr, .slice ot t.ts.length ct] 26)) = W0 at HW0 HX0 HY0 ⊢
  refine (pathCheck_any L _ W0 (HL.out.carry HW0.out HW0.out.size) HLB.out).mono ?_
  rintro e w1 ⟨rfl, hb⟩
  have HW1 := Lib.hid (HW0.out.trans (hb.mono HW0.out.size))
  have HX1 := Lib.hid ((hb.block _ (Array.getElem?_eq_some_iff.1 HX0.out).1).trans HX0.out)
  have HY1 := Lib.hid ((hb.block _ (Array.getElem?_eq_some_iff.1 HY0.out).1).trans HY0.out)
  clear hb
  by_cases hc : precC L = 0
  case neg =>
    have hd : (precC L != 0) = true := by rw [bne_iff_ne]; exact hc
    have HNP : Hid (¬ PrecOk L) := Lib.hid fun h => hc (precC_zero.2 h)
    have HG : Hid (gpB L s t = false) := Lib.hid (gpB_no.2 fun h => HNP.out h.1)
    have HC := Lib.hid hc
    clear hc
    go_wp2_with fail
    go_ret2
    exact ⟨⟨_, by rw [HG.out]; rfl, fun h => absurd h HC.out, fun h => absurd h.1 HNP.out⟩, HW1.out⟩
  rw [hc]
  have HP := Lib.hid (precC_zero.1 hc)
  clear hc
  obtain ⟨⟨x0, x1, x2⟩, -⟩ := box3 HX1.out
  go_wp2_with fail
  refine (check_any s _ w1 (HS.out.carry HW1.out HW1.out.size) hbs).mono ?_
  rintro e w2 ⟨⟨c, rfl, hc⟩, hb⟩
  have HW2 := Lib.hid (HW1.out.trans (hb.mono HW1.out.size))
  have HX2 := Lib.hid ((hb.block _ (Array.getElem?_eq_some_iff.1 HX1.out).1).trans HX1.out)
  have HY2 := Lib.hid ((hb.block _ (Array.getElem?_eq_some_iff.1 HY1.out).1).trans HY1.out)
  have HC := Lib.hid hc
  clear hb hc x0 x1 x2
  by_cases hc0 : c = 0
  case neg =>
    have hd : (c != 0) = true := by rw [bne_iff_ne]; exact hc0
    have HNP : Hid (¬ s.ok) := Lib.hid fun h => hc0 (HC.out.2 h)
    have HG : Hid (gpB L s t = false) := Lib.hid (gpB_no.2 fun h => HNP.out h.2.1)
    have HC0 := Lib.hid hc0
    clear hc0
    go_wp2_with fail
    go_ret2
    exact ⟨⟨_, by rw [HG.out]; rfl, fun h => absurd h HC0.out, fun h => absurd h.2.1 HNP.out⟩, HW2.out⟩
  subst hc0
  have HSO := Lib.hid (HC.out.1 rfl)
  obtain ⟨⟨y0, y1, y2⟩, -⟩ := box3 HY2.out
  go_wp2_with fail
  refine (check_any t _ w2 (HT.out.carry HW2.out HW2.out.size) hbt).mono ?_
  rintro e w3 ⟨⟨c, rfl, hc⟩, hb⟩
  have HW3 := Lib.hid (HW2.out.trans (hb.mono HW2.out.size))
  have HX3 := Lib.hid ((hb.block _ (Array.getElem?_eq_some_iff.1 HX2.out).1).trans HX2.out)
  have HY3 := Lib.hid ((hb.block _ (Array.getElem?_eq_some_iff.1 HY2.out).1).trans HY2.out)
  have HC2 := Lib.hid hc
  clear hb hc y0 y1 y2
  by_cases hc0 : c = 0
  case neg =>
    have hd : (c != 0) = true := by rw [bne_iff_ne]; exact hc0
    have HNP : Hid (¬ t.ok) := Lib.hid fun h => hc0 (HC2.out.2 h)
    have HG : Hid (gpB L s t = false) := Lib.hid (gpB_no.2 fun h => HNP.out h.2.2.1)
    have HC0 := Lib.hid hc0
    clear hc0
    go_wp2_with fail
    go_ret2
    exact ⟨⟨_, by rw [HG.out]; rfl, fun h => absurd h HC0.out, fun h => absurd h.2.2 HNP.out⟩, HW3.out⟩
  subst hc0
  have HTO := Lib.hid (HC2.out.1 rfl)
  obtain ⟨⟨x0, x1, x2⟩, -⟩ := box3 HX3.out
  obtain ⟨⟨y0, y1, y2⟩, -⟩ := box3 HY3.out
  go_wp2_with fail
  refine (isGreater_any L _ HP.out.nms hlen s t _ _ w3 (HL.out.carry HW3.out HW3.out.size) (HS.out.carry HW3.out HW3.out.size) (HT.out.carry HW3.out HW3.out.size) HSO.out.1.bare HTO.out.1.bare hbs hbt).mono ?_
  rintro e w4 ⟨rfl, hb⟩
  have HW4 := Lib.hid (HW3.out.trans (hb.mono HW3.out.size))
  have HR := Lib.hid (GP.rel HP.out HSO.out HTO.out)
  clear hb
  go_wp2_with fail
  go_ret2
  exact ⟨⟨0, by rw [HR.out]; rfl, fun _ => ⟨HP.out, HSO.out, HTO.out⟩, fun _ => rfl⟩, HW4.out⟩
set_option maxRecDepth 100000 in
set_option maxHeartbeats 4000000 in
theorem lgreater_any (L : List Rk) (lv : Value) (s t : Tm) (sv tv : Value) (w : World) (hL : RksIs w.heap.size w L lv) (hLb : rkBulk L ≤ 1048576) (hs : SlIs w.heap.size w s.ts sv) (ht : SlIs w.heap.size w t.ts tv) (hbs : s.bulk ≤ 1048576) (hbt : t.bulk ≤ 1048576) :
    Calls Try.prog 7 #[lv, tmv s sv, tmv t tv] w fun e w' => e = .returned (.bool (gpB L s t)) ∧ Below w.heap.size w w' := by
  obtain ⟨os, cs, rfl, -⟩ := hs.form
  obtain ⟨ot, ct, rfl, -⟩ := ht.form
  have hL' := hL
  obtain ⟨ol, cl, rfl, -, -⟩ := hL'
  have HW0 : Hid (Below w.heap.size w ((w.alloc (.cells #[.string s.nm, .bool s.vr, .slice os s.ts.length cs] 26)).alloc (.cells #[.string t.nm, .bool t.vr, .slice ot t.ts.length ct] 26))) := Lib.hid (by go_grown)
  have HG := Lib.hid (pgreater_any L _ s t _ _ ((w.alloc (.cells #[.string s.nm, .bool s.vr, .slice os s.ts.length cs] 26)).alloc (.cells #[.string t.nm, .bool t.vr, .slice ot t.ts.length ct] 26)) (hL.carry HW0.out HW0.out.size) hLb (hs.carry HW0.out HW0.out.size) (ht.carry HW0.out HW0.out.size) hbs hbt)
  clear hL hs ht
  go_enter Try.func7, Try.ntmps7
  rw [show tmv s (.slice os s.ts.length cs) = .agg #[.string s.nm, .bool s.vr, .slice os s.ts.length cs] from rfl, show tmv t (.slice ot t.ts.length ct) = .agg #[.string t.nm, .bool t.vr, .slice ot t.ts.length ct] from rfl]
  go_wp2_with fail
  refine HG.out.mono ?_
  rintro e w1 ⟨⟨c, rfl, hc⟩, hb⟩
  have HB := Lib.hid (HW0.out.trans (hb.mono HW0.out.size))
  have HC := Lib.hid hc
  clear hb hc HG
  by_cases hc0 : c = 0
  · subst hc0
    go_wp2_with fail
    go_ret
    exact ⟨rfl, HB.out⟩
  · have hd : (c == 0) = false := by rw [beq_eq_false_iff_ne]; exact hc0
    have HG : Hid (gpB L s t = false) := Lib.hid (gpB_no.2 fun h => hc0 (HC.out.2 ⟨h.1, h.2.1, h.2.2.1⟩))
    clear hc0
    go_wp2_with fail
    go_ret
    exact ⟨by rw [HG.out]; rfl, HB.out⟩
end Go.Proofs.Ytnomppdmhgefiaa
