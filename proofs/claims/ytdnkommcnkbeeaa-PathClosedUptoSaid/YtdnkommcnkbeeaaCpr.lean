/- Merged: Wth, Cpr. -/
import Derived.WalkKit
import Derived.ProofKit
import Derived.OpenShut
import Derived.Handy
import Derived.Lib.Hide
import Derived.BigQuiet
import Derived.Test.YtdnkommcnkbeeaaRel
import Derived.Test.YtdnkommcnkbeeaaNd
import Derived.Deep.RegionHeld3
/- Package path: within, above. -/
namespace Go.Proofs.Ytdnkommcnkbeeaa
open Go.RowKit

/-- a node in blocks that are there -/
abbrev NdW (rk : ByteArray → Int) (W : World) (b o : Nat) (t : Tm) (s : Value) : Prop := NdAt rk (· < W.heap.size) W b o t s
theorem NdAt.keep {rk : ByteArray → Int} {A W : World} {b o : Nat} {t : Tm} {s : Value} (h : NdW rk A b o t s) (hb : Below A.heap.size A W) : NdW rk W b o t s :=
  NdAt.carry h fun x hx => ⟨hb.block x hx, Nat.lt_of_lt_of_le hx hb.size⟩
abbrev NdL (rk : ByteArray → Int) (W : World) (l : List Tm) (s : Value) : Prop := NdP rk (· < W.heap.size) W l s
theorem NdP.keep {rk : ByteArray → Int} {A W : World} {l : List Tm} {s : Value} (h : NdL rk A l s) (hb : Below A.heap.size A W) : NdL rk W l s :=
  NdP.carry (fun x hx => ⟨hb.block x hx, Nat.lt_of_lt_of_le hx hb.size⟩) h
/-- compare at terms of a size below N -/
def CmpH (rk : ByteArray → Int) (N : Nat) : Prop := ∀ (s t : Tm) (sv tv : Value) (b o b2 o2 : Nat) (W : World), s.size + t.size < N → s.bare → t.bare → s.size ≤ 1048576 → t.size ≤ 1048576 → NdW rk W b o s sv → NdW rk W b2 o2 t tv →
  Calls Try.prog 56 #[.pointer (some ⟨b, o, none⟩), .pointer (some ⟨b2, o2, none⟩)] W fun e w' => e = .returned (.int .i64 (rel rk s t)) ∧ Below W.heap.size W w'
theorem withinR_yes {rk : ByteArray → Int} {l : List Tm} {a t : Tm} (h : a ∈ l) (h2 : rel rk a t ≠ 0) : withinR rk l t = 2 := by
  unfold withinR; rw [if_pos ⟨a, h, h2⟩]
theorem withinR_no {rk : ByteArray → Int} {l : List Tm} {t : Tm} (h : ∀ a ∈ l, rel rk a t = 0) : withinR rk l t = 0 := by
  unfold withinR; rw [if_neg fun ⟨a, h1, h2⟩ => h2 (h a h1)]
theorem aboveR_no {rk : ByteArray → Int} {l : List Tm} {s b : Tm} (h : b ∈ l) (h2 : rel rk s b ≠ 2) : aboveR rk s l = 0 := by
  unfold aboveR; rw [if_neg fun k => h2 (k b h)]
theorem aboveR_yes {rk : ByteArray → Int} {l : List Tm} {s : Tm} (h : ∀ b ∈ l, rel rk s b = 2) : aboveR rk s l = 2 := by
  unfold aboveR; rw [if_pos h]

set_option maxRecDepth 100000 in
set_option maxHeartbeats 4000000 in
theorem within_any {rk : ByteArray → Int} {N : Nat} (HH : Hid (CmpH rk N)) (l : List Tm) (t : Tm) (lv tv : Value) (b2 o2 : Nat) (w : World) (hl : NdL rk w l lv) (ht : NdW rk w b2 o2 t tv)
    (hsz : ∀ a ∈ l, a.size + t.size < N ∧ a.bare ∧ a.size ≤ 1048576) (htb : t.bare) (hts : t.size ≤ 1048576) (hll : l.length ≤ 1048576) :
    Calls Try.prog 69 #[lv, .pointer (some ⟨b2, o2, none⟩)] w fun e w' => e = .returned (.int .i64 (withinR rk l t)) ∧ Below w.heap.size w w' := by
  obtain ⟨oa, cap, rfl⟩ := hl.form
  have HL := Lib.hid hl
  have HT := Lib.hid ht
  have HSZ := Lib.hid hsz
  have HTB := Lib.hid htb
  clear hl ht hsz htb
  go_enter Try.func69, Try.ntmps69
  go_wp2_with fail
  go_loopw [8] (fun i wr => ∃ k : Nat, k ≤ l.length ∧ i = .int .i64 k ∧ Hid (∀ a ∈ l.take k, rel rk a t = 0) ∧ Hid (Below w.heap.size w wr)) (fun i _ => l.length - (intOf i).toNat)
  case atStart => exact ⟨0, by omega, rfl, Lib.hid (by simp), Lib.hid (Below.refl _ _)⟩
  case round =>
    obtain ⟨k, hk, rfl, HN, HBW⟩ := hrel
    by_cases hlt : k < l.length
    · obtain ⟨b, o, a, sv, rfl, -, ha, ham, hat⟩ := (HL.out.keep HBW.out).get hlt
      have HA := Lib.hid ha
      have HAM := Lib.hid ham
      have HC := Lib.hid (HH.out a t sv tv b (o + k * 5) b2 o2 wr (HSZ.out a ham).1 (HSZ.out a ham).2.1 HTB.out (HSZ.out a ham).2.2 hts hat (HT.out.keep HBW.out))
      clear ha ham hat
      go_wp2_with fail
      refine HC.out.mono ?_
      rintro e w1 ⟨rfl, hb1⟩
      have HB1 : Hid (Below w.heap.size w w1) := Lib.hid (HBW.out.trans (hb1.mono HBW.out.size))
      clear hb1 HC
      by_cases hr : rel rk a t = 0
      · rw [hr]
        go_wp2_with fail
        refine ⟨⟨k + 1, by omega, by go_num, Lib.hid (fun x hx => ?_), HB1⟩, by simp [intOf]; omega⟩
        rw [List.take_add_one, HA.out] at hx
        rcases List.mem_append.1 hx with hx | hx
        · exact HN.out x hx
        · obtain rfl : x = a := by simpa using hx
          exact hr
      · have hd : (rel rk a t != 0) = true := by rw [bne_iff_ne]; exact hr
        have HR := Lib.hid (withinR_yes HAM.out hr)
        clear hr
        go_wp2_with fail
        go_ret
        exact ⟨by rw [HR.out]; rfl, HB1.out⟩
    · obtain rfl : k = l.length := by omega
      have HR := Lib.hid (withinR_no (rk := rk) (t := t) (fun a ha => HN.out a (by rw [List.take_length]; exact ha)))
      go_wp2_with fail
      go_ret
      exact ⟨by rw [HR.out]; rfl, HBW.out⟩
set_option maxRecDepth 100000 in
set_option maxHeartbeats 4000000 in
theorem above_any {rk : ByteArray → Int} {N : Nat} (HH : Hid (CmpH rk N)) (l : List Tm) (s : Tm) (lv sv : Value) (b2 o2 : Nat) (w : World) (hl : NdL rk w l lv) (hs : NdW rk w b2 o2 s sv)
    (hsz : ∀ a ∈ l, s.size + a.size < N ∧ a.bare ∧ a.size ≤ 1048576) (hsb : s.bare) (hss : s.size ≤ 1048576) (hll : l.length ≤ 1048576) :
    Calls Try.prog 70 #[.pointer (some ⟨b2, o2, none⟩), lv] w fun e w' => e = .returned (.int .i64 (aboveR rk s l)) ∧ Below w.heap.size w w' := by
  obtain ⟨oa, cap, rfl⟩ := hl.form
  have HL := Lib.hid hl
  have HS := Lib.hid hs
  have HSZ := Lib.hid hsz
  have HSB := Lib.hid hsb
  clear hl hs hsz hsb
  go_enter Try.func70, Try.ntmps70
  go_wp2_with fail
  go_loopw [8] (fun i wr => ∃ k : Nat, k ≤ l.length ∧ i = .int .i64 k ∧ Hid (∀ a ∈ l.take k, rel rk s a = 2) ∧ Hid (Below w.heap.size w wr)) (fun i _ => l.length - (intOf i).toNat)
  case atStart => exact ⟨0, by omega, rfl, Lib.hid (by simp), Lib.hid (Below.refl _ _)⟩
  case round =>
    obtain ⟨k, hk, rfl, HN, HBW⟩ := hrel
    by_cases hlt : k < l.length
    · obtain ⟨b, o, a, av, rfl, -, ha, ham, hat⟩ := (HL.out.keep HBW.out).get hlt
      have HA := Lib.hid ha
      have HAM := Lib.hid ham
      have HC := Lib.hid (HH.out s a sv av b2 o2 b (o + k * 5) wr (HSZ.out a ham).1 HSB.out (HSZ.out a ham).2.1 hss (HSZ.out a ham).2.2 (HS.out.keep HBW.out) hat)
      clear ha ham hat
      go_wp2_with fail
      refine HC.out.mono ?_
      rintro e w1 ⟨rfl, hb1⟩
      have HB1 : Hid (Below w.heap.size w w1) := Lib.hid (HBW.out.trans (hb1.mono HBW.out.size))
      clear hb1 HC
      by_cases hr : rel rk s a = 2
      · rw [hr]
        go_wp2_with fail
        refine ⟨⟨k + 1, by omega, by go_num, Lib.hid (fun x hx => ?_), HB1⟩, by simp [intOf]; omega⟩
        rw [List.take_add_one, HA.out] at hx
        rcases List.mem_append.1 hx with hx | hx
        · exact HN.out x hx
        · obtain rfl : x = a := by simpa using hx
          exact hr
      · have hd : (rel rk s a != 2) = true := by rw [bne_iff_ne]; exact hr
        have HR := Lib.hid (aboveR_no HAM.out hr)
        clear hr
        go_wp2_with fail
        go_ret
        exact ⟨by rw [HR.out]; rfl, HB1.out⟩
    · obtain rfl : k = l.length := by omega
      have HR := Lib.hid (aboveR_yes (rk := rk) (s := s) (fun a ha => HN.out a (by rw [List.take_length]; exact ha)))
      go_wp2_with fail
      go_ret
      exact ⟨by rw [HR.out]; rfl, HBW.out⟩
end Go.Proofs.Ytdnkommcnkbeeaa
/- Package path: inOrder, compare. -/
namespace Go.Proofs.Ytdnkommcnkbeeaa
open Go.RowKit

theorem NdP.none {rk : ByteArray → Int} {p : Nat → Prop} {W : World} {l : List Tm} (hl : l = []) {n : Nat} (hn : n = 0) (a : Addr) (c : Nat) : NdP rk p W l (.slice (some a) n c) := by subst hl; subst hn; exact .nil1 _ _
set_option maxRecDepth 100000 in
set_option maxHeartbeats 8000000 in
theorem inOrder_any {rk : ByteArray → Int} (s t : Tm) (HH : Hid (CmpH rk (s.size + t.size))) (sv tv : Value) (b o b2 o2 : Nat) (w : World) (hs : NdW rk w b o s sv) (ht : NdW rk w b2 o2 t tv)
    (hsb : s.bare) (htb : t.bare) (hss : s.size ≤ 1048576) (hts : t.size ≤ 1048576) (h1 : s.vr = false) (h2 : t.vr = false) (hn : s.nm = t.nm) (hl : s.ts.length = t.ts.length) :
    Calls Try.prog 71 #[.pointer (some ⟨b, o, none⟩), .pointer (some ⟨b2, o2, none⟩)] w fun e w' => e = .returned (.int .i64 (rel rk s t)) ∧ Below w.heap.size w w' := by
  obtain ⟨os, cs, rfl⟩ := hs.is.form
  obtain ⟨ot, ct, rfl⟩ := ht.is.form
  have hlen : s.ts.length ≤ 1048576 := by have := Tm.length_sizes s.ts; have := Tm.size_eq s; omega
  have hlen2 : t.ts.length ≤ 1048576 := by have := Tm.length_sizes t.ts; have := Tm.size_eq t; omega
  have HSN := Lib.hid hs
  have HTN := Lib.hid ht
  have HSB := Lib.hid hsb
  have HTB := Lib.hid htb
  have HN := Lib.hid hn
  have HL := Lib.hid hl
  have H1 := Lib.hid h1
  have H2 := Lib.hid h2
  have xa := hs.ar
  have ya := ht.ar
  clear hs ht hsb htb hn hl h1 h2
  go_enter Try.func71, Try.ntmps71
  go_wp2_with fail
  go_loopw [11] (fun i wr => ∃ k : Nat, k ≤ s.ts.length ∧ i = .int .i64 k ∧ Hid (s.ts.take k = t.ts.take k) ∧ Hid (Below w.heap.size w wr)) (fun i _ => s.ts.length - (intOf i).toNat)
  case atStart => exact ⟨0, by omega, rfl, Lib.hid (by simp), Lib.hid (Below.refl _ _)⟩
  case round =>
    clear xa ya
    obtain ⟨k, hk, rfl, HK, HBW⟩ := hrel
    by_cases hlt : k < s.ts.length
    · have hlt2 : k < t.ts.length := by rw [← HL.out]; exact hlt
      have hs1 := HSN.out.keep HBW.out
      have ht1 := HTN.out.keep HBW.out
      obtain ⟨bs, ps, a, av, rfl, -, ha, ham, hat⟩ := hs1.is.get hlt
      obtain ⟨bt, pt, c, cv, rfl, -, hc, hcm, hct⟩ := ht1.is.get hlt2
      have HA := Lib.hid ha
      have HC := Lib.hid hc
      have HAT := Lib.hid hat
      have HCT := Lib.hid hct
      have HAM := Lib.hid ham
      have HCM := Lib.hid hcm
      have has := mem_size ham
      have hcs := mem_size hcm
      have S0 : Hid (wr.drew.cell? ⟨b, o + 4, none⟩ = some (.slice (some ⟨bs, ps, none⟩) s.ts.length cs) ∧ wr.drew.cell? ⟨b2, o2 + 4, none⟩ = some (.slice (some ⟨bt, pt, none⟩) t.ts.length ct)) := Lib.hid ⟨hs1.ar, ht1.ar⟩
      have HCALL := Lib.hid (HH.out a c av cv bs (ps + k * 5) bt (pt + k * 5) wr.drew (by omega) (HSB.out.kids a ham) (HTB.out.kids c hcm) (by omega) (by omega) (hat.keep (Below.refl _ wr).drew) (hct.keep (Below.refl _ wr).drew))
      clear hs1 ht1 ha hc hat hct ham hcm
      go_wp2_with fail
      refine wp_region_noPanic ?_
      refine wp_region_held_drew (S := fun w' => w'.cell? ⟨b, o + 4, none⟩ = some (.slice (some ⟨bs, ps, none⟩) s.ts.length cs) ∧ w'.cell? ⟨b2, o2 + 4, none⟩ = some (.slice (some ⟨bt, pt, none⟩) t.ts.length ct)) (by kernel_rfl) S0.out (fun _ => ?_)
      simp only [List.size_toArray, List.length_cons, List.length_nil, Nat.reduceAdd]
      refine wpAnyH_take (i := 0) (v := ?_) (by simp only [List.getElem?_toArray, List.getElem?_cons_zero]; rfl) (by kernel_rfl) (by kernel_rfl) (by kernel_rfl) (fun _ _ _ h => h) (Or.inl ⟨by rfl, ?_⟩) S0.out ?_
      case refine_2 => (intro ww hSw; obtain ⟨s1, s2⟩ := hSw; go_simp; try with_reducible rfl)
      try simp only [Act.put, List.setIfInBounds_toArray, List.set_cons_zero, List.set_cons_succ]
      refine wpAnyH_take (i := 1) (v := ?_) (by simp only [List.getElem?_toArray, List.getElem?_cons_zero, List.getElem?_cons_succ]; rfl) (by kernel_rfl) (by kernel_rfl) (by kernel_rfl) (fun _ _ _ h => h) (Or.inl ⟨by rfl, ?_⟩) S0.out ?_
      case refine_2 => (intro ww hSw; obtain ⟨s1, s2⟩ := hSw; go_simp; try with_reducible rfl)
      try simp only [Act.put, List.setIfInBounds_toArray, List.set_cons_zero, List.set_cons_succ]
      refine wpAnyH_take (i := 2) (v := ?_) (by simp only [List.getElem?_toArray, List.getElem?_cons_zero, List.getElem?_cons_succ]; rfl) (by kernel_rfl) (by kernel_rfl) (by kernel_rfl) (fun _ _ _ h => h) (Or.inl ⟨by rfl, ?_⟩) S0.out ?_
      case refine_2 => (intro ww hSw; obtain ⟨s1, s2⟩ := hSw; go_simp; try with_reducible rfl)
      try simp only [Act.put, List.setIfInBounds_toArray, List.set_cons_zero, List.set_cons_succ]
      refine wpAnyH_take (i := 3) (v := ?_) (by simp only [List.getElem?_toArray, List.getElem?_cons_zero, List.getElem?_cons_succ]; rfl) (by kernel_rfl) (by kernel_rfl) (by kernel_rfl) (fun _ _ _ h => h) (Or.inl ⟨by rfl, ?_⟩) S0.out ?_
      case refine_2 => (intro ww hSw; obtain ⟨s1, s2⟩ := hSw; go_simp; try with_reducible rfl)
      try simp only [Act.put, List.setIfInBounds_toArray, List.set_cons_zero, List.set_cons_succ]
      refine wpAnyH_take (i := 4) (v := ?_) (by simp only [List.getElem?_toArray, List.getElem?_cons_zero, List.getElem?_cons_succ]; rfl) (by kernel_rfl) (by kernel_rfl) (by kernel_rfl) (fun _ _ _ h => h) (Or.inl ⟨by rfl, ?_⟩) S0.out ?_
      case refine_2 => (intro ww hSw; obtain ⟨s1, s2⟩ := hSw; go_simp; try with_reducible rfl)
      try simp only [Act.put, List.setIfInBounds_toArray, List.set_cons_zero, List.set_cons_succ]
      refine wpAnyH_take (i := 5) (v := ?_) (by simp only [List.getElem?_toArray, List.getElem?_cons_zero, List.getElem?_cons_succ]; rfl) (by kernel_rfl) (by kernel_rfl) (by kernel_rfl) (fun _ _ _ h => h) (Or.inl ⟨by rfl, ?_⟩) S0.out ?_
      case refine_2 => (intro ww hSw; obtain ⟨s1, s2⟩ := hSw; go_simp; try with_reducible rfl)
      try simp only [Act.put, List.setIfInBounds_toArray, List.set_cons_zero, List.set_cons_succ]
      refine wpAnyH_take (i := 6) (v := ?_) (by simp only [List.getElem?_toArray, List.getElem?_cons_zero, List.getElem?_cons_succ]; rfl) (by kernel_rfl) (by kernel_rfl) (by kernel_rfl) (fun _ _ _ h => h) (Or.inl ⟨by rfl, ?_⟩) S0.out ?_
      case refine_2 => (intro ww hSw; obtain ⟨s1, s2⟩ := hSw; go_simp; try with_reducible rfl)
      try simp only [Act.put, List.setIfInBounds_toArray, List.set_cons_zero, List.set_cons_succ]
      refine wpAnyH_take (i := 7) (v := ?_) (by simp only [List.getElem?_toArray, List.getElem?_cons_zero, List.getElem?_cons_succ]; rfl) (by kernel_rfl) (by kernel_rfl) (by kernel_rfl) (fun _ _ _ h => h) (Or.inl ⟨by rfl, ?_⟩) S0.out ?_
      case refine_2 => (intro ww hSw; obtain ⟨s1, s2⟩ := hSw; go_simp; try with_reducible rfl)
      try simp only [Act.put, List.setIfInBounds_toArray, List.set_cons_zero, List.set_cons_succ]
      refine wpAnyH_take (i := 8) (v := ?_) (by simp only [List.getElem?_toArray, List.getElem?_cons_zero, List.getElem?_cons_succ]; rfl) (by kernel_rfl) (by kernel_rfl) (by kernel_rfl) (fun _ _ _ h => h) (Or.inl ⟨by rfl, ?_⟩) S0.out ?_
      case refine_2 => (intro ww hSw; obtain ⟨s1, s2⟩ := hSw; go_simp; try with_reducible rfl)
      try simp only [Act.put, List.setIfInBounds_toArray, List.set_cons_zero, List.set_cons_succ]
      refine wpAnyH_take (i := 9) (v := ?_) (by simp only [List.getElem?_toArray, List.getElem?_cons_zero, List.getElem?_cons_succ]; rfl) (by kernel_rfl) (by kernel_rfl) (by kernel_rfl) (fun _ _ _ h => h) (Or.inl ⟨by rfl, ?_⟩) S0.out ?_
      case refine_2 => (intro ww hSw; obtain ⟨s1, s2⟩ := hSw; go_simp; try with_reducible rfl)
      try simp only [Act.put, List.setIfInBounds_toArray, List.set_cons_zero, List.set_cons_succ]
      refine wpAnyH_take (i := 10) (v := ?_) (by simp only [List.getElem?_toArray, List.getElem?_cons_zero, List.getElem?_cons_succ]; rfl) (by kernel_rfl) (by kernel_rfl) (by kernel_rfl) (fun _ _ _ h => h) (Or.inl ⟨by rfl, ?_⟩) S0.out ?_
      case refine_2 => (intro ww hSw; obtain ⟨s1, s2⟩ := hSw; go_simp; try with_reducible rfl)
      try simp only [Act.put, List.setIfInBounds_toArray, List.set_cons_zero, List.set_cons_succ]
      refine wpAnyH_take (i := 11) (v := ?_) (by simp only [List.getElem?_toArray, List.getElem?_cons_zero, List.getElem?_cons_succ]; rfl) (by kernel_rfl) (by kernel_rfl) (by kernel_rfl) (fun _ _ _ h => h) (Or.inl ⟨by rfl, ?_⟩) S0.out ?_
      case refine_2 => (intro ww hSw; obtain ⟨s1, s2⟩ := hSw; go_simp; try with_reducible rfl)
      try simp only [Act.put, List.setIfInBounds_toArray, List.set_cons_zero, List.set_cons_succ]
      refine wpAnyH_ready (rs := [12]) (by kernel_rfl) (by simp) ?_
      refine AllReadyH.cons (by simp only [List.getElem?_toArray, List.getElem?_cons_zero, List.getElem?_cons_succ]; rfl) (fun K' hK => ?_) AllReadyH.nil
      go_simp
      refine HCALL.out.mono ?_
      rintro e w1 ⟨rfl, hb1⟩
      have HB1 : Hid (Below w.heap.size w w1) := Lib.hid ((HBW.out.drew).trans (hb1.mono HBW.out.size))
      have hs1 := HSN.out.keep HB1.out
      have ht1 := HTN.out.keep HB1.out
      have S1 : Hid (w1.cell? ⟨b, o + 4, none⟩ = some (.slice (some ⟨bs, ps, none⟩) s.ts.length cs) ∧ w1.cell? ⟨b2, o2 + 4, none⟩ = some (.slice (some ⟨bt, pt, none⟩) t.ts.length ct)) := Lib.hid ⟨hs1.ar, ht1.ar⟩
      clear hb1 HCALL hs1 ht1
      refine hK.out _ _ S1.out (fun _ => ?_)
      clear hK
      try simp only [Act.put, List.setIfInBounds_toArray, List.set_cons_zero, List.set_cons_succ]
      refine wpAnyH_done (by kernel_rfl) ?_ _
      refine NoPanic.normal ?_
      rcases rel_three rk a c with hr | hr | hr
      · rw [hr]
        have HR := Lib.hid (rel_first0 (rk := rk) H1.out H2.out (by rw [HN.out]; omega) HK.out HA.out HC.out hr)
        obtain ⟨y1, y2⟩ := S1.out
        obtain ⟨bs', ps', e1, -, hcap, hdr⟩ := NdP.drop (HSN.out.keep HB1.out).is hlt
        cases e1
        have hdk := hdr (k + 1) (by omega)
        have HDK := Lib.hid hdk
        have HW := fun (sl : Value) (hsl : NdL rk w1 (s.ts.drop (k + 1)) sl) => Lib.hid (within_any HH (s.ts.drop (k + 1)) t sl _ b2 o2 w1 hsl (HTN.out.keep HB1.out) (fun x hx => by have := mem_size (List.mem_of_mem_drop hx); exact ⟨by omega, HSB.out.kids x (List.mem_of_mem_drop hx), by omega⟩) HTB.out hts (by rw [List.length_drop]; omega))
        clear hdk hdr
        by_cases hcp : cs = k + 1
        · have hlk : s.ts.length = k + 1 := by omega
          have HLK := Lib.hid hlk
          clear hlk
          go_wp2_with fail
          refine (HW _ (NdP.none (by rw [List.drop_eq_nil_iff]; have := HLK.out; omega) (by have := HLK.out; omega) _ _)).out.mono ?_
          rintro e w2 ⟨rfl, hb2⟩
          have HB2 : Hid (Below w.heap.size w w2) := Lib.hid (HB1.out.trans (hb2.mono HB1.out.size))
          clear hb2
          go_wp2_with fail
          go_ret
          exact ⟨by rw [HR.out]; rfl, HB2.out⟩
        · go_wp2_with fail
          refine (HW _ HDK.out).out.mono ?_
          rintro e w2 ⟨rfl, hb2⟩
          have HB2 : Hid (Below w.heap.size w w2) := Lib.hid (HB1.out.trans (hb2.mono HB1.out.size))
          clear hb2
          go_wp2_with fail
          go_ret
          exact ⟨by rw [HR.out]; rfl, HB2.out⟩
      · rw [hr]
        have he : a = c := rel_1.1 hr
        have HK2 : Hid (s.ts.take (k + 1) = t.ts.take (k + 1)) := Lib.hid (by rw [List.take_add_one, List.take_add_one, HK.out, HA.out, HC.out, he])
        go_wp2_with fail
        exact ⟨⟨k + 1, by omega, by go_num, HK2, HB1⟩, by simp [intOf]; omega⟩
      · rw [hr]
        have HR := Lib.hid (rel_first2 (rk := rk) H1.out H2.out HN.out HL.out HK.out HA.out HC.out hr)
        obtain ⟨y1, y2⟩ := S1.out
        obtain ⟨bt', pt', e1, -, hcap, hdr⟩ := NdP.drop (HTN.out.keep HB1.out).is hlt2
        cases e1
        have hdk := hdr (k + 1) (by omega)
        have HDK := Lib.hid hdk
        have HW := fun (sl : Value) (hsl : NdL rk w1 (t.ts.drop (k + 1)) sl) => Lib.hid (above_any HH (t.ts.drop (k + 1)) s sl _ b o w1 hsl (HSN.out.keep HB1.out) (fun x hx => by have := mem_size (List.mem_of_mem_drop hx); exact ⟨by omega, HTB.out.kids x (List.mem_of_mem_drop hx), by omega⟩) HSB.out hss (by rw [List.length_drop]; omega))
        clear hdk hdr
        by_cases hcp : ct = k + 1
        · have hlk : t.ts.length = k + 1 := by omega
          have HLK := Lib.hid hlk
          clear hlk
          go_wp2_with fail
          refine (HW _ (NdP.none (by rw [List.drop_eq_nil_iff]; have := HLK.out; omega) (by have := HLK.out; omega) _ _)).out.mono ?_
          rintro e w2 ⟨rfl, hb2⟩
          have HB2 : Hid (Below w.heap.size w w2) := Lib.hid (HB1.out.trans (hb2.mono HB1.out.size))
          clear hb2
          go_wp2_with fail
          go_ret
          exact ⟨by rw [HR.out]; rfl, HB2.out⟩
        · go_wp2_with fail
          refine (HW _ HDK.out).out.mono ?_
          rintro e w2 ⟨rfl, hb2⟩
          have HB2 : Hid (Below w.heap.size w w2) := Lib.hid (HB1.out.trans (hb2.mono HB1.out.size))
          clear hb2
          go_wp2_with fail
          go_ret
          exact ⟨by rw [HR.out]; rfl, HB2.out⟩
    · obtain rfl : k = s.ts.length := by omega
      have HR := Lib.hid (rel_same (rk := rk) (H1.out.trans H2.out.symm) HN.out HK.out HL.out)
      go_wp2_with fail
      go_ret
      exact ⟨by rw [HR.out]; rfl, HBW.out⟩
theorem nm_beq_yes {a b : ByteArray} (h : a = b) : (a.toList == b.toList) = true := by rw [h, beq_self_eq_true]
theorem nm_beq_no {a b : ByteArray} (h : a ≠ b) : (a.toList == b.toList) = false := by
  rw [beq_eq_false_iff_ne]
  intro e
  apply h
  rw [ByteArray.toList_eq, ByteArray.toList_eq] at e
  have : a.data = b.data := Array.toList_inj.1 e
  cases a; cases b; cases this; rfl
theorem CmpH.mono {rk : ByteArray → Int} {N M : Nat} (h : CmpH rk N) (hm : M ≤ N) : CmpH rk M := fun s t sv tv b o b2 o2 W hl => h s t sv tv b o b2 o2 W (by omega)
set_option maxRecDepth 100000 in
set_option maxHeartbeats 8000000 in
theorem compare_step {rk : ByteArray → Int} (s t : Tm) (HH : Hid (CmpH rk (s.size + t.size))) (sv tv : Value) (b o b2 o2 : Nat) (w : World) (hs : NdW rk w b o s sv) (ht : NdW rk w b2 o2 t tv)
    (hsb : s.bare) (htb : t.bare) (hss : s.size ≤ 1048576) (hts : t.size ≤ 1048576) :
    Calls Try.prog 56 #[.pointer (some ⟨b, o, none⟩), .pointer (some ⟨b2, o2, none⟩)] w fun e w' => e = .returned (.int .i64 (rel rk s t)) ∧ Below w.heap.size w w' := by
  obtain ⟨os, cs, rfl⟩ := hs.is.form
  obtain ⟨ot, ct, rfl⟩ := ht.is.form
  have hlen : s.ts.length ≤ 1048576 := by have := Tm.length_sizes s.ts; have := Tm.size_eq s; omega
  have hlen2 : t.ts.length ≤ 1048576 := by have := Tm.length_sizes t.ts; have := Tm.size_eq t; omega
  have HS := Lib.hid hs
  have HT := Lib.hid ht
  have HSB := Lib.hid hsb
  have HTB := Lib.hid htb
  have HWI := fun (W : World) (hW : Below w.heap.size w W) => Lib.hid (within_any HH s.ts t (.slice os s.ts.length cs) (.slice ot t.ts.length ct) b2 o2 W (HS.out.keep hW).is (HT.out.keep hW) (fun x hx => by have := mem_size hx; exact ⟨by omega, HSB.out.kids x hx, by omega⟩) HTB.out hts hlen)
  have HAB := fun (W : World) (hW : Below w.heap.size w W) => Lib.hid (above_any HH t.ts s (.slice ot t.ts.length ct) (.slice os s.ts.length cs) b o W (HT.out.keep hW).is (HS.out.keep hW) (fun x hx => by have := mem_size hx; exact ⟨by omega, HTB.out.kids x hx, by omega⟩) HSB.out hss hlen2)
  obtain ⟨-, x0, x1, x3, x4, -⟩ := hs
  obtain ⟨-, y0, y1, y3, y4, -⟩ := ht
  clear hsb htb
  go_enter Try.func56, Try.ntmps56
  cases h1 : s.vr with
  | true =>
    rw [h1] at x1
    by_cases h2 : t.vr = true ∧ s.nm = t.nm
    · have HR := Lib.hid (rel_vars (rk := rk) HSB.out HTB.out h1 h2.1 h2.2)
      have hb := nm_beq_yes h2.2
      rw [h2.1] at y1
      clear h1 h2
      go_wp2_with fail
      go_quiet (fail)
      go_wp2_with fail
      go_ret
      exact ⟨by rw [HR.out]; rfl, below_drewN nq (Below.refl _ _)⟩
    · have HR := Lib.hid (rel_var (rk := rk) h1 h2)
      cases h3 : t.vr with
      | true =>
        have hb := nm_beq_no (fun e => h2 ⟨h3, e⟩)
        rw [h3] at y1
        clear h1 h2 h3
        go_wp2_with fail
        go_quiet (fail)
        go_wp2_with fail
        go_ret
        exact ⟨by rw [HR.out]; rfl, below_drewN nq (Below.refl _ _)⟩
      | false =>
        rw [h3] at y1
        clear h1 h2 h3
        go_wp2_with fail
        go_quiet (fail)
        go_wp2_with fail
        go_ret
        exact ⟨by rw [HR.out]; rfl, below_drewN nq (Below.refl _ _)⟩
  | false =>
    rw [h1] at x1
    cases h2 : t.vr with
    | true =>
      rw [h2] at y1
      have HR := Lib.hid (rel_funvar (rk := rk) h1 h2)
      clear h1 h2
      go_wp2_with fail
      go_quiet (fail)
      have HB := Lib.hid (below_drewN nq (Below.refl w.heap.size w))
      go_wp2_with fail
      refine (HWI _ HB.out).out.mono ?_
      rintro e w2 ⟨rfl, hb2⟩
      have HB2 : Hid (Below w.heap.size w w2) := Lib.hid (HB.out.trans (hb2.mono HB.out.size))
      clear hb2
      go_wp2_with fail
      go_ret
      exact ⟨by rw [HR.out]; rfl, HB2.out⟩
    | false =>
      rw [h2] at y1
      rw [ndRank_fun h1] at x3
      rw [ndRank_fun h2] at y3
      have H1 := Lib.hid h1
      have H2 := Lib.hid h2
      clear h1 h2
      go_wp2_with fail
      go_quiet (fail)
      have HB0 := Lib.hid (below_drewN nq (Below.refl w.heap.size w))
      have hs1 := HS.out.keep HB0.out
      have ht1 := HT.out.keep HB0.out
      generalize w.drewN nq = wa at HB0 hs1 ht1 ⊢
      clear x0 x1 x3 x4 y0 y1 y3 y4
      obtain ⟨-, x0, x1, x3, x4, -⟩ := hs1
      obtain ⟨-, y0, y1, y3, y4, -⟩ := ht1
      rw [H1.out] at x1
      rw [H2.out] at y1
      rw [ndRank_fun H1.out] at x3
      rw [ndRank_fun H2.out] at y3
      by_cases hr : rk t.nm < rk s.nm
      · have HR := Lib.hid (rel_rank (rk := rk) H1.out H2.out hr)
        have hd : decide (rk t.nm < rk s.nm) = true := decide_eq_true hr
        clear hr
        go_wp2_with fail
        go_quiet (fail)
        rename_i nq2
        have HB1 := Lib.hid (below_drewN nq HB0.out)
        go_wp2_with fail
        refine (HAB _ HB1.out).out.mono ?_
        rintro e w2 ⟨rfl, hb2⟩
        have HB2 : Hid (Below w.heap.size w w2) := Lib.hid (HB1.out.trans (hb2.mono HB1.out.size))
        clear hb2
        go_wp2_with fail
        go_ret
        exact ⟨by rw [HR.out]; rfl, HB2.out⟩
      · have HRK := Lib.hid hr
        have hd : decide (rk t.nm < rk s.nm) = false := decide_eq_false hr
        clear hr
        go_wp2_with fail
        go_quiet (fail)
        have HB1 := Lib.hid (below_drewN nq HB0.out)
        have hs1 := HS.out.keep HB1.out
        have ht1 := HT.out.keep HB1.out
        generalize wa.drewN nq = wb at HB1 hs1 ht1 ⊢
        clear x0 x1 x3 x4 y0 y1 y3 y4 hd
        obtain ⟨-, x0, x1, x3, x4, -⟩ := hs1
        obtain ⟨-, y0, y1, y3, y4, -⟩ := ht1
        rw [H1.out] at x1
        rw [H2.out] at y1
        rw [ndRank_fun H1.out] at x3
        rw [ndRank_fun H2.out] at y3
        by_cases hn : s.nm = t.nm
        · have hb := nm_beq_yes hn
          by_cases hl : s.ts.length = t.ts.length
          · have hlb : ((s.ts.length : Int) == (t.ts.length : Int)) = true := by rw [hl]; simp
            have HE : Hid (s.nm = t.nm ∧ s.ts.length = t.ts.length) := Lib.hid ⟨hn, hl⟩
            clear hn hl
            go_wp2_with fail
            go_quiet (fail)
            have HB2 := Lib.hid (below_drewN nq HB1.out)
            go_wp2_with fail
            refine (inOrder_any s t HH (.slice os s.ts.length cs) (.slice ot t.ts.length ct) b o b2 o2 _ (HS.out.keep HB2.out) (HT.out.keep HB2.out) HSB.out HTB.out hss hts H1.out H2.out HE.out.1 HE.out.2).mono ?_
            rintro e w2 ⟨rfl, hb2⟩
            have HB3 : Hid (Below w.heap.size w w2) := Lib.hid (HB2.out.trans (hb2.mono HB2.out.size))
            clear hb2
            go_wp2_with fail
            go_ret
            exact ⟨rfl, HB3.out⟩
          · have hlb : ((s.ts.length : Int) == (t.ts.length : Int)) = false := by rw [beq_eq_false_iff_ne]; omega
            have HR := Lib.hid (rel_other (rk := rk) H1.out (Int.not_lt.2 HRK.out) (fun h => hl h.2))
            clear hn hl
            go_wp2_with fail
            go_quiet (fail)
            have HB2 := Lib.hid (below_drewN nq HB1.out)
            go_wp2_with fail
            refine (HWI _ HB2.out).out.mono ?_
            rintro e w2 ⟨rfl, hb2⟩
            have HB3 : Hid (Below w.heap.size w w2) := Lib.hid (HB2.out.trans (hb2.mono HB2.out.size))
            clear hb2
            go_wp2_with fail
            go_ret
            exact ⟨by rw [HR.out]; rfl, HB3.out⟩
        · have hb := nm_beq_no hn
          have HR := Lib.hid (rel_other (rk := rk) H1.out (Int.not_lt.2 HRK.out) (fun h => hn h.1))
          clear hn
          go_wp2_with fail
          go_quiet (fail)
          have HB2 := Lib.hid (below_drewN nq HB1.out)
          go_wp2_with fail
          refine (HWI _ HB2.out).out.mono ?_
          rintro e w2 ⟨rfl, hb2⟩
          have HB3 : Hid (Below w.heap.size w w2) := Lib.hid (HB2.out.trans (hb2.mono HB2.out.size))
          clear hb2
          go_wp2_with fail
          go_ret
          exact ⟨by rw [HR.out]; rfl, HB3.out⟩
theorem cmp_any (rk : ByteArray → Int) (N : Nat) : CmpH rk N := by
  induction N with
  | zero => intro s t sv tv b o b2 o2 W h; omega
  | succ N ih =>
    intro s t sv tv b o b2 o2 W h hsb htb hss hts hs ht
    exact compare_step s t (Lib.hid (ih.mono (by omega))) sv tv b o b2 o2 W hs ht hsb htb hss hts
end Go.Proofs.Ytdnkommcnkbeeaa
