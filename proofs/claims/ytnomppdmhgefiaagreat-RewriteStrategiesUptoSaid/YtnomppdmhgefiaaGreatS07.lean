/- Packed: Bind. -/
import Derived.WalkKit
import Derived.ProofKit
import Derived.OpenShut
import Derived.Handy
import Derived.Lib.Hide
import Derived.BigQuiet
import Derived.Deep.RegionHeld3
import Derived.Deep.LoopGhost
import Derived.Test.YtnomppdmhgefiaaGreatS02
import Derived.Test.YtnomppdmhgefiaaGreatS04
import Derived.StillTailTactics
import Derived.Test.YtnomppdmhgefiaaGreatS06
/- Merged: Cmp, Cmp2, Ins, Ins2, Bind. -/
/- The reference's comparison of terms: zero just where the terms are equal. -/
namespace Go.Proofs.YtnomppdmhgefiaaGreat
open Go.RowKit

def cmpi (a b : Int) : Int := if a < b then -1 else if b < a then 1 else 0
theorem cmpi_zero (a b : Int) : cmpi a b = 0 ↔ a = b := by unfold cmpi; split <;> (try split) <;> omega

set_option maxHeartbeats 400000 in
theorem cmpInts_any (a b : Int) (w : World) : Calls Tryz.prog 112 #[.int .i64 a, .int .i64 b] w fun e w' => e = .returned (.int .i64 (cmpi a b)) ∧ w = w' := by
  by_cases h1 : a < b
  · have HE := Lib.hid (show cmpi a b = -1 by simp [cmpi, h1])
    go_enter Tryz.func112, Tryz.ntmps112
    go_wp2_with fail
    go_ret
    exact ⟨ret_int HE.out.symm, rfl⟩
  · by_cases h2 : b < a
    · have HE := Lib.hid (show cmpi a b = 1 by simp [cmpi, h1, h2])
      go_enter Tryz.func112, Tryz.ntmps112
      go_wp2_with fail
      go_ret
      exact ⟨ret_int HE.out.symm, rfl⟩
    · have HE := Lib.hid (show cmpi a b = 0 by simp [cmpi, h1, h2])
      go_enter Tryz.func112, Tryz.ntmps112
      go_wp2_with fail
      go_ret
      exact ⟨ret_int HE.out.symm, rfl⟩

/-- where two names first part -/
theorem names_eq {a b : ByteArray} (hs : a.size = b.size) (h : ∀ k, k < a.size → a.data.toList[k]? = b.data.toList[k]?) : a = b := by
  have e : a.data.toList = b.data.toList := by
    apply List.ext_getElem?
    intro k
    by_cases hk : k < a.size
    · exact h k hk
    · rw [List.getElem?_eq_none (by rw [bytes_len]; omega), List.getElem?_eq_none (by rw [bytes_len]; omega)]
  cases a; cases b
  simpa using e

theorem cmpi_neg (a b : Int) : cmpi a b < 0 ↔ a < b := by unfold cmpi; split <;> (try split) <;> omega
theorem lt_split {l r : List UInt8} {k : Nat} {x y : UInt8} (h : ∀ j, j < k → l[j]? = r[j]?) (hx : l[k]? = some x) (hy : r[k]? = some y) (hne : x ≠ y) : l < r ↔ x < y := by
  induction k generalizing l r with
  | zero =>
    cases l with
    | nil => cases hx
    | cons a l =>
      cases r with
      | nil => cases hy
      | cons b r =>
        simp at hx hy; subst hx; subst hy
        rw [List.cons_lt_cons_iff]
        exact ⟨fun h => by rcases h with h | ⟨h, _⟩; exact h; exact absurd h hne, .inl⟩
  | succ k ih =>
    cases l with
    | nil => cases hx
    | cons a l =>
      cases r with
      | nil => cases hy
      | cons b r =>
        have h0 := h 0 (by omega)
        simp at h0; subst h0
        rw [List.cons_lt_cons_iff]
        have h2 := ih (l := l) (r := r) (fun j hj => by simpa using h (j + 1) (by omega)) (by simpa using hx) (by simpa using hy)
        rw [← h2]
        exact ⟨fun h => by rcases h with h | ⟨_, h⟩; exact absurd h (UInt8.lt_irrefl _); exact h, fun h => .inr ⟨rfl, h⟩⟩
theorem lt_end {l r : List UInt8} {k : Nat} (h : ∀ j, j < k → l[j]? = r[j]?) (h1 : k ≤ l.length) (h2 : k ≤ r.length) (hk : k = l.length ∨ k = r.length) : l < r ↔ l.length < r.length := by
  induction k generalizing l r with
  | zero =>
    cases l with
    | nil =>
      cases r with
      | nil => simp
      | cons b r => simp
    | cons a l =>
      cases r with
      | nil => simp
      | cons b r => simp at hk
  | succ k ih =>
    cases l with
    | nil => simp at h1
    | cons a l =>
      cases r with
      | nil => simp at h2
      | cons b r =>
        have h0 := h 0 (by omega)
        simp at h0; subst h0
        rw [List.cons_lt_cons_iff]
        have h3 := ih (l := l) (r := r) (fun j hj => by simpa using h (j + 1) (by omega)) (by simpa using h1) (by simpa using h2) (by simpa using hk)
        rw [List.length_cons, List.length_cons, Nat.add_lt_add_iff_right, ← h3]
        exact ⟨fun h => by rcases h with h | ⟨_, h⟩; exact absurd h (UInt8.lt_irrefl _); exact h, fun h => .inr ⟨rfl, h⟩⟩

set_option maxHeartbeats 1000000 in
theorem cmpNames_full (a b : ByteArray) (w : World) (ha : a.size ≤ 1048576) (hb : b.size ≤ 1048576) :
    Calls Tryz.prog 52 #[.string a, .string b] w fun e w' => (∃ c : Int, e = .returned (.int .i64 c) ∧ (c = 0 ↔ a = b) ∧ (c < 0 ↔ a.data.toList < b.data.toList)) ∧ Below w.heap.size w w' := by
  go_enter Tryz.func52, Tryz.ntmps52
  go_wp2_with fail
  go_loopw [5, 11] (fun _ i wr => ∃ k : Nat, k ≤ a.size ∧ k ≤ b.size ∧ i = .int .i64 k ∧ Hid (∀ j, j < k → a.data.toList[j]? = b.data.toList[j]?) ∧ Below w.heap.size w wr) (fun _ i _ => a.size - (intOf i).toNat)
  case atStart => exact ⟨0, by omega, by omega, rfl, Lib.hid (fun j h => absurd h (by omega)), Below.refl _ _⟩
  case round =>
    obtain ⟨k, hka, hkb, rfl, HE, hbw⟩ := hrel
    by_cases hlt : k < a.size ∧ k < b.size
    · obtain ⟨h1, h2⟩ := hlt
      have GA := Lib.hid (bytes_get h1)
      have GB := Lib.hid (bytes_get h2)
      by_cases hq : a[k].toNat = b[k].toNat
      · have HQ : Hid (a[k] = b[k]) := Lib.hid (UInt8.toNat_inj.1 hq)
        have hbb : (((a[k]'h1).toNat : Int) != ((b[k]'h2).toNat : Int)) = false := by rw [bne_eq_false_iff_eq]; omega
        clear hq
        go_wp2_with fail
        go_quiet (fail)
        go_wp2_with fail
        exact ⟨⟨k + 1, by omega, by omega, by go_num, Lib.hid (fun j hj => by
          by_cases e : j = k
          · subst e; rw [GA.out, GB.out, HQ.out]
          · exact HE.out j (by omega)), below_drewN nq hbw⟩, by simp [intOf]; omega⟩
      · have HQ : Hid (a ≠ b) := Lib.hid (fun e => hq (by subst e; rfl))
        have HLT : Hid (cmpi ((a[k]'h1).toNat : Int) ((b[k]'h2).toNat : Int) < 0 ↔ a.data.toList < b.data.toList) := Lib.hid (by
          rw [cmpi_neg, lt_split HE.out GA.out GB.out (fun e => hq (by rw [e])), UInt8.lt_iff_toNat_lt]; omega)
        have HZ : Hid (cmpi ((a[k]'h1).toNat : Int) ((b[k]'h2).toNat : Int) ≠ 0) := Lib.hid (fun e => hq (by have := (cmpi_zero _ _).1 e; omega))
        have hbb : (((a[k]'h1).toNat : Int) != ((b[k]'h2).toNat : Int)) = true := by rw [bne_iff_ne]; omega
        clear hq
        go_wp2_with fail
        go_quiet (fail)
        go_wp2_with fail
        have hbq := below_drewN nq hbw
        generalize wr.drewN nq = wq at hbq ⊢
        have hla := UInt8.toNat_lt (a[k]'h1)
        have hlb := UInt8.toNat_lt (b[k]'h2)
        have hwa : IntKind.i64.wrap ((a[k]'h1).toNat : Int) = ((a[k]'h1).toNat : Int) := IntWalk.i64_in _ (by omega)
        have hwb : IntKind.i64.wrap ((b[k]'h2).toNat : Int) = ((b[k]'h2).toNat : Int) := IntWalk.i64_in _ (by omega)
        go_quiet ((go_at_call 112; exact Calls.quiet_of_same ((cmpInts_any _ _ _).mono fun _ _ h => ⟨h.1, h.2.symm⟩)))
        go_wp2_with fail
        go_ret
        exact ⟨⟨_, rfl, ⟨fun h => absurd h HZ.out, fun h => absurd h HQ.out⟩, HLT.out⟩, below_drewN _ hbq⟩
    · go_wp2_with fail
      refine (cmpInts_any _ _ _).mono ?_
      rintro e w2 ⟨rfl, rfl⟩
      go_wp2_with fail
      go_ret
      refine ⟨⟨_, rfl, ⟨fun h => ?_, fun h => ?_⟩, ?_⟩, hbw⟩
      · have := (cmpi_zero _ _).1 h
        exact names_eq (by omega) (fun j hj => HE.out j (by omega))
      · subst h; exact (cmpi_zero _ _).2 rfl
      · rw [cmpi_neg, lt_end HE.out (by rw [bytes_len]; omega) (by rw [bytes_len]; omega) (by rw [bytes_len, bytes_len]; omega), bytes_len, bytes_len]; omega
theorem cmpNames_any (a b : ByteArray) (w : World) (ha : a.size ≤ 1048576) (hb : b.size ≤ 1048576) :
    Calls Tryz.prog 52 #[.string a, .string b] w fun e w' => (∃ c : Int, e = .returned (.int .i64 c) ∧ (c = 0 ↔ a = b)) ∧ Below w.heap.size w w' :=
  (cmpNames_full a b w ha hb).mono fun _ _ ⟨⟨c, h, h1, _⟩, hb⟩ => ⟨⟨c, h, h1⟩, hb⟩
end Go.Proofs.YtnomppdmhgefiaaGreat
/- The reference's Compare and Equal on terms. -/
namespace Go.Proofs.YtnomppdmhgefiaaGreat
open Go.RowKit

theorem Tm.ext' {a b : Tm} (h1 : a.nm = b.nm) (h2 : a.vr = b.vr) (h3 : a.ts = b.ts) : a = b := by
  cases a; cases b; simp only [Tm.nm, Tm.vr, Tm.ts] at h1 h2 h3; subst h1; subst h2; subst h3; rfl
set_option maxRecDepth 100000 in
set_option maxHeartbeats 4000000 in
theorem rcompare_any (a : Tm) : ∀ (b : Tm) (sa sb : Value) (w : World), a.bulk ≤ 1048576 → b.bulk ≤ 1048576 → SlIs w.heap.size w a.ts sa → SlIs w.heap.size w b.ts sb →
    Calls Tryz.prog 55 #[tmv a sa, tmv b sb] w fun e w' => (∃ c : Int, e = .returned (.int .i64 c) ∧ (c = 0 ↔ a = b)) ∧ Below w.heap.size w w' := by
  induction a using Tm.ind with
  | h a ih =>
    intro b sa sb w hba hbb hsa hsb
    obtain ⟨oa, ca, rfl, -⟩ := hsa.form
    obtain ⟨ob, cb, rfl, -⟩ := hsb.form
    have hea := Tm.bulk_eq a
    have heb := Tm.bulk_eq b
    have hla := Tm.length_sizes a.ts
    have hlb := Tm.length_sizes b.ts
    have hza := Tm.size_bulk a
    have hzb := Tm.size_bulk b
    have hya := Tm.size_eq a
    have hyb := Tm.size_eq b
    have hna : a.nm.size ≤ 1048576 := by omega
    have hnb : b.nm.size ≤ 1048576 := by omega
    have hta : a.ts.length ≤ 1048576 := by omega
    have htb : b.ts.length ≤ 1048576 := by omega
    have HA := Lib.hid hea
    have HB := Lib.hid heb
    have IH := Lib.hid ih
    clear hea heb hya hyb ih hla hlb hza hzb
    by_cases hv : a.vr = b.vr
    · have HV := Lib.hid hv
      have hvv : (!a.vr == b.vr) = false := by rw [hv]; cases b.vr <;> rfl
      clear hv
      go_enter Tryz.func55, Tryz.ntmps55
      go_wp2_with fail
      refine (cmpNames_any _ _ _ hna hnb).mono ?_
      rintro e w1 ⟨⟨c1, rfl, hc1⟩, hb1⟩
      have HC1 := Lib.hid hc1
      have x0 := (hb1.cell (p := ⟨w.heap.size, 2, none⟩) (by simp; omega)).trans ((cell_old _ _ _ 2 (by simp)).trans (cell_at_new w _ _ 2))
      have x1 := (hb1.cell (p := ⟨w.heap.size + 1, 2, none⟩) (by simp)).trans (cell_new_at _ _ _ _ 2 (by simp))
      simp only [List.getElem?_toArray, List.getElem?_cons_zero, List.getElem?_cons_succ] at x0 x1
      have hz1 : w.heap.size + 2 ≤ w1.heap.size := by have := hb1.size; simpa using this
      have HB1 : Hid (Below w.heap.size w w1) := Lib.hid (Below.trans (by go_grown) (hb1.mono (by simp; omega)))
      clear hb1 hc1
      by_cases h1 : c1 = 0
      · subst h1
        go_wp2_with fail
        refine (cmpInts_any _ _ _).mono ?_
        rintro e w2 ⟨rfl, rfl⟩
        by_cases h2 : a.ts.length = b.ts.length
        · have h2' : ((a.ts.length : Int)) = (b.ts.length : Int) := by omega
          rw [show cmpi (a.ts.length : Int) (b.ts.length : Int) = 0 from (cmpi_zero _ _).2 h2']
          clear h2'
          go_wp2_with fail
          have H2 := Lib.hid h2
          go_loopw [7, 8, 37] (fun _ _ i wr => ∃ k : Nat, k ≤ b.ts.length ∧ i = .int .i64 k ∧ Hid (a.ts.take k = b.ts.take k) ∧ Below (w.heap.size + 2) w1 wr) (fun _ _ i _ => b.ts.length - (intOf i).toNat)
          case atStart => exact ⟨0, by omega, rfl, Lib.hid rfl, Below.refl _ _⟩
          case round =>
            obtain ⟨k, hk, rfl, HT, hbw⟩ := hrel
            have hbw2 : Below w.heap.size w wr := HB1.out.trans (hbw.mono (by omega))
            have hzw := hbw.size
            by_cases hlt : k < b.ts.length
            · obtain ⟨b1, o1, u, su, rfl, hbb1, hu, hum, hus, c1, c2, c3⟩ := (hsa.carry hbw2 (Nat.le_refl _)).get (k := k) (by omega)
              obtain ⟨b2, o2, v, sv, rfl, hbb2, hv, hvm, hvs, d1, d2, d3⟩ := (hsb.carry hbw2 (Nat.le_refl _)).get (k := k) (by omega)
              obtain ⟨ou, cu, rfl, -⟩ := hus.form
              obtain ⟨ov, cv, rfl, -⟩ := hvs.form
              have y0 := (hbw.cell (p := ⟨w.heap.size, 2, none⟩) (by simp)).trans x0
              have y1 := (hbw.cell (p := ⟨w.heap.size + 1, 2, none⟩) (by simp)).trans x1
              rw [H2.out] at y0
              have hbu : u.bulk ≤ 1048576 := by have := Tm.bulk_mem hum; have := HA.out; omega
              have hbv : v.bulk ≤ 1048576 := by have := Tm.bulk_mem hvm; have := HB.out; omega
              have HU := Lib.hid hu
              have HVV := Lib.hid hv
              have IHu := fun W1 (hW : Below w.heap.size wr W1) => Lib.hid (IH.out u hum v _ _ W1 hbu hbv (hus.carry (B := W1) hW (by have := hW.size; omega)) (hvs.carry (B := W1) hW (by have := hW.size; omega)))
              clear hu hv h2
              go_wp2_with fail
              go_still_tail 10, (by kernel_rfl)
              go_wp2_with fail
              refine (IHu wr.drew (Below.refl _ wr).drew).out.mono ?_
              rintro e w9 ⟨⟨c9, rfl, hc9⟩, hb9⟩
              have HC9 := Lib.hid hc9
              have hbw9 : Below (w.heap.size + 2) w1 w9 := hbw.trans (((Below.refl _ wr).drew).trans (hb9.mono (by show _ ≤ wr.heap.size; omega)))
              have HB9 := Lib.hid hbw9
              clear hb9 hc9 hbw9 IHu
              by_cases h9 : c9 = 0
              · have HQ := Lib.hid (HC9.out.1 h9)
                subst h9
                go_wp2_with fail
                exact ⟨⟨k + 1, by omega, by go_num, Lib.hid (by rw [Tm.take_snoc HU.out, Tm.take_snoc HVV.out, HT.out, HQ.out]), HB9.out⟩, by simp [intOf]; omega⟩
              · have H9 := Lib.hid h9
                have h9' : (c9 != 0) = true := by rw [bne_iff_ne]; exact h9
                clear h9
                go_wp2_with fail
                go_ret
                refine ⟨⟨_, rfl, fun h => absurd h H9.out, fun h => absurd (HC9.out.2 ?_) H9.out⟩, HB1.out.trans (HB9.out.mono (by omega))⟩
                subst h
                exact Option.some.inj (HU.out.symm.trans HVV.out)
            · obtain rfl : k = b.ts.length := by omega
              go_wp2_with fail
              go_ret
              refine ⟨⟨_, rfl, fun _ => Tm.ext' (HC1.out.1 (by first | trivial | rfl)) HV.out ?_, fun _ => rfl⟩, hbw2⟩
              have h := HT.out
              rwa [List.take_of_length_le (Nat.le_refl _), List.take_of_length_le (by have := H2.out; omega)] at h
        · have h3 : ((cmpi (a.ts.length : Int) (b.ts.length : Int)) != 0) = true := by rw [bne_iff_ne]; intro e; have := (cmpi_zero _ _).1 e; omega
          have H3 : Hid (cmpi (a.ts.length : Int) (b.ts.length : Int) ≠ 0) := Lib.hid (by rw [← bne_iff_ne]; exact h3)
          have H2 := Lib.hid h2
          clear h2
          go_wp2_with fail
          go_ret
          exact ⟨⟨_, rfl, fun h => absurd h H3.out, fun h => absurd (by rw [h]) H2.out⟩, HB1.out⟩
      · have h1' : (c1 != 0) = true := by rw [bne_iff_ne]; exact h1
        have H1 := Lib.hid h1
        clear h1
        go_wp2_with fail
        go_ret
        exact ⟨⟨_, rfl, fun h => absurd h H1.out, fun h => absurd (HC1.out.2 (by rw [h])) H1.out⟩, HB1.out⟩
    · have HV := Lib.hid hv
      have hvv : (!a.vr == b.vr) = true := by revert hv; cases a.vr <;> cases b.vr <;> simp
      have HN : Hid (a ≠ b) := Lib.hid (fun e => hv (by rw [e]))
      clear hv
      go_enter Tryz.func55, Tryz.ntmps55
      go_wp2_with fail
      all_goals
        go_ret
        exact ⟨⟨_, rfl, fun h => by omega, fun h => absurd h HN.out⟩, by go_grown⟩

set_option maxRecDepth 100000 in
set_option maxHeartbeats 1000000 in
theorem requal_any (a b : Tm) (sa sb : Value) (w : World) (hba : a.bulk ≤ 1048576) (hbb : b.bulk ≤ 1048576) (hsa : SlIs w.heap.size w a.ts sa) (hsb : SlIs w.heap.size w b.ts sb) :
    Calls Tryz.prog 16 #[tmv a sa, tmv b sb] w fun e w' => (∃ x : Bool, e = .returned (.bool x) ∧ (x = true ↔ a = b)) ∧ Below w.heap.size w w' := by
  have hG : Below w.heap.size w ((w.alloc (.cells #[.string a.nm, .bool a.vr, sa] 25)).alloc (.cells #[.string b.nm, .bool b.vr, sb] 25)) := by go_grown
  have HC := Lib.hid (rcompare_any a b sa sb _ hba hbb (hsa.carry hG (by simp; omega)) (hsb.carry hG (by simp; omega)))
  have HG := Lib.hid hG
  clear hG
  obtain ⟨oa, ca, rfl, -⟩ := hsa.form
  obtain ⟨ob, cb, rfl, -⟩ := hsb.form
  clear hsa hsb
  go_enter Tryz.func16, Tryz.ntmps16
  go_wp2_with fail
  refine HC.out.mono ?_
  rintro e w1 ⟨⟨c, rfl, hc⟩, hb1⟩
  have HC1 := Lib.hid hc
  have HB := Lib.hid hb1
  clear hc hb1 HC
  go_wp2_with fail
  go_ret
  exact ⟨⟨_, rfl, by rw [beq_iff_eq]; exact HC1.out⟩, HG.out.trans (HB.out.mono (by simp; omega))⟩
end Go.Proofs.YtnomppdmhgefiaaGreat
/- The reference's Insert. -/
namespace Go.Proofs.YtnomppdmhgefiaaGreat
open Go.RowKit

/-- the cells of the first strings of a slice -/
theorem strIs_take {n : Nat} {W : World} {l : List Key} {b o cap : Nat} (h : StrIs n W l (.slice (some ⟨b, o, none⟩) l.length cap)) (j : Nat) : ∀ i u, (strs (l.take j))[i]? = some u → W.cell? ((⟨b, o, none⟩ : Addr).add i) = some u := by
  intro i u hu
  refine h.news.2 _ rfl i u ?_
  have hlt := (List.getElem?_eq_some_iff.1 hu).1
  rw [strs_length, List.length_take] at hlt
  rw [strs, List.getElem?_map] at hu ⊢
  rw [List.getElem?_take, if_pos (by omega)] at hu
  exact hu
/-- and of the others -/
theorem strIs_drop {n : Nat} {W : World} {l : List Key} {b o cap : Nat} (h : StrIs n W l (.slice (some ⟨b, o, none⟩) l.length cap)) (j : Nat) {oa : Option Addr} (hoa : ¬ cap = j → oa = some ⟨b, o + j, none⟩) (hj : j ≤ l.length) (hc : l.length ≤ cap) : ∀ ad, oa = some ad → ∀ i u, (strs (l.drop j))[i]? = some u → W.cell? (ad.add i) = some u := by
  intro ad had i u hu
  have hlt := (List.getElem?_eq_some_iff.1 hu).1
  rw [strs_length, List.length_drop] at hlt
  rw [hoa (by omega)] at had
  cases had
  rw [strs, List.getElem?_map, List.getElem?_drop] at hu
  have := h.news.2 _ rfl (j + i) u (by rw [strs, List.getElem?_map]; exact hu)
  rw [ad_add] at this ⊢
  rw [Nat.add_assoc]; exact this

/-- k stands in l, or is put before the first name that is not less -/
def InsAt (l : List Key) (k : Key) (r : List Key) : Prop := ∃ j, j ≤ l.length ∧ (∀ x ∈ l.take j, x < k) ∧ ((r = l ∧ k ∈ l) ∨ (r = l.take j ++ [k] ++ l.drop j ∧ ∀ x, l[j]? = some x → x ≠ k ∧ ¬ x < k))
theorem take_less {l : List Key} {k x : Key} {j : Nat} (h : ∀ x ∈ l.take j, x < k) (hx : l[j]? = some x) (hl : x < k) : ∀ x ∈ l.take (j + 1), x < k := fun y hy => by
  rw [List.take_add_one, hx] at hy
  rcases List.mem_append.1 hy with hy | hy
  · exact h y hy
  · obtain rfl : y = x := by simpa using hy
    exact hl

set_option maxRecDepth 100000 in
set_option maxHeartbeats 2000000 in
theorem rinsert_some (l : List Key) (k : Key) (b1 o1 cl : Nat) (w : World) (hl : StrIs w.heap.size w l (.slice (some ⟨b1, o1, none⟩) l.length cl)) (hlen : l.length ≤ 1048576) (hk : k.length ≤ 1048576) (hls : ∀ x ∈ l, x.length ≤ 1048576) :
    Calls Tryz.prog 247 #[.slice (some ⟨b1, o1, none⟩) l.length cl, .string (kb k)] w fun e w' => (∃ v' r, e = .returned v' ∧ StrIs w'.heap.size w' r v' ∧ InsAt l k r) ∧ Below w.heap.size w w' := by
  have hl' := hl
  obtain ⟨ol, cl', he, hcap, -, hc⟩ := hl'
  simp only [Value.slice.injEq, true_and] at he
  obtain ⟨rfl, rfl⟩ := he
  obtain ⟨i0, hi, hz, hs1, hb1⟩ := info_parts infoStr
  have HI := Lib.hid hi
  have HZ := Lib.hid hz
  have HS1 := Lib.hid hs1
  have HB1 := Lib.hid hb1
  have HL := Lib.hid hl
  have HC := Lib.hid hc
  have HLS := Lib.hid hls
  clear hi hz hs1 hb1 hl hc hls
  go_enter Tryz.func247, Tryz.ntmps247
  go_wp2_with fail
  go_loopw [5] (fun i wr => ∃ j : Nat, j ≤ l.length ∧ i = .int .i64 j ∧ Hid (∀ x ∈ l.take j, x < k) ∧ Below w.heap.size w wr) (fun i _ => l.length - (intOf i).toNat)
  case atStart => exact ⟨0, by omega, rfl, Lib.hid (by simp), Below.refl _ _⟩
  case round =>
    obtain ⟨j, hj, rfl, HLS2, hbw⟩ := hrel
    have hjc : j ≤ cl := by omega
    by_cases hlt : j < l.length
    · obtain ⟨x, hx⟩ : ∃ x, l[j]? = some x := ⟨_, List.getElem?_eq_getElem hlt⟩
      obtain ⟨b2, o2, hbo, hbn, hc1⟩ := HC.out (by rintro rfl; simp at hlt)
      simp only [Option.some.injEq, Addr.mk.injEq, and_true] at hbo
      obtain ⟨rfl, rfl⟩ := hbo
      have h1 := (hbw.cell (p := ⟨b1, o1 + j, none⟩) hbn).trans (hc1 j x hx)
      have hxl := HLS.out x (List.mem_of_getElem? hx)
      have HX := Lib.hid hx
      have HBW := Lib.hid hbw
      have hz := hbw.size
      clear hc1 hx hbw
      go_wp2_with fail
      refine (cmpNames_full (kb x) (kb k) _ (by show x.toArray.size ≤ _; simpa using hxl) (by show k.toArray.size ≤ _; simpa using hk)).mono ?_
      rintro e wr1 ⟨⟨c1, rfl, -, hcl⟩, hb1⟩
      have HCL := Lib.hid hcl
      clear hcl
      have hbx := HBW.out.trans (hb1.mono hz)
      have h1 := (hb1.cell (p := ⟨b1, o1 + j, none⟩) (Nat.lt_of_lt_of_le hbn hz)).trans h1
      have HBX := Lib.hid hbx
      have hzx := hbx.size
      clear hb1 hbx HBW hz
      by_cases hc0 : c1 < 0
      · go_wp2_with fail
        exact ⟨⟨j + 1, by omega, by go_num, Lib.hid (take_less HLS2.out HX.out (by have := HCL.out.1 (by assumption); simpa [key_kb] using this)), HBX.out⟩, by simp [intOf]; omega⟩
      · by_cases hxk : x = k
        · have hbb := kb_beq_yes hxk
          have HXK := Lib.hid hxk
          clear hxk
          go_wp2_with fail
          go_ret
          exact ⟨⟨_, l, rfl, HL.out.carry HBX.out hzx, j, hj, HLS2.out, .inl ⟨rfl, by rw [← HXK.out]; exact List.mem_of_getElem? HX.out⟩⟩, HBX.out⟩
        · have hbb := kb_beq_no hxk
          have HNK : Hid (∀ y, l[j]? = some y → y ≠ k ∧ ¬ y < k) := Lib.hid (fun y hy => by
            rw [HX.out] at hy; cases hy
            exact ⟨hxk, fun hlt => hc0 (HCL.out.2 (by simpa [key_kb] using hlt))⟩)
          clear hxk
          have HN := Lib.hid (HL.out.carry HBX.out hzx)
          go_wp2_with fail
          have hcj : ¬ cl = j := by omega
          go_region_held3 (fun w' => wr1.heap.size ≤ w'.heap.size) (first | exact HZ3.out | exact HZ2.out | exact Nat.le_of_lt HZ1.out | (simp; done) | (have := HZ2.out; simp; omega) | (have := HZ1.out; simp; omega) | (simp; omega)) ((first
      | (refine step_append_opt rfl (.tmp 34) (.tmp 37) 81 rfl wr1.heap.size 9 i0 (.string ⟨#[]⟩) 1 16 Tryz.underlying81 HI.out HZ.out HS1.out HB1.out rfl (by decide) (.slice (some ⟨wr1.heap.size, 0, none⟩) 0 0) 0 [] rfl ?own (some ⟨b1, o1, none⟩) j _ (strs (l.take j)) rfl (by rw [strs_length, List.length_take]; omega) (fun h => by cases h) (fun ad had => by cases had; exact strIs_take (HN.out.carry (by go_grown) (Nat.le_refl _)) j) (strs_one _) (by unfold maxLen; omega) (by omega) (by first | (simp; done) | (simp; omega)) ?_
         case own => first
           | exact ownsRow_made _ (heap_new_at _ _ _ (by simp)) (by simp) rfl (by decide)
           | exact ownsRow_made _ ((Below.heap_alloc _ _ _ (by simp)).trans (heap_new_at _ _ _ (by simp))) (by simp) rfl (by decide)
         intro v1 w1 ho1 hg1 hat1
         have hb1 := (show Below wr1.heap.size wr1 _ from by go_grown).grown hg1 (by first | (simp; done) | (simp; omega)) (by simp [Value.ownBlock])
         first
         | (have HK := Lib.hid ((hg1.block (wr1.heap.size + 1) (by simp) (by simp [Value.ownBlock])).trans (heap_new_at _ (.cells #[.string (kb k)] 9) _ (by simp))))
         | skip
         have HZ1 := Lib.hid (show wr1.heap.size < w1.heap.size from by have := hg1.size; simp at this; omega)
         have HO1 := Lib.hid ho1
         have HBL1 := Lib.hid hb1
         clear ho1 hg1 hat1 hb1)
      | (refine step_append_opt rfl (.tmp 34) (.tmp 37) 81 rfl wr1.heap.size 9 i0 (.string ⟨#[]⟩) 1 16 Tryz.underlying81 HI.out HZ.out HS1.out HB1.out rfl (by decide) (.slice (some ⟨wr1.heap.size + 1, 0, none⟩) 0 0) 0 [] rfl ?own (some ⟨b1, o1, none⟩) j _ (strs (l.take j)) rfl (by rw [strs_length, List.length_take]; omega) (fun h => by cases h) (fun ad had => by cases had; exact strIs_take (HN.out.carry (by go_grown) (Nat.le_refl _)) j) (strs_one _) (by unfold maxLen; omega) (by omega) (by first | (simp; done) | (simp; omega)) ?_
         case own => exact ownsRow_made _ (heap_new_at _ _ _ (by simp)) (by simp) rfl (by decide)
         intro v1 w1 ho1 hg1 hat1
         have hb1 := (show Below wr1.heap.size wr1 _ from by go_grown).grown hg1 (by first | (simp; done) | (simp; omega)) (by first | (simp [Value.ownBlock]; done) | (simp [Value.ownBlock]; omega))
         have HK := Lib.hid ((hg1.block wr1.heap.size (by first | (simp; done) | (simp; omega)) (by simp [Value.ownBlock])).trans ((Below.heap_alloc _ _ _ (by simp)).trans (heap_new_at _ (.cells #[.string (kb k)] 9) _ (by simp))))
         have HZ1 := Lib.hid (show wr1.heap.size < w1.heap.size from by have := hg1.size; simp at this; omega)
         have HO1 := Lib.hid ho1
         have HBL1 := Lib.hid hb1
         clear ho1 hg1 hat1 hb1)
      | (refine step_append_opt rfl (.tmp 38) (.tmp 40) 81 rfl wr1.heap.size 9 i0 (.string ⟨#[]⟩) 1 16 Tryz.underlying81 HI.out HZ.out HS1.out HB1.out rfl (by decide) v1 (0 + j) ([] ++ strs (l.take j)) rfl (HO1.out.alloc _) (some ⟨_, 0, none⟩) 1 1 [.string (kb k)] rfl rfl (fun h => by cases h) (fun ad had => by cases had; exact cell_one_new _ _ _) (by simp [Value.oneCell']) (by unfold maxLen; omega) (by omega) (by have := HZ1.out; first | (simp; done) | (simp; omega)) ?_
         intro v2 w2 ho2 hg2 hat2
         have hz1 := HZ1.out
         have hb2 := (show Below wr1.heap.size wr1 _ from HBL1.out.alloc (by omega) _).grown hg2 (by first | (simp; done) | (simp; omega)) (fun k hk => (HO1.out.lt k hk).1)
         have HO2 := Lib.hid ho2
         have HBL2 := Lib.hid hb2
         have HZ2 := Lib.hid hb2.size
         clear ho2 hg2 hat2 hb2 hz1)
      | (refine step_append_opt rfl (.tmp 38) (.tmp 40) 81 rfl wr1.heap.size 9 i0 (.string ⟨#[]⟩) 1 16 Tryz.underlying81 HI.out HZ.out HS1.out HB1.out rfl (by decide) v1 (0 + j) ([] ++ strs (l.take j)) rfl HO1.out (some ⟨_, 0, none⟩) 1 1 [.string (kb k)] rfl rfl (fun h => by cases h) (fun ad had => by cases had; exact cell_one_at HK.out) (by simp [Value.oneCell']) (by unfold maxLen; omega) (by omega) (by have := HZ1.out; omega) ?_
         intro v2 w2 ho2 hg2 hat2
         have hz1 := HZ1.out
         have hb2 := (show Below wr1.heap.size wr1 _ from HBL1.out).grown hg2 (by omega) (fun k hk => (HO1.out.lt k hk).1)
         have HO2 := Lib.hid ho2
         have HBL2 := Lib.hid hb2
         have HZ2 := Lib.hid hb2.size
         clear ho2 hg2 hat2 hb2 hz1)
      | (refine step_append_opt rfl (.tmp 41) (.tmp 44) 81 rfl wr1.heap.size 9 i0 (.string ⟨#[]⟩) 1 16 Tryz.underlying81 HI.out HZ.out HS1.out HB1.out rfl (by decide) v2 (0 + j + 1) ([] ++ strs (l.take j) ++ [.string (kb k)]) rfl HO2.out _ (l.length - j) _ (strs (l.drop j)) rfl (by rw [strs_length, List.length_drop]; omega) (fun h => by cases h) (strIs_drop (HN.out.carry HBL2.out (Nat.le_refl _)) j (fun h => by first | rfl | exact absurd hcj h) hj hcap) (strs_one _) (by unfold maxLen; omega) (by omega) HZ2.out ?_
         intro v3 w3 ho3 hg3 hat3
         have HO3 := Lib.hid ho3
         have HBL3 := Lib.hid (HBL2.out.grown hg3 HZ2.out (fun k hk => (HO2.out.lt k hk).1))
         have HZ3 := Lib.hid HBL3.out.size
         clear ho3 hg3 hat3)
      ))
          all_goals
            go_wp2_with fail
            go_ret
            refine ⟨⟨_, l.take j ++ [k] ++ l.drop j, rfl, ?_, j, hj, HLS2.out, .inr ⟨rfl, HNK.out⟩⟩, HBX.out.trans (HBL3.out.mono hzx)⟩
            refine StrIs.ofRow (m := wr1.heap.size) (e := 9) ?_
            have h3 := HO3.out
            rw [List.nil_append] at h3
            have hl3 : (l.take j ++ [k] ++ l.drop j).length = 0 + j + 1 + (l.length - j) := by simp; omega
            rw [hl3, strs_append, strs_append]
            exact h3

    · have HBX := Lib.hid hbw
      have hzx := hbw.size
      have HN := Lib.hid (HL.out.carry HBX.out hzx)
      clear hbw
      obtain ⟨wr1, rfl⟩ : ∃ W, W = wr := ⟨wr, rfl⟩
      go_wp2_with fail
      by_cases hcj : cl = j
      all_goals go_region_held3 (fun w' => wr1.heap.size ≤ w'.heap.size) (first | exact HZ3.out | exact HZ2.out | exact Nat.le_of_lt HZ1.out | (simp; done) | (have := HZ2.out; simp; omega) | (have := HZ1.out; simp; omega) | (simp; omega)) ((first
      | (refine step_append_opt rfl (.tmp 34) (.tmp 37) 81 rfl wr1.heap.size 9 i0 (.string ⟨#[]⟩) 1 16 Tryz.underlying81 HI.out HZ.out HS1.out HB1.out rfl (by decide) (.slice (some ⟨wr1.heap.size, 0, none⟩) 0 0) 0 [] rfl ?own (some ⟨b1, o1, none⟩) j _ (strs (l.take j)) rfl (by rw [strs_length, List.length_take]; omega) (fun h => by cases h) (fun ad had => by cases had; exact strIs_take (HN.out.carry (by go_grown) (Nat.le_refl _)) j) (strs_one _) (by unfold maxLen; omega) (by omega) (by first | (simp; done) | (simp; omega)) ?_
         case own => first
           | exact ownsRow_made _ (heap_new_at _ _ _ (by simp)) (by simp) rfl (by decide)
           | exact ownsRow_made _ ((Below.heap_alloc _ _ _ (by simp)).trans (heap_new_at _ _ _ (by simp))) (by simp) rfl (by decide)
         intro v1 w1 ho1 hg1 hat1
         have hb1 := (show Below wr1.heap.size wr1 _ from by go_grown).grown hg1 (by first | (simp; done) | (simp; omega)) (by simp [Value.ownBlock])
         first
         | (have HK := Lib.hid ((hg1.block (wr1.heap.size + 1) (by simp) (by simp [Value.ownBlock])).trans (heap_new_at _ (.cells #[.string (kb k)] 9) _ (by simp))))
         | skip
         have HZ1 := Lib.hid (show wr1.heap.size < w1.heap.size from by have := hg1.size; simp at this; omega)
         have HO1 := Lib.hid ho1
         have HBL1 := Lib.hid hb1
         clear ho1 hg1 hat1 hb1)
      | (refine step_append_opt rfl (.tmp 34) (.tmp 37) 81 rfl wr1.heap.size 9 i0 (.string ⟨#[]⟩) 1 16 Tryz.underlying81 HI.out HZ.out HS1.out HB1.out rfl (by decide) (.slice (some ⟨wr1.heap.size + 1, 0, none⟩) 0 0) 0 [] rfl ?own (some ⟨b1, o1, none⟩) j _ (strs (l.take j)) rfl (by rw [strs_length, List.length_take]; omega) (fun h => by cases h) (fun ad had => by cases had; exact strIs_take (HN.out.carry (by go_grown) (Nat.le_refl _)) j) (strs_one _) (by unfold maxLen; omega) (by omega) (by first | (simp; done) | (simp; omega)) ?_
         case own => exact ownsRow_made _ (heap_new_at _ _ _ (by simp)) (by simp) rfl (by decide)
         intro v1 w1 ho1 hg1 hat1
         have hb1 := (show Below wr1.heap.size wr1 _ from by go_grown).grown hg1 (by first | (simp; done) | (simp; omega)) (by first | (simp [Value.ownBlock]; done) | (simp [Value.ownBlock]; omega))
         have HK := Lib.hid ((hg1.block wr1.heap.size (by first | (simp; done) | (simp; omega)) (by simp [Value.ownBlock])).trans ((Below.heap_alloc _ _ _ (by simp)).trans (heap_new_at _ (.cells #[.string (kb k)] 9) _ (by simp))))
         have HZ1 := Lib.hid (show wr1.heap.size < w1.heap.size from by have := hg1.size; simp at this; omega)
         have HO1 := Lib.hid ho1
         have HBL1 := Lib.hid hb1
         clear ho1 hg1 hat1 hb1)
      | (refine step_append_opt rfl (.tmp 38) (.tmp 40) 81 rfl wr1.heap.size 9 i0 (.string ⟨#[]⟩) 1 16 Tryz.underlying81 HI.out HZ.out HS1.out HB1.out rfl (by decide) v1 (0 + j) ([] ++ strs (l.take j)) rfl (HO1.out.alloc _) (some ⟨_, 0, none⟩) 1 1 [.string (kb k)] rfl rfl (fun h => by cases h) (fun ad had => by cases had; exact cell_one_new _ _ _) (by simp [Value.oneCell']) (by unfold maxLen; omega) (by omega) (by have := HZ1.out; first | (simp; done) | (simp; omega)) ?_
         intro v2 w2 ho2 hg2 hat2
         have hz1 := HZ1.out
         have hb2 := (show Below wr1.heap.size wr1 _ from HBL1.out.alloc (by omega) _).grown hg2 (by first | (simp; done) | (simp; omega)) (fun k hk => (HO1.out.lt k hk).1)
         have HO2 := Lib.hid ho2
         have HBL2 := Lib.hid hb2
         have HZ2 := Lib.hid hb2.size
         clear ho2 hg2 hat2 hb2 hz1)
      | (refine step_append_opt rfl (.tmp 38) (.tmp 40) 81 rfl wr1.heap.size 9 i0 (.string ⟨#[]⟩) 1 16 Tryz.underlying81 HI.out HZ.out HS1.out HB1.out rfl (by decide) v1 (0 + j) ([] ++ strs (l.take j)) rfl HO1.out (some ⟨_, 0, none⟩) 1 1 [.string (kb k)] rfl rfl (fun h => by cases h) (fun ad had => by cases had; exact cell_one_at HK.out) (by simp [Value.oneCell']) (by unfold maxLen; omega) (by omega) (by have := HZ1.out; omega) ?_
         intro v2 w2 ho2 hg2 hat2
         have hz1 := HZ1.out
         have hb2 := (show Below wr1.heap.size wr1 _ from HBL1.out).grown hg2 (by omega) (fun k hk => (HO1.out.lt k hk).1)
         have HO2 := Lib.hid ho2
         have HBL2 := Lib.hid hb2
         have HZ2 := Lib.hid hb2.size
         clear ho2 hg2 hat2 hb2 hz1)
      | (refine step_append_opt rfl (.tmp 41) (.tmp 44) 81 rfl wr1.heap.size 9 i0 (.string ⟨#[]⟩) 1 16 Tryz.underlying81 HI.out HZ.out HS1.out HB1.out rfl (by decide) v2 (0 + j + 1) ([] ++ strs (l.take j) ++ [.string (kb k)]) rfl HO2.out _ (l.length - j) _ (strs (l.drop j)) rfl (by rw [strs_length, List.length_drop]; omega) (fun h => by cases h) (strIs_drop (HN.out.carry HBL2.out (Nat.le_refl _)) j (fun h => by first | rfl | exact absurd hcj h) hj hcap) (strs_one _) (by unfold maxLen; omega) (by omega) HZ2.out ?_
         intro v3 w3 ho3 hg3 hat3
         have HO3 := Lib.hid ho3
         have HBL3 := Lib.hid (HBL2.out.grown hg3 HZ2.out (fun k hk => (HO2.out.lt k hk).1))
         have HZ3 := Lib.hid HBL3.out.size
         clear ho3 hg3 hat3)
      ))
      all_goals
        go_wp2_with fail
        go_ret
        refine ⟨⟨_, l.take j ++ [k] ++ l.drop j, rfl, ?_, j, hj, HLS2.out, .inr ⟨rfl, fun y hy => by have := (List.getElem?_eq_some_iff.1 hy).1; omega⟩⟩, HBX.out.trans (HBL3.out.mono hzx)⟩
        refine StrIs.ofRow (m := wr1.heap.size) (e := 9) ?_
        have h3 := HO3.out
        rw [List.nil_append] at h3
        have hl3 : (l.take j ++ [k] ++ l.drop j).length = 0 + j + 1 + (l.length - j) := by simp; omega
        rw [hl3, strs_append, strs_append]
        exact h3
end Go.Proofs.YtnomppdmhgefiaaGreat
/- The reference's Insert into nothing; Insert, whole; sorted. -/
namespace Go.Proofs.YtnomppdmhgefiaaGreat
open Go.RowKit

set_option maxRecDepth 100000 in
set_option maxHeartbeats 2000000 in
theorem rinsert_nil (k : Key) (wr1 : World) :
    Calls Tryz.prog 247 #[.slice none 0 0, .string (kb k)] wr1 fun e w' => (∃ v', e = .returned v' ∧ StrIs w'.heap.size w' [k] v') ∧ Below wr1.heap.size wr1 w' := by
  obtain ⟨i0, hi, hz, hs1, hb1⟩ := info_parts infoStr
  have HI := Lib.hid hi
  have HZ := Lib.hid hz
  have HS1 := Lib.hid hs1
  have HB1 := Lib.hid hb1
  clear hi hz hs1 hb1
  go_enter Tryz.func247, Tryz.ntmps247
  go_wp2_with fail
  go_loop [5] (fun i => i = .int .i64 0) (fun _ => 0)
  case atStart => rfl
  case round =>
    subst hrel
    go_wp2_with fail
    go_region_held3 (fun w' => wr1.heap.size ≤ w'.heap.size) (first | exact HZ3.out | exact HZ2.out | exact Nat.le_of_lt HZ1.out | (simp; done) | (have := HZ2.out; simp; omega) | (have := HZ1.out; simp; omega) | (simp; omega)) ((first
      | (refine step_append_opt rfl (.tmp 34) (.tmp 37) 81 rfl wr1.heap.size 9 i0 (.string ⟨#[]⟩) 1 16 Tryz.underlying81 HI.out HZ.out HS1.out HB1.out rfl (by decide) (.slice (some ⟨wr1.heap.size, 0, none⟩) 0 0) 0 [] rfl ?own none 0 0 [] rfl rfl (fun _ => ⟨rfl, rfl⟩) (fun ad had => by cases had) (by simp) (by unfold maxLen; omega) (by omega) (by first | (simp; done) | (simp; omega)) ?_
         case own => first
           | exact ownsRow_made _ (heap_new_at _ _ _ (by simp)) (by simp) rfl (by decide)
           | exact ownsRow_made _ ((Below.heap_alloc _ _ _ (by simp)).trans (heap_new_at _ _ _ (by simp))) (by simp) rfl (by decide)
         intro v1 w1 ho1 hg1 hat1
         have hb1 := (show Below wr1.heap.size wr1 _ from by go_grown).grown hg1 (by first | (simp; done) | (simp; omega)) (by simp [Value.ownBlock])
         first
         | (have HK := Lib.hid ((hg1.block (wr1.heap.size + 1) (by simp) (by simp [Value.ownBlock])).trans (heap_new_at _ (.cells #[.string (kb k)] 9) _ (by simp))))
         | skip
         have HZ1 := Lib.hid (show wr1.heap.size < w1.heap.size from by have := hg1.size; simp at this; omega)
         have HO1 := Lib.hid ho1
         have HBL1 := Lib.hid hb1
         clear ho1 hg1 hat1 hb1)
      | (refine step_append_opt rfl (.tmp 34) (.tmp 37) 81 rfl wr1.heap.size 9 i0 (.string ⟨#[]⟩) 1 16 Tryz.underlying81 HI.out HZ.out HS1.out HB1.out rfl (by decide) (.slice (some ⟨wr1.heap.size + 1, 0, none⟩) 0 0) 0 [] rfl ?own none 0 0 [] rfl rfl (fun _ => ⟨rfl, rfl⟩) (fun ad had => by cases had) (by simp) (by unfold maxLen; omega) (by omega) (by first | (simp; done) | (simp; omega)) ?_
         case own => exact ownsRow_made _ (heap_new_at _ _ _ (by simp)) (by simp) rfl (by decide)
         intro v1 w1 ho1 hg1 hat1
         have hb1 := (show Below wr1.heap.size wr1 _ from by go_grown).grown hg1 (by first | (simp; done) | (simp; omega)) (by first | (simp [Value.ownBlock]; done) | (simp [Value.ownBlock]; omega))
         have HK := Lib.hid ((hg1.block wr1.heap.size (by first | (simp; done) | (simp; omega)) (by simp [Value.ownBlock])).trans ((Below.heap_alloc _ _ _ (by simp)).trans (heap_new_at _ (.cells #[.string (kb k)] 9) _ (by simp))))
         have HZ1 := Lib.hid (show wr1.heap.size < w1.heap.size from by have := hg1.size; simp at this; omega)
         have HO1 := Lib.hid ho1
         have HBL1 := Lib.hid hb1
         clear ho1 hg1 hat1 hb1)
      | (refine step_append_opt rfl (.tmp 38) (.tmp 40) 81 rfl wr1.heap.size 9 i0 (.string ⟨#[]⟩) 1 16 Tryz.underlying81 HI.out HZ.out HS1.out HB1.out rfl (by decide) v1 (0 + 0) ([] ++ []) rfl (HO1.out.alloc _) (some ⟨_, 0, none⟩) 1 1 [.string (kb k)] rfl rfl (fun h => by cases h) (fun ad had => by cases had; exact cell_one_new _ _ _) (by simp [Value.oneCell']) (by unfold maxLen; omega) (by omega) (by have := HZ1.out; first | (simp; done) | (simp; omega)) ?_
         intro v2 w2 ho2 hg2 hat2
         have hz1 := HZ1.out
         have hb2 := (show Below wr1.heap.size wr1 _ from HBL1.out.alloc (by omega) _).grown hg2 (by first | (simp; done) | (simp; omega)) (fun k hk => (HO1.out.lt k hk).1)
         have HO2 := Lib.hid ho2
         have HBL2 := Lib.hid hb2
         have HZ2 := Lib.hid hb2.size
         clear ho2 hg2 hat2 hb2 hz1)
      | (refine step_append_opt rfl (.tmp 38) (.tmp 40) 81 rfl wr1.heap.size 9 i0 (.string ⟨#[]⟩) 1 16 Tryz.underlying81 HI.out HZ.out HS1.out HB1.out rfl (by decide) v1 (0 + 0) ([] ++ []) rfl HO1.out (some ⟨_, 0, none⟩) 1 1 [.string (kb k)] rfl rfl (fun h => by cases h) (fun ad had => by cases had; exact cell_one_at HK.out) (by simp [Value.oneCell']) (by unfold maxLen; omega) (by omega) (by have := HZ1.out; omega) ?_
         intro v2 w2 ho2 hg2 hat2
         have hz1 := HZ1.out
         have hb2 := (show Below wr1.heap.size wr1 _ from HBL1.out).grown hg2 (by omega) (fun k hk => (HO1.out.lt k hk).1)
         have HO2 := Lib.hid ho2
         have HBL2 := Lib.hid hb2
         have HZ2 := Lib.hid hb2.size
         clear ho2 hg2 hat2 hb2 hz1)
      | (refine step_append_opt rfl (.tmp 41) (.tmp 44) 81 rfl wr1.heap.size 9 i0 (.string ⟨#[]⟩) 1 16 Tryz.underlying81 HI.out HZ.out HS1.out HB1.out rfl (by decide) v2 (0 + 0 + 1) ([] ++ [] ++ [.string (kb k)]) rfl HO2.out none 0 0 [] rfl rfl (fun _ => ⟨rfl, rfl⟩) (fun ad had => by cases had) (by simp) (by unfold maxLen; omega) (by omega) HZ2.out ?_
         intro v3 w3 ho3 hg3 hat3
         have HO3 := Lib.hid ho3
         have HBL3 := Lib.hid (HBL2.out.grown hg3 HZ2.out (fun k hk => (HO2.out.lt k hk).1))
         have HZ3 := Lib.hid HBL3.out.size
         clear ho3 hg3 hat3)
      ))
    all_goals
      go_wp2_with fail
      go_ret
      refine ⟨⟨_, rfl, ?_⟩, HBL3.out⟩
      exact StrIs.ofRow (m := wr1.heap.size) (e := 9) (l := [k]) HO3.out

/-- r holds what l holds, and k -/
def InsOf (l : List Key) (k : Key) (r : List Key) : Prop := (∀ x, x ∈ r ↔ x ∈ l ∨ x = k) ∧ r.length ≤ l.length + 1
theorem InsOf.same {l : List Key} {k : Key} (h : k ∈ l) : InsOf l k l := ⟨fun x => ⟨.inl, fun hx => by rcases hx with hx | rfl; exact hx; exact h⟩, by omega⟩
theorem InsOf.at {l : List Key} (k : Key) (j : Nat) : InsOf l k (l.take j ++ [k] ++ l.drop j) := by
  refine ⟨fun x => ?_, ?_⟩
  · have h := List.take_append_drop j l
    constructor
    · intro hx
      simp only [List.mem_append, List.mem_singleton] at hx
      rcases hx with (hx | hx) | hx
      · exact .inl (List.mem_of_mem_take hx)
      · exact .inr hx
      · exact .inl (List.mem_of_mem_drop hx)
    · intro hx
      simp only [List.mem_append, List.mem_singleton]
      rcases hx with hx | hx
      · rw [← h] at hx
        rcases List.mem_append.1 hx with hx | hx
        · exact .inl (.inl hx)
        · exact .inr hx
      · exact .inl (.inr hx)
  · simp; omega
/-- names in order stay in order -/
theorem InsAt.sorted {l r : List Key} {k : Key} (h : InsAt l k r) (hl : l.Pairwise (· < ·)) : r.Pairwise (· < ·) := by
  obtain ⟨j, hj, hless, h⟩ := h
  rcases h with ⟨rfl, _⟩ | ⟨rfl, hn⟩
  · exact hl
  · have hsp : (l.take j ++ l.drop j).Pairwise (· < ·) := by rw [List.take_append_drop]; exact hl
    obtain ⟨h1, h2, h3⟩ := List.pairwise_append.1 hsp
    have hk : ∀ y ∈ l.drop j, k < y := by
      cases hd : l.drop j with
      | nil => intro y hy; cases hy
      | cons x d =>
        have hx : l[j]? = some x := by
          have : (l.drop j)[0]? = some x := by rw [hd]; rfl
          rw [List.getElem?_drop] at this
          simpa using this
        obtain ⟨hne, hnl⟩ := hn x hx
        have hkx : k < x := by
          exact Classical.byContradiction fun h => hne (List.le_antisymm (List.not_lt.1 h) (List.not_lt.1 hnl))
        intro y hy
        rcases List.mem_cons.1 hy with rfl | hy
        · exact hkx
        · rw [hd] at h2; exact List.lt_trans hkx ((List.pairwise_cons.1 h2).1 y hy)
    rw [List.append_assoc]
    refine List.pairwise_append.2 ⟨h1, ?_, ?_⟩
    · exact List.pairwise_cons.2 ⟨hk, h2⟩
    · intro a ha b hb
      rcases List.mem_append.1 hb with hb | hb
      · rw [List.mem_singleton.1 hb]; exact hless a ha
      · exact h3 a ha b hb
/-- Insert into names in order -/
theorem rinsert_ord (l : List Key) (k : Key) (v : Value) (w : World) (hl : StrIs w.heap.size w l v) (ho : l.Pairwise (· < ·)) (hlen : l.length ≤ 1048576) (hk : k.length ≤ 1048576) (hls : ∀ x ∈ l, x.length ≤ 1048576) :
    Calls Tryz.prog 247 #[v, .string (kb k)] w fun e w' => (∃ v' r, e = .returned v' ∧ StrIs w'.heap.size w' r v' ∧ r.Pairwise (· < ·) ∧ InsOf l k r) ∧ Below w.heap.size w w' := by
  have hl' := hl
  obtain ⟨ol, cl, rfl, hcap, ⟨hnone, hsp⟩, hc⟩ := hl'
  cases ol with
  | none =>
    obtain ⟨h0, rfl⟩ := hnone rfl
    obtain rfl : l = [] := List.length_eq_zero_iff.1 h0
    refine (rinsert_nil k w).mono ?_
    rintro e w' ⟨⟨v', rfl, h⟩, hb⟩
    exact ⟨⟨v', [k], rfl, h, by simp, InsOf.at (l := []) k 0⟩, hb⟩
  | some a =>
    obtain ⟨b, o, sp⟩ := a
    obtain rfl : sp = none := hsp _ rfl
    refine (rinsert_some l k b o cl w hl hlen hk hls).mono ?_
    rintro e w' ⟨⟨v', r, rfl, h, hr⟩, hb⟩
    refine ⟨⟨v', r, rfl, h, hr.sorted ho, ?_⟩, hb⟩
    obtain ⟨j, _, _, hr⟩ := hr
    rcases hr with ⟨rfl, hm⟩ | ⟨rfl, _⟩
    · exact InsOf.same hm
    · exact InsOf.at k j

end Go.Proofs.YtnomppdmhgefiaaGreat
/- Slices of bindings; the reference's Image and Renaming. -/
namespace Go.Proofs.YtnomppdmhgefiaaGreat
open Go.RowKit

abbrev Bd := Key × Tm
/-- the slice value v holds these bindings, in blocks below n -/
def BindsIs (n : Nat) (W : World) (bl : List Bd) (v : Value) : Prop :=
  ∃ oa cap, v = .slice oa bl.length cap ∧ bl.length ≤ cap ∧
    (bl ≠ [] → ∃ b o, oa = some ⟨b, o, none⟩ ∧ b < n ∧ ∀ i p, bl[i]? = some p → ∃ s, W.cell? ⟨b, o + i * 4, none⟩ = some (.string (kb p.1)) ∧ W.cell? ⟨b, o + i * 4 + 1, none⟩ = some (.string p.2.nm) ∧ W.cell? ⟨b, o + i * 4 + 2, none⟩ = some (.bool p.2.vr) ∧ W.cell? ⟨b, o + i * 4 + 3, none⟩ = some s ∧ SlIs n W p.2.ts s)
theorem BindsIs.carry {n m : Nat} {A B : World} {l : List Bd} {v : Value} (h : BindsIs n A l v) (hb : Below n A B) (hn : n ≤ m) : BindsIs m B l v := by
  obtain ⟨oa, cap, rfl, h1, h3⟩ := h
  refine ⟨oa, cap, rfl, h1, fun hne => ?_⟩
  obtain ⟨b, o, rfl, hbn, hc⟩ := h3 hne
  refine ⟨b, o, rfl, by omega, fun i p hk => ?_⟩
  obtain ⟨s, c0, c1, c2, c3, hs⟩ := hc i p hk
  exact ⟨s, (hb.cell (p := ⟨b, _, none⟩) hbn).trans c0, (hb.cell (p := ⟨b, _, none⟩) hbn).trans c1, (hb.cell (p := ⟨b, _, none⟩) hbn).trans c2, (hb.cell (p := ⟨b, _, none⟩) hbn).trans c3, hs.carry hb hn⟩

/-- what a name stands for -/
def imageOf (bl : List Bd) (k : Key) : Tm := match bl.find? (fun p => decide (p.1 = k)) with
  | some p => p.2
  | none => .mk (kb k) true []
theorem imageOf_miss {bl : List Bd} {k : Key} (h : ∀ q ∈ bl, q.1 ≠ k) : imageOf bl k = .mk (kb k) true [] := by
  unfold imageOf
  rw [List.find?_eq_none.2 (fun q hq => by simpa using h q hq)]
theorem box4 {W : World} {b : Nat} {x y z u : Value} {e : TypeId} (h : W.heap[b]? = some (.cells #[x, y, z, u] e (0, 0))) :
    W.cell? ⟨b, 0, none⟩ = some x ∧ W.cell? ⟨b, 1, none⟩ = some y ∧ W.cell? ⟨b, 2, none⟩ = some z ∧ W.cell? ⟨b, 3, none⟩ = some u :=
  ⟨cells_of' h 0, cells_of' h 1, cells_of' h 2, cells_of' h 3⟩

end Go.Proofs.YtnomppdmhgefiaaGreat
