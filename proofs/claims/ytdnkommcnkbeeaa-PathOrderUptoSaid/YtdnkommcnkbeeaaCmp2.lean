/- The reference's Compare and Equal on terms. -/
import Derived.Test.YtdnkommcnkbeeaaCmp
import Derived.StillTailTactics
namespace Go.Proofs.Ytdnkommcnkbeeaa
open Go.RowKit

theorem Tm.ext' {a b : Tm} (h1 : a.nm = b.nm) (h2 : a.vr = b.vr) (h3 : a.ts = b.ts) : a = b := by
  cases a; cases b; simp only [Tm.nm, Tm.vr, Tm.ts] at h1 h2 h3; subst h1; subst h2; subst h3; rfl
theorem below_box {A W : World} (h : Below A.heap.size A W) {k : Nat} (hk : k < A.heap.size) : W.heap[k]? = A.heap[k]? := h.block k hk

set_option maxRecDepth 100000 in
set_option maxHeartbeats 4000000 in
theorem rcompare_any (a : Tm) : ∀ (b : Tm) (sa sb : Value) (w : World), a.bulk ≤ 1048576 → b.bulk ≤ 1048576 → SlIs w.heap.size w a.ts sa → SlIs w.heap.size w b.ts sb →
    Calls Try.prog 43 #[tmv a sa, tmv b sb] w fun e w' => (∃ c : Int, e = .returned (.int .i64 c) ∧ (c = 0 ↔ a = b)) ∧ Below w.heap.size w w' := by
  induction a using Tm.ind with
  | h a ih =>
    intro b sa sb w hba hbb hsa hsb
    obtain ⟨oa, ca, rfl, -⟩ := hsa.form
    obtain ⟨ob, cb, rfl, -⟩ := hsb.form
    have hea := Tm.bulk_eq a
    have heb := Tm.bulk_eq b
    have hla := Tm.length_sizes a.ts
    have hlb := Tm.length_sizes b.ts
    have hza := Tm.size_bulk a
    have hzb := Tm.size_bulk b
    have hya := Tm.size_eq a
    have hyb := Tm.size_eq b
    have hna : a.nm.size ≤ 1048576 := by omega
    have hnb : b.nm.size ≤ 1048576 := by omega
    have hta : a.ts.length ≤ 1048576 := by omega
    have htb : b.ts.length ≤ 1048576 := by omega
    have HA := Lib.hid hea
    have HB := Lib.hid heb
    have IH := Lib.hid ih
    clear hea heb hya hyb ih hla hlb hza hzb
    by_cases hv : a.vr = b.vr
    · have HV := Lib.hid hv
      have hvv : (!a.vr == b.vr) = false := by rw [hv]; cases b.vr <;> rfl
      clear hv
      go_enter Try.func43, Try.ntmps43
      go_wp2_with fail
      refine (cmpNames_any _ _ _ hna hnb).mono ?_
      rintro e w1 ⟨⟨c1, rfl, hc1⟩, hb1⟩
      have HC1 := Lib.hid hc1
      have x0 := (hb1.cell (p := ⟨w.heap.size, 2, none⟩) (by simp; omega)).trans ((cell_old _ _ _ 2 (by simp)).trans (cell_at_new w _ _ 2))
      have x1 := (hb1.cell (p := ⟨w.heap.size + 1, 2, none⟩) (by simp)).trans (cell_new_at _ _ _ _ 2 (by simp))
      simp only [List.getElem?_toArray, List.getElem?_cons_zero, List.getElem?_cons_succ] at x0 x1
      have hz1 : w.heap.size + 2 ≤ w1.heap.size := by have := hb1.size; simpa using this
      have HB1 : Hid (Below w.heap.size w w1) := Lib.hid (Below.trans (by go_grown) (hb1.mono (by simp; omega)))
      clear hb1 hc1
      by_cases h1 : c1 = 0
      · subst h1
        go_wp2_with fail
        refine (cmpInts_any _ _ _).mono ?_
        rintro e w2 ⟨rfl, rfl⟩
        by_cases h2 : a.ts.length = b.ts.length
        · have h2' : ((a.ts.length : Int)) = (b.ts.length : Int) := by omega
          rw [show cmpi (a.ts.length : Int) (b.ts.length : Int) = 0 from (cmpi_zero _ _).2 h2']
          clear h2'
          go_wp2_with fail
          have H2 := Lib.hid h2
          go_loopw [7, 8, 37] (fun _ _ i wr => ∃ k : Nat, k ≤ b.ts.length ∧ i = .int .i64 k ∧ Hid (a.ts.take k = b.ts.take k) ∧ Below (w.heap.size + 2) w1 wr) (fun _ _ i _ => b.ts.length - (intOf i).toNat)
          case atStart => exact ⟨0, by omega, rfl, Lib.hid rfl, Below.refl _ _⟩
          case round =>
            obtain ⟨k, hk, rfl, HT, hbw⟩ := hrel
            have hbw2 : Below w.heap.size w wr := HB1.out.trans (hbw.mono (by omega))
            have hzw := hbw.size
            by_cases hlt : k < b.ts.length
            · obtain ⟨b1, o1, u, su, rfl, hbb1, hu, hum, hus, c1, c2, c3⟩ := (hsa.carry hbw2 (Nat.le_refl _)).get (k := k) (by omega)
              obtain ⟨b2, o2, v, sv, rfl, hbb2, hv, hvm, hvs, d1, d2, d3⟩ := (hsb.carry hbw2 (Nat.le_refl _)).get (k := k) (by omega)
              obtain ⟨ou, cu, rfl, -⟩ := hus.form
              obtain ⟨ov, cv, rfl, -⟩ := hvs.form
              have y0 := (hbw.cell (p := ⟨w.heap.size, 2, none⟩) (by simp)).trans x0
              have y1 := (hbw.cell (p := ⟨w.heap.size + 1, 2, none⟩) (by simp)).trans x1
              rw [H2.out] at y0
              have hbu : u.bulk ≤ 1048576 := by have := Tm.bulk_mem hum; have := HA.out; omega
              have hbv : v.bulk ≤ 1048576 := by have := Tm.bulk_mem hvm; have := HB.out; omega
              have HU := Lib.hid hu
              have HVV := Lib.hid hv
              have IHu := fun W1 (hW : Below w.heap.size wr W1) => Lib.hid (IH.out u hum v _ _ W1 hbu hbv (hus.carry (B := W1) hW (by have := hW.size; omega)) (hvs.carry (B := W1) hW (by have := hW.size; omega)))
              clear hu hv h2
              go_wp2_with fail
              go_still_tail 10, (by kernel_rfl)
              go_wp2_with fail
              refine (IHu wr.drew (Below.refl _ wr).drew).out.mono ?_
              rintro e w9 ⟨⟨c9, rfl, hc9⟩, hb9⟩
              have HC9 := Lib.hid hc9
              have hbw9 : Below (w.heap.size + 2) w1 w9 := hbw.trans (((Below.refl _ wr).drew).trans (hb9.mono (by show _ ≤ wr.heap.size; omega)))
              have HB9 := Lib.hid hbw9
              clear hb9 hc9 hbw9 IHu
              by_cases h9 : c9 = 0
              · have HQ := Lib.hid (HC9.out.1 h9)
                subst h9
                go_wp2_with fail
                exact ⟨⟨k + 1, by omega, by go_num, Lib.hid (by rw [Tm.take_snoc HU.out, Tm.take_snoc HVV.out, HT.out, HQ.out]), HB9.out⟩, by simp [intOf]; omega⟩
              · have H9 := Lib.hid h9
                have h9' : (c9 != 0) = true := by rw [bne_iff_ne]; exact h9
                clear h9
                go_wp2_with fail
                go_ret
                refine ⟨⟨_, rfl, fun h => absurd h H9.out, fun h => absurd (HC9.out.2 ?_) H9.out⟩, HB1.out.trans (HB9.out.mono (by omega))⟩
                subst h
                exact Option.some.inj (HU.out.symm.trans HVV.out)
            · obtain rfl : k = b.ts.length := by omega
              go_wp2_with fail
              go_ret
              refine ⟨⟨_, rfl, fun _ => Tm.ext' (HC1.out.1 (by first | trivial | rfl)) HV.out ?_, fun _ => rfl⟩, hbw2⟩
              have h := HT.out
              rwa [List.take_of_length_le (Nat.le_refl _), List.take_of_length_le (by have := H2.out; omega)] at h
        · have h3 : ((cmpi (a.ts.length : Int) (b.ts.length : Int)) != 0) = true := by rw [bne_iff_ne]; intro e; have := (cmpi_zero _ _).1 e; omega
          have H3 : Hid (cmpi (a.ts.length : Int) (b.ts.length : Int) ≠ 0) := Lib.hid (by rw [← bne_iff_ne]; exact h3)
          have H2 := Lib.hid h2
          clear h2
          go_wp2_with fail
          go_ret
          exact ⟨⟨_, rfl, fun h => absurd h H3.out, fun h => absurd (by rw [h]) H2.out⟩, HB1.out⟩
      · have h1' : (c1 != 0) = true := by rw [bne_iff_ne]; exact h1
        have H1 := Lib.hid h1
        clear h1
        go_wp2_with fail
        go_ret
        exact ⟨⟨_, rfl, fun h => absurd h H1.out, fun h => absurd (HC1.out.2 (by rw [h])) H1.out⟩, HB1.out⟩
    · have HV := Lib.hid hv
      have hvv : (!a.vr == b.vr) = true := by revert hv; cases a.vr <;> cases b.vr <;> simp
      have HN : Hid (a ≠ b) := Lib.hid (fun e => hv (by rw [e]))
      clear hv
      go_enter Try.func43, Try.ntmps43
      go_wp2_with fail
      all_goals
        go_ret
        exact ⟨⟨_, rfl, fun h => by omega, fun h => absurd h HN.out⟩, by go_grown⟩

set_option maxRecDepth 100000 in
set_option maxHeartbeats 1000000 in
theorem requal_any (a b : Tm) (sa sb : Value) (w : World) (hba : a.bulk ≤ 1048576) (hbb : b.bulk ≤ 1048576) (hsa : SlIs w.heap.size w a.ts sa) (hsb : SlIs w.heap.size w b.ts sb) :
    Calls Try.prog 23 #[tmv a sa, tmv b sb] w fun e w' => (∃ x : Bool, e = .returned (.bool x) ∧ (x = true ↔ a = b)) ∧ Below w.heap.size w w' := by
  have hG : Below w.heap.size w ((w.alloc (.cells #[.string a.nm, .bool a.vr, sa] 34)).alloc (.cells #[.string b.nm, .bool b.vr, sb] 34)) := by go_grown
  have HC := Lib.hid (rcompare_any a b sa sb _ hba hbb (hsa.carry hG (by simp; omega)) (hsb.carry hG (by simp; omega)))
  have HG := Lib.hid hG
  clear hG
  obtain ⟨oa, ca, rfl, -⟩ := hsa.form
  obtain ⟨ob, cb, rfl, -⟩ := hsb.form
  clear hsa hsb
  go_enter Try.func23, Try.ntmps23
  go_wp2_with fail
  refine HC.out.mono ?_
  rintro e w1 ⟨⟨c, rfl, hc⟩, hb1⟩
  have HC1 := Lib.hid hc
  have HB := Lib.hid hb1
  clear hc hb1 HC
  go_wp2_with fail
  go_ret
  exact ⟨⟨_, rfl, by rw [beq_iff_eq]; exact HC1.out⟩, HG.out.trans (HB.out.mono (by simp; omega))⟩
end Go.Proofs.Ytdnkommcnkbeeaa
