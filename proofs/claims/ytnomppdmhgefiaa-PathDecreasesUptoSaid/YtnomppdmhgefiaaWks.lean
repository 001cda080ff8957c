/- The reference's Size, Depth, Compare and Equal, with bounds on the size and on each name. -/
import Derived.Test.YtnomppdmhgefiaaRnp
import Derived.Test.YtnomppdmhgefiaaRChk
namespace Go.Proofs.Ytnomppdmhgefiaa
open Go.RowKit

/-- each name has at most 1048576 letters -/
inductive Tm.low : Tm → Prop
  | mk (t : Tm) : t.nm.size ≤ 1048576 → (∀ u ∈ t.ts, u.low) → t.low
theorem Tm.low.name {t : Tm} (h : t.low) : t.nm.size ≤ 1048576 := by cases h with | mk _ h1 _ => exact h1
theorem Tm.low.kids {t : Tm} (h : t.low) : ∀ u ∈ t.ts, u.low := by cases h with | mk _ _ h2 => exact h2
theorem Tm.low_of_bulk (t : Tm) : t.bulk ≤ 1048576 → t.low := by
  induction t using Tm.ind with
  | h t ih =>
    intro hb
    have he := Tm.bulk_eq t
    exact .mk t (by omega) fun u hu => ih u hu (by have := Tm.bulk_mem hu; omega)

set_option maxHeartbeats 400000 in
theorem rsize_sz (t : Tm) : ∀ (s : Value) (w : World), t.size ≤ 1048576 → SlIs w.heap.size w t.ts s →
    Calls Try.prog 26 #[tmv t s] w fun e w' => e = .returned (.int .i64 t.size) ∧ Below w.heap.size w w' := by
  induction t using Tm.ind with
  | h t ih =>
    intro s w hb hs
    obtain ⟨oa, cap, rfl, ha⟩ := hs.form
    have hse := Tm.size_eq t
    have hl := Tm.length_sizes t.ts
    have hlen : t.ts.length ≤ 1048576 := by omega
    have IH := Lib.hid ih
    have HE := Lib.hid hse
    clear ih ha hse
    go_enter Try.func26, Try.ntmps26
    go_wp2_with fail
    go_loopw [3, 9] (fun n i wr => ∃ k : Nat, k ≤ t.ts.length ∧ i = .int .i64 k ∧ n = .int .i64 ((1 + Tm.sizes (t.ts.take k) : Nat) : Int) ∧ Below w.heap.size w wr) (fun _ i _ => t.ts.length - (intOf i).toNat)
    case atStart => exact ⟨0, by omega, rfl, rfl, by go_grown⟩
    case round =>
      obtain ⟨k, hk, rfl, rfl, hbw⟩ := hrel
      have hsz' := hbw.size
      by_cases hlt : k < t.ts.length
      · obtain ⟨b, o, u, s, rfl, hbb, hu, hum, hus, c1, c2, c3⟩ := (hs.carry hbw (Nat.le_refl _)).get hlt
        obtain ⟨oa2, cap2, rfl, -⟩ := hus.form
        have hus' := Tm.size_mem hum
        have htk := Tm.take_snoc hu
        have hst := Tm.sizes_append (t.ts.take k) [u]
        have HS := Lib.hid (show Tm.sizes (t.ts.take (k+1)) = Tm.sizes (t.ts.take k) + u.size by rw [htk, hst]; simp [Tm.sizes])
        have hsk := Tm.sizes_take t.ts (k + 1)
        have hsk2 : Tm.sizes (t.ts.take k) + u.size ≤ 1048576 := by rw [← HS.out]; have := HE.out; omega
        have hub2 : u.size ≤ 1048576 := by omega
        have IHu := fun W1 hb => Lib.hid (IH.out u hum _ W1 hub2 (hus.carry (B := W1) hb (by have := hb.size; omega)))
        clear htk hst hu
        go_wp2_with fail
        refine (IHu _ (by go_grown)).out.mono ?_
        rintro e w2 ⟨rfl, hb2⟩
        go_wp2_with fail
        exact ⟨⟨k + 1, by omega, by go_num, by rw [HS.out]; go_num, Below.trans (by go_grown) (hb2.mono (by simp; omega))⟩, by simp [intOf]; omega⟩
      · go_wp2_with fail
        go_ret
        exact ⟨ret_int (by rw [HE.out, List.take_of_length_le (by omega)]), by go_grown⟩

set_option maxHeartbeats 400000 in
theorem rdepth_sz (t : Tm) : ∀ (s : Value) (w : World), t.size ≤ 1048576 → SlIs w.heap.size w t.ts s →
    Calls Try.prog 27 #[tmv t s] w fun e w' => e = .returned (.int .i64 t.depth) ∧ Below w.heap.size w w' := by
  induction t using Tm.ind with
  | h t ih =>
    intro s w hb hs
    obtain ⟨oa, cap, rfl, ha⟩ := hs.form
    have hse := Tm.size_eq t
    have hde := Tm.depth_eq t
    have hl := Tm.length_sizes t.ts
    have hlen : t.ts.length ≤ 1048576 := by omega
    have IH := Lib.hid ih
    have HE := Lib.hid hde
    have HD : Hid (∀ k, Tm.depths (t.ts.take k) ≤ 1048576) := Lib.hid fun k => by
      have h1 := depths_le (t.ts.take k)
      have h2 := Tm.sizes_take t.ts k
      omega
    clear ih ha hse hde
    go_enter Try.func27, Try.ntmps27
    go_wp2_with fail
    go_loopw [3, 9] (fun n i wr => ∃ k : Nat, k ≤ t.ts.length ∧ i = .int .i64 k ∧ n = .int .i64 ((Tm.depths (t.ts.take k) : Nat) : Int) ∧ Below w.heap.size w wr) (fun _ i _ => t.ts.length - (intOf i).toNat)
    case atStart => exact ⟨0, by omega, rfl, rfl, by go_grown⟩
    case round =>
      obtain ⟨k, hk, rfl, rfl, hbw⟩ := hrel
      have hsz' := hbw.size
      by_cases hlt : k < t.ts.length
      · obtain ⟨b, o, u, s, rfl, hbb, hu, hum, hus, c1, c2, c3⟩ := (hs.carry hbw (Nat.le_refl _)).get hlt
        obtain ⟨oa2, cap2, rfl, -⟩ := hus.form
        have hus2 := Tm.size_mem hum
        have htb := Tm.size_eq t
        have htk := Tm.take_snoc hu
        have HS := Lib.hid (show Tm.depths (t.ts.take (k+1)) = max (Tm.depths (t.ts.take k)) u.depth by rw [htk, depths_snoc])
        have hub2 : u.size ≤ 1048576 := by omega
        have IHu := fun W1 hb => Lib.hid (IH.out u hum _ W1 hub2 (hus.carry (B := W1) hb (by have := hb.size; omega)))
        clear htk htb hu
        go_wp2_with fail
        refine (IHu _ (by go_grown)).out.mono ?_
        rintro e w2 ⟨rfl, hb2⟩
        go_wp2_with fail
        exact ⟨⟨k + 1, by omega, by go_num, by rw [HS.out]; first | (congr 1; omega) | (simp; done) | (simp; omega), Below.trans (by go_grown) (hb2.mono (by simp; omega))⟩, by simp [intOf]; omega⟩
      · have HK : Hid (Tm.depths (t.ts.take k) = Tm.depths t.ts) := Lib.hid (by rw [List.take_of_length_le (by omega)])
        have hdk := HD.out k
        go_wp2_with fail
        go_ret
        exact ⟨ret_int (by rw [HE.out, HK.out]; omega), by go_grown⟩

set_option maxRecDepth 100000 in
set_option maxHeartbeats 4000000 in
theorem rcompare_low (a : Tm) : ∀ (b : Tm) (sa sb : Value) (w : World), a.low → b.low → a.size ≤ 1048576 → b.size ≤ 1048576 → SlIs w.heap.size w a.ts sa → SlIs w.heap.size w b.ts sb →
    Calls Try.prog 66 #[tmv a sa, tmv b sb] w fun e w' => (∃ c : Int, e = .returned (.int .i64 c) ∧ (c = 0 ↔ a = b)) ∧ Below w.heap.size w w' := by
  induction a using Tm.ind with
  | h a ih =>
    intro b sa sb w hba hbb hsza hszb hsa hsb
    obtain ⟨oa, ca, rfl, -⟩ := hsa.form
    obtain ⟨ob, cb, rfl, -⟩ := hsb.form
    have hea := Tm.size_eq a
    have heb := Tm.size_eq b
    have hla := Tm.length_sizes a.ts
    have hlb := Tm.length_sizes b.ts
    have hna : a.nm.size ≤ 1048576 := hba.name
    have hnb : b.nm.size ≤ 1048576 := hbb.name
    have hta : a.ts.length ≤ 1048576 := by omega
    have htb : b.ts.length ≤ 1048576 := by omega
    have HA := Lib.hid hea
    have HLA := Lib.hid hba
    have HLB := Lib.hid hbb
    have HB := Lib.hid heb
    have IH := Lib.hid ih
    clear hea heb ih hla hlb hba hbb
    by_cases hv : a.vr = b.vr
    · have HV := Lib.hid hv
      have hvv : (!a.vr == b.vr) = false := by rw [hv]; cases b.vr <;> rfl
      clear hv
      go_enter Try.func66, Try.ntmps66
      go_wp2_with fail
      refine (cmpNames_any _ _ _ hna hnb).mono ?_
      rintro e w1 ⟨⟨c1, rfl, hc1⟩, hb1⟩
      have HC1 := Lib.hid hc1
      have x0 := (hb1.cell (p := ⟨w.heap.size, 2, none⟩) (by simp; omega)).trans ((cell_old _ _ _ 2 (by simp)).trans (cell_at_new w _ _ 2))
      have x1 := (hb1.cell (p := ⟨w.heap.size + 1, 2, none⟩) (by simp)).trans (cell_new_at _ _ _ _ 2 (by simp))
      simp only [List.getElem?_toArray, List.getElem?_cons_zero, List.getElem?_cons_succ] at x0 x1
      have hz1 : w.heap.size + 2 ≤ w1.heap.size := by have := hb1.size; simpa using this
      have HB1 : Hid (Below w.heap.size w w1) := Lib.hid (Below.trans (by go_grown) (hb1.mono (by simp; omega)))
      clear hb1 hc1
      by_cases h1 : c1 = 0
      · subst h1
        go_wp2_with fail
        refine (cmpInts_any _ _ _).mono ?_
        rintro e w2 ⟨rfl, rfl⟩
        by_cases h2 : a.ts.length = b.ts.length
        · have h2' : ((a.ts.length : Int)) = (b.ts.length : Int) := by omega
          rw [show cmpi (a.ts.length : Int) (b.ts.length : Int) = 0 from (cmpi_zero _ _).2 h2']
          clear h2'
          go_wp2_with fail
          have H2 := Lib.hid h2
          go_loopw [7, 8, 37] (fun _ _ i wr => ∃ k : Nat, k ≤ b.ts.length ∧ i = .int .i64 k ∧ Hid (a.ts.take k = b.ts.take k) ∧ Below (w.heap.size + 2) w1 wr) (fun _ _ i _ => b.ts.length - (intOf i).toNat)
          case atStart => exact ⟨0, by omega, rfl, Lib.hid rfl, Below.refl _ _⟩
          case round =>
            obtain ⟨k, hk, rfl, HT, hbw⟩ := hrel
            have hbw2 : Below w.heap.size w wr := HB1.out.trans (hbw.mono (by omega))
            have hzw := hbw.size
            by_cases hlt : k < b.ts.length
            · obtain ⟨b1, o1, u, su, rfl, hbb1, hu, hum, hus, c1, c2, c3⟩ := (hsa.carry hbw2 (Nat.le_refl _)).get (k := k) (by omega)
              obtain ⟨b2, o2, v, sv, rfl, hbb2, hv, hvm, hvs, d1, d2, d3⟩ := (hsb.carry hbw2 (Nat.le_refl _)).get (k := k) (by omega)
              obtain ⟨ou, cu, rfl, -⟩ := hus.form
              obtain ⟨ov, cv, rfl, -⟩ := hvs.form
              have y0 := (hbw.cell (p := ⟨w.heap.size, 2, none⟩) (by simp)).trans x0
              have y1 := (hbw.cell (p := ⟨w.heap.size + 1, 2, none⟩) (by simp)).trans x1
              rw [H2.out] at y0
              have hbu : u.size ≤ 1048576 := by have := Tm.size_mem hum; have := HA.out; omega
              have hbv : v.size ≤ 1048576 := by have := Tm.size_mem hvm; have := HB.out; omega
              have HU := Lib.hid hu
              have HVV := Lib.hid hv
              have IHu := fun W1 (hW : Below w.heap.size wr W1) => Lib.hid (IH.out u hum v _ _ W1 (HLA.out.kids u hum) (HLB.out.kids v hvm) hbu hbv (hus.carry (B := W1) hW (by have := hW.size; omega)) (hvs.carry (B := W1) hW (by have := hW.size; omega)))
              clear hu hv h2
              go_wp2_with fail
              go_still_tail 10, (by kernel_rfl)
              go_wp2_with fail
              refine (IHu wr.drew (Below.refl _ wr).drew).out.mono ?_
              rintro e w9 ⟨⟨c9, rfl, hc9⟩, hb9⟩
              have HC9 := Lib.hid hc9
              have hbw9 : Below (w.heap.size + 2) w1 w9 := hbw.trans (((Below.refl _ wr).drew).trans (hb9.mono (by show _ ≤ wr.heap.size; omega)))
              have HB9 := Lib.hid hbw9
              clear hb9 hc9 hbw9 IHu
              by_cases h9 : c9 = 0
              · have HQ := Lib.hid (HC9.out.1 h9)
                subst h9
                go_wp2_with fail
                exact ⟨⟨k + 1, by omega, by go_num, Lib.hid (by rw [Tm.take_snoc HU.out, Tm.take_snoc HVV.out, HT.out, HQ.out]), HB9.out⟩, by simp [intOf]; omega⟩
              · have H9 := Lib.hid h9
                have h9' : (c9 != 0) = true := by rw [bne_iff_ne]; exact h9
                clear h9
                go_wp2_with fail
                go_ret
                refine ⟨⟨_, rfl, fun h => absurd h H9.out, fun h => absurd (HC9.out.2 ?_) H9.out⟩, HB1.out.trans (HB9.out.mono (by omega))⟩
                subst h
                exact Option.some.inj (HU.out.symm.trans HVV.out)
            · obtain rfl : k = b.ts.length := by omega
              go_wp2_with fail
              go_ret
              refine ⟨⟨_, rfl, fun _ => Tm.ext' (HC1.out.1 (by first | trivial | rfl)) HV.out ?_, fun _ => rfl⟩, hbw2⟩
              have h := HT.out
              rwa [List.take_of_length_le (Nat.le_refl _), List.take_of_length_le (by have := H2.out; omega)] at h
        · have h3 : ((cmpi (a.ts.length : Int) (b.ts.length : Int)) != 0) = true := by rw [bne_iff_ne]; intro e; have := (cmpi_zero _ _).1 e; omega
          have H3 : Hid (cmpi (a.ts.length : Int) (b.ts.length : Int) ≠ 0) := Lib.hid (by rw [← bne_iff_ne]; exact h3)
          have H2 := Lib.hid h2
          clear h2
          go_wp2_with fail
          go_ret
          exact ⟨⟨_, rfl, fun h => absurd h H3.out, fun h => absurd (by rw [h]) H2.out⟩, HB1.out⟩
      · have h1' : (c1 != 0) = true := by rw [bne_iff_ne]; exact h1
        have H1 := Lib.hid h1
        clear h1
        go_wp2_with fail
        go_ret
        exact ⟨⟨_, rfl, fun h => absurd h H1.out, fun h => absurd (HC1.out.2 (by rw [h])) H1.out⟩, HB1.out⟩
    · have HV := Lib.hid hv
      have hvv : (!a.vr == b.vr) = true := by revert hv; cases a.vr <;> cases b.vr <;> simp
      have HN : Hid (a ≠ b) := Lib.hid (fun e => hv (by rw [e]))
      clear hv
      go_enter Try.func66, Try.ntmps66
      go_wp2_with fail
      all_goals
        go_ret
        exact ⟨⟨_, rfl, fun h => by omega, fun h => absurd h HN.out⟩, by go_grown⟩

set_option maxRecDepth 100000 in
set_option maxHeartbeats 1000000 in
theorem requal_low (a b : Tm) (sa sb : Value) (w : World) (hla : a.low) (hlb : b.low) (hba : a.size ≤ 1048576) (hbb : b.size ≤ 1048576) (hsa : SlIs w.heap.size w a.ts sa) (hsb : SlIs w.heap.size w b.ts sb) :
    Calls Try.prog 63 #[tmv a sa, tmv b sb] w fun e w' => (∃ x : Bool, e = .returned (.bool x) ∧ (x = true ↔ a = b)) ∧ Below w.heap.size w w' := by
  have hG : Below w.heap.size w ((w.alloc (.cells #[.string a.nm, .bool a.vr, sa] 26)).alloc (.cells #[.string b.nm, .bool b.vr, sb] 26)) := by go_grown
  have HC := Lib.hid (rcompare_low a b sa sb _ hla hlb hba hbb (hsa.carry hG (by simp; omega)) (hsb.carry hG (by simp; omega)))
  have HG := Lib.hid hG
  clear hG
  obtain ⟨oa, ca, rfl, -⟩ := hsa.form
  obtain ⟨ob, cb, rfl, -⟩ := hsb.form
  clear hsa hsb
  go_enter Try.func63, Try.ntmps63
  go_wp2_with fail
  refine HC.out.mono ?_
  rintro e w1 ⟨⟨c, rfl, hc⟩, hb1⟩
  have HC1 := Lib.hid hc
  have HB := Lib.hid hb1
  clear hc hb1 HC
  go_wp2_with fail
  go_ret
  exact ⟨⟨_, rfl, by rw [beq_iff_eq]; exact HC1.out⟩, HG.out.trans (HB.out.mono (by simp; omega))⟩
end Go.Proofs.Ytnomppdmhgefiaa
/- The reference's Insert. -/
namespace Go.Proofs.Ytnomppdmhgefiaa
open Go.RowKit


end Go.Proofs.Ytnomppdmhgefiaa
