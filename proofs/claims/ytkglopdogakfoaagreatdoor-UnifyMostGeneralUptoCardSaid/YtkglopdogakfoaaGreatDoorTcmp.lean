/- Package term's Compare and Equal: zero just where two terms are one. -/
import Derived.WalkKit
import Derived.ProofKit
import Derived.OpenShut
import Derived.Handy
import Derived.Lib.Hide
import Derived.Deep.RegionHeld3
import Derived.Test.YtkglopdogakfoaaGreatDoorGg
import Derived.Test.YtkglopdogakfoaaGreatDoorGe
namespace Go.Proofs.YtkglopdogakfoaaGreatDoor
open Go.RowKit

set_option maxHeartbeats 1000000 in
theorem cmpOr_any (g : Nat) (x y : Int) (w : World) (h : w.heap[g]? = some (.cells #[.int .i64 x, .int .i64 y] 3 (0, 0))) :
    Calls Tryz.prog 193 #[.slice (some ⟨g, 0, none⟩) 2 2] w fun e w' => (∃ c : Int, e = .returned (.int .i64 c) ∧ (c = 0 ↔ x = 0 ∧ y = 0)) ∧ w = w' := by
  have c0 : w.cell? ⟨g, 0, none⟩ = some (.int .i64 x) := by have := cells_of' h 0; simpa using this
  have c1 : w.cell? ⟨g, 1, none⟩ = some (.int .i64 y) := by have := cells_of' h 1; simpa using this
  clear h
  by_cases hx : x = 0
  · subst hx
    by_cases hy : y = 0
    · subst hy
      go_enter Tryz.func193, Tryz.ntmps193
      go_wp2_with fail
      go_rounds 3
      go_ret
      exact ⟨⟨_, rfl, by simp⟩, rfl⟩
    · have hy2 : (y != 0) = true := by rw [bne_iff_ne]; exact hy
      have HY := Lib.hid hy
      clear hy
      go_enter Tryz.func193, Tryz.ntmps193
      go_wp2_with fail
      go_rounds 2
      go_ret
      exact ⟨⟨_, rfl, fun e => absurd e HY.out, fun e => absurd e.2 HY.out⟩, rfl⟩
  · have hx2 : (x != 0) = true := by rw [bne_iff_ne]; exact hx
    have HX := Lib.hid hx
    clear hx
    go_enter Tryz.func193, Tryz.ntmps193
    go_wp2_with fail
    go_rounds 1
    go_ret
    exact ⟨⟨_, rfl, fun e => absurd e HX.out, fun e => absurd e.1 HX.out⟩, rfl⟩

/-- what Compare says of two terms -/
def CmpPost (a b : Tm) (w : World) (e : Ending) (w' : World) : Prop := (∃ c : Int, e = .returned (.int .i64 c) ∧ (c = 0 ↔ a = b)) ∧ Below w.heap.size w w'

set_option maxRecDepth 100000 in
set_option maxHeartbeats 2000000 in
theorem compareFunc_any (l r : List Tm) (o1 o2 : Option Addr) (k1 k2 : Nat) (w : World) (hlen : l.length = r.length) (hl : l.length ≤ 1048576) (h1 : SlIs w.heap.size w l (.slice o1 l.length k1)) (h2 : SlIs w.heap.size w r (.slice o2 r.length k2))
    (HB : Hid (∀ u ∈ l, u.bulk ≤ 1048576)) (HB2 : Hid (∀ u ∈ r, u.bulk ≤ 1048576))
    (HC : Hid (∀ u ∈ l, ∀ (v : Tm) (su sv : Value) (W : World), u.bulk ≤ 1048576 → v.bulk ≤ 1048576 → SlIs W.heap.size W u.ts su → SlIs W.heap.size W v.ts sv → Calls Tryz.prog 171 #[tmv u su, tmv v sv] W (CmpPost u v W))) :
    Calls Tryz.prog 196 #[.slice o1 l.length k1, .slice o2 r.length k2, .func (.func 171) #[] #[]] w fun e w' => (∃ c : Int, e = .returned (.int .i64 c) ∧ (c = 0 ↔ l = r)) ∧ Below w.heap.size w w' := by
  have hcf := Tryz.call171
  have H1 := Lib.hid h1
  have H2 := Lib.hid h2
  have HL := Lib.hid hlen
  have hr : r.length ≤ 1048576 := by omega
  clear h1 h2 hlen
  go_enter Tryz.func196, Tryz.ntmps196
  go_wp2_with fail
  go_loopw [13] (fun i wr => ∃ k : Nat, k ≤ l.length ∧ i = .int .i64 k ∧ Hid (l.take k = r.take k) ∧ Hid (Below w.heap.size w wr)) (fun i _ => l.length - (intOf i).toNat)
  case atStart => exact ⟨0, by omega, rfl, Lib.hid rfl, Lib.hid (Below.refl _ _)⟩
  case round =>
    obtain ⟨k, hk, rfl, HE, HW⟩ := hrel
    have hz := HW.out.size
    by_cases hlt : k < l.length
    · have hlt2 : k < r.length := by have := HL.out; omega
      obtain ⟨b1, p1, u, su, rfl, hbb1, hu, hum, hus, c1, c2, c3⟩ := (H1.out.carry HW.out (Nat.le_refl _)).get hlt
      obtain ⟨b2, p2, v, sv, rfl, hbb2, hv, hvm, hvs, d1, d2, d3⟩ := (H2.out.carry HW.out (Nat.le_refl _)).get hlt2
      obtain ⟨ou, cu, rfl, -⟩ := hus.form
      obtain ⟨ov, cv, rfl, -⟩ := hvs.form
      have HU := Lib.hid hu
      have HV := Lib.hid hv
      have HUS := Lib.hid hus
      have HVS := Lib.hid hvs
      have HCU := fun W (hW : Below wr.heap.size wr W) => Lib.hid (HC.out u hum v (.slice ou u.ts.length cu) (.slice ov v.ts.length cv) W (HB.out u hum) (HB2.out v hvm) (hus.carry (hW.mono hz) (Nat.le_trans hz hW.size)) (hvs.carry (hW.mono hz) (Nat.le_trans hz hW.size)))
      have hge : ¬ (r.length ≤ k) := by omega
      have e1 := (cell_old wr (.cells #[.string u.nm, .bool u.vr, .slice ou u.ts.length cu] 25) b2 _ (by omega)).trans d1
      have e2 := (cell_old wr (.cells #[.string u.nm, .bool u.vr, .slice ou u.ts.length cu] 25) b2 _ (by omega)).trans d2
      have e3 := (cell_old wr (.cells #[.string u.nm, .bool u.vr, .slice ou u.ts.length cu] 25) b2 _ (by omega)).trans d3
      clear hu hv hus hvs
      go_wp2_with fail
      refine (HCU _ (by go_grown)).out.mono ?_
      rintro e w2 ⟨⟨c, rfl, hc⟩, hb2⟩
      have HC2 := Lib.hid hc
      have HB3 : Hid (Below wr.heap.size wr w2) := Lib.hid (Below.trans (by go_grown) (hb2.mono (by simp; omega)))
      clear hc hb2
      by_cases hc0 : c = 0
      · subst hc0
        have HUV := Lib.hid (HC2.out.1 rfl)
        go_wp2_with fail
        exact ⟨⟨k + 1, by omega, by go_num, Lib.hid (by rw [Tm.take_snoc HU.out, Tm.take_snoc HV.out, HE.out, HUV.out]), Lib.hid (HW.out.trans (HB3.out.mono hz))⟩, by simp [intOf]; omega⟩
      · have hcb : (c != 0) = true := by rw [bne_iff_ne]; exact hc0
        have HN : Hid (l ≠ r) := Lib.hid (fun e => hc0 (HC2.out.2 (by
          have h1 := HU.out; have h2 := HV.out; rw [e, h2] at h1; exact (Option.some.inj h1).symm)))
        have HC0 := Lib.hid hc0
        clear hc0
        go_wp2_with fail
        go_ret
        exact ⟨⟨_, rfl, fun e => absurd e HC0.out, fun e => absurd e HN.out⟩, HW.out.trans (HB3.out.mono hz)⟩
    · obtain rfl : k = l.length := by omega
      have HLR : Hid (l = r) := Lib.hid (by have := HE.out; rwa [List.take_length, HL.out, List.take_length] at this)
      have hlr : ¬ (l.length < r.length) := by have := HL.out; omega
      go_wp2_with fail
      go_ret
      exact ⟨⟨_, rfl, fun _ => HLR.out, fun _ => rfl⟩, HW.out⟩

theorem compareBytes_zero (a b : List UInt8) : Lib.compareBytes a b = 0 ↔ a = b := by
  induction a generalizing b with
  | nil => cases b <;> simp [Lib.compareBytes]
  | cons x a ih =>
    cases b with
    | nil => simp [Lib.compareBytes]
    | cons y b =>
      simp only [Lib.compareBytes]
      by_cases h1 : x < y
      · have hne : x ≠ y := fun e => by subst e; exact UInt8.lt_irrefl _ h1
        simp [h1, hne]
      · by_cases h2 : y < x
        · have hne : x ≠ y := fun e => by subst e; exact UInt8.lt_irrefl _ h2
          simp [h1, h2, hne]
        · have he : x = y := UInt8.toNat_inj.1 (by rw [UInt8.lt_iff_toNat_lt] at h1 h2; omega)
          subst he
          simp [h1, ih]
theorem compareInt_zero (a b : Int) : Lib.compareInt a b = 0 ↔ a = b := by unfold Lib.compareInt; split <;> (try split) <;> omega
theorem nm_ext {a b : ByteArray} (h : a.data.toList = b.data.toList) : a = b := by cases a; cases b; simpa using h

set_option maxRecDepth 100000 in
set_option maxHeartbeats 4000000 in
theorem tcompare_any (a : Tm) : ∀ (b : Tm) (sa sb : Value) (w : World), a.bulk ≤ 1048576 → b.bulk ≤ 1048576 → SlIs w.heap.size w a.ts sa → SlIs w.heap.size w b.ts sb →
    Calls Tryz.prog 171 #[tmv a sa, tmv b sb] w (CmpPost a b w) := by
  induction a using Tm.ind with
  | h a ih =>
    intro b sa sb w hba hbb hsa hsb
    obtain ⟨oa, ca, rfl, -⟩ := hsa.form
    obtain ⟨ob, cb, rfl, -⟩ := hsb.form
    have hea := Tm.bulk_eq a
    have heb := Tm.bulk_eq b
    have hta : a.ts.length ≤ 1048576 := by have := Tm.length_sizes a.ts; have := Tm.size_bulk a; have := Tm.size_eq a; omega
    have htb : b.ts.length ≤ 1048576 := by have := Tm.length_sizes b.ts; have := Tm.size_bulk b; have := Tm.size_eq b; omega
    have HKA : Hid (∀ u ∈ a.ts, u.bulk ≤ 1048576) := Lib.hid fun u hu => by have := Tm.bulk_mem hu; omega
    have HKB : Hid (∀ u ∈ b.ts, u.bulk ≤ 1048576) := Lib.hid fun u hu => by have := Tm.bulk_mem hu; omega
    have HSA := Lib.hid hsa
    have HSB := Lib.hid hsb
    have IH : Hid (∀ u ∈ a.ts, ∀ (v : Tm) (su sv : Value) (W : World), u.bulk ≤ 1048576 → v.bulk ≤ 1048576 → SlIs W.heap.size W u.ts su → SlIs W.heap.size W v.ts sv → Calls Tryz.prog 171 #[tmv u su, tmv v sv] W (CmpPost u v W)) := Lib.hid ih
    clear hea heb ih hsa hsb
    have HB0 : Hid (Below w.heap.size w ((w.alloc (.cells #[.string a.nm, .bool a.vr, .slice oa a.ts.length ca] 25)).alloc (.cells #[.string b.nm, .bool b.vr, .slice ob b.ts.length cb] 25))) := Lib.hid (by go_grown)
    by_cases hv : a.vr = b.vr
    · have HV := Lib.hid hv
      have hvv : (a.vr != b.vr) = false := by rw [hv]; cases b.vr <;> rfl
      have hvv2 : (!a.vr == b.vr) = false := by rw [hv]; cases b.vr <;> rfl
      clear hv
      go_enter Tryz.func171, Tryz.ntmps171
      go_wp2_with fail
      have hA := (Below.heap_alloc _ (.cells #[.string b.nm, .bool b.vr, .slice ob b.ts.length cb] 25) _ (by simp)).trans (heap_new_at w (.cells #[.string a.nm, .bool a.vr, .slice oa a.ts.length ca] 25) w.heap.size rfl)
      have hB := heap_new_at (w.alloc (.cells #[.string a.nm, .bool a.vr, .slice oa a.ts.length ca] 25)) (.cells #[.string b.nm, .bool b.vr, .slice ob b.ts.length cb] 25) (w.heap.size + 1) (by simp)
      obtain ⟨⟨p0, p1, p2⟩, -⟩ := box3 hA
      obtain ⟨⟨q0, q1, q2⟩, -⟩ := box3 hB
      clear hA hB
      go_region_held3 (fun w' => w'.cell? ⟨w.heap.size, 0, none⟩ = some (.string a.nm) ∧ w'.cell? ⟨w.heap.size, 2, none⟩ = some (.slice oa a.ts.length ca) ∧ w'.cell? ⟨w.heap.size + 1, 0, none⟩ = some (.string b.nm) ∧ w'.cell? ⟨w.heap.size + 1, 2, none⟩ = some (.slice ob b.ts.length cb)) (go_keep) ((first
        | (go_at_call 194
           refine (Tryz.strings_Compare a.nm b.nm _).mono ?_
           rintro e w' ⟨rfl, rfl⟩)
        | (go_at_call 195
           refine (Tryz.cmp_Compare_int a.ts.length b.ts.length _).mono ?_
           rintro e w' ⟨rfl, rfl⟩)
        | (go_at_call 193
           refine (cmpOr_any (w.heap.size + 1 + 1) (Lib.compareBytes a.nm.data.toList b.nm.data.toList) (Lib.compareInt a.ts.length b.ts.length) _ ?hx).mono ?_
           case hx => exact heap_new_at _ _ _ (by simp)
           rintro e w' ⟨⟨c, rfl, hc⟩, rfl⟩
           have HC := Lib.hid hc
           clear hc)))
      have HNE : Hid (Lib.compareBytes a.nm.data.toList b.nm.data.toList = 0 ↔ a.nm = b.nm) := Lib.hid ((compareBytes_zero _ _).trans ⟨nm_ext, fun h => by rw [h]⟩)
      have HLE : Hid (Lib.compareInt a.ts.length b.ts.length = 0 ↔ a.ts.length = b.ts.length) := Lib.hid ((compareInt_zero _ _).trans (by omega))
      by_cases hc0 : c = 0
      · subst hc0
        have HNM : Hid (a.nm = b.nm) := Lib.hid (HNE.out.1 (HC.out.1 rfl).1)
        have HLN : Hid (a.ts.length = b.ts.length) := Lib.hid (HLE.out.1 (HC.out.1 rfl).2)
        clear HC HNE HLE
        have HCF := fun W (hW : Below w.heap.size w W) => Lib.hid (compareFunc_any a.ts b.ts oa ob ca cb W HLN.out hta (HSA.out.carry hW hW.size) (HSB.out.carry hW hW.size) HKA HKB IH)
        go_wp2_with fail
        refine (HCF _ (by go_grown)).out.mono ?_
        rintro e w2 ⟨⟨c, rfl, hc⟩, hb2⟩
        have HC2 := Lib.hid hc
        have HB2 : Hid (Below w.heap.size w w2) := Lib.hid (Below.trans (by go_grown) (hb2.mono (by simp; omega)))
        clear hc hb2
        go_wp2_with fail
        go_ret
        exact ⟨⟨_, rfl, fun h => Tm.ext' HNM.out HV.out (HC2.out.1 h), fun h => HC2.out.2 (by rw [h])⟩, HB2.out⟩
      · have hcb : (c != 0) = true := by rw [bne_iff_ne]; exact hc0
        have HC0 := Lib.hid hc0
        clear hc0
        go_wp2_with fail
        go_ret
        refine ⟨⟨_, rfl, fun h => absurd h HC0.out, fun h => absurd (HC.out.2 ⟨HNE.out.2 (by rw [h]), HLE.out.2 (by rw [h])⟩) HC0.out⟩, by go_grown⟩
    · have HN : Hid (a ≠ b) := Lib.hid (fun e => hv (by rw [e]))
      have hvv : (a.vr != b.vr) = true := by rw [bne_iff_ne]; exact hv
      have hvv2 : (!a.vr == b.vr) = true := by revert hv; cases a.vr <;> cases b.vr <;> simp
      clear hv
      go_enter Tryz.func171, Tryz.ntmps171
      go_wp2_with fail
      all_goals
        go_ret
        exact ⟨⟨_, rfl, fun h => by omega, fun h => absurd h HN.out⟩, HB0.out⟩

set_option maxRecDepth 100000 in
set_option maxHeartbeats 1000000 in
theorem tequal_any (a b : Tm) (sa sb : Value) (w : World) (hba : a.bulk ≤ 1048576) (hbb : b.bulk ≤ 1048576) (hsa : SlIs w.heap.size w a.ts sa) (hsb : SlIs w.heap.size w b.ts sb) :
    Calls Tryz.prog 147 #[tmv a sa, tmv b sb] w fun e w' => (∃ x : Bool, e = .returned (.bool x) ∧ (x = true ↔ a = b)) ∧ Below w.heap.size w w' := by
  have hG : Below w.heap.size w ((w.alloc (.cells #[.string a.nm, .bool a.vr, sa] 25)).alloc (.cells #[.string b.nm, .bool b.vr, sb] 25)) := by go_grown
  have HC := Lib.hid (tcompare_any a b sa sb _ hba hbb (hsa.carry hG (by simp; omega)) (hsb.carry hG (by simp; omega)))
  have HG := Lib.hid hG
  clear hG
  obtain ⟨oa, ca, rfl, -⟩ := hsa.form
  obtain ⟨ob, cb, rfl, -⟩ := hsb.form
  clear hsa hsb
  go_enter Tryz.func147, Tryz.ntmps147
  go_wp2_with fail
  refine HC.out.mono ?_
  rintro e w1 ⟨⟨c, rfl, hc⟩, hb1⟩
  have HC1 := Lib.hid hc
  have HB := Lib.hid hb1
  clear hc hb1 HC
  go_wp2_with fail
  go_ret
  exact ⟨⟨_, rfl, by rw [beq_iff_eq]; exact HC1.out⟩, HG.out.trans (HB.out.mono (by simp; omega))⟩
end Go.Proofs.YtkglopdogakfoaaGreatDoor
