/- The law on variants: the walk. -/
import Derived.WalkKit
import Derived.ProofKit
import Derived.OpenShut
import Derived.Handy
import Derived.Lib.Hide
import Derived.Lib.SmallJoins
import Derived.Lib.AppendIntMem
import Derived.Deep.RegionHeld3
import Derived.Test.YtdeaehkdhghfkaaDoorRnm
import Derived.Test.YtdeaehkdhghfkaaDoorAlive
namespace Go.Proofs.YtdeaehkdhghfkaaDoor
open Go.RowKit

theorem Tm.bulks_sizes (l : List Tm) (k : Nat) (h : ∀ u ∈ l, u.bulk ≤ k * u.size) : Tm.bulks l ≤ k * Tm.sizes l := by
  induction l with
  | nil => simp [Tm.bulks]
  | cons x l ih =>
    have h1 := h x (by simp)
    have h2 := ih fun u hu => h u (by simp [hu])
    simp only [Tm.bulks, Tm.sizes, Nat.mul_add]
    omega
theorem isName_size {s : ByteArray} {m : Bool} (h : isName s m = true) : s.size ≤ 24 := by
  unfold isName at h
  simp only [Bool.and_eq_true, decide_eq_true_eq] at h
  exact h.1.2
theorem Tm.formed.bulk {t : Tm} (h : t.formed) : t.bulk ≤ 25 * t.size := by
  induction t using Tm.ind with
  | h t ih =>
    obtain ⟨h1, h2⟩ := (Tm.formed_iff t).1 h
    have hn : t.nm.size ≤ 24 := by
      unfold nodeOk at h1
      split at h1
      · simp only [Bool.and_eq_true] at h1; exact isName_size h1.1
      · simp only [Bool.and_eq_true] at h1; exact isName_size h1.1
    have := Tm.bulks_sizes t.ts 25 fun u hu => ih u hu (h2 u hu)
    rw [Tm.bulk_eq, Tm.size_eq]
    omega

theorem pow10Glob : ∃ g, Tryd.prog.globalNamed "internal/strconv.uint64pow10" = some g := by
  cases h : Tryd.prog.globalNamed "internal/strconv.uint64pow10" with
  | some g => exact ⟨g, rfl⟩
  | none => exact absurd h (by decide +kernel)
theorem itoaN {w : World} (htab : Lib.TabIs Tryd.prog w "internal/strconv.uint64pow10" .u64 Lib.pow10Tab) : Hid (∀ (i : Nat) (W : World), i < 1048576 → Below w.heap.size w W → Calls Tryd.prog 78 #[.int .i64 i] W fun e W' => e = .returned (.string (digN i)) ∧ Below W.heap.size W W') :=
  Lib.hid fun i W hi hb => by
    obtain ⟨g, hg⟩ := pow10Glob
    refine (Tryd.strconv_Itoa i (by omega) (by omega) W (Joins.tab_stays hg htab hb (Nat.le_refl _))).mono ?_
    rintro e w' ⟨rfl, k, os, rfl⟩
    exact ⟨by rw [digN, if_pos hi, kb, Lib.itoa_nonneg], Lib.below_grow _ _ (Nat.le_refl _) _ _⟩
/-- Canonical, whatever the number of names -/
theorem canonN {w₀ : World} (htab : Lib.TabIs Tryd.prog w₀ "internal/strconv.uint64pow10" .u64 Lib.pow10Tab) (t : Tm) (s : Value) (w : World) (hw : Below w₀.heap.size w₀ w) (hs : SlIs w.heap.size w t.ts s) (hb : t.bulk ≤ 1048576) :
    Calls Tryd.prog 30 #[tmv t s] w fun e w' => ∃ u c, TmNum w w' e u c ∧ ((c = 0 ∧ t.ok ∧ u = canon t) ∨ (c ≠ 0 ∧ ¬ t.ok ∧ u = Tm.none)) :=
  canonical_any digN (Below w₀.heap.size w₀) 1048576 (fun A B h k => h.trans (k.mono h.size)) w₀.heap.size (fun A B n m hn h k => ⟨k.os.trans h.os, k.tape.trans h.tape, k.output.trans h.output, Nat.le_trans h.size k.size, fun i hi => (k.block i (by have := h.size; omega) (.inl (by omega))).trans (h.block i hi)⟩)
    (fun i => Nat.le_trans (digN_size i) (by omega)) (Nat.le_refl _) (itoaN htab) t s w hs hb (Nat.le_trans (Tm.size_bulk t) hb) hw hw.size

set_option maxRecDepth 100000 in
set_option maxHeartbeats 4000000 in
theorem variants_any (a b : Tm) (sa sb : Value) (w : World) (htab : Lib.TabIs Tryd.prog w "internal/strconv.uint64pow10" .u64 Lib.pow10Tab) (ha : SlIs w.heap.size w a.ts sa) (hb : SlIs w.heap.size w b.ts sb) (hbk : a.bulk + b.bulk ≤ 1048576) :
    Calls Tryd.prog 10 #[tmv a sa, tmv b sb] w fun e w' => e = .returned (.bool true) ∧ Below w.heap.size w w' := by
  obtain ⟨oa, ca, rfl, -⟩ := ha.form
  obtain ⟨ob, cb, rfl, -⟩ := hb.form
  have HBA : Hid (a.bulk ≤ 1048576) := Lib.hid (by omega)
  have HBB : Hid (b.bulk ≤ 1048576) := Lib.hid (by omega)
  have HTAB := Lib.hid htab
  have hb0 : Below w.heap.size w ((w.alloc (.cells #[.string a.nm, .bool a.vr, .slice oa a.ts.length ca] 24)).alloc (.cells #[.string b.nm, .bool b.vr, .slice ob b.ts.length cb] 24)) := by go_grown
  have HW0 := Lib.hid hb0
  have HTA0 : Hid (TBx ((w.alloc (.cells #[.string a.nm, .bool a.vr, .slice oa a.ts.length ca] 24)).alloc (.cells #[.string b.nm, .bool b.vr, .slice ob b.ts.length cb] 24)) w.heap.size a (.slice oa a.ts.length ca)) :=
    Lib.hid ⟨(Below.heap_alloc _ _ _ (by simp)).trans (heap_new_at _ _ _ rfl), ha.carry hb0 hb0.size⟩
  have HTB0 : Hid (TBx ((w.alloc (.cells #[.string a.nm, .bool a.vr, .slice oa a.ts.length ca] 24)).alloc (.cells #[.string b.nm, .bool b.vr, .slice ob b.ts.length cb] 24)) (w.heap.size + 1) b (.slice ob b.ts.length cb)) :=
    Lib.hid ⟨heap_new_at _ _ _ (by simp), hb.carry hb0 hb0.size⟩
  clear ha hb hb0 hbk htab
  have hAa := (box3 HTA0.out.box).1
  obtain ⟨a0, a1, a2⟩ := hAa
  go_enter Tryd.func10, Tryd.ntmps10
  rw [show tmv a (.slice oa a.ts.length ca) = .agg #[.string a.nm, .bool a.vr, .slice oa a.ts.length ca] from rfl, show tmv b (.slice ob b.ts.length cb) = .agg #[.string b.nm, .bool b.vr, .slice ob b.ts.length cb] from rfl]
  go_wp2_with fail
  clear a0 a1 a2
  generalize ((w.alloc (.cells #[.string a.nm, .bool a.vr, .slice oa a.ts.length ca] 24)).alloc (.cells #[.string b.nm, .bool b.vr, .slice ob b.ts.length cb] 24)) = W0 at HW0 HTA0 HTB0 ⊢
  refine (canonN HTAB.out a _ _ HW0.out HTA0.out.is HBA.out).mono ?_
  rintro e V1 ⟨x, c1, ⟨⟨s1, rfl, h1⟩, hb1⟩, hc1⟩
  obtain ⟨o1, k1, rfl, -⟩ := h1.form
  dsimp only [tmv]
  have hbn := hb1.alloc hb1.size (.cells #[.string x.nm, .bool x.vr, .slice o1 x.ts.length k1] 24)
  have HTA1 := Lib.hid (HTA0.out.carry hbn); have HTB1 := Lib.hid (HTB0.out.carry hbn); have HW1 := Lib.hid (HW0.out.trans (hbn.mono HW0.out.size))
  have HTX1 := Lib.hid (TBx.new h1)
  have HC1 := Lib.hid hc1
  clear hb1 hbn h1 hc1
  obtain ⟨⟨b0, b1, b2⟩, -⟩ := box3 HTB1.out.box
  go_wp2_with fail
  clear b0 b1 b2
  refine (canonN HTAB.out b _ _ HW1.out HTB1.out.is HBB.out).mono ?_
  rintro e V2 ⟨y, c2, ⟨⟨s2, rfl, h2⟩, hb2⟩, hc2⟩
  obtain ⟨o2, k2, rfl, -⟩ := h2.form
  dsimp only [tmv]
  have hbn := hb2.alloc hb2.size (.cells #[.string y.nm, .bool y.vr, .slice o2 y.ts.length k2] 24)
  have HTA2 := Lib.hid (HTA1.out.carry hbn); have HTB2 := Lib.hid (HTB1.out.carry hbn); have HTX2 := Lib.hid (HTX1.out.carry hbn); have HW2 := Lib.hid (HW1.out.trans (hbn.mono HW1.out.size))
  have HTY2 := Lib.hid (TBx.new h2)
  have HC2 := Lib.hid hc2
  clear hb2 hbn h2 hc2
  by_cases h1 : c1 = 0
  · by_cases h2 : c2 = 0
    · subst h1
      subst h2
      obtain ⟨hoka, rfl⟩ : a.ok ∧ x = canon a := by
        rcases HC1.out with ⟨_, h1, h2⟩ | ⟨h, _⟩
        · exact ⟨h1, h2⟩
        · exact absurd rfl h
      obtain ⟨hokb, rfl⟩ : b.ok ∧ y = canon b := by
        rcases HC2.out with ⟨_, h1, h2⟩ | ⟨h, _⟩
        · exact ⟨h1, h2⟩
        · exact absurd rfl h
      have HOKA := Lib.hid hoka
      have HOKB := Lib.hid hokb
      have HCBA : Hid ((canon a).bulk ≤ 1048576) := Lib.hid (by have h := canon_ok hoka; have := h.1.bulk; have := h.2.1; omega)
      have HCBB : Hid ((canon b).bulk ≤ 1048576) := Lib.hid (by have h := canon_ok hokb; have := h.1.bulk; have := h.2.1; omega)
      have HCC : Hid (canon (canon a) = canon a) := Lib.hid (canon_canon a (by have := hoka.2.1; omega))
      clear hoka hokb HC1 HC2
      obtain ⟨⟨x0, x1, x2⟩, -⟩ := box3 HTX2.out.box
      go_wp2_with fail
      clear x0 x1 x2
      refine (canonN HTAB.out (canon a) _ _ HW2.out HTX2.out.is HCBA.out).mono ?_
      rintro e V3 ⟨z, c3, ⟨⟨s3, rfl, h3⟩, hb3⟩, hc3⟩
      obtain ⟨o3, k3, rfl, -⟩ := h3.form
      dsimp only [tmv]
      have hbn := hb3.alloc hb3.size (.cells #[.string z.nm, .bool z.vr, .slice o3 z.ts.length k3] 24)
      have HTA3 := Lib.hid (HTA2.out.carry hbn); have HTB3 := Lib.hid (HTB2.out.carry hbn); have HTX3 := Lib.hid (HTX2.out.carry hbn); have HTY3 := Lib.hid (HTY2.out.carry hbn); have HW3 := Lib.hid (HW2.out.trans (hbn.mono HW2.out.size))
      have HTZ3 := Lib.hid (TBx.new h3)
      have HC3 := Lib.hid hc3
      clear hb3 hbn h3 hc3
      obtain ⟨rfl, hzz⟩ : c3 = 0 ∧ z = canon a := by
        rcases HC3.out with ⟨h0, _, h2⟩ | ⟨_, h, _⟩
        · exact ⟨h0, by rw [h2, HCC.out]⟩
        · exact absurd (canon_ok HOKA.out) h
      subst hzz
      clear HC3
      obtain ⟨⟨a0, a1, a2⟩, -⟩ := box3 HTA3.out.box; obtain ⟨⟨b0, b1, b2⟩, -⟩ := box3 HTB3.out.box; obtain ⟨⟨x0, x1, x2⟩, -⟩ := box3 HTX3.out.box; obtain ⟨⟨y0, y1, y2⟩, -⟩ := box3 HTY3.out.box; obtain ⟨⟨z0, z1, z2⟩, -⟩ := box3 HTZ3.out.box
      go_wp2_with fail
      have hdr : Below (V3.alloc (.cells #[.string (canon a).nm, .bool (canon a).vr, .slice o3 (canon a).ts.length k3] 24)).heap.size (V3.alloc (.cells #[.string (canon a).nm, .bool (canon a).vr, .slice o3 (canon a).ts.length k3] 24)) (V3.alloc (.cells #[.string (canon a).nm, .bool (canon a).vr, .slice o3 (canon a).ts.length k3] 24)).drew := (Below.refl _ _).drew
      have HTA4 := Lib.hid (HTA3.out.carry hdr); have HTB4 := Lib.hid (HTB3.out.carry hdr); have HTX4 := Lib.hid (HTX3.out.carry hdr); have HTY4 := Lib.hid (HTY3.out.carry hdr); have HTZ4 := Lib.hid (HTZ3.out.carry hdr); have HW4 := Lib.hid (HW3.out.trans (hdr.mono HW3.out.size))
      clear hdr
      go_region_held3? (fun w' => w'.cell? ⟨w.heap.size, 0, none⟩ = some (.string a.nm) ∧ w'.cell? ⟨w.heap.size, 1, none⟩ = some (.bool a.vr) ∧ w'.cell? ⟨w.heap.size, 2, none⟩ = some ((.slice oa a.ts.length ca)) ∧ w'.cell? ⟨w.heap.size + 1, 0, none⟩ = some (.string b.nm) ∧ w'.cell? ⟨w.heap.size + 1, 1, none⟩ = some (.bool b.vr) ∧ w'.cell? ⟨w.heap.size + 1, 2, none⟩ = some ((.slice ob b.ts.length cb)) ∧ w'.cell? ⟨V1.heap.size, 0, none⟩ = some (.string (canon a).nm) ∧ w'.cell? ⟨V1.heap.size, 1, none⟩ = some (.bool (canon a).vr) ∧ w'.cell? ⟨V1.heap.size, 2, none⟩ = some ((.slice o1 (canon a).ts.length k1)) ∧ w'.cell? ⟨V2.heap.size, 0, none⟩ = some (.string (canon b).nm) ∧ w'.cell? ⟨V2.heap.size, 1, none⟩ = some (.bool (canon b).vr) ∧ w'.cell? ⟨V2.heap.size, 2, none⟩ = some ((.slice o2 (canon b).ts.length k2)) ∧ w'.cell? ⟨V3.heap.size, 0, none⟩ = some (.string (canon a).nm) ∧ w'.cell? ⟨V3.heap.size, 1, none⟩ = some (.bool (canon a).vr) ∧ w'.cell? ⟨V3.heap.size, 2, none⟩ = some ((.slice o3 (canon a).ts.length k3))) (go_keep) ((first
        | (go_at_call 24
           refine (alive_any _).mono ?_
           rintro e V9 ⟨rfl, hb9⟩
           skip
           have HTA9 := Lib.hid (HTA8.out.carry hb9); have HTB9 := Lib.hid (HTB8.out.carry hb9); have HTX9 := Lib.hid (HTX8.out.carry hb9); have HTY9 := Lib.hid (HTY8.out.carry hb9); have HTZ9 := Lib.hid (HTZ8.out.carry hb9); have HW9 := Lib.hid (HW8.out.trans (hb9.mono HW8.out.size))
           clear a0 a1 a2 b0 b1 b2 x0 x1 x2 y0 y1 y2 z0 z1 z2
           obtain ⟨⟨a0, a1, a2⟩, -⟩ := box3 HTA9.out.box; obtain ⟨⟨b0, b1, b2⟩, -⟩ := box3 HTB9.out.box; obtain ⟨⟨x0, x1, x2⟩, -⟩ := box3 HTX9.out.box; obtain ⟨⟨y0, y1, y2⟩, -⟩ := box3 HTY9.out.box; obtain ⟨⟨z0, z1, z2⟩, -⟩ := box3 HTZ9.out.box
           clear hb9)
        | (go_at_call 55
           refine (renamed_any a (canon a) _ _ _ HTA7.out.is HTX7.out.is HOKA.out.2.1 (canon_ok HOKA.out).2.1 HBA.out HCBA.out HCBA.out (by rw [HCC.out]; exact HCBA.out)).mono ?_
           rintro e V8 ⟨⟨r8, rfl, hr8⟩, hb8⟩
           obtain rfl : r8 = true := hr8.2 HCC.out.symm; clear hr8
           have HTA8 := Lib.hid (HTA7.out.carry hb8); have HTB8 := Lib.hid (HTB7.out.carry hb8); have HTX8 := Lib.hid (HTX7.out.carry hb8); have HTY8 := Lib.hid (HTY7.out.carry hb8); have HTZ8 := Lib.hid (HTZ7.out.carry hb8); have HW8 := Lib.hid (HW7.out.trans (hb8.mono HW7.out.size))
           clear a0 a1 a2 b0 b1 b2 x0 x1 x2 y0 y1 y2 z0 z1 z2
           obtain ⟨⟨a0, a1, a2⟩, -⟩ := box3 HTA8.out.box; obtain ⟨⟨b0, b1, b2⟩, -⟩ := box3 HTB8.out.box; obtain ⟨⟨x0, x1, x2⟩, -⟩ := box3 HTX8.out.box; obtain ⟨⟨y0, y1, y2⟩, -⟩ := box3 HTY8.out.box; obtain ⟨⟨z0, z1, z2⟩, -⟩ := box3 HTZ8.out.box
           clear hb8)
        | (go_at_call 20
           refine (requal_any (canon a) (canon a) _ _ _ HCBA.out HCBA.out HTZ6.out.is HTX6.out.is).mono ?_
           rintro e V7 ⟨⟨r7, rfl, hr7⟩, hb7⟩
           obtain rfl : r7 = true := hr7.2 rfl; clear hr7
           have HTA7 := Lib.hid (HTA6.out.carry hb7); have HTB7 := Lib.hid (HTB6.out.carry hb7); have HTX7 := Lib.hid (HTX6.out.carry hb7); have HTY7 := Lib.hid (HTY6.out.carry hb7); have HTZ7 := Lib.hid (HTZ6.out.carry hb7); have HW7 := Lib.hid (HW6.out.trans (hb7.mono HW6.out.size))
           clear a0 a1 a2 b0 b1 b2 x0 x1 x2 y0 y1 y2 z0 z1 z2
           obtain ⟨⟨a0, a1, a2⟩, -⟩ := box3 HTA7.out.box; obtain ⟨⟨b0, b1, b2⟩, -⟩ := box3 HTB7.out.box; obtain ⟨⟨x0, x1, x2⟩, -⟩ := box3 HTX7.out.box; obtain ⟨⟨y0, y1, y2⟩, -⟩ := box3 HTY7.out.box; obtain ⟨⟨z0, z1, z2⟩, -⟩ := box3 HTZ7.out.box
           clear hb7)
        | (go_at_call 55
           refine (renamed_any a b _ _ _ HTA5.out.is HTB5.out.is HOKA.out.2.1 HOKB.out.2.1 HBA.out HBB.out HCBA.out HCBB.out).mono ?_
           rintro e V6 ⟨⟨r6, rfl, hr6⟩, hb6⟩
           obtain rfl : r6 = r5 := by have h5 := HR5.out; cases r5 <;> cases r6 <;> simp_all
           clear hr6
           have HTA6 := Lib.hid (HTA5.out.carry hb6); have HTB6 := Lib.hid (HTB5.out.carry hb6); have HTX6 := Lib.hid (HTX5.out.carry hb6); have HTY6 := Lib.hid (HTY5.out.carry hb6); have HTZ6 := Lib.hid (HTZ5.out.carry hb6); have HW6 := Lib.hid (HW5.out.trans (hb6.mono HW5.out.size))
           clear a0 a1 a2 b0 b1 b2 x0 x1 x2 y0 y1 y2 z0 z1 z2
           obtain ⟨⟨a0, a1, a2⟩, -⟩ := box3 HTA6.out.box; obtain ⟨⟨b0, b1, b2⟩, -⟩ := box3 HTB6.out.box; obtain ⟨⟨x0, x1, x2⟩, -⟩ := box3 HTX6.out.box; obtain ⟨⟨y0, y1, y2⟩, -⟩ := box3 HTY6.out.box; obtain ⟨⟨z0, z1, z2⟩, -⟩ := box3 HTZ6.out.box
           clear hb6)
        | (go_at_call 20
           refine (requal_any (canon a) (canon b) _ _ _ HCBA.out HCBB.out HTX4.out.is HTY4.out.is).mono ?_
           rintro e V5 ⟨⟨r5, rfl, hr5⟩, hb5⟩
           have HR5 := Lib.hid hr5; clear hr5
           have HTA5 := Lib.hid (HTA4.out.carry hb5); have HTB5 := Lib.hid (HTB4.out.carry hb5); have HTX5 := Lib.hid (HTX4.out.carry hb5); have HTY5 := Lib.hid (HTY4.out.carry hb5); have HTZ5 := Lib.hid (HTZ4.out.carry hb5); have HW5 := Lib.hid (HW4.out.trans (hb5.mono HW4.out.size))
           clear a0 a1 a2 b0 b1 b2 x0 x1 x2 y0 y1 y2 z0 z1 z2
           obtain ⟨⟨a0, a1, a2⟩, -⟩ := box3 HTA5.out.box; obtain ⟨⟨b0, b1, b2⟩, -⟩ := box3 HTB5.out.box; obtain ⟨⟨x0, x1, x2⟩, -⟩ := box3 HTX5.out.box; obtain ⟨⟨y0, y1, y2⟩, -⟩ := box3 HTY5.out.box; obtain ⟨⟨z0, z1, z2⟩, -⟩ := box3 HTZ5.out.box
           clear hb5)
        ))
      go_wp2_with fail
      go_ret
      exact ⟨rfl, HW9.out⟩
    · have h1' : (c1 != 0) = false := by rw [bne_eq_false_iff_eq]; exact h1
      have h2' : (c2 != 0) = true := by rw [bne_iff_ne]; exact h2
      go_wp2_with fail
      refine (alive_any _).mono ?_
      rintro e wz ⟨rfl, hbz⟩
      go_wp2_with fail
      go_ret
      exact ⟨rfl, HW2.out.trans (hbz.mono HW2.out.size)⟩
  · have h1' : (c1 != 0) = true := by rw [bne_iff_ne]; exact h1
    go_wp2_with fail
    refine (alive_any _).mono ?_
    rintro e wz ⟨rfl, hbz⟩
    go_wp2_with fail
    go_ret
    exact ⟨rfl, HW2.out.trans (hbz.mono HW2.out.size)⟩
end Go.Proofs.YtdeaehkdhghfkaaDoor
