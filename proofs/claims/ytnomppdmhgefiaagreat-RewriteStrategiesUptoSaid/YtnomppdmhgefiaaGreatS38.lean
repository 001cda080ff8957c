/- For every system and every term the law RewriteStrategies returns true and leaves its arguments as they were.
   CONDITIONS: what comes in holds together at most 1048576 values and letters. -/
import Derived.Test.YtnomppdmhgefiaaGreatS37
import Derived.Test.YtnomppdmhgefiaaGreatS36
import Derived.JoinedCond
import Derived.OpenShut
import Derived.ChangeSlices
import Derived.Test.YtnomppdmhgefiaaGreatS01
import Derived.Test.YtnomppdmhgefiaaGreatS09
/- The law RewriteStrategies. -/
namespace Go.Proofs.YtnomppdmhgefiaaGreat
open Go.RowKit

/-- one step of a row of steps -/
theorem StpsIs.one {n : Nat} {W : World} {l : List Stp} {b o m cap : Nat} (h : StpsIs n W l (.slice (some ⟨b, o, none⟩) m cap)) {a : Nat} {p : Stp} (hp : l[a]? = some p) (c : Nat) (hc : 1 ≤ c) : StpsIs n W [p] (.slice (some ⟨b, o + a * 2, none⟩) 1 c) := by
  obtain ⟨oa, cap', e, h1, h3⟩ := h
  cases e
  obtain ⟨b', o', e, hb, hcell⟩ := h3 (by rintro rfl; simp at hp)
  cases e
  refine ⟨_, c, rfl, hc, fun _ => ⟨b, o + a * 2, rfl, hb, fun i q hq => ?_⟩⟩
  have hi : i = 0 := by have := (List.getElem?_eq_some_iff.1 hq).1; simp at this; exact this
  subst hi
  cases hq
  obtain ⟨pv, k1, k2, k3, k4⟩ := hcell a p hp
  exact ⟨pv, by rw [Nat.zero_mul, Nat.add_zero]; exact k1, by rw [Nat.zero_mul, Nat.add_zero]; exact k2, k3, k4⟩
theorem StpsIs.made {n : Nat} {W : World} {g : Nat} {p : Stp} {pv : Value} (h : W.heap[g]? = some (.cells #[.int .i64 p.1, pv] 28 (0, 0))) (hp : PosC n W p.2 pv) (hl : p.2.length ≤ 1048576) (hg : g < n) : StpsIs n W [p] (.slice (some ⟨g, 0, none⟩) 1 1) := by
  refine ⟨_, 1, rfl, Nat.le_refl _, fun _ => ⟨g, 0, rfl, hg, fun i q hq => ?_⟩⟩
  have hi : i = 0 := by have := (List.getElem?_eq_some_iff.1 hq).1; simp at this; exact this
  subst hi
  cases hq
  refine ⟨pv, ?_, ?_, hp, hl⟩
  · exact cells_two_at h _ rfl 0 _ rfl
  · exact cells_two_at h _ rfl 1 _ rfl
theorem StpsIs.getS {n : Nat} {W : World} {l : List Stp} {oa : Option Addr} {m cap : Nat} (h : StpsIs n W l (.slice oa m cap)) {a : Nat} {p : Stp} (hp : l[a]? = some p) :
    ∃ b o pv, oa = some ⟨b, o, none⟩ ∧ b < n ∧ W.cell? ⟨b, o + a * 2, none⟩ = some (.int .i64 p.1) ∧ W.cell? ⟨b, o + a * 2 + 1, none⟩ = some pv ∧ PosC n W p.2 pv ∧ p.2.length ≤ 1048576 := by
  obtain ⟨oa', cap', e, h1, h3⟩ := h
  cases e
  obtain ⟨b, o, rfl, hb, hcell⟩ := h3 (by rintro rfl; simp at hp)
  obtain ⟨pv, k⟩ := hcell a p hp
  exact ⟨b, o, pv, rfl, hb, k⟩
theorem sub_step {α : Type} {x y : α} {r A : List α} {a : Nat} (h : (x :: r).Sublist (A.drop a)) (hy : A[a]? = some y) (hne : y ≠ x) : (x :: r).Sublist (A.drop (a + 1)) := by
  have e : A.drop a = y :: A.drop (a + 1) := by
    obtain ⟨hl, e⟩ := List.getElem?_eq_some_iff.1 hy
    rw [List.drop_eq_getElem_cons hl, e]
  rw [e] at h
  cases h with
  | cons _ h => exact h
  | cons_cons _ h => exact absurd rfl hne
theorem sub_hit {α : Type} {x : α} {r A : List α} {a : Nat} (h : (x :: r).Sublist (A.drop a)) : r.Sublist (A.drop a) := (List.sublist_cons_self x r).trans h
theorem sub_lt {α : Type} {x : α} {r A : List α} {a : Nat} (h : (x :: r).Sublist (A.drop a)) : a < A.length := by
  have := h.length_le
  simp at this; omega
theorem StOwn.le {m : Nat} {W : World} {l : List Stp} {v : Value} (h : StOwn m W l v) : l.length ≤ maxLen := by
  obtain ⟨hs, h1, h2, h3⟩ := h
  rcases h2.2 with ⟨rfl, hl⟩ | ⟨g, cap, cur, rfl, hb, hg, hle, hm, -⟩
  · omega
  · omega
theorem choL_one (L : List Rdx) : choL 1 L = L := by unfold choL; simp
set_option maxRecDepth 100000 in
set_option maxHeartbeats 16000000 in
theorem rewriteStrategies_any (R : List RlV) (rv : Value) (t : Tm) (tv : Value) (w : World) (hR : RulV w.heap.size w R rv) (ht : SlIs w.heap.size w t.ts tv) (hRl : R.length ≤ 1048576) (hRb : ∀ x ∈ sidesV R, x.1.bulk ≤ 1048576) (htb : t.bulk ≤ 1048576) :
    Calls Tryz.prog 4 #[rv, tmv t tv] w fun e w' => e = .returned (.bool true) ∧ Below w.heap.size w w' := by
  obtain ⟨ra, rc, rfl⟩ := hR.shape
  obtain ⟨ot, ct, rfl, -⟩ := ht.form
  have HBX := Lib.hid (show (w.alloc (.cells #[.string t.nm, .bool t.vr, .slice ot t.ts.length ct] 25)).heap[w.heap.size]? = some (.cells #[.string t.nm, .bool t.vr, .slice ot t.ts.length ct] 25 (0, 0)) from heap_new_at _ _ _ rfl)
  have HB0 := Lib.hid (show Below w.heap.size w (w.alloc (.cells #[.string t.nm, .bool t.vr, .slice ot t.ts.length ct] 25)) by go_grown)
  have HRX : Hid (∀ (W : World) (k : Int), Below w.heap.size w W → Calls Tryz.prog 22 #[.slice ra R.length rc, .agg #[.string t.nm, .bool t.vr, .slice ot t.ts.length ct], .int .i64 k] W fun e w' => RedPost W.heap.size R t k e w' ∧ Below W.heap.size W w') := Lib.hid fun W k hW => redexesF_any R _ t _ k W (hR.carry hW hW.size) (ht.carry hW hW.size) hRl (fun x hx => by have := hRb x hx; omega) htb
  have HNO : Hid (∀ W : World, Below w.heap.size w W → Calls Tryz.prog 23 #[.slice ra R.length rc, .agg #[.string t.nm, .bool t.vr, .slice ot t.ts.length ct]] W fun e w' => NrmPost R t e ∧ Below W.heap.size W w') := Lib.hid fun W hW => isNormal_any R _ t _ W (hR.carry hW hW.size) (ht.carry hW hW.size) hRl (fun x hx => by have := hRb x hx; omega) htb
  have HCK : Hid (∀ W : World, Below w.heap.size w W → Calls Tryz.prog 21 #[.slice ra R.length rc, .agg #[.string t.nm, .bool t.vr, .slice ot t.ts.length ct]] W fun e w' => (∃ c : Int, e = .returned (.int .i64 c) ∧ (c = 0 → SysOk R ∧ t.ok)) ∧ Below W.heap.size W w') := Lib.hid fun W hW => rcheck4_any R _ t _ W (hR.carry hW hW.size) (ht.carry hW hW.size) hRl hRb htb
  have HAL : Hid (∀ W, Below w.heap.size w W → Calls Tryz.prog 12 #[] W fun e w' => e = .returned (.bool true) ∧ Below w.heap.size w w') := Lib.hid fun W hW => (alive_any W).mono fun e w' h => ⟨h.1, hW.trans (h.2.mono hW.size)⟩
  clear hR ht hRb
  go_enter Tryz.func4, Tryz.ntmps4
  rw [show tmv t (.slice ot t.ts.length ct) = .agg #[.string t.nm, .bool t.vr, .slice ot t.ts.length ct] from rfl]
  go_wp2_with fail
  generalize w.alloc (.cells #[.string t.nm, .bool t.vr, .slice ot t.ts.length ct] 25) = W0 at *
  refine (HCK.out _ HB0.out).mono ?_
  rintro e w1 ⟨⟨c, rfl, hc⟩, hb1⟩
  have HC := Lib.hid hc
  have HB1 := Lib.hid (HB0.out.trans (hb1.mono HB0.out.size))
  have HX1 := Lib.hid ((hb1.block w.heap.size (Array.getElem?_eq_some_iff.1 HBX.out).1).trans HBX.out)
  clear hc hb1 HCK HB0 HBX
  by_cases hc0 : c = 0
  rotate_left
  · have hcn : (c != 0) = true := by simpa using hc0
    clear hc0
    go_wp2_with fail
    refine (HAL.out _ HB1.out).mono ?_
    rintro e w9 ⟨rfl, hb⟩
    go_wp2_with fail
    go_ret
    exact ⟨rfl, hb⟩
  obtain rfl := hc0
  have HOK := Lib.hid (HC.out rfl)
  clear HC
  obtain ⟨⟨x0, x1, x2⟩, -⟩ := box3 HX1.out
  go_wp2_with fail
  refine (HRX.out _ 1 HB1.out).mono ?_
  rintro e w2 ⟨hp, hb2⟩
  obtain ⟨va, rfl, -, -, -, hva⟩ := hp.resolve_right (fun ⟨c, _, _, h⟩ => h ⟨HOK.out.1, HOK.out.2, by decide, by decide⟩)
  obtain ⟨A, hA⟩ : ∃ A, A = flatS (choL 1 (rdx R t)) := ⟨_, rfl⟩
  rw [← hA] at hva
  rw [choL_one] at hA
  have HAD := Lib.hid hA
  have HVA := Lib.hid hva.is
  have hAl := hva.le
  obtain ⟨oa, ca, rfl⟩ := hva.form
  have HB2 := Lib.hid (HB1.out.trans (hb2.mono HB1.out.size))
  have HX2 := Lib.hid ((hb2.block w.heap.size (Array.getElem?_eq_some_iff.1 HX1.out).1).trans HX1.out)
  clear hp hb2 hva hA HB1 HX1 x0 x1 x2
  obtain ⟨⟨x0, x1, x2⟩, -⟩ := box3 HX2.out
  go_wp2_with fail
  refine (HNO.out _ HB2.out).mono ?_
  rintro e w3 ⟨hp, hb3⟩
  obtain ⟨bn, rfl, -, -, hbn⟩ := hp.resolve_right (fun ⟨c, _, _, h⟩ => h HOK.out)
  have hq : bn = ((A.length : Int) == 0) := by
    rw [Bool.eq_iff_iff, hbn, beq_iff_eq]
    have h1 := steps_nil (l := R) (t := t) (k := 1)
    rw [choL_one, ← HAD.out] at h1
    rw [← h1, ← List.length_eq_zero_iff]; omega
  subst hq
  have HB3 := Lib.hid (HB2.out.trans (hb3.mono HB2.out.size))
  have HX3 := Lib.hid ((hb3.block w.heap.size (Array.getElem?_eq_some_iff.1 HX2.out).1).trans HX2.out)
  have HVA3 := Lib.hid (HVA.out.carry hb3 hb3.size)
  clear hp hb3 hbn HB2 HX2 HVA x0 x1 x2
  have hq1 : (((A.length : Int) == 0) != ((A.length : Int) == 0)) = false := by simp
  go_wp2_with fail
  go_loopw [9] (fun i wr => ∃ k : Int, i = .int .i64 k ∧ 1 ≤ k ∧ k ≤ 6 ∧ Hid (Below w3.heap.size w3 wr)) (fun i _ => (6 - intOf i).toNat)
  case atStart => exact ⟨1, rfl, by omega, by omega, Lib.hid (Below.refl _ _)⟩
  case round =>
  obtain ⟨k, rfl, hk1, hk6, HBk⟩ := hrel
  have HBkw := Lib.hid (HB3.out.trans (HBk.out.mono HB3.out.size))
  by_cases hk : k ≤ 5
  rotate_left
  · go_wp2_with fail
    refine (HAL.out _ HBkw.out).mono ?_
    rintro e w9 ⟨rfl, hb⟩
    go_wp2_with fail
    go_ret
    exact ⟨rfl, hb⟩
  have HXk := Lib.hid ((HBk.out.block w.heap.size (Array.getElem?_eq_some_iff.1 HX3.out).1).trans HX3.out)
  obtain ⟨⟨x0, x1, x2⟩, -⟩ := box3 HXk.out
  obtain ⟨wk, rfl⟩ : ∃ W, W = wr := ⟨_, rfl⟩
  go_wp2_with fail
  refine (HRX.out _ k HBkw.out).mono ?_
  rintro e w4 ⟨hp, hb4⟩
  obtain ⟨vl, rfl, -, -, -, hvl⟩ := hp.resolve_right (fun ⟨c, _, _, h⟩ => h ⟨HOK.out.1, HOK.out.2, hk1, hk⟩)
  obtain ⟨L, hL⟩ : ∃ L, L = flatS (choL k (rdx R t)) := ⟨_, rfl⟩
  rw [← hL] at hvl
  have HSUB := Lib.hid (show L.Sublist A by rw [hL, HAD.out]; exact steps_sub)
  have hq2 : (((L.length : Int) == 0) != ((A.length : Int) == 0)) = false := by
    have h1 := steps_nil (l := R) (t := t) (k := k)
    rw [← hL] at h1
    have h0 := steps_nil (l := R) (t := t) (k := 1)
    rw [choL_one, ← HAD.out] at h0
    rw [← h0] at h1
    rw [bne_eq_false_iff_eq, Bool.eq_iff_iff, beq_iff_eq, beq_iff_eq]
    have h2 := List.length_eq_zero_iff (l := L)
    have h3 := List.length_eq_zero_iff (l := A)
    constructor
    · intro h; have := h3.2 (h1.1 (h2.1 (by omega))); omega
    · intro h; have := h2.2 (h1.2 (h3.1 (by omega))); omega
  have hq3 : (!(((L.length : Int) == 0) == ((A.length : Int) == 0))) = false := by
    rw [bne_eq_false_iff_eq] at hq2
    rw [hq2]; cases ((A.length : Int) == 0) <;> rfl
  have hLl : L.length ≤ 9223372036854775807 := hvl.le
  have HVL := Lib.hid hvl.is
  obtain ⟨ol, cl, rfl⟩ := hvl.form
  have HB4 := Lib.hid (HBk.out.trans (hb4.mono HBk.out.size))
  clear hp hb4 hvl hL x0 x1 x2
  go_wp2_with fail
  go_loopw [12, 67] (fun sa i wr => ∃ a m : Nat, a ≤ A.length ∧ m ≤ L.length ∧ sa = .int .i64 a ∧ i = .int .i64 m ∧ Hid ((L.drop m).Sublist (A.drop a)) ∧ Hid (Below w4.heap.size w4 wr)) (fun _ i _ => L.length - (intOf i).toNat)
  case atStart => exact ⟨0, 0, by omega, by omega, rfl, rfl, by simpa using HSUB, Lib.hid (Below.refl _ _)⟩
  case round =>
  obtain ⟨a, m, ha, hm, rfl, rfl, HSB, HBm⟩ := hrel
  obtain ⟨wm, rfl⟩ : ∃ W, W = wr := ⟨_, rfl⟩
  by_cases hlt : m < L.length
  rotate_left
  · have HB9 := Lib.hid (HB4.out.trans (HBm.out.mono HB4.out.size))
    go_wp2_with fail
    exact ⟨⟨k + 1, by go_num, by omega, by omega, HB9⟩, by simp [intOf]; omega⟩
  obtain ⟨x, hx⟩ : ∃ x, L[m]? = some x := ⟨_, List.getElem?_eq_getElem hlt⟩
  have HDX := Lib.hid (show L.drop m = x :: L.drop (m + 1) from by
    obtain ⟨hl, e⟩ := List.getElem?_eq_some_iff.1 hx
    rw [List.drop_eq_getElem_cons hl, e])
  have HSX : Hid ((x :: L.drop (m + 1)).Sublist (A.drop a)) := Lib.hid (by rw [← HDX.out]; exact HSB.out)
  obtain ⟨bl, o1, pv, rfl, hbl, y0, y1, hpc, hpl⟩ := (HVL.out.carry HBm.out HBm.out.size).getS hx
  obtain ⟨op, cp, rfl, -⟩ := hpc.1.form
  have hba : Below wm.heap.size wm (wm.alloc (.cells #[.int .i64 x.1, .slice op x.2.length cp] 28)) := (Below.refl wm.heap.size wm).alloc (Nat.le_refl _) _
  have HBA := Lib.hid (HBm.out.trans (hba.mono HBm.out.size))
  have HPC := Lib.hid (hpc.carry hba hba.size)
  have HBXX := Lib.hid (show (wm.alloc (.cells #[.int .i64 x.1, .slice op x.2.length cp] 28)).heap[wm.heap.size]? = some (.cells #[.int .i64 x.1, .slice op x.2.length cp] 28 (0, 0)) from heap_new_at _ _ _ rfl)
  have hbm : wm.heap.size < (wm.alloc (.cells #[.int .i64 x.1, .slice op x.2.length cp] 28)).heap.size := by simp
  clear hpc hba hx HSB
  go_wp2_with fail
  generalize wm.alloc (.cells #[.int .i64 x.1, .slice op x.2.length cp] 28) = wx at *
  clear y0 y1
  go_loopw [12] (fun sa wr => ∃ a : Nat, a ≤ A.length ∧ sa = .int .i64 a ∧ Hid ((x :: L.drop (m + 1)).Sublist (A.drop a)) ∧ Hid (Below wx.heap.size wx wr)) (fun sa _ => A.length - (intOf sa).toNat)
  case atStart => exact ⟨a, ha, rfl, HSX, Lib.hid (Below.refl _ _)⟩
  case round =>
  clear ha HSX
  obtain ⟨a, ha, rfl, HSX, HBr⟩ := hrel
  have hal := sub_lt HSX.out
  have HB5 := Lib.hid ((HB4.out.mono (Nat.le_refl _)).trans ((HBA.out.trans (HBr.out.mono HBA.out.size)).mono HB4.out.size))
  obtain ⟨y, hy⟩ : ∃ y, A[a]? = some y := ⟨_, List.getElem?_eq_getElem hal⟩
  have HAr := Lib.hid (HVA3.out.carry HB5.out HB5.out.size)
  obtain ⟨ba, oA, pa, rfl, hba2, -, -, -, hyl⟩ := HAr.out.getS hy
  have hca : A.length ≤ ca := by obtain ⟨_, _, e, h, -⟩ := HAr.out; cases e; exact h
  have HXr := Lib.hid ((HBr.out.block wm.heap.size hbm).trans HBXX.out)
  obtain ⟨z0, z1⟩ := show wr.cell? ⟨wm.heap.size, 0, none⟩ = some (.int .i64 x.1) ∧ wr.cell? ⟨wm.heap.size, 1, none⟩ = some (.slice op x.2.length cp) from ⟨cells_two_at HXr.out _ rfl 0 _ rfl, cells_two_at HXr.out _ rfl 1 _ rfl⟩
  have HPr := Lib.hid (HPC.out.carry HBr.out HBr.out.size)
  have HY := Lib.hid hy
  clear hy
  have hbq : Below wr.heap.size wr (wr.alloc (.cells #[.int .i64 x.1, .slice op x.2.length cp] 28)).drew := ((Below.refl _ _).alloc (Nat.le_refl _) _).drew
  have HSA := Lib.hid ((HAr.out.one HY.out (ca - a) (by omega)).carry hbq hbq.size)
  have HSBx := Lib.hid (StpsIs.made (n := (wr.alloc (.cells #[.int .i64 x.1, .slice op x.2.length cp] 28)).drew.heap.size) (W := (wr.alloc (.cells #[.int .i64 x.1, .slice op x.2.length cp] 28)).drew) (g := wr.heap.size) (p := x) (heap_new_at wr (.cells #[.int .i64 x.1, .slice op x.2.length cp] 28) wr.heap.size rfl) (HPr.out.carry hbq hbq.size) hpl (by simp))
  have HBQ := Lib.hid (show Below wx.heap.size wx (wr.alloc (.cells #[.int .i64 x.1, .slice op x.2.length cp] 28)) from HBr.out.alloc HBr.out.size _)
  have hae : ((a : Int) == (A.length : Int)) = false := by rw [beq_eq_false_iff_ne]; omega
  have hin1 : (a : Int) + 1 ≤ (ca : Int) := by omega
  have hml : maxLen = 9223372036854775807 := by rfl
  have hal2 : A.length ≤ 9223372036854775807 := by omega
  have hwr : IntKind.i64.wrap ((a : Int) + 1) = (a : Int) + 1 := IntWalk.i64_in _ (by omega)
  have h01 : (0 : Int) ≤ (a : Int) := by omega
  have h02 : (a : Int) ≤ (a : Int) + 1 := by omega
  have hca2 : ¬ ca = a := by omega
  have hlt1 : (a : Int) < (A.length : Int) := by omega
  clear hbq hml
  by_cases hyx : y = x
  · have hdc : decide ([y] = [x]) = true := decide_eq_true (by rw [hyx])
    have HYX := Lib.hid hyx
    clear hyx
    go_wp2_with fail
    go_region_held3 (fun w' => w'.cell? ⟨wm.heap.size, 0, none⟩ = some (.int .i64 x.1) ∧ w'.cell? ⟨wm.heap.size, 1, none⟩ = some (.slice op x.2.length cp)) (go_keep) ((
           go_at_call 24
           refine (sameSteps_any [y] [x] _ _ _ _ HSA.out HSBx.out (by simp) (by simp)).mono ?_
           rintro e w9 ⟨rfl, nq, rfl⟩
           rw [hdc]))
    have HB9 := Lib.hid (below_drewN (1 + nq) HBQ.out)
    generalize (wr.alloc (.cells #[.int .i64 x.1, .slice op x.2.length cp] 28)).drewN (1 + nq) = w9 at HB9 ⊢
    clear z0 z1
    go_wp2_with fail
    exact ⟨⟨a, m + 1, by omega, by omega, rfl, by go_num, Lib.hid (sub_hit HSX.out), Lib.hid (HBA.out.trans (HB9.out.mono HBA.out.size))⟩, by simp [intOf]; omega⟩
  · have hdc : decide ([y] = [x]) = false := decide_eq_false (fun e => hyx (by injection e))
    have HYX := Lib.hid hyx
    clear hyx
    go_wp2_with fail
    go_region_held3 (fun w' => w'.cell? ⟨wm.heap.size, 0, none⟩ = some (.int .i64 x.1) ∧ w'.cell? ⟨wm.heap.size, 1, none⟩ = some (.slice op x.2.length cp)) (go_keep) ((
           go_at_call 24
           refine (sameSteps_any [y] [x] _ _ _ _ HSA.out HSBx.out (by simp) (by simp)).mono ?_
           rintro e w9 ⟨rfl, nq, rfl⟩
           rw [hdc]))
    have HB9 := Lib.hid (below_drewN (1 + nq) HBQ.out)
    generalize (wr.alloc (.cells #[.int .i64 x.1, .slice op x.2.length cp] 28)).drewN (1 + nq) = w9 at HB9 ⊢
    clear z0 z1
    go_wp2_with fail
    exact ⟨⟨a + 1, by omega, by go_num, Lib.hid (sub_step HSX.out HY.out HYX.out), HB9⟩, by simp [intOf]; omega⟩
end Go.Proofs.YtnomppdmhgefiaaGreat
namespace Go.Proofs.YtnomppdmhgefiaaGreat
open Go.RowKit Go.ChangeShapes Go.WideShapes Go.ChangeAt Go.Deep

set_option maxRecDepth 100000 in
set_option maxHeartbeats 1000000 in
theorem contractS (H : Type) (enc : TypeId × Value → H) (W : World) (base : Nat) (args : Array Value) (ds gs : List (DataW H)) (before : List MemPlace)
    (hval : ∀ (j : Nat) t v, Tryz.f4.params[j]? = some t → args[j]? = some v → Value.okWide Tryz.prog W .any base t v)
    (hW : DataW.Whole enc Tryz.prog Tryz.f4.params.toList Rows.rewriteStrategiesSpec.vars false W args.toList ds gs before) (hk : Rows.uptoSmall H (ds ++ gs) = true) :
    Calls Tryz.prog 4 args W fun e W' => ∃ v, e = .returned v ∧ Rows.rewriteStrategiesSpec.post enc Tryz.prog Tryz.f4 false true false false W args v W' := by
  have hW' := hW
  obtain ⟨p, q, hA0, hV, rfl, hfz, hnd⟩ := hW
  have hA : DataW.TrodAll enc Tryz.prog W 0 (fun _ => true) true Tryz.f4.params.toList args.toList ds p := hA0
  rw [Tryz.params4] at hA hval
  obtain ⟨v0, vs0, d0, ds0, p0, q0, hargs, rfl, rfl, h0, r0⟩ := trodAll_cons hA
  obtain ⟨v1, vs1, d1, ds1, p1, q1, hargs1, rfl, rfl, h1, r1⟩ := trodAll_cons r0
  obtain ⟨rfl, rfl, rfl⟩ := trodAll_nil r1
  subst hargs1
  obtain rfl : args = #[v0, v1] := by cases args; simp_all
  obtain ⟨rfl, rfl⟩ := trodVars_none hV
  clear hA0
  simp only [List.append_nil] at hW' hk hfz
  have hv0 := hval 0 _ v0 rfl rfl
  have hv1 := hval 1 _ v1 rfl rfl
  simp only [Value.okWide] at hv1
  obtain ⟨oy, ny, ky, rfl⟩ := okWide_slice Tryz.underlying22 hv0
  obtain ⟨c1, rfl, -, -⟩ := hv1
  have H0 := h0
  have H1 := h1
  obtain ⟨n0, k0⟩ := h0
  obtain ⟨n1, k1⟩ := h1
  simp only [Value.cells] at k0 k1
  obtain ⟨R, hR, hRl, hRb⟩ := rules_open enc W n0 _ _ k0 (fun b off hp => hfz b off (by simp [hp]))
  obtain ⟨t, tv, e1, ht, hb1⟩ := term_open enc W n1 _ _ k1 (fun b off hp => hfz b off (by simp [hp]))
  obtain rfl : c1 = #[.string t.nm, .bool t.vr, tv] := by cases c1; simp_all
  have hbound : Rows.uptoBulkAll [d0, d1] ≤ 1048576 := of_decide_eq_true hk
  simp only [Rows.uptoBulkAll] at hbound
  have hRl' : R.length < Rows.uptoBulk d0 := hRl
  have hRb' : ∀ x ∈ sidesV R, x.1.bulk < Rows.uptoBulk d0 := hRb
  have hb1' : t.bulk ≤ Rows.uptoBulk d1 := hb1
  refine (rewriteStrategies_any R _ t tv W hR ht (by omega) (fun x hx => by have := hRb' x hx; omega) (by omega)).mono ?_
  rintro e W' ⟨rfl, hb⟩
  have hsame : ∀ b : MemPlace, b.block < W.heap.size → W.sameAt W' b := fun b hbl => by
    cases b with
    | cell b off => exact hb.cell (p := ⟨b, off, none⟩) hbl
    | map b => exact hb.block b hbl
  have hlt := hW'.lt
  refine ⟨_, rfl, _, _, _, [], p0 ++ (p1 ++ []), [], hW', ?_, ?_, ?_, hb.frame _, fun h => by cases h⟩
  · exact trodAll_cons_mk (shut_bool Tryz.underlying4 _) trodAll_mk0
  · exact trodAll_cons_mk (trod_again _ (sp_rules _) H0 (fun p hp => by have := hlt p (by simp [hp]); simpa using this) (fun p hp => hsame p (hlt p (by simp [hp]))))
        (trodAll_cons_mk (trod_again _ (sp_term _) H1 (fun p hp => by have := hlt p (by simp [hp]); simpa using this) (fun p hp => hsame p (hlt p (by simp [hp])))) trodAll_mk0)
  · exact rfl

theorem ownGodebug : ownKnob Tryz.prog.godebug = none := by kernel_rfl
set_option maxRecDepth 100000 in
theorem liftedS (os : Os) (started : os.Started) (H : Type) (enc : TypeId × Value → H) (F : Stop.Interp) :
    ReturnsInHanded {} Tryz.checked os 4 .any ((Rows.OpenSpec.upto Rows.rewriteStrategiesSpec).pre6 enc Tryz.prog Tryz.f4 Rows.rewriteStrategiesUptoRow.domain false) (((Rows.OpenSpec.upto Rows.rewriteStrategiesSpec).at F).post enc Tryz.prog Tryz.f4 false true false false) := by
  refine returnsInHanded_of_cond (C := Tryz.checked) (s := Rows.OpenSpec.upto Rows.rewriteStrategiesSpec) (k := Rows.uptoSmall) rfl ownGodebug started (by kernel_rfl) Tryz.func4
    (OpenSpec.witness (enc := enc) (C := Tryz.checked) (s := Rows.OpenSpec.upto Rows.rewriteStrategiesSpec) (k := Rows.uptoSmall) rfl false ⟨#[], #[.slice none 0 0, .agg #[.string .empty, .bool false, .slice none 0 0]], []⟩ 9 (by kernel_rfl) (by kernel_rfl) (by kernel_rfl)
      (x := ([.nil, .agg [.lit (.string []), .lit (.bool false), .nil]], [], [])) (by kernel_rfl) rfl (by kernel_rfl)) ?_
  intro W base args ds gs before hval hW _ hk _
  exact contractS H enc W base args ds gs before hval hW hk

/-- The law. -/
theorem rewriteStrategies_holds : Rows.RewriteStrategiesUptoSaid :=
  OpenClaim.holds_of_cond 4 Tryz.f4 rfl rfl rfl rfl rfl rfl rfl ⟨rfl, rfl, rfl, rfl, rfl⟩ rfl rfl rfl rfl rfl (by kernel_rfl) Tryz.func4 (by kernel_rfl)
    (of_decide_eq_true (by kernel_rfl)) (by unfold Func.isWrapper; first | (rw [if_pos (by decide +kernel)]; kernel_rfl) | (rw [if_neg (by decide +kernel)]; exact ⟨rfl, rfl⟩))
    (fun os started H enc _ F => liftedS os started H enc F)
end Go.Proofs.YtnomppdmhgefiaaGreat
