/- Packed: LawF. -/
import Derived.WalkKit
import Derived.ProofKit
import Derived.OpenShut
import Derived.Handy
import Derived.Lib.Hide
import Derived.Deep.RegionHeld3
import Derived.Test.YtnomppdmhgefiaaGreatF23
import Derived.Test.YtnomppdmhgefiaaGreatF25
/- The law WeightDecreases. -/
namespace Go.Proofs.YtnomppdmhgefiaaGreat
open Go.RowKit

theorem Tm.put_own7 {t x : Tm} {pos : List Int} (h : t.at pos = some x) : t.put pos x = t := by
  induction pos generalizing t with
  | nil => simp only [Tm.at, Option.some.injEq] at h; subst h; rfl
  | cons i l ih =>
    obtain ⟨y, hy, _⟩ := Tm.at_cons_some6 (t := t) (i := i) (l := l) (by rw [h]; rfl)
    rw [Tm.at_cons6 hy] at h
    rw [Tm.put_cons6 hy, ih h]
    have hk : t.ts[i.toNat]? = some y := by
      unfold Tm.kid at hy
      split at hy
      · exact hy
      · cases hy
    have hset : t.ts.set i.toNat y = t.ts := by
      obtain ⟨h1, h2⟩ := List.getElem?_eq_some_iff.1 hk
      rw [← h2]; exact List.set_getElem_self h1
    rw [hset]
    cases t; rfl
theorem Tm.at_sy7 {c x : Tm} (hb : c.bare) {pos : List Int} (h : c.at pos = some x) : ∀ y ∈ x.sy, y ∈ c.sy := by
  induction pos generalizing c with
  | nil => simp only [Tm.at, Option.some.injEq] at h; subst h; exact fun _ h => h
  | cons i l ih =>
    obtain ⟨z, hz, _⟩ := Tm.at_cons_some6 (t := c) (i := i) (l := l) (by rw [h]; rfl)
    rw [Tm.at_cons6 hz] at h
    have hm := Tm.kid_mem hz
    intro y hy
    have h1 := ih (hb.kids z hm) h y hy
    cases hv : c.vr with
    | true => rw [hb.vr0 hv] at hm; cases hm
    | false => rw [Tm.sy_fun hv]; exact List.mem_cons_of_mem _ (Tm.sys_mem.2 ⟨z, hm, h1⟩)
theorem StpIs.decw {P : List Rk} {u : Int} {S : List Sy} {R : List RlV} {t : Tm} {i : Int} {pos : List Int} {X : Tm} (h : StpIs R t i pos X) (ht : t.ok) (ha : Adm (wtB P) (rkB P) u (inSy S)) (hts : ∀ y ∈ t.sy, y ∈ S) (hd : ∀ p ∈ R, wkB P u p.1.1 p.2.1 = true) : Kbo (wtB P) (rkB P) u t X := by
  obtain ⟨k, p, x, S', -, hp, hat, hl, rfl, -⟩ := h.ex
  have h1 := wkB_yes.1 (hd p (List.mem_of_getElem? hp))
  have hx : x.syms (inSy S) := Tm.sy_syms (ht.at6 hat).1.bare fun y hy => hts y (Tm.at_sy7 ht.1.bare hat y hy)
  have h2 := ha.subst (imageOf S') h1 (by rw [← apB_apF, hl]; exact hx)
  have h3 := Kbo.put h2 ht.1.bare hat
  rw [← apB_apF, ← apB_apF, hl, Tm.put_own7 hat] at h3
  exact h3
/-- the terms of a derivation decrease -/
theorem Chn5.decw {P : List Rk} {u : Int} {R : List RlV} {t : Tm} {L : List (Int × List Int)} {ts l : List Tm} (h : Chn5 R t L L.length ts) (hf : FT P u l) (hl : ∀ x ∈ ts, x ∈ l) (hd : ∀ p ∈ R, wkB P u p.1.1 p.2.1 = true) :
    ∀ (i : Nat) (a b : Tm), ts[i]? = some a → ts[i + 1]? = some b → a.ok ∧ b.ok ∧ wgB P u a b = true ∧ kw (wtB P) u b ≤ kw (wtB P) u a := by
  obtain ⟨h1, h2, h3⟩ := h
  intro i a b ha hb
  have hlt := (List.getElem?_eq_some_iff.1 hb).1
  have hi : i < L.length := by omega
  have ham := hl a (List.mem_of_getElem? ha)
  have hbm := hl b (List.mem_of_getElem? hb)
  have hao := hf.2.1 a ham
  have hbo := hf.2.1 b hbm
  have hin : ∀ x ∈ l, ∀ y ∈ x.sy, y ∈ Tm.ofs l := fun x hx y hy => Tm.ofs_mem.2 ⟨x, hx, (Tm.of_sy (hf.2.1 x hx).1.bare y).2 hy⟩
  have hk := (h3 i _ a b hi (List.getElem?_eq_getElem hi) ha hb).decw hao (hf.2.2.adm hf.1) (hin a ham) hd
  refine ⟨hao, hbo, wgB_yes.2 ⟨⟨hf.1, hao, hbo, hf.2.2.sub fun x hx => ?_⟩, hk⟩, hk.le⟩
  rcases List.mem_append.1 hx with hx | hx
  · exact hin a ham x hx
  · exact hin b hbm x hx

theorem sizes_le {l : List Tm} {B : Nat} (h : ∀ x ∈ l, x.size ≤ B) : Tm.sizes l ≤ l.length * B := by
  induction l with
  | nil => simp [Tm.sizes]
  | cons x l ih =>
    have h1 := h x (by simp)
    have h2 := ih fun y hy => h y (by simp [hy])
    simp only [Tm.sizes, List.length_cons, Nat.add_mul]
    omega
theorem hchk_is {W : World} {ch : List (Tm × Value)} {n : Nat} (h : ∀ c ∈ ch, SlP (fun b => b < n) W c.1.ts c.2) : ∀ c ∈ ch, SlIs n W c.1.ts c.2 := fun c hc => (h c hc).toIs fun _ h => h
theorem Chn5.oks {R : List RlV} {t : Tm} {L : List (Int × List Int)} {ts : List Tm} (h : Chn5 R t L L.length ts) (ht : t.ok) (hS : ∀ p ∈ R, p.2.1.formed) : ∀ (i : Nat) (a : Tm), ts[i]? = some a → a.ok := by
  obtain ⟨h1, h2, h3⟩ := h
  intro i
  induction i with
  | zero => intro a ha; rw [h2] at ha; cases ha; exact ht
  | succ i ih =>
    intro b hb
    have hlt := (List.getElem?_eq_some_iff.1 hb).1
    have hi : i < L.length := by omega
    have ha : ts[i]? = some ts[i] := List.getElem?_eq_getElem (by omega)
    exact (h3 i _ _ b hi (List.getElem?_eq_getElem hi) ha hb).ok (ih _ ha).1 hS

set_option maxRecDepth 100000 in
set_option maxHeartbeats 8000000 in
theorem weightDecreases_any (P : List Rk) (u : Int) (lv : Value) (R : List RlV) (rv : Value) (t : Tm) (s : Value) (L : List (Int × List Int)) (sv : Value) (w : World) (hL : RksIs w.heap.size w P lv) (hLb : rkBulk P ≤ 1048576) (hR : RulV w.heap.size w R rv) (hRl : R.length ≤ 1048576) (hRb : ∀ x ∈ sidesV R, x.1.bulk ≤ 1048576)
    (hs : SlIs w.heap.size w t.ts s) (hst : StpsV w.heap.size w L sv) (htb : t.bulk ≤ 1048576) (hLp : ∀ p ∈ L, p.2.length ≤ 1048576) (hLl : L.length ≤ 1048576) :
    Calls Tryz.prog 5 #[.agg #[lv, .int .i64 u], rv, .agg #[.string t.nm, .bool t.vr, s, sv]] w fun e w' => e = .returned (.bool true) ∧ Below w.heap.size w w' := by
  obtain ⟨orr, cr, rfl⟩ := hR.shape
  have hL' := hL
  obtain ⟨ol, cl, rfl, -, -⟩ := hL'
  obtain ⟨os, cs, rfl, -⟩ := hs.form
  obtain ⟨oq, cq, rfl⟩ := hst.shape
  have HL := Lib.hid hL
  have HR := Lib.hid hR
  have HS := Lib.hid hs
  have HT := Lib.hid hst
  have HLB := Lib.hid hLb
  have HRB := Lib.hid hRb
  have HTB := Lib.hid htb
  have HLP := Lib.hid hLp
  have HAL : Hid (∀ W, Below w.heap.size w W → Calls Tryz.prog 29 #[] W fun e w' => e = .returned (.bool true) ∧ Below w.heap.size w w') := Lib.hid (fun W hW => (alive7_any W).mono fun e w' h => ⟨h.1, hW.trans (h.2.mono hW.size)⟩)
  obtain ⟨i0, hi, hz0, hs1, hb1⟩ := info_parts infoTerm
  have HI := Lib.hid hi
  have HZ := Lib.hid hz0
  have HS1 := Lib.hid hs1
  have HB1 := Lib.hid hb1
  clear hL hR hs hst hLb hRb htb hLp hi hz0 hs1 hb1
  go_enter Tryz.func5, Tryz.ntmps5
  go_wp2_with fail
  have hA : Below w.heap.size w ((w.alloc (.cells #[.slice ol P.length cl, .int .i64 u] 56)).alloc (.cells #[.string t.nm, .bool t.vr, .slice os t.ts.length cs, .slice oq L.length cq] 58)) := by go_grown
  have hx0 : ((w.alloc (.cells #[.slice ol P.length cl, .int .i64 u] 56)).alloc (.cells #[.string t.nm, .bool t.vr, .slice os t.ts.length cs, .slice oq L.length cq] 58)).heap[w.heap.size]? = some (.cells #[.slice ol P.length cl, .int .i64 u] 56 (0, 0)) := (Below.heap_alloc _ _ _ (by simp)).trans (heap_new_at _ _ _ rfl)
  have hx := heap_new_at (w.alloc (.cells #[.slice ol P.length cl, .int .i64 u] 56)) (.cells #[.string t.nm, .bool t.vr, .slice os t.ts.length cs, .slice oq L.length cq] 58) (w.heap.size + 1) (by simp)
  generalize ((w.alloc (.cells #[.slice ol P.length cl, .int .i64 u] 56)).alloc (.cells #[.string t.nm, .bool t.vr, .slice os t.ts.length cs, .slice oq L.length cq] 58)) = W0 at hA hx hx0 ⊢
  refine (worients_any P u _ R _ W0 (HL.out.carry hA hA.size) HLB.out (HR.out.carry hA hA.size) hRl HRB.out).mono ?_
  rintro e w1 ⟨⟨c, v', rfl, hc⟩, hb⟩
  have HW1 := Lib.hid (hA.trans (hb.mono hA.size))
  have HF1 : Hid (FtSt w w1 (.slice ol P.length cl) u) := Lib.hid ⟨(hb.block _ (Array.getElem?_eq_some_iff.1 hx0).1).trans hx0, HW1.out⟩
  have hx1 := (hb.block _ (Array.getElem?_eq_some_iff.1 hx).1).trans hx
  obtain ⟨x0, x1, x2, x3⟩ := box4 hx1
  have HC := Lib.hid hc
  clear hA hx hx0 hb hc hx1
  go_wp2_with fail
  refine (rterms_any R _ t _ L _ w1 (HR.out.carry HW1.out HW1.out.size) (HS.out.carry HW1.out HW1.out.size) (HT.out.carry HW1.out HW1.out.size) HTB.out HLP.out (fun p hp => ⟨HRB.out _ (sidesV_mem hp).1, HRB.out _ (sidesV_mem hp).2⟩)).mono ?_
  rintro e w2 ⟨⟨d, v2, rfl, hd⟩, hb⟩
  have HF2 := Lib.hid (HF1.out.carry hb)
  have HB12 := Lib.hid hb
  have HD := Lib.hid hd
  have HF2d := Lib.hid (HF2.out.carry (Below.refl _ w2).drew)
  clear hb hd x0 x1 x2 x3
  by_cases hc0 : c = 0
  rotate_left
  · have hcc : (c != 0) = true := by simpa using hc0
    clear hc0
    go_wp2_with fail
    refine wp_region_noPanic ?_
    refine wp_region_held_drew (S := fun w' => w'.cell? ⟨w.heap.size, 0, none⟩ = some (.slice ol P.length cl) ∧ w'.cell? ⟨w.heap.size, 1, none⟩ = some (.int .i64 u)) (by kernel_rfl) HF2d.out.two (fun _ => ?_)
    simp only [List.size_toArray, List.length_cons, List.length_nil, Nat.reduceAdd]
    refine wpAnyH_take (i := 0) (v := ?_) (by simp only [List.getElem?_toArray, List.getElem?_cons_zero]; rfl) (by kernel_rfl) (by kernel_rfl) (by kernel_rfl) (fun _ _ _ h => h) (Or.inl ⟨by rfl, ?_⟩) HF2d.out.two ?_
    case refine_2 => (intro ww hSw; obtain ⟨s1, s2⟩ := hSw; go_simp; try with_reducible rfl)
    try simp only [Act.put, List.setIfInBounds_toArray, List.set_cons_zero, List.set_cons_succ]
    refine wpAnyH_take (i := 1) (v := ?_) (by simp only [List.getElem?_toArray, List.getElem?_cons_zero, List.getElem?_cons_succ]; rfl) (by kernel_rfl) (by kernel_rfl) (by kernel_rfl) (fun _ _ _ h => h) (Or.inl ⟨by rfl, ?_⟩) HF2d.out.two ?_
    case refine_2 => (intro ww hSw; obtain ⟨s1, s2⟩ := hSw; go_simp; try with_reducible rfl)
    try simp only [Act.put, List.setIfInBounds_toArray, List.set_cons_zero, List.set_cons_succ]
    refine wpAnyH_take (i := 2) (v := ?_) (by simp only [List.getElem?_toArray, List.getElem?_cons_zero, List.getElem?_cons_succ]; rfl) (by kernel_rfl) (by kernel_rfl) (by kernel_rfl) (fun _ _ _ h => h) (Or.inl ⟨by rfl, ?_⟩) HF2d.out.two ?_
    case refine_2 => (intro ww hSw; obtain ⟨s1, s2⟩ := hSw; go_simp; try with_reducible rfl)
    try simp only [Act.put, List.setIfInBounds_toArray, List.set_cons_zero, List.set_cons_succ]
    refine wpAnyH_take (i := 3) (v := _) (by simp only [List.getElem?_toArray, List.getElem?_cons_zero, List.getElem?_cons_succ]; rfl) (by kernel_rfl) (by kernel_rfl) (by kernel_rfl) (fun _ _ _ h => h) (Or.inr ⟨by rfl, rfl⟩) HF2d.out.two ?_
    try simp only [Act.put, List.setIfInBounds_toArray, List.set_cons_zero, List.set_cons_succ]
    refine wpAnyH_take (i := 4) (v := _) (by simp only [List.getElem?_toArray, List.getElem?_cons_zero, List.getElem?_cons_succ]; rfl) (by kernel_rfl) (by kernel_rfl) (by kernel_rfl) (fun _ _ _ h => h) (Or.inr ⟨by rfl, rfl⟩) HF2d.out.two ?_
    try simp only [Act.put, List.setIfInBounds_toArray, List.set_cons_zero, List.set_cons_succ]
    refine wpAnyH_take (i := 5) (v := ?_) (by simp only [List.getElem?_toArray, List.getElem?_cons_zero, List.getElem?_cons_succ]; rfl) (by kernel_rfl) (by kernel_rfl) (by kernel_rfl) (fun _ _ _ h => h) (Or.inl ⟨by rfl, ?_⟩) HF2d.out.two ?_
    case refine_2 => (intro ww hSw; obtain ⟨s1, s2⟩ := hSw; go_simp; try with_reducible rfl)
    try simp only [Act.put, List.setIfInBounds_toArray, List.set_cons_zero, List.set_cons_succ]
    refine wpAnyH_take (i := 6) (v := ?_) (by simp only [List.getElem?_toArray, List.getElem?_cons_zero, List.getElem?_cons_succ]; rfl) (by kernel_rfl) (by kernel_rfl) (by kernel_rfl) (fun _ _ _ h => h) (Or.inl ⟨by rfl, ?_⟩) HF2d.out.two ?_
    case refine_2 => (intro ww hSw; obtain ⟨s1, s2⟩ := hSw; go_simp; try with_reducible rfl)
    try simp only [Act.put, List.setIfInBounds_toArray, List.set_cons_zero, List.set_cons_succ]
    refine wpAnyH_take (i := 7) (v := _) (by simp only [List.getElem?_toArray, List.getElem?_cons_zero, List.getElem?_cons_succ]; rfl) (by kernel_rfl) (by kernel_rfl) (by kernel_rfl) (fun _ _ _ h => h) (Or.inr ⟨by rfl, rfl⟩) HF2d.out.two ?_
    try simp only [Act.put, List.setIfInBounds_toArray, List.set_cons_zero, List.set_cons_succ]
    refine wpAnyH_take (i := 8) (v := _) (by simp only [List.getElem?_toArray, List.getElem?_cons_zero, List.getElem?_cons_succ]; rfl) (by kernel_rfl) (by kernel_rfl) (by kernel_rfl) (fun _ _ _ h => h) (Or.inr ⟨by rfl, rfl⟩) HF2d.out.two ?_
    try simp only [Act.put, List.setIfInBounds_toArray, List.set_cons_zero, List.set_cons_succ]
    refine wpAnyH_take (i := 9) (v := _) (by simp only [List.getElem?_toArray, List.getElem?_cons_zero, List.getElem?_cons_succ]; rfl) (by kernel_rfl) (by kernel_rfl) (by kernel_rfl) (fun _ _ _ h => h) (Or.inr ⟨by rfl, rfl⟩) HF2d.out.two ?_
    try simp only [Act.put, List.setIfInBounds_toArray, List.set_cons_zero, List.set_cons_succ]
    refine wpAnyH_take (i := 10) (v := _) (by simp only [List.getElem?_toArray, List.getElem?_cons_zero, List.getElem?_cons_succ]; rfl) (by kernel_rfl) (by kernel_rfl) (by kernel_rfl) (fun _ _ _ h => h) (Or.inr ⟨by rfl, rfl⟩) HF2d.out.two ?_
    try simp only [Act.put, List.setIfInBounds_toArray, List.set_cons_zero, List.set_cons_succ]
    refine wpAnyH_take (i := 11) (v := _) (by simp only [List.getElem?_toArray, List.getElem?_cons_zero, List.getElem?_cons_succ]; rfl) (by kernel_rfl) (by kernel_rfl) (by kernel_rfl) (fun _ _ _ h => h) (Or.inr ⟨by rfl, rfl⟩) HF2d.out.two ?_
    try simp only [Act.put, List.setIfInBounds_toArray, List.set_cons_zero, List.set_cons_succ]
    refine wpAnyH_take (i := 12) (v := _) (by simp only [List.getElem?_toArray, List.getElem?_cons_zero, List.getElem?_cons_succ]; rfl) (by kernel_rfl) (by kernel_rfl) (by kernel_rfl) (fun _ _ _ h => h) (Or.inr ⟨by rfl, rfl⟩) HF2d.out.two ?_
    try simp only [Act.put, List.setIfInBounds_toArray, List.set_cons_zero, List.set_cons_succ]
    refine wpAnyH_take (i := 13) (v := _) (by simp only [List.getElem?_toArray, List.getElem?_cons_zero, List.getElem?_cons_succ]; rfl) (by kernel_rfl) (by kernel_rfl) (by kernel_rfl) (fun _ _ _ h => h) (Or.inr ⟨by rfl, rfl⟩) HF2d.out.two ?_
    try simp only [Act.put, List.setIfInBounds_toArray, List.set_cons_zero, List.set_cons_succ]
    refine wpAnyH_take (i := 14) (v := ?_) (by simp only [List.getElem?_toArray, List.getElem?_cons_zero, List.getElem?_cons_succ]; rfl) (by kernel_rfl) (by kernel_rfl) (by kernel_rfl) (fun _ _ _ h => h) (Or.inl ⟨by rfl, ?_⟩) HF2d.out.two ?_
    case refine_2 => (intro ww hSw; obtain ⟨s1, s2⟩ := hSw; go_simp; try with_reducible rfl)
    try simp only [Act.put, List.setIfInBounds_toArray, List.set_cons_zero, List.set_cons_succ]
    refine wpAnyH_done (by kernel_rfl) ?_ _
    refine NoPanic.normal ?_
    go_wp2_with fail
    refine (HAL.out _ HF2d.out.low).mono ?_
    rintro e w9 ⟨rfl, hb⟩
    have HB := Lib.hid hb
    clear hb
    go_wp2_with fail
    go_ret
    exact ⟨rfl, HB.out⟩
  subst hc0
  by_cases hd0 : d = 0
  rotate_left
  · have hdd : (d != 0) = true := by simpa using hd0
    clear hd0
    go_wp2_with fail
    refine wp_region_noPanic ?_
    refine wp_region_held_drew (S := fun w' => w'.cell? ⟨w.heap.size, 0, none⟩ = some (.slice ol P.length cl) ∧ w'.cell? ⟨w.heap.size, 1, none⟩ = some (.int .i64 u)) (by kernel_rfl) HF2d.out.two (fun _ => ?_)
    simp only [List.size_toArray, List.length_cons, List.length_nil, Nat.reduceAdd]
    refine wpAnyH_take (i := 0) (v := ?_) (by simp only [List.getElem?_toArray, List.getElem?_cons_zero]; rfl) (by kernel_rfl) (by kernel_rfl) (by kernel_rfl) (fun _ _ _ h => h) (Or.inl ⟨by rfl, ?_⟩) HF2d.out.two ?_
    case refine_2 => (intro ww hSw; obtain ⟨s1, s2⟩ := hSw; go_simp; try with_reducible rfl)
    try simp only [Act.put, List.setIfInBounds_toArray, List.set_cons_zero, List.set_cons_succ]
    refine wpAnyH_take (i := 1) (v := ?_) (by simp only [List.getElem?_toArray, List.getElem?_cons_zero, List.getElem?_cons_succ]; rfl) (by kernel_rfl) (by kernel_rfl) (by kernel_rfl) (fun _ _ _ h => h) (Or.inl ⟨by rfl, ?_⟩) HF2d.out.two ?_
    case refine_2 => (intro ww hSw; obtain ⟨s1, s2⟩ := hSw; go_simp; try with_reducible rfl)
    try simp only [Act.put, List.setIfInBounds_toArray, List.set_cons_zero, List.set_cons_succ]
    refine wpAnyH_take (i := 2) (v := ?_) (by simp only [List.getElem?_toArray, List.getElem?_cons_zero, List.getElem?_cons_succ]; rfl) (by kernel_rfl) (by kernel_rfl) (by kernel_rfl) (fun _ _ _ h => h) (Or.inl ⟨by rfl, ?_⟩) HF2d.out.two ?_
    case refine_2 => (intro ww hSw; obtain ⟨s1, s2⟩ := hSw; go_simp; try with_reducible rfl)
    try simp only [Act.put, List.setIfInBounds_toArray, List.set_cons_zero, List.set_cons_succ]
    refine wpAnyH_take (i := 3) (v := ?_) (by simp only [List.getElem?_toArray, List.getElem?_cons_zero, List.getElem?_cons_succ]; rfl) (by kernel_rfl) (by kernel_rfl) (by kernel_rfl) (fun _ _ _ h => h) (Or.inl ⟨by rfl, ?_⟩) HF2d.out.two ?_
    case refine_2 => (intro ww hSw; obtain ⟨s1, s2⟩ := hSw; go_simp; try with_reducible rfl)
    try simp only [Act.put, List.setIfInBounds_toArray, List.set_cons_zero, List.set_cons_succ]
    refine wpAnyH_take (i := 4) (v := ?_) (by simp only [List.getElem?_toArray, List.getElem?_cons_zero, List.getElem?_cons_succ]; rfl) (by kernel_rfl) (by kernel_rfl) (by kernel_rfl) (fun _ _ _ h => h) (Or.inl ⟨by rfl, ?_⟩) HF2d.out.two ?_
    case refine_2 => (intro ww hSw; obtain ⟨s1, s2⟩ := hSw; go_simp; try with_reducible rfl)
    try simp only [Act.put, List.setIfInBounds_toArray, List.set_cons_zero, List.set_cons_succ]
    refine wpAnyH_take (i := 5) (v := ?_) (by simp only [List.getElem?_toArray, List.getElem?_cons_zero, List.getElem?_cons_succ]; rfl) (by kernel_rfl) (by kernel_rfl) (by kernel_rfl) (fun _ _ _ h => h) (Or.inl ⟨by rfl, ?_⟩) HF2d.out.two ?_
    case refine_2 => (intro ww hSw; obtain ⟨s1, s2⟩ := hSw; go_simp; try with_reducible rfl)
    try simp only [Act.put, List.setIfInBounds_toArray, List.set_cons_zero, List.set_cons_succ]
    refine wpAnyH_take (i := 6) (v := ?_) (by simp only [List.getElem?_toArray, List.getElem?_cons_zero, List.getElem?_cons_succ]; rfl) (by kernel_rfl) (by kernel_rfl) (by kernel_rfl) (fun _ _ _ h => h) (Or.inl ⟨by rfl, ?_⟩) HF2d.out.two ?_
    case refine_2 => (intro ww hSw; obtain ⟨s1, s2⟩ := hSw; go_simp; try with_reducible rfl)
    try simp only [Act.put, List.setIfInBounds_toArray, List.set_cons_zero, List.set_cons_succ]
    refine wpAnyH_take (i := 7) (v := _) (by simp only [List.getElem?_toArray, List.getElem?_cons_zero, List.getElem?_cons_succ]; rfl) (by kernel_rfl) (by kernel_rfl) (by kernel_rfl) (fun _ _ _ h => h) (Or.inr ⟨by rfl, rfl⟩) HF2d.out.two ?_
    try simp only [Act.put, List.setIfInBounds_toArray, List.set_cons_zero, List.set_cons_succ]
    refine wpAnyH_take (i := 8) (v := _) (by simp only [List.getElem?_toArray, List.getElem?_cons_zero, List.getElem?_cons_succ]; rfl) (by kernel_rfl) (by kernel_rfl) (by kernel_rfl) (fun _ _ _ h => h) (Or.inr ⟨by rfl, rfl⟩) HF2d.out.two ?_
    try simp only [Act.put, List.setIfInBounds_toArray, List.set_cons_zero, List.set_cons_succ]
    refine wpAnyH_take (i := 9) (v := _) (by simp only [List.getElem?_toArray, List.getElem?_cons_zero, List.getElem?_cons_succ]; rfl) (by kernel_rfl) (by kernel_rfl) (by kernel_rfl) (fun _ _ _ h => h) (Or.inr ⟨by rfl, rfl⟩) HF2d.out.two ?_
    try simp only [Act.put, List.setIfInBounds_toArray, List.set_cons_zero, List.set_cons_succ]
    refine wpAnyH_take (i := 10) (v := _) (by simp only [List.getElem?_toArray, List.getElem?_cons_zero, List.getElem?_cons_succ]; rfl) (by kernel_rfl) (by kernel_rfl) (by kernel_rfl) (fun _ _ _ h => h) (Or.inr ⟨by rfl, rfl⟩) HF2d.out.two ?_
    try simp only [Act.put, List.setIfInBounds_toArray, List.set_cons_zero, List.set_cons_succ]
    refine wpAnyH_take (i := 11) (v := _) (by simp only [List.getElem?_toArray, List.getElem?_cons_zero, List.getElem?_cons_succ]; rfl) (by kernel_rfl) (by kernel_rfl) (by kernel_rfl) (fun _ _ _ h => h) (Or.inr ⟨by rfl, rfl⟩) HF2d.out.two ?_
    try simp only [Act.put, List.setIfInBounds_toArray, List.set_cons_zero, List.set_cons_succ]
    refine wpAnyH_take (i := 12) (v := _) (by simp only [List.getElem?_toArray, List.getElem?_cons_zero, List.getElem?_cons_succ]; rfl) (by kernel_rfl) (by kernel_rfl) (by kernel_rfl) (fun _ _ _ h => h) (Or.inr ⟨by rfl, rfl⟩) HF2d.out.two ?_
    try simp only [Act.put, List.setIfInBounds_toArray, List.set_cons_zero, List.set_cons_succ]
    refine wpAnyH_take (i := 13) (v := _) (by simp only [List.getElem?_toArray, List.getElem?_cons_zero, List.getElem?_cons_succ]; rfl) (by kernel_rfl) (by kernel_rfl) (by kernel_rfl) (fun _ _ _ h => h) (Or.inr ⟨by rfl, rfl⟩) HF2d.out.two ?_
    try simp only [Act.put, List.setIfInBounds_toArray, List.set_cons_zero, List.set_cons_succ]
    refine wpAnyH_take (i := 14) (v := ?_) (by simp only [List.getElem?_toArray, List.getElem?_cons_zero, List.getElem?_cons_succ]; rfl) (by kernel_rfl) (by kernel_rfl) (by kernel_rfl) (fun _ _ _ h => h) (Or.inl ⟨by rfl, ?_⟩) HF2d.out.two ?_
    case refine_2 => (intro ww hSw; obtain ⟨s1, s2⟩ := hSw; go_simp; try with_reducible rfl)
    try simp only [Act.put, List.setIfInBounds_toArray, List.set_cons_zero, List.set_cons_succ]
    refine wpAnyH_done (by kernel_rfl) ?_ _
    refine NoPanic.normal ?_
    go_wp2_with fail
    refine (HAL.out _ HF2d.out.low).mono ?_
    rintro e w9 ⟨rfl, hb⟩
    have HB := Lib.hid hb
    clear hb
    go_wp2_with fail
    go_ret
    exact ⟨rfl, HB.out⟩
  subst hd0
  obtain ⟨hP, hSY, hrow⟩ := HC.out rfl
  obtain ⟨ts, hts, hok, hch⟩ := HD.out rfl
  obtain ⟨ob, cb, rfl⟩ := ownsRow_shape hrow
  obtain ⟨ot, ct, rfl, -⟩ := hts.form
  have HROW := Lib.hid (hrow.kept (below_grown HB12.out) (own_none _))
  have HTS := Lib.hid hts
  have HSY := Lib.hid hSY
  have HCH := Lib.hid hch
  have htl : ts.length = L.length + 1 := hch.1
  have htne : ts ≠ [] := by intro e; rw [e] at htl; simp at htl
  obtain ⟨bt, o3, ch, e3, hbt, hchm, hchc, hchk, hch1⟩ := hts.toP.rows htne
  subst e3
  have HCM := Lib.hid hchm
  have HCC := Lib.hid hchc
  have HCK := Lib.hid hchk
  have H1C := Lib.hid hch1
  have HCL : Hid (ch.length = ts.length) := Lib.hid (by rw [← hchm, List.length_map])
  have HTO : Hid (∀ x ∈ ts, x.ok) := Lib.hid fun x hx => by
    obtain ⟨i, hi, rfl⟩ := List.getElem_of_mem hx
    exact Chn5.oks hch hok (fun p hp => (hSY.2.1 _ (sidesV_mem hp).2).1) i _ (List.getElem?_eq_getElem hi)
  have HTL := Lib.hid htl
  clear hP hSY hrow hts hok hch htne hchm hchc hchk hch1 htl HC HD
  go_wp2_with fail
  refine wp_region_noPanic ?_
  refine wp_region_held_drew (S := fun w' => w'.cell? ⟨w.heap.size, 0, none⟩ = some (.slice ol P.length cl) ∧ w'.cell? ⟨w.heap.size, 1, none⟩ = some (.int .i64 u)) (by kernel_rfl) HF2d.out.two (fun _ => ?_)
  simp only [List.size_toArray, List.length_cons, List.length_nil, Nat.reduceAdd]
  refine wpAnyH_take (i := 0) (v := ?_) (by simp only [List.getElem?_toArray, List.getElem?_cons_zero]; rfl) (by kernel_rfl) (by kernel_rfl) (by kernel_rfl) (fun _ _ _ h => h) (Or.inl ⟨by rfl, ?_⟩) HF2d.out.two ?_
  case refine_2 => (intro ww hSw; obtain ⟨s1, s2⟩ := hSw; go_simp; try with_reducible rfl)
  try simp only [Act.put, List.setIfInBounds_toArray, List.set_cons_zero, List.set_cons_succ]
  refine wpAnyH_take (i := 1) (v := ?_) (by simp only [List.getElem?_toArray, List.getElem?_cons_zero, List.getElem?_cons_succ]; rfl) (by kernel_rfl) (by kernel_rfl) (by kernel_rfl) (fun _ _ _ h => h) (Or.inl ⟨by rfl, ?_⟩) HF2d.out.two ?_
  case refine_2 => (intro ww hSw; obtain ⟨s1, s2⟩ := hSw; go_simp; try with_reducible rfl)
  try simp only [Act.put, List.setIfInBounds_toArray, List.set_cons_zero, List.set_cons_succ]
  refine wpAnyH_take (i := 2) (v := ?_) (by simp only [List.getElem?_toArray, List.getElem?_cons_zero, List.getElem?_cons_succ]; rfl) (by kernel_rfl) (by kernel_rfl) (by kernel_rfl) (fun _ _ _ h => h) (Or.inl ⟨by rfl, ?_⟩) HF2d.out.two ?_
  case refine_2 => (intro ww hSw; obtain ⟨s1, s2⟩ := hSw; go_simp; try with_reducible rfl)
  try simp only [Act.put, List.setIfInBounds_toArray, List.set_cons_zero, List.set_cons_succ]
  refine wpAnyH_take (i := 3) (v := ?_) (by simp only [List.getElem?_toArray, List.getElem?_cons_zero, List.getElem?_cons_succ]; rfl) (by kernel_rfl) (by kernel_rfl) (by kernel_rfl) (fun _ _ _ h => h) (Or.inl ⟨by rfl, ?_⟩) HF2d.out.two ?_
  case refine_2 => (intro ww hSw; obtain ⟨s1, s2⟩ := hSw; go_simp; try with_reducible rfl)
  try simp only [Act.put, List.setIfInBounds_toArray, List.set_cons_zero, List.set_cons_succ]
  refine wpAnyH_take (i := 4) (v := ?_) (by simp only [List.getElem?_toArray, List.getElem?_cons_zero, List.getElem?_cons_succ]; rfl) (by kernel_rfl) (by kernel_rfl) (by kernel_rfl) (fun _ _ _ h => h) (Or.inl ⟨by rfl, ?_⟩) HF2d.out.two ?_
  case refine_2 => (intro ww hSw; obtain ⟨s1, s2⟩ := hSw; go_simp; try with_reducible rfl)
  try simp only [Act.put, List.setIfInBounds_toArray, List.set_cons_zero, List.set_cons_succ]
  refine wpAnyH_take (i := 5) (v := ?_) (by simp only [List.getElem?_toArray, List.getElem?_cons_zero, List.getElem?_cons_succ]; rfl) (by kernel_rfl) (by kernel_rfl) (by kernel_rfl) (fun _ _ _ h => h) (Or.inl ⟨by rfl, ?_⟩) HF2d.out.two ?_
  case refine_2 => (intro ww hSw; obtain ⟨s1, s2⟩ := hSw; go_simp; try with_reducible rfl)
  try simp only [Act.put, List.setIfInBounds_toArray, List.set_cons_zero, List.set_cons_succ]
  refine wpAnyH_take (i := 6) (v := ?_) (by simp only [List.getElem?_toArray, List.getElem?_cons_zero, List.getElem?_cons_succ]; rfl) (by kernel_rfl) (by kernel_rfl) (by kernel_rfl) (fun _ _ _ h => h) (Or.inl ⟨by rfl, ?_⟩) HF2d.out.two ?_
  case refine_2 => (intro ww hSw; obtain ⟨s1, s2⟩ := hSw; go_simp; try with_reducible rfl)
  try simp only [Act.put, List.setIfInBounds_toArray, List.set_cons_zero, List.set_cons_succ]
  refine wpAnyH_take (i := 7) (v := ?_) (by simp only [List.getElem?_toArray, List.getElem?_cons_zero, List.getElem?_cons_succ]; rfl) (by kernel_rfl) (by kernel_rfl) (by kernel_rfl) (fun _ _ _ h => h) (Or.inl ⟨by rfl, ?_⟩) HF2d.out.two ?_
  case refine_2 => (intro ww hSw; obtain ⟨s1, s2⟩ := hSw; go_simp; try with_reducible rfl)
  try simp only [Act.put, List.setIfInBounds_toArray, List.set_cons_zero, List.set_cons_succ]
  refine wpAnyH_take (i := 8) (v := ?_) (by simp only [List.getElem?_toArray, List.getElem?_cons_zero, List.getElem?_cons_succ]; rfl) (by kernel_rfl) (by kernel_rfl) (by kernel_rfl) (fun _ _ _ h => h) (Or.inl ⟨by rfl, ?_⟩) HF2d.out.two ?_
  case refine_2 => (intro ww hSw; obtain ⟨s1, s2⟩ := hSw; go_simp; try with_reducible rfl)
  try simp only [Act.put, List.setIfInBounds_toArray, List.set_cons_zero, List.set_cons_succ]
  refine wpAnyH_take (i := 10) (v := ?_) (by simp only [List.getElem?_toArray, List.getElem?_cons_zero, List.getElem?_cons_succ]; rfl) (by kernel_rfl) (by kernel_rfl) (by kernel_rfl) (fun _ _ _ h => h) (Or.inl ⟨by rfl, ?_⟩) HF2d.out.two ?_
  case refine_2 => (intro ww hSw; obtain ⟨s1, s2⟩ := hSw; go_simp; try with_reducible rfl)
  try simp only [Act.put, List.setIfInBounds_toArray, List.set_cons_zero, List.set_cons_succ]
  refine wpAnyH_ready (rs := [9]) (by kernel_rfl) (by simp) ?_
  refine AllReadyH.cons (by simp only [List.getElem?_toArray, List.getElem?_cons_zero, List.getElem?_cons_succ]; rfl) (fun K' hK => ?_) AllReadyH.nil
  go_simp
  refine (l7sides_any R _ _ (HR.out.carry HF2d.out.low HF2d.out.low.size) hRl).mono ?_
  rintro e w3 ⟨⟨v3, rfl, hr3⟩, hb⟩
  have HF3 := Lib.hid (HF2d.out.carry hb)
  have HR3 := Lib.hid hr3
  have HB3 : Hid (Below w2.heap.size w2 w3) := Lib.hid ((Below.refl _ w2).drew.trans hb)
  have HW2s : Hid (w.heap.size ≤ w2.heap.size) := Lib.hid HF2.out.low.size
  obtain ⟨og3, cg3, rfl⟩ := ownsRow_shape hr3
  clear hb hr3
  refine hK.out _ _ HF3.out.two (fun _ => ?_)
  clear hK
  try simp only [Act.put, List.setIfInBounds_toArray, List.set_cons_zero, List.set_cons_succ]
  refine wpAnyH_ready (rs := [11]) (by kernel_rfl) (by simp) ?_
  refine AllReadyH.cons (by simp only [List.getElem?_toArray, List.getElem?_cons_zero, List.getElem?_cons_succ]; rfl) (fun K' hK => ?_) AllReadyH.nil
  have hown : w3.ownsRow w2.heap.size 25 3 (.slice og3 (2 * R.length) cg3) (2 * R.length) (stCells (sidesV R)) := HR3.out
  have hb2 : w2.heap.size ≤ w3.heap.size := HB3.out.size
  have htl2 : 2 * R.length + ts.length ≤ 4194304 := by have := HTL.out; omega
  refine step_append_optG (by rfl) _ _ 23 rfl w2.heap.size 25 i0 (.agg #[.string ⟨#[]⟩, .bool false, .slice none 0 0]) 3 48 Tryz.underlying23 HI.out HZ.out HS1.out HB1.out rfl (by decide) (.slice og3 (2 * R.length) cg3) (2 * R.length) (stCells (sidesV R)) rfl hown (some ⟨bt, o3, none⟩) ts.length ct (stCells ch) rfl (by rw [stCells_len, HCL.out]) (fun h => by cases h) (fun ad had j x hj => by cases had; rw [ad_add]; exact (HB3.out.cell (p := ⟨bt, _, none⟩) hbt).trans (HCC.out j x hj)) H1C.out (by unfold maxLen; omega) (by omega) hb2 ?_
  intro v4 w4 how hg hat
  obtain ⟨og4, cg4, rfl⟩ := ownsRow_shape how
  have hbl : Below w2.heap.size w3 w4 := (Below.refl _ _).grown hg hb2 (fun j hj => (hown.lt j hj).1)
  have HB4 : Hid (Below w2.heap.size w2 w4) := Lib.hid (HB3.out.trans hbl)
  have hws : w.heap.size < w2.heap.size := (Array.getElem?_eq_some_iff.1 HF2.out.o).1
  have HF4 : Hid (FtSt w w4 (.slice ol P.length cl) u) := Lib.hid ⟨(hbl.block _ hws).trans HF3.out.o, HF2.out.low.trans (HB4.out.mono HF2.out.low.size)⟩
  have HALL : Hid (SlIs w4.heap.size w4 ((sidesV R).map (·.1) ++ ts) (.slice og4 (2 * R.length + ts.length) cg4)) := Lib.hid (by
    have h := sides_terms how (by rw [HCL.out]) (HR.out.carry HF4.out.low HF4.out.low.size) (fun c hc => (hchk_is HCK.out c hc).carry HB4.out HB4.out.size)
    rw [HCM.out] at h
    exact h)
  clear how hg hat hbl hown HR3
  refine hK.out _ _ HF4.out.two (fun _ => ?_)
  clear hK
  try simp only [Act.put, List.setIfInBounds_toArray, List.set_cons_zero, List.set_cons_succ]
  refine wpAnyH_ready (rs := [12]) (by kernel_rfl) (by simp) ?_
  refine AllReadyH.cons (by simp only [List.getElem?_toArray, List.getElem?_cons_zero, List.getElem?_cons_succ]; rfl) (fun K' hK => ?_) AllReadyH.nil
  go_simp
  have HUB : ∀ x ∈ (sidesV R).map (·.1) ++ ts, x.bulk ≤ 1048576 := fun x hx => by
    rcases List.mem_append.1 hx with hx | hx
    · obtain ⟨y, hy, rfl⟩ := List.mem_map.1 hx
      exact HRB.out y hy
    · have := (HTO.out x hx).bulk; omega
  have hsz : Tm.sizes ((sidesV R).map (·.1) ++ ts) ≤ 8589934592 := by
    rw [Tm.sizes_append]
    have h1 := sizes_le (B := 4000) (l := (sidesV R).map (·.1)) (fun x hx => by obtain ⟨y, hy, rfl⟩ := List.mem_map.1 hx; exact (HSY.out.2.1 y hy).2.1)
    have h2 := sizes_le (B := 4000) (l := ts) (fun x hx => (HTO.out x hx).2.1)
    rw [List.length_map, sidesV_length] at h1
    have h3 := HSY.out.1
    have h4 := HTL.out
    omega
  have hll : ((sidesV R).map (·.1) ++ ts).length = 2 * R.length + ts.length := by rw [List.length_append, List.length_map, sidesV_length]
  have hfc := fits7_sz P u ((sidesV R).map (·.1) ++ ts) (.slice ol P.length cl) (.slice og4 (2 * R.length + ts.length) cg4) w4 (HL.out.carry HF4.out.low HF4.out.low.size) HLB.out HALL.out HUB hsz (by rw [hll]; have := HTL.out; omega)
  clear HUB hsz hll
  refine hfc.mono ?_
  rintro e w5 ⟨rfl, hb⟩
  have HF5 := Lib.hid (HF4.out.carry hb)
  have HB5 : Hid (Below w2.heap.size w2 w5) := Lib.hid (HB4.out.trans (hb.mono HB4.out.size))
  clear hb hfc
  refine hK.out _ _ HF5.out.two (fun _ => ?_)
  clear hK
  try simp only [Act.put, List.setIfInBounds_toArray, List.set_cons_zero, List.set_cons_succ]
  refine wpAnyH_take (i := 13) (v := ?_) (by simp only [List.getElem?_toArray, List.getElem?_cons_zero, List.getElem?_cons_succ]; rfl) (by kernel_rfl) (by kernel_rfl) (by kernel_rfl) (fun _ _ _ h => h) (Or.inl ⟨by rfl, ?_⟩) HF5.out.two ?_
  case refine_2 => (intro ww hSw; obtain ⟨s1, s2⟩ := hSw; go_simp; try with_reducible rfl)
  try simp only [Act.put, List.setIfInBounds_toArray, List.set_cons_zero, List.set_cons_succ]
  refine wpAnyH_take (i := 14) (v := ?_) (by simp only [List.getElem?_toArray, List.getElem?_cons_zero, List.getElem?_cons_succ]; rfl) (by kernel_rfl) (by kernel_rfl) (by kernel_rfl) (fun _ _ _ h => h) (Or.inl ⟨by rfl, ?_⟩) HF5.out.two ?_
  case refine_2 => (intro ww hSw; obtain ⟨s1, s2⟩ := hSw; go_simp; try with_reducible rfl)
  try simp only [Act.put, List.setIfInBounds_toArray, List.set_cons_zero, List.set_cons_succ]
  refine wpAnyH_done (by kernel_rfl) ?_ _
  refine NoPanic.normal ?_
  cases hft : ftB P u ((sidesV R).map (·.1) ++ ts) with
  | false =>
    clear hft
    go_wp2_with fail
    refine (HAL.out _ HF5.out.low).mono ?_
    rintro e w9 ⟨rfl, hb⟩
    have HB := Lib.hid hb
    clear hb
    go_wp2_with fail
    go_ret
    exact ⟨rfl, HB.out⟩
  | true =>
  have HFT := Lib.hid (ftB_yes.1 hft)
  clear hft HALL HB4 HF4 HF3 HB3 HF2d
  have HROW5 := Lib.hid (HROW.out.kept (below_grown HB5.out) (own_none _))
  have HTS5 := Lib.hid (HTS.out.carry HB5.out HB5.out.size)
  go_wp2_with fail
  go_loopw [51] (fun i wr => ∃ k : Nat, k ≤ R.length ∧ i = .int .i64 k ∧ Hid (wr.ownsRow W0.heap.size 4 1 (.slice ob R.length cb) R.length (R.map fun p => .bool (wkB P u p.1.1 p.2.1))) ∧ Hid (SlIs wr.heap.size wr ts (.slice (some ⟨bt, o3, none⟩) ts.length ct)) ∧ Hid (FtSt w wr (.slice ol P.length cl) u) ∧ Hid (∀ p ∈ R.take k, wkB P u p.1.1 p.2.1 = true)) (fun i _ => R.length - (intOf i).toNat)
  case atStart => exact ⟨0, by omega, rfl, HROW5, HTS5, HF5, Lib.hid (by simp)⟩
  case round =>
    obtain ⟨k, hk, rfl, HRO, HTOO, HBW, HALL⟩ := hrel
    by_cases hlt : k < R.length
    · obtain ⟨p, hp⟩ : ∃ p, R[k]? = some p := ⟨_, List.getElem?_eq_getElem hlt⟩
      obtain ⟨gb, cb', he⟩ := ownsRow_pos HRO.out (by omega)
      cases he
      have y0 := HRO.out.cells (g := gb) rfl k (.bool (wkB P u p.1.1 p.2.1)) (by rw [List.getElem?_map, hp]; rfl)
      rw [ad_add, Nat.zero_add] at y0
      have HPK := Lib.hid hp
      clear hp
      cases hb : wkB P u p.1.1 p.2.1 with
      | false =>
        rw [hb] at y0
        clear hb
        go_wp2_with fail
        refine (HAL.out _ HBW.out.low).mono ?_
        rintro e w9 ⟨rfl, hb⟩
        have HB := Lib.hid hb
        clear hb
        go_wp2_with fail
        go_ret
        exact ⟨rfl, HB.out⟩
      | true =>
        rw [hb] at y0
        have HALL' : Hid (∀ q ∈ R.take (k + 1), wkB P u q.1.1 q.2.1 = true) := Lib.hid (fun q hq => by
          rw [List.take_add_one, HPK.out] at hq
          rcases List.mem_append.1 hq with h | h
          · exact HALL.out q h
          · simp at h; subst h; exact hb)
        clear hb
        go_wp2_with fail
        exact ⟨⟨k + 1, by omega, by go_num, HRO, HTOO, HBW, HALL'⟩, by simp [intOf]; omega⟩
    · have HDE : Hid (∀ (i : Nat) (a b : Tm), ts[i]? = some a → ts[i + 1]? = some b → a.ok ∧ b.ok ∧ wgB P u a b = true ∧ kw (wtB P) u b ≤ kw (wtB P) u a) := Lib.hid (HCH.out.decw HFT.out (fun x hx => List.mem_append.2 (.inr hx)) (fun p hp => HALL.out p (by rw [List.take_of_length_le (by omega)]; exact hp)))
      have HPW : Hid (WtOk P u) := Lib.hid HFT.out.1
      go_wp2_with fail
      go_loopw [13] (fun i ww => ∃ q : Nat, q ≤ L.length ∧ i = .int .i64 ((q : Int) + 1) ∧ Hid (SlIs ww.heap.size ww ts (.slice (some ⟨bt, o3, none⟩) ts.length ct)) ∧ Hid (FtSt w ww (.slice ol P.length cl) u)) (fun i _ => L.length + 1 - (intOf i).toNat)
      case atStart => exact ⟨0, by omega, by simp, HTOO, HBW⟩
      case round =>
        obtain ⟨q, hq, rfl, HTQ, HBQ⟩ := hrel
        by_cases hlq : q < L.length
        · obtain ⟨b1, o1, a, sa, he1, hbb1, hu, hum, hus, c0, c1, c2⟩ := HTQ.out.get (k := q) (by have := HTL.out; omega)
          obtain ⟨b2, o2, b, sb, he2, hbb2, hv, hvm, hvs, d0, d1, d2⟩ := HTQ.out.get (k := q + 1) (by have := HTL.out; omega)
          cases he1
          cases he2
          obtain ⟨oa, ca, rfl, -⟩ := hus.form
          obtain ⟨oc, cc, rfl, -⟩ := hvs.form
          obtain ⟨hao, hbo, hgt, hwt⟩ := HDE.out q a b hu hv
          have hoa := hao.bulk
          have hob := hbo.bulk
          have HCA : Hid (∀ W, Below wr.heap.size wr W → Calls Tryz.prog 30 #[.slice ol P.length cl, .int .i64 u, .agg #[.string a.nm, .bool a.vr, .slice oa a.ts.length ca]] W fun e w' => e = .returned (.tuple #[.int .i64 (kw (wtB P) u a), .int .i64 0]) ∧ Below W.heap.size W w') := Lib.hid fun W hW =>
            weight_yes HPW _ a _ W (HL.out.carry (HBQ.out.low.trans (hW.mono HBQ.out.low.size)) (Nat.le_trans HBQ.out.low.size hW.size)) HLB.out (hus.carry hW hW.size) hao (by omega)
          have HCB : Hid (∀ W, Below wr.heap.size wr W → Calls Tryz.prog 30 #[.slice ol P.length cl, .int .i64 u, .agg #[.string b.nm, .bool b.vr, .slice oc b.ts.length cc]] W fun e w' => e = .returned (.tuple #[.int .i64 (kw (wtB P) u b), .int .i64 0]) ∧ Below W.heap.size W w') := Lib.hid fun W hW =>
            weight_yes HPW _ b _ W (HL.out.carry (HBQ.out.low.trans (hW.mono HBQ.out.low.size)) (Nat.le_trans HBQ.out.low.size hW.size)) HLB.out (hvs.carry hW hW.size) hbo (by omega)
          have HCG : Hid (∀ W, Below wr.heap.size wr W → Calls Tryz.prog 31 #[.agg #[.slice ol P.length cl, .int .i64 u], .agg #[.string a.nm, .bool a.vr, .slice oa a.ts.length ca], .agg #[.string b.nm, .bool b.vr, .slice oc b.ts.length cc]] W fun e w' => e = .returned (.bool true) ∧ Below W.heap.size W w') := Lib.hid fun W hW => by
            have h := l7greater_any P u (.slice ol P.length cl) a b (.slice oa a.ts.length ca) (.slice oc b.ts.length cc) W (HL.out.carry (HBQ.out.low.trans (hW.mono HBQ.out.low.size)) (Nat.le_trans HBQ.out.low.size hW.size)) HLB.out (hus.carry hW hW.size) (hvs.carry hW hW.size) (by omega) (by omega)
            rw [hgt] at h
            exact h
          have hq1 : (q : Int) + 1 < (ts.length : Int) := by have := HTL.out; omega
          have hq2 : (q : Int) ≤ 4294967296 := by omega
          have hq3 : (0 : Int) ≤ (q : Int) := by omega
          have hq4 : IntKind.i64.wrap ((q : Int) + 1 - 1) = (q : Int) := by rw [show (q : Int) + 1 - 1 = q by omega]; exact IntWalk.i64_in _ (by omega)
          have hq5 : IntKind.i64.wrap (q : Int) = (q : Int) := IntWalk.i64_in _ (by omega)
          have hq6 : (0 : Int) ≤ (q : Int) + 1 := by omega
          have hq7 : (q : Int) < (ts.length : Int) := by have := HTL.out; omega
          have hkw : ¬ kw (wtB P) u a < kw (wtB P) u b := by omega
          generalize kw (wtB P) u a = KA at *
          generalize kw (wtB P) u b = KB at *
          clear hu hum hus hv hvm hvs hgt hoa hob hao hbo hwt
          have hkb : decide (KA < KB) = false := decide_eq_false hkw
          have hkb2 : decide (KB > KA) = false := decide_eq_false hkw
          obtain ⟨z0, z1⟩ := HBQ.out.two
          go_wp2_with fail
          go_region_held3 (fun w' => w'.cell? ⟨bt, o3 + q * 3, none⟩ = some (.string a.nm) ∧ w'.cell? ⟨bt, o3 + q * 3 + 1, none⟩ = some (.bool a.vr) ∧ w'.cell? ⟨bt, o3 + q * 3 + 2, none⟩ = some (.slice oa a.ts.length ca) ∧ w'.cell? ⟨bt, o3 + (q + 1) * 3, none⟩ = some (.string b.nm) ∧ w'.cell? ⟨bt, o3 + (q + 1) * 3 + 1, none⟩ = some (.bool b.vr) ∧ w'.cell? ⟨bt, o3 + (q + 1) * 3 + 2, none⟩ = some (.slice oc b.ts.length cc) ∧ w'.cell? ⟨w.heap.size, 0, none⟩ = some (.slice ol P.length cl) ∧ w'.cell? ⟨w.heap.size, 1, none⟩ = some (.int .i64 u)) (go_keep) ((first
            | (go_at_call 30
               refine (HCA.out _ (Below.refl wr.heap.size wr).drew).mono ?_
               rintro e W6 ⟨rfl, hb⟩
               have HB6 : Hid (Below wr.heap.size wr W6) := Lib.hid ((Below.refl wr.heap.size wr).drew.trans (hb.mono (Below.refl wr.heap.size wr).size))
               have c0 := (hb.cell (p := ⟨bt, o3 + q * 3, none⟩) (World.block_lt_of_cell? _ _ c0)).trans c0
               have c1 := (hb.cell (p := ⟨bt, o3 + q * 3 + 1, none⟩) (World.block_lt_of_cell? _ _ c1)).trans c1
               have c2 := (hb.cell (p := ⟨bt, o3 + q * 3 + 2, none⟩) (World.block_lt_of_cell? _ _ c2)).trans c2
               have d0 := (hb.cell (p := ⟨bt, o3 + (q + 1) * 3, none⟩) (World.block_lt_of_cell? _ _ d0)).trans d0
               have d1 := (hb.cell (p := ⟨bt, o3 + (q + 1) * 3 + 1, none⟩) (World.block_lt_of_cell? _ _ d1)).trans d1
               have d2 := (hb.cell (p := ⟨bt, o3 + (q + 1) * 3 + 2, none⟩) (World.block_lt_of_cell? _ _ d2)).trans d2
               have z0 := (hb.cell (p := ⟨w.heap.size, 0, none⟩) (World.block_lt_of_cell? _ _ z0)).trans z0
               have z1 := (hb.cell (p := ⟨w.heap.size, 1, none⟩) (World.block_lt_of_cell? _ _ z1)).trans z1
               clear hb)))
          all_goals
          go_wp2_with fail
          go_region_held3 (fun w' => w'.cell? ⟨bt, o3 + q * 3, none⟩ = some (.string a.nm) ∧ w'.cell? ⟨bt, o3 + q * 3 + 1, none⟩ = some (.bool a.vr) ∧ w'.cell? ⟨bt, o3 + q * 3 + 2, none⟩ = some (.slice oa a.ts.length ca) ∧ w'.cell? ⟨bt, o3 + (q + 1) * 3, none⟩ = some (.string b.nm) ∧ w'.cell? ⟨bt, o3 + (q + 1) * 3 + 1, none⟩ = some (.bool b.vr) ∧ w'.cell? ⟨bt, o3 + (q + 1) * 3 + 2, none⟩ = some (.slice oc b.ts.length cc) ∧ w'.cell? ⟨w.heap.size, 0, none⟩ = some (.slice ol P.length cl) ∧ w'.cell? ⟨w.heap.size, 1, none⟩ = some (.int .i64 u)) (go_keep) ((first
            | (go_at_call 30
               refine (HCB.out _ HB6.out.drew).mono ?_
               rintro e W7 ⟨rfl, hb⟩
               have HB7 : Hid (Below wr.heap.size wr W7) := Lib.hid (HB6.out.drew.trans (hb.mono HB6.out.size))
               have c0 := (hb.cell (p := ⟨bt, o3 + q * 3, none⟩) (World.block_lt_of_cell? _ _ c0)).trans c0
               have c1 := (hb.cell (p := ⟨bt, o3 + q * 3 + 1, none⟩) (World.block_lt_of_cell? _ _ c1)).trans c1
               have c2 := (hb.cell (p := ⟨bt, o3 + q * 3 + 2, none⟩) (World.block_lt_of_cell? _ _ c2)).trans c2
               have d0 := (hb.cell (p := ⟨bt, o3 + (q + 1) * 3, none⟩) (World.block_lt_of_cell? _ _ d0)).trans d0
               have d1 := (hb.cell (p := ⟨bt, o3 + (q + 1) * 3 + 1, none⟩) (World.block_lt_of_cell? _ _ d1)).trans d1
               have d2 := (hb.cell (p := ⟨bt, o3 + (q + 1) * 3 + 2, none⟩) (World.block_lt_of_cell? _ _ d2)).trans d2
               have z0 := (hb.cell (p := ⟨w.heap.size, 0, none⟩) (World.block_lt_of_cell? _ _ z0)).trans z0
               have z1 := (hb.cell (p := ⟨w.heap.size, 1, none⟩) (World.block_lt_of_cell? _ _ z1)).trans z1
               clear hb)))
          all_goals
          go_wp2_with fail
          go_region_held3 (fun w' => w'.cell? ⟨bt, o3 + q * 3, none⟩ = some (.string a.nm) ∧ w'.cell? ⟨bt, o3 + q * 3 + 1, none⟩ = some (.bool a.vr) ∧ w'.cell? ⟨bt, o3 + q * 3 + 2, none⟩ = some (.slice oa a.ts.length ca) ∧ w'.cell? ⟨bt, o3 + (q + 1) * 3, none⟩ = some (.string b.nm) ∧ w'.cell? ⟨bt, o3 + (q + 1) * 3 + 1, none⟩ = some (.bool b.vr) ∧ w'.cell? ⟨bt, o3 + (q + 1) * 3 + 2, none⟩ = some (.slice oc b.ts.length cc) ∧ w'.cell? ⟨w.heap.size, 0, none⟩ = some (.slice ol P.length cl) ∧ w'.cell? ⟨w.heap.size, 1, none⟩ = some (.int .i64 u)) (go_keep) ((first
            | (go_at_call 31
               refine (HCG.out _ HB7.out.drew).mono ?_
               rintro e W8 ⟨rfl, hb⟩
               have HB8 : Hid (Below wr.heap.size wr W8) := Lib.hid (HB7.out.drew.trans (hb.mono HB7.out.size))
               have c0 := (hb.cell (p := ⟨bt, o3 + q * 3, none⟩) (World.block_lt_of_cell? _ _ c0)).trans c0
               have c1 := (hb.cell (p := ⟨bt, o3 + q * 3 + 1, none⟩) (World.block_lt_of_cell? _ _ c1)).trans c1
               have c2 := (hb.cell (p := ⟨bt, o3 + q * 3 + 2, none⟩) (World.block_lt_of_cell? _ _ c2)).trans c2
               have d0 := (hb.cell (p := ⟨bt, o3 + (q + 1) * 3, none⟩) (World.block_lt_of_cell? _ _ d0)).trans d0
               have d1 := (hb.cell (p := ⟨bt, o3 + (q + 1) * 3 + 1, none⟩) (World.block_lt_of_cell? _ _ d1)).trans d1
               have d2 := (hb.cell (p := ⟨bt, o3 + (q + 1) * 3 + 2, none⟩) (World.block_lt_of_cell? _ _ d2)).trans d2
               have z0 := (hb.cell (p := ⟨w.heap.size, 0, none⟩) (World.block_lt_of_cell? _ _ z0)).trans z0
               have z1 := (hb.cell (p := ⟨w.heap.size, 1, none⟩) (World.block_lt_of_cell? _ _ z1)).trans z1
               clear hb)))
          all_goals
          go_wp2_with fail
          exact ⟨⟨_, _, _, _, _, _, _, _, _, _, _, _, _, _, _, _, _, _, _, _, _, _, _, _, _, _, _, _, _, _, _, _, _, _, _, _, _, _, _, _, _, _, _, _, _, _, _, _, _, _, _, _, _, _, _, _, _, _, _, _, _, _, ⟨q + 1, by omega, by go_num, Lib.hid (HTQ.out.carry HB8.out HB8.out.size), Lib.hid (HBQ.out.carry HB8.out)⟩, rfl⟩, by simp [intOf]; omega⟩
        · have hq1 : ¬ (q : Int) + 1 < (ts.length : Int) := by have := HTL.out; omega
          go_wp2_with fail
          refine (HAL.out _ HBQ.out.low).mono ?_
          rintro e w9 ⟨rfl, hb⟩
          have HB := Lib.hid hb
          clear hb
          go_wp2_with fail
          go_ret
          exact ⟨rfl, HB.out⟩
end Go.Proofs.YtnomppdmhgefiaaGreat
