/- The law PathTotal. -/
import Derived.WalkKit
import Derived.ProofKit
import Derived.OpenShut
import Derived.Handy
import Derived.Lib.Hide
import Derived.Deep.RegionHeld3
import Derived.Test.YtdnkommcnkbeeaaFix
import Derived.Test.YtdnkommcnkbeeaaRfk
import Derived.Test.YtdnkommcnkbeeaaCkl
import Derived.Test.YtdnkommcnkbeeaaAl6
namespace Go.Proofs.Ytdnkommcnkbeeaa
open Go.RowKit

/-- the boxes of two terms -/
structure Two (w W : World) (s t : Tm) (sv tv : Value) : Prop where
  a : W.heap[w.heap.size]? = some (.cells #[.string s.nm, .bool s.vr, sv] 34 (0, 0))
  b : W.heap[w.heap.size + 1]? = some (.cells #[.string t.nm, .bool t.vr, tv] 34 (0, 0))
  low : Below w.heap.size w W
theorem Two.carry {w A W : World} {s t : Tm} {sv tv : Value} (h : Two w A s t sv tv) (hb : Below A.heap.size A W) : Two w W s t sv tv :=
  ⟨(hb.block _ (Array.getElem?_eq_some_iff.1 h.a).1).trans h.a, (hb.block _ (Array.getElem?_eq_some_iff.1 h.b).1).trans h.b, h.low.trans (hb.mono h.low.size)⟩
theorem Two.six {w W : World} {s t : Tm} {sv tv : Value} (h : Two w W s t sv tv) : W.cell? ⟨w.heap.size, 0, none⟩ = some (.string s.nm) ∧ W.cell? ⟨w.heap.size, 1, none⟩ = some (.bool s.vr) ∧ W.cell? ⟨w.heap.size, 2, none⟩ = some sv ∧ W.cell? ⟨w.heap.size + 1, 0, none⟩ = some (.string t.nm) ∧ W.cell? ⟨w.heap.size + 1, 1, none⟩ = some (.bool t.vr) ∧ W.cell? ⟨w.heap.size + 1, 2, none⟩ = some tv :=
  ⟨cells_of' h.a 0, cells_of' h.a 1, cells_of' h.a 2, cells_of' h.b 0, cells_of' h.b 1, cells_of' h.b 2⟩
/-- carried along a growth that keeps the boxes -/
theorem Two.grow {w A W : World} {s t : Tm} {sv tv : Value} {r : Option Nat} (h : Two w A s t sv tv) (hg : A.grownBy W r) (hr : ∀ j, r = some j → w.heap.size + 2 ≤ j) : Two w W s t sv tv :=
  ⟨(hg.block _ (Array.getElem?_eq_some_iff.1 h.a).1 fun e => by have := hr _ e.symm; omega).trans h.a, (hg.block _ (Array.getElem?_eq_some_iff.1 h.b).1 fun e => by have := hr _ e.symm; omega).trans h.b, h.low.grown hg h.low.size fun j hj => by have := hr j hj; omega⟩
theorem key_inj {a b : ByteArray} (h : a.data.toList = b.data.toList) : a = b := by rw [← kb_key a, h, kb_key]
/-- ground terms with fixed arities and other ranks for other symbols: one is the greater -/
theorem total_gp {L : List Rk} {ms : List Sy} {s t : Tm} (hL : PrecOk L) (hs : s.ok) (ht : t.ok) (hne : s ≠ t) (hc : Con L ms) (hss : s.sym (inS ms)) (hts : t.sym (inS ms)) : (gpB L s t != gpB L t s) = true := by
  have hp : ∀ f g m n, inS ms f m → inS ms g n → rkB L f = rkB L g → f = g ∧ m = n := fun f g m n h1 h2 h3 => by
    have e := hc _ h1 _ h2 h3
    simp only [Prod.mk.injEq] at e
    exact ⟨key_inj e.1, by omega⟩
  rcases Lpo.total_n (rk := rkB L) hp _ s t (Nat.le_refl _) hss hts with h | h | h
  · exact absurd h hne
  · rw [gpB_yes.2 ⟨hL, hs, ht, h⟩, gpB_no.2 fun k => h.asymm k.2.2.2]; rfl
  · rw [gpB_yes.2 ⟨hL, ht, hs, h⟩, gpB_no.2 fun k => h.asymm k.2.2.2]; rfl

set_option maxRecDepth 100000 in
set_option maxHeartbeats 16000000 in
theorem pathTotal_any (L : List Rk) (lv : Value) (s t : Tm) (sv tv : Value) (w : World) (hL : RksIs w.heap.size w L lv) (hLb : rkBulk L ≤ 1048576) (hs : SlIs w.heap.size w s.ts sv) (ht : SlIs w.heap.size w t.ts tv) (hbb : s.bulk + t.bulk ≤ 1048576) :
    Calls Try.prog 7 #[lv, tmv s sv, tmv t tv] w fun e w' => e = .returned (.bool true) ∧ Below w.heap.size w w' := by
  have hlen := Nat.le_trans (rkBulk_len L) hLb
  have hbs : s.bulk ≤ 1048576 := by omega
  have hbt : t.bulk ≤ 1048576 := by omega
  have hsz := Tm.size_bulk s
  have htz := Tm.size_bulk t
  obtain ⟨os, cs, rfl, -⟩ := hs.form
  obtain ⟨ot, ct, rfl, -⟩ := ht.form
  have hL' := hL
  obtain ⟨ol, cl, rfl, -, -⟩ := hL'
  have HL := Lib.hid hL
  have HS := Lib.hid hs
  have HT := Lib.hid ht
  have HLB := Lib.hid hLb
  clear hL hs ht hLb
  have HT0 : Hid (Two w ((w.alloc (.cells #[.string s.nm, .bool s.vr, .slice os s.ts.length cs] 34)).alloc (.cells #[.string t.nm, .bool t.vr, .slice ot t.ts.length ct] 34)) s t (.slice os s.ts.length cs) (.slice ot t.ts.length ct)) := Lib.hid ⟨(Below.heap_alloc _ _ _ (by simp)).trans (heap_new_at _ _ _ rfl), heap_new_at _ _ _ (by simp), by go_grown⟩
  have HG1 : Hid (∀ W, Below w.heap.size w W → Calls Try.prog 13 #[.slice ol L.length cl, .agg #[.string s.nm, .bool s.vr, .slice os s.ts.length cs], .agg #[.string t.nm, .bool t.vr, .slice ot t.ts.length ct]] W fun e w' => e = .returned (.bool (gpB L s t)) ∧ Below W.heap.size W w') := Lib.hid fun W hW => lgreater_any L _ s t _ _ W (HL.out.carry hW hW.size) HLB.out (HS.out.carry hW hW.size) (HT.out.carry hW hW.size) hbs hbt
  have HG2 : Hid (∀ W, Below w.heap.size w W → Calls Try.prog 13 #[.slice ol L.length cl, .agg #[.string t.nm, .bool t.vr, .slice ot t.ts.length ct], .agg #[.string s.nm, .bool s.vr, .slice os s.ts.length cs]] W fun e w' => e = .returned (.bool (gpB L t s)) ∧ Below W.heap.size W w') := Lib.hid fun W hW => lgreater_any L _ t s _ _ W (HL.out.carry hW hW.size) HLB.out (HT.out.carry hW hW.size) (HS.out.carry hW hW.size) hbt hbs
  have HAL : Hid (∀ W, Below w.heap.size w W → Calls Try.prog 12 #[] W fun e w' => e = .returned (.bool true) ∧ Below w.heap.size w w') := Lib.hid fun W hW => (alive_any W).mono fun e w' h => ⟨h.1, hW.trans (h.2.mono hW.size)⟩
  go_enter Try.func7, Try.ntmps7
  rw [show tmv s (.slice os s.ts.length cs) = .agg #[.string s.nm, .bool s.vr, .slice os s.ts.length cs] from rfl, show tmv t (.slice ot t.ts.length ct) = .agg #[.string t.nm, .bool t.vr, .slice ot t.ts.length ct] from rfl]
  go_wp2_with fail
  refine (rPrec_any L _ _ (HL.out.carry HT0.out.low HT0.out.low.size) HLB.out).mono ?_
  rintro e w1 ⟨rfl, hb⟩
  have HT1 := Lib.hid (HT0.out.carry hb)
  clear hb HT0
  obtain ⟨x0, x1, x2, y0, y1, y2⟩ := HT1.out.six
  by_cases hc : precC L = 0
  case neg =>
    have hd : (precC L != 0) = true := by rw [bne_iff_ne]; exact hc
    clear hc
    go_wp2_with fail
    refine (HAL.out _ HT1.out.low).mono ?_
    rintro e w9 ⟨rfl, hb⟩
    go_wp2_with fail
    go_ret
    exact ⟨rfl, hb⟩
  have HP := Lib.hid (precC_zero.1 hc)
  rw [hc]
  clear hc
  go_wp2_with fail
  have hrow := RowW.two (W := w1) (t := s) (u := t) (HS.out.carry HT1.out.low HT1.out.low.size) (HT.out.carry HT1.out.low HT1.out.low.size)
  obtain ⟨rb, re, hrs⟩ := hrow
  cases re
  have HRS := Lib.hid hrs
  clear hrs
  refine (rcheckAll_any [s, t] _ _ HRS.out (by simp only [Tm.bulks]; omega)).mono ?_
  rintro e w2 ⟨⟨c, rfl, hc⟩, hb⟩
  have HT2 := Lib.hid (HT1.out.carry (((Below.refl w1.heap.size w1).alloc (Nat.le_refl _) (.cells #[.string s.nm, .bool s.vr, .slice os s.ts.length cs, .string t.nm, .bool t.vr, .slice ot t.ts.length ct] 34)).trans (hb.mono (by simp))))
  have HC := Lib.hid hc
  clear hb HT1 hc x0 x1 x2 y0 y1 y2
  obtain ⟨x0, x1, x2, y0, y1, y2⟩ := HT2.out.six
  by_cases hc : c = 0
  case neg =>
    have hd : (c != 0) = true := by rw [bne_iff_ne]; exact hc
    clear hc
    go_wp2_with fail
    refine (HAL.out _ HT2.out.low).mono ?_
    rintro e w9 ⟨rfl, hb⟩
    go_wp2_with fail
    go_ret
    exact ⟨rfl, hb⟩
  subst hc
  have HSO : Hid s.ok := Lib.hid (HC.out.1 rfl s (by simp))
  have HTO : Hid t.ok := Lib.hid (HC.out.1 rfl t (by simp))
  clear HC HRS
  go_wp2_with fail
  refine (requal_any s t _ _ w2 hbs hbt (HS.out.carry HT2.out.low HT2.out.low.size) (HT.out.carry HT2.out.low HT2.out.low.size)).mono ?_
  rintro e w3 ⟨⟨q, rfl, hq⟩, hb⟩
  have HT3 := Lib.hid (HT2.out.carry hb)
  have HQ := Lib.hid hq
  clear hb HT2 hq x0 x1 x2 y0 y1 y2
  obtain ⟨x0, x1, x2, y0, y1, y2⟩ := HT3.out.six
  cases q with
  | true =>
    go_wp2_with fail
    refine (HAL.out _ HT3.out.low).mono ?_
    rintro e w9 ⟨rfl, hb⟩
    go_wp2_with fail
    go_ret
    exact ⟨rfl, hb⟩
  | false =>
  have HNE : Hid (s ≠ t) := Lib.hid fun e => by have := HQ.out.2 e; cases this
  clear HQ
  go_wp2_with fail
  have h3 := HT3.out.low
  have H3Z : Hid (w.heap.size + 2 ≤ w3.heap.size) := Lib.hid (Array.getElem?_eq_some_iff.1 HT3.out.b).1
  refine (fixed_any L _ hlen w.heap.size s _ (.slice none 0 0) [] w3 h3.size (HL.out.carry h3 (Nat.le_refl _)) (HS.out.carry h3 (Nat.le_refl _)) hbs (World.ownsRow_nil _ _ _ _) (by simp; omega)).mono ?_
  rintro e w4 ⟨v4, b4, rfl, hg4, hp4⟩
  have HT4 := Lib.hid (HT3.out.grow hg4 nofun)
  clear hg4 h3 HT3 x0 x1 x2 y0 y1 y2
  obtain ⟨x0, x1, x2, y0, y1, y2⟩ := HT4.out.six
  cases b4 with
  | false =>
    clear hp4
    go_wp2_with fail
    refine (HAL.out _ HT4.out.low).mono ?_
    rintro e w9 ⟨rfl, hb⟩
    go_wp2_with fail
    go_ret
    exact ⟨rfl, hb⟩
  | true =>
  obtain ⟨M, ho, hat, -, hcon, hsym, hml⟩ := hp4 rfl
  have HAT : Hid (∀ j, v4.ownBlock = some j → w.heap.size + 2 ≤ j) := Lib.hid fun j hj => by
    rcases hat with e | ⟨k, e, hk⟩
    · rw [e] at hj; cases hj
    · rw [e] at hj; cases hj; have := H3Z.out; omega
  have HCON : Hid (Con L M) := Lib.hid (hcon fun p hp => by cases hp)
  have HSYM := Lib.hid hsym
  have HO := Lib.hid ho
  have hml2 : M.length ≤ 1048576 := by simp at hml; omega
  obtain ⟨ov, cv, rfl⟩ := ownsRow_shape ho
  clear hp4 ho hat hcon hsym hml
  go_wp2_with fail
  have h4 := HT4.out.low
  refine (fixed_any L _ hlen w.heap.size t _ (.slice ov M.length cv) M w4 h4.size (HL.out.carry h4 (Nat.le_refl _)) (HT.out.carry h4 (Nat.le_refl _)) hbt HO.out (by omega)).mono ?_
  rintro e w5 ⟨v5, b5, rfl, hg5, hp5⟩
  have HT5 := Lib.hid (HT4.out.grow hg5 HAT.out)
  clear hg5 h4 HT4 x0 x1 x2 y0 y1 y2
  obtain ⟨x0, x1, x2, y0, y1, y2⟩ := HT5.out.six
  cases b5 with
  | false =>
    clear hp5
    go_wp2_with fail
    refine (HAL.out _ HT5.out.low).mono ?_
    rintro e w9 ⟨rfl, hb⟩
    go_wp2_with fail
    go_ret
    exact ⟨rfl, hb⟩
  | true =>
  obtain ⟨M2, ho2, -, hsub2, hcon2, hsym2, -⟩ := hp5 rfl
  have HTOT := Lib.hid (total_gp HP.out HSO.out HTO.out HNE.out (hcon2 HCON.out) (HSYM.out.mono fun f n h => hsub2 _ h) hsym2)
  obtain ⟨o5, c5, rfl⟩ := ownsRow_shape ho2
  have HT6 := Lib.hid (HT5.out.carry (Below.refl _ _).drew)
  clear hp5 ho2 hsub2 hcon2 hsym2 HO HSYM HCON HAT
  go_wp2_with fail
  refine wp_region_noPanic ?_
  refine wp_region_held_drew (S := fun w' => w'.cell? ⟨w.heap.size, 0, none⟩ = some (.string s.nm) ∧ w'.cell? ⟨w.heap.size, 1, none⟩ = some (.bool s.vr) ∧ w'.cell? ⟨w.heap.size, 2, none⟩ = some (.slice os s.ts.length cs) ∧ w'.cell? ⟨w.heap.size + 1, 0, none⟩ = some (.string t.nm) ∧ w'.cell? ⟨w.heap.size + 1, 1, none⟩ = some (.bool t.vr) ∧ w'.cell? ⟨w.heap.size + 1, 2, none⟩ = some (.slice ot t.ts.length ct)) (by kernel_rfl) HT6.out.six (fun _ => ?_)
  simp only [List.size_toArray, List.length_cons, List.length_nil, Nat.reduceAdd]
  refine wpAnyH_take (i := 0) (v := ?_) (by simp only [List.getElem?_toArray, List.getElem?_cons_zero]; rfl) (by kernel_rfl) (by kernel_rfl) (by kernel_rfl) (fun _ _ _ h => h) (Or.inl ⟨by rfl, ?_⟩) HT6.out.six ?_
  case refine_2 => (intro ww hSw; obtain ⟨s1, s2, s3, s4, s5, s6⟩ := hSw; go_simp; try with_reducible rfl)
  try simp only [Act.put, List.setIfInBounds_toArray, List.set_cons_zero, List.set_cons_succ]
  refine wpAnyH_take (i := 1) (v := ?_) (by simp only [List.getElem?_toArray, List.getElem?_cons_zero, List.getElem?_cons_succ]; rfl) (by kernel_rfl) (by kernel_rfl) (by kernel_rfl) (fun _ _ _ h => h) (Or.inl ⟨by rfl, ?_⟩) HT6.out.six ?_
  case refine_2 => (intro ww hSw; obtain ⟨s1, s2, s3, s4, s5, s6⟩ := hSw; go_simp; try with_reducible rfl)
  try simp only [Act.put, List.setIfInBounds_toArray, List.set_cons_zero, List.set_cons_succ]
  refine wpAnyH_take (i := 2) (v := ?_) (by simp only [List.getElem?_toArray, List.getElem?_cons_zero, List.getElem?_cons_succ]; rfl) (by kernel_rfl) (by kernel_rfl) (by kernel_rfl) (fun _ _ _ h => h) (Or.inl ⟨by rfl, ?_⟩) HT6.out.six ?_
  case refine_2 => (intro ww hSw; obtain ⟨s1, s2, s3, s4, s5, s6⟩ := hSw; go_simp; try with_reducible rfl)
  try simp only [Act.put, List.setIfInBounds_toArray, List.set_cons_zero, List.set_cons_succ]
  refine wpAnyH_take (i := 4) (v := ?_) (by simp only [List.getElem?_toArray, List.getElem?_cons_zero, List.getElem?_cons_succ]; rfl) (by kernel_rfl) (by kernel_rfl) (by kernel_rfl) (fun _ _ _ h => h) (Or.inl ⟨by rfl, ?_⟩) HT6.out.six ?_
  case refine_2 => (intro ww hSw; obtain ⟨s1, s2, s3, s4, s5, s6⟩ := hSw; go_simp; try with_reducible rfl)
  try simp only [Act.put, List.setIfInBounds_toArray, List.set_cons_zero, List.set_cons_succ]
  refine wpAnyH_take (i := 5) (v := ?_) (by simp only [List.getElem?_toArray, List.getElem?_cons_zero, List.getElem?_cons_succ]; rfl) (by kernel_rfl) (by kernel_rfl) (by kernel_rfl) (fun _ _ _ h => h) (Or.inl ⟨by rfl, ?_⟩) HT6.out.six ?_
  case refine_2 => (intro ww hSw; obtain ⟨s1, s2, s3, s4, s5, s6⟩ := hSw; go_simp; try with_reducible rfl)
  try simp only [Act.put, List.setIfInBounds_toArray, List.set_cons_zero, List.set_cons_succ]
  refine wpAnyH_take (i := 6) (v := ?_) (by simp only [List.getElem?_toArray, List.getElem?_cons_zero, List.getElem?_cons_succ]; rfl) (by kernel_rfl) (by kernel_rfl) (by kernel_rfl) (fun _ _ _ h => h) (Or.inl ⟨by rfl, ?_⟩) HT6.out.six ?_
  case refine_2 => (intro ww hSw; obtain ⟨s1, s2, s3, s4, s5, s6⟩ := hSw; go_simp; try with_reducible rfl)
  try simp only [Act.put, List.setIfInBounds_toArray, List.set_cons_zero, List.set_cons_succ]
  refine wpAnyH_ready (rs := [3]) (by kernel_rfl) (by simp) ?_
  refine AllReadyH.cons (by simp only [List.getElem?_toArray, List.getElem?_cons_zero, List.getElem?_cons_succ]; rfl) (fun K' hK => ?_) AllReadyH.nil
  go_simp
  refine (HG1.out _ HT6.out.low).mono ?_
  rintro e w7 ⟨rfl, hb⟩
  have HT7 := Lib.hid (HT6.out.carry hb)
  clear hb
  refine hK.out _ _ HT7.out.six (fun _ => ?_)
  clear hK
  try simp only [Act.put, List.setIfInBounds_toArray, List.set_cons_zero, List.set_cons_succ]
  refine wpAnyH_ready (rs := [7]) (by kernel_rfl) (by simp) ?_
  refine AllReadyH.cons (by simp only [List.getElem?_toArray, List.getElem?_cons_zero, List.getElem?_cons_succ]; rfl) (fun K' hK => ?_) AllReadyH.nil
  go_simp
  refine (HG2.out _ HT7.out.low).mono ?_
  rintro e w8 ⟨rfl, hb⟩
  have HT8 := Lib.hid (HT7.out.carry hb)
  clear hb
  have htot := HTOT.out
  generalize gpB L s t = g1 at htot ⊢
  generalize gpB L t s = g2 at htot ⊢
  obtain rfl : g1 = !g2 := by revert htot; cases g1 <;> cases g2 <;> simp
  cases g2
  · refine hK.out _ _ HT8.out.six (fun _ => ?_)
    clear hK
    try simp only [Act.put, List.setIfInBounds_toArray, List.set_cons_zero, List.set_cons_succ]
    refine wpAnyH_take (i := 8) (v := ?_) (by simp only [List.getElem?_toArray, List.getElem?_cons_zero, List.getElem?_cons_succ]; rfl) (by kernel_rfl) (by kernel_rfl) (by kernel_rfl) (fun _ _ _ h => h) (Or.inl ⟨by rfl, ?_⟩) HT8.out.six ?_
    case refine_2 => (intro ww hSw; obtain ⟨s1, s2, s3, s4, s5, s6⟩ := hSw; go_simp; try with_reducible rfl)
    try simp only [Act.put, List.setIfInBounds_toArray, List.set_cons_zero, List.set_cons_succ]
    refine wpAnyH_take (i := 9) (v := ?_) (by simp only [List.getElem?_toArray, List.getElem?_cons_zero, List.getElem?_cons_succ]; rfl) (by kernel_rfl) (by kernel_rfl) (by kernel_rfl) (fun _ _ _ h => h) (Or.inl ⟨by rfl, ?_⟩) HT8.out.six ?_
    case refine_2 => (intro ww hSw; obtain ⟨s1, s2, s3, s4, s5, s6⟩ := hSw; go_simp; try with_reducible rfl)
    try simp only [Act.put, List.setIfInBounds_toArray, List.set_cons_zero, List.set_cons_succ]
    refine wpAnyH_ready (rs := [10]) (by kernel_rfl) (by simp) ?_
    refine AllReadyH.cons (by simp only [List.getElem?_toArray, List.getElem?_cons_zero, List.getElem?_cons_succ]; rfl) (fun K' hK => ?_) AllReadyH.nil
    go_simp
    refine (alive_any _).mono ?_
    rintro e w9 ⟨rfl, hb⟩
    have HT9 := Lib.hid (HT8.out.carry hb)
    clear hb
    refine hK.out _ _ HT9.out.six (fun _ => ?_)
    clear hK
    try simp only [Act.put, List.setIfInBounds_toArray, List.set_cons_zero, List.set_cons_succ]
    refine wpAnyH_take (i := 11) (v := ?_) (by simp only [List.getElem?_toArray, List.getElem?_cons_zero, List.getElem?_cons_succ]; rfl) (by kernel_rfl) (by kernel_rfl) (by kernel_rfl) (fun _ _ _ h => h) (Or.inl ⟨by rfl, ?_⟩) HT9.out.six ?_
    case refine_2 => (intro ww hSw; obtain ⟨s1, s2, s3, s4, s5, s6⟩ := hSw; go_simp; try with_reducible rfl)
    try simp only [Act.put, List.setIfInBounds_toArray, List.set_cons_zero, List.set_cons_succ]
    refine wpAnyH_take (i := 12) (v := ?_) (by simp only [List.getElem?_toArray, List.getElem?_cons_zero, List.getElem?_cons_succ]; rfl) (by kernel_rfl) (by kernel_rfl) (by kernel_rfl) (fun _ _ _ h => h) (Or.inl ⟨by rfl, ?_⟩) HT9.out.six ?_
    case refine_2 => (intro ww hSw; obtain ⟨s1, s2, s3, s4, s5, s6⟩ := hSw; go_simp; try with_reducible rfl)
    try simp only [Act.put, List.setIfInBounds_toArray, List.set_cons_zero, List.set_cons_succ]
    refine wpAnyH_done (by kernel_rfl) ?_ _
    refine NoPanic.normal ?_
    go_wp2_with fail
    go_ret
    exact ⟨rfl, HT9.out.low⟩
  · refine hK.out _ _ HT8.out.six (fun _ => ?_)
    clear hK
    try simp only [Act.put, List.setIfInBounds_toArray, List.set_cons_zero, List.set_cons_succ]
    refine wpAnyH_take (i := 8) (v := ?_) (by simp only [List.getElem?_toArray, List.getElem?_cons_zero, List.getElem?_cons_succ]; rfl) (by kernel_rfl) (by kernel_rfl) (by kernel_rfl) (fun _ _ _ h => h) (Or.inl ⟨by rfl, ?_⟩) HT8.out.six ?_
    case refine_2 => (intro ww hSw; obtain ⟨s1, s2, s3, s4, s5, s6⟩ := hSw; go_simp; try with_reducible rfl)
    try simp only [Act.put, List.setIfInBounds_toArray, List.set_cons_zero, List.set_cons_succ]
    refine wpAnyH_take (i := 9) (v := ?_) (by simp only [List.getElem?_toArray, List.getElem?_cons_zero, List.getElem?_cons_succ]; rfl) (by kernel_rfl) (by kernel_rfl) (by kernel_rfl) (fun _ _ _ h => h) (Or.inl ⟨by rfl, ?_⟩) HT8.out.six ?_
    case refine_2 => (intro ww hSw; obtain ⟨s1, s2, s3, s4, s5, s6⟩ := hSw; go_simp; try with_reducible rfl)
    try simp only [Act.put, List.setIfInBounds_toArray, List.set_cons_zero, List.set_cons_succ]
    refine wpAnyH_ready (rs := [10]) (by kernel_rfl) (by simp) ?_
    refine AllReadyH.cons (by simp only [List.getElem?_toArray, List.getElem?_cons_zero, List.getElem?_cons_succ]; rfl) (fun K' hK => ?_) AllReadyH.nil
    go_simp
    refine (alive_any _).mono ?_
    rintro e w9 ⟨rfl, hb⟩
    have HT9 := Lib.hid (HT8.out.carry hb)
    clear hb
    refine hK.out _ _ HT9.out.six (fun _ => ?_)
    clear hK
    try simp only [Act.put, List.setIfInBounds_toArray, List.set_cons_zero, List.set_cons_succ]
    refine wpAnyH_take (i := 11) (v := ?_) (by simp only [List.getElem?_toArray, List.getElem?_cons_zero, List.getElem?_cons_succ]; rfl) (by kernel_rfl) (by kernel_rfl) (by kernel_rfl) (fun _ _ _ h => h) (Or.inl ⟨by rfl, ?_⟩) HT9.out.six ?_
    case refine_2 => (intro ww hSw; obtain ⟨s1, s2, s3, s4, s5, s6⟩ := hSw; go_simp; try with_reducible rfl)
    try simp only [Act.put, List.setIfInBounds_toArray, List.set_cons_zero, List.set_cons_succ]
    refine wpAnyH_take (i := 12) (v := ?_) (by simp only [List.getElem?_toArray, List.getElem?_cons_zero, List.getElem?_cons_succ]; rfl) (by kernel_rfl) (by kernel_rfl) (by kernel_rfl) (fun _ _ _ h => h) (Or.inl ⟨by rfl, ?_⟩) HT9.out.six ?_
    case refine_2 => (intro ww hSw; obtain ⟨s1, s2, s3, s4, s5, s6⟩ := hSw; go_simp; try with_reducible rfl)
    try simp only [Act.put, List.setIfInBounds_toArray, List.set_cons_zero, List.set_cons_succ]
    refine wpAnyH_done (by kernel_rfl) ?_ _
    refine NoPanic.normal ?_
    go_wp2_with fail
    go_ret
    exact ⟨rfl, HT9.out.low⟩
end Go.Proofs.Ytdnkommcnkbeeaa
