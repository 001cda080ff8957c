/- Merged: Uni, Un1, Al3p. -/
import Derived.WalkKit
import Derived.ProofKit
import Derived.OpenShut
import Derived.Handy
import Derived.Lib.Hide
import Derived.Test.YtkglopdogakfoaaGreatDoorSbs
import Derived.Test.YtkglopdogakfoaaGreatDoorGo
import Derived.Test.YtkglopdogakfoaaGreatDoorMat
/- Unify and UnifyAll at one pair of valid terms. -/
namespace Go.Proofs.YtkglopdogakfoaaGreatDoor
open Go.RowKit Go.Maps Go.Sort

/-- how UnifyAll ends -/
def UniPost (r cyc : Bool) (S : Sv) (rk : Key → Nat) (e : Ending) (w' : World) : Prop :=
  (¬ (r = true ∧ cyc = false) ∧ e = .returned (.tuple #[.slice none 0 0, .bool false, .int .i64 0])) ∨ (r = true ∧ cyc = false ∧ fitB S rk = false ∧ e = .returned (.tuple #[.slice none 0 0, .bool false, .int .i64 3])) ∨
  (r = true ∧ cyc = false ∧ fitB S rk = true ∧ ∃ (v : Value) (L : List Key), e = .returned (.tuple #[v, .bool true, .int .i64 0]) ∧ BindsIs w'.heap.size w' (subS S rk L) v ∧ Chg S L)
/-- the occurs check answers cyc -/
def CycIs (GW : World → Prop) (S : Sv) (rk : Key → Nat) (cyc : Bool) : Prop :=
  (cyc = false → Acy S rk) ∧ ∀ (sb m1 m2 : Nat) (p : Nat → Prop) (w : World), SvIs GW sb m1 m2 p S w → Calls Tryz.prog 113 #[.pointer (some ⟨sb, 0, none⟩)] w fun e w' => e = .returned (.bool cyc) ∧ SvIs GW sb m1 m2 p S w' ∧ FrX (· = m2) w w'
theorem CycIs.no {N : Nat} {GW : World → Prop} (HG : Hid (ItoaOk N GW)) {S : Sv} {rk : Key → Nat} (ha : Acy S rk) (hbl : S.bd.length ≤ 1048576) (hel : S.eq.length ≤ 1048576) : CycIs GW S rk false :=
  ⟨fun _ => ha, fun sb m1 m2 p w hS => hasCycle_any HG sb m1 m2 S rk ha hbl hel p w hS⟩
theorem SvIs.start {GW : World → Prop} {w : World} (hg : GW (((w.alloc (.map #[] 0)).alloc (.map #[] 0)).alloc (.cells #[.map (some w.heap.size), .map (some (w.heap.size + 1))] 150))) (p : Nat → Prop) : SvIs GW (w.heap.size + 1 + 1) w.heap.size (w.heap.size + 1) p ⟨[], []⟩ (((w.alloc (.map #[] 0)).alloc (.map #[] 0)).alloc (.cells #[.map (some w.heap.size), .map (some (w.heap.size + 1))] 150)) := by
  refine ⟨hg, heap_new_at _ _ _ (by simp), ⟨_, ((World.ownsMap_made w _ _ _).alloc _).alloc _, TInvP.empty _ _⟩, ⟨[], ⟨_, ?_, KInv.empty⟩, EqRel.nil⟩, by omega, SvOk.start⟩
  have h := (World.ownsMap_made (w.alloc (.map #[] 0)) Tryz.prog 9 (plainElem (H := Unit) Tryz.prog 9)).alloc (.cells #[.map (some w.heap.size), .map (some (w.heap.size + 1))] 150)
  simpa using h

set_option maxRecDepth 100000 in
set_option maxHeartbeats 8000000 in
theorem uunifyall_one {N : Nat} {GW : World → Prop} (HG : Hid (ItoaOk N GW)) (a b : Tm) (ha : a.ok) (hb : b.ok) (n : Nat) (r cyc : Bool) (S : Sv) (rk : Key → Nat) (hsol : solveP n ⟨[], []⟩ a b = some (r, S)) (hN : S.bd.length ≤ N) (hbl : S.bd.length ≤ 1048576) (hel : S.eq.length ≤ 1048576) (hcy : CycIs GW S rk cyc)
    (bl : Nat) (sa sc : Value) (w : World) (hgw : GW w) (hsa : SlIs w.heap.size w a.ts sa) (hsb : SlIs w.heap.size w b.ts sc) (hba : a.bulk ≤ 1048576) (hbb : b.bulk ≤ 1048576) (hw : w.heap[bl]? = some (.cells #[.string a.nm, .bool a.vr, sa, .string b.nm, .bool b.vr, sc] 81 (0, 0))) :
    Calls Tryz.prog 66 #[.slice (some ⟨bl, 0, none⟩) 1 1] w fun e w' => UniPost r cyc S rk e w' ∧ Below w.heap.size w w' := by
  obtain ⟨oa, ca, rfl, -⟩ := hsa.form
  obtain ⟨ob, cb, rfl, -⟩ := hsb.form
  have HSA := Lib.hid hsa
  have HSB := Lib.hid hsb
  have HOKA := Lib.hid ha
  have HOKB := Lib.hid hb
  have HW := Lib.hid hw
  have HGW := Lib.hid hgw
  have HSOL := Lib.hid hsol
  have HCY := Lib.hid hcy
  have hz0 := (Array.getElem?_eq_some_iff.1 hw).1
  have hmm := @run_makeMap Tryz.prog
  clear hsa hsb ha hb hw hgw hsol hcy
  obtain ⟨RT, hRT⟩ : ∃ RT : Prop, (RT ↔ r = true) := ⟨_, Iff.rfl⟩
  have HRT := Lib.hid hRT
  clear hRT
  go_enter Tryz.func66, Tryz.ntmps66
  go_wp2_with fail
  go_loopw [16] (fun i wr => ∃ j : Nat, j ≤ 1 ∧ i = .int .i64 j ∧ Hid (Below w.heap.size w wr)) (fun i _ => 1 - (intOf i).toNat)
  case atStart => exact ⟨0, by omega, rfl, Lib.hid (Below.refl _ _)⟩
  case round =>
    obtain ⟨j, hj, rfl, HB⟩ := hrel
    have hzr := HB.out.size
    by_cases hlt : j < 1
    · obtain rfl : j = 0 := by omega
      have hwr := (HB.out.block bl hz0).trans HW.out
      have c0 := cells_of' hwr 0
      have c1 := cells_of' hwr 1
      have c2 := cells_of' hwr 2
      have c3 := cells_of' hwr 3
      have c4 := cells_of' hwr 4
      have c5 := cells_of' hwr 5
      simp only [List.getElem?_toArray, List.getElem?_cons_zero, List.getElem?_cons_succ] at c0 c1 c2 c3 c4 c5
      have HCK : ∀ W, Below w.heap.size w W → Hid (Calls Tryz.prog 111 #[tmv a (.slice oa a.ts.length ca), tmv b (.slice ob b.ts.length cb)] W fun e w' => e = .returned (.int .i64 0) ∧ Below W.heap.size W w') := fun W hW => Lib.hid ((ucheck_any a b _ _ W (HSA.out.carry hW hW.size) (HSB.out.carry hW hW.size) hba hbb).mono fun e w' ⟨⟨c, h1, h2⟩, h3⟩ => ⟨by rw [h1, h2.2 ⟨HOKA.out, HOKB.out⟩], h3⟩)
      clear hwr
      go_wp2_with fail
      refine (HCK _ (HB.out.alloc (by omega) _)).out.mono ?_
      rintro e w2 ⟨rfl, hb2⟩
      have HB2 : Hid (Below w.heap.size w w2) := Lib.hid ((HB.out.alloc (by omega) _).trans (hb2.mono (by simp; omega)))
      clear hb2 HCK
      go_wp2_with fail
      exact ⟨⟨1, by omega, by go_num, HB2⟩, by simp [intOf]⟩
    · obtain rfl : j = 1 := by omega
      generalize wr = w1 at HB hzr ⊢
      have hbn : Below w.heap.size w (((w1.alloc (.map #[] 0)).alloc (.map #[] 0)).alloc (.cells #[.map (some w1.heap.size), .map (some (w1.heap.size + 1))] 150)) := ((HB.out.alloc (by omega) _).alloc (by simp; omega) _).alloc (by simp; omega) _
      have HSV0 := Lib.hid (SvIs.start (HG.out.keep _ _ HGW.out (KpC.of_below hbn (Nat.zero_le _))) (fun _ => True))
      have HBN := Lib.hid hbn
      clear hbn
      go_wp2_with fail
      go_loopw [34] (fun i w2 => ∃ k : Nat, k ≤ 1 ∧ i = .int .i64 k ∧ Hid (k = 0 → SvIs GW (w1.heap.size + 1 + 1) w1.heap.size (w1.heap.size + 1) (fun _ => True) ⟨[], []⟩ w2) ∧ Hid (k = 1 → RT ∧ SvIs GW (w1.heap.size + 1 + 1) w1.heap.size (w1.heap.size + 1) (fun _ => True) S w2) ∧ Hid (Below w.heap.size w w2)) (fun i _ => 1 - (intOf i).toNat)
      case atStart => exact ⟨0, by omega, rfl, Lib.hid (fun _ => HSV0.out), Lib.hid (fun h => by cases h), HBN⟩
      case round =>
        obtain ⟨k, hk, rfl, HS0, HSR, HBW⟩ := hrel
        have hzw := HBW.out.size
        by_cases hlt2 : k < 1
        · obtain rfl : k = 0 := by omega
          have hwr := (HBW.out.block bl hz0).trans HW.out
          have c0 := cells_of' hwr 0
          have c1 := cells_of' hwr 1
          have c2 := cells_of' hwr 2
          have c3 := cells_of' hwr 3
          have c4 := cells_of' hwr 4
          have c5 := cells_of' hwr 5
          simp only [List.getElem?_toArray, List.getElem?_cons_zero, List.getElem?_cons_succ] at c0 c1 c2 c3 c4 c5
          have hSV := HS0.out rfl
          have HSL : ∀ W, Below wr.heap.size wr W → Hid (Calls Tryz.prog 112 #[.pointer (some ⟨w1.heap.size + 1 + 1, 0, none⟩), tmv a (.slice oa a.ts.length ca), tmv b (.slice ob b.ts.length cb)] W (SolPost GW (w1.heap.size + 1 + 1) w1.heap.size (w1.heap.size + 1) w.heap.size (fun _ => True) r S W)) := fun W hW =>
            Lib.hid (solve_any HG (w1.heap.size + 1 + 1) w1.heap.size (w1.heap.size + 1) w.heap.size (by omega) (by omega) n (fun _ => True) ⟨[], []⟩ a b _ _ W r S HSOL.out (hSV.below HG.out hW) (Nat.le_trans hzw hW.size) (HSA.out.carry (HBW.out.trans (hW.mono hzw)) (Nat.le_trans hzw hW.size)) (HSB.out.carry (HBW.out.trans (hW.mono hzw)) (Nat.le_trans hzw hW.size)) (HOKA.out.1.kn _) (HOKB.out.1.kn _) hba hbb hN hel)
          clear hwr hSV
          go_wp2_with fail
          refine (HSL _ (by go_grown)).out.mono ?_
          rintro e w2 ⟨rfl, hsv2, hk2⟩
          have HB2 : Hid (Below w.heap.size w w2) := Lib.hid ((HBW.out.alloc hzw _).trans hk2.low)
          have HSV2 : Hid (r = true → SvIs GW (w1.heap.size + 1 + 1) w1.heap.size (w1.heap.size + 1) (fun _ => True) S w2) := Lib.hid fun h => (hsv2 h).weak fun _ _ _ => trivial
          clear hsv2 hk2 HSL
          cases r with
          | false =>
            go_wp2_with fail
            refine bodyPost_ret (v := .tuple #[.slice none 0 0, .bool false, .int .i64 0]) (by simp [results, Tryz.f66, go_sem]) rfl ?_
            exact ⟨.inl ⟨by simp, rfl⟩, HB2.out⟩
          | true =>
            go_wp2_with fail
            refine ⟨⟨_, _, _, _, _, _, _, _, _, _, _, _, _, _, _, ⟨1, by omega, rfl, Lib.hid (fun h => by cases h), Lib.hid (fun _ => ⟨HRT.out.2 (by first | rfl | trivial), HSV2.out (by first | rfl | trivial)⟩), HB2⟩, rfl⟩, by simp [intOf]⟩
        · obtain rfl : k = 1 := by omega
          have HR : Hid (r = true) := Lib.hid (HRT.out.1 (HSR.out rfl).1)
          have HSV := Lib.hid (HSR.out rfl).2
          clear HSR HS0
          go_wp2_with fail
          refine (HCY.out.2 _ _ _ _ _ HSV.out).mono ?_
          rintro e w3 ⟨rfl, hsv3, hf3⟩
          have below_of : ∀ A B : World, FrX (· = w1.heap.size + 1) A B → w.heap.size ≤ A.heap.size → Below w.heap.size A B := fun A B h hz => ⟨h.os, h.tape, h.output, h.size, fun k hk => h.block k (by omega) (by omega)⟩
          have HB3 : Hid (Below w.heap.size w w3) := Lib.hid (HBW.out.trans (below_of _ _ hf3 hzw))
          have HSV3 := Lib.hid hsv3
          have hz3 := hf3.size
          clear hsv3 hf3
          cases cyc with
          | true =>
            go_wp2_with fail
            refine bodyPost_ret (v := .tuple #[.slice none 0 0, .bool false, .int .i64 0]) (by simp [results, Tryz.f66, go_sem]) rfl ?_
            exact ⟨.inl ⟨by simp, rfl⟩, HB3.out⟩
          | false =>
            have HA := Lib.hid (HCY.out.1 rfl)
            have BO := Lib.hid below_of
            clear below_of
            go_wp2_with fail
            refine (ufits_any HG _ _ _ S rk HA.out hbl hel _ _ HSV3.out).mono ?_
            rintro e w4 ⟨rfl, hsv4, hf4⟩
            have HB4 : Hid (Below w.heap.size w w4) := Lib.hid (HB3.out.trans (BO.out _ _ hf4 (by omega)))
            have HSV4 := Lib.hid hsv4
            have hz4 := hf4.size
            clear hsv4 hf4
            cases hfit : fitB S rk with
            | false =>
              have HFIT := Lib.hid hfit
              clear hfit
              go_wp2_with fail
              refine bodyPost_ret (v := .tuple #[.slice none 0 0, .bool false, .int .i64 3]) (by simp [results, Tryz.f66, go_sem]) rfl ?_
              exact ⟨.inr (.inl ⟨HR.out, rfl, HFIT.out, rfl⟩), HB4.out⟩
            | true =>
              have HFIT := Lib.hid hfit
              clear hfit
              go_wp2_with fail
              refine (usubst_any HG _ _ _ S rk HA.out hel _ _ HSV4.out).mono ?_
              rintro e w5 ⟨⟨v, L, rfl, hv, hc⟩, -, hf5⟩
              have HB5 : Hid (Below w.heap.size w w5) := Lib.hid (HB4.out.trans (BO.out _ _ hf5 (by omega)))
              have HV := Lib.hid hv
              have HC := Lib.hid hc
              clear hv hc hf5
              go_wp2_with fail
              refine bodyPost_ret (v := .tuple #[v, .bool true, .int .i64 0]) (by simp [results, Tryz.f66, go_sem]) rfl ?_
              exact ⟨.inr (.inr ⟨HR.out, rfl, HFIT.out, v, L, rfl, HV.out, HC.out⟩), HB5.out⟩
end Go.Proofs.YtkglopdogakfoaaGreatDoor
/- Unify at two valid terms. -/
namespace Go.Proofs.YtkglopdogakfoaaGreatDoor
open Go.RowKit Go.Maps Go.Sort
set_option maxRecDepth 100000 in
set_option maxHeartbeats 8000000 in
theorem uunify_any {N : Nat} {GW : World → Prop} (HG : Hid (ItoaOk N GW)) (a b : Tm) (ha : a.ok) (hb : b.ok) (n : Nat) (r cyc : Bool) (S : Sv) (rk : Key → Nat) (hsol : solveP n ⟨[], []⟩ a b = some (r, S)) (hN : S.bd.length ≤ N) (hbl : S.bd.length ≤ 1048576) (hel : S.eq.length ≤ 1048576) (hcy : CycIs GW S rk cyc)
    (sa sc : Value) (w : World) (hgw : GW w) (hsa : SlIs w.heap.size w a.ts sa) (hsb : SlIs w.heap.size w b.ts sc) (hba : a.bulk ≤ 1048576) (hbb : b.bulk ≤ 1048576) :
    Calls Tryz.prog 27 #[tmv a sa, tmv b sc] w fun e w' => UniPost r cyc S rk e w' ∧ Below w.heap.size w w' := by
  obtain ⟨oa, ca, rfl, -⟩ := hsa.form
  obtain ⟨ob, cb, rfl, -⟩ := hsb.form
  have hB : Below w.heap.size w (((w.alloc (.cells #[.string a.nm, .bool a.vr, .slice oa a.ts.length ca] 25)).alloc (.cells #[.string b.nm, .bool b.vr, .slice ob b.ts.length cb] 25)).alloc (.cells #[.string a.nm, .bool a.vr, .slice oa a.ts.length ca, .string b.nm, .bool b.vr, .slice ob b.ts.length cb] 81)) := by go_grown
  have HALL := Lib.hid (uunifyall_one HG a b ha hb n r cyc S rk hsol hN hbl hel hcy (w.heap.size + 1 + 1) (.slice oa a.ts.length ca) (.slice ob b.ts.length cb) _ (HG.out.keep _ _ hgw (KpC.of_below hB (Nat.zero_le _))) (hsa.carry hB hB.size) (hsb.carry hB hB.size) hba hbb (heap_new_at _ _ _ (by simp)))
  have HB := Lib.hid hB
  clear hB hsa hsb ha hb hsol hcy hgw
  go_enter Tryz.func27, Tryz.ntmps27
  go_wp2_with fail
  refine HALL.out.mono ?_
  rintro e w1 ⟨hp, hb1⟩
  have HB1 : Hid (Below w.heap.size w w1) := Lib.hid (HB.out.trans (hb1.mono HB.out.size))
  clear hb1 HALL
  rcases hp with ⟨h1, rfl⟩ | ⟨h1, h2, h3, rfl⟩ | ⟨h1, h2, h3, v, L, rfl, h4, h5⟩
  · have H1 := Lib.hid h1
    clear h1
    go_wp2_with fail
    refine bodyPost_ret (v := .tuple #[.slice none 0 0, .bool false, .int .i64 0]) (by simp [results, Tryz.f27, go_sem]) rfl ?_
    exact ⟨.inl ⟨H1.out, rfl⟩, HB1.out⟩
  · have H1 := Lib.hid h1
    have H2 := Lib.hid h2
    have H3 := Lib.hid h3
    clear h1 h2 h3
    go_wp2_with fail
    refine bodyPost_ret (v := .tuple #[.slice none 0 0, .bool false, .int .i64 3]) (by simp [results, Tryz.f27, go_sem]) rfl ?_
    exact ⟨.inr (.inl ⟨H1.out, H2.out, H3.out, rfl⟩), HB1.out⟩
  · have H1 := Lib.hid h1
    have H2 := Lib.hid h2
    have H3 := Lib.hid h3
    have H4 := Lib.hid h4
    have H5 := Lib.hid h5
    clear h1 h2 h3 h4 h5
    go_wp2_with fail
    refine bodyPost_ret (v := .tuple #[v, .bool true, .int .i64 0]) (by simp [results, Tryz.f27, go_sem]) rfl ?_
    exact ⟨.inr (.inr ⟨H1.out, H2.out, H3.out, v, L, rfl, H4.out, H5.out⟩), HB1.out⟩
end Go.Proofs.YtkglopdogakfoaaGreatDoor
/- The example of the chapter: plain facts. -/
namespace Go.Proofs.YtkglopdogakfoaaGreatDoor
open Go.RowKit Go.Maps
def nX : Key := [120]
def nY : Key := [121]
def nZ : Key := [122]
def tV (k : Key) : Tm := .mk (kb k) true []
def tG (t : Tm) : Tm := .mk ⟨#[103]⟩ false [t]
def tF (t u : Tm) : Tm := .mk ⟨#[102]⟩ false [t, u]
def exA : Tm := tF (tV nX) (tG (tV nY))
def exB : Tm := tF (tG (tV nZ)) (tV nX)
theorem h0_is : hname 0 = [35, 48] := by
  unfold hname digN
  rw [if_pos (by omega), Lib.decDigits]
  rfl
theorem h1_is : hname 1 = [35, 49] := by
  unfold hname digN
  rw [if_pos (by omega), Lib.decDigits]
  rfl
def exS : Sv := ⟨[(hname 0, tG (tV nZ)), (hname 1, tG (tV nY))], [(nX, hname 0), (hname 1, hname 0), (nY, nZ)]⟩
theorem exSol : solveP 4 ⟨[], []⟩ exA exB = some (true, exS) := by
  kernel_rfl
def exRk (k : Key) : Nat := if k = [35, 48] then 1 else 0
theorem exAcy : Acy exS exRk := by
  intro x t h1 h2 u hu
  have hx := getA_some h1
  have e1 : exS = ⟨[([35, 48], tG (tV nZ)), ([35, 49], tG (tV nY))], [(nX, [35, 48]), ([35, 49], [35, 48]), (nY, nZ)]⟩ := by unfold exS; rw [h0_is, h1_is]
  rw [e1] at hx h2 ⊢
  simp only [List.mem_cons, List.not_mem_nil, or_false, Prod.mk.injEq] at hx
  rcases hx with ⟨rfl, rfl⟩ | ⟨rfl, rfl⟩
  · obtain rfl : u = tV nZ := by simpa [tG, Tm.ts] using hu
    decide
  · exact absurd h2 (by decide)
theorem exFit : fitB exS exRk = true := by
  refine fitB_yes fun x h1 h2 => ?_
  have e1 : exS = ⟨[([35, 48], tG (tV nZ)), ([35, 49], tG (tV nY))], [(nX, [35, 48]), ([35, 49], [35, 48]), (nY, nZ)]⟩ := by unfold exS; rw [h0_is, h1_is]
  rw [e1] at h1 h2 ⊢
  simp only [List.map_cons, List.map_nil, List.mem_cons, List.not_mem_nil, or_false] at h1
  rcases h1 with rfl | rfl | rfl <;> decide
theorem sorted_ext {l r : List Key} (hl : l.Pairwise (· < ·)) (hr : r.Pairwise (· < ·)) (h : ∀ x, x ∈ l ↔ x ∈ r) : l = r := by
  have nd : ∀ {l : List Key}, l.Pairwise (· < ·) → l.Nodup := fun h => h.imp (fun h e => by subst e; exact absurd h (List.lt_irrefl _))
  have hp : l.Perm r := (List.perm_ext_iff_of_nodup (nd hl) (nd hr)).2 h
  exact hp.eq_of_pairwise (fun a b _ _ h1 h2 => absurd (List.lt_trans h1 h2) (List.lt_irrefl _)) hl hr
theorem exChg {L : List Key} (h : Chg exS L) : L = [nX, nY] := by
  refine sorted_ext h.1 (by decide) fun x => ?_
  rw [h.2]
  have e1 : exS = ⟨[([35, 48], tG (tV nZ)), ([35, 49], tG (tV nY))], [(nX, [35, 48]), ([35, 49], [35, 48]), (nY, nZ)]⟩ := by unfold exS; rw [h0_is, h1_is]
  rw [e1]
  simp only [List.map_cons, List.map_nil, List.mem_cons, List.not_mem_nil, or_false]
  constructor
  · rintro ⟨h1, h2⟩
    rcases h1 with rfl | rfl | rfl
    · exact .inl rfl
    · exact absurd (.inr rfl) h2
    · exact .inr rfl
  · rintro (rfl | rfl)
    · exact ⟨.inl rfl, by decide⟩
    · exact ⟨.inr (.inr rfl), by decide⟩
theorem exSub : subS exS exRk [nX, nY] = [(nX, tG (tV nZ)), (nY, tV nZ)] := by kernel_rfl
theorem exA_ok : exA.ok := ⟨by unfold Tm.formed; decide, by decide, by decide⟩
theorem exB_ok : exB.ok := ⟨by unfold Tm.formed; decide, by decide, by decide⟩
def exP : Tm := tF (tV nX) (tV nX)
def exQ : Tm := tF (.mk ⟨#[97]⟩ false []) (.mk ⟨#[98]⟩ false [])
theorem exP_ok : exP.ok := ⟨by unfold Tm.formed; decide, by decide, by decide⟩
theorem exQ_ok : exQ.ok := ⟨by unfold Tm.formed; decide, by decide, by decide⟩
theorem exNo : mtc exP [] exQ = none := by
  simp only [exP, exQ, tF, tV, mtc, mtcs, Tm.vr, Tm.nm, Tm.ts]
  simp [imageOf, nX, kb]
end Go.Proofs.YtkglopdogakfoaaGreatDoor
