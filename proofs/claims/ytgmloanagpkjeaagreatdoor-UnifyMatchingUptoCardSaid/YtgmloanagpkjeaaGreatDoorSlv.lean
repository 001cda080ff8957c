/- The solver's 'join' and 'solve'. -/
import Derived.WalkKit
import Derived.ProofKit
import Derived.OpenShut
import Derived.Handy
import Derived.Lib.Hide
import Derived.Test.YtgmloanagpkjeaaGreatDoorKeep
namespace Go.Proofs.YtgmloanagpkjeaaGreatDoor
open Go.RowKit Go.Maps

/-- how 'solve' ends -/
def SolPost (GW : World → Prop) (sb m1 m2 n₀ : Nat) (p : Nat → Prop) (r : Bool) (S : Sv) (w : World) (e : Ending) (w' : World) : Prop :=
  e = .returned (.bool r) ∧ (r = true → SvIs GW sb m1 m2 (fun b => b < w.heap.size → p b) S w') ∧ KpC n₀ w w'
/-- 'solve' does what solveP n says -/
def HSol (N : Nat) (GW : World → Prop) (sb m1 m2 n₀ n : Nat) : Prop :=
  ∀ (p : Nat → Prop) (S : Sv) (a b : Tm) (sa sc : Value) (w : World) (r : Bool) (S' : Sv), solveP n S a b = some (r, S') → SvIs GW sb m1 m2 p S w → n₀ ≤ w.heap.size → SlIs w.heap.size w a.ts sa → SlIs w.heap.size w b.ts sc → a.kn S → b.kn S → a.bulk ≤ 1048576 → b.bulk ≤ 1048576 → S'.bd.length ≤ N → S'.eq.length ≤ 1048576 →
    Calls Tryz.prog 95 #[.pointer (some ⟨sb, 0, none⟩), tmv a sa, tmv b sc] w (SolPost GW sb m1 m2 n₀ p r S' w)
theorem flat_kn {S : Sv} (h : SvOk S) {k : Key} {t : Tm} (hk : getA S.bd k = some t) : t.vr = false ∧ t.kn S ∧ t.bulk ≤ 1048576 := by
  obtain ⟨h1, h2, ks, h3, h4, h5⟩ := h.flat k t (getA_some hk)
  refine ⟨h1, .mk t ⟨h2, by rw [h3, List.length_map]; exact h4⟩ (fun e => by rw [h1] at e; cases e) fun u hu => ?_, ?_⟩
  · rw [h3] at hu
    obtain ⟨a, ha, rfl⟩ := List.mem_map.1 hu
    refine .mk _ ⟨?_, by show 0 ≤ 8; omega⟩ (fun _ => h5 a ha) fun u hu => by cases hu
    have := (h5 a ha).1
    show a.toArray.size ≤ 24
    simpa using this
  · have hb : ∀ l : List Key, (∀ a ∈ l, Kn S a) → Tm.bulks (l.map vrk) ≤ 25 * l.length := by
      intro l
      induction l with
      | nil => intro _; simp [Tm.bulks]
      | cons a l ih =>
        intro hl
        have h6 := ih fun b hb => hl b (by simp [hb])
        have h7 := (hl a (by simp)).1
        have h8 : (vrk a).bulk = 1 + a.length := by show Tm.bulk (.mk (kb a) true []) = _; simp only [Tm.bulk, Tm.bulks]; show 1 + a.toArray.size + 0 = _; simp
        simp only [List.map_cons, Tm.bulks, List.length_cons]
        omega
    have := hb ks h5
    rw [Tm.bulk_eq, h3]
    omega

set_option maxRecDepth 100000 in
set_option maxHeartbeats 4000000 in
theorem join_any {N : Nat} {GW : World → Prop} (HG : Hid (ItoaOk N GW)) (sb m1 m2 n₀ : Nat) (hn2 : n₀ ≤ m2) (n : Nat) (HS : Hid (HSol N GW sb m1 m2 n₀ n)) (p : Nat → Prop) (S : Sv) (x y : Key) (w : World) (r : Bool) (S' : Sv) (h : joinP (solveP n) S x y = some (r, S')) (hS : SvIs GW sb m1 m2 p S w) (hn : n₀ ≤ w.heap.size)
    (hx : Kn S x) (hy : Kn S y) (hxe : x ∉ S.eq.map (·.1)) (hye : y ∉ S.eq.map (·.1)) (hne : x ≠ y) (hN : S'.bd.length ≤ N) (hM : S'.eq.length ≤ 1048576) :
    Calls Tryz.prog 150 #[.pointer (some ⟨sb, 0, none⟩), .string (kb x), .string (kb y)] w (SolPost GW sb m1 m2 n₀ p r S' w) := by
  have hbs := hS.box
  obtain ⟨y0, y1⟩ := box2 hbs
  have hsb := hS.sblt
  have HX := Lib.hid (keyOf_kb (k := x) (by have := hx.1; omega))
  have HY := Lib.hid (keyOf_kb (k := y) (by have := hy.1; omega))
  have hm1 := hS.bnd.lt
  have hm2 := hS.m2lt
  obtain ⟨E, hE, he⟩ := hS.eql
  obtain ⟨De, howne, hinve⟩ := hE
  have hEl : E.length ≤ S.eq.length := he.len hinve.nodup
  have HOWNE := Lib.hid howne
  have HINVE := Lib.hid hinve
  have HE := Lib.hid he
  have HSV := Lib.hid hS
  have HH := Lib.hid h
  have HXK := Lib.hid hx
  have HYK := Lib.hid hy
  have HXE := Lib.hid hxe
  have HYE := Lib.hid hye
  have HNE := Lib.hid hne
  have hz : sb < w.heap.size + 1 := by omega
  have k0 := cell_old w (.cells #[.string ⟨#[]⟩, .bool false, .slice none 0 0] 25) sb 0 hsb
  clear hbs howne hinve he h hx hy hxe hye hne
  cases hgx : getA S.bd x with
  | none =>
    obtain ⟨D1, hown1, hhas1, -⟩ := HSV.out.bnd.no hgx
    have HOWN1 := Lib.hid hown1
    have HHAS1 := Lib.hid hhas1
    have HR : Hid (r = true ∧ S' = ⟨S.bd, S.eq ++ [(x, y)]⟩) := Lib.hid (by
      have h := HH.out
      unfold joinP at h
      rw [hgx] at h
      simp only [Option.some.injEq, Prod.mk.injEq] at h
      exact ⟨h.1.symm, h.2.symm⟩)
    have hEb : E.length < maxLen := by have h := HR.out.2; rw [h] at hM; simp at hM; unfold maxLen; omega
    clear hgx hown1 hhas1
    have key : ∀ (w0 w3 : World) (D3 : DataW Unit), Below w.heap.size w w0 → w3.ownsMap Tryz.prog 9 (plainElem Tryz.prog 9) m2 (E.length + 1) (De.put (.string x) (.lit (.string y))) → w0.mapTurned w3 m2 → SolPost GW sb m1 m2 n₀ p r S' w (.returned (.bool true)) w3 := by
      intro w0 w3 D3 h0 ho ht
      have hg := ht.grown
      have hk : KpC n₀ w w3 := KpC.trans (KpC.of_below h0 hn) (KpC.turned ht hn2)
      rw [HR.out.1, HR.out.2]
      refine ⟨rfl, fun _ => ?_, hk⟩
      refine ⟨HG.out.keep _ _ HSV.out.gw (hk.mono (Nat.zero_le _)), hk.cells _ _ _ _ HSV.out.box, ?_, ⟨putA E x y, KMap.store HINVE.out ho, HE.out.join HXE.out HYE.out HNE.out⟩, HSV.out.ne, HSV.out.ok.join HXK.out HYK.out⟩
      exact HSV.out.bnd.map ((hg.block m1 (Nat.lt_of_lt_of_le hm1 h0.size) (fun e => by cases e; exact HSV.out.ne rfl)).trans (h0.block m1 hm1)) fun t s hs => (hs.kpc hk).carry fun b hb => ⟨rfl, fun _ => hb⟩
    have HKEY := Lib.hid key
    clear key
    cases hgy : getA S.bd y with
    | none =>
      obtain ⟨D2, hown2, hhas2, -⟩ := HSV.out.bnd.no hgy
      have HOWN2 := Lib.hid hown2
      have HHAS2 := Lib.hid hhas2
      clear hgy hown2 hhas2
      go_enter Tryz.func150, Tryz.ntmps150
      go_wp2_with (first
        | (at_lookup; first | (refine tlook_miss _ 124 Tryz.underlying124 rfl (.tmp 15) (.tmp 16) rfl m1 S.bd.length D1 rfl HOWN1.out (.string (kb x)) (.string x) rfl HX.out HHAS1.out ?_) | (refine tlook_miss _ 124 Tryz.underlying124 rfl (.tmp 24) (.tmp 25) rfl m1 S.bd.length D2 rfl (HOWN2.out.alloc _) (.string (kb y)) (.string y) rfl HY.out HHAS2.out ?_))
        | (at_mapUpdate
           refine wpList_mapUpdate_in _ rfl _ _ _ 131 rfl 9 9 strKeyed Tryz.underlying131 _ m2 E.length De rfl ((HOWNE.out.alloc _).alloc _) hEb _ _ _ rfl rfl HX.out (.lit (.string y)) [] (plainElem_string Tryz.underlying9 (by have := HYK.out.1; show y.toArray.size ≤ _; unfold maxLen; simp; omega)) ?_
           intro w3 hown4 hturn3
           have HO4 := Lib.hid hown4
           have HT3 := Lib.hid hturn3
           clear hown4 hturn3))
      go_ret
      exact HKEY.out _ w3 De (by go_grown) HO4.out HT3.out
    | some ty =>
      obtain ⟨D2, sy, hown2, hhas2, hat2, hsy⟩ := HSV.out.bnd.at hgy
      obtain ⟨o2, k2, rfl⟩ := hsy.form
      have HOWN2 := Lib.hid hown2
      have HHAS2 := Lib.hid hhas2
      have HAT2 := Lib.hid hat2
      have HSY := Lib.hid hsy
      clear hgy hown2 hhas2 hat2 hsy
      go_enter Tryz.func150, Tryz.ntmps150
      go_wp2_with (first
        | (at_lookup; first | (refine tlook_miss _ 124 Tryz.underlying124 rfl (.tmp 15) (.tmp 16) rfl m1 S.bd.length D1 rfl HOWN1.out (.string (kb x)) (.string x) rfl HX.out HHAS1.out ?_) | (refine tlook_hit _ 124 Tryz.underlying124 rfl (.tmp 24) (.tmp 25) rfl m1 S.bd.length D2 rfl (HOWN2.out.alloc _) (.string (kb y)) (.string y) rfl HY.out (.agg #[.string ty.nm, .bool ty.vr, .slice o2 ty.ts.length k2]) HAT2.out HHAS2.out ?_))
        | (at_mapUpdate
           refine wpList_mapUpdate_in _ rfl _ _ _ 131 rfl 9 9 strKeyed Tryz.underlying131 _ m2 E.length De rfl ((HOWNE.out.alloc _).alloc _) hEb _ _ _ rfl rfl HX.out (.lit (.string y)) [] (plainElem_string Tryz.underlying9 (by have := HYK.out.1; show y.toArray.size ≤ _; unfold maxLen; simp; omega)) ?_
           intro w3 hown4 hturn3
           have HO4 := Lib.hid hown4
           have HT3 := Lib.hid hturn3
           clear hown4 hturn3))
      go_ret
      exact HKEY.out _ w3 De (by go_grown) HO4.out HT3.out
  | some tx =>
    obtain ⟨D1, sx, hown1, hhas1, hat1, hsx⟩ := HSV.out.bnd.at hgx
    obtain ⟨o1, k1, rfl⟩ := hsx.form
    have HOWN1 := Lib.hid hown1
    have HHAS1 := Lib.hid hhas1
    have HAT1 := Lib.hid hat1
    have HSX := Lib.hid hsx
    clear hown1 hhas1 hat1 hsx
    cases hgy : getA S.bd y with
    | none =>
      obtain ⟨D2, hown2, hhas2, -⟩ := HSV.out.bnd.no hgy
      have HOWN2 := Lib.hid hown2
      have HHAS2 := Lib.hid hhas2
      have HR : Hid (r = true ∧ S' = ⟨S.bd, S.eq ++ [(y, x)]⟩) := Lib.hid (by
        have h := HH.out
        unfold joinP at h
        rw [hgx, hgy] at h
        simp only [Option.some.injEq, Prod.mk.injEq] at h
        exact ⟨h.1.symm, h.2.symm⟩)
      have hEb : E.length < maxLen := by have h := HR.out.2; rw [h] at hM; simp at hM; unfold maxLen; omega
      clear hgx hgy hown2 hhas2
      go_enter Tryz.func150, Tryz.ntmps150
      go_wp2_with (first
        | (at_lookup; first | (refine tlook_hit _ 124 Tryz.underlying124 rfl (.tmp 15) (.tmp 16) rfl m1 S.bd.length D1 rfl HOWN1.out (.string (kb x)) (.string x) rfl HX.out (.agg #[.string tx.nm, .bool tx.vr, .slice o1 tx.ts.length k1]) HAT1.out HHAS1.out ?_) | (refine tlook_miss _ 124 Tryz.underlying124 rfl (.tmp 24) (.tmp 25) rfl m1 S.bd.length D2 rfl (HOWN2.out.alloc _) (.string (kb y)) (.string y) rfl HY.out HHAS2.out ?_))
        | (at_mapUpdate
           refine wpList_mapUpdate_in _ rfl _ _ _ 131 rfl 9 9 strKeyed Tryz.underlying131 _ m2 E.length De rfl ((HOWNE.out.alloc _).alloc _) hEb _ _ _ rfl rfl HY.out (.lit (.string x)) [] (plainElem_string Tryz.underlying9 (by have := HXK.out.1; show x.toArray.size ≤ _; unfold maxLen; simp; omega)) ?_
           intro w3 hown4 hturn3
           have HO4 := Lib.hid hown4
           have HT3 := Lib.hid hturn3
           clear hown4 hturn3))
      go_ret
      have hg := HT3.out.grown
      have h0 : Below w.heap.size w ((w.alloc (.cells #[.string tx.nm, .bool tx.vr, .slice o1 tx.ts.length k1] 25)).alloc (.cells #[.string ⟨#[]⟩, .bool false, .slice none 0 0] 25)) := by go_grown
      have hk : KpC n₀ w w3 := KpC.trans (KpC.of_below h0 hn) (KpC.turned HT3.out hn2)
      rw [HR.out.1, HR.out.2]
      refine ⟨rfl, fun _ => ?_, hk⟩
      refine ⟨HG.out.keep _ _ HSV.out.gw (hk.mono (Nat.zero_le _)), hk.cells _ _ _ _ HSV.out.box, ?_, ⟨putA E y x, KMap.store HINVE.out HO4.out, HE.out.join HYE.out HXE.out (Ne.symm HNE.out)⟩, HSV.out.ne, HSV.out.ok.join HYK.out HXK.out⟩
      exact HSV.out.bnd.map ((hg.block m1 (Nat.lt_of_lt_of_le hm1 h0.size) (fun e => by cases e; exact HSV.out.ne rfl)).trans (h0.block m1 hm1)) fun t s hs => (hs.kpc hk).carry fun b hb => ⟨rfl, fun _ => hb⟩
    | some ty =>
      obtain ⟨D2, sy, hown2, hhas2, hat2, hsy⟩ := HSV.out.bnd.at hgy
      obtain ⟨o2, k2, rfl⟩ := hsy.form
      have HOWN2 := Lib.hid hown2
      have HHAS2 := Lib.hid hhas2
      have HAT2 := Lib.hid hat2
      have HSY := Lib.hid hsy
      have HR : Hid (solveP n ⟨S.bd, S.eq ++ [(x, y)]⟩ tx ty = some (r, S')) := Lib.hid (by
        have h := HH.out
        unfold joinP at h
        rw [hgx, hgy] at h
        exact h)
      have hEb : E.length < maxLen := by
        have h := (solveP_le n _ _ _ _ _ HR.out).2
        simp at h; unfold maxLen; omega
      obtain ⟨-, hkx, hbx⟩ := flat_kn HSV.out.ok hgx
      obtain ⟨-, hky, hby⟩ := flat_kn HSV.out.ok hgy
      have HKX : Hid (tx.kn ⟨S.bd, S.eq ++ [(x, y)]⟩) := Lib.hid (hkx.mono (Nat.le_refl _))
      have HKY : Hid (ty.kn ⟨S.bd, S.eq ++ [(x, y)]⟩) := Lib.hid (hky.mono (Nat.le_refl _))
      have HSOL : Hid (∀ w3 : World, w3.ownsMap Tryz.prog 9 (plainElem Tryz.prog 9) m2 (E.length + 1) (De.put (.string x) (.lit (.string y))) → ((w.alloc (.cells #[.string tx.nm, .bool tx.vr, .slice o1 tx.ts.length k1] 25)).alloc (.cells #[.string ty.nm, .bool ty.vr, .slice o2 ty.ts.length k2] 25)).mapTurned w3 m2 →
          KpC n₀ w w3 ∧ Calls Tryz.prog 95 #[.pointer (some ⟨sb, 0, none⟩), tmv tx (.slice o1 tx.ts.length k1), tmv ty (.slice o2 ty.ts.length k2)] w3 (SolPost GW sb m1 m2 n₀ p r S' w3)) := Lib.hid fun w3 ho ht => by
        have hg := ht.grown
        have h0 : Below w.heap.size w ((w.alloc (.cells #[.string tx.nm, .bool tx.vr, .slice o1 tx.ts.length k1] 25)).alloc (.cells #[.string ty.nm, .bool ty.vr, .slice o2 ty.ts.length k2] 25)) := by go_grown
        have hk : KpC n₀ w w3 := KpC.trans (KpC.of_below h0 hn) (KpC.turned ht hn2)
        have hsv : SvIs GW sb m1 m2 p ⟨S.bd, S.eq ++ [(x, y)]⟩ w3 := by
          refine ⟨HG.out.keep _ _ HSV.out.gw (hk.mono (Nat.zero_le _)), hk.cells _ _ _ _ HSV.out.box, ?_, ⟨putA E x y, KMap.store HINVE.out ho, HE.out.join HXE.out HYE.out HNE.out⟩, HSV.out.ne, HSV.out.ok.join HXK.out HYK.out⟩
          exact HSV.out.bnd.map ((hg.block m1 (Nat.lt_of_lt_of_le hm1 h0.size) (fun e => by cases e; exact HSV.out.ne rfl)).trans (h0.block m1 hm1)) fun t s hs => hs.kpc hk
        exact ⟨hk, HS.out p _ tx ty _ _ w3 r S' HR.out hsv (Nat.le_trans hn hk.size) ((HSX.out.kpc hk).lt.toIs fun b hb => hb.2) ((HSY.out.kpc hk).lt.toIs fun b hb => hb.2) HKX.out HKY.out hbx hby hN hM⟩
      clear hgx hgy hown2 hhas2 hat2 hsy hkx hky
      go_enter Tryz.func150, Tryz.ntmps150
      go_wp2_with (first
        | (at_lookup; first | (refine tlook_hit _ 124 Tryz.underlying124 rfl (.tmp 15) (.tmp 16) rfl m1 S.bd.length D1 rfl HOWN1.out (.string (kb x)) (.string x) rfl HX.out (.agg #[.string tx.nm, .bool tx.vr, .slice o1 tx.ts.length k1]) HAT1.out HHAS1.out ?_) | (refine tlook_hit _ 124 Tryz.underlying124 rfl (.tmp 24) (.tmp 25) rfl m1 S.bd.length D2 rfl (HOWN2.out.alloc _) (.string (kb y)) (.string y) rfl HY.out (.agg #[.string ty.nm, .bool ty.vr, .slice o2 ty.ts.length k2]) HAT2.out HHAS2.out ?_))
        | (at_mapUpdate
           refine wpList_mapUpdate_in _ rfl _ _ _ 131 rfl 9 9 strKeyed Tryz.underlying131 _ m2 E.length De rfl ((HOWNE.out.alloc _).alloc _) hEb _ _ _ rfl rfl HX.out (.lit (.string y)) [] (plainElem_string Tryz.underlying9 (by have := HYK.out.1; show y.toArray.size ≤ _; unfold maxLen; simp; omega)) ?_
           intro w3 hown4 hturn3
           have HO4 := Lib.hid hown4
           have HT3 := Lib.hid hturn3
           have q0 := (hturn3.grown.block w.heap.size (by simp; omega) (fun e => by simp at e; omega)).trans ((Below.heap_alloc _ _ _ (by simp)).trans (heap_new_at w (.cells #[.string tx.nm, .bool tx.vr, .slice o1 tx.ts.length k1] 25) _ rfl))
           have q1 := (hturn3.grown.block (w.heap.size + 1) (by simp) (fun e => by simp at e; omega)).trans (heap_new_at _ (.cells #[.string ty.nm, .bool ty.vr, .slice o2 ty.ts.length k2] 25) _ (by simp))
           obtain ⟨⟨r0, r1, r2⟩, -⟩ := box3 q0
           obtain ⟨⟨z0, z1, z2⟩, -⟩ := box3 q1
           clear q0 q1
           clear hown4 hturn3))
      obtain ⟨hk3, hsol⟩ := HSOL.out w3 HO4.out HT3.out
      have HK3 := Lib.hid hk3
      clear hk3
      refine hsol.mono ?_
      rintro e w5 ⟨rfl, h5, hk5⟩
      have H5 := Lib.hid h5
      have HK5 := Lib.hid hk5
      clear h5 hk5 hsol
      go_wp2_with fail
      go_ret
      exact ⟨rfl, fun h => (H5.out h).weak fun b hb _ hlt => hb (Nat.lt_of_lt_of_le hlt HK3.out.size), HK3.out.trans HK5.out⟩

theorem joinP_le {n : Nat} {S S' : Sv} {x y : Key} {r : Bool} (h : joinP (solveP n) S x y = some (r, S')) : S.le S' := by
  unfold joinP at h
  split at h
  · simp only [Option.some.injEq, Prod.mk.injEq] at h; rw [← h.2]; exact ⟨Nat.le_refl _, by simp⟩
  · simp only [Option.some.injEq, Prod.mk.injEq] at h; rw [← h.2]; exact ⟨Nat.le_refl _, by simp⟩
  · have h2 := solveP_le n _ _ _ _ _ h
    exact ⟨h2.1, by have := h2.2; simp at this; omega⟩
/-- what holds between the pairs -/
structure SolI (GW : World → Prop) (sb m1 m2 : Nat) (p : Nat → Prop) (w : World) (L R : List Tm) (S : Sv) (W : World) : Prop where
  sv : SvIs GW sb m1 m2 (fun b => b < w.heap.size → p b) S W
  size : w.heap.size ≤ W.heap.size
  l : ∀ u ∈ L, u.kn S
  r : ∀ u ∈ R, u.kn S

set_option maxRecDepth 100000 in
set_option maxHeartbeats 8000000 in
theorem solve_any {N : Nat} {GW : World → Prop} (HG : Hid (ItoaOk N GW)) (sb m1 m2 n₀ : Nat) (hn1 : n₀ ≤ m1) (hn2 : n₀ ≤ m2) (n : Nat) : HSol N GW sb m1 m2 n₀ n := by
  induction n with
  | zero => intro p S a b sa sc w r S' h; cases h
  | succ n ih =>
    intro p S a b sa sc w r S' h hS hn hsa hsc hka hkb hba hbb hN hM
    obtain ⟨oa, ca, rfl, -⟩ := hsa.form
    obtain ⟨ob, cb, rfl, -⟩ := hsc.form
    have IH := Lib.hid ih
    have HSV := Lib.hid hS
    have HSA := Lib.hid hsa
    have HSB := Lib.hid hsc
    have HKA := Lib.hid hka
    have HKB := Lib.hid hkb
    have hkids : ∀ u ∈ a.ts, u.bulk ≤ 1048576 := fun u hu => by have := Tm.bulk_mem hu; have := Tm.bulk_eq a; omega
    have hkidb : ∀ u ∈ b.ts, u.bulk ≤ 1048576 := fun u hu => by have := Tm.bulk_mem hu; have := Tm.bulk_eq b; omega
    have h8 := hka.node.2
    have hnn := HG.out.le
    rw [solveP] at h
    clear ih hS hsa hsc hka hkb
    by_cases hv : a.vr = false ∧ b.vr = false
    · rw [if_pos hv] at h
      obtain ⟨hva, hvb⟩ := hv
      by_cases hnm : a.nm = b.nm
      · have hbq := name_beq hnm
        by_cases hln : a.ts.length = b.ts.length
        · rw [if_pos ⟨hnm, hln⟩] at h
          have hE := bstep_eqf (N := N) (M := 1048576) (solveP_le n) a.ts S b.ts r S' h hN hM
          have HC : Hid (∀ u ∈ a.ts, ∀ v ∈ b.ts, ∀ (S1 : Sv) (su sv : Value) (W : World) (r1 : Bool) (S2 : Sv), bstep N 1048576 (solveP n) S1 u v = some (r1, S2) → SolI GW sb m1 m2 p w a.ts b.ts S1 W → n₀ ≤ W.heap.size → SlIs W.heap.size W u.ts su → SlIs W.heap.size W v.ts sv → Calls Tryz.prog 95 #[.pointer (some ⟨sb, 0, none⟩), tmv u su, tmv v sv] W (EqPost n₀ (SolI GW sb m1 m2 p w a.ts b.ts) r1 S2 W)) := Lib.hid fun u hu v hv S1 su sv W r1 S2 hst hI hnW hus hvs => by
            obtain ⟨h1, h2, h3⟩ := bstep_some hst
            have hle := solveP_le n _ _ _ _ _ h1
            refine (IH.out _ S1 u v su sv W r1 S2 h1 hI.sv hnW hus hvs (hI.l u hu) (hI.r v hv) (hkids u hu) (hkidb v hv) h2 h3).mono ?_
            rintro e W' ⟨rfl, hi, hk⟩
            exact ⟨rfl, fun hr => ⟨(hi hr).weak fun b hb _ hlt => hb (Nat.lt_of_lt_of_le hlt hI.size) hlt, Nat.le_trans hI.size hk.size, fun u hu => (hI.l u hu).mono hle.1, fun u hu => (hI.r u hu).mono hle.1⟩, hk⟩
          have hI0 : SolI GW sb m1 m2 p w a.ts b.ts S w := ⟨HSV.out.weak fun b hb _ _ => hb, Nat.le_refl _, HKA.out.kids, HKB.out.kids⟩
          have HEF := fun W (hW : Below w.heap.size w W) => Lib.hid (equalFunc_any 95 (.pointer (some ⟨sb, 0, none⟩)) Tryz.call95 n₀ (bstep N 1048576 (solveP n)) (SolI GW sb m1 m2 p w a.ts b.ts) (fun S A B h hb => ⟨h.sv.below HG.out hb, Nat.le_trans h.size hb.size, h.l, h.r⟩) a.ts b.ts HC oa ob ca cb S r S' W hln (by omega) (Nat.le_trans hn hW.size) (HSA.out.carry hW hW.size) (HSB.out.carry hW hW.size) hE
            ⟨hI0.sv.below HG.out hW, hW.size, hI0.l, hI0.r⟩)
          clear hnm hln hE hI0 h
          go_enter Tryz.func95, Tryz.ntmps95
          rw [show tmv a (.slice oa a.ts.length ca) = .agg #[.string a.nm, .bool a.vr, .slice oa a.ts.length ca] from rfl, hva, show tmv b (.slice ob b.ts.length cb) = .agg #[.string b.nm, .bool b.vr, .slice ob b.ts.length cb] from rfl, hvb]
          go_wp2_with fail
          refine (HEF _ (by go_grown)).out.mono ?_
          rintro e w3 ⟨rfl, hi3, hk3⟩
          have HI3 := Lib.hid hi3
          have HK3 := Lib.hid (KpC.trans (KpC.of_below (show Below w.heap.size w _ from by go_grown) hn) hk3)
          clear hi3 hk3
          go_wp2_with fail
          go_ret
          exact ⟨rfl, fun h => (HI3.out h).sv, HK3.out⟩
        · rw [if_neg (fun h => hln h.2)] at h
          have HRF : Hid (r = false) := Lib.hid (by simp only [Option.some.injEq, Prod.mk.injEq] at h; exact h.1.symm)
          have HEF := fun W => Lib.hid (equalFunc_not a.ts b.ts oa ob ca cb (.func (.func 95) #[.pointer (some ⟨sb, 0, none⟩)] #[]) W hln)
          clear hnm hln h
          go_enter Tryz.func95, Tryz.ntmps95
          rw [show tmv a (.slice oa a.ts.length ca) = .agg #[.string a.nm, .bool a.vr, .slice oa a.ts.length ca] from rfl, hva, show tmv b (.slice ob b.ts.length cb) = .agg #[.string b.nm, .bool b.vr, .slice ob b.ts.length cb] from rfl, hvb]
          go_wp2_with fail
          refine (HEF _).out.mono ?_
          rintro e w3 ⟨rfl, rfl⟩
          go_wp2_with fail
          go_ret
          rw [HRF.out]
          exact ⟨rfl, (fun h => by cases h), KpC.of_below (by go_grown) hn⟩
      · rw [if_neg (fun h => hnm h.1)] at h
        have hbq := name_bne hnm
        have HRF : Hid (r = false) := Lib.hid (by simp only [Option.some.injEq, Prod.mk.injEq] at h; exact h.1.symm)
        clear hnm h
        go_enter Tryz.func95, Tryz.ntmps95
        rw [show tmv a (.slice oa a.ts.length ca) = .agg #[.string a.nm, .bool a.vr, .slice oa a.ts.length ca] from rfl, hva, show tmv b (.slice ob b.ts.length cb) = .agg #[.string b.nm, .bool b.vr, .slice ob b.ts.length cb] from rfl, hvb]
        go_wp2_with fail
        go_ret
        rw [HRF.out]
        exact ⟨rfl, (fun h => by cases h), KpC.of_below (by go_grown) hn⟩
    · rw [if_neg hv] at h
      have hS2 : (keepP b (keepP a S).1).1.le S' := by
        split at h
        · simp only [Option.some.injEq, Prod.mk.injEq] at h; rw [← h.2]; exact Sv.le_refl _
        · exact joinP_le h
      have h12 := keepP_le b (keepP a S).1
      have h01 := keepP_le a S
      have hfree : ∀ u, repE S.eq u ∉ S.eq.map (·.1) := fun u => by obtain ⟨E, _, he⟩ := HSV.out.eql; exact he.free u
      have hN2 : (keepP b (keepP a S).1).1.bd.length ≤ N := Nat.le_trans hS2.1 hN
      have hN1 : (keepP a S).1.bd.length ≤ N := Nat.le_trans h12.1 hN2
      have hM0 : S.eq.length ≤ 1048576 := Nat.le_trans h01.2 (Nat.le_trans h12.2 (Nat.le_trans hS2.2 hM))
      have hM1 : (keepP a S).1.eq.length ≤ 1048576 := by rw [keepP_eq]; exact hM0
      obtain ⟨ok1, kx, fx, -⟩ := keepP_ok a S HSV.out.ok HKA.out hfree (Nat.le_trans hN1 hnn)
      obtain ⟨ok2, ky, fy, -⟩ := keepP_ok b (keepP a S).1 ok1 (HKB.out.mono h01.1) (by rw [keepP_eq]; exact hfree) (Nat.le_trans hN2 hnn)
      have HKX : Hid (Kn (keepP b (keepP a S).1).1 (keepP a S).2) := Lib.hid (kx.mono h12.1)
      have HKY := Lib.hid ky
      have HFX : Hid ((keepP a S).2 ∉ (keepP b (keepP a S).1).1.eq.map (·.1)) := Lib.hid (by rw [keepP_eq, keepP_eq]; exact fx)
      have HFY : Hid ((keepP b (keepP a S).1).2 ∉ (keepP b (keepP a S).1).1.eq.map (·.1)) := Lib.hid (by rw [keepP_eq]; exact fy)
      have HH := Lib.hid h
      have HKA1 := fun W (hW : Below w.heap.size w W) => Lib.hid (keep_any HG sb m1 m2 n₀ hn1 hn2 a p S (.slice oa a.ts.length ca) W (HSV.out.below HG.out hW) (Nat.le_trans hn hW.size) (HSA.out.carry hW hW.size) HKA.out hba hN1 hM0)
      have HKB1 := fun (q : Nat → Prop) W (hk : KpC n₀ w W) (hs : SvIs GW sb m1 m2 q (keepP a S).1 W) => Lib.hid (keep_any HG sb m1 m2 n₀ hn1 hn2 b q (keepP a S).1 (.slice ob b.ts.length cb) W hs (Nat.le_trans hn hk.size) (HSB.out.kp hk hk.size) (HKB.out.mono h01.1) hbb hN2 hM1)
      clear kx ky fx fy ok1 ok2 h hfree h01 h12 hS2
      generalize keepP b (keepP a S).1 = q2 at *
      generalize keepP a S = q1 at *
      obtain ⟨S1, x⟩ := q1
      obtain ⟨S2, y⟩ := q2
      have HWA : Hid (Below w.heap.size w ((w.alloc (.cells #[.string a.nm, .bool a.vr, .slice oa a.ts.length ca] 25)).alloc (.cells #[.string b.nm, .bool b.vr, .slice ob b.ts.length cb] 25))) := Lib.hid (by go_grown)
      have HJ := fun (q : Nat → Prop) W (hk : KpC n₀ w W) (hs : SvIs GW sb m1 m2 q S2 W) (hne : x ≠ y) (hj : joinP (solveP n) S2 x y = some (r, S')) => Lib.hid (join_any HG sb m1 m2 n₀ hn2 n IH q S2 x y W r S' hj hs (Nat.le_trans hn hk.size) HKX.out HKY.out HFX.out HFY.out hne hN hM)
      cases hva : a.vr
      all_goals cases hvb : b.vr
      all_goals first | (exfalso; exact hv ⟨hva, hvb⟩) | skip
      all_goals clear hv
      all_goals simp only [tmv, hva] at HKA1
      all_goals simp only [tmv, hvb] at HKB1
      all_goals go_enter Tryz.func95, Tryz.ntmps95
      all_goals rw [show tmv a (.slice oa a.ts.length ca) = .agg #[.string a.nm, .bool a.vr, .slice oa a.ts.length ca] from rfl, hva, show tmv b (.slice ob b.ts.length cb) = .agg #[.string b.nm, .bool b.vr, .slice ob b.ts.length cb] from rfl, hvb]
      all_goals simp only [hva, hvb] at HWA
      all_goals clear hva hvb
      all_goals go_wp2_with fail
      all_goals
        refine (HKA1 _ HWA.out).out.mono ?_
        rintro e w1 ⟨rfl, h1, hk1⟩
        have hbx := hk1.cells _ _ _ _ (heap_new_at (w.alloc (.cells #[.string a.nm, .bool _, .slice oa a.ts.length ca] 25)) (.cells #[.string b.nm, .bool _, .slice ob b.ts.length cb] 25) (w.heap.size + 1) (by simp))
        obtain ⟨⟨x0, x1, x2⟩, -⟩ := box3 hbx
        have H1 := Lib.hid h1
        have HK1 : Hid (KpC n₀ w w1) := Lib.hid (KpC.trans (KpC.of_below HWA.out hn) hk1)
        have HZ1 := Lib.hid hk1.size
        clear h1 hk1 hbx
        go_wp2_with fail
        refine (HKB1 _ _ HK1.out H1.out).out.mono ?_
        rintro e w2 ⟨rfl, h2, hk2⟩
        have H2 := Lib.hid h2
        have HK2 := Lib.hid (HK1.out.trans hk2)
        have HZ2 := Lib.hid hk2.size
        clear h2 hk2 x0 x1 x2
        by_cases hxy : x = y
        · have hbb := kb_beq_yes hxy
          have HR : Hid (r = true ∧ S' = S2) := Lib.hid (by
            have h := HH.out
            rw [if_pos hxy] at h
            simp only [Option.some.injEq, Prod.mk.injEq] at h
            exact ⟨h.1.symm, h.2.symm⟩)
          clear hxy
          go_wp2_with fail
          go_ret
          rw [HR.out.1, HR.out.2]
          refine ⟨rfl, fun _ => H2.out.weak fun b hb _ hlt => ?_, HK2.out⟩
          have hz1 := HK1.out.size
          exact hb (by omega) (by simp; omega)
        · have hbb := kb_beq_no hxy
          have hj : joinP (solveP n) S2 x y = some (r, S') := by
            have h := HH.out
            rwa [if_neg hxy] at h
          have HJ2 := HJ _ _ HK2.out H2.out hxy hj
          clear hxy hj
          go_wp2_with fail
          refine HJ2.out.mono ?_
          rintro e w3 ⟨rfl, h3, hk3⟩
          have H3 := Lib.hid h3
          have HK3 := Lib.hid (HK2.out.trans hk3)
          clear h3 hk3
          go_wp2_with fail
          go_ret
          refine ⟨rfl, fun h => (H3.out h).weak fun b hb _ hlt => ?_, HK3.out⟩
          have hz1 := HK1.out.size
          have hz2 := HK2.out.size
          exact hb (by omega) (by omega) (by simp; omega)
end Go.Proofs.YtgmloanagpkjeaaGreatDoor
