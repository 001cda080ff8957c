/- measure: the extent of what a name stands for, up to the limits. -/
import Derived.WalkKit
import Derived.ProofKit
import Derived.OpenShut
import Derived.Handy
import Derived.Lib.Hide
import Derived.Test.YtkglopdogakfoaaGreatDoorHcy
import Derived.Test.YtkglopdogakfoaaGreatDoorRes
namespace Go.Proofs.YtkglopdogakfoaaGreatDoor
open Go.RowKit Go.Maps

def extV (t : Tm) : Value := .agg #[.int .i64 (min 4001 t.size : Nat), .int .i64 (min 201 t.depth : Nat)]
structure MeI (GW : World → Prop) (sb m1 m2 mi : Nat) (p : Nat → Prop) (S : Sv) (rk : Key → Nat) (l : List (Key × Tm)) (W : World) : Prop where
  sv : SvIs GW sb m1 m2 p S W
  map : HMap extV W mi l
  keys : ∀ k ∈ l.map (·.1), k ∈ reps S
  vals : ∀ k t, getA l k = some t → t = res S rk k
  ne1 : mi ≠ m1
  ne2 : mi ≠ m2
section
variable {N : Nat} {GW : World → Prop} {sb m1 m2 mi : Nat} {p : Nat → Prop} {S : Sv} {rk : Key → Nat} {l : List (Key × Tm)} {A A' B : World}
theorem MeI.below (hg : ItoaOk N GW) (h : MeI GW sb m1 m2 mi p S rk l A) (hb : Below A.heap.size A B) : MeI GW sb m1 m2 mi p S rk l B :=
  ⟨h.sv.below hg hb, h.map.kept (hb.block mi h.map.lt), h.keys, h.vals, h.ne1, h.ne2⟩
theorem MeI.kpc (h : MeI GW sb m1 m2 mi p S rk l A) (hf : FrX (ocX m2 mi) A B) : KpC 0 A B :=
  hf.kpc (Nat.zero_le _) fun k hk => ⟨Nat.zero_le _, by rcases hk with rfl | rfl; exact h.sv.m2map; exact h.map.nocell⟩
theorem MeI.put (hg : ItoaOk N GW) {D : DataW Value} (h : MeI GW sb m1 m2 mi p S rk l A) (hA : A'.heap = A.heap) (hA2 : A'.os = A.os ∧ A'.tape = A.tape ∧ A'.output = A.output) (hi : HInv extV D l) {k : Key} (hk : k ∈ reps S) {t : Tm} (ht0 : t = res S rk k) {j : Nat} (ho : B.ownsMap Tryz.prog 9 imgR mi j (D.put (.string k) (.held (extV t)))) (ht : A'.mapTurned B mi) :
    MeI GW sb m1 m2 mi p S rk (putA l k t) B := by
  have hgr := ht.grown
  have hfr : FrX (· = mi) A B := ⟨hgr.os.trans hA2.1, hgr.tape.trans hA2.2.1, hgr.output.trans hA2.2.2, by have := hgr.size; rw [hA] at this; exact this, fun k hk hc => by have := hgr.block k (by rw [hA]; exact hk) (fun e => hc (by cases e; rfl)); rw [this, hA]⟩
  have hkp : KpC 0 A B := hfr.kpc (Nat.zero_le _) fun k hk => ⟨Nat.zero_le _, by subst hk; exact h.map.nocell⟩
  refine ⟨h.sv.kpc (hg.keep _ _ h.sv.gw hkp) hkp (hfr.block m1 h.sv.bnd.lt (Ne.symm h.ne1)) (hfr.block m2 h.sv.m2lt (Ne.symm h.ne2)), HMap.store hi ho, fun k' hk' => ?_, fun k' t' hg' => ?_, h.ne1, h.ne2⟩
  · rw [putA_keys, addKey_iff] at hk'
    rcases hk' with hk' | rfl
    · exact h.keys _ hk'
    · exact hk
  · rw [getA_put] at hg'
    by_cases e : k' = k
    · rw [if_pos e] at hg'; cases hg'; rw [e]; exact ht0
    · rw [if_neg e] at hg'; exact h.vals _ _ hg'
theorem MeI.len (h : MeI GW sb m1 m2 mi p S rk l A) (hb : S.bd.length ≤ 1048576) (he : S.eq.length ≤ 1048576) : l.length < maxLen := by
  have h1 := nodup_len h.map.nodup (K := reps S) h.keys
  have h2 := reps_len h.sv.ok
  rw [List.length_map] at h1
  unfold maxLen
  omega
end
abbrev zExt : Value := .agg #[.int .i64 0, .int .i64 0]
theorem zeroExt (w : World) : (zeroValue 173).run Tryz.prog w = .ok zExt w := Tryz.zeroValue173 w
/-- the extent of a node whose first arguments are measured -/
def extS (l : List Tm) : Int := (min 4001 (1 + Tm.sizes l) : Nat)
def extD (l : List Tm) : Int := (min 201 (1 + Tm.depths l) : Nat)
theorem extS_snoc (l : List Tm) (t : Tm) : extS (l ++ [t]) = min (extS l + (min 4001 t.size : Nat)) 4001 := by
  unfold extS; rw [Tm.sizes_append]; simp only [Tm.sizes]; omega
theorem extD_snoc (l : List Tm) (t : Tm) : extD (l ++ [t]) = max (extD l) (min (min 201 t.depth : Nat) 200 + 1) := by
  unfold extD; rw [Tm.depths_append]; simp only [Tm.depths]; omega
theorem extV_eq (nm : ByteArray) (v : Bool) (l : List Tm) : extV (.mk nm v l) = .agg #[.int .i64 (extS l), .int .i64 (extD l)] := by
  unfold extV extS extD
  rw [Tm.size_eq, Tm.depth_eq]; rfl
theorem extV_var (k : Key) : extV (vrk k) = .agg #[.int .i64 1, .int .i64 1] := by rw [show vrk k = .mk (kb k) true [] from rfl, extV_eq]; rfl
theorem ext_bound (l : List Tm) : 0 ≤ extS l ∧ extS l ≤ 4001 ∧ 0 ≤ extD l ∧ extD l ≤ 201 := by unfold extS extD; omega

theorem box2f {W : World} {b : Nat} {x y : Value} {e : TypeId} (h : W.heap[b]? = some (.cells #[x, y] e (0, 0))) : (W.cell? ⟨b, 0, none⟩ = some x ∧ W.cell? ⟨b, 1, none⟩ = some y) ∧ W.frozen? ⟨b, 0, none⟩ = false ∧ W.frozen? ⟨b, 1, none⟩ = false :=
  ⟨⟨cells_of' h 0, cells_of' h 1⟩, frozen_of' h _, frozen_of' h _⟩
theorem box2_set {W : World} {b : Nat} {x y : Value} {e : TypeId} (h : W.heap[b]? = some (.cells #[x, y] e (0, 0))) (x' y' : Value) : ((W.setCell ⟨b, 0, none⟩ x').setCell ⟨b, 1, none⟩ y').heap[b]? = some (.cells #[x', y'] e (0, 0)) := by
  have h1 := heap_setCell_same W b 0 _ _ x' h
  have h2 := heap_setCell_same (W.setCell ⟨b, 0, none⟩ x') b 1 _ _ y' h1
  simpa using h2
theorem below_set2 {B : Nat} {A W : World} (h : Below B A W) {b : Nat} (hb : B ≤ b) (x y : Value) : Below B A ((W.setCell ⟨b, 0, none⟩ x).setCell ⟨b, 1, none⟩ y) :=
  (h.setCell (p := ⟨b, 0, none⟩) hb _).setCell (p := ⟨b, 1, none⟩) hb _
theorem FrX.nextB {X : Nat → Prop} {A B C : World} (h : FrX X A B) (k : Below A.heap.size B C) : FrX X A C :=
  ⟨k.os.trans h.os, k.tape.trans h.tape, k.output.trans h.output, Nat.le_trans h.size k.size, fun i hi hc => (k.block i hi).trans (h.block i hi hc)⟩
/-- what lies in low blocks stays -/
theorem MeI.low {N : Nat} {GW : World → Prop} {sb m1 m2 mi : Nat} {p : Nat → Prop} {S : Sv} {rk : Key → Nat} {l l0 : List (Key × Tm)} {w A B : World} (hg : ItoaOk N GW) (hw : MeI GW sb m1 m2 mi p S rk l0 w) (hF : FrX (ocX m2 mi) w B) (h : MeI GW sb m1 m2 mi p S rk l A) (hp : ∀ b, p b → b < w.heap.size) (hb : Below w.heap.size A B) : MeI GW sb m1 m2 mi p S rk l B := by
  have hk := hw.kpc hF
  have hsb := (Array.getElem?_eq_some_iff.1 hw.sv.box).1
  exact ⟨h.sv.carry (hg.keep _ _ hw.sv.gw hk) (hb.block sb hsb) (hb.block m1 hw.sv.bnd.lt) (hb.block m2 hw.sv.m2lt) fun b h1 _ => ⟨hb.block b (hp b h1), h1⟩, h.map.kept (hb.block mi hw.map.lt), h.keys, h.vals, h.ne1, h.ne2⟩

set_option maxRecDepth 100000 in
set_option maxHeartbeats 8000000 in
theorem measure_any {N : Nat} {GW : World → Prop} (HG : Hid (ItoaOk N GW)) (sb m1 m2 mi : Nat) (S : Sv) (rk : Key → Nat) (ha : Acy S rk) (hbl : S.bd.length ≤ 1048576) (hel : S.eq.length ≤ 1048576) (n : Nat) :
    ∀ (p : Nat → Prop) (u : Key) (l : List (Key × Tm)) (w : World), rk (repE S.eq u) = n → u ∈ univ S → MeI GW sb m1 m2 mi p S rk l w →
    Calls Tryz.prog 145 #[.pointer (some ⟨sb, 0, none⟩), .string (kb u), .map (some mi)] w fun e w' => e = .returned (extV (res S rk u)) ∧ (∃ l', MeI GW sb m1 m2 mi p S rk l' w') ∧ FrX (ocX m2 mi) w w' := by
  induction n using Nat.strongRecOn with
  | ind n ih =>
    intro p u l w hrk hu hI0
    obtain ⟨P, hP⟩ : ∃ P : Nat → Prop, ∀ b, P b ↔ p b ∧ b < w.heap.size := ⟨_, fun b => Iff.rfl⟩
    have hI : MeI GW sb m1 m2 mi P S rk l w := ⟨hI0.sv.weak fun b h1 h2 => (hP b).2 ⟨h1, h2⟩, hI0.map, hI0.keys, hI0.vals, hI0.ne1, hI0.ne2⟩
    have hback : ∀ (l : List (Key × Tm)) (W : World), MeI GW sb m1 m2 mi P S rk l W → MeI GW sb m1 m2 mi p S rk l W := fun l W h => ⟨h.sv.weak fun b h1 _ => ((hP b).1 h1).1, h.map, h.keys, h.vals, h.ne1, h.ne2⟩
    have hlow : ∀ b, P b → b < w.heap.size := fun b h => ((hP b).1 h).2
    have HBACK := Lib.hid hback
    have HLOW := Lib.hid hlow
    clear hP hI0 hback hlow
    have hul : u.length ≤ 24 := univ_len hI.sv.ok hu
    have hrl : (repE S.eq u).length ≤ 1048576 := by have := repE_len hI.sv.ok hul; omega
    have hrr : repE S.eq u ∈ reps S := List.mem_map.2 ⟨u, hu, rfl⟩
    have hA : Below w.heap.size w (w.alloc (.cells #[.int .i64 0, .int .i64 0] 173)) := by go_grown
    have hIA := hI.below HG.out hA
    have HLAST := Lib.hid (last_any HG sb m1 m2 P S u _ hIA.sv (by omega) hel)
    have HIA := Lib.hid hIA
    have HI0 := Lib.hid hI
    have HA := Lib.hid hA
    have HKEY := Lib.hid (keyOf_kb hrl)
    have HRR := Lib.hid hrr
    have HFREE := Lib.hid hI.sv.free
    have HRES : Hid (res S rk u = res S rk (repE S.eq u)) := Lib.hid (res_rep hI.sv.free u).symm
    have HRK := Lib.hid hrk
    have hmb := hI.map.lt
    have hm2 := hI.sv.m2lt
    have hsb := (Array.getElem?_eq_some_iff.1 hI.sv.box).1
    have IH := Lib.hid ih
    have HACY := Lib.hid ha
    clear hA hIA hI hrk hrr ih ha hu
    have hfd : ∀ (x y z : Value) (w : World), (Instr.field 25 (.agg #[x, y, z]) 2).run Tryz.prog w = .ok z w := fun _ _ _ _ => by kernel_rfl
    go_enter Tryz.func145, Tryz.ntmps145
    go_wp2_with fail
    refine HLAST.out.mono ?_
    rintro e w1 ⟨rfl, hsv1, hf1⟩
    have hI1 : MeI GW sb m1 m2 mi P S rk l w1 := ⟨hsv1, HIA.out.map.kept (hf1.block mi HIA.out.map.lt HIA.out.ne2), HIA.out.keys, HIA.out.vals, HIA.out.ne1, HIA.out.ne2⟩
    have hq0 : w1.heap[w.heap.size]? = some (.cells #[.int .i64 0, .int .i64 0] 173 (0, 0)) := (hf1.block _ (by simp) (by omega)).trans (heap_new_at w (.cells #[.int .i64 0, .int .i64 0] 173) w.heap.size rfl)
    have HF1 : Hid (FrX (ocX m2 mi) w w1) := Lib.hid (FrX.trans (FrX.of_below HA.out) (hf1.mono fun k hk => .inl hk))
    have hz1 : w.heap.size < w1.heap.size := (Array.getElem?_eq_some_iff.1 hq0).1
    obtain ⟨⟨y0, y1⟩, g0, g1⟩ := box2f hq0
    have HQ0 := Lib.hid hq0
    have HI1 := Lib.hid hI1
    clear hsv1 hf1 hI1 HLAST hq0
    generalize hr : repE S.eq u = r at *
    cases hg : getA l r with
    | some t =>
      obtain ⟨D, hown, hhas, hat⟩ := HI1.out.map.at hg
      have HT : Hid (t = res S rk u) := Lib.hid ((HI1.out.vals _ _ hg).trans HRES.out.symm)
      have HOWN := Lib.hid hown
      have HHAS := Lib.hid hhas
      have HAT := Lib.hid hat
      clear hg hown hhas hat
      go_wp2_with (at_lookup; refine hlook_hit _ 170 173 zExt Tryz.underlying170 (zeroExt _) rfl _ _ rfl mi l.length D rfl HOWN.out _ _ rfl HKEY.out (extV t) HAT.out HHAS.out ?_; dsimp only [extV])
      have hq := (Below.heap_alloc ((w1.setCell ⟨w.heap.size, 0, none⟩ (.int .i64 (min 4001 t.size : Nat))).setCell ⟨w.heap.size, 1, none⟩ (.int .i64 (min 201 t.depth : Nat))) (.cells #[.int .i64 (min 4001 t.size : Nat), .int .i64 (min 201 t.depth : Nat)] 173) w.heap.size (by simp; omega)).trans (box2_set HQ0.out (.int .i64 (min 4001 t.size : Nat)) (.int .i64 (min 201 t.depth : Nat)))
      obtain ⟨⟨q0, q1⟩, -⟩ := box2f hq
      have hbF : Below w.heap.size w1 (((w1.setCell ⟨w.heap.size, 0, none⟩ (.int .i64 (min 4001 t.size : Nat))).setCell ⟨w.heap.size, 1, none⟩ (.int .i64 (min 201 t.depth : Nat))).alloc (.cells #[.int .i64 (min 4001 t.size : Nat), .int .i64 (min 201 t.depth : Nat)] 173)) := (below_set2 (Below.refl _ _) (Nat.le_refl _) _ _).alloc (by simp; omega) _
      have hFF := HF1.out.nextB hbF
      refine bodyPost_ret (v := extV t) (by simp [results, Tryz.f145, go_sem, q0, q1, extV]) rfl ?_
      exact ⟨by rw [HT.out], ⟨l, HBACK.out _ _ (MeI.low HG.out HI0.out hFF HI1.out HLOW.out hbF)⟩, hFF⟩
    | none =>
      have hB9 : Below w1.heap.size w1 ((w1.alloc (.cells #[.int .i64 0, .int .i64 0] 173)).alloc (.cells #[.int .i64 1, .int .i64 1] 173)) := by go_grown
      have hI9 := HI1.out.below HG.out hB9
      have h9 : ((w1.alloc (.cells #[.int .i64 0, .int .i64 0] 173)).alloc (.cells #[.int .i64 1, .int .i64 1] 173)).heap[w1.heap.size + 1]? = some (.cells #[.int .i64 1, .int .i64 1] 173 (0, 0)) := heap_new_at _ _ _ (by simp)
      obtain ⟨x0, -⟩ := box2 hI9.sv.box
      have HI9 := Lib.hid hI9
      have H9S := Lib.hid h9
      have HF9 : Hid (FrX (ocX m2 mi) w1 _) := Lib.hid (FrX.of_below hB9)
      obtain ⟨D, hown, hhas⟩ := HI1.out.map.no hg
      have HOWN := Lib.hid hown
      have HHAS := Lib.hid hhas
      clear hg hown hhas hB9 hI9 h9
      cases hgb : getA S.bd r with
      | some t =>
        obtain ⟨D4, s4, hown4, -, hat4, hs4⟩ := HI1.out.sv.bnd.at hgb
        obtain ⟨o4, k4, rfl⟩ := hs4.form
        have h8 : t.ts.length ≤ 1048576 := by have := (flat_kn HI1.out.sv.ok hgb).2.1.node.2; omega
        have hext : extV (res S rk r) = .agg #[.int .i64 (extS (t.ts.map fun v => res S rk v.nm.data.toList)), .int .i64 (extD (t.ts.map fun v => res S rk v.nm.data.toList))] := by
          rw [res_fun HACY.out HFREE.out (k := r) (t := t) (by rw [← hr, HFREE.out, hr]; exact hgb), extV_eq]
        have HEXT := Lib.hid hext
        have HGB := Lib.hid hgb
        have HOWN4 := Lib.hid hown4
        have HAT4 := Lib.hid hat4
        have HS4 := Lib.hid hs4
        have HKL : Hid ((t.ts.map fun v => res S rk v.nm.data.toList).length = t.ts.length) := Lib.hid (by simp)
        have HKAT : Hid (∀ (j : Nat) (v : Tm), t.ts[j]? = some v → (t.ts.map fun v => res S rk v.nm.data.toList).take (j + 1) = (t.ts.map fun v => res S rk v.nm.data.toList).take j ++ [res S rk v.nm.data.toList]) := Lib.hid (fun j v h => by rw [List.take_add_one, List.getElem?_map, h]; rfl)
        generalize (t.ts.map fun v => res S rk v.nm.data.toList) = K at HKL HKAT HEXT
        clear hown4 hat4 hs4 hext hgb
        go_wp2_with (first
          | (at_lookup; refine hlook_miss _ 170 173 zExt Tryz.underlying170 (zeroExt _) rfl (.tmp 17) (.tmp 18) rfl mi l.length D rfl HOWN.out (.string (kb r)) (.string r) rfl HKEY.out HHAS.out ?_)
          | (at_lookup; refine tlook_plain _ 147 Tryz.underlying147 rfl (.tmp 28) (.tmp 29) rfl m1 S.bd.length D4 rfl ((HOWN4.out.alloc _).alloc _) (.string (kb r)) (.string r) rfl HKEY.out (.agg #[.string t.nm, .bool t.vr, .slice o4 t.ts.length k4]) HAT4.out ?_))
        go_loopw [33] (fun i wr => ∃ (j : Nat) (lj : List (Key × Tm)), j ≤ t.ts.length ∧ i = .int .i64 j ∧ Hid (MeI GW sb m1 m2 mi P S rk lj wr) ∧ Hid (wr.heap[w1.heap.size + 1]? = some (.cells #[.int .i64 (extS (K.take j)), .int .i64 (extD (K.take j))] 173 (0, 0))) ∧ Hid (FrX (ocX m2 mi) w1 wr)) (fun i _ => t.ts.length - (intOf i).toNat)
        case atStart => exact ⟨0, l, by omega, rfl, HI9, Lib.hid (by rw [List.take_zero]; exact H9S.out), HF9⟩
        case round =>
          obtain ⟨j, lj, hj, rfl, HIJ, H9J, HFJ⟩ := hrel
          by_cases hlt : j < t.ts.length
          · have hkj : KpC 0 w1 wr := HI1.out.kpc HFJ.out
            obtain ⟨b1, p1, v, sv, rfl, hbb, hv, hvm, hvs, c1, c2, c3⟩ := ((HS4.out.kpc hkj).lt.toIs fun b hb => hb.2).get (k := j) hlt
            obtain ⟨ov, cv, rfl, -⟩ := hvs.form
            have hBA : Below wr.heap.size wr (wr.alloc (.cells #[.string v.nm, .bool v.vr, .slice ov v.ts.length cv] 25)) := by go_grown
            have hIA2 := HIJ.out.below HG.out hBA
            have hrv : rk (repE S.eq v.nm.data.toList) < n := by have := HACY.out r t HGB.out (by rw [← hr, HFREE.out]) v hvm; have := HRK.out; omega
            have hcall := IH.out _ hrv P v.nm.data.toList lj _ rfl (univ_arg HGB.out hvm) hIA2
            rw [kb_key] at hcall
            have HCALL := Lib.hid hcall
            have HBA := Lib.hid hBA
            have HV := Lib.hid (HKAT.out j v hv)
            have hz9 := (Array.getElem?_eq_some_iff.1 H9J.out).1
            have hzr := HFJ.out.size
            have hb9 := ext_bound (K.take j)
            clear hkj hv hvm hvs hBA hIA2 hrv hcall
            go_wp2_with fail
            refine HCALL.out.mono ?_
            rintro e w2 ⟨rfl, ⟨l2, hI2⟩, hf2⟩
            dsimp only [extV]
            have h92 := (hf2.block (w1.heap.size + 1) (by simp; omega) (by unfold ocX; omega)).trans ((HBA.out.block _ hz9).trans H9J.out)
            obtain ⟨⟨z0, z1⟩, f0, f1⟩ := box2f h92
            have HI2 := Lib.hid hI2
            have H92 := Lib.hid h92
            have HF2 := Lib.hid (HFJ.out.trans ((FrX.of_below (X := ocX m2 mi) HBA.out).trans hf2))
            have hz2 := (Array.getElem?_eq_some_iff.1 h92).1
            clear hI2 hf2 h92 HCALL
            generalize hts : (min 4001 (res S rk v.nm.data.toList).size : Nat) = ts
            generalize htd : (min 201 (res S rk v.nm.data.toList).depth : Nat) = td
            have hts1 : ts ≤ 4001 := by omega
            have htd1 : td ≤ 201 := by omega
            go_wp2_with fail
            have e1 : min (extS (K.take j) + (ts : Int)) 4001 = extS (K.take (j + 1)) := by rw [HV.out, extS_snoc, hts]
            have e2 : max (extD (K.take j)) (min (td : Int) 200 + 1) = extD (K.take (j + 1)) := by rw [HV.out, extD_snoc, htd]; omega
            rw [e1, e2]
            have hbB : Below w1.heap.size w2 (((w2.setCell ⟨w1.heap.size + 1, 0, none⟩ (.int .i64 (extS (K.take (j + 1))))).setCell ⟨w1.heap.size + 1, 1, none⟩ (.int .i64 (extD (K.take (j + 1))))).alloc (.cells #[.int .i64 ts, .int .i64 td] 173)) := (below_set2 (Below.refl _ _) (by omega) _ _).alloc (by simp; omega) _
            have hFB := HF2.out.nextB hbB
            exact ⟨⟨j + 1, l2, by omega, by go_num, Lib.hid (MeI.low HG.out HI1.out hFB HI2.out (fun b hb => by have := HLOW.out b hb; omega) hbB), Lib.hid ((Below.heap_alloc _ _ _ (by simp; omega)).trans (box2_set H92.out _ _)), Lib.hid hFB⟩, by simp [intOf]; omega⟩
          · obtain rfl : j = t.ts.length := by omega
            have H9 : Hid (wr.heap[w1.heap.size + 1]? = some (.cells #[.int .i64 (extS K), .int .i64 (extD K)] 173 (0, 0))) := Lib.hid (by have := H9J.out; rwa [← HKL.out, List.take_length] at this)
            have HIZ := HIJ
            have HFZ := HFJ
            have hzr := HFJ.out.size
            clear H9J HIJ HFJ x0
            have hl5 := HIZ.out.len hbl hel
            obtain ⟨D5, hown5, hinv5⟩ := id HIZ.out.map
            obtain ⟨⟨z0, z1⟩, f0, f1⟩ := box2f H9.out
            have HOWN5 := Lib.hid hown5
            have HINV5 := Lib.hid hinv5
            clear hown5 hinv5
            go_wp2_with (first
              | (at_mapUpdate
                 refine wpList_mapUpdate_in _ rfl (.tmp 58) (.tmp 59) (.tmp 60) 170 rfl 9 173 strKeyed Tryz.underlying170 imgR mi lj.length D5 rfl HOWN5.out hl5 (.string (kb r)) (.agg #[.int .i64 (extS K), .int .i64 (extD K)]) (.string r) rfl rfl HKEY.out (.held (.agg #[.int .i64 (extS K), .int .i64 (extD K)])) [] rfl ?_
                 intro w4 ho4 ht4
                 have hI4 := HIZ.out.put HG.out rfl ⟨rfl, rfl, rfl⟩ HINV5.out HRR.out (t := res S rk r) rfl (by rw [HEXT.out]; exact ho4) ht4
                 have hg4 : FrX (ocX m2 mi) _ w4 := FrX.grown ht4.grown (.inr rfl)
                 have hq6 := (hg4.block w.heap.size (by have := HFZ.out.size; omega) (by unfold ocX; omega)).trans ((HFZ.out.block w.heap.size hz1 (by unfold ocX; omega)).trans HQ0.out)
                 have hq9 := (hg4.block (w1.heap.size + 1) (by have := (Array.getElem?_eq_some_iff.1 H9.out).1; omega) (by unfold ocX; omega)).trans H9.out
                 obtain ⟨⟨y0, y1⟩, g0, g1⟩ := box2f hq6
                 obtain ⟨⟨z0, z1⟩, -⟩ := box2f hq9
                 have HI4 := Lib.hid hI4
                 have HQ6 := Lib.hid hq6
                 have HF4 := Lib.hid (HF1.out.trans (HFZ.out.trans hg4))
                 clear ho4 ht4 hI4 hq6 hq9 hg4))
            have hq := box2_set HQ6.out (.int .i64 (extS K)) (.int .i64 (extD K))
            obtain ⟨⟨q0, q1⟩, -⟩ := box2f hq
            have hbF : Below w.heap.size w4 ((w4.setCell ⟨w.heap.size, 0, none⟩ (.int .i64 (extS K))).setCell ⟨w.heap.size, 1, none⟩ (.int .i64 (extD K))) := below_set2 (Below.refl _ _) (Nat.le_refl _) _ _ |>.mono (by have := HF4.out.size; omega)
            have hFF := HF4.out.nextB hbF
            refine bodyPost_ret (v := .agg #[.int .i64 (extS K), .int .i64 (extD K)]) (by simp [results, Tryz.f145, go_sem, q0, q1]) rfl ?_
            exact ⟨by rw [HRES.out, HEXT.out], ⟨_, HBACK.out _ _ (MeI.low HG.out HI0.out hFF HI4.out HLOW.out hbF)⟩, hFF⟩
      | none =>
        have hext : extV (res S rk r) = .agg #[.int .i64 1, .int .i64 1] := by
          rw [res_var (k := r) (by rw [← hr, HFREE.out, hr]; exact hgb), extV_var]
        have HEXT := Lib.hid hext
        obtain ⟨D4, hown4, hhas4, -⟩ := HI1.out.sv.bnd.no hgb
        have HOWN4 := Lib.hid hown4
        have HHAS4 := Lib.hid hhas4
        clear hext hgb hown4 hhas4
        go_wp2_with (first
          | (at_lookup; refine hlook_miss _ 170 173 zExt Tryz.underlying170 (zeroExt _) rfl (.tmp 17) (.tmp 18) rfl mi l.length D rfl HOWN.out (.string (kb r)) (.string r) rfl HKEY.out HHAS.out ?_)
          | (at_lookup; refine tlook_none _ 147 Tryz.underlying147 rfl (.tmp 28) (.tmp 29) rfl m1 S.bd.length D4 rfl ((HOWN4.out.alloc _).alloc _) (.string (kb r)) (.string r) rfl HKEY.out HHAS4.out ?_))
        go_loopw [33] (fun i wr => i = .int .i64 0 ∧ Hid (MeI GW sb m1 m2 mi P S rk l wr) ∧ Hid (wr.heap[w1.heap.size + 1]? = some (.cells #[.int .i64 1, .int .i64 1] 173 (0, 0))) ∧ Hid (FrX (ocX m2 mi) w1 wr)) (fun i _ => 0)
        case atStart => exact ⟨rfl, HI9, H9S, HF9⟩
        case round =>
          obtain ⟨rfl, HIZ, H9, HFZ⟩ := hrel
          have hzr := HFZ.out.size
          clear x0
          have hl5 := HIZ.out.len hbl hel
          obtain ⟨D5, hown5, hinv5⟩ := id HIZ.out.map
          obtain ⟨⟨z0, z1⟩, f0, f1⟩ := box2f H9.out
          have HOWN5 := Lib.hid hown5
          have HINV5 := Lib.hid hinv5
          clear hown5 hinv5
          go_wp2_with (first
            | (at_mapUpdate
               refine wpList_mapUpdate_in _ rfl (.tmp 58) (.tmp 59) (.tmp 60) 170 rfl 9 173 strKeyed Tryz.underlying170 imgR mi l.length D5 rfl HOWN5.out hl5 (.string (kb r)) (.agg #[.int .i64 1, .int .i64 1]) (.string r) rfl rfl HKEY.out (.held (.agg #[.int .i64 1, .int .i64 1])) [] rfl ?_
               intro w4 ho4 ht4
               have hI4 := HIZ.out.put HG.out rfl ⟨rfl, rfl, rfl⟩ HINV5.out HRR.out (t := res S rk r) rfl (by rw [HEXT.out]; exact ho4) ht4
               have hg4 : FrX (ocX m2 mi) _ w4 := FrX.grown ht4.grown (.inr rfl)
               have hq6 := (hg4.block w.heap.size (by have := HFZ.out.size; omega) (by unfold ocX; omega)).trans ((HFZ.out.block w.heap.size hz1 (by unfold ocX; omega)).trans HQ0.out)
               have hq9 := (hg4.block (w1.heap.size + 1) (by have := (Array.getElem?_eq_some_iff.1 H9.out).1; omega) (by unfold ocX; omega)).trans H9.out
               obtain ⟨⟨y0, y1⟩, g0, g1⟩ := box2f hq6
               obtain ⟨⟨z0, z1⟩, -⟩ := box2f hq9
               have HI4 := Lib.hid hI4
               have HQ6 := Lib.hid hq6
               have HF4 := Lib.hid (HF1.out.trans (HFZ.out.trans hg4))
               clear ho4 ht4 hI4 hq6 hq9 hg4))
          have hq := box2_set HQ6.out (.int .i64 1) (.int .i64 1)
          obtain ⟨⟨q0, q1⟩, -⟩ := box2f hq
          have hbF : Below w.heap.size w4 ((w4.setCell ⟨w.heap.size, 0, none⟩ (.int .i64 1)).setCell ⟨w.heap.size, 1, none⟩ (.int .i64 1)) := below_set2 (Below.refl _ _) (Nat.le_refl _) _ _ |>.mono (by have := HF4.out.size; omega)
          have hFF := HF4.out.nextB hbF
          refine bodyPost_ret (v := .agg #[.int .i64 1, .int .i64 1]) (by simp [results, Tryz.f145, go_sem, q0, q1]) rfl ?_
          exact ⟨by rw [HRES.out, HEXT.out], ⟨_, HBACK.out _ _ (MeI.low HG.out HI0.out hFF HI4.out HLOW.out hbF)⟩, hFF⟩
end Go.Proofs.YtkglopdogakfoaaGreatDoor
