/- build: what a name stands for, in new memory. -/
import Derived.WalkKit
import Derived.ProofKit
import Derived.OpenShut
import Derived.Handy
import Derived.Lib.Hide
import Derived.Deep.RegionHeld3
import Derived.Test.YtkglopdogakfoaaGreatDoorFts
import Derived.Test.YtkglopdogakfoaaGreatDoorGo
namespace Go.Proofs.YtkglopdogakfoaaGreatDoor
open Go.RowKit Go.Maps

/-- k arguments being built -/
structure BuSt (GW : World → Prop) (sb m1 m2 : Nat) (P : Nat → Prop) (S : Sv) (w1 : World) (nm : ByteArray) (K : List Tm) (k : Nat) (W : World) (v : Value) (ch : List (Tm × Value)) : Prop where
  terms : ch.map (·.1) = K.take k
  row : W.ownsRow (w1.heap.size + 2) 25 3 v ch.length (stCells ch)
  kids : ∀ c ∈ ch, SlP (fun b => w1.heap.size + 2 ≤ b ∧ b < W.heap.size ∧ some b ≠ v.ownBlock) W c.1.ts c.2
  fr : FrX (· = m2) w1 W
  out : W.heap[w1.heap.size + 1]? = some (.cells #[.string nm, .bool false, v] 25 (0, 0))
  sv : SvIs GW sb m1 m2 P S W
theorem BuSt.step {N : Nat} {GW : World → Prop} (hG : ItoaOk N GW) {sb m1 m2 : Nat} {P : Nat → Prop} {S : Sv} {w1 W A W4 B W5 : World} {nm : ByteArray} {K : List Tm} {k : Nat} {v v5 s : Value} {ch : List (Tm × Value)} {x : Tm}
    (st : BuSt GW sb m1 m2 P S w1 nm K k W v ch) (hS1 : SvIs GW sb m1 m2 P S w1) (hP : ∀ b, P b → b < w1.heap.size) (hx : K[k]? = some x) (hA : Below W.heap.size W A)
    (h4 : SvIs GW sb m1 m2 P S W4) (hf4 : FrX (· = m2) A W4) (hs : SlP (fun b => A.heap.size ≤ b ∧ b < W4.heap.size) W4 x.ts s) (hB : Below W4.heap.size W4 B) (h5 : B.grownBy W5 v.ownBlock)
    (ho : W5.ownsRow (w1.heap.size + 2) 25 3 v5 (ch.length + 1) (stCells ch ++ [.string x.nm, .bool x.vr, s])) (hat : v5.ownBlock = v.ownBlock ∨ v5.ownBlock = some B.heap.size) :
    BuSt GW sb m1 m2 P S w1 nm K (k + 1) (W5.setCell ⟨w1.heap.size + 1, 2, none⟩ v5) v5 (ch ++ [(x, s)]) := by
  have zA := hA.size
  have z4 := hf4.size
  have zB := hB.size
  have z5 := h5.size
  have z1 := st.fr.size
  have zo := (Array.getElem?_eq_some_iff.1 st.out).1
  have zs : (W5.setCell ⟨w1.heap.size + 1, 2, none⟩ v5).heap.size = W5.heap.size := by simp [World.setCell]
  have zm1 := hS1.bnd.lt
  have zm2 := hS1.m2lt
  have zsb := hS1.sblt
  have own : ∀ j, v.ownBlock = some j → w1.heap.size + 2 ≤ j ∧ j < W.heap.size := fun j hj => st.row.lt j hj
  have late : ∀ b, b < W4.heap.size → b ≠ w1.heap.size + 1 → some b ≠ v.ownBlock → (W5.setCell ⟨w1.heap.size + 1, 2, none⟩ v5).heap[b]? = W4.heap[b]? := fun b hb h1 h2 => by
    rw [Below.heap_setCell _ _ _ _ h1]
    exact (h5.block b (by omega) h2).trans (hB.block b hb)
  have old : ∀ b, b < W.heap.size → b ≠ m2 → W4.heap[b]? = W.heap[b]? := fun b hb h => (hf4.block b (by omega) h).trans (hA.block b hb)
  have notown : ∀ b, b < w1.heap.size + 2 → some b ≠ v.ownBlock := fun b hb e => by have := (own b e.symm).1; omega
  have hfr : FrX (· = m2) w1 (W5.setCell ⟨w1.heap.size + 1, 2, none⟩ v5) :=
    ⟨h5.os.trans (hB.os.trans (hf4.os.trans (hA.os.trans st.fr.os))), h5.tape.trans (hB.tape.trans (hf4.tape.trans (hA.tape.trans st.fr.tape))), h5.output.trans (hB.output.trans (hf4.output.trans (hA.output.trans st.fr.output))), by rw [zs]; omega, fun b hb hc => (late b (by omega) (by omega) (notown b (by omega))).trans ((old b (by omega) hc).trans (st.fr.block b hb hc))⟩
  refine ⟨?_, ?_, ?_, hfr, ?_, ?_⟩
  · rw [List.map_append, st.terms, List.take_add_one, hx]; rfl
  · have hlt : (⟨w1.heap.size + 1, 2, none⟩ : Addr).block < w1.heap.size + 2 := Nat.lt_succ_self _
    rw [List.length_append, stCells_append]
    exact ownsRow_setCell_below ho hlt _
  · intro c hc
    rcases List.mem_append.1 hc with hc | hc
    · refine (st.kids c hc).carry fun b hb => ⟨(late b (by omega) (by omega) hb.2.2).trans (old b hb.2.1 (by omega)), hb.1, by rw [zs]; omega, ?_⟩
      rcases hat with e | e
      · rw [e]; exact hb.2.2
      · rw [e]; intro h; cases h; omega
    · obtain rfl := List.mem_singleton.1 hc
      have q3 : ∀ b, A.heap.size ≤ b → some b ≠ v.ownBlock := fun b hb e => by have := (own b e.symm).2; omega
      refine hs.carry fun b hb => ⟨late b hb.2 (by omega) (q3 b hb.1), by omega, by rw [zs]; omega, ?_⟩
      rcases hat with e | e
      · rw [e]; exact q3 b hb.1
      · rw [e]; intro h; cases h; omega
  · have hout4 := (old _ zo (by omega)).trans st.out
    have hout5 : W5.heap[w1.heap.size + 1]? = some (.cells #[.string nm, .bool false, v] 25 (0, 0)) := (h5.block _ (by omega) (notown _ (by omega))).trans ((hB.block _ (by omega)).trans hout4)
    have := set1 hout5 2 v5
    simpa using this
  · have hkp : KpC 0 w1 (W5.setCell ⟨w1.heap.size + 1, 2, none⟩ v5) := hfr.kpc (Nat.zero_le _) fun k hk => ⟨Nat.zero_le _, by subst hk; exact hS1.m2map⟩
    exact h4.carry (hG.keep _ _ hS1.gw hkp) (late sb (by omega) (by omega) (notown sb (by omega))) (late m1 (by omega) (by omega) (notown m1 (by omega))) (late m2 (by omega) (by omega) (notown m2 (by omega))) fun b hb hlt => ⟨late b hlt (by have := hP b hb; omega) (notown b (by have := hP b hb; omega)), hb⟩
/-- what lies in low blocks stays -/
theorem SvIs.low {N : Nat} {GW : World → Prop} {sb m1 m2 : Nat} {p : Nat → Prop} {S : Sv} {w A B : World} (hg : ItoaOk N GW) (hw : SvIs GW sb m1 m2 p S w) (hF : FrX (· = m2) w B) (h : SvIs GW sb m1 m2 p S A) (hp : ∀ b, p b → b < w.heap.size) (hb : Below w.heap.size A B) : SvIs GW sb m1 m2 p S B := by
  have hk : KpC 0 w B := hF.kpc (Nat.zero_le _) fun k hk => ⟨Nat.zero_le _, by subst hk; exact hw.m2map⟩
  exact h.carry (hg.keep _ _ hw.gw hk) (hb.block sb hw.sblt) (hb.block m1 hw.bnd.lt) (hb.block m2 hw.m2lt) fun b h1 _ => ⟨hb.block b (hp b h1), h1⟩

set_option maxRecDepth 100000 in
set_option maxHeartbeats 8000000 in
theorem build_any {N : Nat} {GW : World → Prop} (HG : Hid (ItoaOk N GW)) (sb m1 m2 : Nat) (S : Sv) (rk : Key → Nat) (ha : Acy S rk) (hel : S.eq.length ≤ 1048576) (n : Nat) :
    ∀ (p : Nat → Prop) (u : Key) (w : World), rk (repE S.eq u) = n → u ∈ univ S → SvIs GW sb m1 m2 p S w →
    Calls Tryz.prog 146 #[.pointer (some ⟨sb, 0, none⟩), .string (kb u)] w fun e w' => (∃ sl, e = .returned (tmv (res S rk u) sl) ∧ SlP (fun b => w.heap.size ≤ b ∧ b < w'.heap.size) w' (res S rk u).ts sl) ∧ SvIs GW sb m1 m2 p S w' ∧ FrX (· = m2) w w' := by
  induction n using Nat.strongRecOn with
  | ind n ih =>
    intro p u w hrk hu hS0
    obtain ⟨P, hP⟩ : ∃ P : Nat → Prop, ∀ b, P b ↔ p b ∧ b < w.heap.size := ⟨_, fun b => Iff.rfl⟩
    have hS : SvIs GW sb m1 m2 P S w := hS0.weak fun b h1 h2 => (hP b).2 ⟨h1, h2⟩
    have HBACK : Hid (∀ (W : World), SvIs GW sb m1 m2 P S W → SvIs GW sb m1 m2 p S W) := Lib.hid fun W h => h.weak fun b h1 _ => ((hP b).1 h1).1
    have HLOW : Hid (∀ b, P b → b < w.heap.size) := Lib.hid fun b h => ((hP b).1 h).2
    clear hP hS0
    obtain ⟨i0, hi, hz, hs1, hb1⟩ := info_parts infoTerm
    have HI := Lib.hid hi
    have HZ := Lib.hid hz
    have HS1 := Lib.hid hs1
    have HB1 := Lib.hid hb1
    have hul : u.length ≤ 24 := univ_len hS.ok hu
    have hrl : (repE S.eq u).length ≤ 1048576 := by have := repE_len hS.ok hul; omega
    have hA : Below w.heap.size w (w.alloc (.cells #[.string ⟨#[]⟩, .bool false, .slice none 0 0] 25)) := by go_grown
    have hSA := hS.below HG.out hA
    have HLAST := Lib.hid (last_any HG sb m1 m2 P S u _ hSA (by omega) hel)
    have HS0 := Lib.hid hS
    have HA := Lib.hid hA
    have HKEY := Lib.hid (keyOf_kb hrl)
    have HFREE := Lib.hid hS.free
    have HRES : Hid (res S rk u = res S rk (repE S.eq u)) := Lib.hid (res_rep hS.free u).symm
    have HRK := Lib.hid hrk
    have hm2 := hS.m2lt
    have hm1 := hS.bnd.lt
    have hsb := hS.sblt
    have IH := Lib.hid ih
    have HACY := Lib.hid ha
    clear hA hSA hS hrk ih ha hu hi hz hs1 hb1
    go_enter Tryz.func146, Tryz.ntmps146
    go_wp2_with fail
    refine HLAST.out.mono ?_
    rintro e w1 ⟨rfl, hsv1, hf1⟩
    have hq0 : w1.heap[w.heap.size]? = some (.cells #[.string ⟨#[]⟩, .bool false, .slice none 0 0] 25 (0, 0)) := (hf1.block _ (by simp) (by omega)).trans (heap_new_at w (.cells #[.string ⟨#[]⟩, .bool false, .slice none 0 0] 25) w.heap.size rfl)
    have HF1 : Hid (FrX (· = m2) w w1) := Lib.hid (FrX.trans (FrX.of_below HA.out) hf1)
    have hz1 : w.heap.size < w1.heap.size := (Array.getElem?_eq_some_iff.1 hq0).1
    obtain ⟨⟨y0, y1, y2⟩, g0, g1, g2⟩ := box3 hq0
    obtain ⟨x0, -⟩ := box2 hsv1.box
    have HQ0 := Lib.hid hq0
    have HSV1 := Lib.hid hsv1
    clear hsv1 hf1 HLAST hq0
    generalize hr : repE S.eq u = r at *
    cases hgb : getA S.bd r with
    | none =>
      have HT : Hid (res S rk u = vrk r) := Lib.hid (by rw [res_var (k := u) (by rw [hr]; exact hgb), hr])
      obtain ⟨D4, hown4, hhas4, -⟩ := HSV1.out.bnd.no hgb
      have HOWN4 := Lib.hid hown4
      have HHAS4 := Lib.hid hhas4
      clear hgb hown4 hhas4
      go_wp2_with (at_lookup; refine tlook_miss _ 147 Tryz.underlying147 rfl (.tmp 17) (.tmp 18) rfl m1 S.bd.length D4 rfl HOWN4.out (.string (kb r)) (.string r) rfl HKEY.out HHAS4.out ?_)
      refine (uvariable_any (kb r) _).mono ?_
      rintro e w2 ⟨rfl, hb2⟩
      have hq2 := (hb2.block w.heap.size (by simp; omega)).trans ((Below.heap_alloc w1 (.cells #[.string ⟨#[]⟩, .bool false, .slice none 0 0] 25) w.heap.size hz1).trans HQ0.out)
      obtain ⟨⟨y0, y1, y2⟩, g0, g1, g2⟩ := box3 hq2
      have HQ2 := Lib.hid hq2
      have HB2 : Hid (Below w1.heap.size w1 w2) := Lib.hid (Below.trans (by go_grown) (hb2.mono (by simp)))
      clear hb2 hq2 x0
      go_wp2_with fail
      have hq := box3_set HQ2.out (.string (kb r)) (.bool true) (.slice none 0 0)
      obtain ⟨⟨q0, q1, q2⟩, -⟩ := box3 hq
      have hbF := below_set3 (HB2.out.mono (Nat.le_of_lt hz1)) (b := w.heap.size) (Nat.le_refl _) (.string (kb r)) (.bool true) (.slice none 0 0)
      have hFF := HF1.out.nextB hbF
      refine bodyPost_ret (v := .agg #[.string (kb r), .bool true, .slice none 0 0]) (by simp [results, Tryz.f146, go_sem, q0, q1, q2]) rfl ?_
      rw [HT.out]
      exact ⟨⟨_, rfl, .nil0⟩, HBACK.out _ (SvIs.low HG.out HS0.out hFF HSV1.out HLOW.out hbF), hFF⟩
    | some t =>
      obtain ⟨D4, s4, hown4, hhas4, hat4, hs4⟩ := HSV1.out.bnd.at hgb
      obtain ⟨o4, k4, rfl⟩ := hs4.form
      have h8 : t.ts.length ≤ 1048576 := by have := (flat_kn HSV1.out.ok hgb).2.1.node.2; omega
      have HT := Lib.hid (res_fun HACY.out HFREE.out (k := u) (t := t) (by rw [hr]; exact hgb))
      have HGB := Lib.hid hgb
      have HOWN4 := Lib.hid hown4
      have HHAS4 := Lib.hid hhas4
      have HAT4 := Lib.hid hat4
      have HS4 := Lib.hid hs4
      have HKL : Hid ((t.ts.map fun v => res S rk v.nm.data.toList).length = t.ts.length) := Lib.hid (by simp)
      have HKAT : Hid (∀ (j : Nat) (v : Tm), t.ts[j]? = some v → (t.ts.map fun v => res S rk v.nm.data.toList)[j]? = some (res S rk v.nm.data.toList)) := Lib.hid (fun j v h => by rw [List.getElem?_map, h]; rfl)
      have HPL : Hid (∀ b, P b → b < w1.heap.size) := Lib.hid fun b h => Nat.lt_trans (HLOW.out b h) hz1
      generalize (t.ts.map fun v => res S rk v.nm.data.toList) = K at HKL HKAT HT
      clear hown4 hhas4 hat4 hs4 hgb
      go_wp2_with (at_lookup; refine tlook_hit _ 147 Tryz.underlying147 rfl (.tmp 17) (.tmp 18) rfl m1 S.bd.length D4 rfl HOWN4.out (.string (kb r)) (.string r) rfl HKEY.out (.agg #[.string t.nm, .bool t.vr, .slice o4 t.ts.length k4]) HAT4.out HHAS4.out ?_)
      have hb0 : Below w1.heap.size w1 ((w1.alloc (.cells #[.string t.nm, .bool t.vr, .slice o4 t.ts.length k4] 25)).alloc (.cells #[.string t.nm, .bool false, .slice none 0 0] 25)) := by go_grown
      have HST0 : Hid (BuSt GW sb m1 m2 P S w1 t.nm K 0 ((w1.alloc (.cells #[.string t.nm, .bool t.vr, .slice o4 t.ts.length k4] 25)).alloc (.cells #[.string t.nm, .bool false, .slice none 0 0] 25)) (.slice none 0 0) []) := Lib.hid ⟨by simp, World.ownsRow_nil _ _ _ _, by simp, FrX.of_below hb0, heap_new_at _ _ _ (by simp), HSV1.out.below HG.out hb0⟩
      clear hb0
      go_loopw [32] (fun i wr => ∃ (k : Nat) (v : Value) (ch : List (Tm × Value)), k ≤ t.ts.length ∧ i = .int .i64 k ∧ Hid (BuSt GW sb m1 m2 P S w1 t.nm K k wr v ch)) (fun i _ => t.ts.length - (intOf i).toNat)
      case atStart => exact ⟨0, _, _, by omega, rfl, HST0⟩
      case round =>
        obtain ⟨k, v, ch, hk, rfl, HST⟩ := hrel
        have hst := HST.out
        have hzo := (Array.getElem?_eq_some_iff.1 hst.out).1
        have HCHL : Hid (ch.length = k) := Lib.hid (by have := congrArg List.length hst.terms; have := HKL.out; simp at *; omega)
        by_cases hlt : k < t.ts.length
        · have hkp : KpC 0 w1 wr := hst.fr.kpc (Nat.zero_le _) fun k hk => ⟨Nat.zero_le _, by subst hk; exact HSV1.out.m2map⟩
          obtain ⟨b, o, y, su, rfl, hbb, hy, hym, hys, c1, c2, c3⟩ := ((HS4.out.kpc hkp).lt.toIs fun b hb => hb.2).get (k := k) hlt
          obtain ⟨ou, cu, rfl, -⟩ := hys.form
          obtain ⟨ov, cv, rfl⟩ := ownsRow_shape hst.row
          have HLOWA : Hid (Below wr.heap.size wr (wr.alloc (.cells #[.string y.nm, .bool y.vr, .slice ou y.ts.length cu] 25)).drew) := Lib.hid (by go_grown)
          have hout := (Below.heap_alloc wr (.cells #[.string y.nm, .bool y.vr, .slice ou y.ts.length cu] 25) (w1.heap.size + 1) (by omega)).trans hst.out
          obtain ⟨⟨x0, x1, x2⟩, f0, f1, f2⟩ := box3 hout
          have hown : ∀ j, (Value.slice ov ch.length cv).ownBlock = some j → w1.heap.size + 2 ≤ j ∧ j < wr.heap.size := fun j hj => hst.row.lt j hj
          have HOWN := Lib.hid hown
          have HOUT := Lib.hid hout
          have HU := Lib.hid (HKAT.out k y hy)
          have hrv : rk (repE S.eq y.nm.data.toList) < n := by have := HACY.out r t HGB.out (by rw [← hr, HFREE.out]) y hym; have := HRK.out; omega
          have hyu := univ_arg HGB.out hym
          have IHu : ∀ W1, Below wr.heap.size wr W1 → Hid (Calls Tryz.prog 146 #[.pointer (some ⟨sb, 0, none⟩), .string y.nm] W1 fun e w' => (∃ sl, e = .returned (tmv (res S rk y.nm.data.toList) sl) ∧ SlP (fun b => W1.heap.size ≤ b ∧ b < w'.heap.size) w' (res S rk y.nm.data.toList).ts sl) ∧ SvIs GW sb m1 m2 P S w' ∧ FrX (· = m2) W1 w') := fun W1 hW => Lib.hid (by
            have h := IH.out _ hrv P y.nm.data.toList W1 rfl hyu (HST.out.sv.below HG.out hW)
            rwa [kb_key] at h)
          have HROW := Lib.hid hst.row
          have hz1r := hst.fr.size
          clear hst hy hym hys hown hout hrv hyu hkp
          generalize hx : res S rk y.nm.data.toList = x at HU IHu
          clear hx
          go_wp2_with fail
          have hxA := (box3 HOUT.out).1.2.2
          have HYA := Lib.hid (box3 (heap_new_at wr (.cells #[.string y.nm, .bool y.vr, .slice ou y.ts.length cu] 25) _ rfl)).1
          refine wp_region_noPanic ?_
          refine wp_region_held_drew (S := fun w' => w'.cell? ⟨wr.heap.size, 0, none⟩ = some (.string y.nm) ∧ w'.cell? ⟨wr.heap.size, 1, none⟩ = some (.bool y.vr) ∧ w'.cell? ⟨wr.heap.size, 2, none⟩ = some (.slice ou y.ts.length cu)) (by kernel_rfl) HYA.out (fun _ => ?_)
          simp only [List.size_toArray, List.length_cons, List.length_nil, Nat.reduceAdd]
          refine wpAnyH_take (i := 0) (v := ?_) (by simp only [List.getElem?_toArray, List.getElem?_cons_zero]; rfl) (by kernel_rfl) (by kernel_rfl) (by kernel_rfl) (fun _ _ _ h => h) (Or.inl ⟨by rfl, ?_⟩) HYA.out ?_
          case refine_2 => (intro ww hSw; obtain ⟨s1, s2, s3⟩ := hSw; go_simp; try with_reducible rfl)
          try simp only [Act.put, List.setIfInBounds_toArray, List.set_cons_zero, List.set_cons_succ]
          refine wpAnyH_take (i := 2) (v := ?_) (by simp only [List.getElem?_toArray, List.getElem?_cons_zero, List.getElem?_cons_succ]; rfl) (by kernel_rfl) (by kernel_rfl) (by kernel_rfl) (fun _ _ _ h => h) (Or.inl ⟨by rfl, ?_⟩) HYA.out ?_
          case refine_2 => (intro ww hSw; obtain ⟨s1, s2, s3⟩ := hSw; go_simp; try with_reducible rfl)
          try simp only [Act.put, List.setIfInBounds_toArray, List.set_cons_zero, List.set_cons_succ]
          refine wpAnyH_take (i := 3) (v := ?_) (by simp only [List.getElem?_toArray, List.getElem?_cons_zero, List.getElem?_cons_succ]; rfl) (by kernel_rfl) (by kernel_rfl) (by kernel_rfl) (fun _ _ _ h => h) (Or.inl ⟨by rfl, ?_⟩) HYA.out ?_
          case refine_2 => (intro ww hSw; obtain ⟨s1, s2, s3⟩ := hSw; go_simp; try with_reducible rfl)
          try simp only [Act.put, List.setIfInBounds_toArray, List.set_cons_zero, List.set_cons_succ]
          refine wpAnyH_take (i := 4) (v := ?_) (by simp only [List.getElem?_toArray, List.getElem?_cons_zero, List.getElem?_cons_succ]; rfl) (by kernel_rfl) (by kernel_rfl) (by kernel_rfl) (fun _ _ _ h => h) (Or.inl ⟨by rfl, ?_⟩) HYA.out ?_
          case refine_2 => (intro ww hSw; obtain ⟨s1, s2, s3⟩ := hSw; go_simp; try with_reducible rfl)
          try simp only [Act.put, List.setIfInBounds_toArray, List.set_cons_zero, List.set_cons_succ]
          refine wpAnyH_ready (rs := [1, 5]) (by kernel_rfl) (by simp) ?_
          refine AllReadyH.cons (by simp only [List.getElem?_toArray, List.getElem?_cons_zero, List.getElem?_cons_succ]; rfl) (fun K' hK => ?_) ?_
          · go_simp
            refine hK.out _ _ HYA.out (fun _ => ?_)
            clear hK
            try simp only [Act.put, List.setIfInBounds_toArray, List.set_cons_zero, List.set_cons_succ]
            refine wpAnyH_ready (rs := [5]) (by kernel_rfl) (by simp) ?_
            refine AllReadyH.cons (by simp only [List.getElem?_toArray, List.getElem?_cons_zero, List.getElem?_cons_succ]; rfl) (fun K' hK => ?_) AllReadyH.nil
            go_simp
            refine (IHu _ HLOWA.out).out.mono ?_
            rintro e w4 ⟨⟨sl4, rfl, hsl4⟩, hsv4, hf4⟩
            obtain ⟨o4', c4', rfl⟩ := hsl4.form
            dsimp only [tmv]
            have hout4 := (hf4.block (w1.heap.size + 1) (by simp; omega) (by omega)).trans HOUT.out
            have hbx4 := (hf4.block wr.heap.size (by simp) (by omega)).trans (heap_new_at wr (.cells #[.string y.nm, .bool y.vr, .slice ou y.ts.length cu] 25) _ rfl)
            obtain ⟨⟨x0, x1, x2⟩, f0, f1, f2⟩ := box3 hout4
            have HY4 := Lib.hid (box3 hbx4).1
            have HSL4 := Lib.hid hsl4
            have HSV4 := Lib.hid hsv4
            have HF4 := Lib.hid hf4
            have HK4 : Hid (KpC 0 _ w4) := Lib.hid (hf4.kpc (Nat.zero_le _) fun k hk => ⟨Nat.zero_le _, by subst hk; exact (HST.out.sv.below HG.out HLOWA.out).m2map⟩)
            have HOUT4 := Lib.hid hout4
            have HBX4 := Lib.hid hbx4
            have HZ4 := Lib.hid (show wr.heap.size < w4.heap.size from (Array.getElem?_eq_some_iff.1 hbx4).1)
            clear hsl4 hsv4 hf4 hout4 hbx4
            refine hK.out _ _ HY4.out (fun _ => ?_)
            clear hK
            try simp only [Act.put, List.setIfInBounds_toArray, List.set_cons_zero, List.set_cons_succ]
            refine wpAnyH_ready (rs := [6]) (by kernel_rfl) (by simp) ?_
            refine AllReadyH.cons (by simp only [List.getElem?_toArray, List.getElem?_cons_zero, List.getElem?_cons_succ]; rfl) (fun K' hK => ?_) AllReadyH.nil
            go_simp
            have hy5 := (box3 ((Below.heap_alloc w4 (.cells #[.string x.nm, .bool x.vr, .slice o4' x.ts.length c4'] 25) _ HZ4.out).trans HBX4.out)).1
            have hx5 := (box3 ((Below.heap_alloc w4 (.cells #[.string x.nm, .bool x.vr, .slice o4' x.ts.length c4'] 25) (w1.heap.size + 1) (by have := HZ4.out; omega)).trans HOUT4.out)).1.2.2
            have HY5 := Lib.hid hy5
            clear hy5
            refine hK.out _ _ HY5.out (fun _ => ?_)
            clear hK
            try simp only [Act.put, List.setIfInBounds_toArray, List.set_cons_zero, List.set_cons_succ]
            refine wpAnyH_ready (rs := [7]) (by kernel_rfl) (by simp) ?_
            refine AllReadyH.cons (by simp only [List.getElem?_toArray, List.getElem?_cons_zero, List.getElem?_cons_succ]; rfl) (fun K' hK => ?_) AllReadyH.nil
            refine step_append_opt rfl (.tmp 37) (.tmp 42) 23 rfl (w1.heap.size + 2) 25 i0 (.agg #[.string ⟨#[]⟩, .bool false, .slice none 0 0]) 3 48 Tryz.underlying23 HI.out HZ.out HS1.out HB1.out rfl (by decide) (.slice ov ch.length cv) ch.length (stCells ch) rfl ((ownsRow_kpc (HROW.out.kept (below_grown HLOWA.out) (own_none _)) HK4.out).kept (below_grown ((Below.refl _ _).alloc (Nat.le_refl _) _)) (own_none _)) (some ⟨w4.heap.size, 0, none⟩) 1 1 [.string x.nm, .bool x.vr, .slice o4' x.ts.length c4'] rfl rfl (fun h => by cases h) (fun ad had => by cases had; exact cells_new3 _ _ _ _ _) (by simp [Value.oneCell']) (by have := HCHL.out; unfold maxLen; omega) (by have := HCHL.out; omega) (by have := HZ4.out; simp; omega) ?_
            intro v5 w5 ho5 hg5 hat5
            obtain ⟨o5, c5, rfl⟩ := ownsRow_shape ho5
            have hout5 := (hg5.block (w1.heap.size + 1) (by have := HZ4.out; simp; omega) (fun e => by have := (HOWN.out _ e.symm).1; omega)).trans ((Below.heap_alloc _ _ _ (by have := HZ4.out; omega)).trans HOUT4.out)
            have hbx5 := (hg5.block wr.heap.size (by have := HZ4.out; simp; omega) (fun e => by have := (HOWN.out _ e.symm).2; omega)).trans ((Below.heap_alloc _ _ _ HZ4.out).trans HBX4.out)
            obtain ⟨⟨x0, x1, x2⟩, f0, f1, f2⟩ := box3 hout5
            have HBX5 := Lib.hid hbx5
            have HY6 := Lib.hid (box3 hbx5).1
            have HST5 := Lib.hid (HST.out.step HG.out HSV1.out HPL.out HU.out HLOWA.out HSV4.out HF4.out HSL4.out ((Below.refl _ w4).alloc (Nat.le_refl _) _) hg5 ho5 hat5)
            clear ho5 hg5 hat5 hout5 hbx5
            refine hK.out _ _ HY6.out (fun _ => ?_)
            clear hK
            try simp only [Act.put, List.setIfInBounds_toArray, List.set_cons_zero, List.set_cons_succ]
            refine wpAnyH_take (i := 8) (v := ?_) (by simp only [List.getElem?_toArray, List.getElem?_cons_zero, List.getElem?_cons_succ]; rfl) (by kernel_rfl) (by kernel_rfl) (by kernel_rfl) (fun _ _ _ h => h) (Or.inl ⟨by rfl, ?_⟩) HY6.out ?_
            case refine_2 => (intro ww hSw; obtain ⟨s1, s2, s3⟩ := hSw; go_simp; try with_reducible rfl)
            try simp only [Act.put, List.setIfInBounds_toArray, List.set_cons_zero, List.set_cons_succ]
            refine wpAnyH_ready (rs := [9]) (by kernel_rfl) (by simp) ?_
            refine AllReadyH.cons (by simp only [List.getElem?_toArray, List.getElem?_cons_zero, List.getElem?_cons_succ]; rfl) (fun K' hK => ?_) AllReadyH.nil
            go_simp
            have HY7 := Lib.hid (box3 ((Below.heap_setCell w5 ⟨w1.heap.size + 1, 2, none⟩ (.slice o5 (ch.length + 1) c5) wr.heap.size (by show wr.heap.size ≠ w1.heap.size + 1; omega)).trans HBX5.out)).1
            refine hK.out _ _ HY7.out (fun _ => ?_)
            clear hK
            try simp only [Act.put, List.setIfInBounds_toArray, List.set_cons_zero, List.set_cons_succ]
            refine wpAnyH_done (by kernel_rfl) ?_ _
            refine NoPanic.normal ?_
            go_wp2_with fail
            exact ⟨⟨k + 1, _, _, by omega, by go_num, HST5⟩, by simp [intOf]; omega⟩
          · refine AllReadyH.cons (by simp only [List.getElem?_toArray, List.getElem?_cons_zero, List.getElem?_cons_succ]; rfl) (fun K' hK => ?_) AllReadyH.nil
            go_simp
            refine (IHu _ HLOWA.out).out.mono ?_
            rintro e w4 ⟨⟨sl4, rfl, hsl4⟩, hsv4, hf4⟩
            obtain ⟨o4', c4', rfl⟩ := hsl4.form
            dsimp only [tmv]
            have hout4 := (hf4.block (w1.heap.size + 1) (by simp; omega) (by omega)).trans HOUT.out
            have hbx4 := (hf4.block wr.heap.size (by simp) (by omega)).trans (heap_new_at wr (.cells #[.string y.nm, .bool y.vr, .slice ou y.ts.length cu] 25) _ rfl)
            obtain ⟨⟨x0, x1, x2⟩, f0, f1, f2⟩ := box3 hout4
            have HY4 := Lib.hid (box3 hbx4).1
            have HSL4 := Lib.hid hsl4
            have HSV4 := Lib.hid hsv4
            have HF4 := Lib.hid hf4
            have HK4 : Hid (KpC 0 _ w4) := Lib.hid (hf4.kpc (Nat.zero_le _) fun k hk => ⟨Nat.zero_le _, by subst hk; exact (HST.out.sv.below HG.out HLOWA.out).m2map⟩)
            have HOUT4 := Lib.hid hout4
            have HBX4 := Lib.hid hbx4
            have HZ4 := Lib.hid (show wr.heap.size < w4.heap.size from (Array.getElem?_eq_some_iff.1 hbx4).1)
            clear hsl4 hsv4 hf4 hout4 hbx4
            refine hK.out _ _ HY4.out (fun _ => ?_)
            clear hK
            try simp only [Act.put, List.setIfInBounds_toArray, List.set_cons_zero, List.set_cons_succ]
            refine wpAnyH_ready (rs := [1, 6]) (by kernel_rfl) (by simp) ?_
            refine AllReadyH.cons (by simp only [List.getElem?_toArray, List.getElem?_cons_zero, List.getElem?_cons_succ]; rfl) (fun K' hK => ?_) ?_
            · go_simp
              refine hK.out _ _ HY4.out (fun _ => ?_)
              clear hK
              try simp only [Act.put, List.setIfInBounds_toArray, List.set_cons_zero, List.set_cons_succ]
              refine wpAnyH_ready (rs := [6]) (by kernel_rfl) (by simp) ?_
              refine AllReadyH.cons (by simp only [List.getElem?_toArray, List.getElem?_cons_zero, List.getElem?_cons_succ]; rfl) (fun K' hK => ?_) AllReadyH.nil
              go_simp
              have hy5 := (box3 ((Below.heap_alloc w4 (.cells #[.string x.nm, .bool x.vr, .slice o4' x.ts.length c4'] 25) _ HZ4.out).trans HBX4.out)).1
              have hx5 := (box3 ((Below.heap_alloc w4 (.cells #[.string x.nm, .bool x.vr, .slice o4' x.ts.length c4'] 25) (w1.heap.size + 1) (by have := HZ4.out; omega)).trans HOUT4.out)).1.2.2
              have HY5 := Lib.hid hy5
              clear hy5
              refine hK.out _ _ HY5.out (fun _ => ?_)
              clear hK
              try simp only [Act.put, List.setIfInBounds_toArray, List.set_cons_zero, List.set_cons_succ]
              refine wpAnyH_ready (rs := [7]) (by kernel_rfl) (by simp) ?_
              refine AllReadyH.cons (by simp only [List.getElem?_toArray, List.getElem?_cons_zero, List.getElem?_cons_succ]; rfl) (fun K' hK => ?_) AllReadyH.nil
              refine step_append_opt rfl (.tmp 37) (.tmp 42) 23 rfl (w1.heap.size + 2) 25 i0 (.agg #[.string ⟨#[]⟩, .bool false, .slice none 0 0]) 3 48 Tryz.underlying23 HI.out HZ.out HS1.out HB1.out rfl (by decide) (.slice ov ch.length cv) ch.length (stCells ch) rfl ((ownsRow_kpc (HROW.out.kept (below_grown HLOWA.out) (own_none _)) HK4.out).kept (below_grown ((Below.refl _ _).alloc (Nat.le_refl _) _)) (own_none _)) (some ⟨w4.heap.size, 0, none⟩) 1 1 [.string x.nm, .bool x.vr, .slice o4' x.ts.length c4'] rfl rfl (fun h => by cases h) (fun ad had => by cases had; exact cells_new3 _ _ _ _ _) (by simp [Value.oneCell']) (by have := HCHL.out; unfold maxLen; omega) (by have := HCHL.out; omega) (by have := HZ4.out; simp; omega) ?_
              intro v5 w5 ho5 hg5 hat5
              obtain ⟨o5, c5, rfl⟩ := ownsRow_shape ho5
              have hout5 := (hg5.block (w1.heap.size + 1) (by have := HZ4.out; simp; omega) (fun e => by have := (HOWN.out _ e.symm).1; omega)).trans ((Below.heap_alloc _ _ _ (by have := HZ4.out; omega)).trans HOUT4.out)
              have hbx5 := (hg5.block wr.heap.size (by have := HZ4.out; simp; omega) (fun e => by have := (HOWN.out _ e.symm).2; omega)).trans ((Below.heap_alloc _ _ _ HZ4.out).trans HBX4.out)
              obtain ⟨⟨x0, x1, x2⟩, f0, f1, f2⟩ := box3 hout5
              have HBX5 := Lib.hid hbx5
              have HY6 := Lib.hid (box3 hbx5).1
              have HST5 := Lib.hid (HST.out.step HG.out HSV1.out HPL.out HU.out HLOWA.out HSV4.out HF4.out HSL4.out ((Below.refl _ w4).alloc (Nat.le_refl _) _) hg5 ho5 hat5)
              clear ho5 hg5 hat5 hout5 hbx5
              refine hK.out _ _ HY6.out (fun _ => ?_)
              clear hK
              try simp only [Act.put, List.setIfInBounds_toArray, List.set_cons_zero, List.set_cons_succ]
              refine wpAnyH_take (i := 8) (v := ?_) (by simp only [List.getElem?_toArray, List.getElem?_cons_zero, List.getElem?_cons_succ]; rfl) (by kernel_rfl) (by kernel_rfl) (by kernel_rfl) (fun _ _ _ h => h) (Or.inl ⟨by rfl, ?_⟩) HY6.out ?_
              case refine_2 => (intro ww hSw; obtain ⟨s1, s2, s3⟩ := hSw; go_simp; try with_reducible rfl)
              try simp only [Act.put, List.setIfInBounds_toArray, List.set_cons_zero, List.set_cons_succ]
              refine wpAnyH_ready (rs := [9]) (by kernel_rfl) (by simp) ?_
              refine AllReadyH.cons (by simp only [List.getElem?_toArray, List.getElem?_cons_zero, List.getElem?_cons_succ]; rfl) (fun K' hK => ?_) AllReadyH.nil
              go_simp
              have HY7 := Lib.hid (box3 ((Below.heap_setCell w5 ⟨w1.heap.size + 1, 2, none⟩ (.slice o5 (ch.length + 1) c5) wr.heap.size (by show wr.heap.size ≠ w1.heap.size + 1; omega)).trans HBX5.out)).1
              refine hK.out _ _ HY7.out (fun _ => ?_)
              clear hK
              try simp only [Act.put, List.setIfInBounds_toArray, List.set_cons_zero, List.set_cons_succ]
              refine wpAnyH_done (by kernel_rfl) ?_ _
              refine NoPanic.normal ?_
              go_wp2_with fail
              exact ⟨⟨k + 1, _, _, by omega, by go_num, HST5⟩, by simp [intOf]; omega⟩
            · refine AllReadyH.cons (by simp only [List.getElem?_toArray, List.getElem?_cons_zero, List.getElem?_cons_succ]; rfl) (fun K' hK => ?_) AllReadyH.nil
              go_simp
              have hy5 := (box3 ((Below.heap_alloc w4 (.cells #[.string x.nm, .bool x.vr, .slice o4' x.ts.length c4'] 25) _ HZ4.out).trans HBX4.out)).1
              have hx5 := (box3 ((Below.heap_alloc w4 (.cells #[.string x.nm, .bool x.vr, .slice o4' x.ts.length c4'] 25) (w1.heap.size + 1) (by have := HZ4.out; omega)).trans HOUT4.out)).1.2.2
              have HY5 := Lib.hid hy5
              clear hy5
              refine hK.out _ _ HY5.out (fun _ => ?_)
              clear hK
              try simp only [Act.put, List.setIfInBounds_toArray, List.set_cons_zero, List.set_cons_succ]
              refine wpAnyH_ready (rs := [1]) (by kernel_rfl) (by simp) ?_
              refine AllReadyH.cons (by simp only [List.getElem?_toArray, List.getElem?_cons_zero, List.getElem?_cons_succ]; rfl) (fun K' hK => ?_) AllReadyH.nil
              go_simp
              refine hK.out _ _ HY5.out (fun _ => ?_)
              clear hK
              try simp only [Act.put, List.setIfInBounds_toArray, List.set_cons_zero, List.set_cons_succ]
              refine wpAnyH_ready (rs := [7]) (by kernel_rfl) (by simp) ?_
              refine AllReadyH.cons (by simp only [List.getElem?_toArray, List.getElem?_cons_zero, List.getElem?_cons_succ]; rfl) (fun K' hK => ?_) AllReadyH.nil
              refine step_append_opt rfl (.tmp 37) (.tmp 42) 23 rfl (w1.heap.size + 2) 25 i0 (.agg #[.string ⟨#[]⟩, .bool false, .slice none 0 0]) 3 48 Tryz.underlying23 HI.out HZ.out HS1.out HB1.out rfl (by decide) (.slice ov ch.length cv) ch.length (stCells ch) rfl ((ownsRow_kpc (HROW.out.kept (below_grown HLOWA.out) (own_none _)) HK4.out).kept (below_grown ((Below.refl _ _).alloc (Nat.le_refl _) _)) (own_none _)) (some ⟨w4.heap.size, 0, none⟩) 1 1 [.string x.nm, .bool x.vr, .slice o4' x.ts.length c4'] rfl rfl (fun h => by cases h) (fun ad had => by cases had; exact cells_new3 _ _ _ _ _) (by simp [Value.oneCell']) (by have := HCHL.out; unfold maxLen; omega) (by have := HCHL.out; omega) (by have := HZ4.out; simp; omega) ?_
              intro v5 w5 ho5 hg5 hat5
              obtain ⟨o5, c5, rfl⟩ := ownsRow_shape ho5
              have hout5 := (hg5.block (w1.heap.size + 1) (by have := HZ4.out; simp; omega) (fun e => by have := (HOWN.out _ e.symm).1; omega)).trans ((Below.heap_alloc _ _ _ (by have := HZ4.out; omega)).trans HOUT4.out)
              have hbx5 := (hg5.block wr.heap.size (by have := HZ4.out; simp; omega) (fun e => by have := (HOWN.out _ e.symm).2; omega)).trans ((Below.heap_alloc _ _ _ HZ4.out).trans HBX4.out)
              obtain ⟨⟨x0, x1, x2⟩, f0, f1, f2⟩ := box3 hout5
              have HBX5 := Lib.hid hbx5
              have HY6 := Lib.hid (box3 hbx5).1
              have HST5 := Lib.hid (HST.out.step HG.out HSV1.out HPL.out HU.out HLOWA.out HSV4.out HF4.out HSL4.out ((Below.refl _ w4).alloc (Nat.le_refl _) _) hg5 ho5 hat5)
              clear ho5 hg5 hat5 hout5 hbx5
              refine hK.out _ _ HY6.out (fun _ => ?_)
              clear hK
              try simp only [Act.put, List.setIfInBounds_toArray, List.set_cons_zero, List.set_cons_succ]
              refine wpAnyH_take (i := 8) (v := ?_) (by simp only [List.getElem?_toArray, List.getElem?_cons_zero, List.getElem?_cons_succ]; rfl) (by kernel_rfl) (by kernel_rfl) (by kernel_rfl) (fun _ _ _ h => h) (Or.inl ⟨by rfl, ?_⟩) HY6.out ?_
              case refine_2 => (intro ww hSw; obtain ⟨s1, s2, s3⟩ := hSw; go_simp; try with_reducible rfl)
              try simp only [Act.put, List.setIfInBounds_toArray, List.set_cons_zero, List.set_cons_succ]
              refine wpAnyH_ready (rs := [9]) (by kernel_rfl) (by simp) ?_
              refine AllReadyH.cons (by simp only [List.getElem?_toArray, List.getElem?_cons_zero, List.getElem?_cons_succ]; rfl) (fun K' hK => ?_) AllReadyH.nil
              go_simp
              have HY7 := Lib.hid (box3 ((Below.heap_setCell w5 ⟨w1.heap.size + 1, 2, none⟩ (.slice o5 (ch.length + 1) c5) wr.heap.size (by show wr.heap.size ≠ w1.heap.size + 1; omega)).trans HBX5.out)).1
              refine hK.out _ _ HY7.out (fun _ => ?_)
              clear hK
              try simp only [Act.put, List.setIfInBounds_toArray, List.set_cons_zero, List.set_cons_succ]
              refine wpAnyH_done (by kernel_rfl) ?_ _
              refine NoPanic.normal ?_
              go_wp2_with fail
              exact ⟨⟨k + 1, _, _, by omega, by go_num, HST5⟩, by simp [intOf]; omega⟩
        · obtain rfl : k = t.ts.length := by omega
          obtain ⟨ov, cv, rfl⟩ := ownsRow_shape hst.row
          have hz1r := hst.fr.size
          have hret := (hst.fr.block w.heap.size hz1 (by omega)).trans HQ0.out
          obtain ⟨⟨x0, x1, x2⟩, -⟩ := box3 hst.out
          obtain ⟨⟨r0, r1, r2⟩, f0, f1, f2⟩ := box3 hret
          have HRET := Lib.hid hret
          have HTT : Hid (ch.map (·.1) = K) := Lib.hid (by have := hst.terms; rwa [← HKL.out, List.take_length] at this)
          clear hst hret y0 y1 y2 g0 g1 g2
          go_wp2_with fail
          have hq := box3_set HRET.out (.string t.nm) (.bool false) (.slice ov ch.length cv)
          obtain ⟨⟨q0, q1, q2⟩, -⟩ := box3 hq
          refine bodyPost_ret (v := .agg #[.string t.nm, .bool false, .slice ov ch.length cv]) (by simp [results, Tryz.f146, go_sem, q0, q1, q2]) rfl ?_
          have hbf : Below w.heap.size wr (((wr.setCell ⟨w.heap.size, 0, none⟩ (.string t.nm)).setCell ⟨w.heap.size, 1, none⟩ (.bool false)).setCell ⟨w.heap.size, 2, none⟩ (.slice ov ch.length cv)) := below_set3 (Below.refl _ _) (Nat.le_refl _) _ _ _
          have hFF := (HF1.out.trans HST.out.fr).nextB hbf
          have h1 := SlP.ofRow (p := fun b => w1.heap.size + 2 ≤ b) HST.out.row (fun b hb => hb) (fun c hc => (HST.out.kids c hc).carry fun b hb => ⟨rfl, hb.1⟩)
          have h2 := h1.lt
          rw [HTT.out] at h2
          rw [HT.out]
          refine ⟨⟨.slice ov ch.length cv, rfl, h2.carry fun b hb => ⟨heap_set3 _ _ _ _ _ _ (by omega), by omega, by simp [World.setCell]; omega⟩⟩, HBACK.out _ (SvIs.low HG.out HS0.out hFF HST.out.sv HLOW.out hbf), hFF⟩
end Go.Proofs.YtkglopdogakfoaaGreatDoor
