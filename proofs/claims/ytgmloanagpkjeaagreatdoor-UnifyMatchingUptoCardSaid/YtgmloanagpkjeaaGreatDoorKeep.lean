/- The solver's 'keep'. -/
import Derived.WalkKit
import Derived.ProofKit
import Derived.OpenShut
import Derived.Handy
import Derived.Lib.Hide
import Derived.Deep.RegionHeld3
import Derived.Test.YtgmloanagpkjeaaGreatDoorSvm
import Derived.Test.YtgmloanagpkjeaaGreatDoorGh
namespace Go.Proofs.YtgmloanagpkjeaaGreatDoor
open Go.RowKit Go.Maps

theorem keepsP_append (a b : List Tm) : ∀ S, (keepsP (a ++ b) S).1 = (keepsP b (keepsP a S).1).1 := by
  induction a with
  | nil => intro S; rfl
  | cons x a ih => intro S; rw [List.cons_append, keepsP, ih, keepsP]
theorem keepsP_take (l : List Tm) (k : Nat) (S : Sv) : (keepsP (l.take k) S).1.bd.length ≤ (keepsP l S).1.bd.length := by
  have h := keepsP_append (l.take k) (l.drop k) S
  rw [List.take_append_drop] at h
  rw [h]
  exact (keepsP_pre _ _).length_le
theorem uvariable_any (nm : ByteArray) (w : World) : Calls Tryz.prog 105 #[.string nm] w fun e w' => e = .returned (.agg #[.string nm, .bool true, .slice none 0 0]) ∧ Below w.heap.size w w' := by
  go_enter Tryz.func105, Tryz.ntmps105
  go_wp2_with fail
  exact bodyPost_ret (v := .agg #[.string nm, .bool true, .slice none 0 0]) (by simp [results, Tryz.f105, go_sem]) rfl ⟨rfl, by go_grown⟩
/-- variables one after the other, as they lie -/
def vch (ks : List Key) : List (Tm × Value) := ks.map fun k => (vrk k, .slice none 0 0)
theorem vch_snoc (ks : List Key) (k : Key) : stCells (vch (ks ++ [k])) = stCells (vch ks) ++ [.string (kb k), .bool true, .slice none 0 0] := by simp [vch, stCells, vrk, Tm.nm, Tm.vr]
theorem vch_len (ks : List Key) : (vch ks).length = ks.length := by simp [vch]
theorem vch_map (ks : List Key) : (vch ks).map (·.1) = ks.map vrk := by simp [vch, Function.comp_def]
theorem vch_kids {q : Nat → Prop} {W : World} (ks : List Key) : ∀ c ∈ vch ks, SlP q W c.1.ts c.2 := by
  intro c hc
  obtain ⟨k, _, rfl⟩ := List.mem_map.1 hc
  exact .nil0
theorem ownsRow_kpc {A B : World} {n m j size : Nat} {e : TypeId} {v : Value} {xs : List Value} (h : A.ownsRow m e size v j xs) (hk : KpC n A B) : B.ownsRow m e size v j xs := by
  refine ⟨h.1, ?_⟩
  rcases h.2 with h0 | ⟨g, cap, cur, hv, hb, hg, hr⟩
  · exact .inl h0
  · exact .inr ⟨g, cap, cur, hv, hb, hk.cells _ _ _ _ hg, hr⟩
/-- k arguments being kept -/
structure KeSt (GW : World → Prop) (sb m1 m2 : Nat) (p : Nat → Prop) (n₀ : Nat) (w : World) (nm : ByteArray) (S : Sv) (l : List Tm) (k : Nat) (W : World) (v : Value) : Prop where
  sv : SvIs GW sb m1 m2 (fun b => (b < w.heap.size → p b) ∧ b ≠ w.heap.size + 1 ∧ some b ≠ v.ownBlock) (keepsP (l.take k) S).1 W
  row : W.ownsRow (w.heap.size + 2) 25 3 v k (stCells (vch (keepsP (l.take k) S).2))
  kp : KpC n₀ w W
  out : W.heap[w.heap.size + 1]? = some (.cells #[.string nm, .bool false, v] 25 (0, 0))
theorem KeSt.step {N : Nat} {GW : World → Prop} (hG : ItoaOk N GW) {sb m1 m2 : Nat} {p : Nat → Prop} {n₀ : Nat} {w W A W4 B W5 : World} {nm : ByteArray} {S : Sv} {l : List Tm} {k : Nat} {v v5 : Value} {u : Tm}
    (st : KeSt GW sb m1 m2 p n₀ w nm S l k W v) (hgw : GW w) (hn : n₀ ≤ w.heap.size) (hsb : sb < w.heap.size) (hm1 : m1 < w.heap.size) (hm2 : m2 < w.heap.size) (hu : l[k]? = some u) (hA : Below W.heap.size W A)
    (h4 : SvIs GW sb m1 m2 (fun b => b < A.heap.size → (b < w.heap.size → p b) ∧ b ≠ w.heap.size + 1 ∧ some b ≠ v.ownBlock) (keepP u (keepsP (l.take k) S).1).1 W4) (hk4 : KpC n₀ A W4) (hB : Below W4.heap.size W4 B) (h5 : B.grownBy W5 v.ownBlock)
    (ho : W5.ownsRow (w.heap.size + 2) 25 3 v5 (k + 1) (stCells (vch (keepsP (l.take k) S).2) ++ [.string (kb (keepP u (keepsP (l.take k) S).1).2), .bool true, .slice none 0 0])) (hat : v5.ownBlock = v.ownBlock ∨ v5.ownBlock = some B.heap.size) :
    KeSt GW sb m1 m2 p n₀ w nm S l (k + 1) (W5.setCell ⟨w.heap.size + 1, 2, none⟩ v5) v5 := by
  have zA := hA.size
  have z4 := hk4.size
  have zB := hB.size
  have z5 := h5.size
  have zo := (Array.getElem?_eq_some_iff.1 st.out).1
  have zs : (W5.setCell ⟨w.heap.size + 1, 2, none⟩ v5).heap.size = W5.heap.size := by simp [World.setCell]
  have own : ∀ j, v.ownBlock = some j → w.heap.size + 2 ≤ j ∧ j < W.heap.size := fun j hj => st.row.lt j hj
  have late : ∀ b, b < W4.heap.size → b ≠ w.heap.size + 1 → some b ≠ v.ownBlock → (W5.setCell ⟨w.heap.size + 1, 2, none⟩ v5).heap[b]? = W4.heap[b]? := fun b hb h1 h2 => by
    rw [Below.heap_setCell _ _ _ _ h1]
    exact (h5.block b (by omega) h2).trans (hB.block b hb)
  have kp4 : KpC n₀ w W4 := (st.kp.trans (KpC.of_below hA (Nat.le_trans hn st.kp.size))).trans hk4
  have notown : ∀ b, b < w.heap.size → some b ≠ v.ownBlock := fun b hb e => by have := (own b e.symm).1; omega
  have z40 := kp4.size
  have hkp : KpC n₀ w (W5.setCell ⟨w.heap.size + 1, 2, none⟩ v5) :=
    ⟨⟨h5.os.trans (hB.os.trans kp4.low.os), h5.tape.trans (hB.tape.trans kp4.low.tape), h5.output.trans (hB.output.trans kp4.low.output), by rw [zs]; omega, fun b hb => (late b (by omega) (by omega) (notown b (by omega))).trans (kp4.low.block b hb)⟩,
      fun b c t f hb => by
        have hlt := (Array.getElem?_eq_some_iff.1 hb).1
        exact (late b (by omega) (by omega) (notown b hlt)).trans (kp4.cells b c t f hb)⟩
  have hks : keepsP (l.take (k + 1)) S = ((keepP u (keepsP (l.take k) S).1).1, (keepsP (l.take k) S).2 ++ [(keepP u (keepsP (l.take k) S).1).2]) := by rw [Tm.take_snoc hu, keepsP_snoc]
  refine ⟨?_, ?_, hkp, ?_⟩
  · rw [hks]
    refine h4.carry (hG.keep _ _ hgw (hkp.mono (Nat.zero_le _))) (late sb (by omega) (by omega) (notown sb hsb)) (late m1 (by omega) (by omega) (notown m1 hm1)) (late m2 (by omega) (by omega) (notown m2 hm2)) fun b hb hlt => ?_
    by_cases hbA : b < A.heap.size
    · obtain ⟨q1, q2, q3⟩ := hb hbA
      refine ⟨late b hlt q2 q3, q1, q2, ?_⟩
      rcases hat with e | e
      · rw [e]; exact q3
      · rw [e]; intro h; cases h; omega
    · have q2 : b ≠ w.heap.size + 1 := by omega
      have q3 : some b ≠ v.ownBlock := fun e => by have := (own b e.symm).2; omega
      refine ⟨late b hlt q2 q3, fun h => by omega, q2, ?_⟩
      rcases hat with e | e
      · rw [e]; exact q3
      · rw [e]; intro h; cases h; omega
  · rw [hks, vch_snoc]
    have hlt : (⟨w.heap.size + 1, 2, none⟩ : Addr).block < w.heap.size + 2 := Nat.lt_succ_self _
    exact ownsRow_setCell_below ho hlt _
  · have hout4 : W4.heap[w.heap.size + 1]? = some (.cells #[.string nm, .bool false, v] 25 (0, 0)) := hk4.cells _ _ _ _ ((hA.block _ zo).trans st.out)
    have hout5 : W5.heap[w.heap.size + 1]? = some (.cells #[.string nm, .bool false, v] 25 (0, 0)) := (h5.block _ (by omega) (fun e => by have := (own _ e.symm).1; omega)).trans ((hB.block _ (by omega)).trans hout4)
    have := set1 hout5 2 v5
    simpa using this
theorem hname_cat (n : Nat) : ({ data := #[35] } : ByteArray) ++ digN n = kb (hname n) := by
  apply bytes_ext
  rw [show ({ data := #[35] } ++ digN n : ByteArray).data.toList = [35] ++ (digN n).data.toList from by rw [ByteArray.data_append, Array.toList_append]]
  rfl

set_option maxRecDepth 100000 in
set_option maxHeartbeats 4000000 in
theorem keep_var {N : Nat} {GW : World → Prop} (HG : Hid (ItoaOk N GW)) (sb m1 m2 n₀ : Nat) (t : Tm) (p : Nat → Prop) (S : Sv) (s : Value) (w : World) (hS : SvIs GW sb m1 m2 p S w) (hn : n₀ ≤ w.heap.size) (hn2 : n₀ ≤ m2) (hs : SlIs w.heap.size w t.ts s) (hkn : t.kn S) (hl : S.eq.length ≤ 1048576) (hv : t.vr = true) :
    Calls Tryz.prog 149 #[.pointer (some ⟨sb, 0, none⟩), tmv t s] w fun e w' => e = .returned (.string (kb (keepP t S).2)) ∧ SvIs GW sb m1 m2 (fun b => b < w.heap.size → p b) (keepP t S).1 w' ∧ KpC n₀ w w' := by
  obtain ⟨oa, ca, rfl, -⟩ := hs.form
  have hA : Below w.heap.size w (w.alloc (.cells #[.string t.nm, .bool true, .slice oa t.ts.length ca] 25)) := by go_grown
  have hl1 := last_any HG sb m1 m2 p S t.nm.data.toList _ (hS.below HG.out hA) (by have := (hkn.var hv).1; omega) hl
  rw [kb_key] at hl1
  have HL := Lib.hid hl1
  have HA := Lib.hid hA
  have HK := Lib.hid (keepP_var hv S)
  have HS := Lib.hid hS
  clear hl1 hA hS hkn
  go_enter Tryz.func149, Tryz.ntmps149
  rw [show tmv t (.slice oa t.ts.length ca) = .agg #[.string t.nm, .bool t.vr, .slice oa t.ts.length ca] from rfl, hv]
  go_wp2_with fail
  refine HL.out.mono ?_
  rintro e w1 ⟨rfl, h1, hf1⟩
  have H1 := Lib.hid h1
  have HF1 := Lib.hid hf1
  clear h1 hf1
  go_wp2_with fail
  go_ret
  rw [HK.out]
  refine ⟨rfl, H1.out.weak fun b hb _ _ => hb, KpC.trans (KpC.of_below HA.out hn) (HF1.out.kpc (by simp; omega) fun k e => ⟨by omega, ?_⟩)⟩
  subst e
  exact (HS.out.below HG.out HA.out).m2map

set_option maxRecDepth 100000 in
set_option maxHeartbeats 8000000 in
theorem keep_any {N : Nat} {GW : World → Prop} (HG : Hid (ItoaOk N GW)) (sb m1 m2 n₀ : Nat) (hn1 : n₀ ≤ m1) (hn2 : n₀ ≤ m2) (t : Tm) : ∀ (p : Nat → Prop) (S : Sv) (s : Value) (w : World), SvIs GW sb m1 m2 p S w → n₀ ≤ w.heap.size → SlIs w.heap.size w t.ts s → t.kn S → t.bulk ≤ 1048576 → (keepP t S).1.bd.length ≤ N → S.eq.length ≤ 1048576 →
    Calls Tryz.prog 149 #[.pointer (some ⟨sb, 0, none⟩), tmv t s] w fun e w' => e = .returned (.string (kb (keepP t S).2)) ∧ SvIs GW sb m1 m2 (fun b => b < w.heap.size → p b) (keepP t S).1 w' ∧ KpC n₀ w w' := by
  induction t using Tm.ind with
  | h t ih =>
    intro p S s w hS hn hs hkn hb hN hl
    by_cases hv : t.vr = true
    · exact keep_var HG sb m1 m2 n₀ t p S s w hS hn hn2 hs hkn hl hv
    · have hv : t.vr = false := by simpa using hv
      obtain ⟨oa, ca, rfl, -⟩ := hs.form
      obtain ⟨i0, hi, hz, hs1, hb1⟩ := info_parts infoTerm
      have HI := Lib.hid hi
      have HZ := Lib.hid hz
      have HS1 := Lib.hid hs1
      have HB1 := Lib.hid hb1
      have HKP := Lib.hid (keepP_fun hv S)
      have hNN := HG.out.le
      have hNs : (keepsP t.ts S).1.bd.length + 1 ≤ N := by rw [keepP_fun hv] at hN; simpa using hN
      have htl : t.ts.length ≤ 1048576 := by have := Tm.length_sizes t.ts; have := Tm.size_bulk t; have := Tm.size_eq t; omega
      have IH := Lib.hid ih
      have HSL := Lib.hid hs
      have HBK := Lib.hid hb
      have HSV := Lib.hid hS
      have HKN := Lib.hid hkn
      have hsb := hS.sblt
      have hm1 := hS.bnd.lt
      have hm2 := hS.m2lt
      clear ih hs hb hi hz hs1 hb1 hS hkn hN
      go_enter Tryz.func149, Tryz.ntmps149
      rw [show tmv t (.slice oa t.ts.length ca) = .agg #[.string t.nm, .bool t.vr, .slice oa t.ts.length ca] from rfl, hv]
      go_wp2_with fail
      have hb0 : Below w.heap.size w ((w.alloc (.cells #[.string t.nm, .bool false, .slice oa t.ts.length ca] 25)).alloc (.cells #[.string t.nm, .bool false, .slice none 0 0] 25)) := by go_grown
      have HST0 : Hid (KeSt GW sb m1 m2 p n₀ w t.nm S t.ts 0 ((w.alloc (.cells #[.string t.nm, .bool false, .slice oa t.ts.length ca] 25)).alloc (.cells #[.string t.nm, .bool false, .slice none 0 0] 25)) (.slice none 0 0)) :=
        Lib.hid ⟨HSV.out.carry (HG.out.keep _ _ HSV.out.gw (KpC.of_below hb0 (Nat.zero_le _))) (hb0.block sb hsb) (hb0.block m1 hm1) (hb0.block m2 hm2) (fun b hb hl => ⟨hb0.block b hl, fun _ => hb, by omega, by simp [Value.ownBlock]⟩), World.ownsRow_nil _ _ _ _, KpC.of_below hb0 hn, heap_new_at _ _ _ (by simp)⟩
      clear hb0
      go_loopw [21] (fun i wr => ∃ (k : Nat) (v : Value), k ≤ t.ts.length ∧ i = .int .i64 k ∧ Hid (KeSt GW sb m1 m2 p n₀ w t.nm S t.ts k wr v)) (fun i _ => t.ts.length - (intOf i).toNat)
      case atStart => exact ⟨0, _, by omega, rfl, HST0⟩
      case round =>
        obtain ⟨k, v, hk, rfl, HST⟩ := hrel
        have hst := HST.out
        have hzo := (Array.getElem?_eq_some_iff.1 hst.out).1
        have hkl : (keepsP (t.ts.take k) S).2.length = k := by rw [keepsP_len, List.length_take]; omega
        have HVL : Hid ((vch (keepsP (t.ts.take k) S).2).length = k) := Lib.hid (by rw [vch_len, hkl])
        clear hkl
        by_cases hlt : k < t.ts.length
        · have hz := hst.kp.size
          obtain ⟨b, o, u, su, rfl, hbb, hu, hum, hus, c1, c2, c3⟩ := (HSL.out.kp hst.kp hz).get (k := k) hlt
          obtain ⟨ou, cu, rfl, -⟩ := hus.form
          obtain ⟨ov, cv, rfl⟩ := ownsRow_shape hst.row
          have HLOWA : Hid (Below wr.heap.size wr (wr.alloc (.cells #[.string u.nm, .bool u.vr, .slice ou u.ts.length cu] 25)).drew) := Lib.hid (by go_grown)
          have hub : u.bulk ≤ 1048576 := by have := Tm.bulk_mem hum; have := Tm.bulk_eq t; have := HBK.out; omega
          have hout := (Below.heap_alloc wr (.cells #[.string u.nm, .bool u.vr, .slice ou u.ts.length cu] 25) (w.heap.size + 1) (by omega)).trans hst.out
          obtain ⟨⟨x0, x1, x2⟩, f0, f1, f2⟩ := box3 hout
          have hown : ∀ j, (Value.slice ov k cv).ownBlock = some j → w.heap.size + 2 ≤ j ∧ j < wr.heap.size := fun j hj => hst.row.lt j hj
          have HOWN := Lib.hid hown
          have HOUT := Lib.hid hout
          have HU := Lib.hid hu
          have hsv := hst.sv
          have hks : keepsP (t.ts.take (k + 1)) S = ((keepP u (keepsP (t.ts.take k) S).1).1, (keepsP (t.ts.take k) S).2 ++ [(keepP u (keepsP (t.ts.take k) S).1).2]) := by rw [Tm.take_snoc hu, keepsP_snoc]
          have hbd : (keepP u (keepsP (t.ts.take k) S).1).1.bd.length ≤ N := by have := keepsP_take t.ts (k + 1) S; rw [hks] at this; simp only at this; omega
          have hkn1 : u.kn (keepsP (t.ts.take k) S).1 := (HKN.out.kids u hum).mono (keepsP_pre _ _).length_le
          have heq1 : (keepsP (t.ts.take k) S).1.eq.length ≤ 1048576 := by rw [keepsP_eq]; exact hl
          have IHu := fun W1 (hW : Below wr.heap.size wr W1) => Lib.hid (IH.out u hum _ _ (.slice ou u.ts.length cu) W1 (hsv.below HG.out hW) (Nat.le_trans hn (Nat.le_trans hz hW.size)) (hus.carry hW hW.size) hkn1 hub hbd heq1)
          have HROW := Lib.hid hst.row
          clear hst hu hus hown hout hsv hks hbd hkn1 heq1
          go_wp2_with fail
          have hxA := (box3 HOUT.out).1.2.2
          have HYA := Lib.hid (box3 (heap_new_at wr (.cells #[.string u.nm, .bool u.vr, .slice ou u.ts.length cu] 25) _ rfl)).1
          refine wp_region_noPanic ?_
          refine wp_region_held_drew (S := fun w' => w'.cell? ⟨wr.heap.size, 0, none⟩ = some (.string u.nm) ∧ w'.cell? ⟨wr.heap.size, 1, none⟩ = some (.bool u.vr) ∧ w'.cell? ⟨wr.heap.size, 2, none⟩ = some (.slice ou u.ts.length cu)) (by kernel_rfl) HYA.out (fun _ => ?_)
          simp only [List.size_toArray, List.length_cons, List.length_nil, Nat.reduceAdd]
          refine wpAnyH_take (i := 0) (v := ?_) (by simp only [List.getElem?_toArray, List.getElem?_cons_zero]; rfl) (by kernel_rfl) (by kernel_rfl) (by kernel_rfl) (fun _ _ _ h => h) (Or.inl ⟨by rfl, ?_⟩) HYA.out ?_
          case refine_2 => (intro ww hSw; obtain ⟨s1, s2, s3⟩ := hSw; go_simp; try with_reducible rfl)
          try simp only [Act.put, List.setIfInBounds_toArray, List.set_cons_zero, List.set_cons_succ]
          refine wpAnyH_take (i := 2) (v := ?_) (by simp only [List.getElem?_toArray, List.getElem?_cons_zero, List.getElem?_cons_succ]; rfl) (by kernel_rfl) (by kernel_rfl) (by kernel_rfl) (fun _ _ _ h => h) (Or.inl ⟨by rfl, ?_⟩) HYA.out ?_
          case refine_2 => (intro ww hSw; obtain ⟨s1, s2, s3⟩ := hSw; go_simp; try with_reducible rfl)
          try simp only [Act.put, List.setIfInBounds_toArray, List.set_cons_zero, List.set_cons_succ]
          refine wpAnyH_take (i := 3) (v := ?_) (by simp only [List.getElem?_toArray, List.getElem?_cons_zero, List.getElem?_cons_succ]; rfl) (by kernel_rfl) (by kernel_rfl) (by kernel_rfl) (fun _ _ _ h => h) (Or.inl ⟨by rfl, ?_⟩) HYA.out ?_
          case refine_2 => (intro ww hSw; obtain ⟨s1, s2, s3⟩ := hSw; go_simp; try with_reducible rfl)
          try simp only [Act.put, List.setIfInBounds_toArray, List.set_cons_zero, List.set_cons_succ]
          refine wpAnyH_ready (rs := [1, 4]) (by kernel_rfl) (by simp) ?_
          refine AllReadyH.cons (by simp only [List.getElem?_toArray, List.getElem?_cons_zero, List.getElem?_cons_succ]; rfl) (fun K' hK => ?_) ?_
          · go_simp
            refine hK.out _ _ HYA.out (fun _ => ?_)
            clear hK
            try simp only [Act.put, List.setIfInBounds_toArray, List.set_cons_zero, List.set_cons_succ]
            refine wpAnyH_ready (rs := [4]) (by kernel_rfl) (by simp) ?_
            refine AllReadyH.cons (by simp only [List.getElem?_toArray, List.getElem?_cons_zero, List.getElem?_cons_succ]; rfl) (fun K' hK => ?_) AllReadyH.nil
            go_simp
            refine (IHu _ HLOWA.out).out.mono ?_
            rintro e w4 ⟨rfl, hsv4, hk4⟩
            have hout4 := hk4.cells _ _ _ _ HOUT.out
            have hbx4 := hk4.cells _ _ _ _ (heap_new_at wr (.cells #[.string u.nm, .bool u.vr, .slice ou u.ts.length cu] 25) _ rfl)
            obtain ⟨⟨x0, x1, x2⟩, f0, f1, f2⟩ := box3 hout4
            have HY4 := Lib.hid (box3 hbx4).1
            have HSV4 := Lib.hid hsv4
            have HK4 := Lib.hid hk4
            have HOUT4 := Lib.hid hout4
            have HBX4 := Lib.hid hbx4
            have HZ4 := Lib.hid (show wr.heap.size < w4.heap.size from (Array.getElem?_eq_some_iff.1 hbx4).1)
            clear hsv4 hk4 hout4 hbx4
            refine hK.out _ _ HY4.out (fun _ => ?_)
            clear hK
            try simp only [Act.put, List.setIfInBounds_toArray, List.set_cons_zero, List.set_cons_succ]
            refine wpAnyH_ready (rs := [5]) (by kernel_rfl) (by simp) ?_
            refine AllReadyH.cons (by simp only [List.getElem?_toArray, List.getElem?_cons_zero, List.getElem?_cons_succ]; rfl) (fun K' hK => ?_) AllReadyH.nil
            go_simp
            refine (uvariable_any (kb (keepP u (keepsP (t.ts.take k) S).1).2) _).mono ?_
            rintro e wv ⟨rfl, hbv⟩
            have houtv := (hbv.block _ (Array.getElem?_eq_some_iff.1 HOUT4.out).1).trans HOUT4.out
            have hbxv := (hbv.block _ HZ4.out).trans HBX4.out
            obtain ⟨⟨x0, x1, x2⟩, f0, f1, f2⟩ := box3 houtv
            have HYV := Lib.hid (box3 hbxv).1
            have HBV := Lib.hid hbv
            have HOUTV := Lib.hid houtv
            have HBXV := Lib.hid hbxv
            have HZV := Lib.hid (show wr.heap.size < wv.heap.size from (Array.getElem?_eq_some_iff.1 hbxv).1)
            have HZ4V := Lib.hid hbv.size
            clear hbv houtv hbxv
            refine hK.out _ _ HYV.out (fun _ => ?_)
            clear hK
            try simp only [Act.put, List.setIfInBounds_toArray, List.set_cons_zero, List.set_cons_succ]
            refine wpAnyH_ready (rs := [6]) (by kernel_rfl) (by simp) ?_
            refine AllReadyH.cons (by simp only [List.getElem?_toArray, List.getElem?_cons_zero, List.getElem?_cons_succ]; rfl) (fun K' hK => ?_) AllReadyH.nil
            go_simp
            have hy5 := (box3 ((Below.heap_alloc wv (.cells #[.string (kb (keepP u (keepsP (t.ts.take k) S).1).2), .bool true, .slice none 0 0] 25) _ HZV.out).trans HBXV.out)).1
            have hx5 := (box3 ((Below.heap_alloc wv (.cells #[.string (kb (keepP u (keepsP (t.ts.take k) S).1).2), .bool true, .slice none 0 0] 25) (w.heap.size + 1) (Array.getElem?_eq_some_iff.1 HOUTV.out).1).trans HOUTV.out)).1.2.2
            have HY5 := Lib.hid hy5
            clear hy5
            refine hK.out _ _ HY5.out (fun _ => ?_)
            clear hK
            try simp only [Act.put, List.setIfInBounds_toArray, List.set_cons_zero, List.set_cons_succ]
            refine wpAnyH_ready (rs := [7]) (by kernel_rfl) (by simp) ?_
            refine AllReadyH.cons (by simp only [List.getElem?_toArray, List.getElem?_cons_zero, List.getElem?_cons_succ]; rfl) (fun K' hK => ?_) AllReadyH.nil
            refine step_append_opt rfl (.tmp 26) (.tmp 31) 23 rfl (w.heap.size + 2) 25 i0 (.agg #[.string ⟨#[]⟩, .bool false, .slice none 0 0]) 3 48 Tryz.underlying23 HI.out HZ.out HS1.out HB1.out rfl (by decide) (.slice ov k cv) k (stCells (vch (keepsP (t.ts.take k) S).2)) rfl (((ownsRow_kpc (HROW.out.kept (below_grown HLOWA.out) (own_none _)) HK4.out).kept (below_grown HBV.out) (own_none _)).kept (below_grown ((Below.refl _ _).alloc (Nat.le_refl _) _)) (own_none _)) (some ⟨wv.heap.size, 0, none⟩) 1 1 [.string (kb (keepP u (keepsP (t.ts.take k) S).1).2), .bool true, .slice none 0 0] rfl rfl (fun h => by cases h) (fun ad had => by cases had; exact cells_new3 _ _ _ _ _) (by simp [Value.oneCell']) (by unfold maxLen; omega) (by omega) (by have := HZV.out; simp; omega) ?_
            intro v5 w5 ho5 hg5 hat5
            obtain ⟨o5, c5, rfl⟩ := ownsRow_shape ho5
            have hout5 := (hg5.block (w.heap.size + 1) (by have := (Array.getElem?_eq_some_iff.1 HOUTV.out).1; simp; omega) (fun e => by have := (HOWN.out _ e.symm).1; omega)).trans ((Below.heap_alloc _ _ _ (Array.getElem?_eq_some_iff.1 HOUTV.out).1).trans HOUTV.out)
            have hbx5 := (hg5.block wr.heap.size (by have := HZV.out; simp; omega) (fun e => by have := (HOWN.out _ e.symm).2; omega)).trans ((Below.heap_alloc _ _ _ HZV.out).trans HBXV.out)
            obtain ⟨⟨x0, x1, x2⟩, f0, f1, f2⟩ := box3 hout5
            have HBX5 := Lib.hid hbx5
            have HY6 := Lib.hid (box3 hbx5).1
            have HST5 := Lib.hid (HST.out.step HG.out HSV.out.gw hn hsb hm1 hm2 HU.out HLOWA.out HSV4.out HK4.out (HBV.out.trans ((Below.refl _ wv).alloc HZ4V.out _)) hg5 ho5 hat5)
            clear ho5 hg5 hat5 hout5 hbx5
            refine hK.out _ _ HY6.out (fun _ => ?_)
            clear hK
            try simp only [Act.put, List.setIfInBounds_toArray, List.set_cons_zero, List.set_cons_succ]
            refine wpAnyH_take (i := 8) (v := ?_) (by simp only [List.getElem?_toArray, List.getElem?_cons_zero, List.getElem?_cons_succ]; rfl) (by kernel_rfl) (by kernel_rfl) (by kernel_rfl) (fun _ _ _ h => h) (Or.inl ⟨by rfl, ?_⟩) HY6.out ?_
            case refine_2 => (intro ww hSw; obtain ⟨s1, s2, s3⟩ := hSw; go_simp; try with_reducible rfl)
            try simp only [Act.put, List.setIfInBounds_toArray, List.set_cons_zero, List.set_cons_succ]
            refine wpAnyH_ready (rs := [9]) (by kernel_rfl) (by simp) ?_
            refine AllReadyH.cons (by simp only [List.getElem?_toArray, List.getElem?_cons_zero, List.getElem?_cons_succ]; rfl) (fun K' hK => ?_) AllReadyH.nil
            go_simp
            have HY7 := Lib.hid (box3 ((Below.heap_setCell w5 ⟨w.heap.size + 1, 2, none⟩ (.slice o5 (k + 1) c5) wr.heap.size (by show wr.heap.size ≠ w.heap.size + 1; omega)).trans HBX5.out)).1
            refine hK.out _ _ HY7.out (fun _ => ?_)
            clear hK
            try simp only [Act.put, List.setIfInBounds_toArray, List.set_cons_zero, List.set_cons_succ]
            refine wpAnyH_done (by kernel_rfl) ?_ _
            refine NoPanic.normal ?_
            go_wp2_with fail
            exact ⟨⟨k + 1, _, by omega, by go_num, HST5⟩, by simp [intOf]; omega⟩
          · refine AllReadyH.cons (by simp only [List.getElem?_toArray, List.getElem?_cons_zero, List.getElem?_cons_succ]; rfl) (fun K' hK => ?_) AllReadyH.nil
            go_simp
            refine (IHu _ HLOWA.out).out.mono ?_
            rintro e w4 ⟨rfl, hsv4, hk4⟩
            have hout4 := hk4.cells _ _ _ _ HOUT.out
            have hbx4 := hk4.cells _ _ _ _ (heap_new_at wr (.cells #[.string u.nm, .bool u.vr, .slice ou u.ts.length cu] 25) _ rfl)
            obtain ⟨⟨x0, x1, x2⟩, f0, f1, f2⟩ := box3 hout4
            have HY4 := Lib.hid (box3 hbx4).1
            have HSV4 := Lib.hid hsv4
            have HK4 := Lib.hid hk4
            have HOUT4 := Lib.hid hout4
            have HBX4 := Lib.hid hbx4
            have HZ4 := Lib.hid (show wr.heap.size < w4.heap.size from (Array.getElem?_eq_some_iff.1 hbx4).1)
            clear hsv4 hk4 hout4 hbx4
            refine hK.out _ _ HY4.out (fun _ => ?_)
            clear hK
            try simp only [Act.put, List.setIfInBounds_toArray, List.set_cons_zero, List.set_cons_succ]
            refine wpAnyH_ready (rs := [1, 5]) (by kernel_rfl) (by simp) ?_
            refine AllReadyH.cons (by simp only [List.getElem?_toArray, List.getElem?_cons_zero, List.getElem?_cons_succ]; rfl) (fun K' hK => ?_) ?_
            · go_simp
              refine hK.out _ _ HY4.out (fun _ => ?_)
              clear hK
              try simp only [Act.put, List.setIfInBounds_toArray, List.set_cons_zero, List.set_cons_succ]
              refine wpAnyH_ready (rs := [5]) (by kernel_rfl) (by simp) ?_
              refine AllReadyH.cons (by simp only [List.getElem?_toArray, List.getElem?_cons_zero, List.getElem?_cons_succ]; rfl) (fun K' hK => ?_) AllReadyH.nil
              go_simp
              refine (uvariable_any (kb (keepP u (keepsP (t.ts.take k) S).1).2) _).mono ?_
              rintro e wv ⟨rfl, hbv⟩
              have houtv := (hbv.block _ (Array.getElem?_eq_some_iff.1 HOUT4.out).1).trans HOUT4.out
              have hbxv := (hbv.block _ HZ4.out).trans HBX4.out
              obtain ⟨⟨x0, x1, x2⟩, f0, f1, f2⟩ := box3 houtv
              have HYV := Lib.hid (box3 hbxv).1
              have HBV := Lib.hid hbv
              have HOUTV := Lib.hid houtv
              have HBXV := Lib.hid hbxv
              have HZV := Lib.hid (show wr.heap.size < wv.heap.size from (Array.getElem?_eq_some_iff.1 hbxv).1)
              have HZ4V := Lib.hid hbv.size
              clear hbv houtv hbxv
              refine hK.out _ _ HYV.out (fun _ => ?_)
              clear hK
              try simp only [Act.put, List.setIfInBounds_toArray, List.set_cons_zero, List.set_cons_succ]
              refine wpAnyH_ready (rs := [6]) (by kernel_rfl) (by simp) ?_
              refine AllReadyH.cons (by simp only [List.getElem?_toArray, List.getElem?_cons_zero, List.getElem?_cons_succ]; rfl) (fun K' hK => ?_) AllReadyH.nil
              go_simp
              have hy5 := (box3 ((Below.heap_alloc wv (.cells #[.string (kb (keepP u (keepsP (t.ts.take k) S).1).2), .bool true, .slice none 0 0] 25) _ HZV.out).trans HBXV.out)).1
              have hx5 := (box3 ((Below.heap_alloc wv (.cells #[.string (kb (keepP u (keepsP (t.ts.take k) S).1).2), .bool true, .slice none 0 0] 25) (w.heap.size + 1) (Array.getElem?_eq_some_iff.1 HOUTV.out).1).trans HOUTV.out)).1.2.2
              have HY5 := Lib.hid hy5
              clear hy5
              refine hK.out _ _ HY5.out (fun _ => ?_)
              clear hK
              try simp only [Act.put, List.setIfInBounds_toArray, List.set_cons_zero, List.set_cons_succ]
              refine wpAnyH_ready (rs := [7]) (by kernel_rfl) (by simp) ?_
              refine AllReadyH.cons (by simp only [List.getElem?_toArray, List.getElem?_cons_zero, List.getElem?_cons_succ]; rfl) (fun K' hK => ?_) AllReadyH.nil
              refine step_append_opt rfl (.tmp 26) (.tmp 31) 23 rfl (w.heap.size + 2) 25 i0 (.agg #[.string ⟨#[]⟩, .bool false, .slice none 0 0]) 3 48 Tryz.underlying23 HI.out HZ.out HS1.out HB1.out rfl (by decide) (.slice ov k cv) k (stCells (vch (keepsP (t.ts.take k) S).2)) rfl (((ownsRow_kpc (HROW.out.kept (below_grown HLOWA.out) (own_none _)) HK4.out).kept (below_grown HBV.out) (own_none _)).kept (below_grown ((Below.refl _ _).alloc (Nat.le_refl _) _)) (own_none _)) (some ⟨wv.heap.size, 0, none⟩) 1 1 [.string (kb (keepP u (keepsP (t.ts.take k) S).1).2), .bool true, .slice none 0 0] rfl rfl (fun h => by cases h) (fun ad had => by cases had; exact cells_new3 _ _ _ _ _) (by simp [Value.oneCell']) (by unfold maxLen; omega) (by omega) (by have := HZV.out; simp; omega) ?_
              intro v5 w5 ho5 hg5 hat5
              obtain ⟨o5, c5, rfl⟩ := ownsRow_shape ho5
              have hout5 := (hg5.block (w.heap.size + 1) (by have := (Array.getElem?_eq_some_iff.1 HOUTV.out).1; simp; omega) (fun e => by have := (HOWN.out _ e.symm).1; omega)).trans ((Below.heap_alloc _ _ _ (Array.getElem?_eq_some_iff.1 HOUTV.out).1).trans HOUTV.out)
              have hbx5 := (hg5.block wr.heap.size (by have := HZV.out; simp; omega) (fun e => by have := (HOWN.out _ e.symm).2; omega)).trans ((Below.heap_alloc _ _ _ HZV.out).trans HBXV.out)
              obtain ⟨⟨x0, x1, x2⟩, f0, f1, f2⟩ := box3 hout5
              have HBX5 := Lib.hid hbx5
              have HY6 := Lib.hid (box3 hbx5).1
              have HST5 := Lib.hid (HST.out.step HG.out HSV.out.gw hn hsb hm1 hm2 HU.out HLOWA.out HSV4.out HK4.out (HBV.out.trans ((Below.refl _ wv).alloc HZ4V.out _)) hg5 ho5 hat5)
              clear ho5 hg5 hat5 hout5 hbx5
              refine hK.out _ _ HY6.out (fun _ => ?_)
              clear hK
              try simp only [Act.put, List.setIfInBounds_toArray, List.set_cons_zero, List.set_cons_succ]
              refine wpAnyH_take (i := 8) (v := ?_) (by simp only [List.getElem?_toArray, List.getElem?_cons_zero, List.getElem?_cons_succ]; rfl) (by kernel_rfl) (by kernel_rfl) (by kernel_rfl) (fun _ _ _ h => h) (Or.inl ⟨by rfl, ?_⟩) HY6.out ?_
              case refine_2 => (intro ww hSw; obtain ⟨s1, s2, s3⟩ := hSw; go_simp; try with_reducible rfl)
              try simp only [Act.put, List.setIfInBounds_toArray, List.set_cons_zero, List.set_cons_succ]
              refine wpAnyH_ready (rs := [9]) (by kernel_rfl) (by simp) ?_
              refine AllReadyH.cons (by simp only [List.getElem?_toArray, List.getElem?_cons_zero, List.getElem?_cons_succ]; rfl) (fun K' hK => ?_) AllReadyH.nil
              go_simp
              have HY7 := Lib.hid (box3 ((Below.heap_setCell w5 ⟨w.heap.size + 1, 2, none⟩ (.slice o5 (k + 1) c5) wr.heap.size (by show wr.heap.size ≠ w.heap.size + 1; omega)).trans HBX5.out)).1
              refine hK.out _ _ HY7.out (fun _ => ?_)
              clear hK
              try simp only [Act.put, List.setIfInBounds_toArray, List.set_cons_zero, List.set_cons_succ]
              refine wpAnyH_done (by kernel_rfl) ?_ _
              refine NoPanic.normal ?_
              go_wp2_with fail
              exact ⟨⟨k + 1, _, by omega, by go_num, HST5⟩, by simp [intOf]; omega⟩
            · refine AllReadyH.cons (by simp only [List.getElem?_toArray, List.getElem?_cons_zero, List.getElem?_cons_succ]; rfl) (fun K' hK => ?_) AllReadyH.nil
              go_simp
              refine (uvariable_any (kb (keepP u (keepsP (t.ts.take k) S).1).2) _).mono ?_
              rintro e wv ⟨rfl, hbv⟩
              have houtv := (hbv.block _ (Array.getElem?_eq_some_iff.1 HOUT4.out).1).trans HOUT4.out
              have hbxv := (hbv.block _ HZ4.out).trans HBX4.out
              obtain ⟨⟨x0, x1, x2⟩, f0, f1, f2⟩ := box3 houtv
              have HYV := Lib.hid (box3 hbxv).1
              have HBV := Lib.hid hbv
              have HOUTV := Lib.hid houtv
              have HBXV := Lib.hid hbxv
              have HZV := Lib.hid (show wr.heap.size < wv.heap.size from (Array.getElem?_eq_some_iff.1 hbxv).1)
              have HZ4V := Lib.hid hbv.size
              clear hbv houtv hbxv
              refine hK.out _ _ HYV.out (fun _ => ?_)
              clear hK
              try simp only [Act.put, List.setIfInBounds_toArray, List.set_cons_zero, List.set_cons_succ]
              refine wpAnyH_ready (rs := [1, 6]) (by kernel_rfl) (by simp) ?_
              refine AllReadyH.cons (by simp only [List.getElem?_toArray, List.getElem?_cons_zero, List.getElem?_cons_succ]; rfl) (fun K' hK => ?_) ?_
              · go_simp
                refine hK.out _ _ HYV.out (fun _ => ?_)
                clear hK
                try simp only [Act.put, List.setIfInBounds_toArray, List.set_cons_zero, List.set_cons_succ]
                refine wpAnyH_ready (rs := [6]) (by kernel_rfl) (by simp) ?_
                refine AllReadyH.cons (by simp only [List.getElem?_toArray, List.getElem?_cons_zero, List.getElem?_cons_succ]; rfl) (fun K' hK => ?_) AllReadyH.nil
                go_simp
                have hy5 := (box3 ((Below.heap_alloc wv (.cells #[.string (kb (keepP u (keepsP (t.ts.take k) S).1).2), .bool true, .slice none 0 0] 25) _ HZV.out).trans HBXV.out)).1
                have hx5 := (box3 ((Below.heap_alloc wv (.cells #[.string (kb (keepP u (keepsP (t.ts.take k) S).1).2), .bool true, .slice none 0 0] 25) (w.heap.size + 1) (Array.getElem?_eq_some_iff.1 HOUTV.out).1).trans HOUTV.out)).1.2.2
                have HY5 := Lib.hid hy5
                clear hy5
                refine hK.out _ _ HY5.out (fun _ => ?_)
                clear hK
                try simp only [Act.put, List.setIfInBounds_toArray, List.set_cons_zero, List.set_cons_succ]
                refine wpAnyH_ready (rs := [7]) (by kernel_rfl) (by simp) ?_
                refine AllReadyH.cons (by simp only [List.getElem?_toArray, List.getElem?_cons_zero, List.getElem?_cons_succ]; rfl) (fun K' hK => ?_) AllReadyH.nil
                refine step_append_opt rfl (.tmp 26) (.tmp 31) 23 rfl (w.heap.size + 2) 25 i0 (.agg #[.string ⟨#[]⟩, .bool false, .slice none 0 0]) 3 48 Tryz.underlying23 HI.out HZ.out HS1.out HB1.out rfl (by decide) (.slice ov k cv) k (stCells (vch (keepsP (t.ts.take k) S).2)) rfl (((ownsRow_kpc (HROW.out.kept (below_grown HLOWA.out) (own_none _)) HK4.out).kept (below_grown HBV.out) (own_none _)).kept (below_grown ((Below.refl _ _).alloc (Nat.le_refl _) _)) (own_none _)) (some ⟨wv.heap.size, 0, none⟩) 1 1 [.string (kb (keepP u (keepsP (t.ts.take k) S).1).2), .bool true, .slice none 0 0] rfl rfl (fun h => by cases h) (fun ad had => by cases had; exact cells_new3 _ _ _ _ _) (by simp [Value.oneCell']) (by unfold maxLen; omega) (by omega) (by have := HZV.out; simp; omega) ?_
                intro v5 w5 ho5 hg5 hat5
                obtain ⟨o5, c5, rfl⟩ := ownsRow_shape ho5
                have hout5 := (hg5.block (w.heap.size + 1) (by have := (Array.getElem?_eq_some_iff.1 HOUTV.out).1; simp; omega) (fun e => by have := (HOWN.out _ e.symm).1; omega)).trans ((Below.heap_alloc _ _ _ (Array.getElem?_eq_some_iff.1 HOUTV.out).1).trans HOUTV.out)
                have hbx5 := (hg5.block wr.heap.size (by have := HZV.out; simp; omega) (fun e => by have := (HOWN.out _ e.symm).2; omega)).trans ((Below.heap_alloc _ _ _ HZV.out).trans HBXV.out)
                obtain ⟨⟨x0, x1, x2⟩, f0, f1, f2⟩ := box3 hout5
                have HBX5 := Lib.hid hbx5
                have HY6 := Lib.hid (box3 hbx5).1
                have HST5 := Lib.hid (HST.out.step HG.out HSV.out.gw hn hsb hm1 hm2 HU.out HLOWA.out HSV4.out HK4.out (HBV.out.trans ((Below.refl _ wv).alloc HZ4V.out _)) hg5 ho5 hat5)
                clear ho5 hg5 hat5 hout5 hbx5
                refine hK.out _ _ HY6.out (fun _ => ?_)
                clear hK
                try simp only [Act.put, List.setIfInBounds_toArray, List.set_cons_zero, List.set_cons_succ]
                refine wpAnyH_take (i := 8) (v := ?_) (by simp only [List.getElem?_toArray, List.getElem?_cons_zero, List.getElem?_cons_succ]; rfl) (by kernel_rfl) (by kernel_rfl) (by kernel_rfl) (fun _ _ _ h => h) (Or.inl ⟨by rfl, ?_⟩) HY6.out ?_
                case refine_2 => (intro ww hSw; obtain ⟨s1, s2, s3⟩ := hSw; go_simp; try with_reducible rfl)
                try simp only [Act.put, List.setIfInBounds_toArray, List.set_cons_zero, List.set_cons_succ]
                refine wpAnyH_ready (rs := [9]) (by kernel_rfl) (by simp) ?_
                refine AllReadyH.cons (by simp only [List.getElem?_toArray, List.getElem?_cons_zero, List.getElem?_cons_succ]; rfl) (fun K' hK => ?_) AllReadyH.nil
                go_simp
                have HY7 := Lib.hid (box3 ((Below.heap_setCell w5 ⟨w.heap.size + 1, 2, none⟩ (.slice o5 (k + 1) c5) wr.heap.size (by show wr.heap.size ≠ w.heap.size + 1; omega)).trans HBX5.out)).1
                refine hK.out _ _ HY7.out (fun _ => ?_)
                clear hK
                try simp only [Act.put, List.setIfInBounds_toArray, List.set_cons_zero, List.set_cons_succ]
                refine wpAnyH_done (by kernel_rfl) ?_ _
                refine NoPanic.normal ?_
                go_wp2_with fail
                exact ⟨⟨k + 1, _, by omega, by go_num, HST5⟩, by simp [intOf]; omega⟩
              · refine AllReadyH.cons (by simp only [List.getElem?_toArray, List.getElem?_cons_zero, List.getElem?_cons_succ]; rfl) (fun K' hK => ?_) AllReadyH.nil
                go_simp
                have hy5 := (box3 ((Below.heap_alloc wv (.cells #[.string (kb (keepP u (keepsP (t.ts.take k) S).1).2), .bool true, .slice none 0 0] 25) _ HZV.out).trans HBXV.out)).1
                have hx5 := (box3 ((Below.heap_alloc wv (.cells #[.string (kb (keepP u (keepsP (t.ts.take k) S).1).2), .bool true, .slice none 0 0] 25) (w.heap.size + 1) (Array.getElem?_eq_some_iff.1 HOUTV.out).1).trans HOUTV.out)).1.2.2
                have HY5 := Lib.hid hy5
                clear hy5
                refine hK.out _ _ HY5.out (fun _ => ?_)
                clear hK
                try simp only [Act.put, List.setIfInBounds_toArray, List.set_cons_zero, List.set_cons_succ]
                refine wpAnyH_ready (rs := [1]) (by kernel_rfl) (by simp) ?_
                refine AllReadyH.cons (by simp only [List.getElem?_toArray, List.getElem?_cons_zero, List.getElem?_cons_succ]; rfl) (fun K' hK => ?_) AllReadyH.nil
                go_simp
                refine hK.out _ _ HY5.out (fun _ => ?_)
                clear hK
                try simp only [Act.put, List.setIfInBounds_toArray, List.set_cons_zero, List.set_cons_succ]
                refine wpAnyH_ready (rs := [7]) (by kernel_rfl) (by simp) ?_
                refine AllReadyH.cons (by simp only [List.getElem?_toArray, List.getElem?_cons_zero, List.getElem?_cons_succ]; rfl) (fun K' hK => ?_) AllReadyH.nil
                refine step_append_opt rfl (.tmp 26) (.tmp 31) 23 rfl (w.heap.size + 2) 25 i0 (.agg #[.string ⟨#[]⟩, .bool false, .slice none 0 0]) 3 48 Tryz.underlying23 HI.out HZ.out HS1.out HB1.out rfl (by decide) (.slice ov k cv) k (stCells (vch (keepsP (t.ts.take k) S).2)) rfl (((ownsRow_kpc (HROW.out.kept (below_grown HLOWA.out) (own_none _)) HK4.out).kept (below_grown HBV.out) (own_none _)).kept (below_grown ((Below.refl _ _).alloc (Nat.le_refl _) _)) (own_none _)) (some ⟨wv.heap.size, 0, none⟩) 1 1 [.string (kb (keepP u (keepsP (t.ts.take k) S).1).2), .bool true, .slice none 0 0] rfl rfl (fun h => by cases h) (fun ad had => by cases had; exact cells_new3 _ _ _ _ _) (by simp [Value.oneCell']) (by unfold maxLen; omega) (by omega) (by have := HZV.out; simp; omega) ?_
                intro v5 w5 ho5 hg5 hat5
                obtain ⟨o5, c5, rfl⟩ := ownsRow_shape ho5
                have hout5 := (hg5.block (w.heap.size + 1) (by have := (Array.getElem?_eq_some_iff.1 HOUTV.out).1; simp; omega) (fun e => by have := (HOWN.out _ e.symm).1; omega)).trans ((Below.heap_alloc _ _ _ (Array.getElem?_eq_some_iff.1 HOUTV.out).1).trans HOUTV.out)
                have hbx5 := (hg5.block wr.heap.size (by have := HZV.out; simp; omega) (fun e => by have := (HOWN.out _ e.symm).2; omega)).trans ((Below.heap_alloc _ _ _ HZV.out).trans HBXV.out)
                obtain ⟨⟨x0, x1, x2⟩, f0, f1, f2⟩ := box3 hout5
                have HBX5 := Lib.hid hbx5
                have HY6 := Lib.hid (box3 hbx5).1
                have HST5 := Lib.hid (HST.out.step HG.out HSV.out.gw hn hsb hm1 hm2 HU.out HLOWA.out HSV4.out HK4.out (HBV.out.trans ((Below.refl _ wv).alloc HZ4V.out _)) hg5 ho5 hat5)
                clear ho5 hg5 hat5 hout5 hbx5
                refine hK.out _ _ HY6.out (fun _ => ?_)
                clear hK
                try simp only [Act.put, List.setIfInBounds_toArray, List.set_cons_zero, List.set_cons_succ]
                refine wpAnyH_take (i := 8) (v := ?_) (by simp only [List.getElem?_toArray, List.getElem?_cons_zero, List.getElem?_cons_succ]; rfl) (by kernel_rfl) (by kernel_rfl) (by kernel_rfl) (fun _ _ _ h => h) (Or.inl ⟨by rfl, ?_⟩) HY6.out ?_
                case refine_2 => (intro ww hSw; obtain ⟨s1, s2, s3⟩ := hSw; go_simp; try with_reducible rfl)
                try simp only [Act.put, List.setIfInBounds_toArray, List.set_cons_zero, List.set_cons_succ]
                refine wpAnyH_ready (rs := [9]) (by kernel_rfl) (by simp) ?_
                refine AllReadyH.cons (by simp only [List.getElem?_toArray, List.getElem?_cons_zero, List.getElem?_cons_succ]; rfl) (fun K' hK => ?_) AllReadyH.nil
                go_simp
                have HY7 := Lib.hid (box3 ((Below.heap_setCell w5 ⟨w.heap.size + 1, 2, none⟩ (.slice o5 (k + 1) c5) wr.heap.size (by show wr.heap.size ≠ w.heap.size + 1; omega)).trans HBX5.out)).1
                refine hK.out _ _ HY7.out (fun _ => ?_)
                clear hK
                try simp only [Act.put, List.setIfInBounds_toArray, List.set_cons_zero, List.set_cons_succ]
                refine wpAnyH_done (by kernel_rfl) ?_ _
                refine NoPanic.normal ?_
                go_wp2_with fail
                exact ⟨⟨k + 1, _, by omega, by go_num, HST5⟩, by simp [intOf]; omega⟩
        · obtain rfl : k = t.ts.length := by omega
          obtain ⟨ov, cv, rfl⟩ := ownsRow_shape hst.row
          have htk : t.ts.take t.ts.length = t.ts := List.take_length
          have hsvw := hst.sv
          rw [htk] at hsvw
          have hroww := hst.row
          rw [htk] at hroww
          have hkp := hst.kp
          have hbxs := hkp.cells _ _ _ _ HSV.out.box
          obtain ⟨y0, y1⟩ := box2 hbxs
          obtain ⟨D, hown, hinv⟩ := hsvw.bnd
          have HD := Lib.hid hinv.size
          have HOWND := Lib.hid hown
          have HIT := fun W (hW : GW W) => Lib.hid (HG.out.itoa (keepsP t.ts S).1.bd.length W (by omega) hW)
          have HSVW := Lib.hid hsvw
          have HROWW := Lib.hid hroww
          have HKPW := Lib.hid hkp
          have HOUTW := Lib.hid hst.out
          have HCAT := Lib.hid (hname_cat (keepsP t.ts S).1.bd.length)
          have hlen0 : ((keepsP t.ts S).1.bd.length : Int) = ((keepsP t.ts S).1.bd.length : Int) := rfl
          clear hst hsvw hroww hkp hown hinv htk hlen0
          go_wp2_with (at_len; refine wpList_len_own _ rfl _ 124 rfl 9 25 Tryz.underlying124 _ m1 _ D rfl HOWND.out ?_; rw [HD.out])
          refine (HIT _ HSVW.out.gw).out.mono ?_
          rintro e w4 ⟨rfl, hb4⟩
          have HB4 := Lib.hid hb4
          have HSV4 := Lib.hid (HSVW.out.below HG.out hb4)
          have hbxs4 := (hb4.block sb (Array.getElem?_eq_some_iff.1 hbxs).1).trans hbxs
          have hout4 := (hb4.block _ hzo).trans HOUTW.out
          obtain ⟨y0, y1⟩ := box2 hbxs4
          obtain ⟨⟨x0, x1, x2⟩, -⟩ := box3 hout4
          have HY4 := Lib.hid (And.intro y0 (box3 hout4).1)
          have HOUT4 := Lib.hid hout4
          have HROW4 := Lib.hid (HROWW.out.kept (below_grown hb4) (own_none _))
          have hdg := digN_size (keepsP t.ts S).1.bd.length
          clear hb4 hbxs hbxs4 hout4
          go_wp2_with fail
          rw [HCAT.out]
          obtain ⟨D4, hown4, hinv4⟩ := HSV4.out.bnd
          have HOWN4 := Lib.hid hown4
          have HINV4 := Lib.hid hinv4
          clear hown4 hinv4
          refine wp_region_noPanic ?_
          refine wp_region_held_drew (S := fun w' => w'.cell? ⟨sb, 0, none⟩ = some (.map (some m1)) ∧ w'.cell? ⟨w.heap.size + 1, 0, none⟩ = some (.string t.nm) ∧ w'.cell? ⟨w.heap.size + 1, 1, none⟩ = some (.bool false) ∧ w'.cell? ⟨w.heap.size + 1, 2, none⟩ = some (.slice ov t.ts.length cv)) (by kernel_rfl) HY4.out (fun _ => ?_)
          simp only [List.size_toArray, List.length_cons, List.length_nil, Nat.reduceAdd]
          refine wpAnyH_take (i := 0) (v := ?_) (by simp only [List.getElem?_toArray, List.getElem?_cons_zero]; rfl) (by kernel_rfl) (by kernel_rfl) (by kernel_rfl) (fun _ _ _ h => h) (Or.inl ⟨by rfl, ?_⟩) HY4.out ?_
          case refine_2 => (intro ww hSw; obtain ⟨s0, s1, s2, s3⟩ := hSw; go_simp; try with_reducible rfl)
          try simp only [Act.put, List.setIfInBounds_toArray, List.set_cons_zero, List.set_cons_succ]
          refine wpAnyH_take (i := 1) (v := ?_) (by simp only [List.getElem?_toArray, List.getElem?_cons_zero, List.getElem?_cons_succ]; rfl) (by kernel_rfl) (by kernel_rfl) (by kernel_rfl) (fun _ _ _ h => h) (Or.inl ⟨by rfl, ?_⟩) HY4.out ?_
          case refine_2 => (intro ww hSw; obtain ⟨s0, s1, s2, s3⟩ := hSw; go_simp; try with_reducible rfl)
          try simp only [Act.put, List.setIfInBounds_toArray, List.set_cons_zero, List.set_cons_succ]
          refine wpAnyH_take (i := 2) (v := ?_) (by simp only [List.getElem?_toArray, List.getElem?_cons_zero, List.getElem?_cons_succ]; rfl) (by kernel_rfl) (by kernel_rfl) (by kernel_rfl) (fun _ _ _ h => h) (Or.inl ⟨by rfl, ?_⟩) HY4.out ?_
          case refine_2 => (intro ww hSw; obtain ⟨s0, s1, s2, s3⟩ := hSw; go_simp; try with_reducible rfl)
          try simp only [Act.put, List.setIfInBounds_toArray, List.set_cons_zero, List.set_cons_succ]
          refine wpAnyH_take (i := 3) (v := ?_) (by simp only [List.getElem?_toArray, List.getElem?_cons_zero, List.getElem?_cons_succ]; rfl) (by kernel_rfl) (by kernel_rfl) (by kernel_rfl) (fun _ _ _ h => h) (Or.inl ⟨by rfl, ?_⟩) HY4.out ?_
          case refine_2 => (intro ww hSw; obtain ⟨s0, s1, s2, s3⟩ := hSw; go_simp; try with_reducible rfl)
          try simp only [Act.put, List.setIfInBounds_toArray, List.set_cons_zero, List.set_cons_succ]
          refine wpAnyH_take (i := 4) (v := ?_) (by simp only [List.getElem?_toArray, List.getElem?_cons_zero, List.getElem?_cons_succ]; rfl) (by kernel_rfl) (by kernel_rfl) (by kernel_rfl) (fun _ _ _ h => h) (Or.inl ⟨by rfl, ?_⟩) HY4.out ?_
          case refine_2 => (intro ww hSw; obtain ⟨s0, s1, s2, s3⟩ := hSw; go_simp; try with_reducible rfl)
          try simp only [Act.put, List.setIfInBounds_toArray, List.set_cons_zero, List.set_cons_succ]
          refine wpAnyH_take (i := 5) (v := ?_) (by simp only [List.getElem?_toArray, List.getElem?_cons_zero, List.getElem?_cons_succ]; rfl) (by kernel_rfl) (by kernel_rfl) (by kernel_rfl) (fun _ _ _ h => h) (Or.inl ⟨by rfl, ?_⟩) HY4.out ?_
          case refine_2 => (intro ww hSw; obtain ⟨s0, s1, s2, s3⟩ := hSw; go_simp; try with_reducible rfl)
          try simp only [Act.put, List.setIfInBounds_toArray, List.set_cons_zero, List.set_cons_succ]
          refine wpAnyH_ready (rs := [6]) (by kernel_rfl) (by simp) ?_
          refine AllReadyH.cons (by simp only [List.getElem?_toArray, List.getElem?_cons_zero, List.getElem?_cons_succ]; rfl) (fun K' hK => ?_) AllReadyH.nil
          refine step_mapUpdate_in rfl (.tmp 45) (.tmp 46) (.tmp 47) 124 rfl 9 25 strKeyed Tryz.underlying124 imgR m1 (keepsP t.ts S).1.bd.length D4 rfl HOWN4.out (by unfold maxLen; omega) (.string (kb (hname (keepsP t.ts S).1.bd.length))) (.agg #[.string t.nm, .bool false, .slice ov t.ts.length cv]) (.string (hname (keepsP t.ts S).1.bd.length)) rfl rfl (keyOf_kb (by have := hname_len (keepsP t.ts S).1.bd.length; omega)) (.held (tmv (.mk t.nm false ((keepsP t.ts S).2.map vrk)) (.slice ov t.ts.length cv))) [] rfl ?_
          intro w5 ho5 ht5
          have HO5 := Lib.hid ho5
          have HT5 := Lib.hid ht5
          have hg5 := ht5.grown
          have hbs5 := (hg5.block sb HSV4.out.sblt (fun e => by cases e; exact HSV4.out.m1map _ _ _ HSV4.out.box)).trans HSV4.out.box
          have hbo5 := (hg5.block (w.heap.size + 1) (Array.getElem?_eq_some_iff.1 HOUT4.out).1 (fun e => by cases e; exact HSV4.out.m1map _ _ _ HOUT4.out)).trans HOUT4.out
          have HY5 := Lib.hid (And.intro (box2 hbs5).1 (box3 hbo5).1)
          clear ho5 ht5 hg5 hbs5 hbo5
          refine hK.out _ _ HY5.out (fun _ => ?_)
          clear hK
          refine wpAnyH_done (by kernel_rfl) ?_ _
          refine NoPanic.normal ?_
          go_wp2_with fail
          go_ret
          rw [HKP.out]
          have hS4 := HSV4.out
          have hl4 : (keepsP t.ts S).1.bd.length < 1048576 := by omega
          have hks : ∀ a ∈ (keepsP t.ts S).2, Kn (keepsP t.ts S).1 a := by
            have := keepP_ok t S HSV.out.ok HKN.out (fun u => by obtain ⟨E, _, he⟩ := HSV.out.eql; exact he.free u) (by rw [HKP.out]; simp; omega)
            exact this.2.2.2 hv
          have hfr := hS4.ok.fresh hl4
          have hk45 : KpC n₀ w4 w5 := KpC.trans (B := w4.drew) ⟨(Below.refl _ _).drew, fun _ _ _ _ h => h⟩ (KpC.turned HT5.out hn1)
          have hk04 : KpC n₀ w w4 := HKPW.out.trans (KpC.of_below HB4.out (Nat.le_trans hn HKPW.out.size))
          refine ⟨rfl, ⟨HG.out.keep _ _ HSV.out.gw ((hk04.trans hk45).mono (Nat.zero_le _)), hk45.cells _ _ _ _ hS4.box, ?_, ?_, hS4.ne, ?_⟩, hk04.trans hk45⟩
          · have hrow := SlP.ofRow (p := fun b => b < w.heap.size → p b) (ch := vch (keepsP t.ts S).2) (by rw [vch_len, keepsP_len]; exact HROW4.out) (fun b hb hlt => by omega) (vch_kids _)
            rw [vch_map] at hrow
            have h := TMapP.store (k := hname (keepsP t.ts S).1.bd.length) (t := .mk t.nm false ((keepsP t.ts S).2.map vrk)) (p := fun b => b < w.heap.size → p b) (W := w4) (W' := w5) (s := .slice ov t.ts.length cv) ⟨HINV4.out.tidy, HINV4.out.nodup, HINV4.out.size, HINV4.out.has, fun k u hg => by obtain ⟨s', h1, h2⟩ := HINV4.out.at_ k u hg; exact ⟨s', h1, h2.carry fun b hb => ⟨rfl, hb.1⟩⟩⟩ hrow HO5.out hk45
            rwa [putA_new _ hfr.1] at h
          · obtain ⟨E, hE, he⟩ := hS4.eql
            exact ⟨E, hE.kept (HT5.out.grown.block m2 hE.lt (fun e => by cases e; exact hS4.ne rfl)), he⟩
          · exact hS4.ok.add hks HKN.out.node.1 (by rw [keepsP_len]; exact HKN.out.node.2)
end Go.Proofs.YtgmloanagpkjeaaGreatDoor
