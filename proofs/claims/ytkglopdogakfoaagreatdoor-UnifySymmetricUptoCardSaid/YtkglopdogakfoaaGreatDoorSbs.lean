/- subst: the substitution of a solver. -/
import Derived.WalkKit
import Derived.ProofKit
import Derived.OpenShut
import Derived.Handy
import Derived.Lib.Hide
import Derived.Test.YtkglopdogakfoaaGreatDoorBld
import Derived.Test.YtkglopdogakfoaaGreatDoorMsu
namespace Go.Proofs.YtkglopdogakfoaaGreatDoor
open Go.RowKit Go.Maps Go.Sort

/-- bindings being gathered while the solver's ways are shortened -/
structure SbSt (GW : World → Prop) (sb m1 m2 : Nat) (P : Nat → Prop) (S : Sv) (w W : World) (v : Value) (es : List Elem) : Prop where
  row : W.ownsRow w.heap.size 61 4 v es.length (ecells es)
  kids : ∀ x ∈ es, SlP (fun b => w.heap.size ≤ b ∧ b < W.heap.size ∧ some b ≠ v.ownBlock) W x.1.2.ts (Elem.sl x)
  fr : FrX (· = m2) w W
  sv : SvIs GW sb m1 m2 P S W
theorem SbSt.step {N : Nat} {GW : World → Prop} (hG : ItoaOk N GW) {sb m1 m2 : Nat} {P : Nat → Prop} {S : Sv} {w W W4 B W5 : World} {v v5 : Value} {es : List Elem} {x : Elem} (st : SbSt GW sb m1 m2 P S w W v es) (hS1 : SvIs GW sb m1 m2 P S w) (hP : ∀ b, P b → b < w.heap.size)
    (h4 : SvIs GW sb m1 m2 P S W4) (hf4 : FrX (· = m2) W W4) (hx : SlP (fun b => W.heap.size ≤ b ∧ b < W4.heap.size) W4 x.1.2.ts (Elem.sl x)) (hB : Below W4.heap.size W4 B) (h5 : B.grownBy W5 v.ownBlock)
    (ho : W5.ownsRow w.heap.size 61 4 v5 (es.length + 1) (ecells es ++ encE x)) (hat : v5.ownBlock = v.ownBlock ∨ v5.ownBlock = some B.heap.size) : SbSt GW sb m1 m2 P S w W5 v5 (es ++ [x]) := by
  have z0 := st.fr.size
  have z4 := hf4.size
  have zB := hB.size
  have z5 := h5.size
  have zm1 := hS1.bnd.lt
  have zm2 := hS1.m2lt
  have zsb := hS1.sblt
  have own : ∀ j, v.ownBlock = some j → w.heap.size ≤ j ∧ j < W.heap.size := fun j hj => st.row.lt j hj
  have late : ∀ b, b < W4.heap.size → some b ≠ v.ownBlock → W5.heap[b]? = W4.heap[b]? := fun b hb h2 => (h5.block b (by omega) h2).trans (hB.block b hb)
  have notown : ∀ b, b < w.heap.size → some b ≠ v.ownBlock := fun b hb e => by have := (own b e.symm).1; omega
  have hfr : FrX (· = m2) w W5 := ⟨h5.os.trans (hB.os.trans (hf4.os.trans st.fr.os)), h5.tape.trans (hB.tape.trans (hf4.tape.trans st.fr.tape)), h5.output.trans (hB.output.trans (hf4.output.trans st.fr.output)), by omega, fun b hb hc => (late b (by omega) (notown b hb)).trans ((hf4.block b (by omega) hc).trans (st.fr.block b hb hc))⟩
  refine ⟨?_, ?_, hfr, ?_⟩
  · rw [List.length_append, ecells_append, show ecells [x] = encE x by simp [ecells]]; exact ho
  · intro y hy
    rcases List.mem_append.1 hy with hy | hy
    · refine (st.kids y hy).carry fun b hb => ⟨(late b (by omega) hb.2.2).trans (hf4.block b hb.2.1 (by omega)), hb.1, by omega, ?_⟩
      rcases hat with e | e
      · rw [e]; exact hb.2.2
      · rw [e]; intro hh; cases hh; omega
    · obtain rfl := List.mem_singleton.1 hy
      have q3 : ∀ b, W.heap.size ≤ b → some b ≠ v.ownBlock := fun b hb e => by have := (own b e.symm).2; omega
      refine hx.carry fun b hb => ⟨late b hb.2 (q3 b hb.1), by omega, by omega, ?_⟩
      rcases hat with e | e
      · rw [e]; exact q3 b hb.1
      · rw [e]; intro hh; cases hh; omega
  · have hkp : KpC 0 w W5 := hfr.kpc (Nat.zero_le _) fun k hk => ⟨Nat.zero_le _, by subst hk; exact hS1.m2map⟩
    exact h4.carry (hG.keep _ _ hS1.gw hkp) (late sb (by omega) (notown sb zsb)) (late m1 (by omega) (notown m1 zm1)) (late m2 (by omega) (notown m2 zm2)) fun b hb hlt => ⟨late b hlt (notown b (hP b hb)), hb⟩
def subS (S : Sv) (rk : Key → Nat) (L : List Key) : List Bd := L.map fun k => (k, res S rk k)
set_option maxRecDepth 100000 in
set_option maxHeartbeats 4000000 in
theorem usubst_any {N : Nat} {GW : World → Prop} (HG : Hid (ItoaOk N GW)) (sb m1 m2 : Nat) (S : Sv) (rk : Key → Nat) (ha : Acy S rk) (hel : S.eq.length ≤ 1048576) (p : Nat → Prop) (w : World) (hS0 : SvIs GW sb m1 m2 p S w) :
    Calls Tryz.prog 115 #[.pointer (some ⟨sb, 0, none⟩)] w fun e w' => (∃ (v : Value) (L : List Key), e = .returned v ∧ BindsIs w'.heap.size w' (subS S rk L) v ∧ Chg S L) ∧ SvIs GW sb m1 m2 p S w' ∧ FrX (· = m2) w w' := by
  obtain ⟨P, hP⟩ : ∃ P : Nat → Prop, ∀ b, P b ↔ p b ∧ b < w.heap.size := ⟨_, fun b => Iff.rfl⟩
  have hS : SvIs GW sb m1 m2 P S w := hS0.weak fun b h1 h2 => (hP b).2 ⟨h1, h2⟩
  have HBACK : Hid (∀ (W : World), SvIs GW sb m1 m2 P S W → SvIs GW sb m1 m2 p S W) := Lib.hid fun W h => h.weak fun b h1 _ => ((hP b).1 h1).1
  have HLOW : Hid (∀ b, P b → b < w.heap.size) := Lib.hid fun b h => ((hP b).1 h).2
  clear hP hS0
  obtain ⟨i0, hi, hz, hs1, hbb1⟩ := info_parts infoBind
  have HI := Lib.hid hi
  have HZ := Lib.hid hz
  have HS1 := Lib.hid hs1
  have HBB := Lib.hid hbb1
  have HCHG := Lib.hid (changed_any HG sb m1 m2 S hel P _ hS)
  have HACY := Lib.hid ha
  have HS0 := Lib.hid hS
  have hm1 := hS.bnd.lt
  have hm2 := hS.m2lt
  clear hi hz hs1 hbb1 hS ha
  go_enter Tryz.func115, Tryz.ntmps115
  go_wp2_with fail
  refine HCHG.out.mono ?_
  rintro e wb ⟨⟨vL, L, rfl, hL, hchg⟩, hwb⟩
  have hL' := hL
  obtain ⟨oa, cap, rfl, hcap, -, hcell⟩ := hL'
  have hll : L.length ≤ 1048576 := by
    have hn : L.Nodup := hchg.1.imp (fun h e => by subst e; exact absurd h (List.lt_irrefl _))
    have := nodup_len hn (K := S.eq.map (·.1)) fun x hx => ((hchg.2 x).1 hx).1
    simp at this; omega
  have HWB := Lib.hid hwb
  have HL := Lib.hid hL
  have HC := Lib.hid hchg
  have hwz := hwb.size
  have HSB := Lib.hid (HS0.out.below HG.out hwb)
  have HPB : Hid (∀ b, P b → b < wb.heap.size) := Lib.hid fun b h => Nat.lt_of_lt_of_le (HLOW.out b h) hwz
  clear hL hwb hchg hcell HCHG
  go_wp2_with fail
  go_loopw [3, 9] (fun v i wr => ∃ (j : Nat) (es : List Elem), j ≤ L.length ∧ i = .int .i64 j ∧ Hid (SbSt GW sb m1 m2 P S wb wr v es) ∧ Hid (es.map (·.1) = (L.take j).map fun k => (k, res S rk k))) (fun _ i _ => L.length - (intOf i).toNat)
  case atStart => exact ⟨0, [], by omega, rfl, Lib.hid ⟨World.ownsRow_nil _ _ _ _, by simp, FrX.refl _ _, HSB.out⟩, Lib.hid (by simp)⟩
  case round =>
    obtain ⟨j, es, hj, rfl, HST, HES⟩ := hrel
    obtain ⟨or, cr, rfl⟩ := ownsRow_shape HST.out.row
    by_cases hlt : j < L.length
    · obtain ⟨k, hk⟩ : ∃ k, L[j]? = some k := ⟨_, List.getElem?_eq_getElem hlt⟩
      have hkm := (HC.out.2 k).1 (List.mem_of_getElem? hk)
      have hkp : KpC 0 wb wr := HST.out.fr.kpc (Nat.zero_le _) fun k hk => ⟨Nat.zero_le _, by subst hk; exact HSB.out.m2map⟩
      obtain ⟨oa2, cap2, e2, -, -, hc2⟩ := HL.out.kpc hkp HST.out.fr.size
      cases e2
      obtain ⟨b1, p1, rfl, hb1, hc1⟩ := hc2 (by intro e; rw [e] at hlt; simp at hlt)
      have c1 := hc1 j k hk
      have HCL := Lib.hid (build_any HG sb m1 m2 S rk HACY.out hel _ P k wr rfl (univ_eq hkm.1) HST.out.sv)
      have HTK : Hid (L.take (j + 1) = L.take j ++ [k]) := Lib.hid (by rw [List.take_add_one, hk]; rfl)
      have HESL : Hid (es.length = j) := Lib.hid (by have := congrArg List.length HES.out; simp at this; omega)
      have hzr := HST.out.fr.size
      clear hk hkm hc2 hc1 hkp
      generalize hx : res S rk k = x at HCL
      have HX := Lib.hid hx
      clear hx
      go_wp2_with fail
      refine HCL.out.mono ?_
      rintro e w5 ⟨⟨s5, rfl, h5⟩, hsv5, hf5⟩
      obtain ⟨o5, k5, rfl⟩ := h5.form
      dsimp only [tmv]
      have H5 := Lib.hid h5
      have HF5 := Lib.hid hf5
      have HSV5 := Lib.hid hsv5
      have hz5 := hf5.size
      have hk5 : KpC 0 wr w5 := hf5.kpc (Nat.zero_le _) fun k hk => ⟨Nat.zero_le _, by subst hk; exact HST.out.sv.m2map⟩
      have HROW := Lib.hid (ownsRow_kpc HST.out.row hk5)
      clear h5 hf5 hsv5 hk5 HCL
      go_wp2_with (first
        | (at_builtin
           refine wpList_append_opt rfl (.tmp 13) (.tmp 19) 53 rfl wb.heap.size 61 i0 (.agg #[.string ⟨#[]⟩, .string ⟨#[]⟩, .bool false, .slice none 0 0]) 4 64 Tryz.underlying53 HI.out HZ.out HS1.out HBB.out rfl (by decide) (.slice or es.length cr) es.length (ecells es) rfl (HROW.out.alloc _) (some ⟨w5.heap.size, 0, none⟩) 1 1 (encE ((k, x), (o5, x.ts.length, k5))) rfl rfl (fun h => by cases h) (fun ad had => by cases had; exact cells_new4 _ _ _) (encE_one _) (by have := HESL.out; unfold maxLen; omega) (by have := HESL.out; omega) (by simp; omega) ?_
           intro v7 w7 ho7 hg7 hat7
           have HST7 := Lib.hid (HST.out.step (x := ((k, x), (o5, x.ts.length, k5))) HG.out HSB.out HPB.out HSV5.out HF5.out H5.out ((Below.refl _ _).alloc (Nat.le_refl _) _) hg7 ho7 hat7)
           clear ho7 hg7 hat7))
      exact ⟨⟨j + 1, es ++ [((k, x), (o5, x.ts.length, k5))], by omega, by go_num, HST7, Lib.hid (by rw [List.map_append, HES.out, HTK.out, List.map_append, ← HX.out]; rfl)⟩, by simp [intOf]; omega⟩
    · obtain rfl : j = L.length := by omega
      have HES2 : Hid (es.map (·.1) = subS S rk L) := Lib.hid (by have := HES.out; rwa [List.take_length] at this)
      go_wp2_with fail
      go_ret
      refine ⟨⟨_, L, rfl, ?_, HC.out⟩, HBACK.out _ HST.out.sv, (FrX.of_below HWB.out).trans HST.out.fr⟩
      rw [← HES2.out]
      exact BindsIs.ofE HST.out.row (Nat.le_refl _) fun x hx => (HST.out.kids x hx).toIs fun b hb => hb.2.1
end Go.Proofs.YtkglopdogakfoaaGreatDoor
