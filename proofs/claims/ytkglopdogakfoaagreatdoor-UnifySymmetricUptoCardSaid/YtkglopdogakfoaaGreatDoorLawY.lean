/- The law UnifySymmetric. -/
import Derived.WalkKit
import Derived.ProofKit
import Derived.OpenShut
import Derived.Handy
import Derived.Lib.Hide
import Derived.Deep.RegionHeld3
import Derived.Test.YtkglopdogakfoaaGreatDoorGtb
import Derived.Test.YtkglopdogakfoaaGreatDoorGn
namespace Go.Proofs.YtkglopdogakfoaaGreatDoor
open Go.RowKit

theorem Chg.len {S : Sv} {L : List Key} (h : Chg S L) : L.length ≤ S.eq.length := by
  have hn : L.Nodup := h.1.imp (fun h e => by subst e; exact absurd h (List.lt_irrefl _))
  have := nodup_len hn (K := S.eq.map (·.1)) fun x hx => ((h.2 x).1 hx).1
  simpa using this
/-- both ways there is a unifier -/
structure BothOk (a b : Tm) (V U : List Bd) : Prop where
  ok1 : SubOk V
  ok2 : SubOk U
  len1 : V.length ≤ 16000
  len2 : U.length ≤ 16000
  var : canon (apB V a) = canon (apB U a)
theorem bothOk {a b : Tm} {S T : Sv} {rk rl : Key → Nat} (h : Mgu a b S rk) (k : Mgu b a T rl) (ha : a.formed) (hb : b.formed) (hf : FitS S rk) (hg : FitS T rl) {L M : List Key} (hL : Chg S L) (hM : Chg T M) : BothOk a b (subS S rk L) (subS T rl M) := by
  refine ⟨h.subOk ha hb hL hf, k.subOk hb ha hM hg, ?_, ?_, ?_⟩
  · have := hL.len; have := h.el; unfold subS; rw [List.length_map]; omega
  · have := hM.len; have := k.el; unfold subS; rw [List.length_map]; omega
  · rw [h.inst ha hb hL, k.inst' ha hb hM]; exact h.variants k ha hb

set_option maxRecDepth 100000 in
set_option maxHeartbeats 16000000 in
theorem symmetric_any (a b : Tm) (sa sb : Value) (w : World) (hgw : GT w) (ha : SlIs w.heap.size w a.ts sa) (hb : SlIs w.heap.size w b.ts sb) (hbab : a.bulk + b.bulk ≤ 1048576) :
    Calls Tryz.prog 9 #[tmv a sa, tmv b sb] w fun e w' => e = .returned (.bool true) ∧ Below w.heap.size w w' := by
  obtain ⟨oa, ca, rfl, -⟩ := ha.form
  obtain ⟨ob, cb, rfl, -⟩ := hb.form
  have hba : a.bulk ≤ 1048576 := by omega
  have hbb : b.bulk ≤ 1048576 := by omega
  have hA1 : Below w.heap.size w (w.alloc (.cells #[.string a.nm, .bool a.vr, .slice oa a.ts.length ca] 25)) := by go_grown
  have hA2 := (Below.refl _ (w.alloc (.cells #[.string a.nm, .bool a.vr, .slice oa a.ts.length ca] 25))).alloc (Nat.le_refl _) (.cells #[.string b.nm, .bool b.vr, .slice ob b.ts.length cb] 25)
  have hbx2 := TBx.new (A := w.alloc (.cells #[.string a.nm, .bool a.vr, .slice oa a.ts.length ca] 25)) (t := b) (s := .slice ob b.ts.length cb) (hb.carry hA1 hA1.size)
  rw [show (w.alloc (.cells #[.string a.nm, .bool a.vr, .slice oa a.ts.length ca] 25)).heap.size = w.heap.size + 1 from by simp] at hbx2
  have HM0 : Hid (LmSt w ((w.alloc (.cells #[.string a.nm, .bool a.vr, .slice oa a.ts.length ca] 25)).alloc (.cells #[.string b.nm, .bool b.vr, .slice ob b.ts.length cb] 25)) a b (.slice oa a.ts.length ca) (.slice ob b.ts.length cb) [] (.slice none 0 0)) := Lib.hid
    ⟨(TBx.new (t := a) ha).carry hA2, hbx2, ⟨_, _, rfl, Nat.le_refl _, fun h => absurd rfl h⟩, hA1.trans (hA2.mono hA1.size)⟩
  have HG0 := Lib.hid (itoa_tab.keep _ _ hgw (KpC.of_below (hA1.trans (hA2.mono hA1.size)) (Nat.zero_le _)))
  clear ha hb hA1 hA2 hbx2 hgw
  go_enter Tryz.func9, Tryz.ntmps9
  rw [show tmv a (.slice oa a.ts.length ca) = .agg #[.string a.nm, .bool a.vr, .slice oa a.ts.length ca] from rfl, show tmv b (.slice ob b.ts.length cb) = .agg #[.string b.nm, .bool b.vr, .slice ob b.ts.length cb] from rfl]
  go_wp2_with fail
  refine (uunify_full itoa_table (by omega) a b (.slice oa a.ts.length ca) (.slice ob b.ts.length cb) _ HG0.out HM0.out.a.is HM0.out.b.is hba hbb).mono ?_
  rintro e w1 ⟨hp, hb1⟩
  have HM1 := Lib.hid (HM0.out.carry hb1)
  have HG1 := Lib.hid (itoa_tab.keep _ _ HG0.out (KpC.of_below hb1 (Nat.zero_le _)))
  obtain ⟨⟨x0, x1, x2⟩, -⟩ := box3 HM1.out.a.box; obtain ⟨⟨y0, y1, y2⟩, -⟩ := box3 HM1.out.b.box
  clear hb1 HM0 HG0
  have HUN := Lib.hid (uunify_full itoa_table (by omega) b a (.slice ob b.ts.length cb) (.slice oa a.ts.length ca) w1 HG1.out HM1.out.b.is HM1.out.a.is hbb hba)
  rcases hp with ⟨c, hc, rfl, hno⟩ | ⟨hA, hB, hno, rfl⟩ | ⟨hA, hB, S, rk, hm, ⟨hnf, rfl⟩ | ⟨hfit, v1, L1, rfl, hv, hL⟩⟩
  · have HNO := Lib.hid hno
    have hcb : (c != 0) = true := by rw [bne_iff_ne]; exact hc
    clear hno hc
    go_wp2_with fail
    refine HUN.out.mono ?_
    rintro e w2 ⟨hp, hb2⟩
    have HM2 := Lib.hid (HM1.out.carry hb2)
    rcases hp with ⟨d, hd, rfl, -⟩ | ⟨hB, hA, -⟩ | ⟨hB, hA, -⟩
    · have hdb : (d != 0) = true := by rw [bne_iff_ne]; exact hd
      clear hd
      obtain ⟨⟨x0, x1, x2⟩, -⟩ := box3 HM2.out.a.box; obtain ⟨⟨y0, y1, y2⟩, -⟩ := box3 HM2.out.b.box
      have hX : Below w2.heap.size w2 (w2.alloc (.cells #[.string a.nm, .bool a.vr, .slice oa a.ts.length ca, .string b.nm, .bool b.vr, .slice ob b.ts.length cb] 25)) := by go_grown
      have HCA := Lib.hid (rcheckAll_any [a, b] (.slice (some ⟨w2.heap.size, 0, none⟩) 2 2) _ (rowIs [(a, (.slice oa a.ts.length ca)), (b, (.slice ob b.ts.length cb))] (heap_new_at w2 (.cells #[.string a.nm, .bool a.vr, .slice oa a.ts.length ca, .string b.nm, .bool b.vr, .slice ob b.ts.length cb] 25) _ rfl) (by simp) (by simp only [List.mem_cons, List.not_mem_nil, or_false]; rintro c (rfl | rfl); exact HM2.out.a.is.carry hX hX.size; exact HM2.out.b.is.carry hX hX.size)) (by simp only [Tm.bulks]; omega))
      have HX := Lib.hid hX
      clear hX
      go_wp2_with fail
      refine HCA.out.mono ?_
      rintro e w3 ⟨⟨c3, rfl, hc3⟩, hb3⟩
      have HM3 := Lib.hid ((HM2.out.carry HX.out).carry hb3)
      have hcn : (c3 != 0) = true := by rw [bne_iff_ne]; exact fun h => HNO.out ⟨hc3.1 h a (by simp), hc3.1 h b (by simp)⟩
      clear hc3 hb3 hb2
      obtain ⟨⟨x0, x1, x2⟩, -⟩ := box3 HM3.out.a.box; obtain ⟨⟨y0, y1, y2⟩, -⟩ := box3 HM3.out.b.box
      go_wp2_with fail
      refine (alive_any _).mono ?_
      rintro e w9 ⟨rfl, hb9⟩
      have HL9 : Hid (Below w.heap.size w w9) := Lib.hid (HM3.out.low.trans (hb9.mono HM3.out.low.size))
      clear hb9
      go_wp2_with fail
      go_ret
      exact ⟨rfl, HL9.out⟩
    · exact absurd ⟨hA, hB⟩ HNO.out
    · exact absurd ⟨hA, hB⟩ HNO.out
  · have HNO := Lib.hid hno
    have HOKA := Lib.hid hA
    have HOKB := Lib.hid hB
    clear hno hA hB
    go_wp2_with fail
    refine HUN.out.mono ?_
    rintro e w2 ⟨hp, hb2⟩
    have HM2 := Lib.hid (HM1.out.carry hb2)
    rcases hp with ⟨d, hd, rfl, hx⟩ | ⟨hB, hA, -, rfl⟩ | ⟨hB, hA, T, rl, hk, -⟩
    · exact absurd ⟨HOKB.out, HOKA.out⟩ hx
    · clear hA hB
      obtain ⟨⟨x0, x1, x2⟩, -⟩ := box3 HM2.out.a.box; obtain ⟨⟨y0, y1, y2⟩, -⟩ := box3 HM2.out.b.box
      have hX : Below w2.heap.size w2 (w2.alloc (.cells #[.string a.nm, .bool a.vr, .slice oa a.ts.length ca, .string b.nm, .bool b.vr, .slice ob b.ts.length cb] 25)) := by go_grown
      have HCA := Lib.hid (rcheckAll_any [a, b] (.slice (some ⟨w2.heap.size, 0, none⟩) 2 2) _ (rowIs [(a, (.slice oa a.ts.length ca)), (b, (.slice ob b.ts.length cb))] (heap_new_at w2 (.cells #[.string a.nm, .bool a.vr, .slice oa a.ts.length ca, .string b.nm, .bool b.vr, .slice ob b.ts.length cb] 25) _ rfl) (by simp) (by simp only [List.mem_cons, List.not_mem_nil, or_false]; rintro c (rfl | rfl); exact HM2.out.a.is.carry hX hX.size; exact HM2.out.b.is.carry hX hX.size)) (by simp only [Tm.bulks]; omega))
      have HX := Lib.hid hX
      clear hX
      go_wp2_with fail
      refine HCA.out.mono ?_
      rintro e w3 ⟨⟨c3, rfl, hc3⟩, hb3⟩
      have HM3 := Lib.hid ((HM2.out.carry HX.out).carry hb3)
      obtain rfl : c3 = 0 := hc3.2 (by simp only [List.mem_cons, List.not_mem_nil, or_false]; rintro t (rfl | rfl); exact HOKA.out; exact HOKB.out)
      clear hc3 hb3 hb2
      obtain ⟨⟨x0, x1, x2⟩, -⟩ := box3 HM3.out.a.box; obtain ⟨⟨y0, y1, y2⟩, -⟩ := box3 HM3.out.b.box
      go_wp2_with fail
      have HM20 := Lib.hid HM3.out.drew
      refine wp_region_noPanic ?_
      refine wp_region_held_drew (S := fun w' => w'.cell? ⟨w.heap.size, 0, none⟩ = some (.string a.nm) ∧ w'.cell? ⟨w.heap.size, 1, none⟩ = some (.bool a.vr) ∧ w'.cell? ⟨w.heap.size, 2, none⟩ = some (.slice oa a.ts.length ca) ∧ w'.cell? ⟨w.heap.size + 1, 0, none⟩ = some (.string b.nm) ∧ w'.cell? ⟨w.heap.size + 1, 1, none⟩ = some (.bool b.vr) ∧ w'.cell? ⟨w.heap.size + 1, 2, none⟩ = some (.slice ob b.ts.length cb)) (by kernel_rfl) HM20.out.six (fun _ => ?_)
      simp only [List.size_toArray, List.length_cons, List.length_nil, Nat.reduceAdd]
      refine wpAnyH_take (i := 0) (v := ?_) (by simp only [List.getElem?_toArray, List.getElem?_cons_zero]; rfl) (by kernel_rfl) (by kernel_rfl) (by kernel_rfl) (fun _ _ _ h => h) (Or.inl ⟨by rfl, ?_⟩) HM20.out.six ?_
      case refine_2 => (intro ww hSw; obtain ⟨s1, s2, s3, s4, s5, s6⟩ := hSw; go_simp; try with_reducible rfl)
      try simp only [Act.put, List.setIfInBounds_toArray, List.set_cons_zero, List.set_cons_succ]
      refine wpAnyH_take (i := 1) (v := ?_) (by simp only [List.getElem?_toArray, List.getElem?_cons_zero, List.getElem?_cons_succ]; rfl) (by kernel_rfl) (by kernel_rfl) (by kernel_rfl) (fun _ _ _ h => h) (Or.inl ⟨by rfl, ?_⟩) HM20.out.six ?_
      case refine_2 => (intro ww hSw; obtain ⟨s1, s2, s3, s4, s5, s6⟩ := hSw; go_simp; try with_reducible rfl)
      try simp only [Act.put, List.setIfInBounds_toArray, List.set_cons_zero, List.set_cons_succ]
      refine wpAnyH_take (i := 2) (v := ?_) (by simp only [List.getElem?_toArray, List.getElem?_cons_zero, List.getElem?_cons_succ]; rfl) (by kernel_rfl) (by kernel_rfl) (by kernel_rfl) (fun _ _ _ h => h) (Or.inl ⟨by rfl, ?_⟩) HM20.out.six ?_
      case refine_2 => (intro ww hSw; obtain ⟨s1, s2, s3, s4, s5, s6⟩ := hSw; go_simp; try with_reducible rfl)
      try simp only [Act.put, List.setIfInBounds_toArray, List.set_cons_zero, List.set_cons_succ]
      refine wpAnyH_take (i := 3) (v := _) (by simp only [List.getElem?_toArray, List.getElem?_cons_zero, List.getElem?_cons_succ]; rfl) (by kernel_rfl) (by kernel_rfl) (by kernel_rfl) (fun _ _ _ h => h) (Or.inr ⟨by rfl, rfl⟩) HM20.out.six ?_
      try simp only [Act.put, List.setIfInBounds_toArray, List.set_cons_zero, List.set_cons_succ]
      refine wpAnyH_take (i := 4) (v := _) (by simp only [List.getElem?_toArray, List.getElem?_cons_zero, List.getElem?_cons_succ]; rfl) (by kernel_rfl) (by kernel_rfl) (by kernel_rfl) (fun _ _ _ h => h) (Or.inr ⟨by rfl, rfl⟩) HM20.out.six ?_
      try simp only [Act.put, List.setIfInBounds_toArray, List.set_cons_zero, List.set_cons_succ]
      refine wpAnyH_ready (rs := [5]) (by kernel_rfl) (by simp) ?_
      refine AllReadyH.cons (by simp only [List.getElem?_toArray, List.getElem?_cons_zero, List.getElem?_cons_succ]; rfl) (fun K' hK => ?_) AllReadyH.nil
      go_simp
      refine hK.out _ _ HM20.out.six (fun _ => ?_)
      clear hK
      try simp only [Act.put, List.setIfInBounds_toArray, List.set_cons_zero, List.set_cons_succ]
      refine wpAnyH_take (i := 6) (v := _) (by simp only [List.getElem?_toArray, List.getElem?_cons_zero, List.getElem?_cons_succ]; rfl) (by kernel_rfl) (by kernel_rfl) (by kernel_rfl) (fun _ _ _ h => h) (Or.inr ⟨by rfl, rfl⟩) HM20.out.six ?_
      try simp only [Act.put, List.setIfInBounds_toArray, List.set_cons_zero, List.set_cons_succ]
      refine wpAnyH_take (i := 7) (v := ?_) (by simp only [List.getElem?_toArray, List.getElem?_cons_zero, List.getElem?_cons_succ]; rfl) (by kernel_rfl) (by kernel_rfl) (by kernel_rfl) (fun _ _ _ h => h) (Or.inl ⟨by rfl, ?_⟩) HM20.out.six ?_
      case refine_2 => (intro ww hSw; obtain ⟨s1, s2, s3, s4, s5, s6⟩ := hSw; go_simp; try with_reducible rfl)
      try simp only [Act.put, List.setIfInBounds_toArray, List.set_cons_zero, List.set_cons_succ]
      refine wpAnyH_take (i := 8) (v := ?_) (by simp only [List.getElem?_toArray, List.getElem?_cons_zero, List.getElem?_cons_succ]; rfl) (by kernel_rfl) (by kernel_rfl) (by kernel_rfl) (fun _ _ _ h => h) (Or.inl ⟨by rfl, ?_⟩) HM20.out.six ?_
      case refine_2 => (intro ww hSw; obtain ⟨s1, s2, s3, s4, s5, s6⟩ := hSw; go_simp; try with_reducible rfl)
      try simp only [Act.put, List.setIfInBounds_toArray, List.set_cons_zero, List.set_cons_succ]
      refine wpAnyH_take (i := 9) (v := _) (by simp only [List.getElem?_toArray, List.getElem?_cons_zero, List.getElem?_cons_succ]; rfl) (by kernel_rfl) (by kernel_rfl) (by kernel_rfl) (fun _ _ _ h => h) (Or.inr ⟨by rfl, rfl⟩) HM20.out.six ?_
      try simp only [Act.put, List.setIfInBounds_toArray, List.set_cons_zero, List.set_cons_succ]
      refine wpAnyH_take (i := 10) (v := _) (by simp only [List.getElem?_toArray, List.getElem?_cons_zero, List.getElem?_cons_succ]; rfl) (by kernel_rfl) (by kernel_rfl) (by kernel_rfl) (fun _ _ _ h => h) (Or.inr ⟨by rfl, rfl⟩) HM20.out.six ?_
      try simp only [Act.put, List.setIfInBounds_toArray, List.set_cons_zero, List.set_cons_succ]
      refine wpAnyH_ready (rs := [11]) (by kernel_rfl) (by simp) ?_
      refine AllReadyH.cons (by simp only [List.getElem?_toArray, List.getElem?_cons_zero, List.getElem?_cons_succ]; rfl) (fun K' hK => ?_) AllReadyH.nil
      go_simp
      refine hK.out _ _ HM20.out.six (fun _ => ?_)
      clear hK
      try simp only [Act.put, List.setIfInBounds_toArray, List.set_cons_zero, List.set_cons_succ]
      refine wpAnyH_take (i := 12) (v := _) (by simp only [List.getElem?_toArray, List.getElem?_cons_zero, List.getElem?_cons_succ]; rfl) (by kernel_rfl) (by kernel_rfl) (by kernel_rfl) (fun _ _ _ h => h) (Or.inr ⟨by rfl, rfl⟩) HM20.out.six ?_
      try simp only [Act.put, List.setIfInBounds_toArray, List.set_cons_zero, List.set_cons_succ]
      refine wpAnyH_take (i := 13) (v := ?_) (by simp only [List.getElem?_toArray, List.getElem?_cons_zero, List.getElem?_cons_succ]; rfl) (by kernel_rfl) (by kernel_rfl) (by kernel_rfl) (fun _ _ _ h => h) (Or.inl ⟨by rfl, ?_⟩) HM20.out.six ?_
      case refine_2 => (intro ww hSw; obtain ⟨s1, s2, s3, s4, s5, s6⟩ := hSw; go_simp; try with_reducible rfl)
      try simp only [Act.put, List.setIfInBounds_toArray, List.set_cons_zero, List.set_cons_succ]
      refine wpAnyH_take (i := 14) (v := ?_) (by simp only [List.getElem?_toArray, List.getElem?_cons_zero, List.getElem?_cons_succ]; rfl) (by kernel_rfl) (by kernel_rfl) (by kernel_rfl) (fun _ _ _ h => h) (Or.inl ⟨by rfl, ?_⟩) HM20.out.six ?_
      case refine_2 => (intro ww hSw; obtain ⟨s1, s2, s3, s4, s5, s6⟩ := hSw; go_simp; try with_reducible rfl)
      try simp only [Act.put, List.setIfInBounds_toArray, List.set_cons_zero, List.set_cons_succ]
      refine wpAnyH_take (i := 15) (v := _) (by simp only [List.getElem?_toArray, List.getElem?_cons_zero, List.getElem?_cons_succ]; rfl) (by kernel_rfl) (by kernel_rfl) (by kernel_rfl) (fun _ _ _ h => h) (Or.inr ⟨by rfl, rfl⟩) HM20.out.six ?_
      try simp only [Act.put, List.setIfInBounds_toArray, List.set_cons_zero, List.set_cons_succ]
      refine wpAnyH_take (i := 16) (v := _) (by simp only [List.getElem?_toArray, List.getElem?_cons_zero, List.getElem?_cons_succ]; rfl) (by kernel_rfl) (by kernel_rfl) (by kernel_rfl) (fun _ _ _ h => h) (Or.inr ⟨by rfl, rfl⟩) HM20.out.six ?_
      try simp only [Act.put, List.setIfInBounds_toArray, List.set_cons_zero, List.set_cons_succ]
      refine wpAnyH_take (i := 18) (v := _) (by simp only [List.getElem?_toArray, List.getElem?_cons_zero, List.getElem?_cons_succ]; rfl) (by kernel_rfl) (by kernel_rfl) (by kernel_rfl) (fun _ _ _ h => h) (Or.inr ⟨by rfl, rfl⟩) HM20.out.six ?_
      try simp only [Act.put, List.setIfInBounds_toArray, List.set_cons_zero, List.set_cons_succ]
      refine wpAnyH_take (i := 19) (v := _) (by simp only [List.getElem?_toArray, List.getElem?_cons_zero, List.getElem?_cons_succ]; rfl) (by kernel_rfl) (by kernel_rfl) (by kernel_rfl) (fun _ _ _ h => h) (Or.inr ⟨by rfl, rfl⟩) HM20.out.six ?_
      try simp only [Act.put, List.setIfInBounds_toArray, List.set_cons_zero, List.set_cons_succ]
      refine wpAnyH_ready (rs := [17]) (by kernel_rfl) (by simp) ?_
      refine AllReadyH.cons (by simp only [List.getElem?_toArray, List.getElem?_cons_zero, List.getElem?_cons_succ]; rfl) (fun K' hK => ?_) AllReadyH.nil
      go_simp
      refine hK.out _ _ HM20.out.six (fun _ => ?_)
      clear hK
      try simp only [Act.put, List.setIfInBounds_toArray, List.set_cons_zero, List.set_cons_succ]
      refine wpAnyH_ready (rs := [20]) (by kernel_rfl) (by simp) ?_
      refine AllReadyH.cons (by simp only [List.getElem?_toArray, List.getElem?_cons_zero, List.getElem?_cons_succ]; rfl) (fun K' hK => ?_) AllReadyH.nil
      go_simp
      refine hK.out _ _ HM20.out.six (fun _ => ?_)
      clear hK
      try simp only [Act.put, List.setIfInBounds_toArray, List.set_cons_zero, List.set_cons_succ]
      refine wpAnyH_ready (rs := [21]) (by kernel_rfl) (by simp) ?_
      refine AllReadyH.cons (by simp only [List.getElem?_toArray, List.getElem?_cons_zero, List.getElem?_cons_succ]; rfl) (fun K' hK => ?_) AllReadyH.nil
      go_simp
      refine hK.out _ _ HM20.out.six (fun _ => ?_)
      clear hK
      try simp only [Act.put, List.setIfInBounds_toArray, List.set_cons_zero, List.set_cons_succ]
      refine wpAnyH_take (i := 22) (v := ?_) (by simp only [List.getElem?_toArray, List.getElem?_cons_zero, List.getElem?_cons_succ]; rfl) (by kernel_rfl) (by kernel_rfl) (by kernel_rfl) (fun _ _ _ h => h) (Or.inl ⟨by rfl, ?_⟩) HM20.out.six ?_
      case refine_2 => (intro ww hSw; obtain ⟨s1, s2, s3, s4, s5, s6⟩ := hSw; go_simp; try with_reducible rfl)
      try simp only [Act.put, List.setIfInBounds_toArray, List.set_cons_zero, List.set_cons_succ]
      refine wpAnyH_take (i := 23) (v := ?_) (by simp only [List.getElem?_toArray, List.getElem?_cons_zero, List.getElem?_cons_succ]; rfl) (by kernel_rfl) (by kernel_rfl) (by kernel_rfl) (fun _ _ _ h => h) (Or.inl ⟨by rfl, ?_⟩) HM20.out.six ?_
      case refine_2 => (intro ww hSw; obtain ⟨s1, s2, s3, s4, s5, s6⟩ := hSw; go_simp; try with_reducible rfl)
      try simp only [Act.put, List.setIfInBounds_toArray, List.set_cons_zero, List.set_cons_succ]
      refine wpAnyH_ready (rs := [24]) (by kernel_rfl) (by simp) ?_
      refine AllReadyH.cons (by simp only [List.getElem?_toArray, List.getElem?_cons_zero, List.getElem?_cons_succ]; rfl) (fun K' hK => ?_) AllReadyH.nil
      go_simp
      refine (alive_any _).mono ?_
      rintro e w21 ⟨rfl, hb⟩
      have HM21 := Lib.hid (HM20.out.carry hb)
      obtain ⟨⟨x0, x1, x2⟩, -⟩ := box3 HM21.out.a.box; obtain ⟨⟨y0, y1, y2⟩, -⟩ := box3 HM21.out.b.box
      clear hb
      refine hK.out _ _ HM21.out.six (fun _ => ?_)
      clear hK
      try simp only [Act.put, List.setIfInBounds_toArray, List.set_cons_zero, List.set_cons_succ]
      refine wpAnyH_take (i := 25) (v := ?_) (by simp only [List.getElem?_toArray, List.getElem?_cons_zero, List.getElem?_cons_succ]; rfl) (by kernel_rfl) (by kernel_rfl) (by kernel_rfl) (fun _ _ _ h => h) (Or.inl ⟨by rfl, ?_⟩) HM21.out.six ?_
      case refine_2 => (intro ww hSw; obtain ⟨s1, s2, s3, s4, s5, s6⟩ := hSw; go_simp; try with_reducible rfl)
      try simp only [Act.put, List.setIfInBounds_toArray, List.set_cons_zero, List.set_cons_succ]
      refine wpAnyH_ready (rs := [26]) (by kernel_rfl) (by simp) ?_
      refine AllReadyH.cons (by simp only [List.getElem?_toArray, List.getElem?_cons_zero, List.getElem?_cons_succ]; rfl) (fun K' hK => ?_) AllReadyH.nil
      go_simp
      refine hK.out _ _ HM21.out.six (fun _ => ?_)
      clear hK
      try simp only [Act.put, List.setIfInBounds_toArray, List.set_cons_zero, List.set_cons_succ]
      refine wpAnyH_done (by kernel_rfl) ?_ _
      refine NoPanic.normal ?_
      go_wp2_with fail
      go_ret
      exact ⟨rfl, HM21.out.low⟩
    · exact absurd hk.uni.symm (HNO.out _)
  · have HOKA := Lib.hid hA
    have HOKB := Lib.hid hB
    have HNF := Lib.hid hnf
    have HMG := Lib.hid hm
    clear hA hB hnf hm
    go_wp2_with fail
    refine HUN.out.mono ?_
    rintro e w2 ⟨hp, hb2⟩
    have HM2 := Lib.hid (HM1.out.carry hb2)
    rcases hp with ⟨d, hd, rfl, hx⟩ | ⟨hB, hA, hx, rfl⟩ | ⟨hB, hA, T, rl, hk, ⟨hnf, rfl⟩ | ⟨hfit, -⟩⟩
    · exact absurd ⟨HOKB.out, HOKA.out⟩ hx
    · exact absurd HMG.out.uni.symm (hx _)
    · clear hA hB hnf hk
      obtain ⟨⟨x0, x1, x2⟩, -⟩ := box3 HM2.out.a.box; obtain ⟨⟨y0, y1, y2⟩, -⟩ := box3 HM2.out.b.box
      have hX : Below w2.heap.size w2 (w2.alloc (.cells #[.string a.nm, .bool a.vr, .slice oa a.ts.length ca, .string b.nm, .bool b.vr, .slice ob b.ts.length cb] 25)) := by go_grown
      have HCA := Lib.hid (rcheckAll_any [a, b] (.slice (some ⟨w2.heap.size, 0, none⟩) 2 2) _ (rowIs [(a, (.slice oa a.ts.length ca)), (b, (.slice ob b.ts.length cb))] (heap_new_at w2 (.cells #[.string a.nm, .bool a.vr, .slice oa a.ts.length ca, .string b.nm, .bool b.vr, .slice ob b.ts.length cb] 25) _ rfl) (by simp) (by simp only [List.mem_cons, List.not_mem_nil, or_false]; rintro c (rfl | rfl); exact HM2.out.a.is.carry hX hX.size; exact HM2.out.b.is.carry hX hX.size)) (by simp only [Tm.bulks]; omega))
      have HX := Lib.hid hX
      clear hX
      go_wp2_with fail
      refine HCA.out.mono ?_
      rintro e w3 ⟨⟨c3, rfl, hc3⟩, hb3⟩
      have HM3 := Lib.hid ((HM2.out.carry HX.out).carry hb3)
      obtain rfl : c3 = 0 := hc3.2 (by simp only [List.mem_cons, List.not_mem_nil, or_false]; rintro t (rfl | rfl); exact HOKA.out; exact HOKB.out)
      clear hc3 hb3 hb2
      obtain ⟨⟨x0, x1, x2⟩, -⟩ := box3 HM3.out.a.box; obtain ⟨⟨y0, y1, y2⟩, -⟩ := box3 HM3.out.b.box
      go_wp2_with fail
      refine (alive_any _).mono ?_
      rintro e w9 ⟨rfl, hb9⟩
      have HL9 : Hid (Below w.heap.size w w9) := Lib.hid (HM3.out.low.trans (hb9.mono HM3.out.low.size))
      clear hb9
      go_wp2_with fail
      go_ret
      exact ⟨rfl, HL9.out⟩
    · exact absurd ((HMG.out.fits_swap hk HOKA.out.1 HOKB.out.1).2 hfit) HNF.out
  · have HOKA := Lib.hid hA
    have HOKB := Lib.hid hB
    have HFT := Lib.hid hfit
    have HMG := Lib.hid hm
    have HLL := Lib.hid hL
    have HVV := Lib.hid hv
    have hv' := hv
    obtain ⟨ov, cv, rfl, -, -⟩ := hv'
    clear hA hB hfit hm hL hv
    go_wp2_with fail
    refine HUN.out.mono ?_
    rintro e w2 ⟨hp, hb2⟩
    have HM2 := Lib.hid (HM1.out.carry hb2)
    rcases hp with ⟨d, hd, rfl, hx⟩ | ⟨hB, hA, hx, rfl⟩ | ⟨hB, hA, T, rl, hk, ⟨hnf, rfl⟩ | ⟨hfit, v2, L2, rfl, hv, hL2⟩⟩
    · exact absurd ⟨HOKB.out, HOKA.out⟩ hx
    · exact absurd HMG.out.uni.symm (hx _)
    · exact absurd ((HMG.out.fits_swap hk HOKA.out.1 HOKB.out.1).1 HFT.out) hnf
    · have hboth := bothOk HMG.out hk HOKA.out.1 HOKB.out.1 HFT.out hfit HLL.out hL2
      have HUU := Lib.hid hv
      have hv' := hv
      obtain ⟨ou, cu, rfl, -, -⟩ := hv'
      clear hA hB hfit hk hL2 hv HFT HMG HLL
      generalize subS S rk L1 = V at hboth HVV ⊢
      generalize subS T rl L2 = U at hboth HUU ⊢
      have HVO := Lib.hid hboth.ok1
      have HUO := Lib.hid hboth.ok2
      have hvl := hboth.len1
      have hul := hboth.len2
      have HVAR := Lib.hid hboth.var
      have HV2 := Lib.hid (HVV.out.carry hb2 (Nat.le_refl _))
      have HZ12 : Hid (w1.heap.size ≤ w2.heap.size) := Lib.hid hb2.size
      clear hboth
      obtain ⟨⟨x0, x1, x2⟩, -⟩ := box3 HM2.out.a.box; obtain ⟨⟨y0, y1, y2⟩, -⟩ := box3 HM2.out.b.box
      have hX : Below w2.heap.size w2 (w2.alloc (.cells #[.string a.nm, .bool a.vr, .slice oa a.ts.length ca, .string b.nm, .bool b.vr, .slice ob b.ts.length cb] 25)) := by go_grown
      have HCA := Lib.hid (rcheckAll_any [a, b] (.slice (some ⟨w2.heap.size, 0, none⟩) 2 2) _ (rowIs [(a, (.slice oa a.ts.length ca)), (b, (.slice ob b.ts.length cb))] (heap_new_at w2 (.cells #[.string a.nm, .bool a.vr, .slice oa a.ts.length ca, .string b.nm, .bool b.vr, .slice ob b.ts.length cb] 25) _ rfl) (by simp) (by simp only [List.mem_cons, List.not_mem_nil, or_false]; rintro c (rfl | rfl); exact HM2.out.a.is.carry hX hX.size; exact HM2.out.b.is.carry hX hX.size)) (by simp only [Tm.bulks]; omega))
      have HX := Lib.hid hX
      clear hX
      go_wp2_with fail
      refine HCA.out.mono ?_
      rintro e w3 ⟨⟨c3, rfl, hc3⟩, hb3⟩
      have HM3 := Lib.hid ((HM2.out.carry HX.out).carry hb3)
      obtain rfl : c3 = 0 := hc3.2 (by simp only [List.mem_cons, List.not_mem_nil, or_false]; rintro t (rfl | rfl); exact HOKA.out; exact HOKB.out)
      have HV3 := Lib.hid ((HV2.out.carry (HX.out.mono HZ12.out) (Nat.le_refl _)).carry (hb3.mono (Nat.le_trans HZ12.out HX.out.size)) (Nat.le_refl _))
      have HU3 := Lib.hid ((HUU.out.carry HX.out (Nat.le_refl _)).carry (hb3.mono HX.out.size) (Nat.le_refl _))
      have HZ3 := Lib.hid (Nat.le_trans HX.out.size hb3.size)
      have HZ13 := Lib.hid (Nat.le_trans HZ12.out HZ3.out)
      clear hc3 hb3 hb2
      obtain ⟨⟨x0, x1, x2⟩, -⟩ := box3 HM3.out.a.box; obtain ⟨⟨y0, y1, y2⟩, -⟩ := box3 HM3.out.b.box
      have HM20 := Lib.hid HM3.out.drew
      have HV20 := Lib.hid (HV3.out.carry ((Below.refl _ _).drew.mono HZ13.out) (Nat.le_refl _))
      have HU20 := Lib.hid (HU3.out.carry ((Below.refl _ _).drew.mono HZ3.out) (Nat.le_refl _))
      have HZ20 : Hid (w2.heap.size ≤ w3.drew.heap.size) := Lib.hid HZ3.out
      have HZ120 : Hid (w1.heap.size ≤ w3.drew.heap.size) := Lib.hid HZ13.out
      by_cases hf1 : (apB V a).size ≤ 4000 ∧ (apB V a).depth ≤ 200
      · have HF1 : Hid (decide ((apB V a).size ≤ 4000 ∧ (apB V a).depth ≤ 200) = true) := Lib.hid (decide_eq_true hf1)
        have HO1 := Lib.hid (show (apB V a).ok from ⟨apB_formed (fun q hq => (HVO.out.terms q hq).1) HOKA.out.1, hf1.1, hf1.2⟩)
        clear hf1
        by_cases hf2 : (apB U a).size ≤ 4000 ∧ (apB U a).depth ≤ 200
        · have HF2 : Hid (decide ((apB U a).size ≤ 4000 ∧ (apB U a).depth ≤ 200) = true) := Lib.hid (decide_eq_true hf2)
          have HO2 := Lib.hid (show (apB U a).ok from ⟨apB_formed (fun q hq => (HUO.out.terms q hq).1) HOKA.out.1, hf2.1, hf2.2⟩)
          clear hf2
          go_wp2_with fail
          go_region_held3 (fun w' => w'.cell? ⟨w.heap.size, 0, none⟩ = some (.string a.nm) ∧ w'.cell? ⟨w.heap.size, 1, none⟩ = some (.bool a.vr) ∧ w'.cell? ⟨w.heap.size, 2, none⟩ = some (.slice oa a.ts.length ca) ∧ w'.cell? ⟨w.heap.size + 1, 0, none⟩ = some (.string b.nm) ∧ w'.cell? ⟨w.heap.size + 1, 1, none⟩ = some (.bool b.vr) ∧ w'.cell? ⟨w.heap.size + 1, 2, none⟩ = some (.slice ob b.ts.length cb)) (go_keep) ((first
            | (go_at_call 29
               refine (alive_any _).mono ?_
               rintro e w26 ⟨rfl, hb⟩
               have HM26 := Lib.hid (HM25.out.carry hb)
               have HV26 := Lib.hid (HV25.out.carry (hb.mono HZ125.out) (Nat.le_refl _))
               have HU26 := Lib.hid (HU25.out.carry (hb.mono HZ25.out) (Nat.le_refl _))
               have HZ26 := Lib.hid (Nat.le_trans HZ25.out hb.size)
               have HZ126 := Lib.hid (Nat.le_trans HZ125.out hb.size)
               obtain ⟨⟨x0, x1, x2⟩, -⟩ := box3 HM26.out.a.box; obtain ⟨⟨y0, y1, y2⟩, -⟩ := box3 HM26.out.b.box
               clear hb)
            | (go_at_call 34
               refine (rvariant_any (apB V a) (apB U a) _ _ _ HXa2.out HXb.out HO1.out HO2.out).mono ?_
               rintro e w25 ⟨⟨xv, rfl, hv⟩, hb⟩
               obtain rfl : xv = true := hv.2 HVAR.out
               clear hv
               have HM25 := Lib.hid (HM24.out.carry hb)
               have HV25 := Lib.hid (HV24.out.carry (hb.mono HZ124.out) (Nat.le_refl _))
               have HU25 := Lib.hid (HU24.out.carry (hb.mono HZ24.out) (Nat.le_refl _))
               have HZ25 := Lib.hid (Nat.le_trans HZ24.out hb.size)
               have HZ125 := Lib.hid (Nat.le_trans HZ124.out hb.size)
               obtain ⟨⟨x0, x1, x2⟩, -⟩ := box3 HM25.out.a.box; obtain ⟨⟨y0, y1, y2⟩, -⟩ := box3 HM25.out.b.box
               clear hb)
            | (go_at_call 32
               refine (rapply_any U (.slice ou U.length cu) w2.heap.size (by omega) a (.slice oa a.ts.length ca) _ HZ23.out HU23.out HM23.out.a.is hba).mono ?_
               rintro e w24 ⟨⟨sl24, rfl, h24⟩, hb⟩
               have h24 := h24.lt.toIs fun b hb => hb.2
               obtain ⟨o24, c24, rfl, -⟩ := h24.form
               dsimp only [tmv]
               have HXb := Lib.hid h24
               have HXa2 := Lib.hid (HXa.out.carry hb hb.size)
               clear h24
               have HM24 := Lib.hid (HM23.out.carry hb)
               have HV24 := Lib.hid (HV23.out.carry (hb.mono HZ123.out) (Nat.le_refl _))
               have HU24 := Lib.hid (HU23.out.carry (hb.mono HZ23.out) (Nat.le_refl _))
               have HZ24 := Lib.hid (Nat.le_trans HZ23.out hb.size)
               have HZ124 := Lib.hid (Nat.le_trans HZ123.out hb.size)
               obtain ⟨⟨x0, x1, x2⟩, -⟩ := box3 HM24.out.a.box; obtain ⟨⟨y0, y1, y2⟩, -⟩ := box3 HM24.out.b.box
               clear hb)
            | (go_at_call 32
               refine (rapply_any V (.slice ov V.length cv) w1.heap.size (by omega) a (.slice oa a.ts.length ca) _ HZ122.out HV22.out HM22.out.a.is hba).mono ?_
               rintro e w23 ⟨⟨sl23, rfl, h23⟩, hb⟩
               have h23 := h23.lt.toIs fun b hb => hb.2
               obtain ⟨o23, c23, rfl, -⟩ := h23.form
               dsimp only [tmv]
               have HXa := Lib.hid h23
               clear h23
               have HM23 := Lib.hid (HM22.out.carry hb)
               have HV23 := Lib.hid (HV22.out.carry (hb.mono HZ122.out) (Nat.le_refl _))
               have HU23 := Lib.hid (HU22.out.carry (hb.mono HZ22.out) (Nat.le_refl _))
               have HZ23 := Lib.hid (Nat.le_trans HZ22.out hb.size)
               have HZ123 := Lib.hid (Nat.le_trans HZ122.out hb.size)
               obtain ⟨⟨x0, x1, x2⟩, -⟩ := box3 HM23.out.a.box; obtain ⟨⟨y0, y1, y2⟩, -⟩ := box3 HM23.out.b.box
               clear hb)
            | (go_at_call 31
               refine (rfits_any U (.slice ou U.length cu) w2.heap.size (by omega) (fun q hq => ⟨(HUO.out.terms q hq).2.1, by have := (HUO.out.terms q hq).bulk; omega⟩) a (.slice oa a.ts.length ca) _ HZ21.out HU21.out HM21.out.a.is hba HOKA.out.1.bare).mono ?_
               rintro e w22 ⟨rfl, hb⟩
               rw [HF2.out]
               have HM22 := Lib.hid (HM21.out.carry hb)
               have HV22 := Lib.hid (HV21.out.carry (hb.mono HZ121.out) (Nat.le_refl _))
               have HU22 := Lib.hid (HU21.out.carry (hb.mono HZ21.out) (Nat.le_refl _))
               have HZ22 := Lib.hid (Nat.le_trans HZ21.out hb.size)
               have HZ122 := Lib.hid (Nat.le_trans HZ121.out hb.size)
               obtain ⟨⟨x0, x1, x2⟩, -⟩ := box3 HM22.out.a.box; obtain ⟨⟨y0, y1, y2⟩, -⟩ := box3 HM22.out.b.box
               clear hb)
            | (go_at_call 31
               refine (rfits_any V (.slice ov V.length cv) w1.heap.size (by omega) (fun q hq => ⟨(HVO.out.terms q hq).2.1, by have := (HVO.out.terms q hq).bulk; omega⟩) a (.slice oa a.ts.length ca) _ HZ120.out HV20.out HM20.out.a.is hba HOKA.out.1.bare).mono ?_
               rintro e w21 ⟨rfl, hb⟩
               rw [HF1.out]
               have HM21 := Lib.hid (HM20.out.carry hb)
               have HV21 := Lib.hid (HV20.out.carry (hb.mono HZ120.out) (Nat.le_refl _))
               have HU21 := Lib.hid (HU20.out.carry (hb.mono HZ20.out) (Nat.le_refl _))
               have HZ21 := Lib.hid (Nat.le_trans HZ20.out hb.size)
               have HZ121 := Lib.hid (Nat.le_trans HZ120.out hb.size)
               obtain ⟨⟨x0, x1, x2⟩, -⟩ := box3 HM21.out.a.box; obtain ⟨⟨y0, y1, y2⟩, -⟩ := box3 HM21.out.b.box
               clear hb)))
          go_wp2_with fail
          go_ret
          exact ⟨rfl, HM26.out.low⟩
        · have HF2 : Hid (decide ((apB U a).size ≤ 4000 ∧ (apB U a).depth ≤ 200) = false) := Lib.hid (decide_eq_false hf2)
          clear hf2
          go_wp2_with fail
          refine wp_region_noPanic ?_
          refine wp_region_held_drew (S := fun w' => w'.cell? ⟨w.heap.size, 0, none⟩ = some (.string a.nm) ∧ w'.cell? ⟨w.heap.size, 1, none⟩ = some (.bool a.vr) ∧ w'.cell? ⟨w.heap.size, 2, none⟩ = some (.slice oa a.ts.length ca) ∧ w'.cell? ⟨w.heap.size + 1, 0, none⟩ = some (.string b.nm) ∧ w'.cell? ⟨w.heap.size + 1, 1, none⟩ = some (.bool b.vr) ∧ w'.cell? ⟨w.heap.size + 1, 2, none⟩ = some (.slice ob b.ts.length cb)) (by kernel_rfl) HM20.out.six (fun _ => ?_)
          simp only [List.size_toArray, List.length_cons, List.length_nil, Nat.reduceAdd]
          refine wpAnyH_take (i := 0) (v := ?_) (by simp only [List.getElem?_toArray, List.getElem?_cons_zero]; rfl) (by kernel_rfl) (by kernel_rfl) (by kernel_rfl) (fun _ _ _ h => h) (Or.inl ⟨by rfl, ?_⟩) HM20.out.six ?_
          case refine_2 => (intro ww hSw; obtain ⟨s1, s2, s3, s4, s5, s6⟩ := hSw; go_simp; try with_reducible rfl)
          try simp only [Act.put, List.setIfInBounds_toArray, List.set_cons_zero, List.set_cons_succ]
          refine wpAnyH_take (i := 1) (v := ?_) (by simp only [List.getElem?_toArray, List.getElem?_cons_zero, List.getElem?_cons_succ]; rfl) (by kernel_rfl) (by kernel_rfl) (by kernel_rfl) (fun _ _ _ h => h) (Or.inl ⟨by rfl, ?_⟩) HM20.out.six ?_
          case refine_2 => (intro ww hSw; obtain ⟨s1, s2, s3, s4, s5, s6⟩ := hSw; go_simp; try with_reducible rfl)
          try simp only [Act.put, List.setIfInBounds_toArray, List.set_cons_zero, List.set_cons_succ]
          refine wpAnyH_take (i := 2) (v := ?_) (by simp only [List.getElem?_toArray, List.getElem?_cons_zero, List.getElem?_cons_succ]; rfl) (by kernel_rfl) (by kernel_rfl) (by kernel_rfl) (fun _ _ _ h => h) (Or.inl ⟨by rfl, ?_⟩) HM20.out.six ?_
          case refine_2 => (intro ww hSw; obtain ⟨s1, s2, s3, s4, s5, s6⟩ := hSw; go_simp; try with_reducible rfl)
          try simp only [Act.put, List.setIfInBounds_toArray, List.set_cons_zero, List.set_cons_succ]
          refine wpAnyH_take (i := 3) (v := ?_) (by simp only [List.getElem?_toArray, List.getElem?_cons_zero, List.getElem?_cons_succ]; rfl) (by kernel_rfl) (by kernel_rfl) (by kernel_rfl) (fun _ _ _ h => h) (Or.inl ⟨by rfl, ?_⟩) HM20.out.six ?_
          case refine_2 => (intro ww hSw; obtain ⟨s1, s2, s3, s4, s5, s6⟩ := hSw; go_simp; try with_reducible rfl)
          try simp only [Act.put, List.setIfInBounds_toArray, List.set_cons_zero, List.set_cons_succ]
          refine wpAnyH_take (i := 4) (v := ?_) (by simp only [List.getElem?_toArray, List.getElem?_cons_zero, List.getElem?_cons_succ]; rfl) (by kernel_rfl) (by kernel_rfl) (by kernel_rfl) (fun _ _ _ h => h) (Or.inl ⟨by rfl, ?_⟩) HM20.out.six ?_
          case refine_2 => (intro ww hSw; obtain ⟨s1, s2, s3, s4, s5, s6⟩ := hSw; go_simp; try with_reducible rfl)
          try simp only [Act.put, List.setIfInBounds_toArray, List.set_cons_zero, List.set_cons_succ]
          refine wpAnyH_ready (rs := [5]) (by kernel_rfl) (by simp) ?_
          refine AllReadyH.cons (by simp only [List.getElem?_toArray, List.getElem?_cons_zero, List.getElem?_cons_succ]; rfl) (fun K' hK => ?_) AllReadyH.nil
          go_simp
          refine (rfits_any V (.slice ov V.length cv) w1.heap.size (by omega) (fun q hq => ⟨(HVO.out.terms q hq).2.1, by have := (HVO.out.terms q hq).bulk; omega⟩) a (.slice oa a.ts.length ca) _ HZ120.out HV20.out HM20.out.a.is hba HOKA.out.1.bare).mono ?_
          rintro e w21 ⟨rfl, hb⟩
          rw [HF1.out]
          have HM21 := Lib.hid (HM20.out.carry hb)
          have HV21 := Lib.hid (HV20.out.carry (hb.mono HZ120.out) (Nat.le_refl _))
          have HU21 := Lib.hid (HU20.out.carry (hb.mono HZ20.out) (Nat.le_refl _))
          have HZ21 := Lib.hid (Nat.le_trans HZ20.out hb.size)
          have HZ121 := Lib.hid (Nat.le_trans HZ120.out hb.size)
          obtain ⟨⟨x0, x1, x2⟩, -⟩ := box3 HM21.out.a.box; obtain ⟨⟨y0, y1, y2⟩, -⟩ := box3 HM21.out.b.box
          clear hb
          refine hK.out _ _ HM21.out.six (fun _ => ?_)
          clear hK
          try simp only [Act.put, List.setIfInBounds_toArray, List.set_cons_zero, List.set_cons_succ]
          refine wpAnyH_take (i := 6) (v := ?_) (by simp only [List.getElem?_toArray, List.getElem?_cons_zero, List.getElem?_cons_succ]; rfl) (by kernel_rfl) (by kernel_rfl) (by kernel_rfl) (fun _ _ _ h => h) (Or.inl ⟨by rfl, ?_⟩) HM21.out.six ?_
          case refine_2 => (intro ww hSw; obtain ⟨s1, s2, s3, s4, s5, s6⟩ := hSw; go_simp; try with_reducible rfl)
          try simp only [Act.put, List.setIfInBounds_toArray, List.set_cons_zero, List.set_cons_succ]
          refine wpAnyH_take (i := 7) (v := ?_) (by simp only [List.getElem?_toArray, List.getElem?_cons_zero, List.getElem?_cons_succ]; rfl) (by kernel_rfl) (by kernel_rfl) (by kernel_rfl) (fun _ _ _ h => h) (Or.inl ⟨by rfl, ?_⟩) HM21.out.six ?_
          case refine_2 => (intro ww hSw; obtain ⟨s1, s2, s3, s4, s5, s6⟩ := hSw; go_simp; try with_reducible rfl)
          try simp only [Act.put, List.setIfInBounds_toArray, List.set_cons_zero, List.set_cons_succ]
          refine wpAnyH_take (i := 8) (v := ?_) (by simp only [List.getElem?_toArray, List.getElem?_cons_zero, List.getElem?_cons_succ]; rfl) (by kernel_rfl) (by kernel_rfl) (by kernel_rfl) (fun _ _ _ h => h) (Or.inl ⟨by rfl, ?_⟩) HM21.out.six ?_
          case refine_2 => (intro ww hSw; obtain ⟨s1, s2, s3, s4, s5, s6⟩ := hSw; go_simp; try with_reducible rfl)
          try simp only [Act.put, List.setIfInBounds_toArray, List.set_cons_zero, List.set_cons_succ]
          refine wpAnyH_take (i := 9) (v := ?_) (by simp only [List.getElem?_toArray, List.getElem?_cons_zero, List.getElem?_cons_succ]; rfl) (by kernel_rfl) (by kernel_rfl) (by kernel_rfl) (fun _ _ _ h => h) (Or.inl ⟨by rfl, ?_⟩) HM21.out.six ?_
          case refine_2 => (intro ww hSw; obtain ⟨s1, s2, s3, s4, s5, s6⟩ := hSw; go_simp; try with_reducible rfl)
          try simp only [Act.put, List.setIfInBounds_toArray, List.set_cons_zero, List.set_cons_succ]
          refine wpAnyH_take (i := 10) (v := ?_) (by simp only [List.getElem?_toArray, List.getElem?_cons_zero, List.getElem?_cons_succ]; rfl) (by kernel_rfl) (by kernel_rfl) (by kernel_rfl) (fun _ _ _ h => h) (Or.inl ⟨by rfl, ?_⟩) HM21.out.six ?_
          case refine_2 => (intro ww hSw; obtain ⟨s1, s2, s3, s4, s5, s6⟩ := hSw; go_simp; try with_reducible rfl)
          try simp only [Act.put, List.setIfInBounds_toArray, List.set_cons_zero, List.set_cons_succ]
          refine wpAnyH_ready (rs := [11]) (by kernel_rfl) (by simp) ?_
          refine AllReadyH.cons (by simp only [List.getElem?_toArray, List.getElem?_cons_zero, List.getElem?_cons_succ]; rfl) (fun K' hK => ?_) AllReadyH.nil
          go_simp
          refine (rfits_any U (.slice ou U.length cu) w2.heap.size (by omega) (fun q hq => ⟨(HUO.out.terms q hq).2.1, by have := (HUO.out.terms q hq).bulk; omega⟩) a (.slice oa a.ts.length ca) _ HZ21.out HU21.out HM21.out.a.is hba HOKA.out.1.bare).mono ?_
          rintro e w22 ⟨rfl, hb⟩
          rw [HF2.out]
          have HM22 := Lib.hid (HM21.out.carry hb)
          have HV22 := Lib.hid (HV21.out.carry (hb.mono HZ121.out) (Nat.le_refl _))
          have HU22 := Lib.hid (HU21.out.carry (hb.mono HZ21.out) (Nat.le_refl _))
          have HZ22 := Lib.hid (Nat.le_trans HZ21.out hb.size)
          have HZ122 := Lib.hid (Nat.le_trans HZ121.out hb.size)
          obtain ⟨⟨x0, x1, x2⟩, -⟩ := box3 HM22.out.a.box; obtain ⟨⟨y0, y1, y2⟩, -⟩ := box3 HM22.out.b.box
          clear hb
          refine hK.out _ _ HM22.out.six (fun _ => ?_)
          clear hK
          try simp only [Act.put, List.setIfInBounds_toArray, List.set_cons_zero, List.set_cons_succ]
          refine wpAnyH_take (i := 12) (v := ?_) (by simp only [List.getElem?_toArray, List.getElem?_cons_zero, List.getElem?_cons_succ]; rfl) (by kernel_rfl) (by kernel_rfl) (by kernel_rfl) (fun _ _ _ h => h) (Or.inl ⟨by rfl, ?_⟩) HM22.out.six ?_
          case refine_2 => (intro ww hSw; obtain ⟨s1, s2, s3, s4, s5, s6⟩ := hSw; go_simp; try with_reducible rfl)
          try simp only [Act.put, List.setIfInBounds_toArray, List.set_cons_zero, List.set_cons_succ]
          refine wpAnyH_take (i := 13) (v := ?_) (by simp only [List.getElem?_toArray, List.getElem?_cons_zero, List.getElem?_cons_succ]; rfl) (by kernel_rfl) (by kernel_rfl) (by kernel_rfl) (fun _ _ _ h => h) (Or.inl ⟨by rfl, ?_⟩) HM22.out.six ?_
          case refine_2 => (intro ww hSw; obtain ⟨s1, s2, s3, s4, s5, s6⟩ := hSw; go_simp; try with_reducible rfl)
          try simp only [Act.put, List.setIfInBounds_toArray, List.set_cons_zero, List.set_cons_succ]
          refine wpAnyH_take (i := 14) (v := ?_) (by simp only [List.getElem?_toArray, List.getElem?_cons_zero, List.getElem?_cons_succ]; rfl) (by kernel_rfl) (by kernel_rfl) (by kernel_rfl) (fun _ _ _ h => h) (Or.inl ⟨by rfl, ?_⟩) HM22.out.six ?_
          case refine_2 => (intro ww hSw; obtain ⟨s1, s2, s3, s4, s5, s6⟩ := hSw; go_simp; try with_reducible rfl)
          try simp only [Act.put, List.setIfInBounds_toArray, List.set_cons_zero, List.set_cons_succ]
          refine wpAnyH_take (i := 15) (v := _) (by simp only [List.getElem?_toArray, List.getElem?_cons_zero, List.getElem?_cons_succ]; rfl) (by kernel_rfl) (by kernel_rfl) (by kernel_rfl) (fun _ _ _ h => h) (Or.inr ⟨by rfl, rfl⟩) HM22.out.six ?_
          try simp only [Act.put, List.setIfInBounds_toArray, List.set_cons_zero, List.set_cons_succ]
          refine wpAnyH_take (i := 16) (v := _) (by simp only [List.getElem?_toArray, List.getElem?_cons_zero, List.getElem?_cons_succ]; rfl) (by kernel_rfl) (by kernel_rfl) (by kernel_rfl) (fun _ _ _ h => h) (Or.inr ⟨by rfl, rfl⟩) HM22.out.six ?_
          try simp only [Act.put, List.setIfInBounds_toArray, List.set_cons_zero, List.set_cons_succ]
          refine wpAnyH_take (i := 18) (v := _) (by simp only [List.getElem?_toArray, List.getElem?_cons_zero, List.getElem?_cons_succ]; rfl) (by kernel_rfl) (by kernel_rfl) (by kernel_rfl) (fun _ _ _ h => h) (Or.inr ⟨by rfl, rfl⟩) HM22.out.six ?_
          try simp only [Act.put, List.setIfInBounds_toArray, List.set_cons_zero, List.set_cons_succ]
          refine wpAnyH_take (i := 19) (v := _) (by simp only [List.getElem?_toArray, List.getElem?_cons_zero, List.getElem?_cons_succ]; rfl) (by kernel_rfl) (by kernel_rfl) (by kernel_rfl) (fun _ _ _ h => h) (Or.inr ⟨by rfl, rfl⟩) HM22.out.six ?_
          try simp only [Act.put, List.setIfInBounds_toArray, List.set_cons_zero, List.set_cons_succ]
          refine wpAnyH_ready (rs := [17]) (by kernel_rfl) (by simp) ?_
          refine AllReadyH.cons (by simp only [List.getElem?_toArray, List.getElem?_cons_zero, List.getElem?_cons_succ]; rfl) (fun K' hK => ?_) AllReadyH.nil
          go_simp
          refine hK.out _ _ HM22.out.six (fun _ => ?_)
          clear hK
          try simp only [Act.put, List.setIfInBounds_toArray, List.set_cons_zero, List.set_cons_succ]
          refine wpAnyH_ready (rs := [20]) (by kernel_rfl) (by simp) ?_
          refine AllReadyH.cons (by simp only [List.getElem?_toArray, List.getElem?_cons_zero, List.getElem?_cons_succ]; rfl) (fun K' hK => ?_) AllReadyH.nil
          go_simp
          refine hK.out _ _ HM22.out.six (fun _ => ?_)
          clear hK
          try simp only [Act.put, List.setIfInBounds_toArray, List.set_cons_zero, List.set_cons_succ]
          refine wpAnyH_ready (rs := [21]) (by kernel_rfl) (by simp) ?_
          refine AllReadyH.cons (by simp only [List.getElem?_toArray, List.getElem?_cons_zero, List.getElem?_cons_succ]; rfl) (fun K' hK => ?_) AllReadyH.nil
          go_simp
          refine hK.out _ _ HM22.out.six (fun _ => ?_)
          clear hK
          try simp only [Act.put, List.setIfInBounds_toArray, List.set_cons_zero, List.set_cons_succ]
          refine wpAnyH_take (i := 22) (v := ?_) (by simp only [List.getElem?_toArray, List.getElem?_cons_zero, List.getElem?_cons_succ]; rfl) (by kernel_rfl) (by kernel_rfl) (by kernel_rfl) (fun _ _ _ h => h) (Or.inl ⟨by rfl, ?_⟩) HM22.out.six ?_
          case refine_2 => (intro ww hSw; obtain ⟨s1, s2, s3, s4, s5, s6⟩ := hSw; go_simp; try with_reducible rfl)
          try simp only [Act.put, List.setIfInBounds_toArray, List.set_cons_zero, List.set_cons_succ]
          refine wpAnyH_take (i := 23) (v := ?_) (by simp only [List.getElem?_toArray, List.getElem?_cons_zero, List.getElem?_cons_succ]; rfl) (by kernel_rfl) (by kernel_rfl) (by kernel_rfl) (fun _ _ _ h => h) (Or.inl ⟨by rfl, ?_⟩) HM22.out.six ?_
          case refine_2 => (intro ww hSw; obtain ⟨s1, s2, s3, s4, s5, s6⟩ := hSw; go_simp; try with_reducible rfl)
          try simp only [Act.put, List.setIfInBounds_toArray, List.set_cons_zero, List.set_cons_succ]
          refine wpAnyH_ready (rs := [24]) (by kernel_rfl) (by simp) ?_
          refine AllReadyH.cons (by simp only [List.getElem?_toArray, List.getElem?_cons_zero, List.getElem?_cons_succ]; rfl) (fun K' hK => ?_) AllReadyH.nil
          go_simp
          refine (alive_any _).mono ?_
          rintro e w23 ⟨rfl, hb⟩
          have HM23 := Lib.hid (HM22.out.carry hb)
          have HV23 := Lib.hid (HV22.out.carry (hb.mono HZ122.out) (Nat.le_refl _))
          have HU23 := Lib.hid (HU22.out.carry (hb.mono HZ22.out) (Nat.le_refl _))
          have HZ23 := Lib.hid (Nat.le_trans HZ22.out hb.size)
          have HZ123 := Lib.hid (Nat.le_trans HZ122.out hb.size)
          obtain ⟨⟨x0, x1, x2⟩, -⟩ := box3 HM23.out.a.box; obtain ⟨⟨y0, y1, y2⟩, -⟩ := box3 HM23.out.b.box
          clear hb
          refine hK.out _ _ HM23.out.six (fun _ => ?_)
          clear hK
          try simp only [Act.put, List.setIfInBounds_toArray, List.set_cons_zero, List.set_cons_succ]
          refine wpAnyH_take (i := 25) (v := ?_) (by simp only [List.getElem?_toArray, List.getElem?_cons_zero, List.getElem?_cons_succ]; rfl) (by kernel_rfl) (by kernel_rfl) (by kernel_rfl) (fun _ _ _ h => h) (Or.inl ⟨by rfl, ?_⟩) HM23.out.six ?_
          case refine_2 => (intro ww hSw; obtain ⟨s1, s2, s3, s4, s5, s6⟩ := hSw; go_simp; try with_reducible rfl)
          try simp only [Act.put, List.setIfInBounds_toArray, List.set_cons_zero, List.set_cons_succ]
          refine wpAnyH_ready (rs := [26]) (by kernel_rfl) (by simp) ?_
          refine AllReadyH.cons (by simp only [List.getElem?_toArray, List.getElem?_cons_zero, List.getElem?_cons_succ]; rfl) (fun K' hK => ?_) AllReadyH.nil
          go_simp
          refine hK.out _ _ HM23.out.six (fun _ => ?_)
          clear hK
          try simp only [Act.put, List.setIfInBounds_toArray, List.set_cons_zero, List.set_cons_succ]
          refine wpAnyH_done (by kernel_rfl) ?_ _
          refine NoPanic.normal ?_
          go_wp2_with fail
          go_ret
          exact ⟨rfl, HM23.out.low⟩
      · have HF1 : Hid (decide ((apB V a).size ≤ 4000 ∧ (apB V a).depth ≤ 200) = false) := Lib.hid (decide_eq_false hf1)
        clear hf1
        go_wp2_with fail
        refine wp_region_noPanic ?_
        refine wp_region_held_drew (S := fun w' => w'.cell? ⟨w.heap.size, 0, none⟩ = some (.string a.nm) ∧ w'.cell? ⟨w.heap.size, 1, none⟩ = some (.bool a.vr) ∧ w'.cell? ⟨w.heap.size, 2, none⟩ = some (.slice oa a.ts.length ca) ∧ w'.cell? ⟨w.heap.size + 1, 0, none⟩ = some (.string b.nm) ∧ w'.cell? ⟨w.heap.size + 1, 1, none⟩ = some (.bool b.vr) ∧ w'.cell? ⟨w.heap.size + 1, 2, none⟩ = some (.slice ob b.ts.length cb)) (by kernel_rfl) HM20.out.six (fun _ => ?_)
        simp only [List.size_toArray, List.length_cons, List.length_nil, Nat.reduceAdd]
        refine wpAnyH_take (i := 0) (v := ?_) (by simp only [List.getElem?_toArray, List.getElem?_cons_zero]; rfl) (by kernel_rfl) (by kernel_rfl) (by kernel_rfl) (fun _ _ _ h => h) (Or.inl ⟨by rfl, ?_⟩) HM20.out.six ?_
        case refine_2 => (intro ww hSw; obtain ⟨s1, s2, s3, s4, s5, s6⟩ := hSw; go_simp; try with_reducible rfl)
        try simp only [Act.put, List.setIfInBounds_toArray, List.set_cons_zero, List.set_cons_succ]
        refine wpAnyH_take (i := 1) (v := ?_) (by simp only [List.getElem?_toArray, List.getElem?_cons_zero, List.getElem?_cons_succ]; rfl) (by kernel_rfl) (by kernel_rfl) (by kernel_rfl) (fun _ _ _ h => h) (Or.inl ⟨by rfl, ?_⟩) HM20.out.six ?_
        case refine_2 => (intro ww hSw; obtain ⟨s1, s2, s3, s4, s5, s6⟩ := hSw; go_simp; try with_reducible rfl)
        try simp only [Act.put, List.setIfInBounds_toArray, List.set_cons_zero, List.set_cons_succ]
        refine wpAnyH_take (i := 2) (v := ?_) (by simp only [List.getElem?_toArray, List.getElem?_cons_zero, List.getElem?_cons_succ]; rfl) (by kernel_rfl) (by kernel_rfl) (by kernel_rfl) (fun _ _ _ h => h) (Or.inl ⟨by rfl, ?_⟩) HM20.out.six ?_
        case refine_2 => (intro ww hSw; obtain ⟨s1, s2, s3, s4, s5, s6⟩ := hSw; go_simp; try with_reducible rfl)
        try simp only [Act.put, List.setIfInBounds_toArray, List.set_cons_zero, List.set_cons_succ]
        refine wpAnyH_take (i := 3) (v := ?_) (by simp only [List.getElem?_toArray, List.getElem?_cons_zero, List.getElem?_cons_succ]; rfl) (by kernel_rfl) (by kernel_rfl) (by kernel_rfl) (fun _ _ _ h => h) (Or.inl ⟨by rfl, ?_⟩) HM20.out.six ?_
        case refine_2 => (intro ww hSw; obtain ⟨s1, s2, s3, s4, s5, s6⟩ := hSw; go_simp; try with_reducible rfl)
        try simp only [Act.put, List.setIfInBounds_toArray, List.set_cons_zero, List.set_cons_succ]
        refine wpAnyH_take (i := 4) (v := ?_) (by simp only [List.getElem?_toArray, List.getElem?_cons_zero, List.getElem?_cons_succ]; rfl) (by kernel_rfl) (by kernel_rfl) (by kernel_rfl) (fun _ _ _ h => h) (Or.inl ⟨by rfl, ?_⟩) HM20.out.six ?_
        case refine_2 => (intro ww hSw; obtain ⟨s1, s2, s3, s4, s5, s6⟩ := hSw; go_simp; try with_reducible rfl)
        try simp only [Act.put, List.setIfInBounds_toArray, List.set_cons_zero, List.set_cons_succ]
        refine wpAnyH_ready (rs := [5]) (by kernel_rfl) (by simp) ?_
        refine AllReadyH.cons (by simp only [List.getElem?_toArray, List.getElem?_cons_zero, List.getElem?_cons_succ]; rfl) (fun K' hK => ?_) AllReadyH.nil
        go_simp
        refine (rfits_any V (.slice ov V.length cv) w1.heap.size (by omega) (fun q hq => ⟨(HVO.out.terms q hq).2.1, by have := (HVO.out.terms q hq).bulk; omega⟩) a (.slice oa a.ts.length ca) _ HZ120.out HV20.out HM20.out.a.is hba HOKA.out.1.bare).mono ?_
        rintro e w21 ⟨rfl, hb⟩
        rw [HF1.out]
        have HM21 := Lib.hid (HM20.out.carry hb)
        have HV21 := Lib.hid (HV20.out.carry (hb.mono HZ120.out) (Nat.le_refl _))
        have HU21 := Lib.hid (HU20.out.carry (hb.mono HZ20.out) (Nat.le_refl _))
        have HZ21 := Lib.hid (Nat.le_trans HZ20.out hb.size)
        have HZ121 := Lib.hid (Nat.le_trans HZ120.out hb.size)
        obtain ⟨⟨x0, x1, x2⟩, -⟩ := box3 HM21.out.a.box; obtain ⟨⟨y0, y1, y2⟩, -⟩ := box3 HM21.out.b.box
        clear hb
        refine hK.out _ _ HM21.out.six (fun _ => ?_)
        clear hK
        try simp only [Act.put, List.setIfInBounds_toArray, List.set_cons_zero, List.set_cons_succ]
        refine wpAnyH_take (i := 6) (v := ?_) (by simp only [List.getElem?_toArray, List.getElem?_cons_zero, List.getElem?_cons_succ]; rfl) (by kernel_rfl) (by kernel_rfl) (by kernel_rfl) (fun _ _ _ h => h) (Or.inl ⟨by rfl, ?_⟩) HM21.out.six ?_
        case refine_2 => (intro ww hSw; obtain ⟨s1, s2, s3, s4, s5, s6⟩ := hSw; go_simp; try with_reducible rfl)
        try simp only [Act.put, List.setIfInBounds_toArray, List.set_cons_zero, List.set_cons_succ]
        refine wpAnyH_take (i := 7) (v := ?_) (by simp only [List.getElem?_toArray, List.getElem?_cons_zero, List.getElem?_cons_succ]; rfl) (by kernel_rfl) (by kernel_rfl) (by kernel_rfl) (fun _ _ _ h => h) (Or.inl ⟨by rfl, ?_⟩) HM21.out.six ?_
        case refine_2 => (intro ww hSw; obtain ⟨s1, s2, s3, s4, s5, s6⟩ := hSw; go_simp; try with_reducible rfl)
        try simp only [Act.put, List.setIfInBounds_toArray, List.set_cons_zero, List.set_cons_succ]
        refine wpAnyH_take (i := 8) (v := ?_) (by simp only [List.getElem?_toArray, List.getElem?_cons_zero, List.getElem?_cons_succ]; rfl) (by kernel_rfl) (by kernel_rfl) (by kernel_rfl) (fun _ _ _ h => h) (Or.inl ⟨by rfl, ?_⟩) HM21.out.six ?_
        case refine_2 => (intro ww hSw; obtain ⟨s1, s2, s3, s4, s5, s6⟩ := hSw; go_simp; try with_reducible rfl)
        try simp only [Act.put, List.setIfInBounds_toArray, List.set_cons_zero, List.set_cons_succ]
        refine wpAnyH_take (i := 9) (v := _) (by simp only [List.getElem?_toArray, List.getElem?_cons_zero, List.getElem?_cons_succ]; rfl) (by kernel_rfl) (by kernel_rfl) (by kernel_rfl) (fun _ _ _ h => h) (Or.inr ⟨by rfl, rfl⟩) HM21.out.six ?_
        try simp only [Act.put, List.setIfInBounds_toArray, List.set_cons_zero, List.set_cons_succ]
        refine wpAnyH_take (i := 10) (v := _) (by simp only [List.getElem?_toArray, List.getElem?_cons_zero, List.getElem?_cons_succ]; rfl) (by kernel_rfl) (by kernel_rfl) (by kernel_rfl) (fun _ _ _ h => h) (Or.inr ⟨by rfl, rfl⟩) HM21.out.six ?_
        try simp only [Act.put, List.setIfInBounds_toArray, List.set_cons_zero, List.set_cons_succ]
        refine wpAnyH_ready (rs := [11]) (by kernel_rfl) (by simp) ?_
        refine AllReadyH.cons (by simp only [List.getElem?_toArray, List.getElem?_cons_zero, List.getElem?_cons_succ]; rfl) (fun K' hK => ?_) AllReadyH.nil
        go_simp
        refine hK.out _ _ HM21.out.six (fun _ => ?_)
        clear hK
        try simp only [Act.put, List.setIfInBounds_toArray, List.set_cons_zero, List.set_cons_succ]
        refine wpAnyH_take (i := 12) (v := _) (by simp only [List.getElem?_toArray, List.getElem?_cons_zero, List.getElem?_cons_succ]; rfl) (by kernel_rfl) (by kernel_rfl) (by kernel_rfl) (fun _ _ _ h => h) (Or.inr ⟨by rfl, rfl⟩) HM21.out.six ?_
        try simp only [Act.put, List.setIfInBounds_toArray, List.set_cons_zero, List.set_cons_succ]
        refine wpAnyH_take (i := 13) (v := ?_) (by simp only [List.getElem?_toArray, List.getElem?_cons_zero, List.getElem?_cons_succ]; rfl) (by kernel_rfl) (by kernel_rfl) (by kernel_rfl) (fun _ _ _ h => h) (Or.inl ⟨by rfl, ?_⟩) HM21.out.six ?_
        case refine_2 => (intro ww hSw; obtain ⟨s1, s2, s3, s4, s5, s6⟩ := hSw; go_simp; try with_reducible rfl)
        try simp only [Act.put, List.setIfInBounds_toArray, List.set_cons_zero, List.set_cons_succ]
        refine wpAnyH_take (i := 14) (v := ?_) (by simp only [List.getElem?_toArray, List.getElem?_cons_zero, List.getElem?_cons_succ]; rfl) (by kernel_rfl) (by kernel_rfl) (by kernel_rfl) (fun _ _ _ h => h) (Or.inl ⟨by rfl, ?_⟩) HM21.out.six ?_
        case refine_2 => (intro ww hSw; obtain ⟨s1, s2, s3, s4, s5, s6⟩ := hSw; go_simp; try with_reducible rfl)
        try simp only [Act.put, List.setIfInBounds_toArray, List.set_cons_zero, List.set_cons_succ]
        refine wpAnyH_take (i := 15) (v := _) (by simp only [List.getElem?_toArray, List.getElem?_cons_zero, List.getElem?_cons_succ]; rfl) (by kernel_rfl) (by kernel_rfl) (by kernel_rfl) (fun _ _ _ h => h) (Or.inr ⟨by rfl, rfl⟩) HM21.out.six ?_
        try simp only [Act.put, List.setIfInBounds_toArray, List.set_cons_zero, List.set_cons_succ]
        refine wpAnyH_take (i := 16) (v := _) (by simp only [List.getElem?_toArray, List.getElem?_cons_zero, List.getElem?_cons_succ]; rfl) (by kernel_rfl) (by kernel_rfl) (by kernel_rfl) (fun _ _ _ h => h) (Or.inr ⟨by rfl, rfl⟩) HM21.out.six ?_
        try simp only [Act.put, List.setIfInBounds_toArray, List.set_cons_zero, List.set_cons_succ]
        refine wpAnyH_take (i := 18) (v := _) (by simp only [List.getElem?_toArray, List.getElem?_cons_zero, List.getElem?_cons_succ]; rfl) (by kernel_rfl) (by kernel_rfl) (by kernel_rfl) (fun _ _ _ h => h) (Or.inr ⟨by rfl, rfl⟩) HM21.out.six ?_
        try simp only [Act.put, List.setIfInBounds_toArray, List.set_cons_zero, List.set_cons_succ]
        refine wpAnyH_take (i := 19) (v := _) (by simp only [List.getElem?_toArray, List.getElem?_cons_zero, List.getElem?_cons_succ]; rfl) (by kernel_rfl) (by kernel_rfl) (by kernel_rfl) (fun _ _ _ h => h) (Or.inr ⟨by rfl, rfl⟩) HM21.out.six ?_
        try simp only [Act.put, List.setIfInBounds_toArray, List.set_cons_zero, List.set_cons_succ]
        refine wpAnyH_ready (rs := [17]) (by kernel_rfl) (by simp) ?_
        refine AllReadyH.cons (by simp only [List.getElem?_toArray, List.getElem?_cons_zero, List.getElem?_cons_succ]; rfl) (fun K' hK => ?_) AllReadyH.nil
        go_simp
        refine hK.out _ _ HM21.out.six (fun _ => ?_)
        clear hK
        try simp only [Act.put, List.setIfInBounds_toArray, List.set_cons_zero, List.set_cons_succ]
        refine wpAnyH_ready (rs := [20]) (by kernel_rfl) (by simp) ?_
        refine AllReadyH.cons (by simp only [List.getElem?_toArray, List.getElem?_cons_zero, List.getElem?_cons_succ]; rfl) (fun K' hK => ?_) AllReadyH.nil
        go_simp
        refine hK.out _ _ HM21.out.six (fun _ => ?_)
        clear hK
        try simp only [Act.put, List.setIfInBounds_toArray, List.set_cons_zero, List.set_cons_succ]
        refine wpAnyH_ready (rs := [21]) (by kernel_rfl) (by simp) ?_
        refine AllReadyH.cons (by simp only [List.getElem?_toArray, List.getElem?_cons_zero, List.getElem?_cons_succ]; rfl) (fun K' hK => ?_) AllReadyH.nil
        go_simp
        refine hK.out _ _ HM21.out.six (fun _ => ?_)
        clear hK
        try simp only [Act.put, List.setIfInBounds_toArray, List.set_cons_zero, List.set_cons_succ]
        refine wpAnyH_take (i := 22) (v := ?_) (by simp only [List.getElem?_toArray, List.getElem?_cons_zero, List.getElem?_cons_succ]; rfl) (by kernel_rfl) (by kernel_rfl) (by kernel_rfl) (fun _ _ _ h => h) (Or.inl ⟨by rfl, ?_⟩) HM21.out.six ?_
        case refine_2 => (intro ww hSw; obtain ⟨s1, s2, s3, s4, s5, s6⟩ := hSw; go_simp; try with_reducible rfl)
        try simp only [Act.put, List.setIfInBounds_toArray, List.set_cons_zero, List.set_cons_succ]
        refine wpAnyH_take (i := 23) (v := ?_) (by simp only [List.getElem?_toArray, List.getElem?_cons_zero, List.getElem?_cons_succ]; rfl) (by kernel_rfl) (by kernel_rfl) (by kernel_rfl) (fun _ _ _ h => h) (Or.inl ⟨by rfl, ?_⟩) HM21.out.six ?_
        case refine_2 => (intro ww hSw; obtain ⟨s1, s2, s3, s4, s5, s6⟩ := hSw; go_simp; try with_reducible rfl)
        try simp only [Act.put, List.setIfInBounds_toArray, List.set_cons_zero, List.set_cons_succ]
        refine wpAnyH_ready (rs := [24]) (by kernel_rfl) (by simp) ?_
        refine AllReadyH.cons (by simp only [List.getElem?_toArray, List.getElem?_cons_zero, List.getElem?_cons_succ]; rfl) (fun K' hK => ?_) AllReadyH.nil
        go_simp
        refine (alive_any _).mono ?_
        rintro e w22 ⟨rfl, hb⟩
        have HM22 := Lib.hid (HM21.out.carry hb)
        have HV22 := Lib.hid (HV21.out.carry (hb.mono HZ121.out) (Nat.le_refl _))
        have HU22 := Lib.hid (HU21.out.carry (hb.mono HZ21.out) (Nat.le_refl _))
        have HZ22 := Lib.hid (Nat.le_trans HZ21.out hb.size)
        have HZ122 := Lib.hid (Nat.le_trans HZ121.out hb.size)
        obtain ⟨⟨x0, x1, x2⟩, -⟩ := box3 HM22.out.a.box; obtain ⟨⟨y0, y1, y2⟩, -⟩ := box3 HM22.out.b.box
        clear hb
        refine hK.out _ _ HM22.out.six (fun _ => ?_)
        clear hK
        try simp only [Act.put, List.setIfInBounds_toArray, List.set_cons_zero, List.set_cons_succ]
        refine wpAnyH_take (i := 25) (v := ?_) (by simp only [List.getElem?_toArray, List.getElem?_cons_zero, List.getElem?_cons_succ]; rfl) (by kernel_rfl) (by kernel_rfl) (by kernel_rfl) (fun _ _ _ h => h) (Or.inl ⟨by rfl, ?_⟩) HM22.out.six ?_
        case refine_2 => (intro ww hSw; obtain ⟨s1, s2, s3, s4, s5, s6⟩ := hSw; go_simp; try with_reducible rfl)
        try simp only [Act.put, List.setIfInBounds_toArray, List.set_cons_zero, List.set_cons_succ]
        refine wpAnyH_ready (rs := [26]) (by kernel_rfl) (by simp) ?_
        refine AllReadyH.cons (by simp only [List.getElem?_toArray, List.getElem?_cons_zero, List.getElem?_cons_succ]; rfl) (fun K' hK => ?_) AllReadyH.nil
        go_simp
        refine hK.out _ _ HM22.out.six (fun _ => ?_)
        clear hK
        try simp only [Act.put, List.setIfInBounds_toArray, List.set_cons_zero, List.set_cons_succ]
        refine wpAnyH_done (by kernel_rfl) ?_ _
        refine NoPanic.normal ?_
        go_wp2_with fail
        go_ret
        exact ⟨rfl, HM22.out.low⟩
end Go.Proofs.YtkglopdogakfoaaGreatDoor
