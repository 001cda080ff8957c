/- Packed: Msu, Mat, Rws, SvP, LmP, Stm. -/
import Derived.WalkKit
import Derived.ProofKit
import Derived.OpenShut
import Derived.Handy
import Derived.Lib.Hide
import Derived.Test.YtamddagmlanijaaGreatP11
import Derived.Test.YtamddagmlanijaaGreatP12
import Derived.Test.YtamddagmlanijaaGreatP03
import Derived.Test.YtamddagmlanijaaGreatP09
import Derived.Test.YtamddagmlanijaaGreatP05
import Derived.Test.YtamddagmlanijaaGreatP08
/- The matcher's bindings in the order of their names. -/
namespace Go.Proofs.YtamddagmlanijaaGreat
open Go.RowKit Go.Maps

/-- the bindings that are listed -/
def subK (m : List Bd) : List Bd := (sortK (m.map (·.1))).map fun k => (k, imageOf m k)
theorem getA_image {m : List Bd} {k : Key} (hk : k ∈ m.map (·.1)) : getA m k = some (imageOf m k) := by
  obtain ⟨v, hv⟩ := getA_mem.1 hk
  rw [hv, imageOf_get hv]

set_option maxRecDepth 100000 in
set_option maxHeartbeats 4000000 in
theorem msubst_any (m : List Bd) (mb : Nat) (w : World) (h : TMap w.heap.size w mb m) (hl : m.length ≤ 1048576) (hb : ∀ q ∈ m, q.2.bulk ≤ 1048576 ∧ q.2.bare ∧ q.1.length ≤ 1048576) :
    Calls Tryz.prog 171 #[.map (some mb)] w fun e w' => (∃ v, e = .returned v ∧ BindsIs w'.heap.size w' (subK m) v) ∧ Below w.heap.size w w' := by
  obtain ⟨i0, hi, hz, hs1, hbb1⟩ := info_parts infoBind
  have HI := Lib.hid hi
  have HZ := Lib.hid hz
  have HS1 := Lib.hid hs1
  have HBB := Lib.hid hbb1
  have HM := Lib.hid h
  have HB := Lib.hid hb
  have hlen : (sortK (m.map (·.1))).length ≤ 1048576 := by rw [sortK_len, List.length_map]; exact hl
  have HSRT := Lib.hid (sortedM_any mb m w h hl)
  clear hi hz hs1 hbb1 h hb
  go_enter Tryz.func171, Tryz.ntmps171
  go_wp2_with (go_at_call 226; refine (keysM_any mb _).mono ?_; rintro e w' ⟨rfl, rfl⟩)
  refine HSRT.out.mono ?_
  rintro e wb ⟨⟨sv, rfl, hsv⟩, hwb⟩
  have hsv' := hsv
  obtain ⟨oa, cap, rfl, hcap, -, hcell⟩ := hsv'
  have HWB := Lib.hid hwb
  have HC := Lib.hid hcell
  have hwz := hwb.size
  clear hsv hwb hcell HSRT
  go_wp2_with fail
  go_loopw [3, 10] (fun v i wr => ∃ (j : Nat) (es : List Elem), j ≤ (sortK (m.map (·.1))).length ∧ i = .int .i64 j ∧ Hid (CmpSt wb wr v es) ∧ Hid (es.map (·.1) = ((sortK (m.map (·.1))).take j).map fun k => (k, imageOf m k))) (fun _ i _ => (sortK (m.map (·.1))).length - (intOf i).toNat)
  case atStart => exact ⟨0, [], by omega, rfl, Lib.hid (CmpSt.start wb), Lib.hid (by simp)⟩
  case round =>
    obtain ⟨j, es, hj, rfl, HST, HES⟩ := hrel
    obtain ⟨or, cr, rfl⟩ := ownsRow_shape HST.out.row
    by_cases hlt : j < (sortK (m.map (·.1))).length
    · obtain ⟨k, hk⟩ : ∃ k, (sortK (m.map (·.1)))[j]? = some k := ⟨_, List.getElem?_eq_getElem hlt⟩
      have hkm : k ∈ m.map (·.1) := sortK_mem.1 (List.mem_of_getElem? hk)
      obtain ⟨b1, p1, rfl, hb1, hc1⟩ := HC.out (by intro e; rw [e] at hlt; simp at hlt)
      have hlow := HST.out.low
      have hlz := hlow.size
      have c1 := (hlow.cell (p := ⟨b1, p1 + j, none⟩) hb1).trans (hc1 j k hk)
      have hga := getA_image hkm
      have hmem := getA_some hga
      obtain ⟨hub, hbare, hkl⟩ := HB.out _ hmem
      have hkp : KpC w.heap.size w wr := (KpC.of_below HWB.out (Nat.le_refl _)).trans (KpC.of_below (hlow.mono (Nat.le_refl _)) hwz)
      obtain ⟨D, su, hown, -, hat, hsu⟩ := (HM.out.kept hkp (Nat.le_trans hwz hlz) ((hlow.block mb (Nat.lt_of_lt_of_le HM.out.lt hwz)).trans (HWB.out.block mb HM.out.lt))).at hga
      obtain ⟨os, cs, rfl, -⟩ := hsu.form
      have HOWN := Lib.hid hown
      have HAT := Lib.hid hat
      have HK := Lib.hid hk
      have HCL := fun W (hW : Below wr.heap.size wr W) => Lib.hid (uclone_new (imageOf m k) hbare (.slice os (imageOf m k).ts.length cs) W (hsu.carry hW hW.size) hub)
      have HKEY := Lib.hid (keyOf_kb hkl)
      have HESL : Hid (es.length = j) := Lib.hid (by have := congrArg List.length HES.out; simp at this; omega)
      clear hc1 hk hkm hga hmem hown hat hsu hlow hkp
      go_wp2_with (first
        | (at_lookup
           refine tlook_plain _ 232 Tryz.underlying232 rfl _ _ rfl mb m.length D rfl HOWN.out _ _ rfl HKEY.out (.agg #[.string (imageOf m k).nm, .bool (imageOf m k).vr, .slice os (imageOf m k).ts.length cs]) HAT.out ?_))
      refine (HCL _ (Below.refl _ _)).out.mono ?_
      rintro e w5 ⟨⟨s5, rfl, h5⟩, hb5⟩
      obtain ⟨o5, k5, rfl⟩ := h5.form
      dsimp only [tmv]
      have H5 := Lib.hid h5
      have HB5 : Hid (Below wr.heap.size wr w5) := Lib.hid hb5
      have hz5 := HB5.out.size
      have hrow5 := HST.out.row.kept (below_grown HB5.out) (own_none _)
      have HROW := Lib.hid hrow5
      clear h5 hb5 hrow5
      go_wp2_with (first
        | (at_builtin
           refine wpList_append_opt rfl (.tmp 14) (.tmp 21) 59 rfl wb.heap.size 134 i0 (.agg #[.string ⟨#[]⟩, .string ⟨#[]⟩, .bool false, .slice none 0 0]) 4 64 Tryz.underlying59 HI.out HZ.out HS1.out HBB.out rfl (by decide) (.slice or es.length cr) es.length (ecells es) rfl (HROW.out.alloc _) (some ⟨w5.heap.size, 0, none⟩) 1 1 (encE ((k, imageOf m k), (o5, (imageOf m k).ts.length, k5))) rfl rfl (fun h => by cases h) (fun ad had => by cases had; exact cells_new4 _ _ _) (encE_one _) (by have := HESL.out; unfold maxLen; omega) (by have := HESL.out; omega) (by simp; omega) ?_
           intro v7 w7 ho7 hg7 hat7
           have HST7 := Lib.hid (HST.out.step (x := ((k, imageOf m k), (o5, (imageOf m k).ts.length, k5))) (HB5.out.trans (show Below wr.heap.size w5 _ from ((Below.refl _ _).alloc hz5 _))) (H5.out.carry fun b hb => ⟨Below.heap_alloc _ _ b hb.2, hb.1, by simp; omega⟩) hg7 ho7 hat7)
           clear ho7 hg7 hat7))
      exact ⟨⟨j + 1, es ++ [((k, imageOf m k), (o5, (imageOf m k).ts.length, k5))], by omega, by go_num, HST7, Lib.hid (by rw [List.map_append, HES.out, List.take_add_one, HK.out, List.map_append]; rfl)⟩, by simp [intOf]; omega⟩
    · obtain rfl : j = (sortK (m.map (·.1))).length := by omega
      have HES2 : Hid (es.map (·.1) = subK m) := Lib.hid (by have := HES.out; rwa [List.take_length] at this)
      go_wp2_with fail
      go_ret
      have hlz := HST.out.low.size
      refine ⟨⟨_, rfl, ?_⟩, HWB.out.trans (HST.out.low.mono hwz)⟩
      rw [← HES2.out]
      exact BindsIs.ofE HST.out.row (Nat.le_refl _) fun x hx => (HST.out.kids x hx).toIs fun b hb => hb.2.1
end Go.Proofs.YtamddagmlanijaaGreat
/- Match: the walk. What it hands back. -/
namespace Go.Proofs.YtamddagmlanijaaGreat
open Go.RowKit Go.Maps

set_option maxRecDepth 100000 in
set_option maxHeartbeats 2000000 in
theorem ucheck_any (a b : Tm) (sa sb : Value) (w : World) (ha : SlIs w.heap.size w a.ts sa) (hb : SlIs w.heap.size w b.ts sb) (hba : a.bulk ≤ 1048576) (hbb : b.bulk ≤ 1048576) :
    Calls Tryz.prog 169 #[tmv a sa, tmv b sb] w fun e w' => (∃ c : Int, e = .returned (.int .i64 c) ∧ (c = 0 ↔ a.ok ∧ b.ok)) ∧ Below w.heap.size w w' := by
  obtain ⟨oa, ca, rfl, -⟩ := ha.form
  obtain ⟨ob, cb, rfl, -⟩ := hb.form
  have HA := Lib.hid ha
  have HB := Lib.hid hb
  clear ha hb
  go_enter Tryz.func169, Tryz.ntmps169
  go_wp2_with fail
  refine (check_any a (.slice oa a.ts.length ca) _ (HA.out.carry (by go_grown) (by simp; omega)) hba).mono ?_
  rintro e w1 ⟨⟨c1, rfl, hc1⟩, hw1⟩
  have hbx := (hw1.block (w.heap.size + 1) (by simp)).trans (heap_new_at _ (.cells #[.string b.nm, .bool b.vr, .slice ob b.ts.length cb] 25) _ (by simp))
  have HW1 : Hid (Below w.heap.size w w1) := Lib.hid (Below.trans (by go_grown) (hw1.mono (by simp; omega)))
  have HC1 := Lib.hid hc1
  obtain ⟨⟨x0, x1, x2⟩, -⟩ := box3 hbx
  clear hc1 hw1 hbx
  by_cases hc0 : c1 = 0
  · subst hc0
    have HA0 := Lib.hid (HC1.out.1 rfl)
    go_wp2_with fail
    refine (check_any b (.slice ob b.ts.length cb) _ (HB.out.carry HW1.out HW1.out.size) hbb).mono ?_
    rintro e w2 ⟨⟨c2, rfl, hc2⟩, hw2⟩
    have HC2 := Lib.hid hc2
    have HW2 := Lib.hid (HW1.out.trans (hw2.mono HW1.out.size))
    clear hc2 hw2
    go_wp2_with fail
    go_ret
    exact ⟨⟨c2, rfl, fun h => ⟨HA0.out, HC2.out.1 h⟩, fun h => HC2.out.2 h.2⟩, HW2.out⟩
  · have hcb : (c1 != 0) = true := by rw [bne_iff_ne]; exact hc0
    have HC0 := Lib.hid hc0
    clear hc0
    go_wp2_with fail
    go_ret
    exact ⟨⟨c1, rfl, fun h => absurd h HC0.out, fun h => absurd (HC1.out.2 h.1) HC0.out⟩, HW1.out⟩

/-- what Match hands back -/
def MatPost (p t : Tm) (w' : World) (c : Int) (b : Bool) (v : Value) : Prop :=
  (c = 0 ↔ p.ok ∧ t.ok) ∧ (c = 0 → (b = true ∧ ∃ m, mtc p [] t = some m ∧ (m.map (·.1)).Nodup ∧ BindsIs w'.heap.size w' (subK m) v) ∨ (b = false ∧ mtc p [] t = none ∧ v = .slice none 0 0)) ∧ (c ≠ 0 → b = false ∧ v = .slice none 0 0)
theorem firsts_len (p : Tm) : (firsts [] p).length ≤ p.size := by have := firsts_length p []; simpa using this

set_option maxRecDepth 100000 in
set_option maxHeartbeats 4000000 in
theorem umatch_any (p t : Tm) (sp st : Value) (w : World) (hp : SlIs w.heap.size w p.ts sp) (ht : SlIs w.heap.size w t.ts st) (hbp : p.bulk ≤ 1048576) (hbt : t.bulk ≤ 1048576) :
    Calls Tryz.prog 99 #[tmv p sp, tmv t st] w fun e w' => (∃ (c : Int) (b : Bool) (v : Value), e = .returned (.tuple #[v, .bool b, .int .i64 c]) ∧ MatPost p t w' c b v) ∧ Below w.heap.size w w' := by
  obtain ⟨op, cp, rfl, -⟩ := hp.form
  obtain ⟨ot, ct, rfl, -⟩ := ht.form
  have HP := Lib.hid hp
  have HT := Lib.hid ht
  have hmm := @run_makeMap Tryz.prog
  clear hp ht
  go_enter Tryz.func99, Tryz.ntmps99
  go_wp2_with fail
  refine (ucheck_any p t (.slice op p.ts.length cp) (.slice ot t.ts.length ct) _ (HP.out.carry (by go_grown) (by simp; omega)) (HT.out.carry (by go_grown) (by simp; omega)) hbp hbt).mono ?_
  rintro e w1 ⟨⟨c, rfl, hc⟩, hw1⟩
  have hbp1 := (hw1.block w.heap.size (by simp; omega)).trans ((Below.heap_alloc _ _ _ (by simp)).trans (heap_new_at w (.cells #[.string p.nm, .bool p.vr, .slice op p.ts.length cp] 25) _ rfl))
  have hbt1 := (hw1.block (w.heap.size + 1) (by simp)).trans (heap_new_at _ (.cells #[.string t.nm, .bool t.vr, .slice ot t.ts.length ct] 25) _ (by simp))
  have HW1 : Hid (Below w.heap.size w w1) := Lib.hid (Below.trans (by go_grown) (hw1.mono (by simp; omega)))
  have HC := Lib.hid hc
  have hz1 : w.heap.size + 1 < w1.heap.size := (Array.getElem?_eq_some_iff.1 hbt1).1
  have HBP := Lib.hid ((Below.heap_alloc w1 (.map #[] 0) _ (by omega)).trans hbp1)
  have HBT := Lib.hid ((Below.heap_alloc w1 (.map #[] 0) _ (by omega)).trans hbt1)
  obtain ⟨⟨x0, x1, x2⟩, -⟩ := box3 HBP.out
  obtain ⟨⟨y0, y1, y2⟩, -⟩ := box3 HBT.out
  clear hc hw1 hbp1 hbt1
  by_cases hc0 : c = 0
  · subst hc0
    have HOK := Lib.hid (HC.out.1 rfl)
    have hbare := HOK.out.1.1.bare
    have hkl : (firsts [] p).length ≤ 1048576 := by have := firsts_len p; have := HOK.out.1.2.1; omega
    have hI0 : MtI (firsts [] p) w1.heap.size [] (w1.alloc (.map #[] 0)) := ⟨⟨_, World.ownsMap_made w1 _ _ _, TInv.empty _ _⟩, (fun q hq => by cases hq), (fun q hq => by cases hq)⟩
    obtain ⟨r, S', hst⟩ : ∃ r S', mstep [] p t = some (r, S') := ⟨_, _, rfl⟩
    have HST := Lib.hid hst
    have HMC := Lib.hid (match_any (firsts [] p) hkl w1.heap.size w1.heap.size (Nat.le_refl _) p [] t (.slice op p.ts.length cp) (.slice ot t.ts.length ct) (w1.alloc (.map #[] 0)) r S' hst hI0 (by simp)
      (HP.out.carry (HW1.out.trans (show Below w.heap.size w1 _ from (Below.refl _ _).alloc HW1.out.size _)) (by simp; omega)) (HT.out.carry (HW1.out.trans (show Below w.heap.size w1 _ from (Below.refl _ _).alloc HW1.out.size _)) (by simp; omega)) hbp hbt (vin_firsts p hbare [] _ fun k hk => hk))
    have HBARE := Lib.hid hbare
    clear hst hI0 hbare
    go_wp2_with fail
    refine HMC.out.mono ?_
    rintro e w2 ⟨rfl, hi2, hk2⟩
    have HI2 := Lib.hid hi2
    have HW2 : Hid (Below w.heap.size w w2) := Lib.hid ((HW1.out.trans ((Below.refl _ w1).alloc HW1.out.size _)).trans (hk2.low.mono HW1.out.size))
    clear hi2 hk2
    cases hm : mtc p [] t with
    | none =>
      have hr : r = false := by have h := HST.out; rw [mstep_no hm] at h; simp only [Option.some.injEq, Prod.mk.injEq] at h; exact h.1.symm
      subst hr
      have HM := Lib.hid hm
      clear hm
      go_wp2_with fail
      refine bodyPost_ret (v := .tuple #[.slice none 0 0, .bool false, .int .i64 0]) (by simp [results, Tryz.f99, go_sem]) rfl ?_
      exact ⟨⟨0, false, _, rfl, ⟨fun _ => HOK.out, fun _ => rfl⟩, fun _ => .inr ⟨rfl, HM.out, rfl⟩, fun h => absurd rfl h⟩, HW2.out⟩
    | some m =>
      have hrS : r = true ∧ S' = m := by have h := HST.out; rw [mstep_yes hm] at h; simp only [Option.some.injEq, Prod.mk.injEq] at h; exact ⟨h.1.symm, h.2.symm⟩
      obtain ⟨rfl, rfl⟩ := hrS
      have HM := Lib.hid hm
      have HI3 : Hid (MtI (firsts [] p) w1.heap.size S' w2) := Lib.hid (by have h := HI2.out; first | exact h rfl | exact h trivial)
      have HBB : Hid (∀ q ∈ S', q.2.bulk ≤ 1048576 ∧ q.2.bare ∧ q.1.length ≤ 1048576) := Lib.hid (by
        intro q hq
        obtain ⟨h1, h2⟩ := mtc_vals (fun u => u.bulk ≤ 1048576 ∧ u.bare) (fun t ⟨h1, h2⟩ u hu => ⟨by have := Tm.bulk_mem hu; have := Tm.bulk_eq t; omega, h2.kids u hu⟩) p [] t S' hm ⟨hbt, HOK.out.2.1.bare⟩ (fun q hq => by cases hq) q hq
        exact ⟨h1, h2, firsts_names p [] (fun x hx => by cases hx) hbp _ (HI3.out.keys q hq)⟩)
      clear hm
      have HSB := Lib.hid (msubst_any S' w1.heap.size w2 HI3.out.map (Nat.le_trans HI3.out.len hkl) HBB.out)
      go_wp2_with fail
      refine HSB.out.mono ?_
      rintro e w3 ⟨⟨v, rfl, hv⟩, hw3⟩
      obtain ⟨ov, cv, rfl, -⟩ := id hv
      have HV := Lib.hid hv
      have HW3 := Lib.hid (HW2.out.trans (hw3.mono HW2.out.size))
      clear hv hw3
      go_wp2_with fail
      refine bodyPost_ret (v := .tuple #[.slice ov (subK S').length cv, .bool true, .int .i64 0]) (by simp [results, Tryz.f99, go_sem]) rfl ?_
      exact ⟨⟨0, true, _, rfl, ⟨fun _ => HOK.out, fun _ => rfl⟩, fun _ => .inl ⟨rfl, S', HM.out, HI3.out.map.nodup, HV.out⟩, fun h => absurd rfl h⟩, HW3.out⟩
  · have hcb : (c != 0) = true := by rw [bne_iff_ne]; exact hc0
    have HC0 := Lib.hid hc0
    clear hc0
    go_wp2_with fail
    refine bodyPost_ret (v := .tuple #[.slice none 0 0, .bool false, .int .i64 c]) (by simp [results, Tryz.f99, go_sem]) rfl ?_
    exact ⟨⟨c, false, _, rfl, HC.out, fun h => absurd h HC0.out, fun _ => ⟨rfl, rfl⟩⟩, HW1.out⟩
end Go.Proofs.YtamddagmlanijaaGreat
/- rewrite's subst: the substitution of a step. -/
namespace Go.Proofs.YtamddagmlanijaaGreat
open Go.RowKit Go.Shelf Go.Maps

theorem Tm.depthIn {t : Tm} {l : List Tm} (h : t ∈ l) : t.depth ≤ Tm.depths l := by
  induction l with
  | nil => cases h
  | cons x l ih =>
    simp only [Tm.depths]
    rcases List.mem_cons.1 h with rfl | h
    · omega
    · have := ih h; omega
theorem Tm.atSize {t u : Tm} {l : List Int} (h : t.at l = some u) : u.size ≤ t.size ∧ u.depth ≤ t.depth := by
  induction l generalizing t with
  | nil => simp only [Tm.at, Option.some.injEq] at h; subst h; exact ⟨Nat.le_refl _, Nat.le_refl _⟩
  | cons i l ih =>
    simp only [Tm.at] at h
    split at h
    · rename_i x hx
      have h1 := ih h
      have h2 := Tm.size_mem (Tm.kid_mem hx)
      have h3 := Tm.size_eq t
      have h4 := Tm.depthIn (Tm.kid_mem hx)
      have h5 := Tm.depth_eq t
      omega
    · cases h
theorem Tm.okAt {t u : Tm} (ht : t.ok) {l : List Int} (h : t.at l = some u) : u.ok :=
  ⟨ht.1.at h, Nat.le_trans (Tm.atSize h).1 ht.2.1, Nat.le_trans (Tm.atSize h).2 ht.2.2⟩
/-- the rule of a step with the substitution with which its left side matches -/
noncomputable def stepM (l : List RlV) (t : Tm) (rule : Int) (pos : List Int) : Option (List Bd × RlV) :=
  if 0 ≤ rule then
    match l[rule.toNat]? with
    | some p => match t.at pos with
      | some x => (mtc p.1.1 [] x).map fun m => (subK m, p)
      | none => none
    | none => none
  else none
theorem stepM_some {l : List RlV} {t : Tm} {rule : Int} {pos : List Int} {b : List Bd} {p : RlV} (h : stepM l t rule pos = some (b, p)) :
    ∃ (k : Nat) (x : Tm) (m : List Bd), rule = k ∧ l[k]? = some p ∧ t.at pos = some x ∧ mtc p.1.1 [] x = some m ∧ b = subK m := by
  unfold stepM at h
  split at h
  · rename_i hr
    split at h
    · rename_i q hq
      split at h
      · rename_i x hx
        cases hm : mtc q.1.1 [] x with
        | none => rw [hm] at h; cases h
        | some m =>
          rw [hm] at h
          simp only [Option.map_some, Option.some.injEq, Prod.mk.injEq] at h
          obtain ⟨rfl, rfl⟩ := h
          exact ⟨rule.toNat, x, m, by omega, hq, hx, hm, rfl⟩
      · cases h
    · cases h
  · cases h

theorem cell_in {A : World} {p : Addr} {v : Value} (h : A.cell? p = some v) : p.block < A.heap.size := by
  by_cases hp : p.block < A.heap.size
  · exact hp
  · have : A.heap[p.block]? = none := Array.getElem?_eq_none (by omega)
    simp [World.cell?, this] at h
theorem cell_next {A B : World} {p : Addr} {v : Value} (hb : Below A.heap.size A B) (h : A.cell? p = some v) : B.cell? p = some v := (hb.cell (cell_in h)).trans h
/-- how subst answers -/
def RwsPost (l : List RlV) (t : Tm) (rule : Int) (pos : List Int) (e : Ending) (w' : World) : Prop :=
  (∃ b p v, e = .returned (.tuple #[v, .int .i64 0]) ∧ stepM l t rule pos = some (b, p) ∧ BindsIs w'.heap.size w' b v) ∨ (∃ c : Int, e = .returned (.tuple #[.slice none 0 0, .int .i64 c]) ∧ c ≠ 0 ∧ stepM l t rule pos = none)
set_option maxRecDepth 100000 in
set_option maxHeartbeats 4000000 in
theorem rwsubst_any (l : List RlV) (rv : Value) (t : Tm) (s : Value) (rule : Int) (pos : List Int) (pv : Value) (w : World) (hr : RulV w.heap.size w l rv) (hs : SlIs w.heap.size w t.ts s) (hp : PosIs w.heap.size w pos pv)
    (hok : SysOk l) (ht : t.ok) (hlb : ∀ x ∈ sidesV l, x.1.bulk ≤ 1048576) (hll : pos.length ≤ 1048576) (hb : t.bulk ≤ 1048576) :
    Calls Tryz.prog 40 #[rv, tmv t s, .agg #[.int .i64 rule, pv]] w fun e w' =>
      RwsPost l t rule pos e w' ∧ Below w.heap.size w w' := by
  obtain ⟨oa, cap, rfl, -⟩ := hs.form
  obtain ⟨ov, cv, rfl, -⟩ := hp.form
  obtain ⟨ol, cl, rfl⟩ := hr.shape
  have HR := Lib.hid hr
  have HS := Lib.hid hs
  have HP := Lib.hid hp
  have HOK := Lib.hid hok
  have HT := Lib.hid ht
  have HLB := Lib.hid hlb
  clear hr hs hp hok ht hlb
  rw [show tmv t (.slice oa t.ts.length cap) = .agg #[.string t.nm, .bool t.vr, .slice oa t.ts.length cap] from rfl]
  go_enter Tryz.func40, Tryz.ntmps40
  by_cases hneg : rule < 0
  · have HN : Hid (stepM l t rule pos = none) := Lib.hid (by unfold stepM; rw [if_neg (by omega)])
    go_wp2_with fail
    refine bodyPost_ret (v := .tuple #[.slice none 0 0, .int .i64 8]) (by simp [results, Tryz.f40, go_sem]) rfl ?_
    exact ⟨.inr ⟨8, rfl, by decide, HN.out⟩, by go_grown⟩
  · by_cases hge : (l.length : Int) ≤ rule
    · have HN : Hid (stepM l t rule pos = none) := Lib.hid (by unfold stepM; rw [if_pos (by omega), List.getElem?_eq_none (show l.length ≤ rule.toNat by omega)])
      go_wp2_with fail
      refine bodyPost_ret (v := .tuple #[.slice none 0 0, .int .i64 8]) (by simp [results, Tryz.f40, go_sem]) rfl ?_
      exact ⟨.inr ⟨8, rfl, by decide, HN.out⟩, by go_grown⟩
    · obtain ⟨k, rfl⟩ : ∃ k : Nat, rule = (k : Int) := ⟨rule.toNat, by omega⟩
      have hk : k < l.length := by omega
      have hB0 : Below w.heap.size w ((w.alloc (.cells #[.string t.nm, .bool t.vr, .slice oa t.ts.length cap] 25)).alloc (.cells #[.int .i64 k, .slice ov pos.length cv] 36)) := by go_grown
      have HAT := Lib.hid (rwat_any t _ pos _ _ (HS.out.carry hB0 hB0.size) (HP.out.carry hB0 hB0.size) hll hb)
      obtain ⟨b, o, p, y, op, oy, cp, cy, rfl, hbn, hpk, hsp, hsy, c0, c1, c2, -, -, -⟩ := HR.out.get hk
      have hpm := List.mem_of_getElem? hpk
      have hpb := HLB.out _ (sidesV_mem hpm).1
      have hpo := HOK.out.2.1 _ (sidesV_mem hpm).1
      simp only at hpb hpo
      have HPO := Lib.hid hpo
      have HPK := Lib.hid hpk
      have HSP := Lib.hid hsp
      have HB0 := Lib.hid hB0
      clear hpk hsp hsy hpm hpo hB0
      go_wp2_with fail
      refine HAT.out.mono ?_
      rintro e w1 ⟨hat, hb1⟩
      have hbw := HB0.out.trans (hb1.mono (by simp; omega))
      have d0 := (hbw.cell (p := ⟨b, _, none⟩) hbn).trans c0
      have d1 := (hbw.cell (p := ⟨b, _, none⟩) hbn).trans c1
      have d2 := (hbw.cell (p := ⟨b, _, none⟩) hbn).trans c2
      have hsb := (hb1.block (w.heap.size + 1) (by simp)).trans (heap_new_at _ _ _ (by simp))
      have s0 := cells_of hsb 0
      simp only [List.getElem?_toArray, List.getElem?_cons_zero] at s0
      have HB1 := Lib.hid hbw
      have HBA := Lib.hid hb1
      clear hb1 hbw c0 c1 c2 hsb HAT
      rcases hat with ⟨x, sx, rfl, hx, hsx⟩ | ⟨rfl, hno⟩
      · have HX := Lib.hid hx
        obtain ⟨ox, cx, rfl, -⟩ := hsx.form
        have hxb := Tm.at_bulk hx
        have hxo := Tm.okAt HT.out hx
        have HSX := Lib.hid hsx
        have HXO := Lib.hid hxo
        clear hx hsx hxo
        have hbx : Below w.heap.size w (w1.alloc (.cells #[.string x.nm, .bool x.vr, .slice ox x.ts.length cx] 25)) := HB1.out.trans (by have := HB1.out.size; go_grown)
        have hbd := hbx.drew
        have hbx2 := (HBA.out.trans (show Below _ w1 (w1.alloc (.cells #[.string x.nm, .bool x.vr, .slice ox x.ts.length cx] 25)) from by have := HBA.out.size; go_grown)).drew
        have HMT := Lib.hid (umatch_any p x (.slice op p.ts.length cp) (.slice ox x.ts.length cx) _ (HSP.out.carry hbd hbd.size) (HSX.out.carry hbx2 hbx2.size) hpb (by omega))
        clear hbx2
        have hbn2 : Below w1.heap.size w1 (w1.alloc (.cells #[.string x.nm, .bool x.vr, .slice ox x.ts.length cx] 25)).drew := (show Below w1.heap.size w1 (w1.alloc (.cells #[.string x.nm, .bool x.vr, .slice ox x.ts.length cx] 25)) from by go_grown).drew
        have HC : Hid ((w1.alloc (.cells #[.string x.nm, .bool x.vr, .slice ox x.ts.length cx] 25)).drew.cell? ⟨b, o + k * 6, none⟩ = some (.string p.nm) ∧ (w1.alloc (.cells #[.string x.nm, .bool x.vr, .slice ox x.ts.length cx] 25)).drew.cell? ⟨b, o + k * 6 + 1, none⟩ = some (.bool p.vr) ∧ (w1.alloc (.cells #[.string x.nm, .bool x.vr, .slice ox x.ts.length cx] 25)).drew.cell? ⟨b, o + k * 6 + 2, none⟩ = some (.slice op p.ts.length cp) ∧ (w1.alloc (.cells #[.string x.nm, .bool x.vr, .slice ox x.ts.length cx] 25)).drew.cell? ⟨w.heap.size + 1, 0, none⟩ = some (.int .i64 k) ∧
            (w1.alloc (.cells #[.string x.nm, .bool x.vr, .slice ox x.ts.length cx] 25)).drew.cell? ⟨w1.heap.size, 0, none⟩ = some (.string x.nm) ∧ (w1.alloc (.cells #[.string x.nm, .bool x.vr, .slice ox x.ts.length cx] 25)).drew.cell? ⟨w1.heap.size, 1, none⟩ = some (.bool x.vr) ∧ (w1.alloc (.cells #[.string x.nm, .bool x.vr, .slice ox x.ts.length cx] 25)).drew.cell? ⟨w1.heap.size, 2, none⟩ = some (.slice ox x.ts.length cx)) := Lib.hid
          ⟨cell_next hbn2 d0, cell_next hbn2 d1, cell_next hbn2 d2, cell_next hbn2 s0, cell_new_at _ _ _ _ _ rfl, cell_new_at _ _ _ _ _ rfl, cell_new_at _ _ _ _ _ rfl⟩
        have HBD := Lib.hid hbd
        clear hbx hbd hbn2
        go_wp2_with fail
        go_region_held3 (fun w' => w'.cell? ⟨b, o + k * 6, none⟩ = some (.string p.nm) ∧ w'.cell? ⟨b, o + k * 6 + 1, none⟩ = some (.bool p.vr) ∧ w'.cell? ⟨b, o + k * 6 + 2, none⟩ = some (.slice op p.ts.length cp) ∧ w'.cell? ⟨w.heap.size + 1, 0, none⟩ = some (.int .i64 k) ∧
            w'.cell? ⟨w1.heap.size, 0, none⟩ = some (.string x.nm) ∧ w'.cell? ⟨w1.heap.size, 1, none⟩ = some (.bool x.vr) ∧ w'.cell? ⟨w1.heap.size, 2, none⟩ = some (.slice ox x.ts.length cx)) (go_keep) ((first
        | (go_at_call 99
           refine HMT.out.mono ?_
           rintro e w3 ⟨⟨c3, b3, v3, rfl, hm3⟩, hb3⟩
           have q0 := cell_next hb3 HC.out.1
           have q1 := cell_next hb3 HC.out.2.1
           have q2 := cell_next hb3 HC.out.2.2.1
           have q3 := cell_next hb3 HC.out.2.2.2.1
           have q4 := cell_next hb3 HC.out.2.2.2.2.1
           have q5 := cell_next hb3 HC.out.2.2.2.2.2.1
           have q6 := cell_next hb3 HC.out.2.2.2.2.2.2
           have HM3 := Lib.hid hm3
           have HB3 := Lib.hid (HBD.out.trans (hb3.mono HBD.out.size))
           clear hm3 hb3)))
        obtain ⟨hc3, hyes, -⟩ := HM3.out
        obtain rfl : c3 = 0 := hc3.2 ⟨HPO.out, HXO.out⟩
        have HSM : Hid (∀ m, mtc p [] x = m → stepM l t k pos = m.map fun m => (subK m, ((p, .slice op p.ts.length cp), (y, .slice oy y.ts.length cy)))) := Lib.hid (fun m hm => by
          unfold stepM; rw [if_pos (by omega), Int.toNat_natCast, HPK.out]
          simp only [HX.out, hm])
        rcases hyes rfl with ⟨rfl, m, hm, hnd, hbi⟩ | ⟨rfl, hm, rfl⟩
        · have HBI := Lib.hid hbi
          have HM := Lib.hid hm
          clear hc3 hyes hbi hm hnd
          obtain ⟨ob, cb, rfl, -, -⟩ := id HBI.out
          go_wp2_with fail
          refine bodyPost_ret (v := .tuple #[.slice ob (subK m).length cb, .int .i64 0]) (by simp [results, Tryz.f40, go_sem]) rfl ?_
          exact ⟨.inl ⟨_, _, _, rfl, HSM.out _ HM.out, HBI.out⟩, HB3.out⟩
        · have HM := Lib.hid hm
          clear hc3 hyes hm
          go_wp2_with fail
          refine bodyPost_ret (v := .tuple #[.slice none 0 0, .int .i64 9]) (by simp [results, Tryz.f40, go_sem]) rfl ?_
          exact ⟨.inr ⟨_, rfl, by decide, HSM.out _ HM.out⟩, HB3.out⟩
      · have HN : Hid (stepM l t k pos = none) := Lib.hid (by unfold stepM; rw [if_pos (by omega), Int.toNat_natCast, HPK.out, hno])
        clear hno
        go_wp2_with fail
        refine bodyPost_ret (v := .tuple #[.slice none 0 0, .int .i64 8]) (by simp [results, Tryz.f40, go_sem]) rfl ?_
        exact ⟨.inr ⟨8, rfl, by decide, HN.out⟩, HB1.out.trans (by have := HB1.out.size; go_grown)⟩
end Go.Proofs.YtamddagmlanijaaGreat
/- The solver of package unify as a function: what it keeps, what it replaces. No program stands here. -/
namespace Go.Proofs.YtamddagmlanijaaGreat
open Go.RowKit

/-- the terms that are kept, and the replacements in their order -/
structure Sv where
  bd : List Bd
  eq : List (Key × Key)
/-- what finally replaces a name -/
def repE (E : List (Key × Key)) (u : Key) : Key := E.foldl (fun r p => if r = p.1 then p.2 else r) u
def vrk (k : Key) : Tm := .mk (kb k) true []
/-- the name of the n-th term that is kept -/
def hname (n : Nat) : Key := 35 :: (digN n).data.toList
/-- nothing that is known is forgotten -/
def Sv.le (S T : Sv) : Prop := S.bd.length ≤ T.bd.length ∧ S.eq.length ≤ T.eq.length
theorem Sv.le_refl (S : Sv) : S.le S := ⟨Nat.le_refl _, Nat.le_refl _⟩
theorem Sv.le_trans {S T U : Sv} (h : S.le T) (k : T.le U) : S.le U := ⟨Nat.le_trans h.1 k.1, Nat.le_trans h.2 k.2⟩
/-- a way of n steps through the replacements -/
inductive Rep (E : List (Key × Key)) : Nat → Key → Key → Prop
  | stop (u : Key) : getA E u = none → Rep E 0 u u
  | step (u v r : Key) (n : Nat) : getA E u = some v → Rep E n v r → Rep E (n + 1) u r
theorem Rep.end {E : List (Key × Key)} {n : Nat} {u r : Key} (h : Rep E n u r) : getA E r = none := by
  induction h with
  | stop u h => exact h
  | step u v r n _ _ ih => exact ih
/-- the map E' of replacements stands for the replacements E: ways in it may have been shortened -/
structure EqRel (E' E : List (Key × Key)) : Prop where
  keys : ∀ k, k ∈ E'.map (·.1) ↔ k ∈ E.map (·.1)
  vals : ∀ k v, getA E' k = some v → v ∈ E.map (·.2)
  rep : ∀ u, ∃ n, Rep E' n u (repE E u)
theorem EqRel.nil : EqRel [] [] := ⟨fun _ => Iff.rfl, (fun k v h => by cases h), fun u => ⟨0, .stop u rfl⟩⟩
theorem EqRel.free {E' E : List (Key × Key)} (h : EqRel E' E) (u : Key) : repE E u ∉ E.map (·.1) := by
  obtain ⟨n, hr⟩ := h.rep u
  rw [← h.keys]
  exact getA_none.1 hr.end
/-- a name that is no name of a kept term, but of one that is there -/
def Kn (S : Sv) (k : Key) : Prop := k.length ≤ 24 ∧ ∀ i, i < 1048576 → k = hname i → i < S.bd.length
theorem Kn.mono {S S' : Sv} {k : Key} (h : Kn S k) (hl : S.bd.length ≤ S'.bd.length) : Kn S' k := ⟨h.1, fun i hi e => Nat.lt_of_lt_of_le (h.2 i hi e) hl⟩
/-- every variable's name is such a name -/
inductive Tm.kn (S : Sv) : Tm → Prop
  | mk (t : Tm) : t.nm.size ≤ 24 ∧ t.ts.length ≤ 8 → (t.vr = true → Kn S t.nm.data.toList) → (∀ u ∈ t.ts, u.kn S) → t.kn S
theorem Tm.kn.node {S : Sv} {t : Tm} (h : t.kn S) : t.nm.size ≤ 24 ∧ t.ts.length ≤ 8 := by cases h with | mk _ h0 h1 h2 => exact h0
theorem Tm.kn.var {S : Sv} {t : Tm} (h : t.kn S) : t.vr = true → Kn S t.nm.data.toList := by cases h with | mk _ h0 h1 h2 => exact h1
theorem Tm.kn.kids {S : Sv} {t : Tm} (h : t.kn S) : ∀ u ∈ t.ts, u.kn S := by cases h with | mk _ h0 h1 h2 => exact h2
theorem Tm.kn.mono {S S' : Sv} {t : Tm} (h : t.kn S) (hl : S.bd.length ≤ S'.bd.length) : t.kn S' := by
  induction t using Tm.ind with
  | h t ih => exact .mk t h.node (fun hv => (h.var hv).mono hl) fun u hu => ih u hu (h.kids u hu)
theorem hname_inj {i j : Nat} (hi : i < 1048576) (hj : j < 1048576) (h : hname i = hname j) : i = j := by
  unfold hname at h
  simp only [List.cons.injEq, true_and] at h
  exact digN_inj hi hj (bytes_ext h)
theorem hname_len (i : Nat) : (hname i).length ≤ 8 := by
  unfold hname
  have := digN_size i
  rw [List.length_cons, bytes_len]; omega
/-- a formed term's variables are no names of kept terms -/
theorem Tm.formed.kn {t : Tm} (h : t.formed) (S : Sv) : t.kn S := by
  induction t using Tm.ind with
  | h t ih =>
    obtain ⟨h1, h2⟩ := (Tm.formed_iff t).1 h
    refine .mk t ?_ (fun hv => ?_) fun u hu => ih u hu (h2 u hu)
    · unfold nodeOk at h1
      split at h1
      · simp only [Bool.and_eq_true, beq_iff_eq] at h1; exact ⟨isName_le24 h1.1, by omega⟩
      · simp only [Bool.and_eq_true, decide_eq_true_eq] at h1; exact ⟨isName_le24 h1.1, h1.2⟩
    simp only [nodeOk, hv, if_true, Bool.and_eq_true] at h1
    have hn := h1.1
    have hl := isName_le24 hn
    refine ⟨by rw [bytes_len]; omega, fun i _ e => ?_⟩
    unfold isName at hn
    simp only [Bool.and_eq_true, baseOf, plain] at hn
    have hp := hn.2
    simp only [Bool.false_eq_true, if_false] at hp
    rw [e, hname, List.all_cons, Bool.and_eq_true] at hp
    exact absurd hp.1 (by decide)

/-- a state that the solver comes to -/
structure SvOk (S : Sv) : Prop where
  keys : S.bd.map (·.1) = (List.range S.bd.length).map hname
  eqs : ∀ p ∈ S.eq, Kn S p.1 ∧ Kn S p.2
  flat : ∀ k t, (k, t) ∈ S.bd → t.vr = false ∧ t.nm.size ≤ 24 ∧ ∃ ks : List Key, t.ts = ks.map vrk ∧ ks.length ≤ 8 ∧ ∀ a ∈ ks, Kn S a
theorem SvOk.start : SvOk ⟨[], []⟩ := ⟨rfl, by simp, by simp⟩
theorem SvOk.rep {S : Sv} (h : SvOk S) {u : Key} (hu : Kn S u) : Kn S (repE S.eq u) := by
  have key : ∀ (l : List (Key × Key)) (u : Key), (∀ p ∈ l, p ∈ S.eq) → Kn S u → Kn S (l.foldl (fun r p => if r = p.1 then p.2 else r) u) := by
    intro l
    induction l with
    | nil => intro u _ hu; exact hu
    | cons p l ih =>
      intro u hs hu
      rw [List.foldl_cons]
      refine ih _ (fun q hq => hs q (by simp [hq])) ?_
      split
      · exact (h.eqs p (hs p (by simp))).2
      · exact hu
  exact key S.eq u (fun p hp => hp) hu
theorem SvOk.fresh {S : Sv} (h : SvOk S) (hl : S.bd.length < 1048576) : hname S.bd.length ∉ S.bd.map (·.1) ∧ hname S.bd.length ∉ S.eq.map (·.1) := by
  refine ⟨fun hm => ?_, fun hm => ?_⟩
  · rw [h.keys] at hm
    obtain ⟨i, hi, e⟩ := List.mem_map.1 hm
    rw [List.mem_range] at hi
    have := hname_inj (by omega) hl e
    omega
  · obtain ⟨p, hp, e⟩ := List.mem_map.1 hm
    have := (h.eqs p hp).1.2 _ hl e
    omega
/-- a term is kept -/
theorem SvOk.add {S : Sv} (h : SvOk S) {nm : ByteArray} {ks : List Key} (hk : ∀ a ∈ ks, Kn S a) (hn : nm.size ≤ 24) (h8 : ks.length ≤ 8) : SvOk ⟨S.bd ++ [(hname S.bd.length, .mk nm false (ks.map vrk))], S.eq⟩ := by
  have hm : ∀ k, Kn S k → Kn ⟨S.bd ++ [(hname S.bd.length, .mk nm false (ks.map vrk))], S.eq⟩ k := fun k hk => hk.mono (by simp)
  refine ⟨?_, fun p hp => ⟨hm _ (h.eqs p hp).1, hm _ (h.eqs p hp).2⟩, fun k t hkt => ?_⟩
  · rw [List.map_append, h.keys, List.length_append, List.length_singleton, List.range_succ, List.map_append]; rfl
  · rcases List.mem_append.1 hkt with hkt | hkt
    · obtain ⟨h1, h2, ks', h3, h5, h4⟩ := h.flat k t hkt
      exact ⟨h1, h2, ks', h3, h5, fun a ha => hm a (h4 a ha)⟩
    · obtain ⟨rfl, rfl⟩ : k = hname S.bd.length ∧ t = .mk nm false (ks.map vrk) := by simpa using hkt
      exact ⟨rfl, hn, ks, rfl, h8, fun a ha => hm a (hk a ha)⟩
theorem SvOk.new {S : Sv} {e : Tm} (hl : S.bd.length < 1048576) : Kn ⟨S.bd ++ [(hname S.bd.length, e)], S.eq⟩ (hname S.bd.length) := ⟨by have := hname_len S.bd.length; omega, fun i hi he => by have := hname_inj hl hi he; simp; omega⟩
end Go.Proofs.YtamddagmlanijaaGreat
/- Matching: plain facts that its law rests on. -/
namespace Go.Proofs.YtamddagmlanijaaGreat
open Go.RowKit

theorem imageOf_subK (m : List Bd) (k : Key) : imageOf (subK m) k = imageOf m k := by
  by_cases h : k ∈ m.map (·.1)
  · have hk : k ∈ sortK (m.map (·.1)) := sortK_mem.2 h
    unfold subK
    generalize sortK (m.map (·.1)) = l at hk
    have key : ∀ l : List Key, k ∈ l → imageOf (l.map fun k => (k, imageOf m k)) k = imageOf m k := by
      intro l
      induction l with
      | nil => intro h; cases h
      | cons a l ih =>
        intro h
        by_cases e : a = k
        · subst e; simp [imageOf]
        · have := ih (by simpa [Ne.symm e] using h)
          simpa [imageOf, e] using this
    exact key l hk
  · rw [imageOf_out h, imageOf_out]
    unfold subK
    simp only [List.map_map, List.mem_map, Function.comp_apply]
    rintro ⟨a, ha, rfl⟩
    exact h (sortK_mem.1 ha)
theorem apB_same {S T : List Bd} (h : ∀ k, imageOf S k = imageOf T k) (t : Tm) : apB S t = apB T t := by
  induction t using Tm.ind with
  | h t ih =>
    cases hv : t.vr
    · rw [apB_fun S hv, apB_fun T hv, List.map_congr_left ih]
    · rw [apB_var S hv, apB_var T hv, h]
theorem subK_len (m : List Bd) : (subK m).length = m.length := by unfold subK; rw [List.length_map, sortK_len, List.length_map]
theorem match_sound {p t : Tm} {m : List Bd} (hp : p.bare) (h : mtc p [] t = some m) (hn : (m.map (·.1)).Nodup) : apB (subK m) p = t := by
  rw [apB_same (imageOf_subK m)]
  exact mtc_sound p hp [] t m m h (List.prefix_refl _) hn
theorem match_len {p t : Tm} {m : List Bd} (hp : p.bare) (h : mtc p [] t = some m) : m.map (·.1) = firsts [] p ∧ m.length ≤ p.size := by
  have h1 := (mtc_keys p hp [] t m h).2
  refine ⟨h1, ?_⟩
  have h2 := congrArg List.length h1
  rw [List.length_map] at h2
  rw [h2]; exact firsts_len p
end Go.Proofs.YtamddagmlanijaaGreat
/- Steps: plain facts. -/
namespace Go.Proofs.YtamddagmlanijaaGreat
open Go.RowKit

theorem firsts_isName (t : Tm) (ht : t.formed) : ∀ (ss : List Key), ∀ x ∈ firsts ss t, x ∈ ss ∨ isName (kb x) false = true := by
  induction t using Tm.ind with
  | h t ih =>
    intro ss x hx
    obtain ⟨h1, h2⟩ := (Tm.formed_iff t).1 ht
    cases hv : t.vr
    · rw [firsts_fun ss hv] at hx
      have key : ∀ (l : List Tm) (ss : List Key), (∀ u ∈ l, u ∈ t.ts) → x ∈ firstsL ss l → x ∈ ss ∨ isName (kb x) false = true := by
        intro l
        induction l with
        | nil => intro ss _ h; exact .inl h
        | cons u l ihl =>
          intro ss hs h
          rw [firstsL_cons] at h
          rcases ihl _ (fun y hy => hs y (by simp [hy])) h with h | h
          · exact ih u (hs u (by simp)) (h2 u (hs u (by simp))) ss x h
          · exact .inr h
      exact key t.ts ss (fun _ h => h) hx
    · rw [firsts_var ss hv] at hx
      unfold nodeOk at h1
      rw [hv, if_pos rfl, Bool.and_eq_true] at h1
      unfold addKey at hx
      split at hx
      · exact .inl hx
      · rcases List.mem_append.1 hx with h | h
        · exact .inl h
        · obtain rfl := List.mem_singleton.1 h
          exact .inr (by rw [kb_key]; exact h1.1)
/-- the substitution of a step is valid -/
theorem stepM_sub {l : List RlV} {t : Tm} {rule : Int} {pos : List Int} {b : List Bd} {p : RlV} (h : stepM l t rule pos = some (b, p)) (hl : SysOk l) (ht : t.ok) :
    SubOk b ∧ p ∈ l ∧ ∃ x, t.at pos = some x ∧ apB b p.1.1 = x := by
  obtain ⟨k, x, m, rfl, hk, hx, hm, rfl⟩ := stepM_some h
  have hp := List.mem_of_getElem? hk
  have hpo := hl.2.1 _ (sidesV_mem hp).1
  have hb := hpo.1.bare
  have hkeys := (match_len hb hm).1
  have hnd : (m.map (·.1)).Nodup := by rw [hkeys]; exact firsts_nodup p.1.1 [] (by simp)
  have hxo := Tm.okAt ht hx
  have hv := mtc_vals (fun t => t.ok) (fun t ht u hu => ⟨((Tm.formed_iff t).1 ht.1).2 u hu, by have := Tm.size_mem hu; have := Tm.size_eq t; have := ht.2.1; omega, by have := Tm.depthIn hu; have := Tm.depth_eq t; have := ht.2.2; omega⟩) p.1.1 [] x m hm hxo (by simp)
  refine ⟨⟨?_, ?_, ?_⟩, hp, x, hx, match_sound hb hm hnd⟩
  · intro q hq
    unfold subK at hq
    obtain ⟨k', hk', rfl⟩ := List.mem_map.1 hq
    have := sortK_mem.1 hk'
    rw [hkeys] at this
    rcases firsts_isName p.1.1 hpo.1 [] k' this with h | h
    · cases h
    · exact h
  · intro i q r hq hr
    unfold subK at hq hr
    rw [List.getElem?_map] at hq hr
    cases h1 : (sortK (m.map (·.1)))[i]? with
    | none => rw [h1] at hq; cases hq
    | some a =>
      cases h2 : (sortK (m.map (·.1)))[i + 1]? with
      | none => rw [h2] at hr; cases hr
      | some c =>
        rw [h1] at hq; rw [h2] at hr
        cases hq; cases hr
        obtain ⟨i1, e1⟩ := List.getElem?_eq_some_iff.1 h1
        obtain ⟨i2, e2⟩ := List.getElem?_eq_some_iff.1 h2
        have := List.pairwise_iff_getElem.1 (sortK_order hnd) i (i + 1) i1 i2 (by omega)
        rw [e1, e2] at this
        exact this
  · intro q hq
    unfold subK at hq
    obtain ⟨k', hk', rfl⟩ := List.mem_map.1 hq
    obtain ⟨q', hq', rfl⟩ := List.mem_map.1 (sortK_mem.1 hk')
    have e : imageOf m q'.1 = q'.2 := imageOf_in hnd hq'
    show (imageOf m q'.1).ok
    rw [e]; exact hv q' hq'
theorem Tm.formed.allOk {t : Tm} (h : t.formed) : t.AllOk := by
  induction t using Tm.ind with
  | h t ih =>
    obtain ⟨h1, h2⟩ := (Tm.formed_iff t).1 h
    exact .mk t h1 fun u hu => ih u hu (h2 u hu)
theorem sizes_set {l : List Tm} {i : Nat} {x y : Tm} (h : l[i]? = some x) : Tm.sizes (l.set i y) + x.size = Tm.sizes l + y.size := by
  induction l generalizing i with
  | nil => simp at h
  | cons a l ih =>
    cases i with
    | zero => simp at h; subst h; simp [Tm.sizes]; omega
    | succ i => have := ih (i := i) (by simpa using h); simp [Tm.sizes]; omega
theorem Tm.put_size (t : Tm) (l : List Int) (u : Tm) : (t.put l u).size ≤ t.size + u.size := by
  induction l generalizing t with
  | nil => simp only [Tm.put]; omega
  | cons i l ih =>
    simp only [Tm.put]
    split
    · rename_i x hx
      have h1 := ih x
      have h2 : t.ts[i.toNat]? = some x := by
        unfold Tm.kid at hx
        split at hx
        · exact hx
        · cases hx
      have h3 := sizes_set (y := x.put l u) h2
      rw [Tm.size_eq (Tm.mk t.nm t.vr _), Tm.size_eq t]
      simp only [Tm.ts] at h3 ⊢
      omega
    · omega
theorem Tm.put_formed {t : Tm} (ht : t.formed) {u : Tm} (hu : u.formed) (l : List Int) : (t.put l u).formed := by
  induction l generalizing t with
  | nil => exact hu
  | cons i l ih =>
    simp only [Tm.put]
    split
    · rename_i x hx
      obtain ⟨h1, h2⟩ := (Tm.formed_iff t).1 ht
      refine (Tm.formed_iff _).2 ⟨?_, fun y hy => ?_⟩
      · simp only [Tm.nm, Tm.vr, Tm.ts, List.length_set] at h1 ⊢
        exact h1
      · rcases List.mem_or_eq_of_mem_set hy with h | rfl
        · exact h2 y h
        · exact ih (h2 x (Tm.kid_mem hx))
    · exact ht
end Go.Proofs.YtamddagmlanijaaGreat
