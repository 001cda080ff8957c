/- Packed: Wo2, L7s, Ent. -/
import Derived.Test.YtnomppdmhgefiaaGreatF22
import Derived.Test.YtnomppdmhgefiaaGreatF12
import Derived.Test.YtnomppdmhgefiaaGreatF10
import Derived.WalkKit
import Derived.ProofKit
import Derived.OpenShut
import Derived.Handy
import Derived.Lib.Hide
import Derived.Test.YtnomppdmhgefiaaGreatF09
import Derived.Test.YtnomppdmhgefiaaGreatF04
/- Package weight: Orients, Weight. -/
namespace Go.Proofs.YtnomppdmhgefiaaGreat
open Go.RowKit

theorem infoBool7 : (Tryz.prog.info? 4).map (fun i => (i.zero, i.size, i.bytes)) = some (some (.bool false), 1, 1) := by kernel_rfl
/-- greater, whatever the symbols are -/
noncomputable def wkB (L : List Rk) (u : Int) (s t : Tm) : Bool := krel (wtB L) (rkB L) u s t == 2
theorem wkB_yes {L : List Rk} {u : Int} {s t : Tm} : wkB L u s t = true ↔ Kbo (wtB L) (rkB L) u s t := by
  unfold wkB
  rw [beq_iff_eq]
  exact krel_two
theorem own_ne {b0 n p : Nat} {A : World} {v : Value} {xs : List Value} {cs : Array Value} (h : A.ownsRow b0 4 1 v n xs) (hz : A.heap[p]? = some (.cells cs 132 (0, 0))) : some p ≠ v.ownBlock := by
  rcases h.2 with ⟨rfl, -⟩ | ⟨g, cap, cur, rfl, hbg, hgc, -⟩
  · exact nofun
  · intro e
    cases e
    rw [hgc] at hz
    cases hz
/-- what Orients answers -/
def WoPost (L : List Rk) (u : Int) (R : List RlV) (w : World) (e : Ending) (w' : World) : Prop :=
  ∃ (c : Int) (v' : Value), e = .returned (.tuple #[v', .int .i64 c]) ∧ (c = 0 → WtOk L u ∧ SysOk R ∧ w'.ownsRow w.heap.size 4 1 v' R.length (R.map fun p => .bool (wkB L u p.1.1 p.2.1)))

set_option maxRecDepth 100000 in
set_option maxHeartbeats 2000000 in
theorem worients_any (L : List Rk) (u : Int) (lv : Value) (R : List RlV) (rv : Value) (w : World) (hL : RksIs w.heap.size w L lv) (hLb : rkBulk L ≤ 1048576) (hR : RulV w.heap.size w R rv) (hRl : R.length ≤ 1048576) (hRb : ∀ x ∈ sidesV R, x.1.bulk ≤ 1048576) :
    Calls Tryz.prog 25 #[lv, .int .i64 u, rv] w fun e w' => WoPost L u R w e w' ∧ Below w.heap.size w w' := by
  obtain ⟨i0, hi, hz0, hs1, hb1⟩ := info_parts infoBool7
  have HI := Lib.hid hi
  have HZ := Lib.hid hz0
  have HS1 := Lib.hid hs1
  have HB1 := Lib.hid hb1
  clear hi hz0 hs1 hb1
  obtain ⟨or', cr, rfl⟩ := hR.shape
  have hL' := hL
  obtain ⟨ol, cl, rfl, -, -⟩ := hL'
  have HL := Lib.hid hL
  have HR := Lib.hid hR
  have HLB := Lib.hid hLb
  have HRB := Lib.hid hRb
  clear hL hR hLb hRb
  go_enter Tryz.func25, Tryz.ntmps25
  go_wp2_with fail
  refine (wCheck_any L u _ w HL.out HLB.out).mono ?_
  rintro e w1 ⟨⟨c, rfl, hc⟩, hb⟩
  have HW1 := Lib.hid hb
  have HC := Lib.hid hc
  clear hb hc
  by_cases hc0 : c = 0
  case neg =>
    have hd : (c != 0) = true := by rw [bne_iff_ne]; exact hc0
    have HC0 := Lib.hid hc0
    clear hc0
    go_wp2_with fail
    refine bodyPost_ret (v := .tuple #[.slice none 0 0, .int .i64 c]) (by simp [results, Tryz.f25, go_sem]) rfl ?_
    exact ⟨⟨_, _, rfl, fun h => absurd h HC0.out⟩, HW1.out⟩
  subst hc0
  have HP : Hid (WtOk L u) := Lib.hid (HC.out.1 rfl)
  clear HC
  go_wp2_with fail
  refine (symbols_any R _ w1 (HR.out.carry HW1.out HW1.out.size) hRl HRB.out).mono ?_
  rintro e w2 ⟨⟨c, sv, rfl, hc, hcn⟩, hb⟩
  have HW2 := Lib.hid (HW1.out.trans (hb.mono HW1.out.size))
  have HC := Lib.hid hc
  by_cases hc0 : c = 0
  case neg =>
    have hd : (c != 0) = true := by rw [bne_iff_ne]; exact hc0
    have HC0 := Lib.hid hc0
    obtain rfl := hcn hc0
    clear hc0 hc hcn hb
    go_wp2_with fail
    refine bodyPost_ret (v := .tuple #[.slice none 0 0, .int .i64 c]) (by simp [results, Tryz.f25, go_sem]) rfl ?_
    exact ⟨⟨_, _, rfl, fun h => absurd h HC0.out⟩, HW2.out⟩
  subst hc0
  obtain ⟨hsys, S, hS, hSK, hSl⟩ := hc rfl
  have HSY := Lib.hid hsys
  have HS := Lib.hid hS
  have HSK := Lib.hid hSK
  obtain ⟨os, cs, rfl, -⟩ := hS
  clear HC hc hcn hb hsys hSK
  go_wp2_with fail
  have hG : Below w2.heap.size w2 (w2.alloc (.cells #[.slice ol L.length cl, .int .i64 u] 132)) := (Below.refl _ _).alloc (Nat.le_refl _) _
  have hx := heap_new_at w2 (.cells #[.slice ol L.length cl, .int .i64 u] 132) w2.heap.size rfl
  refine (isAdm_any HP S HSK (by omega) (.slice ol L.length cl) _ _ (HL.out.carry (HW2.out.trans (hG.mono HW2.out.size)) (Nat.le_trans HW2.out.size hG.size)) (HS.out.carry hG hG.size)).mono ?_
  rintro e w3 ⟨rfl, hb⟩
  have HW3 := Lib.hid ((HW2.out.trans (hG.mono HW2.out.size)).trans (hb.mono (Nat.le_trans HW2.out.size hG.size)))
  have HX3 := Lib.hid ((hb.block _ (Array.getElem?_eq_some_iff.1 hx).1).trans hx)
  have hw2 : w.heap.size ≤ w2.heap.size := HW2.out.size
  clear hb hx hG HS
  cases hadm : admB L u S with
  | false =>
    clear hadm
    go_wp2_with fail
    refine bodyPost_ret (v := .tuple #[.slice none 0 0, .int .i64 10]) (by simp [results, Tryz.f25, go_sem]) rfl ?_
    exact ⟨⟨_, _, rfl, fun h => by cases h⟩, HW3.out⟩
  | true =>
  clear hadm
  go_wp2_with fail
  have HAS : Hid (∀ k p, R[k]? = some p → ((R.map fun p => Value.bool (wkB L u p.1.1 p.2.1)).take (k + 1)) = ((R.map fun p => Value.bool (wkB L u p.1.1 p.2.1)).take k) ++ [.bool (wkB L u p.1.1 p.2.1)]) := Lib.hid (fun k p h => by rw [List.take_add_one, List.getElem?_map, h]; rfl)
  obtain ⟨M, hM⟩ : ∃ M, M = R.map fun p => Value.bool (wkB L u p.1.1 p.2.1) := ⟨_, rfl⟩
  rw [← hM] at HAS
  have HM := Lib.hid hM
  clear hM
  go_loopw [12, 38] (fun o i wr => ∃ (k : Nat) (oo : Option Addr) (oc : Nat), k ≤ R.length ∧ o = .slice oo k oc ∧ i = .int .i64 k ∧ Hid (wr.ownsRow w.heap.size 4 1 (.slice oo k oc) k (M.take k)) ∧ Hid (Below w.heap.size w wr) ∧ Hid (wr.heap[w2.heap.size]? = some (.cells #[.slice ol L.length cl, .int .i64 u] 132 (0, 0)))) (fun _ i _ => R.length - (intOf i).toNat)
  case atStart => exact ⟨0, none, 0, by omega, rfl, rfl, Lib.hid (World.ownsRow_nil _ _ _ _), HW3, HX3⟩
  case round =>
    obtain ⟨k, oo, oc, hk, rfl, rfl, HO, HBW, HXW⟩ := hrel
    have hz := HBW.out.size
    by_cases hlt : k < R.length
    · obtain ⟨br, ob, pl, pr, ol2, or2, cl2, cr2, rfl, hbr, hpk, hsl, hsr, c0, c1, c2, c3, c4, c5⟩ := (HR.out.carry HBW.out (Nat.le_refl _)).get hlt
      have hpm := sidesV_mem (List.mem_of_getElem? hpk)
      have hokl := HSY.out.2.1 _ hpm.1
      have hokr := HSY.out.2.1 _ hpm.2
      have HCALL : Hid (∀ W, Below wr.heap.size wr W → Calls Tryz.prog 69 #[.agg #[.slice ol L.length cl, .int .i64 u], .agg #[.string pl.nm, .bool pl.vr, .slice ol2 pl.ts.length cl2], .agg #[.string pr.nm, .bool pr.vr, .slice or2 pr.ts.length cr2]] W fun e w' => e = .returned (.bool (wkB L u pl pr)) ∧ Below W.heap.size W w') := Lib.hid (fun W hW =>
        wisGreater_any HP (.slice ol L.length cl) pl pr (.slice ol2 pl.ts.length cl2) (.slice or2 pr.ts.length cr2) W (HL.out.carry (HBW.out.trans (hW.mono hz)) (Nat.le_trans hz hW.size)) (hsl.carry (hW.mono hz) (Nat.le_trans hz hW.size)) (hsr.carry (hW.mono hz) (Nat.le_trans hz hW.size)) hokl.1.bare hokr.1.bare (HRB.out _ hpm.1) (HRB.out _ hpm.2))
      have hox := (Array.getElem?_eq_some_iff.1 HXW.out).1
      obtain ⟨z0, z1⟩ := (box2w HXW.out).1
      have HPK := Lib.hid hpk
      clear hpk hsl hsr hpm hokl hokr
      go_wp2_with (first
        | (go_at_call 69
           refine (HCALL.out _ (by go_grown)).mono ?_
           rintro e w5 ⟨rfl, hb5⟩
           have HB5 : Hid (Below wr.heap.size wr w5) := Lib.hid ((show Below wr.heap.size wr _ from by go_grown).trans (hb5.mono (by simp)))
           have hz5 := HB5.out.size
           have HX5 := Lib.hid ((HB5.out.block _ hox).trans HXW.out)
           have hox5 := (Array.getElem?_eq_some_iff.1 HX5.out).1
           have HROW := Lib.hid (HO.out.kept (below_grown HB5.out) (own_none _))
           clear hb5)
        | (at_builtin
           refine wpList_append_opt rfl (.tmp 42) (.tmp 49) 59 rfl w.heap.size 4 i0 (.bool false) 1 1 Tryz.underlying59 HI.out HZ.out HS1.out HB1.out rfl (by decide) (.slice oo k oc) k (M.take k) rfl (HROW.out.alloc _) (some ⟨w5.heap.size, 0, none⟩) 1 1 [.bool (wkB L u pl pr)] rfl rfl (fun h => by cases h) (fun ad had => by cases had; exact cell_one_at (heap_new_at _ _ _ (by simp))) (by simp [Value.oneCell']) (by unfold maxLen; omega) (by omega) (by simp; omega) ?_
           intro v7 w7 ho7 hg7 hat7
           obtain ⟨o7, c7, rfl⟩ := ownsRow_shape ho7
           have HO7 := Lib.hid ho7
           have HB7 : Hid (Below w.heap.size w w7) := Lib.hid (((HBW.out.trans (HB5.out.mono hz)).alloc (by omega) _).grown hg7 (by simp; omega) (fun j hj => (HO.out.lt j hj).1))
           have HX7 : Hid (w7.heap[w2.heap.size]? = some (.cells #[.slice ol L.length cl, .int .i64 u] 132 (0, 0))) := Lib.hid (by
             rw [hg7.block w2.heap.size (by simp; omega) (own_ne HO.out HXW.out), Below.heap_alloc _ _ _ hox5]
             exact HX5.out)
           clear ho7 hg7 hat7))
      exact ⟨⟨k + 1, o7, c7, by omega, by simp, by go_num, Lib.hid (by rw [HAS.out k _ HPK.out]; exact HO7.out), HB7, HX7⟩, by simp [intOf]; omega⟩
    · obtain rfl : k = R.length := by omega
      go_wp2_with fail
      refine bodyPost_ret (v := .tuple #[.slice oo R.length oc, .int .i64 0]) (by simp [results, Tryz.f25, go_sem]) rfl ?_
      refine ⟨⟨0, _, rfl, fun _ => ⟨HP.out, HSY.out, ?_⟩⟩, HBW.out⟩
      rw [← HM.out]
      have h := HO.out
      rwa [List.take_of_length_le (by rw [HM.out]; simp)] at h

mutual
theorem kw_bound {L : List Rk} {u : Int} (h : WtOk L u) : ∀ t : Tm, 0 ≤ kw (wtB L) u t ∧ kw (wtB L) u t ≤ 1000 * (t.size : Int)
  | .mk nm vr ts => by
    have h1 := kws_bound h ts
    have h2 := h.entry nm.data.toList
    have h3 := h.unit
    simp only [kw, Tm.size]
    have h4 : wtB L nm = wtOf L nm.data.toList := rfl
    split
    · constructor <;> omega
    · rw [h4]; constructor <;> omega
theorem kws_bound {L : List Rk} {u : Int} (h : WtOk L u) : ∀ l : List Tm, 0 ≤ kws (wtB L) u l ∧ kws (wtB L) u l ≤ 1000 * (Tm.sizes l : Int)
  | [] => by simp [kws, Tm.sizes]
  | t :: l => by
    have h1 := kw_bound h t
    have h2 := kws_bound h l
    simp only [kws, Tm.sizes]
    constructor <;> omega
end
set_option maxRecDepth 100000 in
set_option maxHeartbeats 2000000 in
/-- the sum of the weights -/
theorem oweight_any {L : List Rk} {u : Int} (HW : Hid (WtOk L u)) (lv : Value) (t : Tm) : ∀ (sv : Value) (w : World), RksIs w.heap.size w L lv → SlIs w.heap.size w t.ts sv → t.bare → t.bulk ≤ 1048576 →
    Calls Tryz.prog 77 #[orv lv u, tmv t sv] w fun e w' => e = .returned (.int .i64 (kw (wtB L) u t)) ∧ Below w.heap.size w w' := by
  induction t using Tm.ind with
  | h t ih =>
    intro sv w hL hs hbare hb
    obtain ⟨oa, ca, rfl, -⟩ := hs.form
    have hL' := hL
    obtain ⟨ol, cl, rfl, -, -⟩ := hL'
    have hl := HW.out.len
    have hlen : L.length ≤ 1048576 := by omega
    have HL := Lib.hid hL
    have HS := Lib.hid hs
    have IH := Lib.hid ih
    have HBA := Lib.hid hbare
    have hts : t.ts.length ≤ 1048576 := by have := length_bulks' t.ts; have := bulk_eq' t; omega
    have HBK : Hid (∀ x ∈ t.ts, x.bulk ≤ 1048576) := Lib.hid fun x hx => by have := Tm.bulk_mem hx; have := bulk_eq' t; omega
    rw [show tmv t (.slice oa t.ts.length ca) = .agg #[.string t.nm, .bool t.vr, .slice oa t.ts.length ca] from rfl, show orv (.slice ol L.length cl) u = .agg #[.slice ol L.length cl, .int .i64 u] from rfl]
    have hA : Below w.heap.size w ((w.alloc (.cells #[.slice ol L.length cl, .int .i64 u] 132)).alloc (.cells #[.string t.nm, .bool t.vr, .slice oa t.ts.length ca] 25)) := by go_grown
    have ha0 : ((w.alloc (.cells #[.slice ol L.length cl, .int .i64 u] 132)).alloc (.cells #[.string t.nm, .bool t.vr, .slice oa t.ts.length ca] 25)).heap[w.heap.size]? = some (.cells #[.slice ol L.length cl, .int .i64 u] 132 (0, 0)) := (Below.heap_alloc _ _ _ (by simp)).trans (heap_new_at _ _ _ rfl)
    have ha1 := heap_new_at (w.alloc (.cells #[.slice ol L.length cl, .int .i64 u] 132)) (.cells #[.string t.nm, .bool t.vr, .slice oa t.ts.length ca] 25) (w.heap.size + 1) (by simp)
    clear hL hs ih hbare
    go_enter Tryz.func77, Tryz.ntmps77
    cases hv : t.vr with
    | true =>
      rw [hv] at hA ha0 ha1
      have HB := Lib.hid hA
      have HV := Lib.hid hv
      obtain ⟨z0, z1⟩ := (box2w ha0).1
      obtain ⟨⟨x0, x1, x2⟩, -⟩ := box3 ha1
      clear hA ha0 ha1 hv
      go_wp2_with fail
      go_ret
      exact ⟨by rw [kw_var HV.out]; rfl, HB.out⟩
    | false =>
      rw [hv] at hA ha0 ha1
      have HV := Lib.hid hv
      clear hv
      go_wp2_with fail
      have hen := entry_any L u t.nm.data.toList _ _ (HL.out.carry hA hA.size) hlen HW.out.nms
      rw [kb_key] at hen
      refine hen.mono ?_
      rintro e w1 ⟨rfl, hb1⟩
      have HB1 := Lib.hid (hA.trans (hb1.mono hA.size))
      have HX0 := Lib.hid ((hb1.block _ (Array.getElem?_eq_some_iff.1 ha0).1).trans ha0)
      have HX1 := Lib.hid ((hb1.block _ (Array.getElem?_eq_some_iff.1 ha1).1).trans ha1)
      have hfl := rkFld2 (entryOf L t.nm.data.toList)
      have HWT := Lib.hid (HW.out.entry t.nm.data.toList).2.2
      have HWB : Hid (wtOf L t.nm.data.toList = wtB L t.nm) := Lib.hid rfl
      change ∀ w, (Instr.field 137 (rkv (entryOf L t.nm.data.toList)) 2).run Tryz.prog w = .ok (.int .i64 (wtOf L t.nm.data.toList)) w at hfl
      have HSUM : Hid (∀ k ≤ t.ts.length, 0 ≤ kws (wtB L) u (t.ts.take k) ∧ kws (wtB L) u (t.ts.take k) ≤ 1048576000) := Lib.hid fun k hk => by
        have h1 := kws_bound HW.out (t.ts.take k)
        have h2 := Tm.sizes_append (t.ts.take k) (t.ts.drop k)
        rw [List.take_append_drop] at h2
        have h3 := Tm.size_bulk t
        have h4 := Tm.size_eq t
        exact ⟨h1.1, by omega⟩
      generalize wtOf L t.nm.data.toList = W0 at *
      have h00 := HWT.out
      obtain ⟨⟨x0, x1, x2⟩, -⟩ := box3 HX1.out
      clear hA ha0 ha1 hb1 hen
      go_wp2_with fail
      have hw1 : w.heap.size + 1 < w1.heap.size := (Array.getElem?_eq_some_iff.1 HX1.out).1
      go_loopw [5, 20] (fun o i wr => ∃ k : Nat, k ≤ t.ts.length ∧ o = .int .i64 (W0 + kws (wtB L) u (t.ts.take k)) ∧ i = .int .i64 k ∧ Hid (Below w1.heap.size w1 wr)) (fun _ i _ => t.ts.length - (intOf i).toNat)
      case atStart => exact ⟨0, by omega, by simp [kws], rfl, Lib.hid (Below.refl _ _)⟩
      case round =>
        obtain ⟨k, hk, rfl, rfl, HBW⟩ := hrel
        have hz := HBW.out.size
        by_cases hlt : k < t.ts.length
        · obtain ⟨b1, o1, a, sa, rfl, hbb1, hu, hum, hus, c0, c1, c2⟩ := ((HS.out.carry HB1.out HB1.out.size).carry HBW.out hz).get (k := k) (by omega)
          obtain ⟨oa', ca', rfl, -⟩ := hus.form
          have HU := Lib.hid hu
          have HCALL : Hid (∀ W, Below wr.heap.size wr W → Calls Tryz.prog 77 #[.agg #[.slice ol L.length cl, .int .i64 u], .agg #[.string a.nm, .bool a.vr, .slice oa' a.ts.length ca']] W fun e w' => e = .returned (.int .i64 (kw (wtB L) u a)) ∧ Below W.heap.size W w') := Lib.hid fun W hW =>
            IH.out a hum _ W (HL.out.carry (HB1.out.trans ((HBW.out.trans (hW.mono hz)).mono HB1.out.size)) (Nat.le_trans HB1.out.size (Nat.le_trans hz hW.size))) (hus.carry hW hW.size) (HBA.out.kids a hum) (HBK.out a hum)
          have hx0' := (HBW.out.block w.heap.size (by omega)).trans HX0.out
          have hox : w.heap.size < wr.heap.size := by omega
          obtain ⟨z0, z1⟩ := (box2w hx0').1
          have HS1 := HSUM.out k hk
          have HS2 := HSUM.out (k + 1) (by omega)
          have hst : kws (wtB L) u (t.ts.take (k + 1)) = kws (wtB L) u (t.ts.take k) + kw (wtB L) u a := by
            rw [List.take_add_one, HU.out, kws_append]; simp [kws]
          have hadd : IntKind.i64.wrap (W0 + kws (wtB L) u (t.ts.take k) + kw (wtB L) u a) = W0 + kws (wtB L) u (t.ts.take (k + 1)) := by
            rw [hst, ← Int.add_assoc]
            exact IntWalk.i64_in _ (by omega)
          have HADD := Lib.hid hadd
          clear hu hum hus hx0' hst
          generalize kws (wtB L) u (t.ts.take k) = S1 at *
          generalize hS2 : kws (wtB L) u (t.ts.take (k + 1)) = S2 at *
          have HS2E := Lib.hid hS2
          clear hS2
          generalize hKA : kw (wtB L) u a = KA at *
          clear hKA
          go_wp2_with (first
            | (go_at_call 77
               refine (HCALL.out _ (by go_grown)).mono ?_
               rintro e w5 ⟨rfl, hb5⟩
               have HB5 : Hid (Below w1.heap.size w1 w5) := Lib.hid (HBW.out.trans ((show Below wr.heap.size wr _ from by go_grown).trans (hb5.mono (by simp)) |>.mono hz))
               clear hb5))
          exact ⟨⟨k + 1, by omega, by rw [HS2E.out], by go_num, HB5⟩, by simp [intOf]; omega⟩
        · obtain rfl : k = t.ts.length := by omega
          go_wp2_with fail
          go_ret
          exact ⟨by rw [kw_fun HV.out, ← HWB.out, List.take_of_length_le (Nat.le_refl _)]; rfl, HB1.out.trans (HBW.out.mono HB1.out.size)⟩
set_option maxRecDepth 100000 in
set_option maxHeartbeats 2000000 in
/-- Weight of valid arguments -/
theorem weight_yes {L : List Rk} {u : Int} (HW : Hid (WtOk L u)) (lv : Value) (t : Tm) (sv : Value) (w : World) (hL : RksIs w.heap.size w L lv) (hLb : rkBulk L ≤ 1048576) (hs : SlIs w.heap.size w t.ts sv) (ht : t.ok) (hb : t.bulk ≤ 1048576) :
    Calls Tryz.prog 30 #[lv, .int .i64 u, tmv t sv] w fun e w' => e = .returned (.tuple #[.int .i64 (kw (wtB L) u t), .int .i64 0]) ∧ Below w.heap.size w w' := by
  obtain ⟨oa, ca, rfl, -⟩ := hs.form
  have hL' := hL
  obtain ⟨ol, cl, rfl, -, -⟩ := hL'
  have HL := Lib.hid hL
  have HS := Lib.hid hs
  have HLB := Lib.hid hLb
  have HT := Lib.hid ht
  rw [show tmv t (.slice oa t.ts.length ca) = .agg #[.string t.nm, .bool t.vr, .slice oa t.ts.length ca] from rfl]
  have hA : Below w.heap.size w (w.alloc (.cells #[.string t.nm, .bool t.vr, .slice oa t.ts.length ca] 25)) := by go_grown
  have ha0 := heap_new_at w (.cells #[.string t.nm, .bool t.vr, .slice oa t.ts.length ca] 25) w.heap.size rfl
  clear hL hs hLb ht
  go_enter Tryz.func30, Tryz.ntmps30
  go_wp2_with fail
  refine (wCheck_any L u _ _ (HL.out.carry hA hA.size) HLB.out).mono ?_
  rintro e w1 ⟨⟨c, rfl, hc⟩, hb1⟩
  obtain rfl : c = 0 := hc.2 HW.out
  have HB1 := Lib.hid (hA.trans (hb1.mono hA.size))
  have HX1 := Lib.hid ((hb1.block _ (Array.getElem?_eq_some_iff.1 ha0).1).trans ha0)
  clear hA ha0 hb1 hc
  obtain ⟨⟨x0, x1, x2⟩, -⟩ := box3 HX1.out
  go_wp2_with fail
  refine (check_any t _ _ (HS.out.carry HB1.out HB1.out.size) hb).mono ?_
  rintro e w2 ⟨⟨c, rfl, hc⟩, hb2⟩
  obtain rfl : c = 0 := hc.2 HT.out
  have HB2 := Lib.hid (HB1.out.trans (hb2.mono HB1.out.size))
  have HX2 := Lib.hid ((hb2.block _ (Array.getElem?_eq_some_iff.1 HX1.out).1).trans HX1.out)
  clear hb2 hc x0 x1 x2
  obtain ⟨⟨x0, x1, x2⟩, -⟩ := box3 HX2.out
  go_wp2_with fail
  refine (oweight_any HW _ t _ _ (HL.out.carry HB2.out HB2.out.size) (HS.out.carry HB2.out HB2.out.size) HT.out.1.bare hb).mono ?_
  rintro e w3 ⟨rfl, hb3⟩
  have HB3 := Lib.hid (HB2.out.trans (hb3.mono HB2.out.size))
  clear hb3
  go_wp2_with fail
  refine bodyPost_ret (v := .tuple #[.int .i64 (kw (wtB L) u t), .int .i64 0]) (by simp [results, Tryz.f30, go_sem]) rfl ?_
  exact ⟨rfl, HB3.out⟩
end Go.Proofs.YtnomppdmhgefiaaGreat
/- The law WeightDecreases: all sides of rules, and the terms behind them. -/
namespace Go.Proofs.YtnomppdmhgefiaaGreat
open Go.RowKit

theorem cells_row_at {W : World} {k : Nat} {cs : List Value} {e : TypeId} (h : W.heap[k]? = some (.cells cs.toArray e (0, 0))) : ∀ j u, cs[j]? = some u → W.cell? ((⟨k, 0, none⟩ : Addr).add j) = some u := by
  intro j u hj
  rw [ad_add, Nat.zero_add, cells_of' h j]
  simpa using hj
theorem sidesV_snoc {R : List RlV} {k : Nat} {p : RlV} (h : R[k]? = some p) : sidesV (R.take (k + 1)) = sidesV (R.take k) ++ [p.1, p.2] := by
  rw [List.take_add_one, h]
  simp only [Option.toList]
  rw [sidesV_append]
  rfl
theorem stCells_app (a b : List (Tm × Value)) : stCells (a ++ b) = stCells a ++ stCells b := by simp [stCells]
theorem step_append_optG {P : Program} {ops : Array Oper} {o : Oper} {a : Act} {w : World} {K : Act → World → Prop} {Q : Exit → Act → World → Prop} {E : Prop}
    (hw : Region.wanted o (yielded ops a.tmps) = true) (s x : Operand) (t : TypeId)
    (ho : o.op = .call { callee := .builtin .append, args := #[s, x], argTypes := #[t, t] })
    (base : Nat) (e : TypeId) (i : TypeInfo) (z : Value) (size bytes : Nat) (ht : P.underlying t = some (.slice e)) (hi : P.info? e = some i) (hz : i.zero = some z)
    (hsize : i.size = size) (hby : i.bytes = bytes) (hzs : z.cells.size = size) (hsz : 0 < size)
    (v : Value) (n : Nat) (xs : List Value) (hs : a.eval s = v) (hown : w.ownsRow base e size v n xs)
    (oa : Option Addr) (m c : Nat) (news : List Value) (hx : a.eval x = .slice oa m c) (hl : news.length = m * size) (hnone : oa = none → m = 0 ∧ c = 0) (hnews : ∀ ad, oa = some ad → ∀ j u, news[j]? = some u → w.cell? (ad.add j) = some u) (h1 : ∀ u ∈ news, u.oneCell' = true)
    (h63 : n + m ≤ maxLen) (hbytes : (n + m) * bytes ≤ 140737488355328) (hbase : base ≤ w.heap.size)
    (h : ∀ v' w', w'.ownsRow base e size v' (n + m) (xs ++ news) → w.grownBy w' v.ownBlock → (v'.ownBlock = v.ownBlock ∨ v'.ownBlock = some w.heap.size) → K (a.put o.dst v') w') :
    if Region.wanted o (yielded ops a.tmps) = true then Oper.wp P o a w K Q else E := by
  rw [if_pos hw]
  cases oa with
  | some ad =>
    obtain ⟨v', w', hr, h2, h3, h4, h5⟩ := run_append_own_at (P := P) w base t o.type e i z size bytes ht hi hz hsize hby hzs hsz v n xs hown ad m c news hl (hnews ad rfl) h1 h63 hbytes hbase
    unfold Oper.wp execOp
    simp only [ho, resolve, invoke, builtin, Sem.run_bind, Sem.run_pure, Result.andThen_ok, List.map_toArray, List.map_cons, List.map_nil, hs, hx, hr]
    exact h v' w' h2 h3 h5
  | none =>
    obtain ⟨rfl, rfl⟩ := hnone rfl
    obtain rfl : news = [] := List.length_eq_zero_iff.1 (by simpa using hl)
    have hrun := run_append_owned_none (P := P) (w := w) base t o.type e i size ht hi v n xs hown
    unfold Oper.wp
    simp only [execOp, ho, resolve, invoke, builtin, Sem.run_bind, Sem.run_pure, Result.andThen_ok, List.map_toArray, List.map_cons, List.map_nil, hs, hx, hrun]
    exact h v w (by simpa using hown) ⟨rfl, rfl, rfl, Nat.le_refl _, fun _ _ _ => rfl⟩ (.inl rfl)
set_option maxRecDepth 100000 in
set_option maxHeartbeats 2000000 in
theorem l7sides_any (R : List RlV) (rv : Value) (w : World) (hR : RulV w.heap.size w R rv) (hRl : R.length ≤ 1048576) :
    Calls Tryz.prog 28 #[rv] w fun e w' => (∃ v, e = .returned v ∧ w'.ownsRow w.heap.size 25 3 v (2 * R.length) (stCells (sidesV R))) ∧ Below w.heap.size w w' := by
  obtain ⟨i0, hi, hz0, hs1, hb1⟩ := info_parts infoTerm
  have HI := Lib.hid hi
  have HZ := Lib.hid hz0
  have HS1 := Lib.hid hs1
  have HB1 := Lib.hid hb1
  clear hi hz0 hs1 hb1
  obtain ⟨or', cr, rfl⟩ := hR.shape
  have HR := Lib.hid hR
  clear hR
  have HST : Hid (∀ k p, R[k]? = some p → stCells (sidesV (R.take (k + 1))) = stCells (sidesV (R.take k)) ++ stCells [p.1, p.2]) := Lib.hid fun k p h => by rw [sidesV_snoc h, stCells_app]
  obtain ⟨M, hM⟩ : ∃ M : Nat → List Value, M = fun k => stCells (sidesV (R.take k)) := ⟨_, rfl⟩
  have HM : Hid (∀ k, M k = stCells (sidesV (R.take k))) := Lib.hid fun k => by rw [hM]
  clear hM
  go_enter Tryz.func28, Tryz.ntmps28
  go_wp2_with fail
  go_loopw [3, 8] (fun o i wr => ∃ (k : Nat) (oo : Option Addr) (oc : Nat), k ≤ R.length ∧ o = .slice oo (2 * k) oc ∧ i = .int .i64 k ∧ Hid (wr.ownsRow w.heap.size 25 3 (.slice oo (2 * k) oc) (2 * k) (M k)) ∧ Hid (Below w.heap.size w wr)) (fun _ i _ => R.length - (intOf i).toNat)
  case atStart => exact ⟨0, none, 0, by omega, rfl, rfl, Lib.hid (by rw [HM.out]; exact World.ownsRow_nil _ _ _ _), Lib.hid (Below.refl _ _)⟩
  case round =>
    obtain ⟨k, oo, oc, hk, rfl, rfl, HO, HBW⟩ := hrel
    have hz := HBW.out.size
    by_cases hlt : k < R.length
    · obtain ⟨br, ob, pl, pr, ol2, or2, cl2, cr2, rfl, hbr, hpk, hsl, hsr, c0, c1, c2, c3, c4, c5⟩ := (HR.out.carry HBW.out (Nat.le_refl _)).get hlt
      have HNX : Hid (M (k + 1) = M k ++ [.string pl.nm, .bool pl.vr, .slice ol2 pl.ts.length cl2, .string pr.nm, .bool pr.vr, .slice or2 pr.ts.length cr2]) := Lib.hid (by rw [HM.out, HM.out, HST.out k _ hpk]; rfl)
      have h2k : 2 * (k + 1) = 2 * k + 2 := by omega
      have HNX2 : Hid (2 * (k + 1) = 2 * k + 2) := Lib.hid h2k
      have hkb : 2 * k ≤ 2097152 := by omega
      clear hpk hsl hsr h2k
      generalize 2 * k = K2 at *
      go_wp2_with (first
        | (at_builtin
           refine wpList_append_opt rfl (.tmp 12) (.tmp 17) 23 rfl w.heap.size 25 i0 (.agg #[.string ⟨#[]⟩, .bool false, .slice none 0 0]) 3 48 Tryz.underlying23 HI.out HZ.out HS1.out HB1.out rfl (by decide) (.slice oo K2 oc) K2 (M k) rfl ((HO.out.alloc _).alloc _) (some ⟨wr.heap.size + 1, 0, none⟩) 2 2 [.string pl.nm, .bool pl.vr, .slice ol2 pl.ts.length cl2, .string pr.nm, .bool pr.vr, .slice or2 pr.ts.length cr2] rfl rfl (fun h => by cases h) (fun ad had => by cases had; exact cells_row_at (cs := [.string pl.nm, .bool pl.vr, .slice ol2 pl.ts.length cl2, .string pr.nm, .bool pr.vr, .slice or2 pr.ts.length cr2]) (heap_new_at _ _ _ (by simp))) (by simp [Value.oneCell']) (by unfold maxLen; omega) (by omega) (by simp; omega) ?_
           intro v7 w7 ho7 hg7 hat7
           obtain ⟨o7, c7, rfl⟩ := ownsRow_shape ho7
           have HO7 : Hid (w7.ownsRow w.heap.size 25 3 (.slice o7 (2 * (k + 1)) c7) (2 * (k + 1)) (M (k + 1))) := Lib.hid (by rw [HNX.out, HNX2.out]; exact ho7)
           have HB7 : Hid (Below w.heap.size w w7) := Lib.hid (((HBW.out.alloc (by omega) _).alloc (by simp; omega) _).grown hg7 (by simp; omega) (fun j hj => (HO.out.lt j hj).1))
           clear ho7 hg7 hat7))
      exact ⟨⟨k + 1, o7, c7, by omega, by rw [HNX2.out], by go_num, HO7, HB7⟩, by simp [intOf]; omega⟩
    · obtain rfl : k = R.length := by omega
      go_wp2_with fail
      go_ret
      have h := HO.out
      rw [HM.out, List.take_of_length_le (Nat.le_refl _)] at h
      exact ⟨⟨_, rfl, h⟩, HBW.out⟩
/-- the row of all sides with the terms behind them, as terms -/
theorem sides_terms {W : World} {m n : Nat} {v : Value} {R : List RlV} {rv : Value} {ch : List (Tm × Value)} (h : W.ownsRow m 25 3 v n (stCells (sidesV R) ++ stCells ch)) (hn : n = 2 * R.length + ch.length) (hR : RulV W.heap.size W R rv) (hk : ∀ c ∈ ch, SlIs W.heap.size W c.1.ts c.2) :
    SlIs W.heap.size W ((sidesV R).map (·.1) ++ ch.map (·.1)) v := by
  rw [← stCells_app] at h
  have hl : n = (sidesV R ++ ch).length := by rw [List.length_append, sidesV_length]; omega
  rw [hl] at h
  have h1 := SlP.ofRow (p := fun _ => True) h (fun _ _ => trivial) (fun c hc => by
    rcases List.mem_append.1 hc with hc | hc
    · exact (hR.mem hc).toP.carry fun b _ => ⟨rfl, trivial⟩
    · exact (hk c hc).toP.carry fun b _ => ⟨rfl, trivial⟩)
  rw [List.map_append] at h1
  exact h1.lt.toIs fun b hb => hb.2
end Go.Proofs.YtnomppdmhgefiaaGreat
/- The reference's Entry. -/
namespace Go.Proofs.YtnomppdmhgefiaaGreat
open Go.RowKit

theorem rkHead {l : List Rk} {k : Key} {j : Nat} {p : Rk} (h : ∀ q ∈ l.take j, q.1 ≠ k) (hp : l[j]? = some p) (hk : p.1 ≠ k) : ∀ q ∈ l.take (j + 1), q.1 ≠ k := fun q hq => by
  rw [List.take_add_one, hp] at hq
  rcases List.mem_append.1 hq with hq | hq
  · exact h q hq
  · obtain rfl : q = p := by simpa using hq
    exact hk
set_option maxRecDepth 100000 in
set_option maxHeartbeats 4000000 in
theorem rEntry_any (l : List Rk) (k : Key) (v : Value) (w : World) (hl : RksIs w.heap.size w l v) (hlen : l.length ≤ 100000000) :
    Calls Tryz.prog 131 #[v, .string (kb k)] w fun e w' => e = .returned (rkv (entryOf l k)) ∧ Below w.heap.size w w' := by
  obtain ⟨oa, cap, rfl, hcap, hc⟩ := hl
  have HC := Lib.hid hc
  clear hc
  have hr0 : Below w.heap.size w (w.alloc (.cells #[.string ⟨#[]⟩, .int .i64 0, .int .i64 0] 137)) := by go_grown
  have HR0 := Lib.hid (heap_new_at w (.cells #[.string ⟨#[]⟩, .int .i64 0, .int .i64 0] 137) w.heap.size rfl)
  have HB0 := Lib.hid hr0
  clear hr0
  go_enter Tryz.func131, Tryz.ntmps131
  go_wp2_with fail
  go_loopw [9] (fun i wr => ∃ j : Nat, j ≤ l.length ∧ i = .int .i64 j ∧ Hid (∀ q ∈ l.take j, q.1 ≠ k) ∧ Below (w.heap.size + 1) (w.alloc (.cells #[.string ⟨#[]⟩, .int .i64 0, .int .i64 0] 137)) wr) (fun i _ => l.length - (intOf i).toNat)
  case atStart => exact ⟨0, by omega, rfl, Lib.hid (by simp), Below.refl _ _⟩
  case round =>
    obtain ⟨j, hj, rfl, HE, hbw⟩ := hrel
    have hz := hbw.size
    simp only [World.size_alloc] at hz
    have hwr := HB0.out.trans (hbw.mono (by omega))
    have HWR := Lib.hid hwr
    by_cases hlt : j < l.length
    · obtain ⟨p, hp⟩ : ∃ p, l[j]? = some p := ⟨_, List.getElem?_eq_getElem hlt⟩
      obtain ⟨b1, o1, rfl, hbn, hc1⟩ := HC.out (by rintro rfl; simp at hlt)
      obtain ⟨c0, c1, c2⟩ := hc1 j p hp
      have c0 := (hwr.cell (p := ⟨b1, _, none⟩) hbn).trans c0
      have c1 := (hwr.cell (p := ⟨b1, _, none⟩) hbn).trans c1
      have c2 := (hwr.cell (p := ⟨b1, _, none⟩) hbn).trans c2
      have HP := Lib.hid hp
      have HBW := Lib.hid hbw
      clear hc1 hp hbw hwr
      by_cases hxk : p.1 = k
      · have hbb := kb_beq_yes hxk
        have HI := Lib.hid (entryOf_hit HE.out HP.out hxk)
        clear hxk
        have hr := (Below.heap_alloc wr (.cells #[.string (kb p.1), .int .i64 p.2.1, .int .i64 p.2.2] 137) w.heap.size (by omega)).trans ((HBW.out.block w.heap.size (by omega)).trans HR0.out)
        obtain ⟨⟨r0, r1, r2⟩, f0, f1, f2⟩ := box3 hr
        have HR := Lib.hid hr
        clear hr
        go_wp2_with fail
        have hq := box3_set HR.out (.string (kb p.1)) (.int .i64 p.2.1) (.int .i64 p.2.2)
        obtain ⟨⟨q0, q1, q2⟩, -⟩ := box3 hq
        have hbf := below_set3 ((HWR.out.alloc (by omega) (.cells #[.string (kb p.1), .int .i64 p.2.1, .int .i64 p.2.2] 137))) (Nat.le_refl _) (.string (kb p.1)) (.int .i64 p.2.1) (.int .i64 p.2.2)
        refine bodyPost_ret (v := rkv p) (by simp [results, Tryz.f131, go_sem, q0, q1, q2, rkv]) rfl ?_
        rw [HI.out]
        exact ⟨rfl, hbf⟩
      · have hbb := kb_beq_no hxk
        have HX := Lib.hid hxk
        clear hxk
        go_wp2_with fail
        exact ⟨⟨j + 1, by omega, by go_num, Lib.hid (rkHead HE.out HP.out HX.out), HBW.out.alloc (by omega) _⟩, by simp [intOf]; omega⟩
    · obtain rfl : j = l.length := by omega
      have HI := Lib.hid (entryOf_miss (l := l) (k := k) (fun q hq => HE.out q (by rw [List.take_length]; exact hq)))
      have hr := (hbw.block w.heap.size (by omega)).trans HR0.out
      obtain ⟨⟨r0, r1, r2⟩, f0, f1, f2⟩ := box3 hr
      have HR := Lib.hid hr
      clear hr hbw hwr
      go_wp2_with fail
      have hq := box3_set HR.out (.string (kb k)) (.int .i64 0) (.int .i64 0)
      obtain ⟨⟨q0, q1, q2⟩, -⟩ := box3 hq
      have hbf := below_set3 HWR.out (Nat.le_refl _) (.string (kb k)) (.int .i64 0) (.int .i64 0)
      refine bodyPost_ret (v := .agg #[.string (kb k), .int .i64 0, .int .i64 0]) (by simp [results, Tryz.f131, go_sem, q0, q1, q2]) rfl ?_
      rw [HI.out]
      exact ⟨rfl, hbf⟩
end Go.Proofs.YtnomppdmhgefiaaGreat
