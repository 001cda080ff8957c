/- The law PathDecreases. -/
import Derived.Test.YtnomppdmhgefiaaDec
import Derived.Test.YtnomppdmhgefiaaAl6
namespace Go.Proofs.Ytnomppdmhgefiaa
open Go.RowKit

set_option maxRecDepth 100000 in
set_option maxHeartbeats 4000000 in
theorem pathDecreases_any (P : List Rk) (lv : Value) (R : List RlV) (rv : Value) (t : Tm) (s : Value) (L : List (Int × List Int)) (sv : Value) (w : World) (hL : RksIs w.heap.size w P lv) (hLb : rkBulk P ≤ 1048576) (hR : RulV w.heap.size w R rv) (hRl : R.length ≤ 1048576) (hRb : ∀ x ∈ sidesV R, x.1.bulk ≤ 1048576)
    (hs : SlIs w.heap.size w t.ts s) (hst : StpsV w.heap.size w L sv) (htb : t.bulk ≤ 1048576) (hLp : ∀ p ∈ L, p.2.length ≤ 1048576) (hLl : L.length ≤ 1048576) :
    Calls Try.prog 3 #[lv, rv, .agg #[.string t.nm, .bool t.vr, s, sv]] w fun e w' => e = .returned (.bool true) ∧ Below w.heap.size w w' := by
  obtain ⟨or', cr, rfl⟩ := hR.shape
  have hL' := hL
  obtain ⟨ol, cl, rfl, -, -⟩ := hL'
  obtain ⟨os, cs, rfl, -⟩ := hs.form
  obtain ⟨oq, cq, rfl⟩ := hst.shape
  have HL := Lib.hid hL
  have HR := Lib.hid hR
  have HS := Lib.hid hs
  have HT := Lib.hid hst
  have HLB := Lib.hid hLb
  have HRB := Lib.hid hRb
  have HTB := Lib.hid htb
  have HLP := Lib.hid hLp
  have HAL : Hid (∀ W, Below w.heap.size w W → Calls Try.prog 6 #[] W fun e w' => e = .returned (.bool true) ∧ Below w.heap.size w w') := Lib.hid (fun W hW => (alive_any W).mono fun e w' h => ⟨h.1, hW.trans (h.2.mono hW.size)⟩)
  clear hL hR hs hst hLb hRb htb hLp
  go_enter Try.func3, Try.ntmps3
  go_wp2_with fail
  have hA : Below w.heap.size w (w.alloc (.cells #[.string t.nm, .bool t.vr, .slice os t.ts.length cs, .slice oq L.length cq] 29)) := by go_grown
  have hx := heap_new_at w (.cells #[.string t.nm, .bool t.vr, .slice os t.ts.length cs, .slice oq L.length cq] 29) w.heap.size rfl
  generalize (w.alloc (.cells #[.string t.nm, .bool t.vr, .slice os t.ts.length cs, .slice oq L.length cq] 29)) = W0 at hA hx ⊢
  refine (orients_any P _ R _ W0 (HL.out.carry hA hA.size) HLB.out (HR.out.carry hA hA.size) hRl HRB.out).mono ?_
  rintro e w1 ⟨⟨c, v', rfl, hc⟩, hb⟩
  have HW1 := Lib.hid (hA.trans (hb.mono hA.size))
  have hx1 := (hb.block _ (Array.getElem?_eq_some_iff.1 hx).1).trans hx
  obtain ⟨x0, x1, x2, x3⟩ := box4 hx1
  have HC := Lib.hid hc
  clear hA hx hb hc hx1
  go_wp2_with fail
  refine (rterms_any R _ t _ L _ w1 (HR.out.carry HW1.out HW1.out.size) (HS.out.carry HW1.out HW1.out.size) (HT.out.carry HW1.out HW1.out.size) HTB.out HLP.out (fun p hp => ⟨HRB.out _ (sidesV_mem hp).1, HRB.out _ (sidesV_mem hp).2⟩)).mono ?_
  rintro e w2 ⟨⟨d, v2, rfl, hd⟩, hb⟩
  have HW2 := Lib.hid (HW1.out.trans (hb.mono HW1.out.size))
  have HB12 := Lib.hid hb
  have HD := Lib.hid hd
  clear hb hd x0 x1 x2 x3
  by_cases hc0 : c = 0
  rotate_left
  · have hcc : (c != 0) = true := by simpa using hc0
    clear hc0
    go_wp2_with fail
    refine (HAL.out _ HW2.out).mono ?_
    rintro e w9 ⟨rfl, hb⟩
    have HB := Lib.hid hb
    clear hb
    go_wp2_with fail
    go_ret
    exact ⟨rfl, HB.out⟩
  by_cases hd0 : d = 0
  rotate_left
  · have hdd : (d != 0) = true := by simpa using hd0
    subst hc0
    clear hd0
    go_wp2_with fail
    refine (HAL.out _ HW2.out).mono ?_
    rintro e w9 ⟨rfl, hb⟩
    have HB := Lib.hid hb
    clear hb
    go_wp2_with fail
    go_ret
    exact ⟨rfl, HB.out⟩
  subst hc0 hd0
  obtain ⟨hP, hS, hrow⟩ := HC.out rfl
  obtain ⟨ts, hts, hok, hch⟩ := HD.out rfl
  obtain ⟨ob, cb, rfl⟩ := ownsRow_shape hrow
  obtain ⟨ot, ct, rfl, -⟩ := hts.form
  have HROW := Lib.hid (hrow.kept (below_grown HB12.out) (own_none _))
  have HTS := Lib.hid hts
  have HP := Lib.hid hP
  have HSY := Lib.hid hS
  have HOK := Lib.hid hok
  have HCH := Lib.hid hch
  have htl : ts.length = L.length + 1 := hch.1
  clear hP hS hrow hts hok hch HC HD
  go_wp2_with fail
  go_loopw [35] (fun i wr => ∃ k : Nat, k ≤ R.length ∧ i = .int .i64 k ∧ Hid (wr.ownsRow W0.heap.size 4 1 (.slice ob R.length cb) R.length (R.map fun p => .bool (gpB P p.1.1 p.2.1))) ∧ Hid (SlIs wr.heap.size wr ts (.slice ot ts.length ct)) ∧ Hid (Below w.heap.size w wr) ∧ Hid (∀ p ∈ R.take k, gpB P p.1.1 p.2.1 = true)) (fun i _ => R.length - (intOf i).toNat)
  case atStart => exact ⟨0, by omega, rfl, HROW, HTS, HW2, Lib.hid (by simp)⟩
  case round =>
    obtain ⟨k, hk, rfl, HRO, HTO, HBW, HALL⟩ := hrel
    by_cases hlt : k < R.length
    · obtain ⟨p, hp⟩ : ∃ p, R[k]? = some p := ⟨_, List.getElem?_eq_getElem hlt⟩
      obtain ⟨gb, cb', he⟩ := ownsRow_pos HRO.out (by omega)
      cases he
      have y0 := HRO.out.cells (g := gb) rfl k (.bool (gpB P p.1.1 p.2.1)) (by rw [List.getElem?_map, hp]; rfl)
      rw [ad_add, Nat.zero_add] at y0
      have HPK := Lib.hid hp
      clear hp
      cases hb : gpB P p.1.1 p.2.1 with
      | false =>
        rw [hb] at y0
        clear hb
        go_wp2_with fail
        refine (HAL.out _ HBW.out).mono ?_
        rintro e w9 ⟨rfl, hb⟩
        have HB := Lib.hid hb
        clear hb
        go_wp2_with fail
        go_ret
        exact ⟨rfl, HB.out⟩
      | true =>
        rw [hb] at y0
        have HALL' : Hid (∀ q ∈ R.take (k + 1), gpB P q.1.1 q.2.1 = true) := Lib.hid (fun q hq => by
          rw [List.take_add_one, HPK.out] at hq
          rcases List.mem_append.1 hq with h | h
          · exact HALL.out q h
          · simp at h; subst h; exact hb)
        clear hb
        go_wp2_with fail
        exact ⟨⟨k + 1, by omega, by go_num, HRO, HTO, HBW, HALL'⟩, by simp [intOf]; omega⟩
    · have HDE : Hid (∀ (i : Nat) (a b : Tm), ts[i]? = some a → ts[i + 1]? = some b → gpB P a b = true) := Lib.hid (HCH.out.dec HOK.out HP.out HSY.out (fun p hp => HALL.out p (by rw [List.take_of_length_le (by omega)]; exact hp))).2
      have HOS : Hid (∀ (i : Nat) (a : Tm), ts[i]? = some a → a.ok) := Lib.hid (HCH.out.dec HOK.out HP.out HSY.out (fun p hp => HALL.out p (by rw [List.take_of_length_le (by omega)]; exact hp))).1
      go_wp2_with fail
      go_loopw [13] (fun i ww => ∃ q : Nat, q ≤ L.length ∧ i = .int .i64 ((q : Int) + 1) ∧ Hid (SlIs ww.heap.size ww ts (.slice ot ts.length ct)) ∧ Hid (Below w.heap.size w ww)) (fun i _ => L.length + 1 - (intOf i).toNat)
      case atStart => exact ⟨0, by omega, by simp, HTO, HBW⟩
      case round =>
        obtain ⟨q, hq, rfl, HTQ, HBQ⟩ := hrel
        by_cases hlq : q < L.length
        · obtain ⟨b1, o1, a, sa, rfl, hbb1, hu, hum, hus, c0, c1, c2⟩ := HTQ.out.get (k := q) (by omega)
          obtain ⟨b2, o2, b, sb, he2, hbb2, hv, hvm, hvs, d0, d1, d2⟩ := HTQ.out.get (k := q + 1) (by omega)
          cases he2
          obtain ⟨oa, ca, rfl, -⟩ := hus.form
          obtain ⟨oc, cc, rfl, -⟩ := hvs.form
          have hg := HDE.out q a b hu hv
          have hoa := (HOS.out q a hu).bulk
          have hob := (HOS.out _ b hv).bulk
          have HCALL : Hid (∀ W, Below wr.heap.size wr W → Calls Try.prog 7 #[.slice ol P.length cl, .agg #[.string a.nm, .bool a.vr, .slice oa a.ts.length ca], .agg #[.string b.nm, .bool b.vr, .slice oc b.ts.length cc]] W fun e w' => e = .returned (.bool true) ∧ Below W.heap.size W w') := Lib.hid (fun W hW => by
            have hz := HBQ.out.size
            have h := lgreater_any P (.slice ol P.length cl) a b (.slice oa a.ts.length ca) (.slice oc b.ts.length cc) W (HL.out.carry (HBQ.out.trans (hW.mono hz)) (Nat.le_trans hz hW.size)) HLB.out (hus.carry hW hW.size) (hvs.carry hW hW.size) (by omega) (by omega)
            rw [hg] at h
            exact h)
          have hq1 : (q : Int) + 1 < (L.length : Int) + 1 := by omega
          have hq2 : (q : Int) ≤ 4294967296 := by omega
          have hq3 : (0 : Int) ≤ (q : Int) := by omega
          have hq4 : IntKind.i64.wrap ((q : Int) + 1 - 1) = (q : Int) := by rw [show (q : Int) + 1 - 1 = q by omega]; exact IntWalk.i64_in _ (by omega)
          have hq5 : IntKind.i64.wrap (q : Int) = (q : Int) := IntWalk.i64_in _ (by omega)
          have hq6 : (0 : Int) ≤ (q : Int) + 1 := by omega
          have hq7 : (q : Int) < (L.length : Int) + 1 := by omega
          clear hu hum hus hv hvm hvs hg hoa hob
          go_wp2_with fail
          go_region_held3 (fun w' => w'.cell? ⟨b1, o1 + q * 3, none⟩ = some (.string a.nm) ∧ w'.cell? ⟨b1, o1 + q * 3 + 1, none⟩ = some (.bool a.vr) ∧ w'.cell? ⟨b1, o1 + q * 3 + 2, none⟩ = some (.slice oa a.ts.length ca) ∧ w'.cell? ⟨b1, o1 + (q + 1) * 3, none⟩ = some (.string b.nm) ∧ w'.cell? ⟨b1, o1 + (q + 1) * 3 + 1, none⟩ = some (.bool b.vr) ∧ w'.cell? ⟨b1, o1 + (q + 1) * 3 + 2, none⟩ = some (.slice oc b.ts.length cc)) (go_keep) ((first
            | (go_at_call 7
               refine (HCALL.out _ (Below.refl _ _).drew).mono ?_
               rintro e W4 ⟨rfl, hb4⟩
               have HB4 := Lib.hid ((Below.refl wr.heap.size wr).drew.trans hb4)
               have c0 := (hb4.cell (p := ⟨b1, _, none⟩) (World.block_lt_of_cell? _ _ c0)).trans c0
               have c1 := (hb4.cell (p := ⟨b1, _, none⟩) (World.block_lt_of_cell? _ _ c1)).trans c1
               have c2 := (hb4.cell (p := ⟨b1, _, none⟩) (World.block_lt_of_cell? _ _ c2)).trans c2
               have d0 := (hb4.cell (p := ⟨b1, _, none⟩) (World.block_lt_of_cell? _ _ d0)).trans d0
               have d1 := (hb4.cell (p := ⟨b1, _, none⟩) (World.block_lt_of_cell? _ _ d1)).trans d1
               have d2 := (hb4.cell (p := ⟨b1, _, none⟩) (World.block_lt_of_cell? _ _ d2)).trans d2
               clear hb4)))
          all_goals
            go_wp2_with fail
            exact ⟨⟨q + 1, by omega, by go_num, Lib.hid (HTQ.out.carry HB4.out HB4.out.size), Lib.hid (HBQ.out.trans (HB4.out.mono HBQ.out.size))⟩, by simp [intOf]; omega⟩
        · have hq1 : ¬ (q : Int) + 1 < (L.length : Int) + 1 := by omega
          go_wp2_with fail
          refine (HAL.out _ HBQ.out).mono ?_
          rintro e w9 ⟨rfl, hb⟩
          have HB := Lib.hid hb
          clear hb
          go_wp2_with fail
          go_ret
          exact ⟨rfl, HB.out⟩
end Go.Proofs.Ytnomppdmhgefiaa
