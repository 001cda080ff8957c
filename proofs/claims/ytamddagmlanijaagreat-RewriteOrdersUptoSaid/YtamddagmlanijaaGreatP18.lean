/- Packed: Rpg, Prl. -/
import Derived.Test.YtamddagmlanijaaGreatP15
import Derived.Test.YtamddagmlanijaaGreatP17
import Derived.OwnWalk
/- perform, with a word on the blocks in which its result lies. -/
namespace Go.Proofs.YtamddagmlanijaaGreat
open Go.RowKit

/-- how perform answers, by blocks: p holds what the given term lies in, n on is new -/
def PfPostP (p : Nat → Prop) (n : Nat) (x : PfR) (w' : World) (e : Ending) : Prop :=
  match x with
  | .ok r _ => (r.ok ∧ ∃ sr, e = .returned (.tuple #[tmv r sr, .int .i64 0]) ∧ SlP (fun b => (p b ∨ n ≤ b) ∧ b < w'.heap.size) w' r.ts sr) ∨ (¬ r.ok ∧ ∃ c : Int, c ≠ 0 ∧ (r.formed → c = 3) ∧ e = .returned (.tuple #[.agg #[.string ⟨#[]⟩, .bool false, .slice none 0 0], .int .i64 c]))
  | .big => e = .returned (.tuple #[.agg #[.string ⟨#[]⟩, .bool false, .slice none 0 0], .int .i64 3])
  | .bad => ∃ c : Int, c ≠ 0 ∧ e = .returned (.tuple #[.agg #[.string ⟨#[]⟩, .bool false, .slice none 0 0], .int .i64 c])
/-- the variables of perform, as they lie -/
structure PfMq (p : Nat → Prop) (w wr : World) (t : Tm) (st : Value) (r : Tm) (sr : Value) : Prop where
  tb : wr.heap[w.heap.size]? = some (.cells #[.string t.nm, .bool t.vr, st] 25 (0, 0))
  rb : wr.heap[w.heap.size + 1]? = some (.cells #[.string ⟨#[]⟩, .bool false, .slice none 0 0] 25 (0, 0))
  vb : wr.heap[w.heap.size + 1 + 1]? = some (.cells #[.string r.nm, .bool r.vr, sr] 25 (0, 0))
  is : SlP (fun b => (p b ∨ w.heap.size + 1 + 1 < b) ∧ b < wr.heap.size) wr r.ts sr
  bl : Below w.heap.size w wr
theorem PfMq.next {p : Nat → Prop} {w wr wr' : World} {t : Tm} {st : Value} {r : Tm} {sr : Value} (h : PfMq p w wr t st r sr) (hb : Below wr.heap.size wr wr') : PfMq p w wr' t st r sr :=
  ⟨(hb.block _ (Array.getElem?_eq_some_iff.1 h.tb).1).trans h.tb, (hb.block _ (Array.getElem?_eq_some_iff.1 h.rb).1).trans h.rb, (hb.block _ (Array.getElem?_eq_some_iff.1 h.vb).1).trans h.vb, h.is.carry (fun b hb' => ⟨hb.block b hb'.2, hb'.1, Nat.lt_of_lt_of_le hb'.2 hb.size⟩), h.bl.trans (hb.mono h.bl.size)⟩
theorem PfMq.is' {p : Nat → Prop} {w wr : World} {t : Tm} {st : Value} {r : Tm} {sr : Value} (h : PfMq p w wr t st r sr) : SlIs wr.heap.size wr r.ts sr := h.is.toIs fun _ hb => hb.2
theorem PfMq.lt {p : Nat → Prop} {w wr : World} {t : Tm} {st : Value} {r : Tm} {sr : Value} (h : PfMq p w wr t st r sr) : w.heap.size + 1 + 1 < wr.heap.size := (Array.getElem?_eq_some_iff.1 h.vb).1

set_option maxRecDepth 100000 in
set_option maxHeartbeats 4000000 in
theorem perform_p (pB : Nat → Prop) (L : List RlV) (rv : Value) (t : Tm) (s : Value) (l : List Stp) (lv : Value) (w : World) (hr : RulV w.heap.size w L rv) (hpw : ∀ b, pB b → b < w.heap.size) (hq : SlP pB w t.ts s) (hl : StpsIs w.heap.size w l lv)
    (hok : SysOk L) (ht : t.ok) (hlb : ∀ x ∈ sidesV L, x.1.bulk ≤ 1048576) (hll : l.length ≤ 1048576) (hg : PfGood L t t l) :
    Calls Tryz.prog 42 #[rv, tmv t s, lv] w fun e w' => PfPostP pB w.heap.size (pfRun L t t 0 l) w' e ∧ Below w.heap.size w w' := by
  have hs : SlIs w.heap.size w t.ts s := hq.toIs hpw
  obtain ⟨oa, cap, rfl, -⟩ := hs.form
  have HQ := Lib.hid hq
  have HPW := Lib.hid hpw
  clear hq hpw
  obtain ⟨ol, cl, rfl⟩ := hr.shape
  obtain ⟨ov, cv, rfl, hcv, -⟩ := id hl
  have HR := Lib.hid hr
  have HS := Lib.hid hs
  have HL := Lib.hid hl
  have HOK := Lib.hid hok
  have HT := Lib.hid ht
  have HLB := Lib.hid hlb
  have HG := Lib.hid hg
  have htb := ht.bulk
  clear hr hs hl hok ht hlb hg
  rw [show tmv t (.slice oa t.ts.length cap) = .agg #[.string t.nm, .bool t.vr, .slice oa t.ts.length cap] from rfl]
  go_enter Tryz.func42, Tryz.ntmps42
  go_wp2_with fail
  go_loopw [9, 19] (fun sz i wr => ∃ (j : Nat) (r : Tm) (n : Nat) (sr : Value), j ≤ l.length ∧ i = .int .i64 j ∧ sz = .int .i64 n ∧ n ≤ 4000 ∧ Hid (PfMq pB w wr t (.slice oa t.ts.length cap) r sr) ∧ Hid (pfRun L t t 0 l = pfRun L t r n (l.drop j)) ∧ Hid (PfGood L t r (l.drop j)) ∧ Hid (r.formed ∧ r.size ≤ 4000 + n)) (fun _ i _ => l.length - (intOf i).toNat)
  case atStart => exact ⟨0, t, 0, _, by omega, rfl, rfl, by omega, Lib.hid ⟨(Below.heap_alloc _ _ _ (by simp <;> omega)).trans ((Below.heap_alloc _ _ _ (by simp <;> omega)).trans (heap_new_at _ _ _ rfl)), (Below.heap_alloc _ _ _ (by simp <;> omega)).trans (heap_new_at _ _ _ (by simp)), heap_new_at _ _ _ (by simp), HQ.out.carry (fun b hb => ⟨(show Below w.heap.size w _ from by go_grown).block b (HPW.out b hb), .inl hb, by have := HPW.out b hb; simp; omega⟩), by go_grown⟩, Lib.hid (by simp), Lib.hid (by simpa using HG.out), Lib.hid ⟨HT.out.1, by have := HT.out.2.1; omega⟩⟩
  case round =>
    obtain ⟨j, r, n, sr, hj, rfl, rfl, hn4, HM, HRUN, HGOOD, HF⟩ := hrel
    obtain ⟨or, cr, rfl⟩ := HM.out.is.form
    obtain ⟨⟨t0, t1, t2⟩, -⟩ := box3 HM.out.tb
    obtain ⟨⟨r0, r1, r2⟩, f0, f1, f2⟩ := box3 HM.out.rb
    obtain ⟨⟨v0, v1, v2⟩, g0, g1, g2⟩ := box3 HM.out.vb
    have hwz := HM.out.lt
    by_cases hlt : j < l.length
    · obtain ⟨b, o, p, op, cp, rfl, hbn, hpk, c0, c1, hpos, hpl⟩ := (HL.out.carry HM.out.bl (Nat.le_refl _)).get hlt
      have HDR : Hid (l.drop j = p :: l.drop (j + 1)) := Lib.hid (by rw [List.drop_eq_getElem_cons hlt]; rw [List.getElem?_eq_getElem hlt] at hpk; cases hpk; rfl)
      obtain ⟨rule, pos⟩ := p
      simp only at c0 c1 hpos hpl
      have hba : Below wr.heap.size wr (wr.alloc (.cells #[.int .i64 rule, .slice op pos.length cp] 36)) := by go_grown
      have HSB := Lib.hid (rwsubst_any L (.slice ol L.length cl) t (.slice oa t.ts.length cap) rule pos (.slice op pos.length cp) _ (HR.out.carry ((HM.out.next hba).bl) (HM.out.next hba).bl.size) (HS.out.carry ((HM.out.next hba).bl) (HM.out.next hba).bl.size) (hpos.1.carry (hba.mono HM.out.bl.size) (by simp; omega)) HOK.out HT.out HLB.out hpl (by omega))
      have HPOS := Lib.hid (hpos.carry (hba.mono HM.out.bl.size) (Nat.le_refl _))
      have HM1 := Lib.hid (HM.out.next hba)
      clear hba hpk hpos t0 t1 t2
      obtain ⟨⟨t0, t1, t2⟩, -⟩ := box3 HM1.out.tb
      obtain ⟨⟨s0, s1⟩, -⟩ := box2g (heap_new_at wr (.cells #[.int .i64 rule, .slice op pos.length cp] 36) _ rfl)
      go_wp2_with fail
      refine HSB.out.mono ?_
      rintro e w1 ⟨hpost, hb1⟩
      have hsb := (hb1.block wr.heap.size (by simp)).trans (heap_new_at wr (.cells #[.int .i64 rule, .slice op pos.length cp] 36) _ rfl)
      have HM2 := Lib.hid (HM1.out.next hb1)
      have HSBX := Lib.hid hsb
      have HPOS1 := Lib.hid (HPOS.out.carry (hb1.mono (by simp; omega)) (Nat.le_refl _))
      have hz1 := hb1.size
      simp only [World.size_alloc] at hz1
      clear hb1 HSB HM1 HPOS t0 t1 t2 r0 r1 r2 f0 f1 f2 v0 v1 v2 g0 g1 g2 s0 s1
      obtain ⟨⟨t0, t1, t2⟩, -⟩ := box3 HM2.out.tb
      obtain ⟨⟨r0, r1, r2⟩, f0, f1, f2⟩ := box3 HM2.out.rb
      obtain ⟨⟨v0, v1, v2⟩, g0, g1, g2⟩ := box3 HM2.out.vb
      obtain ⟨⟨s0, s1⟩, -⟩ := box2g HSBX.out
      rcases hpost with ⟨bs, q, bv, rfl, hstep, hbi⟩ | ⟨c, rfl, hc, hstep⟩
      · have HST := Lib.hid hstep
        have HBI := Lib.hid hbi
        clear hstep hbi
        obtain ⟨hsub, hql, xx, -, -⟩ := stepM_sub HST.out HOK.out HT.out
        obtain ⟨k, x, m, rfl, hkq, hx, hm, rfl⟩ := stepM_some HST.out
        have hkl : k < L.length := (List.getElem?_eq_some_iff.1 hkq).1
        have hbl : (subK m).length ≤ 1048576 := by
          have h1 := (match_len (HOK.out.2.1 _ (sidesV_mem hql).1).1.bare hm).2
          have h2 := (HOK.out.2.1 _ (sidesV_mem hql).1).2.1
          rw [subK_len]; omega
        obtain ⟨b', o', pl, pr, olx, orx, clx, crx, rfl, hbn', hpk', -, hsr, -, -, -, d3, d4, d5⟩ := (HR.out.carry HM2.out.bl (Nat.le_refl _)).get hkl
        rw [hkq] at hpk'
        obtain rfl : q = _ := Option.some.inj hpk'
        have hpro := HOK.out.2.1 _ (sidesV_mem hql).2
        have HAP := Lib.hid (tapply_new (subK m) bv pr (.slice orx pr.ts.length crx) w1 HBI.out (hsub.bulk hbl) (hsr.carry (Below.refl _ _) HM2.out.bl.size) (by have := hpro.bulk; simp only at this; omega))
        have HSUB := Lib.hid hsub
        have HPRO := Lib.hid hpro
        obtain ⟨obv, cbv, rfl, -, -⟩ := id HBI.out
        clear hsub hql hkq hx hm hbl hpk' hsr hpro
        go_wp2_with fail
        refine HAP.out.mono ?_
        rintro e w2 ⟨u, c, ⟨⟨su, rfl, hsu⟩, hb2⟩, hc⟩
        obtain ⟨ou, cu, rfl⟩ := hsu.form
        dsimp only [tmv]
        have hsb2 := (hb2.block wr.heap.size (Array.getElem?_eq_some_iff.1 HSBX.out).1).trans HSBX.out
        have hbx : Below w2.heap.size w2 (w2.alloc (.cells #[.string u.nm, .bool u.vr, .slice ou u.ts.length cu] 25)) := by go_grown
        have HM3 := Lib.hid ((HM2.out.next hb2).next hbx)
        have HSB3 := Lib.hid ((hbx.block wr.heap.size (Array.getElem?_eq_some_iff.1 hsb2).1).trans hsb2)
        have HPOS3 := Lib.hid ((HPOS1.out.carry (hb2.mono HM2.out.bl.size) (Nat.le_refl _)).carry (hbx.mono (by have := (HM2.out.next hb2).bl.size; omega)) (Nat.le_refl _))
        have HSU := Lib.hid hsu
        have HBX := Lib.hid hbx
        have hz2 := hb2.size
        clear hsb2 hbx hb2 hsu t0 t1 t2 r0 r1 r2 f0 f1 f2 v0 v1 v2 g0 g1 g2 s0 s1
        obtain ⟨⟨r0, r1, r2⟩, f0, f1, f2⟩ := box3 HM3.out.rb
        obtain ⟨⟨v0, v1, v2⟩, g0, g1, g2⟩ := box3 HM3.out.vb
        obtain ⟨⟨s0, s1⟩, -⟩ := box2g HSB3.out
        obtain ⟨⟨x0, x1, x2⟩, -⟩ := box3 (heap_new_at w2 (.cells #[.string u.nm, .bool u.vr, .slice ou u.ts.length cu] 25) _ rfl)
        rcases hc with ⟨rfl, -, -, hsm, hu⟩ | ⟨hc, hu, hbig⟩
        · have HSM := Lib.hid hsm
          have HU := Lib.hid hu
          clear hsm hu
          have huf : u.formed := by rw [HU.out]; exact apB_formed (fun q hq => (HSUB.out.terms q hq).1) HPRO.out.1
          have husz : u.size ≤ 4000 ∧ u.depth ≤ 200 := by rw [HU.out]; exact HSM.out
          have hub : u.bulk ≤ 100000 := (show u.ok from ⟨huf, husz.1, husz.2⟩).bulk
          have HUF := Lib.hid huf
          have husz1 := husz.1
          clear huf husz
          have HSZ := Lib.hid (tsize_any u (.slice ou u.ts.length cu) _ ((HSU.out.toIs fun b hb => hb.2).carry HBX.out HBX.out.size) (by omega))
          go_wp2_with fail
          refine HSZ.out.mono ?_
          rintro e w4 ⟨rfl, hb4⟩
          have hsb4 := (hb4.block wr.heap.size (Array.getElem?_eq_some_iff.1 HSB3.out).1).trans HSB3.out
          have hxb4 := (hb4.block w2.heap.size (by simp)).trans (heap_new_at w2 (.cells #[.string u.nm, .bool u.vr, .slice ou u.ts.length cu] 25) _ rfl)
          have HM4 := Lib.hid (HM3.out.next hb4)
          have HPOS4 := Lib.hid (HPOS3.out.carry (hb4.mono HM3.out.bl.size) (Nat.le_refl _))
          have HBX4 := Lib.hid (HBX.out.trans (hb4.mono HBX.out.size))
          have hz4 := hb4.size
          clear hb4 HSZ r0 r1 r2 f0 f1 f2 v0 v1 v2 g0 g1 g2 s0 s1 x0 x1 x2
          obtain ⟨⟨r0, r1, r2⟩, f0, f1, f2⟩ := box3 HM4.out.rb
          obtain ⟨⟨v0, v1, v2⟩, g0, g1, g2⟩ := box3 HM4.out.vb
          obtain ⟨⟨s0, s1⟩, -⟩ := box2g hsb4
          obtain ⟨⟨x0, x1, x2⟩, -⟩ := box3 hxb4
          by_cases hbg : 4000 < n + u.size
          · have HBR : Hid (pfRun L t t 0 l = .big) := Lib.hid (by rw [HRUN.out, HDR.out]; simp only [pfRun, HST.out]; rw [if_neg (fun h => by have := h.2; rw [← HU.out] at this; omega)])
            clear hsb4 hxb4
            go_wp2_with fail
            obtain ⟨⟨q0, q1, q2⟩, -⟩ := box3 (box3_set HM4.out.rb (.string ⟨#[]⟩) (.bool false) (.slice none 0 0))
            refine bodyPost_ret (v := .tuple #[.agg #[.string ⟨#[]⟩, .bool false, .slice none 0 0], .int .i64 3]) (by simp [results, Tryz.f42, go_sem, q0, q1, q2]) rfl ?_
            rw [HBR.out]
            exact ⟨rfl, below_set3 HM4.out.bl (by omega) _ _ _⟩
          · have hgd := HGOOD.out
            rw [HDR.out] at hgd
            have hgn := (hgd _ _ HST.out).2
            have hga := (hgd _ _ HST.out).1
            have HRUN2 : Hid (pfRun L t t 0 l = pfRun L t (r.put pos u) (n + u.size) (l.drop (j + 1))) := Lib.hid (by rw [HRUN.out, HDR.out, HU.out]; simp only [pfRun, HST.out]; rw [if_pos ⟨HSM.out, by have := hbg; rw [HU.out] at this; omega⟩])
            rw [← show u = apB (subK m) pr from HU.out] at hgn
            have HPT := Lib.hid (rwput_any w.heap.size (fun b => (pB b ∨ w.heap.size + 1 + 1 < b) ∧ b < w4.heap.size) pos r (.slice or r.ts.length cr) (.slice op pos.length cp) u (.slice ou u.ts.length cu) w4 HM4.out.bl.size (fun b hb => hb.2) HM4.out.is HPOS4.out.1 HPOS4.out.2
              (HSU.out.carry fun b hb => ⟨HBX4.out.block b hb.2, .inr (by have := HM2.out.lt; omega), by simp at hz4; omega⟩) hga hpl (by have := HF.out.1.bulk25; have := HF.out.2; omega))
            have HGN := Lib.hid hgn
            clear hsb4 hxb4 hgd hgn hga
            go_wp2_with fail
            refine HPT.out.mono ?_
            rintro e w5 ⟨⟨sr5, rfl, hsr5⟩, hb5⟩
            obtain ⟨o5, c5, rfl⟩ := hsr5.form
            dsimp only [tmv]
            have HM5 := Lib.hid (HM4.out.next hb5)
            have HS5 := Lib.hid hsr5
            have hz5 := hb5.size
            clear hb5 hsr5 r0 r1 r2 f0 f1 f2 v0 v1 v2 g0 g1 g2 s0 s1 x0 x1 x2
            obtain ⟨⟨v0, v1, v2⟩, g0, g1, g2⟩ := box3 HM5.out.vb
            go_wp2_with fail
            have hlt4 := HM4.out.lt
            refine ⟨⟨j + 1, r.put pos u, n + u.size, _, by omega, by go_num, by push_cast; rfl, by omega, Lib.hid ⟨(heap_set3 _ _ _ _ _ _ (by omega)).trans HM5.out.tb, (heap_set3 _ _ _ _ _ _ (by omega)).trans HM5.out.rb, box3_set HM5.out.vb _ _ _, ?_, below_set3 HM5.out.bl (by omega) _ _ _⟩, HRUN2, HGN, Lib.hid ⟨Tm.put_formed HF.out.1 HUF.out pos, by have := Tm.put_size r pos u; have := HF.out.2; omega⟩⟩, by simp only [intOf]; omega⟩
            exact HS5.out.carry fun b hb => ⟨heap_set3 _ _ _ _ _ _ (by rcases hb.1 with ⟨h | h, h2⟩ | h; (have := HPW.out b h; omega); omega; omega), by rcases hb.1 with ⟨h | h, h2⟩ | h; exact .inl h; exact .inr h; exact .inr (by omega), by simpa [World.setCell] using hb.2⟩
        · have HBIG := Lib.hid (hbig HSUB.out HPRO.out)
          obtain rfl : c = 3 := HBIG.out.2
          have HBR : Hid (pfRun L t t 0 l = .big) := Lib.hid (by rw [HRUN.out, HDR.out]; simp only [pfRun, HST.out]; rw [if_neg (fun h => HBIG.out.1 h.1)])
          clear hbig hc hu
          go_wp2_with fail
          obtain ⟨⟨q0, q1, q2⟩, -⟩ := box3 (box3_set HM3.out.rb (.string ⟨#[]⟩) (.bool false) (.slice none 0 0))
          refine bodyPost_ret (v := .tuple #[.agg #[.string ⟨#[]⟩, .bool false, .slice none 0 0], .int .i64 3]) (by simp [results, Tryz.f42, go_sem, q0, q1, q2]) rfl ?_
          rw [HBR.out]
          exact ⟨rfl, below_set3 HM3.out.bl (by omega) _ _ _⟩
      · have HBAD : Hid (pfRun L t t 0 l = .bad) := Lib.hid (by rw [HRUN.out, HDR.out]; simp only [pfRun, hstep])
        clear hstep
        have hcb : (c != 0) = true := by simpa using hc
        go_wp2_with fail
        obtain ⟨⟨q0, q1, q2⟩, -⟩ := box3 (box3_set HM2.out.rb (.string ⟨#[]⟩) (.bool false) (.slice none 0 0))
        refine bodyPost_ret (v := .tuple #[.agg #[.string ⟨#[]⟩, .bool false, .slice none 0 0], .int .i64 c]) (by simp [results, Tryz.f42, go_sem, q0, q1, q2]) rfl ?_
        rw [HBAD.out]
        exact ⟨⟨c, hc, rfl⟩, below_set3 HM2.out.bl (by omega) _ _ _⟩
    · have hd : l.drop j = [] := List.drop_eq_nil_of_le (by omega)
      have HEND : Hid (pfRun L t t 0 l = .ok r n) := Lib.hid (by rw [HRUN.out, hd]; rfl)
      clear hd
      have HCK := Lib.hid (check_full r (.slice or r.ts.length cr) wr HM.out.is' (by have := HF.out.1.bulk25; have := HF.out.2; omega))
      go_wp2_with fail
      refine HCK.out.mono ?_
      rintro e w1 ⟨⟨c, rfl, hc⟩, hb1⟩
      have HM2 := Lib.hid (HM.out.next hb1)
      clear hb1 t0 t1 t2 r0 r1 r2 f0 f1 f2 v0 v1 v2 g0 g1 g2
      obtain ⟨⟨r0, r1, r2⟩, f0, f1, f2⟩ := box3 HM2.out.rb
      obtain ⟨⟨v0, v1, v2⟩, -⟩ := box3 HM2.out.vb
      by_cases hc0 : c = 0
      · have HOKR := Lib.hid (hc.1.1 hc0)
        subst hc0
        clear hc
        go_wp2_with fail
        obtain ⟨⟨q0, q1, q2⟩, -⟩ := box3 (box3_set HM2.out.rb (.string r.nm) (.bool r.vr) (.slice or r.ts.length cr))
        refine bodyPost_ret (v := .tuple #[.agg #[.string r.nm, .bool r.vr, .slice or r.ts.length cr], .int .i64 0]) (by simp [results, Tryz.f42, go_sem, q0, q1, q2]) rfl ?_
        rw [HEND.out]
        exact ⟨.inl ⟨HOKR.out, _, rfl, HM2.out.is.carry fun b hb => ⟨heap_set3 _ _ _ _ _ _ (by rcases hb.1 with h | h; (have := HPW.out b h; omega); omega), by rcases hb.1 with h | h; exact .inl h; exact .inr (by omega), by simpa [World.setCell] using hb.2⟩⟩, below_set3 HM2.out.bl (by omega) _ _ _⟩
      · have hcb : (c != 0) = true := by simpa using hc0
        have HC := Lib.hid hc
        clear hc
        go_wp2_with fail
        obtain ⟨⟨q0, q1, q2⟩, -⟩ := box3 (box3_set HM2.out.rb (.string ⟨#[]⟩) (.bool false) (.slice none 0 0))
        refine bodyPost_ret (v := .tuple #[.agg #[.string ⟨#[]⟩, .bool false, .slice none 0 0], .int .i64 c]) (by simp [results, Tryz.f42, go_sem, q0, q1, q2]) rfl ?_
        rw [HEND.out]
        have hno : ¬ r.ok := fun h => hc0 (HC.out.1.2 h)
        exact ⟨.inr ⟨hno, c, hc0, fun hf => HC.out.2.1 hf.allOk hno, rfl⟩, below_set3 HM2.out.bl (by omega) _ _ _⟩
end Go.Proofs.YtamddagmlanijaaGreat
/- areParallel and Parallel. -/
namespace Go.Proofs.YtamddagmlanijaaGreat
open Go.RowKit Go.Sort

theorem AreSt.carry {n : Nat} {w A W : World} {es : List (PEl n w)} {k : Nat} {cur : Array Value} (h : AreSt es k A cur) (hb : Below A.heap.size A W) : AreSt es k W cur :=
  ⟨(hb.block _ h.lt).trans h.blk, h.size, h.have_, h.bl.trans (hb.mono h.bl.size)⟩
theorem holdsP_at {n : Nat} {W0 W : World} {g : Nat} {ys : List (PEl n W0)} (h : Holds encP W g 0 ys.toArray) {j : Nat} {x : PEl n W0} (hx : ys[j]? = some x) : W.cell? ⟨g, j, none⟩ = some x.1.2 := by
  have hj := (List.getElem?_eq_some_iff.1 hx).1
  have h1 := (h j (by simpa using hj)).1
  rw [Nat.zero_add, getElem!_pos ys.toArray j (by simpa using hj)] at h1
  rw [h1]
  have : ys.toArray[j]'(by simpa using hj) = x := by rw [List.getElem_toArray]; exact (List.getElem?_eq_some_iff.1 hx).2
  rw [this]; rfl
theorem par_end {n : Nat} {W : World} {l : List Stp} {es ys : List (PEl n W)} (hm : es.map (fun x => x.1.1) = l.map (·.2)) (hp : ys.Perm es) (hs : ∀ (i j : Nat) (x y : PEl n W), i < j → ys[i]? = some x → ys[j]? = some y → ¬ cmpI y.1.1 x.1.1 < 0)
    (hn : ∀ (i : Nat) (a b : PEl n W), ys[i]? = some a → ys[i + 1]? = some b → ¬ a.1.1 <+: b.1.1) : ParS l := by
  have h1 : (ys.map (fun x => x.1.1)).Pairwise Parallel := by
    refine sorted_parallel (fun i j a b hij ha hb => ?_) (fun i a b ha hb => ?_)
    · rw [List.getElem?_map, Option.map_eq_some_iff] at ha hb
      obtain ⟨x, hx, rfl⟩ := ha
      obtain ⟨y, hy, rfl⟩ := hb
      exact hs i j x y hij hx hy
    · rw [List.getElem?_map, Option.map_eq_some_iff] at ha hb
      obtain ⟨x, hx, rfl⟩ := ha
      obtain ⟨y, hy, rfl⟩ := hb
      exact hn i x y hx hy
  have h2 : (es.map (fun x => x.1.1)).Pairwise Parallel := ((hp.map _).pairwise_iff fun h => h.symm).1 h1
  rw [hm] at h2
  exact List.pairwise_map.1 h2
set_option maxRecDepth 100000 in
set_option maxHeartbeats 4000000 in
theorem areParallel_any (l : List Stp) (lv : Value) (w : World) (hl : StpsIs w.heap.size w l lv) (hll : l.length ≤ 1048576) :
    Calls Tryz.prog 41 #[lv] w fun e w' => (∃ b : Bool, e = .returned (.bool b) ∧ (b = true → ParS l)) ∧ Below w.heap.size w w' := by
  obtain ⟨ol, cl, rfl, -, -⟩ := id hl
  obtain ⟨es, hal, ham, hac⟩ := hl.alphas
  have HAM := Lib.hid ham
  have HAC := Lib.hid hac
  have HAL := Lib.hid hal
  clear hl ham hac hal
  obtain ⟨i34, hi, hz0, hz1, hz2⟩ := info_parts infoInts
  have HI0 := Lib.hid hi
  have HZ0 := Lib.hid hz0
  have HZ1 := Lib.hid hz1
  have HZ2 := Lib.hid hz2
  clear hi hz0 hz1 hz2
  go_enter Tryz.func41, Tryz.ntmps41
  go_wp2_with (
    at_make
    refine wpList_make_full _ rfl _ _ 165 rfl w.heap.size 34 i34 (.slice none 0 0) 1 Tryz.underlying165 HI0.out HZ0.out HZ1.out .i64 .i64 _ _ l.length rfl rfl rfl rfl (by rw [HZ2.out]; omega) (by unfold maxLen; omega) (by simp) ?_
    intro w1 hown1 hgr1
    have HOW1 := Lib.hid hown1
    have HGR1 := Lib.hid hgr1
    clear hown1 hgr1)
  go_loopw [12] (fun i wr => ∃ k : Nat, k ≤ l.length ∧ i = .int .i64 k ∧ Hid (∃ cur, AreSt es k wr cur)) (fun i _ => l.length - (intOf i).toNat)
  case atStart =>
    refine ⟨0, by omega, rfl, Lib.hid ?_⟩
    obtain ⟨hol, ho⟩ := HOW1.out
    rcases ho with ⟨h, _⟩ | ⟨g, c, cur, hv, hg, hh, hn, hc, hsz3, htk⟩
    · cases h
    · simp only [Value.slice.injEq, Option.some.injEq, Addr.mk.injEq] at hv
      obtain ⟨⟨rfl, -⟩, -, rfl⟩ := hv
      exact ⟨cur, hh, by rw [HAL.out]; simpa using hsz3, fun j x hj => absurd hj (by omega), (Below.refl _ w).grown HGR1.out (Nat.le_refl _) (fun k e => by cases e)⟩
  case round =>
    obtain ⟨k, hk, rfl, HH⟩ := hrel
    obtain ⟨cur, hst⟩ := HH.out
    have HST := Lib.hid hst
    have hwz := hst.lt
    clear HH
    by_cases hlt : k < l.length
    · have hke : k < es.length := by rw [HAL.out]; exact hlt
      obtain ⟨x, hx⟩ : ∃ x, es[k]? = some x := ⟨es[k], List.getElem?_eq_getElem hke⟩
      obtain ⟨b, o, r, rfl, hbn, c0, c1⟩ := HAC.out k x hx
      have d0 := (hst.bl.cell (p := ⟨b, _, none⟩) hbn).trans c0
      have d1 := (hst.bl.cell (p := ⟨b, _, none⟩) hbn).trans c1
      have HX := Lib.hid hx
      have hkc : k < cur.size := by rw [hst.size]; exact hke
      have e0 : wr.cell? ⟨w.heap.size, k, none⟩ = some cur[k] := by rw [cells_of' hst.blk]; exact Array.getElem?_eq_getElem hkc
      have f0 : wr.frozen? ⟨w.heap.size, k, none⟩ = false := frozen_of' hst.blk _
      obtain ⟨ov, cv, ev, -⟩ := x.2.1.1.form
      rw [ev] at d1
      have HEV := Lib.hid ev
      clear ev
      have q1 : ¬ (wr.heap.size = w.heap.size) := by omega
      have q2 : ¬ (w.heap.size = wr.heap.size) := by omega
      generalize cur[k] = old at e0
      clear c0 c1 hst hx hke
      go_wp2_with fail
      have h9 := HST.out.step (Below.refl _ _) HX.out
      rw [HEV.out] at h9
      exact ⟨⟨k + 1, by omega, by push_cast; rfl, Lib.hid ⟨_, h9.carry ((Below.refl _ _).alloc (Nat.le_refl _) _)⟩⟩, by simp only [intOf]; omega⟩
    · obtain rfl : k = l.length := by omega
      have hso := sortP_any es w.heap.size l.length hst.bl (by omega) (Nat.le_refl _) hwz (AreSt.holds (by rw [HAL.out]; exact hst)) (by rw [HAL.out]; exact hll)
      rw [HAL.out] at hso
      have HSO := Lib.hid hso
      clear hso hst
      go_wp2_with fail
      refine HSO.out.mono ?_
      rintro e w2 ⟨rfl, hg2, ys, hperm, hord, hH⟩
      have HG2 := Lib.hid hg2
      have HPE := Lib.hid hperm
      have HOR := Lib.hid hord
      have HHO := Lib.hid hH
      have HYL : Hid (ys.length = l.length) := Lib.hid (by rw [hperm.length_eq, HAL.out])
      have HB2 : Hid (Below w.heap.size w w2) := Lib.hid (HST.out.bl.trans ⟨hg2.os, hg2.tape, hg2.output, hg2.size, fun k hk => hg2.block k (by omega) (fun e => by cases e; omega)⟩)
      clear hg2 hperm hord hH HSO
      go_wp2_with fail
      go_loopw [6] (fun i wr2 => ∃ k : Nat, (k + 1 ≤ l.length ∨ k = 0) ∧ i = .int .i64 (k + 1 : Nat) ∧ Hid (∀ (i : Nat) (a b : PEl w.heap.size w), i < k → ys[i]? = some a → ys[i + 1]? = some b → ¬ a.1.1 <+: b.1.1) ∧ Hid (∃ q, wr2 = w2.drewN q)) (fun i _ => l.length - (intOf i).toNat)
      case atStart => exact ⟨0, .inr rfl, rfl, Lib.hid fun i a b h => absurd h (by omega), Lib.hid ⟨0, rfl⟩⟩
      case round =>
        obtain ⟨k, hk, rfl, HN, HQ⟩ := hrel
        have HBW : Hid (Below w.heap.size w wr) := Lib.hid (by obtain ⟨q, rfl⟩ := HQ.out; exact below_drewN q HB2.out)
        have hsz : w.heap.size ≤ wr.heap.size := HBW.out.size
        by_cases hlt2 : k + 1 < l.length
        · obtain ⟨x, hx⟩ : ∃ x, ys[k + 1]? = some x := ⟨ys[k + 1]'(by rw [HYL.out]; omega), List.getElem?_eq_getElem _⟩
          obtain ⟨y, hy⟩ : ∃ y, ys[k]? = some y := ⟨ys[k]'(by rw [HYL.out]; omega), List.getElem?_eq_getElem _⟩
          have c0 : wr.cell? ⟨w.heap.size, k + 1, none⟩ = some x.1.2 := by obtain ⟨q, rfl⟩ := HQ.out; exact holdsP_at HHO.out hx
          have c1 : wr.cell? ⟨w.heap.size, k, none⟩ = some y.1.2 := by obtain ⟨q, rfl⟩ := HQ.out; exact holdsP_at HHO.out hy
          have HX := Lib.hid hx
          have HY := Lib.hid hy
          have HE : ∀ m, Calls Tryz.prog 102 #[x.1.2, y.1.2] (wr.drewN m) fun e w' => e = .returned (.bool (x.1.1 == y.1.1)) ∧ ∃ q, w' = (wr.drewN m).drewN q := fun m => equalPos_q _ _ _ _ _ w.heap.size (x.2.1.1.carry (below_drewN m HBW.out) (Nat.le_refl _)) (y.2.1.1.carry (below_drewN m HBW.out) (Nat.le_refl _)) x.2.2 y.2.2
          have HI : ∀ m, Calls Tryz.prog 103 #[x.1.2, y.1.2] (wr.drewN m) fun e w' => e = .returned (.bool (belowB x.1.1 y.1.1)) ∧ ∃ q, w' = (wr.drewN m).drewN q := fun m => isBelow_q _ _ _ _ _ w.heap.size (x.2.1.carry (below_drewN m HBW.out) (Nat.le_refl _)) (y.2.1.1.carry (below_drewN m HBW.out) (Nat.le_refl _)) x.2.2 y.2.2
          have HE' := Lib.hid HE
          have HI' := Lib.hid HI
          obtain ⟨ox, cx, ex⟩ : ∃ ox cx, x.1.2 = .slice ox x.1.1.length cx := by obtain ⟨a, b, h, -⟩ := x.2.1.1.form; exact ⟨a, b, h⟩
          obtain ⟨oy, cy, ey⟩ : ∃ oy cy, y.1.2 = .slice oy y.1.1.length cy := by obtain ⟨a, b, h, -⟩ := y.2.1.1.form; exact ⟨a, b, h⟩
          rw [ex] at c0
          rw [ey] at c1
          have hE2 := HE'
          rw [ex, ey] at HE' HI'
          clear hx hy HE HI ex ey hE2
          have hk1 : (((k + 1 : Nat) : Int) - 1) = (k : Int) := by omega
          generalize hpx : x.1.1 = px at *
          generalize hpy : y.1.1 = py at *
          have HPX := Lib.hid hpx
          have HPY := Lib.hid hpy
          clear hpx hpy
          cases hq : (px == py)
          · cases hb : belowB px py
            · have HNX : Hid (¬ py <+: px) := Lib.hid (not_prefix_of (by simpa using hq) hb)
              rw [hq] at HE'
              rw [hb] at HI'
              clear hq hb
              go_wp2_with fail
              go_quiet ((first | (go_at_call 102; exact Calls.quiet_of (HE'.out _)) | (go_at_call 103; exact Calls.quiet_of (HI'.out _))))
              go_wp2_with fail
              refine ⟨⟨k + 1, .inl (by omega), by push_cast; rfl, Lib.hid ?_, Lib.hid ?_⟩, by simp only [intOf]; omega⟩
              · intro i a b hi ha hb
                by_cases e : i = k
                · subst e
                  obtain rfl := Option.some.inj (HY.out.symm.trans ha)
                  obtain rfl := Option.some.inj (HX.out.symm.trans hb)
                  rw [HPX.out, HPY.out]; exact HNX.out
                · exact HN.out i a b (by omega) ha hb
              · obtain ⟨q, e⟩ := HQ.out
                exact ⟨q + nq, by rw [e, World.drewN_drewN]⟩
            · rw [hq] at HE'
              rw [hb] at HI'
              clear hq hb
              go_wp2_with fail
              go_quiet ((first | (go_at_call 102; exact Calls.quiet_of (HE'.out _)) | (go_at_call 103; exact Calls.quiet_of (HI'.out _))))
              go_wp2_with fail
              go_ret
              exact ⟨⟨false, rfl, fun h => by cases h⟩, below_drewN _ HBW.out⟩
          · rw [hq] at HE'
            clear hq
            go_wp2_with fail
            go_quiet ((first | (go_at_call 102; exact Calls.quiet_of (HE'.out _)) | (go_at_call 103; exact Calls.quiet_of (HI'.out _))))
            go_wp2_with fail
            go_ret
            exact ⟨⟨false, rfl, fun h => by cases h⟩, below_drewN _ HBW.out⟩
        · go_wp2_with fail
          go_ret
          refine ⟨⟨true, rfl, fun _ => par_end HAM.out HPE.out (fun i j x y h1 h2 h3 => by have := HOR.out i j x y h1 h2 h3; omega) fun i a b ha hb => HN.out i a b ?_ ha hb⟩, HBW.out⟩
          have := (List.getElem?_eq_some_iff.1 hb).1
          rw [HYL.out] at this
          omega
/-- how Parallel answers -/
structure ParPost (L : List RlV) (t : Tm) (l : List Stp) (u : Tm) (c : Int) : Prop where
  zero : c = 0 → SysOk L ∧ t.ok ∧ u.ok ∧ ParS l ∧ (∀ s ∈ l, (stepM L t s.1 s.2).isSome) ∧ u = l.foldl (ptStep L t) t
  none_ : c ≠ 0 → u = Tm.zero
theorem ParPost.no {L : List RlV} {t : Tm} {l : List Stp} {c : Int} (h : c ≠ 0) : ParPost L t l Tm.zero c := ⟨fun e => absurd e h, fun _ => rfl⟩
/-- the boxes of Parallel -/
structure PlSt (w W : World) (t : Tm) (tv : Value) : Prop where
  tb : W.heap[w.heap.size]? = some (.cells #[.string t.nm, .bool t.vr, tv] 25 (0, 0))
  rb : W.heap[w.heap.size + 1]? = some (.cells #[.string ⟨#[]⟩, .bool false, .slice none 0 0] 25 (0, 0))
  low : Below w.heap.size w W
theorem PlSt.carry {w A W : World} {t : Tm} {tv : Value} (h : PlSt w A t tv) (hb : Below A.heap.size A W) : PlSt w W t tv :=
  ⟨(hb.block _ (Array.getElem?_eq_some_iff.1 h.tb).1).trans h.tb, (hb.block _ (Array.getElem?_eq_some_iff.1 h.rb).1).trans h.rb, h.low.trans (hb.mono h.low.size)⟩
set_option maxRecDepth 100000 in
set_option maxHeartbeats 8000000 in
theorem rwpar_any (L : List RlV) (rv : Value) (t : Tm) (s : Value) (l : List Stp) (lv : Value) (w : World) (hr : RulV w.heap.size w L rv) (hs : SlIs w.heap.size w t.ts s) (hp : StpsIs w.heap.size w l lv)
    (hl : L.length ≤ 1048576) (hlb : ∀ x ∈ sidesV L, x.1.bulk ≤ 1048576) (hb : t.bulk ≤ 1048576) (hpl : l.length ≤ 1048576) :
    Calls Tryz.prog 11 #[rv, tmv t s, lv] w fun e w' => ∃ u c, TmFr w w' e u c ∧ ParPost L t l u c := by
  obtain ⟨oa, cap, rfl, -⟩ := hs.form
  obtain ⟨ol, cl, rfl⟩ := hr.shape
  obtain ⟨op, cp, rfl, -, -⟩ := id hp
  have HR := Lib.hid hr
  have HS := Lib.hid hs
  have HP := Lib.hid hp
  have HLB := Lib.hid hlb
  clear hr hs hp hlb
  rw [show tmv t (.slice oa t.ts.length cap) = .agg #[.string t.nm, .bool t.vr, .slice oa t.ts.length cap] from rfl]
  have hba : Below w.heap.size w ((w.alloc (.cells #[.string t.nm, .bool t.vr, .slice oa t.ts.length cap] 25)).alloc (.cells #[.string ⟨#[]⟩, .bool false, .slice none 0 0] 25)) := by go_grown
  have HCK := Lib.hid (rwcheck_any L (.slice ol L.length cl) t (.slice oa t.ts.length cap) _ (HR.out.carry hba hba.size) (HS.out.carry hba hba.size) hl HLB.out hb)
  have HM0 : Hid (PlSt w ((w.alloc (.cells #[.string t.nm, .bool t.vr, .slice oa t.ts.length cap] 25)).alloc (.cells #[.string ⟨#[]⟩, .bool false, .slice none 0 0] 25)) t (.slice oa t.ts.length cap)) := Lib.hid ⟨(Below.heap_alloc _ _ _ (by simp)).trans (heap_new_at _ _ _ rfl), heap_new_at _ _ _ (by simp), hba⟩
  clear hba
  go_enter Tryz.func11, Tryz.ntmps11
  go_wp2_with fail
  refine HCK.out.mono ?_
  rintro e w1 ⟨⟨c, rfl, hc⟩, hb1⟩
  have HM1 := Lib.hid (HM0.out.carry hb1)
  have HC := Lib.hid hc
  clear hb1 hc HCK HM0
  by_cases hc0 : c = 0
  rotate_left
  · have hcb : (c != 0) = true := by simpa using hc0
    have HC0 := Lib.hid hc0
    clear hc0
    obtain ⟨⟨r0, r1, r2⟩, f0, f1, f2⟩ := box3 HM1.out.rb
    go_wp2_with fail
    obtain ⟨⟨q0, q1, q2⟩, -⟩ := box3 (box3_set HM1.out.rb (.string ⟨#[]⟩) (.bool false) (.slice none 0 0))
    refine bodyPost_ret (v := .tuple #[.agg #[.string ⟨#[]⟩, .bool false, .slice none 0 0], .int .i64 c]) (by simp [results, Tryz.f11, go_sem, q0, q1, q2]) rfl ?_
    exact ⟨Tm.zero, c, ⟨⟨_, rfl, .nil0⟩, below_set3 HM1.out.low (by omega) _ _ _⟩, .no HC0.out⟩
  subst hc0
  have HOK := Lib.hid (HC.out.1 rfl)
  by_cases hbig : 4096 < l.length
  · have hbd : decide ((4096 : Int) < (l.length : Int)) = true := decide_eq_true (by omega)
    obtain ⟨⟨r0, r1, r2⟩, f0, f1, f2⟩ := box3 HM1.out.rb
    go_wp2_with fail
    obtain ⟨⟨q0, q1, q2⟩, -⟩ := box3 (box3_set HM1.out.rb (.string ⟨#[]⟩) (.bool false) (.slice none 0 0))
    refine bodyPost_ret (v := .tuple #[.agg #[.string ⟨#[]⟩, .bool false, .slice none 0 0], .int .i64 3]) (by simp [results, Tryz.f11, go_sem, q0, q1, q2]) rfl ?_
    exact ⟨Tm.zero, 3, ⟨⟨_, rfl, .nil0⟩, below_set3 HM1.out.low (by omega) _ _ _⟩, .no (by decide)⟩
  have hbd : decide ((4096 : Int) < (l.length : Int)) = false := decide_eq_false (by omega)
  go_wp2_with fail
  go_loopw [28] (fun i wr => ∃ k : Nat, k ≤ l.length ∧ i = .int .i64 k ∧ Hid (PlSt w wr t (.slice oa t.ts.length cap)) ∧ Hid (∀ s ∈ l.take k, (stepM L t s.1 s.2).isSome)) (fun i _ => l.length - (intOf i).toNat)
  case atStart => exact ⟨0, by omega, rfl, HM1, Lib.hid (by simp)⟩
  case round =>
    obtain ⟨k, hk, rfl, HM, HN⟩ := hrel
    clear HM1
    by_cases hlt : k < l.length
    · obtain ⟨b, o, p, ov, cv, rfl, hbn, hpk, c0, c1, hpos, hpl1⟩ := (HP.out.carry HM.out.low (Nat.le_refl _)).get hlt
      obtain ⟨rule, pos⟩ := p
      simp only at c0 c1 hpos hpl1
      have HPK := Lib.hid hpk
      have HB : Hid (Below wr.heap.size wr (wr.alloc (.cells #[.int .i64 rule, .slice ov pos.length cv] 36))) := Lib.hid (by go_grown)
      have HM2 := Lib.hid (HM.out.carry HB.out)
      have HSU := Lib.hid (rwsubst_any L (.slice ol L.length cl) t (.slice oa t.ts.length cap) rule pos (.slice ov pos.length cv) _ (HR.out.carry HM2.out.low HM2.out.low.size) (HS.out.carry HM2.out.low HM2.out.low.size) (hpos.1.carry (HB.out.mono HM.out.low.size) (by have := HM2.out.low.size; omega)) HOK.out.1 HOK.out.2 HLB.out hpl1 hb)
      obtain ⟨⟨t0, t1, t2⟩, -⟩ := box3 HM2.out.tb
      obtain ⟨⟨s0, s1⟩, -⟩ := box2g (heap_new_at wr (.cells #[.int .i64 rule, .slice ov pos.length cv] 36) _ rfl)
      clear hpk hpos
      go_wp2_with fail
      refine HSU.out.mono ?_
      rintro e w2 ⟨hpost, hb2⟩
      have HM3 := Lib.hid (HM2.out.carry hb2)
      clear hb2 HSU t0 t1 t2 s0 s1 c0 c1
      rcases hpost with ⟨bs, q, bv, rfl, hstep, hbi⟩ | ⟨c, rfl, hc, hstep⟩
      · have HSTE := Lib.hid hstep
        obtain ⟨obv, cbv, rfl, -, -⟩ := id hbi
        clear hstep hbi
        go_wp2_with fail
        refine ⟨⟨k + 1, by omega, by push_cast; rfl, HM3, Lib.hid ?_⟩, by simp only [intOf]; omega⟩
        intro s hs
        rw [List.take_add_one, HPK.out] at hs
        rcases List.mem_append.1 hs with hs | hs
        · exact HN.out s hs
        · obtain rfl := List.mem_singleton.1 hs
          simp only
          rw [HSTE.out]; rfl
      · have hcb : (c != 0) = true := by simpa using hc
        have HC0 := Lib.hid hc
        clear hc hstep
        obtain ⟨⟨r0, r1, r2⟩, f0, f1, f2⟩ := box3 HM3.out.rb
        go_wp2_with fail
        obtain ⟨⟨q0, q1, q2⟩, -⟩ := box3 (box3_set HM3.out.rb (.string ⟨#[]⟩) (.bool false) (.slice none 0 0))
        refine bodyPost_ret (v := .tuple #[.agg #[.string ⟨#[]⟩, .bool false, .slice none 0 0], .int .i64 c]) (by simp [results, Tryz.f11, go_sem, q0, q1, q2]) rfl ?_
        exact ⟨Tm.zero, c, ⟨⟨_, rfl, .nil0⟩, below_set3 HM3.out.low (by omega) _ _ _⟩, .no HC0.out⟩
    · obtain rfl : k = l.length := by omega
      have HALL : Hid (∀ s ∈ l, (stepM L t s.1 s.2).isSome) := Lib.hid (by have := HN.out; rwa [List.take_length] at this)
      clear HN
      go_wp2_with fail
      refine (areParallel_any l _ wr (HP.out.carry HM.out.low HM.out.low.size) hpl).mono ?_
      rintro e w2 ⟨⟨b, rfl, hpar⟩, hb2⟩
      have HM2 := Lib.hid (HM.out.carry hb2)
      clear hb2 HM
      cases b
      · clear hpar
        obtain ⟨⟨r0, r1, r2⟩, f0, f1, f2⟩ := box3 HM2.out.rb
        go_wp2_with fail
        obtain ⟨⟨q0, q1, q2⟩, -⟩ := box3 (box3_set HM2.out.rb (.string ⟨#[]⟩) (.bool false) (.slice none 0 0))
        refine bodyPost_ret (v := .tuple #[.agg #[.string ⟨#[]⟩, .bool false, .slice none 0 0], .int .i64 9]) (by simp [results, Tryz.f11, go_sem, q0, q1, q2]) rfl ?_
        exact ⟨Tm.zero, 9, ⟨⟨_, rfl, .nil0⟩, below_set3 HM2.out.low (by omega) _ _ _⟩, .no (by decide)⟩
      · have HPAR := Lib.hid (hpar rfl)
        clear hpar
        obtain ⟨⟨t0, t1, t2⟩, -⟩ := box3 HM2.out.tb
        have HPF := Lib.hid (perform_any L (.slice ol L.length cl) t (.slice oa t.ts.length cap) l (.slice op l.length cp) w2 (HR.out.carry HM2.out.low HM2.out.low.size) (HS.out.carry HM2.out.low HM2.out.low.size) (HP.out.carry HM2.out.low HM2.out.low.size) HOK.out.1 HOK.out.2 HLB.out hpl (pfGood_par HPAR.out fun s _ => rfl))
        go_wp2_with fail
        refine HPF.out.mono ?_
        rintro e w3 ⟨hpost, hb3⟩
        clear HPF t0 t1 t2
        have hz3 : PlSt w w3 t (.slice oa t.ts.length cap) := HM2.out.carry hb3
        have HM3 := Lib.hid hz3
        clear hb3 hz3
        obtain ⟨u, c, su, rfl, hsu, hpp⟩ : ∃ u c su, e = .returned (.tuple #[tmv u su, .int .i64 c]) ∧ SlIs w3.heap.size w3 u.ts su ∧ ((c = 0 → u.ok ∧ u = l.foldl (ptStep L t) t) ∧ (c ≠ 0 → u = Tm.zero)) := by
          cases hpf : pfRun L t t 0 l with
          | ok r n =>
            rw [hpf] at hpost
            rcases hpost with ⟨hok, sr, rfl, hsr⟩ | ⟨-, c, hc, -, rfl⟩
            · exact ⟨r, 0, sr, rfl, hsr, fun _ => ⟨hok, pf_all hpf⟩, fun h => absurd rfl h⟩
            · exact ⟨Tm.zero, c, _, rfl, .nil0, fun h => absurd h hc, fun _ => rfl⟩
          | big =>
            rw [hpf] at hpost
            exact ⟨Tm.zero, 3, _, hpost, .nil0, fun h => absurd h (by decide), fun _ => rfl⟩
          | bad =>
            rw [hpf] at hpost
            obtain ⟨c, hc, rfl⟩ := hpost
            exact ⟨Tm.zero, c, _, rfl, .nil0, fun h => absurd h hc, fun _ => rfl⟩
        obtain ⟨ou, cu, rfl, -⟩ := hsu.form
        dsimp only [tmv]
        have HSU := Lib.hid hsu
        have HPP := Lib.hid hpp
        have hub : u.bulk ≤ 1048576 := by
          by_cases h : c = 0
          · have := (hpp.1 h).1.bulk; omega
          · rw [hpp.2 h]; decide
        clear hsu hpp hpost
        have hbx : Below w3.heap.size w3 (w3.alloc (.cells #[.string u.nm, .bool u.vr, .slice ou u.ts.length cu] 25)) := by go_grown
        have HCL := Lib.hid (rwclone_any u (.slice ou u.ts.length cu) _ (HSU.out.carry hbx hbx.size) hub)
        have HM4 := Lib.hid (HM3.out.carry hbx)
        clear hbx
        go_wp2_with fail
        refine HCL.out.mono ?_
        rintro e w4 ⟨⟨u', su', rfl, hsu', hy, hn⟩, hb4⟩
        obtain rfl : u' = u := by
          by_cases ho : u.ok
          · exact hy ho
          · rw [hn ho, HPP.out.2 fun h => ho (HPP.out.1 h).1]
        obtain ⟨ou', cu', rfl⟩ := hsu'.form
        dsimp only [tmv]
        have HM5 := Lib.hid (HM4.out.carry hb4)
        have HSU4 := Lib.hid hsu'
        clear hsu' hy hn hb4 HCL
        obtain ⟨⟨r0, r1, r2⟩, f0, f1, f2⟩ := box3 HM5.out.rb
        have hz3 := HM3.out.low.size
        have hz3b := (Array.getElem?_eq_some_iff.1 HM3.out.rb).1
        go_wp2_with fail
        obtain ⟨⟨q0, q1, q2⟩, -⟩ := box3 (box3_set HM5.out.rb (.string u'.nm) (.bool u'.vr) (.slice ou' u'.ts.length cu'))
        refine bodyPost_ret (v := .tuple #[.agg #[.string u'.nm, .bool u'.vr, .slice ou' u'.ts.length cu'], .int .i64 c]) (by simp [results, Tryz.f11, go_sem, q0, q1, q2]) rfl ?_
        refine ⟨u', c, ⟨⟨.slice ou' u'.ts.length cu', rfl, ?_⟩, below_set3 HM5.out.low (by omega) _ _ _⟩, ⟨fun h => ⟨HOK.out.1, HOK.out.2, (HPP.out.1 h).1, HPAR.out, HALL.out, (HPP.out.1 h).2⟩, HPP.out.2⟩⟩
        exact HSU4.out.carry fun b hb => ⟨heap_set3 _ _ _ _ _ _ (by have := hb.1; simp at this; omega), by have := hb.1; simp at this; omega, by have := hb.2; simpa [World.setCell] using this⟩
end Go.Proofs.YtamddagmlanijaaGreat
