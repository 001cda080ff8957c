/- Package unify's clone. -/
import Derived.WalkKit
import Derived.ProofKit
import Derived.OpenShut
import Derived.Handy
import Derived.Lib.Hide
import Derived.Deep.RegionHeld3
import Derived.Test.YtkglopdogakfoaaGreatDoorGh
import Derived.Test.YtkglopdogakfoaaGreatDoorFit
namespace Go.Proofs.YtkglopdogakfoaaGreatDoor
open Go.RowKit

/-- nothing replaced -/
theorem apB_none {t : Tm} (h : t.bare) : apB [] t = t := by
  induction t using Tm.ind with
  | h t ih =>
    cases hv : t.vr
    · rw [apB_fun [] hv]
      have key : ∀ l : List Tm, (∀ u ∈ l, u ∈ t.ts) → l.map (apB []) = l := by
        intro l
        induction l with
        | nil => intro _; rfl
        | cons x l ihl => intro hs; rw [List.map_cons, ih x (hs x (by simp)) (h.kids x (hs x (by simp))), ihl fun u hu => hs u (by simp [hu])]
      rw [key t.ts fun u hu => hu]
      exact Tm.ext' (a := .mk t.nm false t.ts) (b := t) rfl hv.symm rfl
    · rw [apB_var [] hv, imageOf_out (by simp), kb_key]
      exact Tm.ext' (a := .mk t.nm true []) (b := t) rfl hv.symm (h.vr0 hv).symm

set_option maxRecDepth 100000 in
set_option maxHeartbeats 4000000 in
theorem uclone_ap (t : Tm) (hbare : t.bare) : ∀ (s : Value) (w : World), SlIs w.heap.size w t.ts s → t.bulk ≤ 1048576 →
    Calls Tryz.prog 149 #[tmv t s] w fun e w' => (∃ sl, e = .returned (tmv (apB [] t) sl) ∧ SlP (fun b => b < 0 ∨ w.heap.size ≤ b) w' (apB [] t).ts sl) ∧ Below w.heap.size w w' := by
  induction t using Tm.ind with
  | h t ih =>
    intro s w hs hb
    obtain ⟨oa, ca, rfl, -⟩ := hs.form
    by_cases hv : t.vr = true
    · have h0 : t.ts.length = 0 := by rw [hbare.vr0 hv]; rfl
      have HA : Hid (apB [] t = .mk t.nm true []) := Lib.hid (by rw [apB_var [] hv, imageOf_out (by simp), kb_key])
      clear hs ih
      go_enter Tryz.func149, Tryz.ntmps149
      rw [show tmv t (.slice oa t.ts.length ca) = .agg #[.string t.nm, .bool true, .slice oa 0 ca] from by rw [tmv, hv, h0]]
      clear h0 hv
      go_wp2_with fail
      go_rounds 1
      refine bodyPost_ret (v := .agg #[.string t.nm, .bool true, .slice none 0 0]) (by simp [results, Tryz.f149, go_sem]) rfl ?_
      rw [HA.out]
      exact ⟨⟨_, rfl, .nil0⟩, by go_grown⟩
    · have hv : t.vr = false := by simpa using hv
      obtain ⟨i0, hi, hz, hs1, hb1⟩ := info_parts infoTerm
      have HI := Lib.hid hi
      have HZ := Lib.hid hz
      have HS1 := Lib.hid hs1
      have HB1 := Lib.hid hb1
      have HA := Lib.hid (apB_fun [] hv)
      have htl : t.ts.length ≤ 1048576 := by have := Tm.length_sizes t.ts; have := Tm.size_bulk t; have := Tm.size_eq t; omega
      have IH : Hid (∀ u ∈ t.ts, ∀ (s : Value) (w : World), SlIs w.heap.size w u.ts s → u.bulk ≤ 1048576 → Calls Tryz.prog 149 #[tmv u s] w fun e w' => (∃ sl, e = .returned (tmv (apB [] u) sl) ∧ SlP (fun b => b < 0 ∨ w.heap.size ≤ b) w' (apB [] u).ts sl) ∧ Below w.heap.size w w') := Lib.hid fun u hu => ih u hu (hbare.kids u hu)
      have HSL := Lib.hid hs
      have HBK := Lib.hid hb
      clear ih hs hb hi hz hs1 hb1
      go_enter Tryz.func149, Tryz.ntmps149
      rw [show tmv t (.slice oa t.ts.length ca) = .agg #[.string t.nm, .bool t.vr, .slice oa t.ts.length ca] from rfl, hv]
      go_wp2_with fail
      have hb0 : Below w.heap.size w (((w.alloc (.cells #[.string t.nm, .bool false, .slice oa t.ts.length ca] 25)).alloc (.cells #[.string ⟨#[]⟩, .bool false, .slice none 0 0] 25)).alloc (.cells #[.string t.nm, .bool false, .slice none 0 0] 25)) := by go_grown
      have HST0 := Lib.hid (ApSt.start (n₀ := 0) (bl := []) (nm := t.nm) (l := t.ts) hb0 (heap_new_at _ _ _ (by simp)) ((Below.heap_alloc _ _ _ (by simp)).trans (heap_new_at _ _ _ (by simp))))
      clear hb0
      go_loopw [14] (fun i wr => ∃ (k : Nat) (v : Value) (ch : List (Tm × Value)), k ≤ t.ts.length ∧ i = .int .i64 k ∧ Hid (ApSt 0 w [] t.nm t.ts k wr v ch)) (fun i _ => t.ts.length - (intOf i).toNat)
      case atStart => exact ⟨0, _, _, by omega, rfl, HST0⟩
      case round =>
        obtain ⟨k, v, ch, hk, rfl, HST⟩ := hrel
        have hst := HST.out
        have hzo := (Array.getElem?_eq_some_iff.1 hst.out).1
        by_cases hlt : k < t.ts.length
        · obtain ⟨b, o, u, su, rfl, hbb, hu, hum, hus, c1, c2, c3⟩ := (HSL.out.carry hst.low (Nat.le_refl _)).get (k := k) hlt
          obtain ⟨ou, cu, rfl, -⟩ := hus.form
          obtain ⟨ov, cv, rfl⟩ := ownsRow_shape hst.row
          have HCHL : Hid (ch.length = k) := Lib.hid (by have := congrArg List.length hst.terms; simp at this; omega)
          have HLOWA : Hid (Below wr.heap.size wr (wr.alloc (.cells #[.string u.nm, .bool u.vr, .slice ou u.ts.length cu] 25)).drew) := Lib.hid (by go_grown)
          have hub : u.bulk ≤ 1048576 := by have := Tm.bulk_mem hum; have := Tm.bulk_eq t; have := HBK.out; omega
          have hout := (Below.heap_alloc wr (.cells #[.string u.nm, .bool u.vr, .slice ou u.ts.length cu] 25) (w.heap.size + 2) (by omega)).trans hst.out
          obtain ⟨⟨x0, x1, x2⟩, f0, f1, f2⟩ := box3 hout
          have hown : ∀ j, (Value.slice ov ch.length cv).ownBlock = some j → w.heap.size + 3 ≤ j ∧ j < wr.heap.size := fun j hj => hst.row.lt j hj
          have HOWN := Lib.hid hown
          have HOUT := Lib.hid hout
          have HU := Lib.hid hu
          have hz := hst.low.size
          have IHu := fun W1 (hW : Below wr.heap.size wr W1) => Lib.hid (IH.out u hum _ W1 (hus.carry (B := W1) (hW.mono hz) (by have := hW.size; omega)) hub)
          clear hst hu hus hown hout
          go_wp2_with fail
          have hxA := (box3 HOUT.out).1.2.2
          have HYA := Lib.hid (box3 (heap_new_at wr (.cells #[.string u.nm, .bool u.vr, .slice ou u.ts.length cu] 25) _ rfl)).1
          refine wp_region_noPanic ?_
          refine wp_region_held_drew (S := fun w' => w'.cell? ⟨wr.heap.size, 0, none⟩ = some (.string u.nm) ∧ w'.cell? ⟨wr.heap.size, 1, none⟩ = some (.bool u.vr) ∧ w'.cell? ⟨wr.heap.size, 2, none⟩ = some (.slice ou u.ts.length cu)) (by kernel_rfl) HYA.out (fun _ => ?_)
          simp only [List.size_toArray, List.length_cons, List.length_nil, Nat.reduceAdd]
          refine wpAnyH_take (i := 0) (v := ?_) (by simp only [List.getElem?_toArray, List.getElem?_cons_zero]; rfl) (by kernel_rfl) (by kernel_rfl) (by kernel_rfl) (fun _ _ _ h => h) (Or.inl ⟨by rfl, ?_⟩) HYA.out ?_
          case refine_2 => (intro ww hSw; obtain ⟨s1, s2, s3⟩ := hSw; go_simp; try with_reducible rfl)
          try simp only [Act.put, List.setIfInBounds_toArray, List.set_cons_zero, List.set_cons_succ]
          refine wpAnyH_take (i := 2) (v := ?_) (by simp only [List.getElem?_toArray, List.getElem?_cons_zero, List.getElem?_cons_succ]; rfl) (by kernel_rfl) (by kernel_rfl) (by kernel_rfl) (fun _ _ _ h => h) (Or.inl ⟨by rfl, ?_⟩) HYA.out ?_
          case refine_2 => (intro ww hSw; obtain ⟨s1, s2, s3⟩ := hSw; go_simp; try with_reducible rfl)
          try simp only [Act.put, List.setIfInBounds_toArray, List.set_cons_zero, List.set_cons_succ]
          refine wpAnyH_ready (rs := [1, 3]) (by kernel_rfl) (by simp) ?_
          refine AllReadyH.cons (by simp only [List.getElem?_toArray, List.getElem?_cons_zero, List.getElem?_cons_succ]; rfl) (fun K' hK => ?_) ?_
          · go_simp
            refine hK.out _ _ HYA.out (fun _ => ?_)
            clear hK
            try simp only [Act.put, List.setIfInBounds_toArray, List.set_cons_zero, List.set_cons_succ]
            refine wpAnyH_ready (rs := [3]) (by kernel_rfl) (by simp) ?_
            refine AllReadyH.cons (by simp only [List.getElem?_toArray, List.getElem?_cons_zero, List.getElem?_cons_succ]; rfl) (fun K' hK => ?_) AllReadyH.nil
            go_simp
            refine (IHu _ HLOWA.out).out.mono ?_
            rintro e w4 ⟨⟨sl4, rfl, hsl4⟩, hb4⟩
            obtain ⟨o4, c4, rfl⟩ := hsl4.form
            dsimp only [tmv]
            have hout4 := (hb4.block (w.heap.size + 2) (by simp; omega)).trans HOUT.out
            have hbx4 := (hb4.block wr.heap.size (by simp)).trans (heap_new_at wr (.cells #[.string u.nm, .bool u.vr, .slice ou u.ts.length cu] 25) _ rfl)
            obtain ⟨⟨x0, x1, x2⟩, f0, f1, f2⟩ := box3 hout4
            have HY4 := Lib.hid (box3 hbx4).1
            have HSL4 := Lib.hid hsl4
            have HB4 := Lib.hid hb4
            have HOUT4 := Lib.hid hout4
            have HBX4 := Lib.hid hbx4
            have HZ4 := Lib.hid (show wr.heap.size < w4.heap.size from (Array.getElem?_eq_some_iff.1 hbx4).1)
            clear hsl4 hb4 hout4 hbx4
            refine hK.out _ _ HY4.out (fun _ => ?_)
            clear hK
            try simp only [Act.put, List.setIfInBounds_toArray, List.set_cons_zero, List.set_cons_succ]
            refine wpAnyH_ready (rs := [4]) (by kernel_rfl) (by simp) ?_
            refine AllReadyH.cons (by simp only [List.getElem?_toArray, List.getElem?_cons_zero, List.getElem?_cons_succ]; rfl) (fun K' hK => ?_) AllReadyH.nil
            go_simp
            have hy5 := (box3 ((Below.heap_alloc w4 (.cells #[.string (apB [] u).nm, .bool (apB [] u).vr, .slice o4 (apB [] u).ts.length c4] 25) _ HZ4.out).trans HBX4.out)).1
            have hx5 := (box3 ((Below.heap_alloc w4 (.cells #[.string (apB [] u).nm, .bool (apB [] u).vr, .slice o4 (apB [] u).ts.length c4] 25) (w.heap.size + 2) (by have := HZ4.out; omega)).trans HOUT4.out)).1.2.2
            have HY5 := Lib.hid hy5
            clear hy5
            refine hK.out _ _ HY5.out (fun _ => ?_)
            clear hK
            try simp only [Act.put, List.setIfInBounds_toArray, List.set_cons_zero, List.set_cons_succ]
            refine wpAnyH_ready (rs := [5]) (by kernel_rfl) (by simp) ?_
            refine AllReadyH.cons (by simp only [List.getElem?_toArray, List.getElem?_cons_zero, List.getElem?_cons_succ]; rfl) (fun K' hK => ?_) AllReadyH.nil
            refine step_append_opt rfl (.tmp 19) (.tmp 22) 23 rfl (w.heap.size + 3) 25 i0 (.agg #[.string ⟨#[]⟩, .bool false, .slice none 0 0]) 3 48 Tryz.underlying23 HI.out HZ.out HS1.out HB1.out rfl (by decide) (.slice ov ch.length cv) ch.length (stCells ch) rfl (HST.out.row.kept (below_grown (HLOWA.out.trans ((HB4.out.mono (by simp)).alloc (Nat.le_of_lt HZ4.out) _))) (own_none _)) (some ⟨w4.heap.size, 0, none⟩) 1 1 [.string (apB [] u).nm, .bool (apB [] u).vr, .slice o4 (apB [] u).ts.length c4] rfl rfl (fun h => by cases h) (fun ad had => by cases had; exact cells_new3 _ _ _ _ _) (by simp [Value.oneCell']) (by have := HCHL.out; unfold maxLen; omega) (by have := HCHL.out; omega) (by have := HZ4.out; simp; omega) ?_
            intro v5 w5 ho5 hg5 hat5
            obtain ⟨o5, c5, rfl⟩ := ownsRow_shape ho5
            have hout5 := (hg5.block (w.heap.size + 2) (by have := HZ4.out; simp; omega) (fun e => by have := (HOWN.out _ e.symm).1; omega)).trans ((Below.heap_alloc _ _ _ (by have := HZ4.out; omega)).trans HOUT4.out)
            have hbx5 := (hg5.block wr.heap.size (by have := HZ4.out; simp; omega) (fun e => by have := (HOWN.out _ e.symm).2; omega)).trans ((Below.heap_alloc _ _ _ HZ4.out).trans HBX4.out)
            obtain ⟨⟨x0, x1, x2⟩, f0, f1, f2⟩ := box3 hout5
            have HBX5 := Lib.hid hbx5
            have HY6 := Lib.hid (box3 hbx5).1
            have HST5 := Lib.hid (HST.out.step (Nat.zero_le _) HU.out HLOWA.out HB4.out HSL4.out ((Below.refl _ w4).alloc (Nat.le_refl _) _) hg5 ho5 hat5)
            clear ho5 hg5 hat5 hout5 hbx5
            refine hK.out _ _ HY6.out (fun _ => ?_)
            clear hK
            try simp only [Act.put, List.setIfInBounds_toArray, List.set_cons_zero, List.set_cons_succ]
            refine wpAnyH_take (i := 6) (v := ?_) (by simp only [List.getElem?_toArray, List.getElem?_cons_zero, List.getElem?_cons_succ]; rfl) (by kernel_rfl) (by kernel_rfl) (by kernel_rfl) (fun _ _ _ h => h) (Or.inl ⟨by rfl, ?_⟩) HY6.out ?_
            case refine_2 => (intro ww hSw; obtain ⟨s1, s2, s3⟩ := hSw; go_simp; try with_reducible rfl)
            try simp only [Act.put, List.setIfInBounds_toArray, List.set_cons_zero, List.set_cons_succ]
            refine wpAnyH_ready (rs := [7]) (by kernel_rfl) (by simp) ?_
            refine AllReadyH.cons (by simp only [List.getElem?_toArray, List.getElem?_cons_zero, List.getElem?_cons_succ]; rfl) (fun K' hK => ?_) AllReadyH.nil
            go_simp
            have HY7 := Lib.hid (box3 ((Below.heap_setCell w5 ⟨w.heap.size + 2, 2, none⟩ (.slice o5 (ch.length + 1) c5) wr.heap.size (by show wr.heap.size ≠ w.heap.size + 2; omega)).trans HBX5.out)).1
            refine hK.out _ _ HY7.out (fun _ => ?_)
            clear hK
            try simp only [Act.put, List.setIfInBounds_toArray, List.set_cons_zero, List.set_cons_succ]
            refine wpAnyH_done (by kernel_rfl) ?_ _
            refine NoPanic.normal ?_
            go_wp2_with fail
            exact ⟨⟨k + 1, _, _, by omega, by go_num, HST5⟩, by simp [intOf]; omega⟩
          · refine AllReadyH.cons (by simp only [List.getElem?_toArray, List.getElem?_cons_zero, List.getElem?_cons_succ]; rfl) (fun K' hK => ?_) AllReadyH.nil
            go_simp
            refine (IHu _ HLOWA.out).out.mono ?_
            rintro e w4 ⟨⟨sl4, rfl, hsl4⟩, hb4⟩
            obtain ⟨o4, c4, rfl⟩ := hsl4.form
            dsimp only [tmv]
            have hout4 := (hb4.block (w.heap.size + 2) (by simp; omega)).trans HOUT.out
            have hbx4 := (hb4.block wr.heap.size (by simp)).trans (heap_new_at wr (.cells #[.string u.nm, .bool u.vr, .slice ou u.ts.length cu] 25) _ rfl)
            obtain ⟨⟨x0, x1, x2⟩, f0, f1, f2⟩ := box3 hout4
            have HY4 := Lib.hid (box3 hbx4).1
            have HSL4 := Lib.hid hsl4
            have HB4 := Lib.hid hb4
            have HOUT4 := Lib.hid hout4
            have HBX4 := Lib.hid hbx4
            have HZ4 := Lib.hid (show wr.heap.size < w4.heap.size from (Array.getElem?_eq_some_iff.1 hbx4).1)
            clear hsl4 hb4 hout4 hbx4
            refine hK.out _ _ HY4.out (fun _ => ?_)
            clear hK
            try simp only [Act.put, List.setIfInBounds_toArray, List.set_cons_zero, List.set_cons_succ]
            refine wpAnyH_ready (rs := [1, 4]) (by kernel_rfl) (by simp) ?_
            refine AllReadyH.cons (by simp only [List.getElem?_toArray, List.getElem?_cons_zero, List.getElem?_cons_succ]; rfl) (fun K' hK => ?_) ?_
            · go_simp
              refine hK.out _ _ HY4.out (fun _ => ?_)
              clear hK
              try simp only [Act.put, List.setIfInBounds_toArray, List.set_cons_zero, List.set_cons_succ]
              refine wpAnyH_ready (rs := [4]) (by kernel_rfl) (by simp) ?_
              refine AllReadyH.cons (by simp only [List.getElem?_toArray, List.getElem?_cons_zero, List.getElem?_cons_succ]; rfl) (fun K' hK => ?_) AllReadyH.nil
              go_simp
              have hy5 := (box3 ((Below.heap_alloc w4 (.cells #[.string (apB [] u).nm, .bool (apB [] u).vr, .slice o4 (apB [] u).ts.length c4] 25) _ HZ4.out).trans HBX4.out)).1
              have hx5 := (box3 ((Below.heap_alloc w4 (.cells #[.string (apB [] u).nm, .bool (apB [] u).vr, .slice o4 (apB [] u).ts.length c4] 25) (w.heap.size + 2) (by have := HZ4.out; omega)).trans HOUT4.out)).1.2.2
              have HY5 := Lib.hid hy5
              clear hy5
              refine hK.out _ _ HY5.out (fun _ => ?_)
              clear hK
              try simp only [Act.put, List.setIfInBounds_toArray, List.set_cons_zero, List.set_cons_succ]
              refine wpAnyH_ready (rs := [5]) (by kernel_rfl) (by simp) ?_
              refine AllReadyH.cons (by simp only [List.getElem?_toArray, List.getElem?_cons_zero, List.getElem?_cons_succ]; rfl) (fun K' hK => ?_) AllReadyH.nil
              refine step_append_opt rfl (.tmp 19) (.tmp 22) 23 rfl (w.heap.size + 3) 25 i0 (.agg #[.string ⟨#[]⟩, .bool false, .slice none 0 0]) 3 48 Tryz.underlying23 HI.out HZ.out HS1.out HB1.out rfl (by decide) (.slice ov ch.length cv) ch.length (stCells ch) rfl (HST.out.row.kept (below_grown (HLOWA.out.trans ((HB4.out.mono (by simp)).alloc (Nat.le_of_lt HZ4.out) _))) (own_none _)) (some ⟨w4.heap.size, 0, none⟩) 1 1 [.string (apB [] u).nm, .bool (apB [] u).vr, .slice o4 (apB [] u).ts.length c4] rfl rfl (fun h => by cases h) (fun ad had => by cases had; exact cells_new3 _ _ _ _ _) (by simp [Value.oneCell']) (by have := HCHL.out; unfold maxLen; omega) (by have := HCHL.out; omega) (by have := HZ4.out; simp; omega) ?_
              intro v5 w5 ho5 hg5 hat5
              obtain ⟨o5, c5, rfl⟩ := ownsRow_shape ho5
              have hout5 := (hg5.block (w.heap.size + 2) (by have := HZ4.out; simp; omega) (fun e => by have := (HOWN.out _ e.symm).1; omega)).trans ((Below.heap_alloc _ _ _ (by have := HZ4.out; omega)).trans HOUT4.out)
              have hbx5 := (hg5.block wr.heap.size (by have := HZ4.out; simp; omega) (fun e => by have := (HOWN.out _ e.symm).2; omega)).trans ((Below.heap_alloc _ _ _ HZ4.out).trans HBX4.out)
              obtain ⟨⟨x0, x1, x2⟩, f0, f1, f2⟩ := box3 hout5
              have HBX5 := Lib.hid hbx5
              have HY6 := Lib.hid (box3 hbx5).1
              have HST5 := Lib.hid (HST.out.step (Nat.zero_le _) HU.out HLOWA.out HB4.out HSL4.out ((Below.refl _ w4).alloc (Nat.le_refl _) _) hg5 ho5 hat5)
              clear ho5 hg5 hat5 hout5 hbx5
              refine hK.out _ _ HY6.out (fun _ => ?_)
              clear hK
              try simp only [Act.put, List.setIfInBounds_toArray, List.set_cons_zero, List.set_cons_succ]
              refine wpAnyH_take (i := 6) (v := ?_) (by simp only [List.getElem?_toArray, List.getElem?_cons_zero, List.getElem?_cons_succ]; rfl) (by kernel_rfl) (by kernel_rfl) (by kernel_rfl) (fun _ _ _ h => h) (Or.inl ⟨by rfl, ?_⟩) HY6.out ?_
              case refine_2 => (intro ww hSw; obtain ⟨s1, s2, s3⟩ := hSw; go_simp; try with_reducible rfl)
              try simp only [Act.put, List.setIfInBounds_toArray, List.set_cons_zero, List.set_cons_succ]
              refine wpAnyH_ready (rs := [7]) (by kernel_rfl) (by simp) ?_
              refine AllReadyH.cons (by simp only [List.getElem?_toArray, List.getElem?_cons_zero, List.getElem?_cons_succ]; rfl) (fun K' hK => ?_) AllReadyH.nil
              go_simp
              have HY7 := Lib.hid (box3 ((Below.heap_setCell w5 ⟨w.heap.size + 2, 2, none⟩ (.slice o5 (ch.length + 1) c5) wr.heap.size (by show wr.heap.size ≠ w.heap.size + 2; omega)).trans HBX5.out)).1
              refine hK.out _ _ HY7.out (fun _ => ?_)
              clear hK
              try simp only [Act.put, List.setIfInBounds_toArray, List.set_cons_zero, List.set_cons_succ]
              refine wpAnyH_done (by kernel_rfl) ?_ _
              refine NoPanic.normal ?_
              go_wp2_with fail
              exact ⟨⟨k + 1, _, _, by omega, by go_num, HST5⟩, by simp [intOf]; omega⟩
            · refine AllReadyH.cons (by simp only [List.getElem?_toArray, List.getElem?_cons_zero, List.getElem?_cons_succ]; rfl) (fun K' hK => ?_) AllReadyH.nil
              go_simp
              have hy5 := (box3 ((Below.heap_alloc w4 (.cells #[.string (apB [] u).nm, .bool (apB [] u).vr, .slice o4 (apB [] u).ts.length c4] 25) _ HZ4.out).trans HBX4.out)).1
              have hx5 := (box3 ((Below.heap_alloc w4 (.cells #[.string (apB [] u).nm, .bool (apB [] u).vr, .slice o4 (apB [] u).ts.length c4] 25) (w.heap.size + 2) (by have := HZ4.out; omega)).trans HOUT4.out)).1.2.2
              have HY5 := Lib.hid hy5
              clear hy5
              refine hK.out _ _ HY5.out (fun _ => ?_)
              clear hK
              try simp only [Act.put, List.setIfInBounds_toArray, List.set_cons_zero, List.set_cons_succ]
              refine wpAnyH_ready (rs := [1]) (by kernel_rfl) (by simp) ?_
              refine AllReadyH.cons (by simp only [List.getElem?_toArray, List.getElem?_cons_zero, List.getElem?_cons_succ]; rfl) (fun K' hK => ?_) AllReadyH.nil
              go_simp
              refine hK.out _ _ HY5.out (fun _ => ?_)
              clear hK
              try simp only [Act.put, List.setIfInBounds_toArray, List.set_cons_zero, List.set_cons_succ]
              refine wpAnyH_ready (rs := [5]) (by kernel_rfl) (by simp) ?_
              refine AllReadyH.cons (by simp only [List.getElem?_toArray, List.getElem?_cons_zero, List.getElem?_cons_succ]; rfl) (fun K' hK => ?_) AllReadyH.nil
              refine step_append_opt rfl (.tmp 19) (.tmp 22) 23 rfl (w.heap.size + 3) 25 i0 (.agg #[.string ⟨#[]⟩, .bool false, .slice none 0 0]) 3 48 Tryz.underlying23 HI.out HZ.out HS1.out HB1.out rfl (by decide) (.slice ov ch.length cv) ch.length (stCells ch) rfl (HST.out.row.kept (below_grown (HLOWA.out.trans ((HB4.out.mono (by simp)).alloc (Nat.le_of_lt HZ4.out) _))) (own_none _)) (some ⟨w4.heap.size, 0, none⟩) 1 1 [.string (apB [] u).nm, .bool (apB [] u).vr, .slice o4 (apB [] u).ts.length c4] rfl rfl (fun h => by cases h) (fun ad had => by cases had; exact cells_new3 _ _ _ _ _) (by simp [Value.oneCell']) (by have := HCHL.out; unfold maxLen; omega) (by have := HCHL.out; omega) (by have := HZ4.out; simp; omega) ?_
              intro v5 w5 ho5 hg5 hat5
              obtain ⟨o5, c5, rfl⟩ := ownsRow_shape ho5
              have hout5 := (hg5.block (w.heap.size + 2) (by have := HZ4.out; simp; omega) (fun e => by have := (HOWN.out _ e.symm).1; omega)).trans ((Below.heap_alloc _ _ _ (by have := HZ4.out; omega)).trans HOUT4.out)
              have hbx5 := (hg5.block wr.heap.size (by have := HZ4.out; simp; omega) (fun e => by have := (HOWN.out _ e.symm).2; omega)).trans ((Below.heap_alloc _ _ _ HZ4.out).trans HBX4.out)
              obtain ⟨⟨x0, x1, x2⟩, f0, f1, f2⟩ := box3 hout5
              have HBX5 := Lib.hid hbx5
              have HY6 := Lib.hid (box3 hbx5).1
              have HST5 := Lib.hid (HST.out.step (Nat.zero_le _) HU.out HLOWA.out HB4.out HSL4.out ((Below.refl _ w4).alloc (Nat.le_refl _) _) hg5 ho5 hat5)
              clear ho5 hg5 hat5 hout5 hbx5
              refine hK.out _ _ HY6.out (fun _ => ?_)
              clear hK
              try simp only [Act.put, List.setIfInBounds_toArray, List.set_cons_zero, List.set_cons_succ]
              refine wpAnyH_take (i := 6) (v := ?_) (by simp only [List.getElem?_toArray, List.getElem?_cons_zero, List.getElem?_cons_succ]; rfl) (by kernel_rfl) (by kernel_rfl) (by kernel_rfl) (fun _ _ _ h => h) (Or.inl ⟨by rfl, ?_⟩) HY6.out ?_
              case refine_2 => (intro ww hSw; obtain ⟨s1, s2, s3⟩ := hSw; go_simp; try with_reducible rfl)
              try simp only [Act.put, List.setIfInBounds_toArray, List.set_cons_zero, List.set_cons_succ]
              refine wpAnyH_ready (rs := [7]) (by kernel_rfl) (by simp) ?_
              refine AllReadyH.cons (by simp only [List.getElem?_toArray, List.getElem?_cons_zero, List.getElem?_cons_succ]; rfl) (fun K' hK => ?_) AllReadyH.nil
              go_simp
              have HY7 := Lib.hid (box3 ((Below.heap_setCell w5 ⟨w.heap.size + 2, 2, none⟩ (.slice o5 (ch.length + 1) c5) wr.heap.size (by show wr.heap.size ≠ w.heap.size + 2; omega)).trans HBX5.out)).1
              refine hK.out _ _ HY7.out (fun _ => ?_)
              clear hK
              try simp only [Act.put, List.setIfInBounds_toArray, List.set_cons_zero, List.set_cons_succ]
              refine wpAnyH_done (by kernel_rfl) ?_ _
              refine NoPanic.normal ?_
              go_wp2_with fail
              exact ⟨⟨k + 1, _, _, by omega, by go_num, HST5⟩, by simp [intOf]; omega⟩
        · obtain rfl : k = t.ts.length := by omega
          obtain ⟨ov, cv, rfl⟩ := ownsRow_shape hst.row
          obtain ⟨⟨x0, x1, x2⟩, -⟩ := box3 hst.out
          obtain ⟨⟨r0, r1, r2⟩, f0, f1, f2⟩ := box3 hst.ret
          clear hst
          go_wp2_with fail
          have hq := box3_set HST.out.ret (.string t.nm) (.bool false) (.slice ov ch.length cv)
          obtain ⟨⟨q0, q1, q2⟩, -⟩ := box3 hq
          refine bodyPost_ret (v := .agg #[.string t.nm, .bool false, .slice ov ch.length cv]) (by simp [results, Tryz.f149, go_sem, q0, q1, q2]) rfl ?_
          have hbf := below_set3 HST.out.low (b := w.heap.size + 1) (by omega) (.string t.nm) (.bool false) (.slice ov ch.length cv)
          refine ⟨⟨.slice ov ch.length cv, by rw [HA.out]; rfl, ?_⟩, hbf⟩
          have h1 := SlP.ofRow (p := fun b => b < 0 ∨ w.heap.size + 3 ≤ b) HST.out.row (fun b hb => .inr hb) (fun c hc => (HST.out.kids c hc).carry fun b hb => ⟨rfl, hb.1⟩)
          have h2 := HST.out.terms
          rw [List.take_length] at h2
          rw [h2] at h1
          rw [HA.out]
          exact h1.carry fun b hb => ⟨heap_set3 _ _ _ _ _ _ (by omega), by omega⟩
/-- clone: the same term in blocks that are new -/
theorem uclone_new (t : Tm) (hbare : t.bare) (s : Value) (w : World) (hs : SlIs w.heap.size w t.ts s) (hb : t.bulk ≤ 1048576) :
    Calls Tryz.prog 149 #[tmv t s] w fun e w' => (∃ sl, e = .returned (tmv t sl) ∧ SlP (fun b => w.heap.size ≤ b ∧ b < w'.heap.size) w' t.ts sl) ∧ Below w.heap.size w w' := by
  have h := uclone_ap t hbare s w hs hb
  rw [apB_none hbare] at h
  refine h.mono ?_
  rintro e w' ⟨⟨sl, rfl, h⟩, hb⟩
  exact ⟨⟨sl, rfl, h.lt.carry fun b hb => ⟨rfl, by omega, hb.2⟩⟩, hb⟩
/-- clone: the same term in new memory -/
theorem uclone_any (t : Tm) (hbare : t.bare) (s : Value) (w : World) (hs : SlIs w.heap.size w t.ts s) (hb : t.bulk ≤ 1048576) :
    Calls Tryz.prog 149 #[tmv t s] w fun e w' => (∃ sl, e = .returned (tmv t sl) ∧ SlIs w'.heap.size w' t.ts sl) ∧ Below w.heap.size w w' := by
  have h := uclone_ap t hbare s w hs hb
  rw [apB_none hbare] at h
  refine h.mono ?_
  rintro e w' ⟨⟨sl, rfl, h⟩, hb⟩
  exact ⟨⟨sl, rfl, h.lt.toIs fun b hb => hb.2⟩, hb⟩
end Go.Proofs.YtkglopdogakfoaaGreatDoor
