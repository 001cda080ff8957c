/- The reference's Apply: the walk. -/
import Derived.WalkKit
import Derived.ProofKit
import Derived.OpenShut
import Derived.Handy
import Derived.Lib.Hide
import Derived.Deep.RegionHeld3
import Derived.Test.YtdnkommcnkbeeaaApp
namespace Go.Proofs.Ytdnkommcnkbeeaa
open Go.RowKit

set_option maxRecDepth 100000 in
set_option maxHeartbeats 2000000 in
theorem rapply_var (bl : List Bd) (sv : Value) (n₀ : Nat) (t : Tm) (s : Value) (w : World) (hv : t.vr = true) (hn : n₀ ≤ w.heap.size) (hbl : BindsIs n₀ w bl sv) (hs : SlIs w.heap.size w t.ts s) (hlen : bl.length ≤ 100000000) :
    Calls Try.prog 18 #[sv, tmv t s] w fun e w' => (∃ sl, e = .returned (tmv (apB bl t) sl) ∧ SlIs n₀ w' (apB bl t).ts sl) ∧ Below w.heap.size w w' := by
  obtain ⟨oa, ca, rfl, -⟩ := hs.form
  have HBL := Lib.hid hbl
  have hbl' := hbl
  obtain ⟨ob, cb, rfl, -, -⟩ := hbl'
  have HA := Lib.hid (apB_var bl hv)
  have hr := rimage_any bl t.nm.data.toList (.slice ob bl.length cb) ((w.alloc (.cells #[.string t.nm, .bool true, .slice oa t.ts.length ca] 34)).alloc (.cells #[.string ⟨#[]⟩, .bool false, .slice none 0 0] 34)) n₀ (by simp; omega) (HBL.out.carry (show Below n₀ w _ from (show Below w.heap.size w _ from by go_grown).mono hn) (Nat.le_refl _)) hlen
  rw [kb_key] at hr
  have HR := Lib.hid hr
  have HBX : Hid (Below w.heap.size w ((w.alloc (.cells #[.string t.nm, .bool true, .slice oa t.ts.length ca] 34)).alloc (.cells #[.string ⟨#[]⟩, .bool false, .slice none 0 0] 34))) := Lib.hid (by go_grown)
  clear hbl hr hs
  go_enter Try.func18, Try.ntmps18
  rw [show tmv t (.slice oa t.ts.length ca) = .agg #[.string t.nm, .bool t.vr, .slice oa t.ts.length ca] from rfl, hv]
  go_wp2_with (
    go_at_call 39
    refine HR.out.mono ?_
    rintro e w1 ⟨⟨sl, rfl, hsl⟩, hb1⟩
    obtain ⟨oi, ci, rfl, -⟩ := hsl.form
    dsimp only [tmv]
    have hrt := (hb1.block (w.heap.size + 1) (by simp)).trans (heap_new_at _ _ _ (by simp))
    obtain ⟨⟨r0, r1, r2⟩, f0, f1, f2⟩ := box3 hrt
    have HSL := Lib.hid hsl
    have HRT := Lib.hid hrt
    have HB1 := Lib.hid hb1
    clear hsl hrt hb1)
  have hq := box3_set HRT.out (.string (imageOf bl t.nm.data.toList).nm) (.bool (imageOf bl t.nm.data.toList).vr) (.slice oi (imageOf bl t.nm.data.toList).ts.length ci)
  obtain ⟨⟨q0, q1, q2⟩, -⟩ := box3 hq
  refine bodyPost_ret (v := tmv (imageOf bl t.nm.data.toList) (.slice oi (imageOf bl t.nm.data.toList).ts.length ci)) (by simp [results, Try.f18, go_sem, q0, q1, q2, tmv]) rfl ?_
  have hbf := below_set3 (HBX.out.trans (HB1.out.mono (by simp; omega))) (b := w.heap.size + 1) (by omega) (.string (imageOf bl t.nm.data.toList).nm) (.bool (imageOf bl t.nm.data.toList).vr) (.slice oi (imageOf bl t.nm.data.toList).ts.length ci)
  rw [HA.out]
  exact ⟨⟨_, rfl, HSL.out.carry (below_set3 (Below.refl n₀ w1) (by omega) _ _ _) (Nat.le_refl _)⟩, hbf⟩

theorem cells_new3 (W : World) (a b c : Value) (e : TypeId) : ∀ j u, [a, b, c][j]? = some u → (W.alloc (.cells #[a, b, c] e)).cell? ((⟨W.heap.size, 0, none⟩ : Addr).add j) = some u := by
  intro j u hj
  rw [ad_add, Nat.zero_add]
  have h := cells_of' (heap_new_at W (.cells #[a, b, c] e) W.heap.size rfl) j
  rw [h, ← Array.getElem?_toList]
  exact hj
/-- the memory at the loop's start -/
theorem ApSt.start {n₀ : Nat} {w W : World} {bl : List Bd} {nm : ByteArray} {l : List Tm} (hb : Below w.heap.size w W) (ho : W.heap[w.heap.size + 2]? = some (.cells #[.string nm, .bool false, .slice none 0 0] 34 (0, 0)))
    (hr : W.heap[w.heap.size + 1]? = some (.cells #[.string ⟨#[]⟩, .bool false, .slice none 0 0] 34 (0, 0))) : ApSt n₀ w bl nm l 0 W (.slice none 0 0) [] :=
  ⟨by simp, World.ownsRow_nil _ _ _ _, by simp, hb, ho, hr⟩

set_option maxRecDepth 100000 in
set_option maxHeartbeats 4000000 in
theorem rapply_any (bl : List Bd) (sv : Value) (n₀ : Nat) (hlen : bl.length ≤ 100000000) (t : Tm) : ∀ (s : Value) (w : World), n₀ ≤ w.heap.size → BindsIs n₀ w bl sv → SlIs w.heap.size w t.ts s → t.bulk ≤ 1048576 →
    Calls Try.prog 18 #[sv, tmv t s] w fun e w' => (∃ sl, e = .returned (tmv (apB bl t) sl) ∧ SlP (fun b => b < n₀ ∨ w.heap.size ≤ b) w' (apB bl t).ts sl) ∧ Below w.heap.size w w' := by
  induction t using Tm.ind with
  | h t ih =>
    intro s w hn hbl hs hb
    by_cases hv : t.vr = true
    · refine (rapply_var bl sv n₀ t s w hv hn hbl hs hlen).mono ?_
      rintro e w' ⟨⟨sl, rfl, h⟩, hb⟩
      exact ⟨⟨sl, rfl, h.toP.carry fun b hb => ⟨rfl, .inl hb⟩⟩, hb⟩
    · have hv : t.vr = false := by simpa using hv
      obtain ⟨oa, ca, rfl, -⟩ := hs.form
      have hbl' := hbl
      obtain ⟨ob, cb, rfl, -, -⟩ := hbl'
      obtain ⟨i0, hi, hz, hs1, hb1⟩ := info_parts infoTerm
      have HI := Lib.hid hi
      have HZ := Lib.hid hz
      have HS1 := Lib.hid hs1
      have HB1 := Lib.hid hb1
      have HA := Lib.hid (apB_fun bl hv)
      have htl : t.ts.length ≤ 1048576 := by have := Tm.length_sizes t.ts; have := Tm.size_bulk t; have := Tm.size_eq t; omega
      have IH := Lib.hid ih
      have HBL := Lib.hid hbl
      have HSL := Lib.hid hs
      have HBK := Lib.hid hb
      clear ih hbl hs hb hi hz hs1 hb1
      go_enter Try.func18, Try.ntmps18
      rw [show tmv t (.slice oa t.ts.length ca) = .agg #[.string t.nm, .bool t.vr, .slice oa t.ts.length ca] from rfl, hv]
      go_wp2_with fail
      have hb0 : Below w.heap.size w (((w.alloc (.cells #[.string t.nm, .bool false, .slice oa t.ts.length ca] 34)).alloc (.cells #[.string ⟨#[]⟩, .bool false, .slice none 0 0] 34)).alloc (.cells #[.string t.nm, .bool false, .slice none 0 0] 34)) := by go_grown
      have HST0 := Lib.hid (ApSt.start (n₀ := n₀) (bl := bl) (nm := t.nm) (l := t.ts) hb0 (heap_new_at _ _ _ (by simp)) ((Below.heap_alloc _ _ _ (by simp)).trans (heap_new_at _ _ _ (by simp))))
      clear hb0
      go_loopw [20] (fun i wr => ∃ (k : Nat) (v : Value) (ch : List (Tm × Value)), k ≤ t.ts.length ∧ i = .int .i64 k ∧ Hid (ApSt n₀ w bl t.nm t.ts k wr v ch)) (fun i _ => t.ts.length - (intOf i).toNat)
      case atStart => exact ⟨0, _, _, by omega, rfl, HST0⟩
      case round =>
        obtain ⟨k, v, ch, hk, rfl, HST⟩ := hrel
        have hst := HST.out
        have hzo := (Array.getElem?_eq_some_iff.1 hst.out).1
        by_cases hlt : k < t.ts.length
        · obtain ⟨b, o, u, su, rfl, hbb, hu, hum, hus, c1, c2, c3⟩ := (HSL.out.carry hst.low (Nat.le_refl _)).get (k := k) hlt
          obtain ⟨ou, cu, rfl, -⟩ := hus.form
          obtain ⟨ov, cv, rfl⟩ := ownsRow_shape hst.row
          have HCHL : Hid (ch.length = k) := Lib.hid (by have := congrArg List.length hst.terms; simp at this; omega)
          have HLOWA : Hid (Below wr.heap.size wr (wr.alloc (.cells #[.string u.nm, .bool u.vr, .slice ou u.ts.length cu] 34)).drew) := Lib.hid (by go_grown)
          have hub : u.bulk ≤ 1048576 := by have := Tm.bulk_mem hum; have := Tm.bulk_eq t; have := HBK.out; omega
          have hout := (Below.heap_alloc wr (.cells #[.string u.nm, .bool u.vr, .slice ou u.ts.length cu] 34) (w.heap.size + 2) (by omega)).trans hst.out
          obtain ⟨⟨x0, x1, x2⟩, f0, f1, f2⟩ := box3 hout
          have hown : ∀ j, (Value.slice ov ch.length cv).ownBlock = some j → w.heap.size + 3 ≤ j ∧ j < wr.heap.size := fun j hj => hst.row.lt j hj
          have HOWN := Lib.hid hown
          have HOUT := Lib.hid hout
          have HU := Lib.hid hu
          have hz := hst.low.size
          have hlow := hst.low
          have HLOW := Lib.hid hlow
          have IHu := fun W1 (hW : Below wr.heap.size wr W1) => Lib.hid (IH.out u hum _ W1 (by have := hW.size; omega) (HBL.out.carry ((hlow.trans (hW.mono hz)).mono hn) (Nat.le_refl _)) (hus.carry (B := W1) (hW.mono hz) (by have := hW.size; omega)) hub)
          clear hst hu hus hown hout hlow
          go_wp2_with fail
          have hxA := (box3 HOUT.out).1.2.2
          have HYA := Lib.hid (box3 (heap_new_at wr (.cells #[.string u.nm, .bool u.vr, .slice ou u.ts.length cu] 34) _ rfl)).1
          refine wp_region_noPanic ?_
          refine wp_region_held_drew (S := fun w' => w'.cell? ⟨wr.heap.size, 0, none⟩ = some (.string u.nm) ∧ w'.cell? ⟨wr.heap.size, 1, none⟩ = some (.bool u.vr) ∧ w'.cell? ⟨wr.heap.size, 2, none⟩ = some (.slice ou u.ts.length cu)) (by kernel_rfl) HYA.out (fun _ => ?_)
          simp only [List.size_toArray, List.length_cons, List.length_nil, Nat.reduceAdd]
          refine wpAnyH_take (i := 0) (v := ?_) (by simp only [List.getElem?_toArray, List.getElem?_cons_zero]; rfl) (by kernel_rfl) (by kernel_rfl) (by kernel_rfl) (fun _ _ _ h => h) (Or.inl ⟨by rfl, ?_⟩) HYA.out ?_
          case refine_2 => (intro ww hSw; obtain ⟨s1, s2, s3⟩ := hSw; go_simp; try with_reducible rfl)
          try simp only [Act.put, List.setIfInBounds_toArray, List.set_cons_zero, List.set_cons_succ]
          refine wpAnyH_take (i := 2) (v := ?_) (by simp only [List.getElem?_toArray, List.getElem?_cons_zero, List.getElem?_cons_succ]; rfl) (by kernel_rfl) (by kernel_rfl) (by kernel_rfl) (fun _ _ _ h => h) (Or.inl ⟨by rfl, ?_⟩) HYA.out ?_
          case refine_2 => (intro ww hSw; obtain ⟨s1, s2, s3⟩ := hSw; go_simp; try with_reducible rfl)
          try simp only [Act.put, List.setIfInBounds_toArray, List.set_cons_zero, List.set_cons_succ]
          refine wpAnyH_take (i := 3) (v := ?_) (by simp only [List.getElem?_toArray, List.getElem?_cons_zero, List.getElem?_cons_succ]; rfl) (by kernel_rfl) (by kernel_rfl) (by kernel_rfl) (fun _ _ _ h => h) (Or.inl ⟨by rfl, ?_⟩) HYA.out ?_
          case refine_2 => (intro ww hSw; obtain ⟨s1, s2, s3⟩ := hSw; go_simp; try with_reducible rfl)
          try simp only [Act.put, List.setIfInBounds_toArray, List.set_cons_zero, List.set_cons_succ]
          refine wpAnyH_ready (rs := [1, 4]) (by kernel_rfl) (by simp) ?_
          refine AllReadyH.cons (by simp only [List.getElem?_toArray, List.getElem?_cons_zero, List.getElem?_cons_succ]; rfl) (fun K' hK => ?_) ?_
          · go_simp
            refine hK.out _ _ HYA.out (fun _ => ?_)
            clear hK
            try simp only [Act.put, List.setIfInBounds_toArray, List.set_cons_zero, List.set_cons_succ]
            refine wpAnyH_ready (rs := [4]) (by kernel_rfl) (by simp) ?_
            refine AllReadyH.cons (by simp only [List.getElem?_toArray, List.getElem?_cons_zero, List.getElem?_cons_succ]; rfl) (fun K' hK => ?_) AllReadyH.nil
            go_simp
            refine (IHu _ HLOWA.out).out.mono ?_
            rintro e w4 ⟨⟨sl4, rfl, hsl4⟩, hb4⟩
            obtain ⟨o4, c4, rfl⟩ := hsl4.form
            dsimp only [tmv]
            have hout4 := (hb4.block (w.heap.size + 2) (by simp; omega)).trans HOUT.out
            have hbx4 := (hb4.block wr.heap.size (by simp)).trans (heap_new_at wr (.cells #[.string u.nm, .bool u.vr, .slice ou u.ts.length cu] 34) _ rfl)
            obtain ⟨⟨x0, x1, x2⟩, f0, f1, f2⟩ := box3 hout4
            have HY4 := Lib.hid (box3 hbx4).1
            have HSL4 := Lib.hid hsl4
            have HB4 := Lib.hid hb4
            have HOUT4 := Lib.hid hout4
            have HBX4 := Lib.hid hbx4
            have HZ4 := Lib.hid (show wr.heap.size < w4.heap.size from (Array.getElem?_eq_some_iff.1 hbx4).1)
            clear hsl4 hb4 hout4 hbx4
            refine hK.out _ _ HY4.out (fun _ => ?_)
            clear hK
            try simp only [Act.put, List.setIfInBounds_toArray, List.set_cons_zero, List.set_cons_succ]
            refine wpAnyH_ready (rs := [5]) (by kernel_rfl) (by simp) ?_
            refine AllReadyH.cons (by simp only [List.getElem?_toArray, List.getElem?_cons_zero, List.getElem?_cons_succ]; rfl) (fun K' hK => ?_) AllReadyH.nil
            go_simp
            have hy5 := (box3 ((Below.heap_alloc w4 (.cells #[.string (apB bl u).nm, .bool (apB bl u).vr, .slice o4 (apB bl u).ts.length c4] 34) _ HZ4.out).trans HBX4.out)).1
            have hx5 := (box3 ((Below.heap_alloc w4 (.cells #[.string (apB bl u).nm, .bool (apB bl u).vr, .slice o4 (apB bl u).ts.length c4] 34) (w.heap.size + 2) (by have := HZ4.out; omega)).trans HOUT4.out)).1.2.2
            have HY5 := Lib.hid hy5
            clear hy5
            refine hK.out _ _ HY5.out (fun _ => ?_)
            clear hK
            try simp only [Act.put, List.setIfInBounds_toArray, List.set_cons_zero, List.set_cons_succ]
            refine wpAnyH_ready (rs := [6]) (by kernel_rfl) (by simp) ?_
            refine AllReadyH.cons (by simp only [List.getElem?_toArray, List.getElem?_cons_zero, List.getElem?_cons_succ]; rfl) (fun K' hK => ?_) AllReadyH.nil
            refine step_append_opt rfl (.tmp 25) (.tmp 29) 32 rfl (w.heap.size + 3) 34 i0 (.agg #[.string ⟨#[]⟩, .bool false, .slice none 0 0]) 3 48 Try.underlying32 HI.out HZ.out HS1.out HB1.out rfl (by decide) (.slice ov ch.length cv) ch.length (stCells ch) rfl (HST.out.row.kept (below_grown (HLOWA.out.trans ((HB4.out.mono (by simp)).alloc (Nat.le_of_lt HZ4.out) _))) (own_none _)) (some ⟨w4.heap.size, 0, none⟩) 1 1 [.string (apB bl u).nm, .bool (apB bl u).vr, .slice o4 (apB bl u).ts.length c4] rfl rfl (fun h => by cases h) (fun ad had => by cases had; exact cells_new3 _ _ _ _ _) (by simp [Value.oneCell']) (by have := HCHL.out; unfold maxLen; omega) (by have := HCHL.out; omega) (by have := HZ4.out; simp; omega) ?_
            intro v5 w5 ho5 hg5 hat5
            obtain ⟨o5, c5, rfl⟩ := ownsRow_shape ho5
            have hout5 := (hg5.block (w.heap.size + 2) (by have := HZ4.out; simp; omega) (fun e => by have := (HOWN.out _ e.symm).1; omega)).trans ((Below.heap_alloc _ _ _ (by have := HZ4.out; omega)).trans HOUT4.out)
            have hbx5 := (hg5.block wr.heap.size (by have := HZ4.out; simp; omega) (fun e => by have := (HOWN.out _ e.symm).2; omega)).trans ((Below.heap_alloc _ _ _ HZ4.out).trans HBX4.out)
            obtain ⟨⟨x0, x1, x2⟩, f0, f1, f2⟩ := box3 hout5
            have HBX5 := Lib.hid hbx5
            have HY6 := Lib.hid (box3 hbx5).1
            have HST5 := Lib.hid (HST.out.step hn HU.out HLOWA.out HB4.out HSL4.out ((Below.refl _ w4).alloc (Nat.le_refl _) _) hg5 ho5 hat5)
            clear ho5 hg5 hat5 hout5 hbx5
            refine hK.out _ _ HY6.out (fun _ => ?_)
            clear hK
            try simp only [Act.put, List.setIfInBounds_toArray, List.set_cons_zero, List.set_cons_succ]
            refine wpAnyH_take (i := 7) (v := ?_) (by simp only [List.getElem?_toArray, List.getElem?_cons_zero, List.getElem?_cons_succ]; rfl) (by kernel_rfl) (by kernel_rfl) (by kernel_rfl) (fun _ _ _ h => h) (Or.inl ⟨by rfl, ?_⟩) HY6.out ?_
            case refine_2 => (intro ww hSw; obtain ⟨s1, s2, s3⟩ := hSw; go_simp; try with_reducible rfl)
            try simp only [Act.put, List.setIfInBounds_toArray, List.set_cons_zero, List.set_cons_succ]
            refine wpAnyH_ready (rs := [8]) (by kernel_rfl) (by simp) ?_
            refine AllReadyH.cons (by simp only [List.getElem?_toArray, List.getElem?_cons_zero, List.getElem?_cons_succ]; rfl) (fun K' hK => ?_) AllReadyH.nil
            go_simp
            have HY7 := Lib.hid (box3 ((Below.heap_setCell w5 ⟨w.heap.size + 2, 2, none⟩ (.slice o5 (ch.length + 1) c5) wr.heap.size (by show wr.heap.size ≠ w.heap.size + 2; omega)).trans HBX5.out)).1
            refine hK.out _ _ HY7.out (fun _ => ?_)
            clear hK
            try simp only [Act.put, List.setIfInBounds_toArray, List.set_cons_zero, List.set_cons_succ]
            refine wpAnyH_done (by kernel_rfl) ?_ _
            refine NoPanic.normal ?_
            go_wp2_with fail
            exact ⟨⟨k + 1, _, _, by omega, by go_num, HST5⟩, by simp [intOf]; omega⟩
          · refine AllReadyH.cons (by simp only [List.getElem?_toArray, List.getElem?_cons_zero, List.getElem?_cons_succ]; rfl) (fun K' hK => ?_) AllReadyH.nil
            go_simp
            refine (IHu _ HLOWA.out).out.mono ?_
            rintro e w4 ⟨⟨sl4, rfl, hsl4⟩, hb4⟩
            obtain ⟨o4, c4, rfl⟩ := hsl4.form
            dsimp only [tmv]
            have hout4 := (hb4.block (w.heap.size + 2) (by simp; omega)).trans HOUT.out
            have hbx4 := (hb4.block wr.heap.size (by simp)).trans (heap_new_at wr (.cells #[.string u.nm, .bool u.vr, .slice ou u.ts.length cu] 34) _ rfl)
            obtain ⟨⟨x0, x1, x2⟩, f0, f1, f2⟩ := box3 hout4
            have HY4 := Lib.hid (box3 hbx4).1
            have HSL4 := Lib.hid hsl4
            have HB4 := Lib.hid hb4
            have HOUT4 := Lib.hid hout4
            have HBX4 := Lib.hid hbx4
            have HZ4 := Lib.hid (show wr.heap.size < w4.heap.size from (Array.getElem?_eq_some_iff.1 hbx4).1)
            clear hsl4 hb4 hout4 hbx4
            refine hK.out _ _ HY4.out (fun _ => ?_)
            clear hK
            try simp only [Act.put, List.setIfInBounds_toArray, List.set_cons_zero, List.set_cons_succ]
            refine wpAnyH_ready (rs := [1, 5]) (by kernel_rfl) (by simp) ?_
            refine AllReadyH.cons (by simp only [List.getElem?_toArray, List.getElem?_cons_zero, List.getElem?_cons_succ]; rfl) (fun K' hK => ?_) ?_
            · go_simp
              refine hK.out _ _ HY4.out (fun _ => ?_)
              clear hK
              try simp only [Act.put, List.setIfInBounds_toArray, List.set_cons_zero, List.set_cons_succ]
              refine wpAnyH_ready (rs := [5]) (by kernel_rfl) (by simp) ?_
              refine AllReadyH.cons (by simp only [List.getElem?_toArray, List.getElem?_cons_zero, List.getElem?_cons_succ]; rfl) (fun K' hK => ?_) AllReadyH.nil
              go_simp
              have hy5 := (box3 ((Below.heap_alloc w4 (.cells #[.string (apB bl u).nm, .bool (apB bl u).vr, .slice o4 (apB bl u).ts.length c4] 34) _ HZ4.out).trans HBX4.out)).1
              have hx5 := (box3 ((Below.heap_alloc w4 (.cells #[.string (apB bl u).nm, .bool (apB bl u).vr, .slice o4 (apB bl u).ts.length c4] 34) (w.heap.size + 2) (by have := HZ4.out; omega)).trans HOUT4.out)).1.2.2
              have HY5 := Lib.hid hy5
              clear hy5
              refine hK.out _ _ HY5.out (fun _ => ?_)
              clear hK
              try simp only [Act.put, List.setIfInBounds_toArray, List.set_cons_zero, List.set_cons_succ]
              refine wpAnyH_ready (rs := [6]) (by kernel_rfl) (by simp) ?_
              refine AllReadyH.cons (by simp only [List.getElem?_toArray, List.getElem?_cons_zero, List.getElem?_cons_succ]; rfl) (fun K' hK => ?_) AllReadyH.nil
              refine step_append_opt rfl (.tmp 25) (.tmp 29) 32 rfl (w.heap.size + 3) 34 i0 (.agg #[.string ⟨#[]⟩, .bool false, .slice none 0 0]) 3 48 Try.underlying32 HI.out HZ.out HS1.out HB1.out rfl (by decide) (.slice ov ch.length cv) ch.length (stCells ch) rfl (HST.out.row.kept (below_grown (HLOWA.out.trans ((HB4.out.mono (by simp)).alloc (Nat.le_of_lt HZ4.out) _))) (own_none _)) (some ⟨w4.heap.size, 0, none⟩) 1 1 [.string (apB bl u).nm, .bool (apB bl u).vr, .slice o4 (apB bl u).ts.length c4] rfl rfl (fun h => by cases h) (fun ad had => by cases had; exact cells_new3 _ _ _ _ _) (by simp [Value.oneCell']) (by have := HCHL.out; unfold maxLen; omega) (by have := HCHL.out; omega) (by have := HZ4.out; simp; omega) ?_
              intro v5 w5 ho5 hg5 hat5
              obtain ⟨o5, c5, rfl⟩ := ownsRow_shape ho5
              have hout5 := (hg5.block (w.heap.size + 2) (by have := HZ4.out; simp; omega) (fun e => by have := (HOWN.out _ e.symm).1; omega)).trans ((Below.heap_alloc _ _ _ (by have := HZ4.out; omega)).trans HOUT4.out)
              have hbx5 := (hg5.block wr.heap.size (by have := HZ4.out; simp; omega) (fun e => by have := (HOWN.out _ e.symm).2; omega)).trans ((Below.heap_alloc _ _ _ HZ4.out).trans HBX4.out)
              obtain ⟨⟨x0, x1, x2⟩, f0, f1, f2⟩ := box3 hout5
              have HBX5 := Lib.hid hbx5
              have HY6 := Lib.hid (box3 hbx5).1
              have HST5 := Lib.hid (HST.out.step hn HU.out HLOWA.out HB4.out HSL4.out ((Below.refl _ w4).alloc (Nat.le_refl _) _) hg5 ho5 hat5)
              clear ho5 hg5 hat5 hout5 hbx5
              refine hK.out _ _ HY6.out (fun _ => ?_)
              clear hK
              try simp only [Act.put, List.setIfInBounds_toArray, List.set_cons_zero, List.set_cons_succ]
              refine wpAnyH_take (i := 7) (v := ?_) (by simp only [List.getElem?_toArray, List.getElem?_cons_zero, List.getElem?_cons_succ]; rfl) (by kernel_rfl) (by kernel_rfl) (by kernel_rfl) (fun _ _ _ h => h) (Or.inl ⟨by rfl, ?_⟩) HY6.out ?_
              case refine_2 => (intro ww hSw; obtain ⟨s1, s2, s3⟩ := hSw; go_simp; try with_reducible rfl)
              try simp only [Act.put, List.setIfInBounds_toArray, List.set_cons_zero, List.set_cons_succ]
              refine wpAnyH_ready (rs := [8]) (by kernel_rfl) (by simp) ?_
              refine AllReadyH.cons (by simp only [List.getElem?_toArray, List.getElem?_cons_zero, List.getElem?_cons_succ]; rfl) (fun K' hK => ?_) AllReadyH.nil
              go_simp
              have HY7 := Lib.hid (box3 ((Below.heap_setCell w5 ⟨w.heap.size + 2, 2, none⟩ (.slice o5 (ch.length + 1) c5) wr.heap.size (by show wr.heap.size ≠ w.heap.size + 2; omega)).trans HBX5.out)).1
              refine hK.out _ _ HY7.out (fun _ => ?_)
              clear hK
              try simp only [Act.put, List.setIfInBounds_toArray, List.set_cons_zero, List.set_cons_succ]
              refine wpAnyH_done (by kernel_rfl) ?_ _
              refine NoPanic.normal ?_
              go_wp2_with fail
              exact ⟨⟨k + 1, _, _, by omega, by go_num, HST5⟩, by simp [intOf]; omega⟩
            · refine AllReadyH.cons (by simp only [List.getElem?_toArray, List.getElem?_cons_zero, List.getElem?_cons_succ]; rfl) (fun K' hK => ?_) AllReadyH.nil
              go_simp
              have hy5 := (box3 ((Below.heap_alloc w4 (.cells #[.string (apB bl u).nm, .bool (apB bl u).vr, .slice o4 (apB bl u).ts.length c4] 34) _ HZ4.out).trans HBX4.out)).1
              have hx5 := (box3 ((Below.heap_alloc w4 (.cells #[.string (apB bl u).nm, .bool (apB bl u).vr, .slice o4 (apB bl u).ts.length c4] 34) (w.heap.size + 2) (by have := HZ4.out; omega)).trans HOUT4.out)).1.2.2
              have HY5 := Lib.hid hy5
              clear hy5
              refine hK.out _ _ HY5.out (fun _ => ?_)
              clear hK
              try simp only [Act.put, List.setIfInBounds_toArray, List.set_cons_zero, List.set_cons_succ]
              refine wpAnyH_ready (rs := [1]) (by kernel_rfl) (by simp) ?_
              refine AllReadyH.cons (by simp only [List.getElem?_toArray, List.getElem?_cons_zero, List.getElem?_cons_succ]; rfl) (fun K' hK => ?_) AllReadyH.nil
              go_simp
              refine hK.out _ _ HY5.out (fun _ => ?_)
              clear hK
              try simp only [Act.put, List.setIfInBounds_toArray, List.set_cons_zero, List.set_cons_succ]
              refine wpAnyH_ready (rs := [6]) (by kernel_rfl) (by simp) ?_
              refine AllReadyH.cons (by simp only [List.getElem?_toArray, List.getElem?_cons_zero, List.getElem?_cons_succ]; rfl) (fun K' hK => ?_) AllReadyH.nil
              refine step_append_opt rfl (.tmp 25) (.tmp 29) 32 rfl (w.heap.size + 3) 34 i0 (.agg #[.string ⟨#[]⟩, .bool false, .slice none 0 0]) 3 48 Try.underlying32 HI.out HZ.out HS1.out HB1.out rfl (by decide) (.slice ov ch.length cv) ch.length (stCells ch) rfl (HST.out.row.kept (below_grown (HLOWA.out.trans ((HB4.out.mono (by simp)).alloc (Nat.le_of_lt HZ4.out) _))) (own_none _)) (some ⟨w4.heap.size, 0, none⟩) 1 1 [.string (apB bl u).nm, .bool (apB bl u).vr, .slice o4 (apB bl u).ts.length c4] rfl rfl (fun h => by cases h) (fun ad had => by cases had; exact cells_new3 _ _ _ _ _) (by simp [Value.oneCell']) (by have := HCHL.out; unfold maxLen; omega) (by have := HCHL.out; omega) (by have := HZ4.out; simp; omega) ?_
              intro v5 w5 ho5 hg5 hat5
              obtain ⟨o5, c5, rfl⟩ := ownsRow_shape ho5
              have hout5 := (hg5.block (w.heap.size + 2) (by have := HZ4.out; simp; omega) (fun e => by have := (HOWN.out _ e.symm).1; omega)).trans ((Below.heap_alloc _ _ _ (by have := HZ4.out; omega)).trans HOUT4.out)
              have hbx5 := (hg5.block wr.heap.size (by have := HZ4.out; simp; omega) (fun e => by have := (HOWN.out _ e.symm).2; omega)).trans ((Below.heap_alloc _ _ _ HZ4.out).trans HBX4.out)
              obtain ⟨⟨x0, x1, x2⟩, f0, f1, f2⟩ := box3 hout5
              have HBX5 := Lib.hid hbx5
              have HY6 := Lib.hid (box3 hbx5).1
              have HST5 := Lib.hid (HST.out.step hn HU.out HLOWA.out HB4.out HSL4.out ((Below.refl _ w4).alloc (Nat.le_refl _) _) hg5 ho5 hat5)
              clear ho5 hg5 hat5 hout5 hbx5
              refine hK.out _ _ HY6.out (fun _ => ?_)
              clear hK
              try simp only [Act.put, List.setIfInBounds_toArray, List.set_cons_zero, List.set_cons_succ]
              refine wpAnyH_take (i := 7) (v := ?_) (by simp only [List.getElem?_toArray, List.getElem?_cons_zero, List.getElem?_cons_succ]; rfl) (by kernel_rfl) (by kernel_rfl) (by kernel_rfl) (fun _ _ _ h => h) (Or.inl ⟨by rfl, ?_⟩) HY6.out ?_
              case refine_2 => (intro ww hSw; obtain ⟨s1, s2, s3⟩ := hSw; go_simp; try with_reducible rfl)
              try simp only [Act.put, List.setIfInBounds_toArray, List.set_cons_zero, List.set_cons_succ]
              refine wpAnyH_ready (rs := [8]) (by kernel_rfl) (by simp) ?_
              refine AllReadyH.cons (by simp only [List.getElem?_toArray, List.getElem?_cons_zero, List.getElem?_cons_succ]; rfl) (fun K' hK => ?_) AllReadyH.nil
              go_simp
              have HY7 := Lib.hid (box3 ((Below.heap_setCell w5 ⟨w.heap.size + 2, 2, none⟩ (.slice o5 (ch.length + 1) c5) wr.heap.size (by show wr.heap.size ≠ w.heap.size + 2; omega)).trans HBX5.out)).1
              refine hK.out _ _ HY7.out (fun _ => ?_)
              clear hK
              try simp only [Act.put, List.setIfInBounds_toArray, List.set_cons_zero, List.set_cons_succ]
              refine wpAnyH_done (by kernel_rfl) ?_ _
              refine NoPanic.normal ?_
              go_wp2_with fail
              exact ⟨⟨k + 1, _, _, by omega, by go_num, HST5⟩, by simp [intOf]; omega⟩
        · obtain rfl : k = t.ts.length := by omega
          obtain ⟨ov, cv, rfl⟩ := ownsRow_shape hst.row
          obtain ⟨⟨x0, x1, x2⟩, -⟩ := box3 hst.out
          obtain ⟨⟨r0, r1, r2⟩, f0, f1, f2⟩ := box3 hst.ret
          clear hst
          go_wp2_with fail
          have hq := box3_set HST.out.ret (.string t.nm) (.bool false) (.slice ov ch.length cv)
          obtain ⟨⟨q0, q1, q2⟩, -⟩ := box3 hq
          refine bodyPost_ret (v := .agg #[.string t.nm, .bool false, .slice ov ch.length cv]) (by simp [results, Try.f18, go_sem, q0, q1, q2]) rfl ?_
          have hbf := below_set3 HST.out.low (b := w.heap.size + 1) (by omega) (.string t.nm) (.bool false) (.slice ov ch.length cv)
          refine ⟨⟨.slice ov ch.length cv, by rw [HA.out]; rfl, ?_⟩, hbf⟩
          have h1 := SlP.ofRow (p := fun b => b < n₀ ∨ w.heap.size + 3 ≤ b) HST.out.row (fun b hb => .inr hb) (fun c hc => (HST.out.kids c hc).carry fun b hb => ⟨rfl, hb.1⟩)
          have h2 := HST.out.terms
          rw [List.take_length] at h2
          rw [h2] at h1
          rw [HA.out]
          exact h1.carry fun b hb => ⟨heap_set3 _ _ _ _ _ _ (by omega), by omega⟩
end Go.Proofs.Ytdnkommcnkbeeaa
