/- Package path: ranked. -/
import Derived.WalkKit
import Derived.ProofKit
import Derived.OpenShut
import Derived.Handy
import Derived.Lib.Hide
import Derived.Deep.RegionHeld3
import Derived.Test.YtdnkommcnkbeeaaNd
namespace Go.Proofs.Ytdnkommcnkbeeaa
open Go.RowKit

theorem cells_new5 (W : World) (a b c d f : Value) (e : TypeId) : ∀ j u, [a, b, c, d, f][j]? = some u → (W.alloc (.cells #[a, b, c, d, f] e)).cell? ((⟨W.heap.size, 0, none⟩ : Addr).add j) = some u := by
  intro j u hj
  rw [ad_add, Nat.zero_add]
  have h := cells_of' (heap_new_at W (.cells #[a, b, c, d, f] e) W.heap.size rfl) j
  rw [h, ← Array.getElem?_toList]
  exact hj
/-- the node of a term, in new memory -/
def NdRes (L : List Rk) (w : World) (t : Tm) (e : Ending) (w' : World) : Prop :=
  ∃ oa n c nv, e = .returned (.agg #[.string t.nm, .bool t.vr, .slice oa n c, .int .i64 (ndRank (rkB L) t), nv]) ∧ NdP (rkB L) (fun b => w.heap.size ≤ b) w' t.ts nv
set_option maxRecDepth 100000 in
set_option maxHeartbeats 4000000 in
theorem ranked_var (L : List Rk) (lv : Value) (t : Tm) (s : Value) (w : World) (hL : RksIs w.heap.size w L lv) (hv : t.vr = true) (hbare : t.bare) (hs : SlIs w.heap.size w t.ts s) :
    Calls Try.prog 55 #[lv, tmv t s] w fun e w' => NdRes L w t e w' ∧ Below w.heap.size w w' := by
  obtain ⟨oa, ca, rfl, -⟩ := hs.form
  obtain ⟨ol, cl, rfl, -, -⟩ := hL
  have H0 := Lib.hid (hbare.vr0 hv)
  go_enter Try.func55, Try.ntmps55
  rw [show tmv t (.slice oa t.ts.length ca) = .agg #[.string t.nm, .bool t.vr, .slice oa t.ts.length ca] from rfl, hv]
  go_wp2_with fail
  have hr : (((w.alloc (.cells #[.string t.nm, .bool true, .slice oa t.ts.length ca] 34)).alloc (.cells #[.string t.nm, .bool true, .slice oa t.ts.length ca, .int .i64 0, .slice none 0 0] 107)).alloc (.cells #[.string t.nm, .bool true, .slice oa t.ts.length ca, .int .i64 0, .slice none 0 0] 107)).heap[w.heap.size + 1]? = some (.cells #[.string t.nm, .bool true, .slice oa t.ts.length ca, .int .i64 0, .slice none 0 0] 107 (0, 0)) := (Below.heap_alloc _ _ _ (by simp)).trans (heap_new_at _ _ _ (by simp))
  obtain ⟨⟨q0, q1, q2, q3, q4⟩, -⟩ := box5 hr
  refine bodyPost_ret (v := .agg #[.string t.nm, .bool true, .slice oa t.ts.length ca, .int .i64 0, .slice none 0 0]) (by simp [results, Try.f55, go_sem, q0, q1, q2, q3, q4]) rfl ?_
  exact ⟨⟨_, _, _, _, by rw [ndRank_var hv, hv], by rw [H0.out]; exact .nil0⟩, by go_grown⟩

set_option maxRecDepth 100000 in
set_option maxHeartbeats 8000000 in
theorem ranked_any (L : List Rk) (lv : Value) (hLn : NmsOk L) (hLl : L.length ≤ 1048576) (t : Tm) : ∀ (s : Value) (w : World), RksIs w.heap.size w L lv → t.bare → SlIs w.heap.size w t.ts s → t.bulk ≤ 1048576 →
    Calls Try.prog 55 #[lv, tmv t s] w fun e w' => NdRes L w t e w' ∧ Below w.heap.size w w' := by
  induction t using Tm.ind with
  | h t ih =>
    intro s w hL hbare hs hb
    by_cases hv : t.vr = true
    · exact ranked_var L lv t s w hL hv hbare hs
    · have hv : t.vr = false := by simpa using hv
      obtain ⟨oa, ca, rfl, -⟩ := hs.form
      have hL' := hL
      obtain ⟨ol, cl, rfl, -, -⟩ := hL'
      obtain ⟨i0, hi, hz, hs1, hb1⟩ := info_parts infoNode
      have HI := Lib.hid hi
      have HZ := Lib.hid hz
      have HS1 := Lib.hid hs1
      have HB1 := Lib.hid hb1
      have htl : t.ts.length ≤ 1048576 := by have := Tm.length_sizes t.ts; have := Tm.size_bulk t; have := Tm.size_eq t; omega
      have IH := Lib.hid ih
      have HLL := Lib.hid hL
      have HSL := Lib.hid hs
      have HBK := Lib.hid hb
      have HBR := Lib.hid hbare
      have HLN := Lib.hid hLn
      have HRK := Lib.hid (ndRank_fun (rk := rkB L) hv)
      have HR := fun W1 (hW : Below w.heap.size w W1) => Lib.hid (rkRank_any L t.nm.data.toList (.slice ol L.length cl) W1 (hL.carry hW hW.size) hLl hLn)
      clear ih hL hs hb hi hz hs1 hb1 hbare
      go_enter Try.func55, Try.ntmps55
      rw [show tmv t (.slice oa t.ts.length ca) = .agg #[.string t.nm, .bool t.vr, .slice oa t.ts.length ca] from rfl, hv]
      go_wp2_with fail
      have hb0 : Below w.heap.size w (((w.alloc (.cells #[.string t.nm, .bool false, .slice oa t.ts.length ca] 34)).alloc (.cells #[.string ⟨#[]⟩, .bool false, .slice none 0 0, .int .i64 0, .slice none 0 0] 107)).alloc (.cells #[.string t.nm, .bool false, .slice oa t.ts.length ca, .int .i64 0, .slice none 0 0] 107)) := by go_grown
      have hr := (HR _ hb0).out
      rw [kb_key] at hr
      refine hr.mono ?_
      rintro e w1 ⟨rfl, hb1⟩
      have hret := (hb1.block (w.heap.size + 1) (by simp)).trans ((Below.heap_alloc _ _ _ (by simp)).trans (heap_new_at (w.alloc (.cells #[.string t.nm, .bool false, .slice oa t.ts.length ca] 34)) (.cells #[.string ⟨#[]⟩, .bool false, .slice none 0 0, .int .i64 0, .slice none 0 0] 107) _ (by simp)))
      have hout := (hb1.block (w.heap.size + 2) (by simp)).trans (heap_new_at _ (.cells #[.string t.nm, .bool false, .slice oa t.ts.length ca, .int .i64 0, .slice none 0 0] 107) _ (by simp))
      have hbox := (hb1.block w.heap.size (by simp; omega)).trans ((Below.heap_alloc _ _ _ (by simp; omega)).trans ((Below.heap_alloc _ _ _ (by simp)).trans (heap_new_at w (.cells #[.string t.nm, .bool false, .slice oa t.ts.length ca] 34) _ rfl)))
      have hout2 := set1 hout 3 (.int .i64 (rkOf L t.nm.data.toList))
      simp only [List.setIfInBounds_toArray, List.set_cons_zero, List.set_cons_succ] at hout2
      have HBW1 : Hid (Below w.heap.size w (w1.setCell ⟨w.heap.size + 2, 3, none⟩ (.int .i64 (rkOf L t.nm.data.toList)))) := Lib.hid ((hb0.trans (hb1.mono hb0.size)).setCell (p := ⟨w.heap.size + 2, 3, none⟩) (by show w.heap.size ≤ w.heap.size + 2; omega) _)
      have HST0 := Lib.hid (NpSt.start (rk := rkB L) (l := t.ts) HBW1.out hout2 ((Below.heap_setCell _ _ _ _ (by show w.heap.size + 1 ≠ w.heap.size + 2; omega)).trans hret))
      obtain ⟨⟨x0, x1, x2, x3, x4⟩, f0, f1, f2, f3, f4⟩ := box5 hout
      obtain ⟨⟨y0, y1, y2⟩, -⟩ := box3 hbox
      clear hb0 hb1 hret hout hbox hout2 hr
      go_wp2_with fail
      go_loopw [21] (fun i wr => ∃ (k : Nat) (v : Value) (ch : List (Tm × Value × Value)), k ≤ t.ts.length ∧ i = .int .i64 k ∧ Hid (NpSt (rkB L) w t.nm (.slice oa t.ts.length ca) (rkOf L t.nm.data.toList) t.ts k wr v ch)) (fun i _ => t.ts.length - (intOf i).toNat)
      case atStart => exact ⟨0, _, _, by omega, rfl, HST0⟩
      case round =>
        clear x0 x1 x2 x3 x4 f0 f1 f2 f3 f4 y0 y1 y2
        obtain ⟨k, v, ch, hk, rfl, HST⟩ := hrel
        have hst := HST.out
        have hzo := (Array.getElem?_eq_some_iff.1 hst.out).1
        by_cases hlt : k < t.ts.length
        · obtain ⟨b, o, u, su, rfl, hbb, hu, hum, hus, c1, c2, c3⟩ := (HSL.out.carry hst.low (Nat.le_refl _)).get (k := k) hlt
          obtain ⟨ou, cu, rfl, -⟩ := hus.form
          obtain ⟨ov, cv, rfl⟩ := ownsRow_shape hst.row
          have HCHL : Hid (ch.length = k) := Lib.hid (by have := congrArg List.length hst.terms; simp at this; omega)
          have HLOWA : Hid (Below wr.heap.size wr (wr.alloc (.cells #[.string u.nm, .bool u.vr, .slice ou u.ts.length cu] 34)).drew) := Lib.hid (by go_grown)
          have hub : u.bulk ≤ 1048576 := by have := Tm.bulk_mem hum; have := Tm.bulk_eq t; have := HBK.out; omega
          have hout := (Below.heap_alloc wr (.cells #[.string u.nm, .bool u.vr, .slice ou u.ts.length cu] 34) (w.heap.size + 2) (by omega)).trans hst.out
          obtain ⟨⟨x0, x1, x2, x3, x4⟩, f0, f1, f2, f3, f4⟩ := box5 hout
          have hown : ∀ j, (Value.slice ov ch.length cv).ownBlock = some j → w.heap.size + 3 ≤ j ∧ j < wr.heap.size := fun j hj => hst.row.lt j hj
          have HOWN := Lib.hid hown
          have HOUT := Lib.hid hout
          have HU := Lib.hid hu
          have hz := hst.low.size
          have hlow := hst.low
          have HLOW := Lib.hid hlow
          have IHu := fun W1 (hW : Below wr.heap.size wr W1) => Lib.hid (IH.out u hum _ W1 (HLL.out.carry (hlow.trans (hW.mono hz)) (by have := hW.size; omega)) (HBR.out.kids u hum) (hus.carry (B := W1) (hW.mono hz) (by have := hW.size; omega)) hub)
          clear hst hu hus hown hout hlow
          go_wp2_with fail
          have hxA := (box5 HOUT.out).1.2.2.2.2
          have HYA := Lib.hid (box3 (heap_new_at wr (.cells #[.string u.nm, .bool u.vr, .slice ou u.ts.length cu] 34) _ rfl)).1
          refine wp_region_noPanic ?_
          refine wp_region_held_drew (S := fun w' => w'.cell? ⟨wr.heap.size, 0, none⟩ = some (.string u.nm) ∧ w'.cell? ⟨wr.heap.size, 1, none⟩ = some (.bool u.vr) ∧ w'.cell? ⟨wr.heap.size, 2, none⟩ = some (.slice ou u.ts.length cu)) (by kernel_rfl) HYA.out (fun _ => ?_)
          simp only [List.size_toArray, List.length_cons, List.length_nil, Nat.reduceAdd]
          refine wpAnyH_take (i := 0) (v := ?_) (by simp only [List.getElem?_toArray, List.getElem?_cons_zero]; rfl) (by kernel_rfl) (by kernel_rfl) (by kernel_rfl) (fun _ _ _ h => h) (Or.inl ⟨by rfl, ?_⟩) HYA.out ?_
          case refine_2 => (intro ww hSw; obtain ⟨s1, s2, s3⟩ := hSw; go_simp; try with_reducible rfl)
          try simp only [Act.put, List.setIfInBounds_toArray, List.set_cons_zero, List.set_cons_succ]
          refine wpAnyH_take (i := 2) (v := ?_) (by simp only [List.getElem?_toArray, List.getElem?_cons_zero, List.getElem?_cons_succ]; rfl) (by kernel_rfl) (by kernel_rfl) (by kernel_rfl) (fun _ _ _ h => h) (Or.inl ⟨by rfl, ?_⟩) HYA.out ?_
          case refine_2 => (intro ww hSw; obtain ⟨s1, s2, s3⟩ := hSw; go_simp; try with_reducible rfl)
          try simp only [Act.put, List.setIfInBounds_toArray, List.set_cons_zero, List.set_cons_succ]
          refine wpAnyH_take (i := 3) (v := ?_) (by simp only [List.getElem?_toArray, List.getElem?_cons_zero, List.getElem?_cons_succ]; rfl) (by kernel_rfl) (by kernel_rfl) (by kernel_rfl) (fun _ _ _ h => h) (Or.inl ⟨by rfl, ?_⟩) HYA.out ?_
          case refine_2 => (intro ww hSw; obtain ⟨s1, s2, s3⟩ := hSw; go_simp; try with_reducible rfl)
          try simp only [Act.put, List.setIfInBounds_toArray, List.set_cons_zero, List.set_cons_succ]
          refine wpAnyH_ready (rs := [1, 4]) (by kernel_rfl) (by simp) ?_
          refine AllReadyH.cons (by simp only [List.getElem?_toArray, List.getElem?_cons_zero, List.getElem?_cons_succ]; rfl) (fun K' hK => ?_) ?_
          · go_simp
            refine hK.out _ _ HYA.out (fun _ => ?_)
            clear hK
            try simp only [Act.put, List.setIfInBounds_toArray, List.set_cons_zero, List.set_cons_succ]
            refine wpAnyH_ready (rs := [4]) (by kernel_rfl) (by simp) ?_
            refine AllReadyH.cons (by simp only [List.getElem?_toArray, List.getElem?_cons_zero, List.getElem?_cons_succ]; rfl) (fun K' hK => ?_) AllReadyH.nil
            go_simp
            refine (IHu _ HLOWA.out).out.mono ?_
            rintro e w4 ⟨⟨o3, n3, c3, sl4, rfl, hsl4⟩, hb4⟩
            obtain ⟨o4, c4, rfl⟩ := hsl4.form
            have hout4 := (hb4.block (w.heap.size + 2) (by simp; omega)).trans HOUT.out
            have hbx4 := (hb4.block wr.heap.size (by simp)).trans (heap_new_at wr (.cells #[.string u.nm, .bool u.vr, .slice ou u.ts.length cu] 34) _ rfl)
            obtain ⟨⟨x0, x1, x2, x3, x4⟩, f0, f1, f2, f3, f4⟩ := box5 hout4
            have HY4 := Lib.hid (box3 hbx4).1
            have HSL4 := Lib.hid hsl4
            have HB4 := Lib.hid hb4
            have HOUT4 := Lib.hid hout4
            have HBX4 := Lib.hid hbx4
            have HZ4 := Lib.hid (show wr.heap.size < w4.heap.size from (Array.getElem?_eq_some_iff.1 hbx4).1)
            clear hsl4 hb4 hout4 hbx4
            refine hK.out _ _ HY4.out (fun _ => ?_)
            clear hK
            try simp only [Act.put, List.setIfInBounds_toArray, List.set_cons_zero, List.set_cons_succ]
            refine wpAnyH_ready (rs := [5]) (by kernel_rfl) (by simp) ?_
            refine AllReadyH.cons (by simp only [List.getElem?_toArray, List.getElem?_cons_zero, List.getElem?_cons_succ]; rfl) (fun K' hK => ?_) AllReadyH.nil
            go_simp
            have hy5 := (box3 ((Below.heap_alloc w4 (.cells #[.string u.nm, .bool u.vr, .slice o3 n3 c3, .int .i64 (ndRank (rkB L) u), .slice o4 u.ts.length c4] 107) _ HZ4.out).trans HBX4.out)).1
            have hx5 := (box5 ((Below.heap_alloc w4 (.cells #[.string u.nm, .bool u.vr, .slice o3 n3 c3, .int .i64 (ndRank (rkB L) u), .slice o4 u.ts.length c4] 107) (w.heap.size + 2) (by have := HZ4.out; omega)).trans HOUT4.out)).1.2.2.2.2
            have HY5 := Lib.hid hy5
            clear hy5
            refine hK.out _ _ HY5.out (fun _ => ?_)
            clear hK
            try simp only [Act.put, List.setIfInBounds_toArray, List.set_cons_zero, List.set_cons_succ]
            refine wpAnyH_ready (rs := [6]) (by kernel_rfl) (by simp) ?_
            refine AllReadyH.cons (by simp only [List.getElem?_toArray, List.getElem?_cons_zero, List.getElem?_cons_succ]; rfl) (fun K' hK => ?_) AllReadyH.nil
            refine step_append_opt rfl (.tmp 26) (.tmp 30) 105 rfl (w.heap.size + 3) 107 i0 (.agg #[.string ⟨#[]⟩, .bool false, .slice none 0 0, .int .i64 0, .slice none 0 0]) 5 80 Try.underlying105 HI.out HZ.out HS1.out HB1.out rfl (by decide) (.slice ov ch.length cv) ch.length (ndCells (rkB L) ch) rfl (HST.out.row.kept (below_grown (HLOWA.out.trans ((HB4.out.mono (by simp)).alloc (Nat.le_of_lt HZ4.out) _))) (own_none _)) (some ⟨w4.heap.size, 0, none⟩) 1 1 [.string u.nm, .bool u.vr, .slice o3 n3 c3, .int .i64 (ndRank (rkB L) u), .slice o4 u.ts.length c4] rfl rfl (fun h => by cases h) (fun ad had => by cases had; exact cells_new5 _ _ _ _ _ _ _) (by simp [Value.oneCell']) (by have := HCHL.out; unfold maxLen; omega) (by have := HCHL.out; omega) (by have := HLOW.out.size; have := HZ4.out; simp; omega) ?_
            intro v5 w5 ho5 hg5 hat5
            obtain ⟨o5, c5, rfl⟩ := ownsRow_shape ho5
            have hout5 := (hg5.block (w.heap.size + 2) (by have := HZ4.out; simp; omega) (fun e => by have := (HOWN.out _ e.symm).1; omega)).trans ((Below.heap_alloc _ _ _ (by have := HZ4.out; omega)).trans HOUT4.out)
            have hbx5 := (hg5.block wr.heap.size (by have := HZ4.out; simp; omega) (fun e => by have := (HOWN.out _ e.symm).2; omega)).trans ((Below.heap_alloc _ _ _ HZ4.out).trans HBX4.out)
            obtain ⟨⟨x0, x1, x2, x3, x4⟩, f0, f1, f2, f3, f4⟩ := box5 hout5
            have HBX5 := Lib.hid hbx5
            have HY6 := Lib.hid (box3 hbx5).1
            have HST5 := Lib.hid (HST.out.step HU.out HLOWA.out HB4.out HSL4.out ((Below.refl _ w4).alloc (Nat.le_refl _) _) hg5 ho5 hat5)
            clear ho5 hg5 hat5 hout5 hbx5
            refine hK.out _ _ HY6.out (fun _ => ?_)
            clear hK
            try simp only [Act.put, List.setIfInBounds_toArray, List.set_cons_zero, List.set_cons_succ]
            refine wpAnyH_take (i := 7) (v := ?_) (by simp only [List.getElem?_toArray, List.getElem?_cons_zero, List.getElem?_cons_succ]; rfl) (by kernel_rfl) (by kernel_rfl) (by kernel_rfl) (fun _ _ _ h => h) (Or.inl ⟨by rfl, ?_⟩) HY6.out ?_
            case refine_2 => (intro ww hSw; obtain ⟨s1, s2, s3⟩ := hSw; go_simp; try with_reducible rfl)
            try simp only [Act.put, List.setIfInBounds_toArray, List.set_cons_zero, List.set_cons_succ]
            refine wpAnyH_ready (rs := [8]) (by kernel_rfl) (by simp) ?_
            refine AllReadyH.cons (by simp only [List.getElem?_toArray, List.getElem?_cons_zero, List.getElem?_cons_succ]; rfl) (fun K' hK => ?_) AllReadyH.nil
            go_simp
            have HY7 := Lib.hid (box3 ((Below.heap_setCell w5 ⟨w.heap.size + 2, 4, none⟩ (.slice o5 (ch.length + 1) c5) wr.heap.size (by show wr.heap.size ≠ w.heap.size + 2; omega)).trans HBX5.out)).1
            refine hK.out _ _ HY7.out (fun _ => ?_)
            clear hK
            try simp only [Act.put, List.setIfInBounds_toArray, List.set_cons_zero, List.set_cons_succ]
            refine wpAnyH_done (by kernel_rfl) ?_ _
            refine NoPanic.normal ?_
            go_wp2_with fail
            exact ⟨⟨k + 1, _, _, by omega, by go_num, HST5⟩, by simp [intOf]; omega⟩
          · refine AllReadyH.cons (by simp only [List.getElem?_toArray, List.getElem?_cons_zero, List.getElem?_cons_succ]; rfl) (fun K' hK => ?_) AllReadyH.nil
            go_simp
            refine (IHu _ HLOWA.out).out.mono ?_
            rintro e w4 ⟨⟨o3, n3, c3, sl4, rfl, hsl4⟩, hb4⟩
            obtain ⟨o4, c4, rfl⟩ := hsl4.form
            have hout4 := (hb4.block (w.heap.size + 2) (by simp; omega)).trans HOUT.out
            have hbx4 := (hb4.block wr.heap.size (by simp)).trans (heap_new_at wr (.cells #[.string u.nm, .bool u.vr, .slice ou u.ts.length cu] 34) _ rfl)
            obtain ⟨⟨x0, x1, x2, x3, x4⟩, f0, f1, f2, f3, f4⟩ := box5 hout4
            have HY4 := Lib.hid (box3 hbx4).1
            have HSL4 := Lib.hid hsl4
            have HB4 := Lib.hid hb4
            have HOUT4 := Lib.hid hout4
            have HBX4 := Lib.hid hbx4
            have HZ4 := Lib.hid (show wr.heap.size < w4.heap.size from (Array.getElem?_eq_some_iff.1 hbx4).1)
            clear hsl4 hb4 hout4 hbx4
            refine hK.out _ _ HY4.out (fun _ => ?_)
            clear hK
            try simp only [Act.put, List.setIfInBounds_toArray, List.set_cons_zero, List.set_cons_succ]
            refine wpAnyH_ready (rs := [1, 5]) (by kernel_rfl) (by simp) ?_
            refine AllReadyH.cons (by simp only [List.getElem?_toArray, List.getElem?_cons_zero, List.getElem?_cons_succ]; rfl) (fun K' hK => ?_) ?_
            · go_simp
              refine hK.out _ _ HY4.out (fun _ => ?_)
              clear hK
              try simp only [Act.put, List.setIfInBounds_toArray, List.set_cons_zero, List.set_cons_succ]
              refine wpAnyH_ready (rs := [5]) (by kernel_rfl) (by simp) ?_
              refine AllReadyH.cons (by simp only [List.getElem?_toArray, List.getElem?_cons_zero, List.getElem?_cons_succ]; rfl) (fun K' hK => ?_) AllReadyH.nil
              go_simp
              have hy5 := (box3 ((Below.heap_alloc w4 (.cells #[.string u.nm, .bool u.vr, .slice o3 n3 c3, .int .i64 (ndRank (rkB L) u), .slice o4 u.ts.length c4] 107) _ HZ4.out).trans HBX4.out)).1
              have hx5 := (box5 ((Below.heap_alloc w4 (.cells #[.string u.nm, .bool u.vr, .slice o3 n3 c3, .int .i64 (ndRank (rkB L) u), .slice o4 u.ts.length c4] 107) (w.heap.size + 2) (by have := HZ4.out; omega)).trans HOUT4.out)).1.2.2.2.2
              have HY5 := Lib.hid hy5
              clear hy5
              refine hK.out _ _ HY5.out (fun _ => ?_)
              clear hK
              try simp only [Act.put, List.setIfInBounds_toArray, List.set_cons_zero, List.set_cons_succ]
              refine wpAnyH_ready (rs := [6]) (by kernel_rfl) (by simp) ?_
              refine AllReadyH.cons (by simp only [List.getElem?_toArray, List.getElem?_cons_zero, List.getElem?_cons_succ]; rfl) (fun K' hK => ?_) AllReadyH.nil
              refine step_append_opt rfl (.tmp 26) (.tmp 30) 105 rfl (w.heap.size + 3) 107 i0 (.agg #[.string ⟨#[]⟩, .bool false, .slice none 0 0, .int .i64 0, .slice none 0 0]) 5 80 Try.underlying105 HI.out HZ.out HS1.out HB1.out rfl (by decide) (.slice ov ch.length cv) ch.length (ndCells (rkB L) ch) rfl (HST.out.row.kept (below_grown (HLOWA.out.trans ((HB4.out.mono (by simp)).alloc (Nat.le_of_lt HZ4.out) _))) (own_none _)) (some ⟨w4.heap.size, 0, none⟩) 1 1 [.string u.nm, .bool u.vr, .slice o3 n3 c3, .int .i64 (ndRank (rkB L) u), .slice o4 u.ts.length c4] rfl rfl (fun h => by cases h) (fun ad had => by cases had; exact cells_new5 _ _ _ _ _ _ _) (by simp [Value.oneCell']) (by have := HCHL.out; unfold maxLen; omega) (by have := HCHL.out; omega) (by have := HLOW.out.size; have := HZ4.out; simp; omega) ?_
              intro v5 w5 ho5 hg5 hat5
              obtain ⟨o5, c5, rfl⟩ := ownsRow_shape ho5
              have hout5 := (hg5.block (w.heap.size + 2) (by have := HZ4.out; simp; omega) (fun e => by have := (HOWN.out _ e.symm).1; omega)).trans ((Below.heap_alloc _ _ _ (by have := HZ4.out; omega)).trans HOUT4.out)
              have hbx5 := (hg5.block wr.heap.size (by have := HZ4.out; simp; omega) (fun e => by have := (HOWN.out _ e.symm).2; omega)).trans ((Below.heap_alloc _ _ _ HZ4.out).trans HBX4.out)
              obtain ⟨⟨x0, x1, x2, x3, x4⟩, f0, f1, f2, f3, f4⟩ := box5 hout5
              have HBX5 := Lib.hid hbx5
              have HY6 := Lib.hid (box3 hbx5).1
              have HST5 := Lib.hid (HST.out.step HU.out HLOWA.out HB4.out HSL4.out ((Below.refl _ w4).alloc (Nat.le_refl _) _) hg5 ho5 hat5)
              clear ho5 hg5 hat5 hout5 hbx5
              refine hK.out _ _ HY6.out (fun _ => ?_)
              clear hK
              try simp only [Act.put, List.setIfInBounds_toArray, List.set_cons_zero, List.set_cons_succ]
              refine wpAnyH_take (i := 7) (v := ?_) (by simp only [List.getElem?_toArray, List.getElem?_cons_zero, List.getElem?_cons_succ]; rfl) (by kernel_rfl) (by kernel_rfl) (by kernel_rfl) (fun _ _ _ h => h) (Or.inl ⟨by rfl, ?_⟩) HY6.out ?_
              case refine_2 => (intro ww hSw; obtain ⟨s1, s2, s3⟩ := hSw; go_simp; try with_reducible rfl)
              try simp only [Act.put, List.setIfInBounds_toArray, List.set_cons_zero, List.set_cons_succ]
              refine wpAnyH_ready (rs := [8]) (by kernel_rfl) (by simp) ?_
              refine AllReadyH.cons (by simp only [List.getElem?_toArray, List.getElem?_cons_zero, List.getElem?_cons_succ]; rfl) (fun K' hK => ?_) AllReadyH.nil
              go_simp
              have HY7 := Lib.hid (box3 ((Below.heap_setCell w5 ⟨w.heap.size + 2, 4, none⟩ (.slice o5 (ch.length + 1) c5) wr.heap.size (by show wr.heap.size ≠ w.heap.size + 2; omega)).trans HBX5.out)).1
              refine hK.out _ _ HY7.out (fun _ => ?_)
              clear hK
              try simp only [Act.put, List.setIfInBounds_toArray, List.set_cons_zero, List.set_cons_succ]
              refine wpAnyH_done (by kernel_rfl) ?_ _
              refine NoPanic.normal ?_
              go_wp2_with fail
              exact ⟨⟨k + 1, _, _, by omega, by go_num, HST5⟩, by simp [intOf]; omega⟩
            · refine AllReadyH.cons (by simp only [List.getElem?_toArray, List.getElem?_cons_zero, List.getElem?_cons_succ]; rfl) (fun K' hK => ?_) AllReadyH.nil
              go_simp
              have hy5 := (box3 ((Below.heap_alloc w4 (.cells #[.string u.nm, .bool u.vr, .slice o3 n3 c3, .int .i64 (ndRank (rkB L) u), .slice o4 u.ts.length c4] 107) _ HZ4.out).trans HBX4.out)).1
              have hx5 := (box5 ((Below.heap_alloc w4 (.cells #[.string u.nm, .bool u.vr, .slice o3 n3 c3, .int .i64 (ndRank (rkB L) u), .slice o4 u.ts.length c4] 107) (w.heap.size + 2) (by have := HZ4.out; omega)).trans HOUT4.out)).1.2.2.2.2
              have HY5 := Lib.hid hy5
              clear hy5
              refine hK.out _ _ HY5.out (fun _ => ?_)
              clear hK
              try simp only [Act.put, List.setIfInBounds_toArray, List.set_cons_zero, List.set_cons_succ]
              refine wpAnyH_ready (rs := [1]) (by kernel_rfl) (by simp) ?_
              refine AllReadyH.cons (by simp only [List.getElem?_toArray, List.getElem?_cons_zero, List.getElem?_cons_succ]; rfl) (fun K' hK => ?_) AllReadyH.nil
              go_simp
              refine hK.out _ _ HY5.out (fun _ => ?_)
              clear hK
              try simp only [Act.put, List.setIfInBounds_toArray, List.set_cons_zero, List.set_cons_succ]
              refine wpAnyH_ready (rs := [6]) (by kernel_rfl) (by simp) ?_
              refine AllReadyH.cons (by simp only [List.getElem?_toArray, List.getElem?_cons_zero, List.getElem?_cons_succ]; rfl) (fun K' hK => ?_) AllReadyH.nil
              refine step_append_opt rfl (.tmp 26) (.tmp 30) 105 rfl (w.heap.size + 3) 107 i0 (.agg #[.string ⟨#[]⟩, .bool false, .slice none 0 0, .int .i64 0, .slice none 0 0]) 5 80 Try.underlying105 HI.out HZ.out HS1.out HB1.out rfl (by decide) (.slice ov ch.length cv) ch.length (ndCells (rkB L) ch) rfl (HST.out.row.kept (below_grown (HLOWA.out.trans ((HB4.out.mono (by simp)).alloc (Nat.le_of_lt HZ4.out) _))) (own_none _)) (some ⟨w4.heap.size, 0, none⟩) 1 1 [.string u.nm, .bool u.vr, .slice o3 n3 c3, .int .i64 (ndRank (rkB L) u), .slice o4 u.ts.length c4] rfl rfl (fun h => by cases h) (fun ad had => by cases had; exact cells_new5 _ _ _ _ _ _ _) (by simp [Value.oneCell']) (by have := HCHL.out; unfold maxLen; omega) (by have := HCHL.out; omega) (by have := HLOW.out.size; have := HZ4.out; simp; omega) ?_
              intro v5 w5 ho5 hg5 hat5
              obtain ⟨o5, c5, rfl⟩ := ownsRow_shape ho5
              have hout5 := (hg5.block (w.heap.size + 2) (by have := HZ4.out; simp; omega) (fun e => by have := (HOWN.out _ e.symm).1; omega)).trans ((Below.heap_alloc _ _ _ (by have := HZ4.out; omega)).trans HOUT4.out)
              have hbx5 := (hg5.block wr.heap.size (by have := HZ4.out; simp; omega) (fun e => by have := (HOWN.out _ e.symm).2; omega)).trans ((Below.heap_alloc _ _ _ HZ4.out).trans HBX4.out)
              obtain ⟨⟨x0, x1, x2, x3, x4⟩, f0, f1, f2, f3, f4⟩ := box5 hout5
              have HBX5 := Lib.hid hbx5
              have HY6 := Lib.hid (box3 hbx5).1
              have HST5 := Lib.hid (HST.out.step HU.out HLOWA.out HB4.out HSL4.out ((Below.refl _ w4).alloc (Nat.le_refl _) _) hg5 ho5 hat5)
              clear ho5 hg5 hat5 hout5 hbx5
              refine hK.out _ _ HY6.out (fun _ => ?_)
              clear hK
              try simp only [Act.put, List.setIfInBounds_toArray, List.set_cons_zero, List.set_cons_succ]
              refine wpAnyH_take (i := 7) (v := ?_) (by simp only [List.getElem?_toArray, List.getElem?_cons_zero, List.getElem?_cons_succ]; rfl) (by kernel_rfl) (by kernel_rfl) (by kernel_rfl) (fun _ _ _ h => h) (Or.inl ⟨by rfl, ?_⟩) HY6.out ?_
              case refine_2 => (intro ww hSw; obtain ⟨s1, s2, s3⟩ := hSw; go_simp; try with_reducible rfl)
              try simp only [Act.put, List.setIfInBounds_toArray, List.set_cons_zero, List.set_cons_succ]
              refine wpAnyH_ready (rs := [8]) (by kernel_rfl) (by simp) ?_
              refine AllReadyH.cons (by simp only [List.getElem?_toArray, List.getElem?_cons_zero, List.getElem?_cons_succ]; rfl) (fun K' hK => ?_) AllReadyH.nil
              go_simp
              have HY7 := Lib.hid (box3 ((Below.heap_setCell w5 ⟨w.heap.size + 2, 4, none⟩ (.slice o5 (ch.length + 1) c5) wr.heap.size (by show wr.heap.size ≠ w.heap.size + 2; omega)).trans HBX5.out)).1
              refine hK.out _ _ HY7.out (fun _ => ?_)
              clear hK
              try simp only [Act.put, List.setIfInBounds_toArray, List.set_cons_zero, List.set_cons_succ]
              refine wpAnyH_done (by kernel_rfl) ?_ _
              refine NoPanic.normal ?_
              go_wp2_with fail
              exact ⟨⟨k + 1, _, _, by omega, by go_num, HST5⟩, by simp [intOf]; omega⟩
        · obtain rfl : k = t.ts.length := by omega
          obtain ⟨ov, cv, rfl⟩ := ownsRow_shape hst.row
          have hlow := hst.low
          have hrow := hst.row
          have hkids := hst.kids
          have hterms := hst.terms
          rw [List.take_length] at hterms
          have hres : NdP (rkB L) (fun b => w.heap.size + 3 ≤ b) wr t.ts (.slice ov ch.length cv) := by
            rw [← hterms]
            exact NdP.ofRow hrow (fun b hb => hb) (fun c hc => (hkids c hc).carry fun b hb => ⟨rfl, hb.1⟩)
          obtain ⟨⟨x0, x1, x2, x3, x4⟩, f0, f1, f2, f3, f4⟩ := box5 hst.out
          obtain ⟨⟨y0, y1, y2, y3, y4⟩, g0, g1, g2, g3, g4⟩ := box5 hst.ret
          have HRET := Lib.hid hst.ret
          have HRES := Lib.hid hres
          have HLOW := Lib.hid hlow
          clear hst hlow hrow hkids hterms hres
          go_wp2_with fail
          have hq := box5_set HRET.out (.string t.nm) (.bool false) (.slice oa t.ts.length ca) (.int .i64 (rkOf L t.nm.data.toList)) (.slice ov ch.length cv)
          obtain ⟨⟨q0, q1, q2, q3, q4⟩, -⟩ := box5 hq
          have hbf := below_set5 HLOW.out (b := w.heap.size + 1) (by omega) (.string t.nm) (.bool false) (.slice oa t.ts.length ca) (.int .i64 (rkOf L t.nm.data.toList)) (.slice ov ch.length cv)
          refine bodyPost_ret (v := .agg #[.string t.nm, .bool false, .slice oa t.ts.length ca, .int .i64 (rkOf L t.nm.data.toList), .slice ov ch.length cv]) (by simp [results, Try.f55, go_sem, q0, q1, q2, q3, q4]) rfl ?_
          exact ⟨⟨_, _, _, _, by rw [HRK.out, hv]; rfl, HRES.out.carry fun b hb => ⟨heap_set5 _ _ _ _ _ _ _ _ (by omega), by omega⟩⟩, hbf⟩
end Go.Proofs.Ytdnkommcnkbeeaa
