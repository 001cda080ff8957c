/- Packed: Nfd, Als. -/
import Derived.WalkKit
import Derived.ProofKit
import Derived.OpenShut
import Derived.Handy
import Derived.Lib.Hide
import Derived.Deep.RegionHeld3
import Derived.Test.YtamddagmlanijaaGreatP20
import Derived.Test.YtamddagmlanijaaGreatP07
import Derived.Test.YtamddagmlanijaaGreatP19
import Derived.Test.YtamddagmlanijaaGreatP13
/- newFinder(r): for each rule, whether its left side is linear. -/
namespace Go.Proofs.YtamddagmlanijaaGreat
open Go.RowKit Go.Maps

def linVs (l : List RlV) : List Value := l.map fun p => .bool (linB p.1.1)
theorem infoBool : (Tryz.prog.info? 4).map (fun i => (i.zero, i.size, i.bytes)) = some (some (.bool false), 1, 1) := by kernel_rfl

/-- k rules being done -/
structure NfSt (w W : World) (rv lv : Value) (l : List RlV) (k : Nat) : Prop where
  rb : W.heap[w.heap.size]? = some (.cells #[.slice none 0 0, .slice none 0 0] 178 (0, 0))
  fb : W.heap[w.heap.size + 1]? = some (.cells #[rv, lv] 178 (0, 0))
  row : W.ownsRow (w.heap.size + 2) 4 1 lv k (linVs (l.take k))
  bl : Below w.heap.size w W
theorem NfSt.step {w W A B C : World} {rv lv v' : Value} {l : List RlV} {k : Nat} (st : NfSt w W rv lv l k) (hA : Below W.heap.size W A) (hm : More A B lv v' k) (hC : C = B.setCell ⟨w.heap.size + 1, 1, none⟩ v') {p : RlV} (hp : l[k]? = some p)
    (ho : B.ownsRow (w.heap.size + 2) 4 1 v' (k + 1) (linVs (l.take k) ++ [.bool (linB p.1.1)])) : NfSt w C rv v' l (k + 1) := by
  subst hC
  have hzA := hA.size
  have hzB := hm.frame.size
  have h0 := (Array.getElem?_eq_some_iff.1 st.rb).1
  have h1 := (Array.getElem?_eq_some_iff.1 st.fb).1
  have keep : ∀ b, b < w.heap.size + 2 → b < W.heap.size → B.heap[b]? = W.heap[b]? := fun b hb hbW =>
    (hm.frame.block b (by omega) (fun e => by have := (st.row.lt b e.symm).1; omega)).trans (hA.block b hbW)
  refine ⟨(Below.heap_setCell _ _ _ _ (by show _ ≠ w.heap.size + 1; omega)).trans ((keep _ (by omega) h0).trans st.rb), ?_, ?_, ?_⟩
  · have := set1 ((keep _ (by omega) h1).trans st.fb) 1 v'
    simpa using this
  · rw [show linVs (l.take (k + 1)) = linVs (l.take k) ++ [.bool (linB p.1.1)] by unfold linVs; rw [List.take_add_one, hp]; simp]
    exact ownsRow_setCell_below ho (by show w.heap.size + 1 < _; omega) _
  · exact ((st.bl.trans (hA.mono st.bl.size)).grown hm.frame (by have := st.bl.size; omega) (fun r e => by have := (st.row.lt r e).1; omega)).setCell (p := ⟨w.heap.size + 1, 1, none⟩) (by simp) _

set_option maxRecDepth 100000 in
set_option maxHeartbeats 4000000 in
theorem newFinder_any (l : List RlV) (rv : Value) (w : World) (hr : RulV w.heap.size w l rv) (hl : l.length ≤ 1048576) (hb : ∀ p ∈ l, p.1.1.bulk ≤ 1048576 ∧ p.1.1.depth ≤ 1048576) :
    Calls Tryz.prog 109 #[rv] w fun e w' => (∃ lv, e = .returned (.agg #[rv, lv]) ∧ w'.ownsRow w.heap.size 4 1 lv l.length (linVs l)) ∧ Below w.heap.size w w' := by
  obtain ⟨oa, cap, rfl⟩ := hr.shape
  obtain ⟨i3, hi2, hz2, hs2, hb2⟩ := info_parts infoBool
  have H2 := Lib.hid hi2
  have H3 := Lib.hid hz2
  have H4 := Lib.hid hs2
  have H5 := Lib.hid hb2
  clear hi2 hz2 hs2 hb2
  go_enter Tryz.func109, Tryz.ntmps109
  go_wp2_with fail
  have hst0 : NfSt w ((w.alloc (.cells #[.slice none 0 0, .slice none 0 0] 178)).alloc (.cells #[.slice oa l.length cap, .slice none 0 0] 178)) (.slice oa l.length cap) (.slice none 0 0) l 0 :=
    ⟨(Below.heap_alloc _ _ _ (by simp)).trans (heap_new_at _ _ _ rfl), heap_new_at _ _ _ (by simp), World.ownsRow_nil _ _ _ _, by go_grown⟩
  have HST0 := Lib.hid hst0
  clear hst0
  go_loopw [10] (fun i wr => ∃ (k : Nat) (lv : Value), k ≤ l.length ∧ i = .int .i64 k ∧ Hid (NfSt w wr (.slice oa l.length cap) lv l k)) (fun i _ => l.length - (intOf i).toNat)
  case atStart => exact ⟨0, _, by omega, rfl, HST0⟩
  case round =>
    obtain ⟨k, lv, hk, rfl, HST⟩ := hrel
    have hst := HST.out
    have hz := hst.bl.size
    have h1 := (Array.getElem?_eq_some_iff.1 hst.fb).1
    obtain ⟨lo, lc, rfl, -⟩ := ownsRow_formP hst.row
    by_cases hlt : k < l.length
    · obtain ⟨b, o, x, y, ox, oy, cx, cy, rfl, hbn, hp, hsx, hsy, c0, c1, c2, c3, c4, c5⟩ := (hr.carry hst.bl (Nat.le_refl _)).get hlt
      have hbb := hb _ (List.mem_of_getElem? hp)
      simp only at hbb
      have hf0 := cells_of hst.fb 0
      have hf1 := cells_of hst.fb 1
      simp only [List.getElem?_toArray, List.getElem?_cons_zero, List.getElem?_cons_succ] at hf0 hf1
      have HP := Lib.hid hp
      have HSX := Lib.hid hsx
      have HB := Lib.hid hbb
      clear hst hp hsx hsy hbb
      go_wp2_with fail
      have hbox := heap_new_at wr (.cells #[.string x.nm, .bool x.vr, .slice ox x.ts.length cx, .string y.nm, .bool y.vr, .slice oy y.ts.length cy] 75) _ rfl
      have HBOX := Lib.hid hbox
      have q0 := cells_of hbox 0
      have q1 := cells_of hbox 1
      have q2 := cells_of hbox 2
      simp only [List.getElem?_toArray, List.getElem?_cons_zero, List.getElem?_cons_succ] at q0 q1 q2
      have HYA : Hid ((wr.alloc (.cells #[.string x.nm, .bool x.vr, .slice ox x.ts.length cx, .string y.nm, .bool y.vr, .slice oy y.ts.length cy] 75)).drew.cell? ⟨wr.heap.size, 0, none⟩ = some (.string x.nm) ∧ (wr.alloc (.cells #[.string x.nm, .bool x.vr, .slice ox x.ts.length cx, .string y.nm, .bool y.vr, .slice oy y.ts.length cy] 75)).drew.cell? ⟨wr.heap.size, 1, none⟩ = some (.bool x.vr) ∧
        (wr.alloc (.cells #[.string x.nm, .bool x.vr, .slice ox x.ts.length cx, .string y.nm, .bool y.vr, .slice oy y.ts.length cy] 75)).drew.cell? ⟨wr.heap.size, 2, none⟩ = some (.slice ox x.ts.length cx)) := Lib.hid ⟨q0, q1, q2⟩
      have hBA : Below wr.heap.size wr (wr.alloc (.cells #[.string x.nm, .bool x.vr, .slice ox x.ts.length cx, .string y.nm, .bool y.vr, .slice oy y.ts.length cy] 75)).drew := ((Below.refl _ wr).alloc (Nat.le_refl _) _).drew
      have HBA := Lib.hid hBA
      clear hbox hBA q0 q1 q2
      refine wp_region_noPanic ?_
      refine wp_region_held_drew (S := fun w' => w'.cell? ⟨wr.heap.size, 0, none⟩ = some (.string x.nm) ∧ w'.cell? ⟨wr.heap.size, 1, none⟩ = some (.bool x.vr) ∧ w'.cell? ⟨wr.heap.size, 2, none⟩ = some (.slice ox x.ts.length cx)) (by kernel_rfl) HYA.out (fun _ => ?_)
      simp only [List.size_toArray, List.length_cons, List.length_nil, Nat.reduceAdd]
      refine wpAnyH_take (i := 0) (v := ?_) (by simp only [List.getElem?_toArray, List.getElem?_cons_zero]; rfl) (by kernel_rfl) (by kernel_rfl) (by kernel_rfl) (fun _ _ _ h => h) (Or.inl ⟨by rfl, ?_⟩) HYA.out ?_
      case refine_2 => (intro ww hSw; obtain ⟨s1, s2, s3⟩ := hSw; go_simp; try with_reducible rfl)
      try simp only [Act.put, List.setIfInBounds_toArray, List.set_cons_zero, List.set_cons_succ]
      refine wpAnyH_take (i := 2) (v := ?_) (by simp only [List.getElem?_toArray, List.getElem?_cons_zero, List.getElem?_cons_succ]; rfl) (by kernel_rfl) (by kernel_rfl) (by kernel_rfl) (fun _ _ _ h => h) (Or.inl ⟨by rfl, ?_⟩) HYA.out ?_
      case refine_2 => (intro ww hSw; obtain ⟨s1, s2, s3⟩ := hSw; go_simp; try with_reducible rfl)
      try simp only [Act.put, List.setIfInBounds_toArray, List.set_cons_zero, List.set_cons_succ]
      refine wpAnyH_take (i := 3) (v := ?_) (by simp only [List.getElem?_toArray, List.getElem?_cons_zero, List.getElem?_cons_succ]; rfl) (by kernel_rfl) (by kernel_rfl) (by kernel_rfl) (fun _ _ _ h => h) (Or.inl ⟨by rfl, ?_⟩) HYA.out ?_
      case refine_2 => (intro ww hSw; obtain ⟨s1, s2, s3⟩ := hSw; go_simp; try with_reducible rfl)
      try simp only [Act.put, List.setIfInBounds_toArray, List.set_cons_zero, List.set_cons_succ]
      refine wpAnyH_ready (rs := [1, 4]) (by kernel_rfl) (by simp) ?_
      refine AllReadyH.cons (by simp only [List.getElem?_toArray, List.getElem?_cons_zero, List.getElem?_cons_succ]; rfl) (fun K' hK => ?_) ?_
      · go_simp
        refine hK.out _ _ HYA.out (fun _ => ?_)
        clear hK
        try simp only [Act.put, List.setIfInBounds_toArray, List.set_cons_zero, List.set_cons_succ]
        refine wpAnyH_ready (rs := [4]) (by kernel_rfl) (by simp) ?_
        refine AllReadyH.cons (by simp only [List.getElem?_toArray, List.getElem?_cons_zero, List.getElem?_cons_succ]; rfl) (fun K' hK => ?_) AllReadyH.nil
        go_simp
        refine (isLinear_any x (.slice ox x.ts.length cx) _ (HSX.out.carry (HBA.out.mono (by omega)) (by have := HBA.out.size; omega)) HB.out.1 HB.out.2).mono ?_
        rintro e w4 ⟨rfl, hb4⟩
        have hbx4 := (hb4.block wr.heap.size (by simp [World.drew])).trans HBOX.out
        have q0 := cells_of hbx4 0
        have q1 := cells_of hbx4 1
        have q2 := cells_of hbx4 2
        simp only [List.getElem?_toArray, List.getElem?_cons_zero, List.getElem?_cons_succ] at q0 q1 q2
        have HY4 := Lib.hid (And.intro q0 (And.intro q1 q2))
        have HBX4 := Lib.hid hbx4
        have HB4 := Lib.hid ((HBA.out).trans (hb4.mono HBA.out.size))
        have hfb4 := ((HB4.out).block (w.heap.size + 1) h1).trans HST.out.fb
        have f0 := cells_of hfb4 0
        have f1 := cells_of hfb4 1
        simp only [List.getElem?_toArray, List.getElem?_cons_zero, List.getElem?_cons_succ] at f0 f1
        clear hb4 hbx4 q0 q1 q2 hfb4
        refine hK.out _ _ HY4.out (fun _ => ?_)
        clear hK
        try simp only [Act.put, List.setIfInBounds_toArray, List.set_cons_zero, List.set_cons_succ]
        refine wpAnyH_ready (rs := [5]) (by kernel_rfl) (by simp) ?_
        refine AllReadyH.cons (by simp only [List.getElem?_toArray, List.getElem?_cons_zero, List.getElem?_cons_succ]; rfl) (fun K' hK => ?_) AllReadyH.nil
        go_simp
        have hbx5 := (Below.heap_alloc w4 (.cells #[.bool (linB x)] 4) wr.heap.size (Array.getElem?_eq_some_iff.1 HBX4.out).1).trans HBX4.out
        have q0 := cells_of hbx5 0
        have q1 := cells_of hbx5 1
        have q2 := cells_of hbx5 2
        simp only [List.getElem?_toArray, List.getElem?_cons_zero, List.getElem?_cons_succ] at q0 q1 q2
        have HY5 := Lib.hid (And.intro q0 (And.intro q1 q2))
        have HBX5 := Lib.hid hbx5
        have HB5 := Lib.hid (show Below wr.heap.size wr (w4.alloc (.cells #[.bool (linB x)] 4)) from HB4.out.alloc HB4.out.size _)
        have hfb5 := ((HB5.out).block (w.heap.size + 1) h1).trans HST.out.fb
        have f0 := cells_of hfb5 0
        have f1 := cells_of hfb5 1
        simp only [List.getElem?_toArray, List.getElem?_cons_zero, List.getElem?_cons_succ] at f0 f1
        clear hbx5 q0 q1 q2 hfb5
        refine hK.out _ _ HY5.out (fun _ => ?_)
        clear hK
        try simp only [Act.put, List.setIfInBounds_toArray, List.set_cons_zero, List.set_cons_succ]
        refine wpAnyH_ready (rs := [6]) (by kernel_rfl) (by simp) ?_
        refine AllReadyH.cons (by simp only [List.getElem?_toArray, List.getElem?_cons_zero, List.getElem?_cons_succ]; rfl) (fun K' hK => ?_) AllReadyH.nil
        refine step_append_more rfl _ _ 176 rfl 4 i3 (.bool false) 1 Tryz.underlying176 H2.out H3.out H4.out H5.out rfl (w.heap.size + 2) (.slice lo k lc) k (linVs (l.take k)) rfl (HST.out.row.kept (below_grown HB5.out) (by cases (Value.slice lo k lc).ownBlock <;> simp)) ⟨w4.heap.size, 0, none⟩ 1 (.bool (linB x)) rfl (cell_new_at _ _ _ _ _ (by simp)) rfl (by unfold maxLen; omega) (by omega) (by have := HB5.out.size; omega) ?_
        intro v6 w6 ho6 hm6
        have hbx6 := (hm6.frame.block wr.heap.size (by have := (Array.getElem?_eq_some_iff.1 HBX5.out).1; omega) (fun e => by have := (HST.out.row.lt _ e.symm).2; omega)).trans HBX5.out
        have q0 := cells_of hbx6 0
        have q1 := cells_of hbx6 1
        have q2 := cells_of hbx6 2
        simp only [List.getElem?_toArray, List.getElem?_cons_zero, List.getElem?_cons_succ] at q0 q1 q2
        have HY6 := Lib.hid (And.intro q0 (And.intro q1 q2))
        have HBX6 := Lib.hid hbx6
        have hfb6 := (hm6.frame.block (w.heap.size + 1) (by have := HB5.out.size; omega) (fun e => by have := (HST.out.row.lt _ e.symm).1; omega)).trans (((HB5.out).block (w.heap.size + 1) h1).trans HST.out.fb)
        have f0 := cells_of hfb6 0
        have f1 := cells_of hfb6 1
        simp only [List.getElem?_toArray, List.getElem?_cons_zero, List.getElem?_cons_succ] at f0 f1
        have g1 : w6.frozen? ⟨w.heap.size + 1, 1, none⟩ = false := by simp [World.frozen?, hfb6]
        obtain ⟨vo6, vc6, rfl, -⟩ := ownsRow_formP ho6
        have HO6 := Lib.hid ho6
        have HM6 := Lib.hid hm6
        clear ho6 hm6 hbx6 hfb6 q0 q1 q2
        refine hK.out _ _ HY6.out (fun _ => ?_)
        clear hK
        try simp only [Act.put, List.setIfInBounds_toArray, List.set_cons_zero, List.set_cons_succ]
        refine wpAnyH_take (i := 7) (v := ?_) (by simp only [List.getElem?_toArray, List.getElem?_cons_zero, List.getElem?_cons_succ]; rfl) (by kernel_rfl) (by kernel_rfl) (by kernel_rfl) (fun _ _ _ h => h) (Or.inl ⟨by rfl, ?_⟩) HY6.out ?_
        case refine_2 => (intro ww hSw; obtain ⟨s1, s2, s3⟩ := hSw; go_simp; try with_reducible rfl)
        try simp only [Act.put, List.setIfInBounds_toArray, List.set_cons_zero, List.set_cons_succ]
        refine wpAnyH_ready (rs := [8]) (by kernel_rfl) (by simp) ?_
        refine AllReadyH.cons (by simp only [List.getElem?_toArray, List.getElem?_cons_zero, List.getElem?_cons_succ]; rfl) (fun K' hK => ?_) AllReadyH.nil
        go_simp
        have hbx7 := (Below.heap_setCell w6 ⟨w.heap.size + 1, 1, none⟩ (.slice vo6 (k + 1) vc6) wr.heap.size (by show wr.heap.size ≠ w.heap.size + 1; omega)).trans HBX6.out
        have q0 := cells_of hbx7 0
        have q1 := cells_of hbx7 1
        have q2 := cells_of hbx7 2
        simp only [List.getElem?_toArray, List.getElem?_cons_zero, List.getElem?_cons_succ] at q0 q1 q2
        have HY7 := Lib.hid (And.intro q0 (And.intro q1 q2))
        clear hbx7 q0 q1 q2
        refine hK.out _ _ HY7.out (fun _ => ?_)
        clear hK
        try simp only [Act.put, List.setIfInBounds_toArray, List.set_cons_zero, List.set_cons_succ]
        refine wpAnyH_done (by kernel_rfl) ?_ _
        refine NoPanic.normal ?_
        have HST4 := Lib.hid (HST.out.step HB5.out HM6.out rfl HP.out HO6.out)
        go_wp2_with fail
        exact ⟨⟨k + 1, _, by omega, by push_cast; rfl, HST4⟩, by simp only [intOf]; omega⟩
      · refine AllReadyH.cons (by simp only [List.getElem?_toArray, List.getElem?_cons_zero, List.getElem?_cons_succ]; rfl) (fun K' hK => ?_) AllReadyH.nil
        go_simp
        refine (isLinear_any x (.slice ox x.ts.length cx) _ (HSX.out.carry (HBA.out.mono (by omega)) (by have := HBA.out.size; omega)) HB.out.1 HB.out.2).mono ?_
        rintro e w4 ⟨rfl, hb4⟩
        have hbx4 := (hb4.block wr.heap.size (by simp [World.drew])).trans HBOX.out
        have q0 := cells_of hbx4 0
        have q1 := cells_of hbx4 1
        have q2 := cells_of hbx4 2
        simp only [List.getElem?_toArray, List.getElem?_cons_zero, List.getElem?_cons_succ] at q0 q1 q2
        have HY4 := Lib.hid (And.intro q0 (And.intro q1 q2))
        have HBX4 := Lib.hid hbx4
        have HB4 := Lib.hid ((HBA.out).trans (hb4.mono HBA.out.size))
        have hfb4 := ((HB4.out).block (w.heap.size + 1) h1).trans HST.out.fb
        have f0 := cells_of hfb4 0
        have f1 := cells_of hfb4 1
        simp only [List.getElem?_toArray, List.getElem?_cons_zero, List.getElem?_cons_succ] at f0 f1
        clear hb4 hbx4 q0 q1 q2 hfb4
        refine hK.out _ _ HY4.out (fun _ => ?_)
        clear hK
        try simp only [Act.put, List.setIfInBounds_toArray, List.set_cons_zero, List.set_cons_succ]
        refine wpAnyH_ready (rs := [1, 5]) (by kernel_rfl) (by simp) ?_
        refine AllReadyH.cons (by simp only [List.getElem?_toArray, List.getElem?_cons_zero, List.getElem?_cons_succ]; rfl) (fun K' hK => ?_) ?_
        · go_simp
          refine hK.out _ _ HY4.out (fun _ => ?_)
          clear hK
          try simp only [Act.put, List.setIfInBounds_toArray, List.set_cons_zero, List.set_cons_succ]
          refine wpAnyH_ready (rs := [5]) (by kernel_rfl) (by simp) ?_
          refine AllReadyH.cons (by simp only [List.getElem?_toArray, List.getElem?_cons_zero, List.getElem?_cons_succ]; rfl) (fun K' hK => ?_) AllReadyH.nil
          go_simp
          have hbx5 := (Below.heap_alloc w4 (.cells #[.bool (linB x)] 4) wr.heap.size (Array.getElem?_eq_some_iff.1 HBX4.out).1).trans HBX4.out
          have q0 := cells_of hbx5 0
          have q1 := cells_of hbx5 1
          have q2 := cells_of hbx5 2
          simp only [List.getElem?_toArray, List.getElem?_cons_zero, List.getElem?_cons_succ] at q0 q1 q2
          have HY5 := Lib.hid (And.intro q0 (And.intro q1 q2))
          have HBX5 := Lib.hid hbx5
          have HB5 := Lib.hid (show Below wr.heap.size wr (w4.alloc (.cells #[.bool (linB x)] 4)) from HB4.out.alloc HB4.out.size _)
          have hfb5 := ((HB5.out).block (w.heap.size + 1) h1).trans HST.out.fb
          have f0 := cells_of hfb5 0
          have f1 := cells_of hfb5 1
          simp only [List.getElem?_toArray, List.getElem?_cons_zero, List.getElem?_cons_succ] at f0 f1
          clear hbx5 q0 q1 q2 hfb5
          refine hK.out _ _ HY5.out (fun _ => ?_)
          clear hK
          try simp only [Act.put, List.setIfInBounds_toArray, List.set_cons_zero, List.set_cons_succ]
          refine wpAnyH_ready (rs := [6]) (by kernel_rfl) (by simp) ?_
          refine AllReadyH.cons (by simp only [List.getElem?_toArray, List.getElem?_cons_zero, List.getElem?_cons_succ]; rfl) (fun K' hK => ?_) AllReadyH.nil
          refine step_append_more rfl _ _ 176 rfl 4 i3 (.bool false) 1 Tryz.underlying176 H2.out H3.out H4.out H5.out rfl (w.heap.size + 2) (.slice lo k lc) k (linVs (l.take k)) rfl (HST.out.row.kept (below_grown HB5.out) (by cases (Value.slice lo k lc).ownBlock <;> simp)) ⟨w4.heap.size, 0, none⟩ 1 (.bool (linB x)) rfl (cell_new_at _ _ _ _ _ (by simp)) rfl (by unfold maxLen; omega) (by omega) (by have := HB5.out.size; omega) ?_
          intro v6 w6 ho6 hm6
          have hbx6 := (hm6.frame.block wr.heap.size (by have := (Array.getElem?_eq_some_iff.1 HBX5.out).1; omega) (fun e => by have := (HST.out.row.lt _ e.symm).2; omega)).trans HBX5.out
          have q0 := cells_of hbx6 0
          have q1 := cells_of hbx6 1
          have q2 := cells_of hbx6 2
          simp only [List.getElem?_toArray, List.getElem?_cons_zero, List.getElem?_cons_succ] at q0 q1 q2
          have HY6 := Lib.hid (And.intro q0 (And.intro q1 q2))
          have HBX6 := Lib.hid hbx6
          have hfb6 := (hm6.frame.block (w.heap.size + 1) (by have := HB5.out.size; omega) (fun e => by have := (HST.out.row.lt _ e.symm).1; omega)).trans (((HB5.out).block (w.heap.size + 1) h1).trans HST.out.fb)
          have f0 := cells_of hfb6 0
          have f1 := cells_of hfb6 1
          simp only [List.getElem?_toArray, List.getElem?_cons_zero, List.getElem?_cons_succ] at f0 f1
          have g1 : w6.frozen? ⟨w.heap.size + 1, 1, none⟩ = false := by simp [World.frozen?, hfb6]
          obtain ⟨vo6, vc6, rfl, -⟩ := ownsRow_formP ho6
          have HO6 := Lib.hid ho6
          have HM6 := Lib.hid hm6
          clear ho6 hm6 hbx6 hfb6 q0 q1 q2
          refine hK.out _ _ HY6.out (fun _ => ?_)
          clear hK
          try simp only [Act.put, List.setIfInBounds_toArray, List.set_cons_zero, List.set_cons_succ]
          refine wpAnyH_take (i := 7) (v := ?_) (by simp only [List.getElem?_toArray, List.getElem?_cons_zero, List.getElem?_cons_succ]; rfl) (by kernel_rfl) (by kernel_rfl) (by kernel_rfl) (fun _ _ _ h => h) (Or.inl ⟨by rfl, ?_⟩) HY6.out ?_
          case refine_2 => (intro ww hSw; obtain ⟨s1, s2, s3⟩ := hSw; go_simp; try with_reducible rfl)
          try simp only [Act.put, List.setIfInBounds_toArray, List.set_cons_zero, List.set_cons_succ]
          refine wpAnyH_ready (rs := [8]) (by kernel_rfl) (by simp) ?_
          refine AllReadyH.cons (by simp only [List.getElem?_toArray, List.getElem?_cons_zero, List.getElem?_cons_succ]; rfl) (fun K' hK => ?_) AllReadyH.nil
          go_simp
          have hbx7 := (Below.heap_setCell w6 ⟨w.heap.size + 1, 1, none⟩ (.slice vo6 (k + 1) vc6) wr.heap.size (by show wr.heap.size ≠ w.heap.size + 1; omega)).trans HBX6.out
          have q0 := cells_of hbx7 0
          have q1 := cells_of hbx7 1
          have q2 := cells_of hbx7 2
          simp only [List.getElem?_toArray, List.getElem?_cons_zero, List.getElem?_cons_succ] at q0 q1 q2
          have HY7 := Lib.hid (And.intro q0 (And.intro q1 q2))
          clear hbx7 q0 q1 q2
          refine hK.out _ _ HY7.out (fun _ => ?_)
          clear hK
          try simp only [Act.put, List.setIfInBounds_toArray, List.set_cons_zero, List.set_cons_succ]
          refine wpAnyH_done (by kernel_rfl) ?_ _
          refine NoPanic.normal ?_
          have HST4 := Lib.hid (HST.out.step HB5.out HM6.out rfl HP.out HO6.out)
          go_wp2_with fail
          exact ⟨⟨k + 1, _, by omega, by push_cast; rfl, HST4⟩, by simp only [intOf]; omega⟩
        · refine AllReadyH.cons (by simp only [List.getElem?_toArray, List.getElem?_cons_zero, List.getElem?_cons_succ]; rfl) (fun K' hK => ?_) AllReadyH.nil
          go_simp
          have hbx5 := (Below.heap_alloc w4 (.cells #[.bool (linB x)] 4) wr.heap.size (Array.getElem?_eq_some_iff.1 HBX4.out).1).trans HBX4.out
          have q0 := cells_of hbx5 0
          have q1 := cells_of hbx5 1
          have q2 := cells_of hbx5 2
          simp only [List.getElem?_toArray, List.getElem?_cons_zero, List.getElem?_cons_succ] at q0 q1 q2
          have HY5 := Lib.hid (And.intro q0 (And.intro q1 q2))
          have HBX5 := Lib.hid hbx5
          have HB5 := Lib.hid (show Below wr.heap.size wr (w4.alloc (.cells #[.bool (linB x)] 4)) from HB4.out.alloc HB4.out.size _)
          have hfb5 := ((HB5.out).block (w.heap.size + 1) h1).trans HST.out.fb
          have f0 := cells_of hfb5 0
          have f1 := cells_of hfb5 1
          simp only [List.getElem?_toArray, List.getElem?_cons_zero, List.getElem?_cons_succ] at f0 f1
          clear hbx5 q0 q1 q2 hfb5
          refine hK.out _ _ HY5.out (fun _ => ?_)
          clear hK
          try simp only [Act.put, List.setIfInBounds_toArray, List.set_cons_zero, List.set_cons_succ]
          refine wpAnyH_ready (rs := [1]) (by kernel_rfl) (by simp) ?_
          refine AllReadyH.cons (by simp only [List.getElem?_toArray, List.getElem?_cons_zero, List.getElem?_cons_succ]; rfl) (fun K' hK => ?_) AllReadyH.nil
          go_simp
          refine hK.out _ _ HY5.out (fun _ => ?_)
          clear hK
          try simp only [Act.put, List.setIfInBounds_toArray, List.set_cons_zero, List.set_cons_succ]
          refine wpAnyH_ready (rs := [6]) (by kernel_rfl) (by simp) ?_
          refine AllReadyH.cons (by simp only [List.getElem?_toArray, List.getElem?_cons_zero, List.getElem?_cons_succ]; rfl) (fun K' hK => ?_) AllReadyH.nil
          refine step_append_more rfl _ _ 176 rfl 4 i3 (.bool false) 1 Tryz.underlying176 H2.out H3.out H4.out H5.out rfl (w.heap.size + 2) (.slice lo k lc) k (linVs (l.take k)) rfl (HST.out.row.kept (below_grown HB5.out) (by cases (Value.slice lo k lc).ownBlock <;> simp)) ⟨w4.heap.size, 0, none⟩ 1 (.bool (linB x)) rfl (cell_new_at _ _ _ _ _ (by simp)) rfl (by unfold maxLen; omega) (by omega) (by have := HB5.out.size; omega) ?_
          intro v6 w6 ho6 hm6
          have hbx6 := (hm6.frame.block wr.heap.size (by have := (Array.getElem?_eq_some_iff.1 HBX5.out).1; omega) (fun e => by have := (HST.out.row.lt _ e.symm).2; omega)).trans HBX5.out
          have q0 := cells_of hbx6 0
          have q1 := cells_of hbx6 1
          have q2 := cells_of hbx6 2
          simp only [List.getElem?_toArray, List.getElem?_cons_zero, List.getElem?_cons_succ] at q0 q1 q2
          have HY6 := Lib.hid (And.intro q0 (And.intro q1 q2))
          have HBX6 := Lib.hid hbx6
          have hfb6 := (hm6.frame.block (w.heap.size + 1) (by have := HB5.out.size; omega) (fun e => by have := (HST.out.row.lt _ e.symm).1; omega)).trans (((HB5.out).block (w.heap.size + 1) h1).trans HST.out.fb)
          have f0 := cells_of hfb6 0
          have f1 := cells_of hfb6 1
          simp only [List.getElem?_toArray, List.getElem?_cons_zero, List.getElem?_cons_succ] at f0 f1
          have g1 : w6.frozen? ⟨w.heap.size + 1, 1, none⟩ = false := by simp [World.frozen?, hfb6]
          obtain ⟨vo6, vc6, rfl, -⟩ := ownsRow_formP ho6
          have HO6 := Lib.hid ho6
          have HM6 := Lib.hid hm6
          clear ho6 hm6 hbx6 hfb6 q0 q1 q2
          refine hK.out _ _ HY6.out (fun _ => ?_)
          clear hK
          try simp only [Act.put, List.setIfInBounds_toArray, List.set_cons_zero, List.set_cons_succ]
          refine wpAnyH_take (i := 7) (v := ?_) (by simp only [List.getElem?_toArray, List.getElem?_cons_zero, List.getElem?_cons_succ]; rfl) (by kernel_rfl) (by kernel_rfl) (by kernel_rfl) (fun _ _ _ h => h) (Or.inl ⟨by rfl, ?_⟩) HY6.out ?_
          case refine_2 => (intro ww hSw; obtain ⟨s1, s2, s3⟩ := hSw; go_simp; try with_reducible rfl)
          try simp only [Act.put, List.setIfInBounds_toArray, List.set_cons_zero, List.set_cons_succ]
          refine wpAnyH_ready (rs := [8]) (by kernel_rfl) (by simp) ?_
          refine AllReadyH.cons (by simp only [List.getElem?_toArray, List.getElem?_cons_zero, List.getElem?_cons_succ]; rfl) (fun K' hK => ?_) AllReadyH.nil
          go_simp
          have hbx7 := (Below.heap_setCell w6 ⟨w.heap.size + 1, 1, none⟩ (.slice vo6 (k + 1) vc6) wr.heap.size (by show wr.heap.size ≠ w.heap.size + 1; omega)).trans HBX6.out
          have q0 := cells_of hbx7 0
          have q1 := cells_of hbx7 1
          have q2 := cells_of hbx7 2
          simp only [List.getElem?_toArray, List.getElem?_cons_zero, List.getElem?_cons_succ] at q0 q1 q2
          have HY7 := Lib.hid (And.intro q0 (And.intro q1 q2))
          clear hbx7 q0 q1 q2
          refine hK.out _ _ HY7.out (fun _ => ?_)
          clear hK
          try simp only [Act.put, List.setIfInBounds_toArray, List.set_cons_zero, List.set_cons_succ]
          refine wpAnyH_done (by kernel_rfl) ?_ _
          refine NoPanic.normal ?_
          have HST4 := Lib.hid (HST.out.step HB5.out HM6.out rfl HP.out HO6.out)
          go_wp2_with fail
          exact ⟨⟨k + 1, _, by omega, by push_cast; rfl, HST4⟩, by simp only [intOf]; omega⟩
    · obtain rfl : k = l.length := by omega
      have f0 := cells_of hst.fb 0
      have f1 := cells_of hst.fb 1
      have r0 := cells_of hst.rb 0
      have r1 := cells_of hst.rb 1
      simp only [List.getElem?_toArray, List.getElem?_cons_zero, List.getElem?_cons_succ] at f0 f1 r0 r1
      have g0 : wr.frozen? ⟨w.heap.size, 0, none⟩ = false := by simp [World.frozen?, hst.rb]
      have g1 : wr.frozen? ⟨w.heap.size, 1, none⟩ = false := by simp [World.frozen?, hst.rb]
      clear hst
      have HST2 := HST
      go_wp2_with fail
      have hst := HST2.out
      have e1 := set1 (set1 hst.rb 0 (.slice oa l.length cap)) 1 (.slice lo l.length lc)
      have r0 := cells_of e1 0
      have r1 := cells_of e1 1
      simp only [List.getElem?_toArray, List.setIfInBounds_toArray, List.set_cons_zero, List.set_cons_succ, List.getElem?_cons_zero, List.getElem?_cons_succ] at r0 r1
      refine bodyPost_ret (v := .agg #[.slice oa l.length cap, .slice lo l.length lc]) (by simp [results, Tryz.f109, go_sem, r0, r1]) rfl ?_
      have hrow := hst.row
      rw [List.take_length] at hrow
      refine ⟨⟨_, rfl, ?_⟩, (hst.bl.setCell (p := ⟨w.heap.size, 0, none⟩) (by simp) _).setCell (p := ⟨w.heap.size, 1, none⟩) (by simp) _⟩
      exact ownsRow_mono (ownsRow_setCell_below (ownsRow_setCell_below hrow (by show w.heap.size < _; omega) _) (by show w.heap.size < _; omega) _) (by omega)
end Go.Proofs.YtamddagmlanijaaGreat
/- applies: does a rule apply at the root of a term? -/
namespace Go.Proofs.YtamddagmlanijaaGreat
open Go.RowKit

/-- does a rule with the left side p apply at u? -/
noncomputable def appl (p u : Tm) : Bool := p.shape u && (linB p || (mtc p [] u).isSome)

set_option maxRecDepth 100000 in
set_option maxHeartbeats 2000000 in
theorem applies_any (l : List RlV) (rv lv : Value) (m k : Nat) (p : RlV) (u : Tm) (su : Value) (w : World) (hr : RulV w.heap.size w l rv) (hrow : w.ownsRow m 4 1 lv l.length (linVs l)) (hp : l[k]? = some p) (hs : SlIs w.heap.size w u.ts su)
    (hpo : p.1.1.ok) (huo : u.ok) (hpb : p.1.1.bulk ≤ 1048576) (hub : u.bulk ≤ 1048576) :
    Calls Tryz.prog 246 #[.agg #[rv, lv], .int .i64 k, tmv u su] w fun e w' => e = .returned (.bool (appl p.1.1 u)) ∧ Below w.heap.size w w' := by
  obtain ⟨ou, cu, rfl, -⟩ := hs.form
  obtain ⟨oa, cap, rfl⟩ := hr.shape
  obtain ⟨lo, lc, rfl, hlo⟩ := ownsRow_formP hrow
  have hk : k < l.length := (List.getElem?_eq_some_iff.1 hp).1
  obtain ⟨b, o, x, y, ox, oy, cx, cy, rfl, hbn, hp2, hsx, hsy, c0, c1, c2, c3, c4, c5⟩ := hr.get hk
  obtain rfl := Option.some.inj (hp.symm.trans hp2)
  simp only at hpo hpb ⊢
  obtain ⟨gl, hgl⟩ : ∃ gl, lo = some ⟨gl, 0, none⟩ := by
    rcases hrow.2 with ⟨h, h2⟩ | ⟨g, cp, cur, h, _⟩
    · omega
    · exact ⟨g, by cases h; rfl⟩
  subst hgl
  have hlb := (hrow.lt gl rfl)
  have hlc : w.cell? ⟨gl, k, none⟩ = some (.bool (linB x)) := by
    have := hrow.cells (g := gl) rfl k (.bool (linB x)) (by simp [linVs, hp])
    have e : (⟨gl, 0, none⟩ : Addr).add k = ⟨gl, k, none⟩ := by unfold Addr.add; split <;> simp_all
    rwa [e] at this
  have HSX := Lib.hid hsx
  have HS := Lib.hid hs
  have HPO := Lib.hid hpo
  have HUO := Lib.hid huo
  have HA : Hid (appl x u = (x.shape u && (linB x || (mtc x [] u).isSome))) := Lib.hid rfl
  clear hr hrow hp hp2 hs hsx hsy hpo huo hlo
  go_enter Tryz.func246, Tryz.ntmps246
  rw [show tmv u (.slice ou u.ts.length cu) = .agg #[.string u.nm, .bool u.vr, .slice ou u.ts.length cu] from rfl]
  go_wp2_with fail
  have hB : Below w.heap.size w (((w.alloc (.cells #[.slice (some ⟨b, o, none⟩) l.length cap, .slice (some ⟨gl, 0, none⟩) l.length lc] 178)).alloc (.cells #[.string u.nm, .bool u.vr, .slice ou u.ts.length cu] 25)).alloc (.cells #[.string x.nm, .bool x.vr, .slice ox x.ts.length cx] 25)) := by go_grown
  refine (hasShape_any x u (.slice ox x.ts.length cx) (.slice ou u.ts.length cu) _ (HSX.out.carry hB hB.size) (HS.out.carry hB hB.size) hpb hub).mono ?_
  rintro e w1 ⟨rfl, hb1⟩
  have HB1 : Hid (Below w.heap.size w w1) := Lib.hid (hB.trans (hb1.mono (by simp; omega)))
  have hxb := (hb1.block (w.heap.size + 1 + 1) (by simp <;> omega)).trans (heap_new_at _ (.cells #[.string x.nm, .bool x.vr, .slice ox x.ts.length cx] 25) _ (by simp))
  have hub1 := (hb1.block (w.heap.size + 1) (by simp <;> omega)).trans ((Below.heap_alloc _ _ _ (by simp <;> omega)).trans (heap_new_at _ (.cells #[.string u.nm, .bool u.vr, .slice ou u.ts.length cu] 25) _ (by simp)))
  have hfb := (hb1.block w.heap.size (by simp <;> omega)).trans ((Below.heap_alloc _ _ _ (by simp <;> omega)).trans ((Below.heap_alloc _ _ _ (by simp <;> omega)).trans (heap_new_at _ (.cells #[.slice (some ⟨b, o, none⟩) l.length cap, .slice (some ⟨gl, 0, none⟩) l.length lc] 178) _ rfl)))
  obtain ⟨⟨x0, x1, x2⟩, -⟩ := box3 hxb
  obtain ⟨⟨u0, u1, u2⟩, -⟩ := box3 hub1
  have f0 := cells_of hfb 0
  have f1 := cells_of hfb 1
  simp only [List.getElem?_toArray, List.getElem?_cons_zero, List.getElem?_cons_succ] at f0 f1
  have l0 := (HB1.out.cell (p := ⟨gl, k, none⟩) hlb.2).trans hlc
  have HSX1 := Lib.hid (HSX.out.carry HB1.out HB1.out.size)
  have HS1 := Lib.hid (HS.out.carry HB1.out HB1.out.size)
  clear hb1 hB hxb hub1 hfb hlc
  cases hsh : x.shape u
  · rw [hsh, Bool.false_and] at HA
    clear hsh
    go_wp2_with fail
    go_ret
    rw [HA.out]
    exact ⟨rfl, HB1.out⟩
  · rw [hsh, Bool.true_and] at HA
    clear hsh
    cases hln : linB x
    · rw [hln] at l0 HA
      rw [Bool.false_or] at HA
      clear hln
      go_wp2_with fail
      refine (umatch_any x u (.slice ox x.ts.length cx) (.slice ou u.ts.length cu) _ HSX1.out HS1.out hpb hub).mono ?_
      rintro e w3 ⟨⟨c3, b3, v3, rfl, hm3⟩, hb3⟩
      obtain ⟨hc3, hyes, -⟩ := hm3
      obtain rfl : c3 = 0 := hc3.2 ⟨HPO.out, HUO.out⟩
      have HB3 := Lib.hid (HB1.out.trans (hb3.mono HB1.out.size))
      have HR : Hid ((mtc x [] u).isSome = b3) := Lib.hid (by
        rcases hyes rfl with ⟨rfl, m, hm, -, -⟩ | ⟨rfl, hm, -⟩
        · rw [hm]; rfl
        · rw [hm]; rfl)
      clear hc3 hyes hb3
      go_wp2_with fail
      go_ret
      rw [HA.out, HR.out]
      exact ⟨rfl, HB3.out⟩
    · rw [hln] at l0 HA
      rw [Bool.true_or] at HA
      clear hln
      go_wp2_with fail
      go_ret
      rw [HA.out]
      exact ⟨rfl, HB1.out⟩
end Go.Proofs.YtamddagmlanijaaGreat
