/- Packed: Wck, Frx. -/
import Derived.Test.YtnomppdmhgefiaaGreatF17
import Derived.Test.YtnomppdmhgefiaaGreatF19
import Derived.Test.YtnomppdmhgefiaaGreatF13
/- Package weight and its reference: Check. -/
namespace Go.Proofs.YtnomppdmhgefiaaGreat
open Go.RowKit Go.Shelf

theorem WtOk.not_len {L : List Rk} {u : Int} (h : 256 < L.length) : ¬ WtOk L u := fun k => by have := k.len; omega
theorem WtOk.not_unit {L : List Rk} {u : Int} (h : u < 1 ∨ 1000 < u) : ¬ WtOk L u := fun k => by have := k.unit; omega
theorem WtOk.not_rk {L : List Rk} {u : Int} {p : Rk} (hp : p ∈ L) (h : ¬ (0 ≤ p.2.1 ∧ p.2.1 ≤ 1000 ∧ 0 ≤ p.2.2 ∧ p.2.2 ≤ 1000)) : ¬ WtOk L u := fun k => h (k.rks p hp)
/-- how a check answers -/
def CkPost (L : List Rk) (u : Int) (e : Ending) : Prop := ∃ c : Int, e = .returned (.int .i64 c) ∧ (c = 0 ↔ WtOk L u)
theorem CkPost.bad {L : List Rk} {u c : Int} (h : ¬ WtOk L u) (hc : c ≠ 0) : CkPost L u (.returned (.int .i64 c)) := ⟨c, rfl, fun e => absurd e hc, fun e => absurd e h⟩
theorem CkPost.good {L : List Rk} {u : Int} (h : WtOk L u) : CkPost L u (.returned (.int .i64 0)) := ⟨0, rfl, fun _ => h, fun _ => rfl⟩
set_option maxRecDepth 100000 in
set_option maxHeartbeats 8000000 in
theorem wCheck_any (l : List Rk) (u : Int) (v : Value) (w : World) (hl : RksIs w.heap.size w l v) (hb : rkBulk l ≤ 1048576) :
    Calls Tryz.prog 66 #[v, .int .i64 u] w fun e w' => CkPost l u e ∧ Below w.heap.size w w' := by
  obtain ⟨oa, cap, rfl, hcap, hc⟩ := hl
  have HC := Lib.hid hc
  have hlen := Nat.le_trans (rkBulk_len l) hb
  have HNL : Hid (∀ p ∈ l, p.1.length ≤ 1048576) := Lib.hid fun p hp => by have := rkBulk_mem hp; omega
  clear hc hb
  go_enter Tryz.func66, Tryz.ntmps66
  by_cases h256 : 256 < l.length
  · have hd : decide ((256 : Int) < (l.length : Int)) = true := decide_eq_true (by omega)
    have HE := Lib.hid (WtOk.not_len (u := u) h256)
    clear h256
    go_wp2_with fail
    go_ret
    exact ⟨CkPost.bad HE.out (by omega), Below.refl _ _⟩
  have hd : decide ((256 : Int) < (l.length : Int)) = false := decide_eq_false (by omega)
  go_wp2_with fail
  go_loopw [14] (fun i wr => ∃ k : Nat, k ≤ l.length ∧ i = .int .i64 k ∧ Hid (NmsTo l k) ∧ Hid (Below w.heap.size w wr)) (fun i _ => l.length - (intOf i).toNat)
  case atStart => exact ⟨0, by omega, rfl, Lib.hid (fun i p hi => absurd hi (by omega)), Lib.hid (Below.refl _ _)⟩
  case round =>
    obtain ⟨k, hk, rfl, HN, HBW⟩ := hrel
    by_cases hlt : k < l.length
    · obtain ⟨p, hp⟩ : ∃ p, l[k]? = some p := ⟨_, List.getElem?_eq_getElem hlt⟩
      obtain ⟨b1, o1, rfl, hbn, hc1⟩ := HC.out (by rintro rfl; simp at hlt)
      obtain ⟨c0, c1, c2⟩ := hc1 k p hp
      have c0 := (HBW.out.cell (p := ⟨b1, _, none⟩) hbn).trans c0
      have c1 := (HBW.out.cell (p := ⟨b1, _, none⟩) hbn).trans c1
      have c2 := (HBW.out.cell (p := ⟨b1, _, none⟩) hbn).trans c2
      have HP := Lib.hid hp
      have hsz : (kb p.1).size ≤ 1048576 := HNL.out p (List.mem_of_getElem? hp)
      have HC1 := Lib.hid hc1
      have HX : Hid ((wr.alloc (.cells #[.string (kb p.1), .int .i64 p.2.1, .int .i64 p.2.2] 137)).drew.cell? ⟨wr.heap.size, 0, none⟩ = some (.string (kb p.1))) := Lib.hid (box3 (heap_new_at wr (.cells #[.string (kb p.1), .int .i64 p.2.1, .int .i64 p.2.2] 137) _ rfl)).1.1
      have HBX : Hid (Below w.heap.size w (wr.alloc (.cells #[.string (kb p.1), .int .i64 p.2.1, .int .i64 p.2.2] 137))) := Lib.hid (HBW.out.alloc HBW.out.size _)
      clear hc1 hp
      go_wp2_with fail
      cases hn : isName (kb p.1) true
      · have HN0 : Hid (¬ WtOk l u) := Lib.hid fun h => by have := (h.nms k p HP.out).1; rw [hn] at this; cases this
        refine wp_region_noPanic ?_
        refine wp_region_held_drew (S := fun w' => w'.cell? ⟨wr.heap.size, 0, none⟩ = some (.string (kb p.1))) (by kernel_rfl) HX.out (fun _ => ?_)
        simp only [List.size_toArray, List.length_cons, List.length_nil, Nat.reduceAdd]
        refine wpAnyH_take (i := 0) (v := ?_) (by simp only [List.getElem?_toArray, List.getElem?_cons_zero]; rfl) (by kernel_rfl) (by kernel_rfl) (by kernel_rfl) (fun _ _ _ h => h) (Or.inl ⟨by rfl, ?_⟩) HX.out ?_
        case refine_2 => (intro ww hSw; have s1 := hSw; go_simp; try with_reducible rfl)
        try simp only [Act.put, List.setIfInBounds_toArray, List.set_cons_zero, List.set_cons_succ]
        refine wpAnyH_take (i := 1) (v := ?_) (by simp only [List.getElem?_toArray, List.getElem?_cons_zero, List.getElem?_cons_succ]; rfl) (by kernel_rfl) (by kernel_rfl) (by kernel_rfl) (fun _ _ _ h => h) (Or.inl ⟨by rfl, ?_⟩) HX.out ?_
        case refine_2 => (intro ww hSw; have s1 := hSw; go_simp; try with_reducible rfl)
        try simp only [Act.put, List.setIfInBounds_toArray, List.set_cons_zero, List.set_cons_succ]
        refine wpAnyH_ready (rs := [2]) (by kernel_rfl) (by simp) ?_
        refine AllReadyH.cons (by simp only [List.getElem?_toArray, List.getElem?_cons_zero, List.getElem?_cons_succ]; rfl) (fun K' hK => ?_) AllReadyH.nil
        go_simp
        refine (isName_any (kb p.1) true _ hsz).mono ?_
        rintro e w2 ⟨rfl, rfl⟩
        rw [hn]
        refine hK.out _ _ HX.out (fun _ => ?_)
        clear hK
        try simp only [Act.put, List.setIfInBounds_toArray, List.set_cons_zero, List.set_cons_succ]
        refine wpAnyH_take (i := 3) (v := ?_) (by simp only [List.getElem?_toArray, List.getElem?_cons_zero, List.getElem?_cons_succ]; rfl) (by kernel_rfl) (by kernel_rfl) (by kernel_rfl) (fun _ _ _ h => h) (Or.inl ⟨by rfl, ?_⟩) HX.out ?_
        case refine_2 => (intro ww hSw; have s1 := hSw; go_simp; try with_reducible rfl)
        try simp only [Act.put, List.setIfInBounds_toArray, List.set_cons_zero, List.set_cons_succ]
        refine wpAnyH_take (i := 4) (v := ?_) (by simp only [List.getElem?_toArray, List.getElem?_cons_zero, List.getElem?_cons_succ]; rfl) (by kernel_rfl) (by kernel_rfl) (by kernel_rfl) (fun _ _ _ h => h) (Or.inl ⟨by rfl, ?_⟩) HX.out ?_
        case refine_2 => (intro ww hSw; have s1 := hSw; go_simp; try with_reducible rfl)
        try simp only [Act.put, List.setIfInBounds_toArray, List.set_cons_zero, List.set_cons_succ]
        refine wpAnyH_take (i := 5) (v := _) (by simp only [List.getElem?_toArray, List.getElem?_cons_zero, List.getElem?_cons_succ]; rfl) (by kernel_rfl) (by kernel_rfl) (by kernel_rfl) (fun _ _ _ h => h) (Or.inr ⟨by rfl, rfl⟩) HX.out ?_
        try simp only [Act.put, List.setIfInBounds_toArray, List.set_cons_zero, List.set_cons_succ]
        refine wpAnyH_take (i := 6) (v := _) (by simp only [List.getElem?_toArray, List.getElem?_cons_zero, List.getElem?_cons_succ]; rfl) (by kernel_rfl) (by kernel_rfl) (by kernel_rfl) (fun _ _ _ h => h) (Or.inr ⟨by rfl, rfl⟩) HX.out ?_
        try simp only [Act.put, List.setIfInBounds_toArray, List.set_cons_zero, List.set_cons_succ]
        refine wpAnyH_take (i := 7) (v := _) (by simp only [List.getElem?_toArray, List.getElem?_cons_zero, List.getElem?_cons_succ]; rfl) (by kernel_rfl) (by kernel_rfl) (by kernel_rfl) (fun _ _ _ h => h) (Or.inr ⟨by rfl, rfl⟩) HX.out ?_
        try simp only [Act.put, List.setIfInBounds_toArray, List.set_cons_zero, List.set_cons_succ]
        refine wpAnyH_take (i := 8) (v := _) (by simp only [List.getElem?_toArray, List.getElem?_cons_zero, List.getElem?_cons_succ]; rfl) (by kernel_rfl) (by kernel_rfl) (by kernel_rfl) (fun _ _ _ h => h) (Or.inr ⟨by rfl, rfl⟩) HX.out ?_
        try simp only [Act.put, List.setIfInBounds_toArray, List.set_cons_zero, List.set_cons_succ]
        refine wpAnyH_take (i := 9) (v := _) (by simp only [List.getElem?_toArray, List.getElem?_cons_zero, List.getElem?_cons_succ]; rfl) (by kernel_rfl) (by kernel_rfl) (by kernel_rfl) (fun _ _ _ h => h) (Or.inr ⟨by rfl, rfl⟩) HX.out ?_
        try simp only [Act.put, List.setIfInBounds_toArray, List.set_cons_zero, List.set_cons_succ]
        refine wpAnyH_take (i := 10) (v := _) (by simp only [List.getElem?_toArray, List.getElem?_cons_zero, List.getElem?_cons_succ]; rfl) (by kernel_rfl) (by kernel_rfl) (by kernel_rfl) (fun _ _ _ h => h) (Or.inr ⟨by rfl, rfl⟩) HX.out ?_
        try simp only [Act.put, List.setIfInBounds_toArray, List.set_cons_zero, List.set_cons_succ]
        refine wpAnyH_take (i := 11) (v := _) (by simp only [List.getElem?_toArray, List.getElem?_cons_zero, List.getElem?_cons_succ]; rfl) (by kernel_rfl) (by kernel_rfl) (by kernel_rfl) (fun _ _ _ h => h) (Or.inr ⟨by rfl, rfl⟩) HX.out ?_
        try simp only [Act.put, List.setIfInBounds_toArray, List.set_cons_zero, List.set_cons_succ]
        refine wpAnyH_take (i := 12) (v := _) (by simp only [List.getElem?_toArray, List.getElem?_cons_zero, List.getElem?_cons_succ]; rfl) (by kernel_rfl) (by kernel_rfl) (by kernel_rfl) (fun _ _ _ h => h) (Or.inr ⟨by rfl, rfl⟩) HX.out ?_
        try simp only [Act.put, List.setIfInBounds_toArray, List.set_cons_zero, List.set_cons_succ]
        refine wpAnyH_take (i := 13) (v := _) (by simp only [List.getElem?_toArray, List.getElem?_cons_zero, List.getElem?_cons_succ]; rfl) (by kernel_rfl) (by kernel_rfl) (by kernel_rfl) (fun _ _ _ h => h) (Or.inr ⟨by rfl, rfl⟩) HX.out ?_
        try simp only [Act.put, List.setIfInBounds_toArray, List.set_cons_zero, List.set_cons_succ]
        refine wpAnyH_take (i := 14) (v := _) (by simp only [List.getElem?_toArray, List.getElem?_cons_zero, List.getElem?_cons_succ]; rfl) (by kernel_rfl) (by kernel_rfl) (by kernel_rfl) (fun _ _ _ h => h) (Or.inr ⟨by rfl, rfl⟩) HX.out ?_
        try simp only [Act.put, List.setIfInBounds_toArray, List.set_cons_zero, List.set_cons_succ]
        refine wpAnyH_take (i := 15) (v := _) (by simp only [List.getElem?_toArray, List.getElem?_cons_zero, List.getElem?_cons_succ]; rfl) (by kernel_rfl) (by kernel_rfl) (by kernel_rfl) (fun _ _ _ h => h) (Or.inr ⟨by rfl, rfl⟩) HX.out ?_
        try simp only [Act.put, List.setIfInBounds_toArray, List.set_cons_zero, List.set_cons_succ]
        refine wpAnyH_take (i := 16) (v := _) (by simp only [List.getElem?_toArray, List.getElem?_cons_zero, List.getElem?_cons_succ]; rfl) (by kernel_rfl) (by kernel_rfl) (by kernel_rfl) (fun _ _ _ h => h) (Or.inr ⟨by rfl, rfl⟩) HX.out ?_
        try simp only [Act.put, List.setIfInBounds_toArray, List.set_cons_zero, List.set_cons_succ]
        refine wpAnyH_take (i := 17) (v := _) (by simp only [List.getElem?_toArray, List.getElem?_cons_zero, List.getElem?_cons_succ]; rfl) (by kernel_rfl) (by kernel_rfl) (by kernel_rfl) (fun _ _ _ h => h) (Or.inr ⟨by rfl, rfl⟩) HX.out ?_
        try simp only [Act.put, List.setIfInBounds_toArray, List.set_cons_zero, List.set_cons_succ]
        refine wpAnyH_take (i := 18) (v := ?_) (by simp only [List.getElem?_toArray, List.getElem?_cons_zero, List.getElem?_cons_succ]; rfl) (by kernel_rfl) (by kernel_rfl) (by kernel_rfl) (fun _ _ _ h => h) (Or.inl ⟨by rfl, ?_⟩) HX.out ?_
        case refine_2 => (intro ww hSw; have s1 := hSw; go_simp; try with_reducible rfl)
        try simp only [Act.put, List.setIfInBounds_toArray, List.set_cons_zero, List.set_cons_succ]
        refine wpAnyH_done (by kernel_rfl) ?_ _
        refine NoPanic.normal ?_
        go_wp2_with fail
        go_ret
        exact ⟨CkPost.bad HN0.out (by omega), HBX.out.drew⟩
      · have HN1 := Lib.hid hn
        cases k with
        | zero =>
          refine wp_region_noPanic ?_
          refine wp_region_held_drew (S := fun w' => w'.cell? ⟨wr.heap.size, 0, none⟩ = some (.string (kb p.1))) (by kernel_rfl) HX.out (fun _ => ?_)
          simp only [List.size_toArray, List.length_cons, List.length_nil, Nat.reduceAdd]
          refine wpAnyH_take (i := 0) (v := ?_) (by simp only [List.getElem?_toArray, List.getElem?_cons_zero]; rfl) (by kernel_rfl) (by kernel_rfl) (by kernel_rfl) (fun _ _ _ h => h) (Or.inl ⟨by rfl, ?_⟩) HX.out ?_
          case refine_2 => (intro ww hSw; have s1 := hSw; go_simp; try with_reducible rfl)
          try simp only [Act.put, List.setIfInBounds_toArray, List.set_cons_zero, List.set_cons_succ]
          refine wpAnyH_take (i := 1) (v := ?_) (by simp only [List.getElem?_toArray, List.getElem?_cons_zero, List.getElem?_cons_succ]; rfl) (by kernel_rfl) (by kernel_rfl) (by kernel_rfl) (fun _ _ _ h => h) (Or.inl ⟨by rfl, ?_⟩) HX.out ?_
          case refine_2 => (intro ww hSw; have s1 := hSw; go_simp; try with_reducible rfl)
          try simp only [Act.put, List.setIfInBounds_toArray, List.set_cons_zero, List.set_cons_succ]
          refine wpAnyH_ready (rs := [2]) (by kernel_rfl) (by simp) ?_
          refine AllReadyH.cons (by simp only [List.getElem?_toArray, List.getElem?_cons_zero, List.getElem?_cons_succ]; rfl) (fun K' hK => ?_) AllReadyH.nil
          go_simp
          refine (isName_any (kb p.1) true _ hsz).mono ?_
          rintro e w2 ⟨rfl, rfl⟩
          rw [hn]
          refine hK.out _ _ HX.out (fun _ => ?_)
          clear hK
          try simp only [Act.put, List.setIfInBounds_toArray, List.set_cons_zero, List.set_cons_succ]
          refine wpAnyH_take (i := 3) (v := ?_) (by simp only [List.getElem?_toArray, List.getElem?_cons_zero, List.getElem?_cons_succ]; rfl) (by kernel_rfl) (by kernel_rfl) (by kernel_rfl) (fun _ _ _ h => h) (Or.inl ⟨by rfl, ?_⟩) HX.out ?_
          case refine_2 => (intro ww hSw; have s1 := hSw; go_simp; try with_reducible rfl)
          try simp only [Act.put, List.setIfInBounds_toArray, List.set_cons_zero, List.set_cons_succ]
          refine wpAnyH_take (i := 4) (v := ?_) (by simp only [List.getElem?_toArray, List.getElem?_cons_zero, List.getElem?_cons_succ]; rfl) (by kernel_rfl) (by kernel_rfl) (by kernel_rfl) (fun _ _ _ h => h) (Or.inl ⟨by rfl, ?_⟩) HX.out ?_
          case refine_2 => (intro ww hSw; have s1 := hSw; go_simp; try with_reducible rfl)
          try simp only [Act.put, List.setIfInBounds_toArray, List.set_cons_zero, List.set_cons_succ]
          refine wpAnyH_take (i := 5) (v := ?_) (by simp only [List.getElem?_toArray, List.getElem?_cons_zero, List.getElem?_cons_succ]; rfl) (by kernel_rfl) (by kernel_rfl) (by kernel_rfl) (fun _ _ _ h => h) (Or.inl ⟨by rfl, ?_⟩) HX.out ?_
          case refine_2 => (intro ww hSw; have s1 := hSw; go_simp; try with_reducible rfl)
          try simp only [Act.put, List.setIfInBounds_toArray, List.set_cons_zero, List.set_cons_succ]
          refine wpAnyH_take (i := 6) (v := ?_) (by simp only [List.getElem?_toArray, List.getElem?_cons_zero, List.getElem?_cons_succ]; rfl) (by kernel_rfl) (by kernel_rfl) (by kernel_rfl) (fun _ _ _ h => h) (Or.inl ⟨by rfl, ?_⟩) HX.out ?_
          case refine_2 => (intro ww hSw; have s1 := hSw; go_simp; try with_reducible rfl)
          try simp only [Act.put, List.setIfInBounds_toArray, List.set_cons_zero, List.set_cons_succ]
          refine wpAnyH_take (i := 7) (v := ?_) (by simp only [List.getElem?_toArray, List.getElem?_cons_zero, List.getElem?_cons_succ]; rfl) (by kernel_rfl) (by kernel_rfl) (by kernel_rfl) (fun _ _ _ h => h) (Or.inl ⟨by rfl, ?_⟩) HX.out ?_
          case refine_2 => (intro ww hSw; have s1 := hSw; go_simp; try with_reducible rfl)
          try simp only [Act.put, List.setIfInBounds_toArray, List.set_cons_zero, List.set_cons_succ]
          refine wpAnyH_take (i := 8) (v := _) (by simp only [List.getElem?_toArray, List.getElem?_cons_zero, List.getElem?_cons_succ]; rfl) (by kernel_rfl) (by kernel_rfl) (by kernel_rfl) (fun _ _ _ h => h) (Or.inr ⟨by rfl, rfl⟩) HX.out ?_
          try simp only [Act.put, List.setIfInBounds_toArray, List.set_cons_zero, List.set_cons_succ]
          refine wpAnyH_take (i := 9) (v := _) (by simp only [List.getElem?_toArray, List.getElem?_cons_zero, List.getElem?_cons_succ]; rfl) (by kernel_rfl) (by kernel_rfl) (by kernel_rfl) (fun _ _ _ h => h) (Or.inr ⟨by rfl, rfl⟩) HX.out ?_
          try simp only [Act.put, List.setIfInBounds_toArray, List.set_cons_zero, List.set_cons_succ]
          refine wpAnyH_take (i := 10) (v := _) (by simp only [List.getElem?_toArray, List.getElem?_cons_zero, List.getElem?_cons_succ]; rfl) (by kernel_rfl) (by kernel_rfl) (by kernel_rfl) (fun _ _ _ h => h) (Or.inr ⟨by rfl, rfl⟩) HX.out ?_
          try simp only [Act.put, List.setIfInBounds_toArray, List.set_cons_zero, List.set_cons_succ]
          refine wpAnyH_take (i := 11) (v := _) (by simp only [List.getElem?_toArray, List.getElem?_cons_zero, List.getElem?_cons_succ]; rfl) (by kernel_rfl) (by kernel_rfl) (by kernel_rfl) (fun _ _ _ h => h) (Or.inr ⟨by rfl, rfl⟩) HX.out ?_
          try simp only [Act.put, List.setIfInBounds_toArray, List.set_cons_zero, List.set_cons_succ]
          refine wpAnyH_take (i := 12) (v := _) (by simp only [List.getElem?_toArray, List.getElem?_cons_zero, List.getElem?_cons_succ]; rfl) (by kernel_rfl) (by kernel_rfl) (by kernel_rfl) (fun _ _ _ h => h) (Or.inr ⟨by rfl, rfl⟩) HX.out ?_
          try simp only [Act.put, List.setIfInBounds_toArray, List.set_cons_zero, List.set_cons_succ]
          refine wpAnyH_take (i := 13) (v := _) (by simp only [List.getElem?_toArray, List.getElem?_cons_zero, List.getElem?_cons_succ]; rfl) (by kernel_rfl) (by kernel_rfl) (by kernel_rfl) (fun _ _ _ h => h) (Or.inr ⟨by rfl, rfl⟩) HX.out ?_
          try simp only [Act.put, List.setIfInBounds_toArray, List.set_cons_zero, List.set_cons_succ]
          refine wpAnyH_take (i := 14) (v := _) (by simp only [List.getElem?_toArray, List.getElem?_cons_zero, List.getElem?_cons_succ]; rfl) (by kernel_rfl) (by kernel_rfl) (by kernel_rfl) (fun _ _ _ h => h) (Or.inr ⟨by rfl, rfl⟩) HX.out ?_
          try simp only [Act.put, List.setIfInBounds_toArray, List.set_cons_zero, List.set_cons_succ]
          refine wpAnyH_take (i := 15) (v := _) (by simp only [List.getElem?_toArray, List.getElem?_cons_zero, List.getElem?_cons_succ]; rfl) (by kernel_rfl) (by kernel_rfl) (by kernel_rfl) (fun _ _ _ h => h) (Or.inr ⟨by rfl, rfl⟩) HX.out ?_
          try simp only [Act.put, List.setIfInBounds_toArray, List.set_cons_zero, List.set_cons_succ]
          refine wpAnyH_take (i := 16) (v := _) (by simp only [List.getElem?_toArray, List.getElem?_cons_zero, List.getElem?_cons_succ]; rfl) (by kernel_rfl) (by kernel_rfl) (by kernel_rfl) (fun _ _ _ h => h) (Or.inr ⟨by rfl, rfl⟩) HX.out ?_
          try simp only [Act.put, List.setIfInBounds_toArray, List.set_cons_zero, List.set_cons_succ]
          refine wpAnyH_take (i := 17) (v := ?_) (by simp only [List.getElem?_toArray, List.getElem?_cons_zero, List.getElem?_cons_succ]; rfl) (by kernel_rfl) (by kernel_rfl) (by kernel_rfl) (fun _ _ _ h => h) (Or.inl ⟨by rfl, ?_⟩) HX.out ?_
          case refine_2 => (intro ww hSw; have s1 := hSw; go_simp; try with_reducible rfl)
          try simp only [Act.put, List.setIfInBounds_toArray, List.set_cons_zero, List.set_cons_succ]
          refine wpAnyH_take (i := 18) (v := ?_) (by simp only [List.getElem?_toArray, List.getElem?_cons_zero, List.getElem?_cons_succ]; rfl) (by kernel_rfl) (by kernel_rfl) (by kernel_rfl) (fun _ _ _ h => h) (Or.inl ⟨by rfl, ?_⟩) HX.out ?_
          case refine_2 => (intro ww hSw; have s1 := hSw; go_simp; try with_reducible rfl)
          try simp only [Act.put, List.setIfInBounds_toArray, List.set_cons_zero, List.set_cons_succ]
          refine wpAnyH_done (by kernel_rfl) ?_ _
          refine NoPanic.normal ?_
          go_wp2_with fail
          exact ⟨⟨1, by omega, by go_num, Lib.hid (HN.out.step HP.out HN1.out (fun q h => absurd h (by omega))), Lib.hid HBX.out.drew⟩, by simp [intOf]; omega⟩
        | succ m =>
          obtain ⟨q, hq⟩ : ∃ q, l[m]? = some q := ⟨_, List.getElem?_eq_getElem (by omega)⟩
          have hqc := (HC1.out m q hq).1
          have HXB : Hid ((wr.alloc (.cells #[.string (kb p.1), .int .i64 p.2.1, .int .i64 p.2.2] 137)).drew.cell? ⟨wr.heap.size, 0, none⟩ = some (.string (kb p.1)) ∧ (wr.alloc (.cells #[.string (kb p.1), .int .i64 p.2.1, .int .i64 p.2.2] 137)).drew.cell? ⟨b1, o1 + m * 3, none⟩ = some (.string (kb q.1))) := Lib.hid ⟨HX.out, (HBX.out.cell (p := ⟨b1, _, none⟩) hbn).trans hqc⟩
          have HQ := Lib.hid hq
          clear hq hqc c0 c1 c2
          have hwm : IntKind.i64.wrap ((m : Nat) : Int) = m := IntWalk.i64_in _ (by omega)
          have hm1 : ((m : Nat) : Int) < l.length := by omega
          refine wp_region_noPanic ?_
          refine wp_region_held_drew (S := fun w' => w'.cell? ⟨wr.heap.size, 0, none⟩ = some (.string (kb p.1)) ∧ w'.cell? ⟨b1, o1 + m * 3, none⟩ = some (.string (kb q.1))) (by kernel_rfl) HXB.out (fun _ => ?_)
          simp only [List.size_toArray, List.length_cons, List.length_nil, Nat.reduceAdd]
          refine wpAnyH_take (i := 0) (v := ?_) (by simp only [List.getElem?_toArray, List.getElem?_cons_zero]; rfl) (by kernel_rfl) (by kernel_rfl) (by kernel_rfl) (fun _ _ _ h => h) (Or.inl ⟨by rfl, ?_⟩) HXB.out ?_
          case refine_2 => (intro ww hSw; obtain ⟨s1, s2⟩ := hSw; go_simp; try with_reducible rfl)
          try simp only [Act.put, List.setIfInBounds_toArray, List.set_cons_zero, List.set_cons_succ]
          refine wpAnyH_take (i := 1) (v := ?_) (by simp only [List.getElem?_toArray, List.getElem?_cons_zero, List.getElem?_cons_succ]; rfl) (by kernel_rfl) (by kernel_rfl) (by kernel_rfl) (fun _ _ _ h => h) (Or.inl ⟨by rfl, ?_⟩) HXB.out ?_
          case refine_2 => (intro ww hSw; obtain ⟨s1, s2⟩ := hSw; go_simp; try with_reducible rfl)
          try simp only [Act.put, List.setIfInBounds_toArray, List.set_cons_zero, List.set_cons_succ]
          refine wpAnyH_ready (rs := [2]) (by kernel_rfl) (by simp) ?_
          refine AllReadyH.cons (by simp only [List.getElem?_toArray, List.getElem?_cons_zero, List.getElem?_cons_succ]; rfl) (fun K' hK => ?_) AllReadyH.nil
          go_simp
          refine (isName_any (kb p.1) true _ hsz).mono ?_
          rintro e w2 ⟨rfl, rfl⟩
          rw [hn]
          refine hK.out _ _ HXB.out (fun _ => ?_)
          clear hK
          try simp only [Act.put, List.setIfInBounds_toArray, List.set_cons_zero, List.set_cons_succ]
          refine wpAnyH_take (i := 3) (v := ?_) (by simp only [List.getElem?_toArray, List.getElem?_cons_zero, List.getElem?_cons_succ]; rfl) (by kernel_rfl) (by kernel_rfl) (by kernel_rfl) (fun _ _ _ h => h) (Or.inl ⟨by rfl, ?_⟩) HXB.out ?_
          case refine_2 => (intro ww hSw; obtain ⟨s1, s2⟩ := hSw; go_simp; try with_reducible rfl)
          try simp only [Act.put, List.setIfInBounds_toArray, List.set_cons_zero, List.set_cons_succ]
          refine wpAnyH_take (i := 4) (v := ?_) (by simp only [List.getElem?_toArray, List.getElem?_cons_zero, List.getElem?_cons_succ]; rfl) (by kernel_rfl) (by kernel_rfl) (by kernel_rfl) (fun _ _ _ h => h) (Or.inl ⟨by rfl, ?_⟩) HXB.out ?_
          case refine_2 => (intro ww hSw; obtain ⟨s1, s2⟩ := hSw; go_simp; try with_reducible rfl)
          try simp only [Act.put, List.setIfInBounds_toArray, List.set_cons_zero, List.set_cons_succ]
          refine wpAnyH_take (i := 5) (v := ?_) (by simp only [List.getElem?_toArray, List.getElem?_cons_zero, List.getElem?_cons_succ]; rfl) (by kernel_rfl) (by kernel_rfl) (by kernel_rfl) (fun _ _ _ h => h) (Or.inl ⟨by rfl, ?_⟩) HXB.out ?_
          case refine_2 => (intro ww hSw; obtain ⟨s1, s2⟩ := hSw; go_simp; try with_reducible rfl)
          try simp only [Act.put, List.setIfInBounds_toArray, List.set_cons_zero, List.set_cons_succ]
          refine wpAnyH_take (i := 6) (v := ?_) (by simp only [List.getElem?_toArray, List.getElem?_cons_zero, List.getElem?_cons_succ]; rfl) (by kernel_rfl) (by kernel_rfl) (by kernel_rfl) (fun _ _ _ h => h) (Or.inl ⟨by rfl, ?_⟩) HXB.out ?_
          case refine_2 => (intro ww hSw; obtain ⟨s1, s2⟩ := hSw; go_simp; try with_reducible rfl)
          try simp only [Act.put, List.setIfInBounds_toArray, List.set_cons_zero, List.set_cons_succ]
          refine wpAnyH_take (i := 7) (v := ?_) (by simp only [List.getElem?_toArray, List.getElem?_cons_zero, List.getElem?_cons_succ]; rfl) (by kernel_rfl) (by kernel_rfl) (by kernel_rfl) (fun _ _ _ h => h) (Or.inl ⟨by rfl, ?_⟩) HXB.out ?_
          case refine_2 => (intro ww hSw; obtain ⟨s1, s2⟩ := hSw; go_simp; try with_reducible rfl)
          try simp only [Act.put, List.setIfInBounds_toArray, List.set_cons_zero, List.set_cons_succ]
          refine wpAnyH_take (i := 8) (v := ?_) (by simp only [List.getElem?_toArray, List.getElem?_cons_zero, List.getElem?_cons_succ]; rfl) (by kernel_rfl) (by kernel_rfl) (by kernel_rfl) (fun _ _ _ h => h) (Or.inl ⟨by rfl, ?_⟩) HXB.out ?_
          case refine_2 => (intro ww hSw; obtain ⟨s1, s2⟩ := hSw; go_simp; try with_reducible rfl)
          try simp only [Act.put, List.setIfInBounds_toArray, List.set_cons_zero, List.set_cons_succ]
          refine wpAnyH_take (i := 9) (v := ?_) (by simp only [List.getElem?_toArray, List.getElem?_cons_zero, List.getElem?_cons_succ]; rfl) (by kernel_rfl) (by kernel_rfl) (by kernel_rfl) (fun _ _ _ h => h) (Or.inl ⟨by rfl, ?_⟩) HXB.out ?_
          case refine_2 => (intro ww hSw; obtain ⟨s1, s2⟩ := hSw; go_simp; try with_reducible rfl)
          try simp only [Act.put, List.setIfInBounds_toArray, List.set_cons_zero, List.set_cons_succ]
          refine wpAnyH_take (i := 10) (v := ?_) (by simp only [List.getElem?_toArray, List.getElem?_cons_zero, List.getElem?_cons_succ]; rfl) (by kernel_rfl) (by kernel_rfl) (by kernel_rfl) (fun _ _ _ h => h) (Or.inl ⟨by rfl, ?_⟩) HXB.out ?_
          case refine_2 => (intro ww hSw; obtain ⟨s1, s2⟩ := hSw; go_simp; try with_reducible rfl)
          try simp only [Act.put, List.setIfInBounds_toArray, List.set_cons_zero, List.set_cons_succ]
          refine wpAnyH_take (i := 11) (v := ?_) (by simp only [List.getElem?_toArray, List.getElem?_cons_zero, List.getElem?_cons_succ]; rfl) (by kernel_rfl) (by kernel_rfl) (by kernel_rfl) (fun _ _ _ h => h) (Or.inl ⟨by rfl, ?_⟩) HXB.out ?_
          case refine_2 => (intro ww hSw; obtain ⟨s1, s2⟩ := hSw; go_simp; try with_reducible rfl)
          try simp only [Act.put, List.setIfInBounds_toArray, List.set_cons_zero, List.set_cons_succ]
          refine wpAnyH_take (i := 12) (v := ?_) (by simp only [List.getElem?_toArray, List.getElem?_cons_zero, List.getElem?_cons_succ]; rfl) (by kernel_rfl) (by kernel_rfl) (by kernel_rfl) (fun _ _ _ h => h) (Or.inl ⟨by rfl, ?_⟩) HXB.out ?_
          case refine_2 => (intro ww hSw; obtain ⟨s1, s2⟩ := hSw; go_simp; try with_reducible rfl)
          try simp only [Act.put, List.setIfInBounds_toArray, List.set_cons_zero, List.set_cons_succ]
          refine wpAnyH_take (i := 13) (v := ?_) (by simp only [List.getElem?_toArray, List.getElem?_cons_zero, List.getElem?_cons_succ]; rfl) (by kernel_rfl) (by kernel_rfl) (by kernel_rfl) (fun _ _ _ h => h) (Or.inl ⟨by rfl, ?_⟩) HXB.out ?_
          case refine_2 => (intro ww hSw; obtain ⟨s1, s2⟩ := hSw; go_simp; try with_reducible rfl)
          try simp only [Act.put, List.setIfInBounds_toArray, List.set_cons_zero, List.set_cons_succ]
          refine wpAnyH_take (i := 14) (v := ?_) (by simp only [List.getElem?_toArray, List.getElem?_cons_zero, List.getElem?_cons_succ]; rfl) (by kernel_rfl) (by kernel_rfl) (by kernel_rfl) (fun _ _ _ h => h) (Or.inl ⟨by rfl, ?_⟩) HXB.out ?_
          case refine_2 => (intro ww hSw; obtain ⟨s1, s2⟩ := hSw; go_simp; try with_reducible rfl)
          try simp only [Act.put, List.setIfInBounds_toArray, List.set_cons_zero, List.set_cons_succ]
          refine wpAnyH_take (i := 15) (v := ?_) (by simp only [List.getElem?_toArray, List.getElem?_cons_zero, List.getElem?_cons_succ]; rfl) (by kernel_rfl) (by kernel_rfl) (by kernel_rfl) (fun _ _ _ h => h) (Or.inl ⟨by rfl, ?_⟩) HXB.out ?_
          case refine_2 => (intro ww hSw; obtain ⟨s1, s2⟩ := hSw; go_simp; try with_reducible rfl)
          try simp only [Act.put, List.setIfInBounds_toArray, List.set_cons_zero, List.set_cons_succ]
          refine wpAnyH_take (i := 16) (v := ?_) (by simp only [List.getElem?_toArray, List.getElem?_cons_zero, List.getElem?_cons_succ]; rfl) (by kernel_rfl) (by kernel_rfl) (by kernel_rfl) (fun _ _ _ h => h) (Or.inl ⟨by rfl, ?_⟩) HXB.out ?_
          case refine_2 => (intro ww hSw; obtain ⟨s1, s2⟩ := hSw; go_simp; try with_reducible rfl)
          try simp only [Act.put, List.setIfInBounds_toArray, List.set_cons_zero, List.set_cons_succ]
          refine wpAnyH_take (i := 17) (v := ?_) (by simp only [List.getElem?_toArray, List.getElem?_cons_zero, List.getElem?_cons_succ]; rfl) (by kernel_rfl) (by kernel_rfl) (by kernel_rfl) (fun _ _ _ h => h) (Or.inl ⟨by rfl, ?_⟩) HXB.out ?_
          case refine_2 => (intro ww hSw; obtain ⟨s1, s2⟩ := hSw; go_simp; try with_reducible rfl)
          try simp only [Act.put, List.setIfInBounds_toArray, List.set_cons_zero, List.set_cons_succ]
          refine wpAnyH_take (i := 18) (v := ?_) (by simp only [List.getElem?_toArray, List.getElem?_cons_zero, List.getElem?_cons_succ]; rfl) (by kernel_rfl) (by kernel_rfl) (by kernel_rfl) (fun _ _ _ h => h) (Or.inl ⟨by rfl, ?_⟩) HXB.out ?_
          case refine_2 => (intro ww hSw; obtain ⟨s1, s2⟩ := hSw; go_simp; try with_reducible rfl)
          try simp only [Act.put, List.setIfInBounds_toArray, List.set_cons_zero, List.set_cons_succ]
          refine wpAnyH_done (by kernel_rfl) ?_ _
          refine NoPanic.normal ?_
          clear hwm
          generalize hr : (!Op.bytesLess (kb q.1).toList (kb p.1).toList) = r
          cases r
          · have HQP : Hid (q.1 < p.1) := Lib.hid (Classical.not_not.1 fun h => by rw [gtB_no h] at hr; cases hr)
            clear hr
            go_wp2_with fail
            exact ⟨⟨m + 1 + 1, by omega, by go_num, Lib.hid (HN.out.step HP.out HN1.out (fun q' _ h1 => by rw [show m + 1 - 1 = m from rfl, HQ.out] at h1; cases h1; exact HQP.out)), Lib.hid HBX.out.drew⟩, by simp [intOf]; omega⟩
          · have hqp : ¬ q.1 < p.1 := fun h => by rw [gtB_yes h] at hr; cases hr
            have HN0 : Hid (¬ WtOk l u) := Lib.hid fun h => hqp ((h.nms (m + 1) p HP.out).2 q (by omega) HQ.out)
            clear hqp hr
            go_wp2_with fail
            go_ret
            exact ⟨CkPost.bad HN0.out (by omega), HBX.out.drew⟩
    · obtain rfl : k = l.length := by omega
      have HNO := Lib.hid HN.out.all
      clear HN
      have HBW0 := HBW
      clear HBW
      go_wp2_with fail
      go_loopw [41] (fun i wr => ∃ k : Nat, k ≤ l.length ∧ i = .int .i64 k ∧ Hid (∀ x ∈ l.take k, 0 ≤ x.2.1 ∧ x.2.1 ≤ 1000 ∧ 0 ≤ x.2.2 ∧ x.2.2 ≤ 1000) ∧ Hid (Below w.heap.size w wr)) (fun i _ => l.length - (intOf i).toNat)
      case atStart => exact ⟨0, by omega, rfl, Lib.hid (fun x hx => by simp at hx), HBW0⟩
      case round =>
        obtain ⟨k, hk, rfl, HF, HBW⟩ := hrel
        by_cases hlt : k < l.length
        · obtain ⟨p, hp⟩ : ∃ p, l[k]? = some p := ⟨_, List.getElem?_eq_getElem hlt⟩
          obtain ⟨b1, o1, rfl, hbn, hc1⟩ := HC.out (by rintro rfl; simp at hlt)
          obtain ⟨c0, c1, c2⟩ := hc1 k p hp
          have c0 := (HBW.out.cell (p := ⟨b1, _, none⟩) hbn).trans c0
          have c1 := (HBW.out.cell (p := ⟨b1, _, none⟩) hbn).trans c1
          have c2 := (HBW.out.cell (p := ⟨b1, _, none⟩) hbn).trans c2
          have HP := Lib.hid hp
          have HPM := Lib.hid (List.mem_of_getElem? hp)
          have HBX : Hid (Below w.heap.size w (wr.alloc (.cells #[.string (kb p.1), .int .i64 p.2.1, .int .i64 p.2.2] 137))) := Lib.hid (HBW.out.alloc HBW.out.size _)
          clear hc1 hp
          by_cases h1 : p.2.1 < 0
          · have hd1 : decide (p.2.1 < 0) = true := decide_eq_true h1
            go_wp2_with fail
            go_ret
            exact ⟨CkPost.bad (WtOk.not_rk HPM.out (by omega)) (by omega), HBX.out⟩
          · by_cases h2 : 1000 < p.2.1
            · have hd2 : decide (1000 < p.2.1) = true := decide_eq_true h2
              go_wp2_with fail
              go_ret
              exact ⟨CkPost.bad (WtOk.not_rk HPM.out (by omega)) (by omega), HBX.out⟩
            · by_cases h3 : p.2.2 < 0
              · have hd3 : decide (p.2.2 < 0) = true := decide_eq_true h3
                go_wp2_with fail
                go_ret
                exact ⟨CkPost.bad (WtOk.not_rk HPM.out (by omega)) (by omega), HBX.out⟩
              · by_cases h4 : 1000 < p.2.2
                · have hd4 : decide (1000 < p.2.2) = true := decide_eq_true h4
                  go_wp2_with fail
                  go_ret
                  exact ⟨CkPost.bad (WtOk.not_rk HPM.out (by omega)) (by omega), HBX.out⟩
                · have HF2 : Hid (∀ x ∈ l.take (k + 1), 0 ≤ x.2.1 ∧ x.2.1 ≤ 1000 ∧ 0 ≤ x.2.2 ∧ x.2.2 ≤ 1000) := Lib.hid fun x hx => by
                    rw [List.take_add_one, HP.out] at hx
                    rcases List.mem_append.1 hx with hx | hx
                    · exact HF.out x hx
                    · obtain rfl : x = p := by simpa using hx
                      omega
                  go_wp2_with fail
                  exact ⟨⟨k + 1, by omega, by go_num, HF2, HBX⟩, by simp [intOf]; omega⟩
        · obtain rfl : k = l.length := by omega
          have HRK : Hid (∀ x ∈ l, 0 ≤ x.2.1 ∧ x.2.1 ≤ 1000 ∧ 0 ≤ x.2.2 ∧ x.2.2 ≤ 1000) := Lib.hid fun x hx => HF.out x (by rw [List.take_length]; exact hx)
          by_cases u1 : u < 1
          · have hd1 : decide (u < 1) = true := decide_eq_true u1
            go_wp2_with fail
            go_ret
            exact ⟨CkPost.bad (WtOk.not_unit (.inl u1)) (by omega), HBW.out⟩
          · by_cases u2 : 1000 < u
            · have hd2 : decide (1000 < u) = true := decide_eq_true u2
              go_wp2_with fail
              go_ret
              exact ⟨CkPost.bad (WtOk.not_unit (.inr u2)) (by omega), HBW.out⟩
            · have HOK : Hid (WtOk l u) := Lib.hid ⟨by omega, HNO.out, HRK.out, by omega⟩
              go_wp2_with fail
              go_ret
              exact ⟨CkPost.good HOK.out, HBW.out⟩

set_option maxRecDepth 100000 in
set_option maxHeartbeats 8000000 in
theorem r7Check_any (l : List Rk) (u : Int) (v : Value) (w : World) (hl : RksIs w.heap.size w l v) (hb : rkBulk l ≤ 1048576) :
    Calls Tryz.prog 71 #[v, .int .i64 u] w fun e w' => CkPost l u e ∧ Below w.heap.size w w' := by
  have HK := Lib.hid (rListed_any l v w hl hb)
  obtain ⟨oa, cap, rfl, hcap, hc⟩ := hl
  have HC := Lib.hid hc
  have hlen := Nat.le_trans (rkBulk_len l) hb
  clear hc hb
  go_enter Tryz.func71, Tryz.ntmps71
  go_wp2_with fail
  refine HK.out.mono ?_
  rintro e w1 ⟨rfl, hb1⟩
  have HBW0 := Lib.hid hb1
  clear hb1 HK
  by_cases hc0 : listC l = 0
  case neg =>
    have hd : (listC l != 0) = true := by rw [bne_iff_ne]; exact hc0
    have HNP : Hid (¬ WtOk l u) := Lib.hid fun h => hc0 (listC_zero.2 ⟨by have := h.len; omega, h.nms⟩)
    have HC0 := Lib.hid hc0
    clear hc0
    go_wp2_with fail
    go_ret
    exact ⟨CkPost.bad HNP.out HC0.out, HBW0.out⟩
  rw [hc0]
  have h256 := (listC_zero.1 hc0).1
  have HNO := Lib.hid (listC_zero.1 hc0).2
  clear hc0
  go_wp2_with fail
  go_loopw [15] (fun i wr => ∃ k : Nat, k ≤ l.length ∧ i = .int .i64 k ∧ Hid (∀ x ∈ l.take k, 0 ≤ x.2.1 ∧ x.2.1 ≤ 1000 ∧ 0 ≤ x.2.2 ∧ x.2.2 ≤ 1000) ∧ Hid (Below w.heap.size w wr)) (fun i _ => l.length - (intOf i).toNat)
  case atStart => exact ⟨0, by omega, rfl, Lib.hid (fun x hx => by simp at hx), HBW0⟩
  case round =>
    obtain ⟨k, hk, rfl, HF, HBW⟩ := hrel
    by_cases hlt : k < l.length
    · obtain ⟨p, hp⟩ : ∃ p, l[k]? = some p := ⟨_, List.getElem?_eq_getElem hlt⟩
      obtain ⟨b1, o1, rfl, hbn, hc1⟩ := HC.out (by rintro rfl; simp at hlt)
      obtain ⟨c0, c1, c2⟩ := hc1 k p hp
      have c0 := (HBW.out.cell (p := ⟨b1, _, none⟩) hbn).trans c0
      have c1 := (HBW.out.cell (p := ⟨b1, _, none⟩) hbn).trans c1
      have c2 := (HBW.out.cell (p := ⟨b1, _, none⟩) hbn).trans c2
      have HP := Lib.hid hp
      have HPM := Lib.hid (List.mem_of_getElem? hp)
      have HBX : Hid (Below w.heap.size w (wr.alloc (.cells #[.string (kb p.1), .int .i64 p.2.1, .int .i64 p.2.2] 137))) := Lib.hid (HBW.out.alloc HBW.out.size _)
      clear hc1 hp
      by_cases h1 : p.2.1 < 0
      · have hd1 : decide (p.2.1 < 0) = true := decide_eq_true h1
        go_wp2_with fail
        go_ret
        exact ⟨CkPost.bad (WtOk.not_rk HPM.out (by omega)) (by omega), HBX.out⟩
      · by_cases h2 : 1000 < p.2.1
        · have hd2 : decide (1000 < p.2.1) = true := decide_eq_true h2
          go_wp2_with fail
          go_ret
          exact ⟨CkPost.bad (WtOk.not_rk HPM.out (by omega)) (by omega), HBX.out⟩
        · by_cases h3 : p.2.2 < 0
          · have hd3 : decide (p.2.2 < 0) = true := decide_eq_true h3
            go_wp2_with fail
            go_ret
            exact ⟨CkPost.bad (WtOk.not_rk HPM.out (by omega)) (by omega), HBX.out⟩
          · by_cases h4 : 1000 < p.2.2
            · have hd4 : decide (1000 < p.2.2) = true := decide_eq_true h4
              go_wp2_with fail
              go_ret
              exact ⟨CkPost.bad (WtOk.not_rk HPM.out (by omega)) (by omega), HBX.out⟩
            · have HF2 : Hid (∀ x ∈ l.take (k + 1), 0 ≤ x.2.1 ∧ x.2.1 ≤ 1000 ∧ 0 ≤ x.2.2 ∧ x.2.2 ≤ 1000) := Lib.hid fun x hx => by
                rw [List.take_add_one, HP.out] at hx
                rcases List.mem_append.1 hx with hx | hx
                · exact HF.out x hx
                · obtain rfl : x = p := by simpa using hx
                  omega
              go_wp2_with fail
              exact ⟨⟨k + 1, by omega, by go_num, HF2, HBX⟩, by simp [intOf]; omega⟩
    · obtain rfl : k = l.length := by omega
      have HRK : Hid (∀ x ∈ l, 0 ≤ x.2.1 ∧ x.2.1 ≤ 1000 ∧ 0 ≤ x.2.2 ∧ x.2.2 ≤ 1000) := Lib.hid fun x hx => HF.out x (by rw [List.take_length]; exact hx)
      by_cases u1 : u < 1
      · have hd1 : decide (u < 1) = true := decide_eq_true u1
        go_wp2_with fail
        go_ret
        exact ⟨CkPost.bad (WtOk.not_unit (.inl u1)) (by omega), HBW.out⟩
      · by_cases u2 : 1000 < u
        · have hd2 : decide (1000 < u) = true := decide_eq_true u2
          go_wp2_with fail
          go_ret
          exact ⟨CkPost.bad (WtOk.not_unit (.inr u2)) (by omega), HBW.out⟩
        · have HOK : Hid (WtOk l u) := Lib.hid ⟨by omega, HNO.out, HRK.out, by omega⟩
          go_wp2_with fail
          go_ret
          exact ⟨CkPost.good HOK.out, HBW.out⟩
end Go.Proofs.YtnomppdmhgefiaaGreat
/- What may change: all blocks that are there but some. No program stands here. -/
namespace Go.Proofs.YtnomppdmhgefiaaGreat
open Go.RowKit

/-- all blocks that are there, but those of which X holds, are as they were -/
structure FrX (X : Nat → Prop) (A B : World) : Prop where
  os : B.os = A.os
  tape : B.tape = A.tape
  output : B.output = A.output
  size : A.heap.size ≤ B.heap.size
  block : ∀ k, k < A.heap.size → ¬ X k → B.heap[k]? = A.heap[k]?
theorem FrX.refl (X : Nat → Prop) (A : World) : FrX X A A := ⟨rfl, rfl, rfl, Nat.le_refl _, fun _ _ _ => rfl⟩
theorem FrX.trans {X : Nat → Prop} {A B C : World} (h : FrX X A B) (k : FrX X B C) : FrX X A C :=
  ⟨k.os.trans h.os, k.tape.trans h.tape, k.output.trans h.output, Nat.le_trans h.size k.size, fun i hi hc => (k.block i (Nat.lt_of_lt_of_le hi h.size) hc).trans (h.block i hi hc)⟩
theorem FrX.of_below {X : Nat → Prop} {A B : World} (h : Below A.heap.size A B) : FrX X A B := ⟨h.os, h.tape, h.output, h.size, fun k hk _ => h.block k hk⟩
theorem FrX.mono {X Y : Nat → Prop} {A B : World} (h : FrX X A B) (hx : ∀ k, X k → Y k) : FrX Y A B := ⟨h.os, h.tape, h.output, h.size, fun k hk hc => h.block k hk (fun e => hc (hx k e))⟩
theorem FrX.grown {X : Nat → Prop} {A B : World} {b : Nat} (h : A.grownBy B (some b)) (hb : X b) : FrX X A B := ⟨h.os, h.tape, h.output, h.size, fun k hk hc => h.block k hk (fun e => by cases e; exact hc hb)⟩
/-- what X marks are no cells -/
theorem FrX.kpc {X : Nat → Prop} {A B : World} {n : Nat} (h : FrX X A B) (hn : n ≤ A.heap.size) (hx : ∀ k, X k → n ≤ k ∧ ∀ c t f, A.heap[k]? ≠ some (Obj.cells c t f)) : KpC n A B :=
  ⟨⟨h.os, h.tape, h.output, h.size, fun k hk => h.block k (by omega) (fun e => by have := (hx k e).1; omega)⟩, fun k c t f hk => (h.block k (Array.getElem?_eq_some_iff.1 hk).1 (fun e => (hx k e).2 c t f hk)).trans hk⟩
theorem FrX.below {X : Nat → Prop} {A B : World} {n : Nat} (h : FrX X A B) (hn : n ≤ A.heap.size) (hx : ∀ k, X k → n ≤ k) : Below n A B := ⟨h.os, h.tape, h.output, h.size, fun k hk => h.block k (by omega) (fun e => by have := hx k e; omega)⟩
theorem FrX.alloc {X : Nat → Prop} {A B : World} (h : FrX X A B) (o : Obj) : FrX X A (B.alloc o) := h.trans (FrX.of_below ((Below.refl _ B).alloc (Nat.le_refl _) o))
theorem FrX.drew {X : Nat → Prop} {A B : World} (h : FrX X A B) : FrX X A B.drew := ⟨h.os, h.tape, h.output, h.size, h.block⟩
theorem FrX.set {X : Nat → Prop} {A B : World} (h : FrX X A B) {p : Addr} (hp : X p.block) (v : Value) : FrX X A (B.setCell p v) :=
  h.trans ⟨rfl, rfl, rfl, by simp [World.setCell], fun k _ hc => Below.heap_setCell _ _ _ k (fun e => hc (by rw [e]; exact hp))⟩
theorem FrX.turned {X : Nat → Prop} {A B : World} {m : Nat} (h : A.grownBy B (some m)) (hm : X m) : FrX X A B := FrX.grown h hm
end Go.Proofs.YtnomppdmhgefiaaGreat
