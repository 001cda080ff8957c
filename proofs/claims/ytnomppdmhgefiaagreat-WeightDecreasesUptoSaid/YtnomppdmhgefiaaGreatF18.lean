/- Packed: Wae, Rcs. -/
import Derived.Test.YtnomppdmhgefiaaGreatF17
import Derived.Test.YtnomppdmhgefiaaGreatF13
import Derived.Test.YtnomppdmhgefiaaGreatF14
import Derived.DeepKeys3
import Derived.WalkKit
import Derived.ProofKit
import Derived.OpenShut
import Derived.Handy
import Derived.Lib.Hide
import Derived.Test.YtnomppdmhgefiaaGreatF05
import Derived.Test.YtnomppdmhgefiaaGreatF08
/- Merged: Wad, Wae. -/
/- Package weight: sets of symbols, isTop. -/
namespace Go.Proofs.YtnomppdmhgefiaaGreat
open Go.RowKit Go.Shelf Go.Maps

/-- a symbol as a value -/
@[reducible] def syV (p : Sy) : Value := .agg #[.string (kb p.1), .int .i64 p.2]
theorem syV_inj {p q : Sy} (h : syV p = syV q) : p = q := by
  unfold syV at h
  injection h with h
  have h0 := congrArg (fun a : Array Value => a[0]?) h
  have h1 := congrArg (fun a : Array Value => a[1]?) h
  simp at h0 h1
  exact Prod.ext (kb_inj.1 h0) h1
theorem syKeyed : Keyed Tryz.prog 141 := Keyed.of_law (deep_law (m := 3) (by omega) (by kernel_rfl) (by kernel_rfl) (by kernel_rfl))
theorem keyOf_sy (p : Sy) (h : p.1.length ≤ 1048576) (h2 : 0 ≤ p.2 ∧ p.2 ≤ 1048576) : ∃ kl, keyOf Tryz.prog 141 (syV p) = some kl := by
  have hs : (kb p.1).size ≤ maxLen := by show p.1.toArray.size ≤ _; unfold maxLen; simp; omega
  have hw : (Lit.int .i64 p.2).wf = true := by
    have := wrap64_wf p.2
    rwa [← IntWalk.i64_left, IntWalk.i64_in _ (by omega)] at this
  have e1 : Tryz.prog.keyType 141 = true := by kernel_rfl
  obtain ⟨d, e2⟩ : ∃ d, Tryz.prog.types.size + 1 = d + 1 + 1 := ⟨Tryz.prog.types.size - 1, by kernel_rfl⟩
  have c0 : Tryz.prog.cellsOf 141 = 2 := by kernel_rfl
  have c1 : Tryz.prog.cellsOf 9 = 1 := by kernel_rfl
  have c2 : Tryz.prog.cellsOf 3 = 1 := by kernel_rfl
  have e3 : (syV p).formed Tryz.prog 141 = true := by simp [Value.formed, Tryz.underlying141, c0]
  unfold keyOf
  rw [Tryz.underlying141]
  simp only [e1, e3, Bool.true_and, if_true, e2]
  simp [Program.keyLits, Tryz.underlying141, Tryz.underlying9, Tryz.underlying3, c0, c1, c2, Value.cells, hs, hw]

/-- the set m in memory holds these symbols -/
def SySet (W : World) (m : Nat) (S : List Sy) : Prop := ∃ (n : Nat) (D : DataW Value), W.ownsMap Tryz.prog 141 imgR m n D ∧ n ≤ S.length ∧ (∀ kl, Maps.has D kl = true ↔ ∃ x ∈ S, keyOf Tryz.prog 141 (syV x) = some kl)
theorem SySet.lt {W : World} {m : Nat} {S : List Sy} (h : SySet W m S) : m < W.heap.size := by obtain ⟨n, D, h, _⟩ := h; exact h.lt
theorem SySet.kept {A B : World} {m : Nat} {S : List Sy} (h : SySet A m S) (hm : B.heap[m]? = A.heap[m]?) : SySet B m S := by
  obtain ⟨n, D, ⟨es, cl, hes, h1⟩, h2⟩ := h
  exact ⟨n, D, ⟨es, cl, hm.trans hes, h1⟩, h2⟩
theorem SySet.made (W : World) : SySet (W.alloc (.map #[] 0)) W.heap.size [] := ⟨0, _, World.ownsMap_made W _ _ _, Nat.le_refl _, fun kl => by simp [Maps.has_eq]⟩
theorem SySet.add {W : World} {m : Nat} {S : List Sy} (h : SySet W m S) (hl : S.length ≤ 1000000000) {p : Sy} {kl : Lit} (hk : keyOf Tryz.prog 141 (syV p) = some kl) :
    ∃ W', (Instr.mapUpdate 187 (.map (some m)) (syV p) (.bool true)).run Tryz.prog W = .ok () W' ∧ SySet W' m (S ++ [p]) ∧ W.mapTurned W' m := by
  obtain ⟨n, D, hown, hn, hs⟩ := h
  obtain ⟨W', r1, r2, r3⟩ := hown.store syKeyed Tryz.underlying187 (by unfold maxLen; omega) hk (val := .bool true) (d := .held (.bool true)) (ps := []) rfl
  refine ⟨W', r1, ⟨n + 1, _, r2, by simp; omega, fun kl' => ?_⟩, r3⟩
  have hil := syKeyed.key hk
  by_cases e : kl' = kl
  · subst e
    rw [has_put_same hown.isMap hil]
    exact ⟨fun _ => ⟨p, by simp, hk⟩, fun _ => rfl⟩
  · rw [has_put_other e, hs]
    constructor
    · rintro ⟨x, hx, h1⟩; exact ⟨x, by simp [hx], h1⟩
    · rintro ⟨x, hx, h1⟩
      rcases List.mem_append.1 hx with hx | hx
      · exact ⟨x, hx, h1⟩
      · obtain rfl := List.mem_singleton.1 hx
        rw [hk] at h1; cases h1; exact absurd rfl e
/-- a key of the set -/
theorem SySet.key {S : List Sy} {D : DataW Value} {v : Value} {kl : Lit} (hs : ∀ kl, Maps.has D kl = true ↔ ∃ x ∈ S, keyOf Tryz.prog 141 (syV x) = some kl) (hk : keyOf Tryz.prog 141 v = some kl) (hh : Maps.has D kl = true) : ∃ p ∈ S, v = syV p := by
  obtain ⟨p, hp, h1⟩ := (hs kl).1 hh
  exact ⟨p, hp, syKeyed.inj hk h1⟩
/-- the keys of the symbols -/
def SyKs (S : List Sy) : Prop := ∀ x ∈ S, x.1.length ≤ 1048576 ∧ 0 ≤ x.2 ∧ x.2 ≤ 1048576
open Classical in
noncomputable def topB (L : List Rk) (S : List Sy) (x : Sy) : Bool := decide (∀ y ∈ S, x ≠ y → rkOf L y.1 < rkOf L x.1)
theorem topB_yes {L : List Rk} {S : List Sy} {x : Sy} (h : ∀ y ∈ S, x ≠ y → rkOf L y.1 < rkOf L x.1) : topB L S x = true := by unfold topB; exact decide_eq_true h
theorem topB_no {L : List Rk} {S : List Sy} {x y : Sy} (hy : y ∈ S) (hne : x ≠ y) (h : ¬ rkOf L y.1 < rkOf L x.1) : topB L S x = false := by unfold topB; exact decide_eq_false fun k => h (k y hy hne)
theorem topB_iff {L : List Rk} {S : List Sy} {x : Sy} : topB L S x = true ↔ ∀ y ∈ S, x ≠ y → rkOf L y.1 < rkOf L x.1 := by unfold topB; exact decide_eq_true_iff

/-- one key is done with -/
theorem tops_step {S : List Sy} {Q : Sy → Prop} {left : Lit → Bool} {p : Sy} {kl : Lit} (h : ∀ y ∈ S, ∀ kl, keyOf Tryz.prog 141 (syV y) = some kl → left kl = true ∨ Q y) (hk : keyOf Tryz.prog 141 (syV p) = some kl) (hq : Q p) :
    ∀ y ∈ S, ∀ kl', keyOf Tryz.prog 141 (syV y) = some kl' → (left kl' && !kl'.sameKey kl) = true ∨ Q y := fun y hy kl' hk' => by
  rcases h y hy kl' hk' with h1 | h1
  · by_cases e : kl' = kl
    · subst e
      obtain rfl := syV_inj (syKeyed.inj hk hk')
      exact .inr hq
    · refine .inl ?_
      rw [h1, sameKey_ne e]; rfl
  · exact .inr h1

set_option maxRecDepth 100000 in
set_option maxHeartbeats 4000000 in
theorem isTop_any {L : List Rk} {u : Int} (HW : Hid (WtOk L u)) (S : List Sy) (HK : Hid (SyKs S)) (x : Sy) (lv : Value) (m : Nat) (w : World) (hL : RksIs w.heap.size w L lv) (hm : SySet w m S) :
    Calls Tryz.prog 126 #[orv lv u, syV x, .map (some m)] w fun e w' => e = .returned (.bool (topB L S x)) ∧ Below w.heap.size w w' := by
  have hlen : L.length ≤ 1048576 := by have := HW.out.len; omega
  have hL' := hL
  obtain ⟨ol, cl, rfl, -, -⟩ := hL'
  obtain ⟨n, D, hown, hn, hs⟩ := hm
  have HL := Lib.hid hL
  have HS := Lib.hid hs
  have HMLT := Lib.hid hown.lt
  have hB0 : Below w.heap.size w ((w.alloc (.cells #[.slice ol L.length cl, .int .i64 u] 132)).alloc (.cells #[.string (kb x.1), .int .i64 x.2] 141)) := by go_grown
  have HB0 := Lib.hid hB0
  have HX0 := Lib.hid (show ((w.alloc (.cells #[.slice ol L.length cl, .int .i64 u] 132)).alloc (.cells #[.string (kb x.1), .int .i64 x.2] 141)).heap[w.heap.size]? = some (.cells #[.slice ol L.length cl, .int .i64 u] 132 (0, 0)) from (Below.heap_alloc _ _ _ (by simp)).trans (heap_new_at _ _ _ rfl))
  have HY0 := Lib.hid (show ((w.alloc (.cells #[.slice ol L.length cl, .int .i64 u] 132)).alloc (.cells #[.string (kb x.1), .int .i64 x.2] 141)).heap[w.heap.size + 1]? = some (.cells #[.string (kb x.1), .int .i64 x.2] 141 (0, 0)) from heap_new_at _ _ _ (by simp))
  have HOWN0 := Lib.hid ((hown.alloc (.cells #[.slice ol L.length cl, .int .i64 u] 132)).alloc (.cells #[.string (kb x.1), .int .i64 x.2] 141))
  have HE : Hid (∀ (k : Key) (W : World), Below w.heap.size w W → Calls Tryz.prog 125 #[.agg #[.slice ol L.length cl, .int .i64 u], .string (kb k)] W fun e w' => e = .returned (rkv (entryOf L k)) ∧ Below W.heap.size W w') := Lib.hid fun k W hW => entry_any L u k _ W (HL.out.carry hW hW.size) hlen HW.out.nms
  clear hL hs hown hB0
  have hfd := rkFld1
  go_enter Tryz.func126, Tryz.ntmps126
  rw [show orv (.slice ol L.length cl) u = .agg #[.slice ol L.length cl, .int .i64 u] from rfl, show syV x = .agg #[.string (kb x.1), .int .i64 x.2] from rfl]
  go_wp2_with fail
  refine (HE.out x.1 _ HB0.out).mono ?_
  rintro e w1 ⟨rfl, hb1⟩
  have HB1 := Lib.hid (HB0.out.trans (hb1.mono HB0.out.size))
  have HX1 := Lib.hid ((hb1.block _ (Array.getElem?_eq_some_iff.1 HX0.out).1).trans HX0.out)
  have HY1 := Lib.hid ((hb1.block _ (Array.getElem?_eq_some_iff.1 HY0.out).1).trans HY0.out)
  have HOWN1 := Lib.hid (HOWN0.out.kept (below_grown hb1) (by simp))
  clear hb1 HX0 HY0 HOWN0 HB0
  generalize hp0 : entryOf L x.1 = p0
  have HP0 : Hid (p0.2.1 = rkOf L x.1) := Lib.hid (by rw [← hp0]; rfl)
  clear hp0
  go_wp2_with (first
    | (at_range; refine wpList_range_own _ rfl _ 187 rfl 141 4 syKeyed Tryz.underlying187 imgR m n D rfl HOWN1.out ?_; intro w0 hrg0 hg0 hs0)
    | go_in)
  go_frame
  have hz1 := HB1.out.size
  have hzx := (Array.getElem?_eq_some_iff.1 HX1.out).1
  have hzy := (Array.getElem?_eq_some_iff.1 HY1.out).1
  have hB0 : Below w1.heap.size w1 w0 := ⟨hg0.os, hg0.tape, hg0.output, hg0.size, fun k hk => hg0.block k hk (by simp)⟩
  generalize hr : w1.heap.size = r at hrg0 hs0 hB0 hz1 hzx hzy ⊢
  clear hfd
  go_loopw [16] (fun _ wr => ∃ (left : Lit → Bool) (cnt : Nat), Hid (wr.ranges Tryz.prog 141 imgR m r n D left cnt) ∧ Hid (∀ kl, left kl = true → Maps.has D kl = true) ∧ Hid (∀ y ∈ S, ∀ kl, keyOf Tryz.prog 141 (syV y) = some kl → left kl = true ∨ (x ≠ y → rkOf L y.1 < rkOf L x.1)) ∧ Hid (Below r w1 wr)) (fun _ wr => wr.rangeLeft m r)
  case atStart => exact ⟨_, _, Lib.hid hrg0, Lib.hid (fun kl h => h), Lib.hid (fun y hy kl hk => .inl ((HS.out kl).2 ⟨y, hy, hk⟩)), Lib.hid hB0⟩
  case round =>
    obtain ⟨left, cnt, HRG, HSUB, HT, HB⟩ := hrel
    go_wp2_with (first
      | (at_next; refine wpList_next_ranges _ rfl _ rfl 141 syKeyed imgR id id (fun key kl _ => ⟨key, rfl⟩) (fun v y _ => ⟨v, rfl⟩) m r n D left cnt rfl HRG.out ?_ ?_)
      | go_in)
    · intro _ hno
      have HX : Hid (topB L S x = true) := Lib.hid (topB_yes fun y hy hne => by
        obtain ⟨kl, hk⟩ := keyOf_sy y (HK.out y hy).1 (HK.out y hy).2
        rcases HT.out y hy kl hk with h | h
        · rw [hno kl] at h; cases h
        · exact h hne)
      clear hno
      go_wp2_with fail
      go_ret
      exact ⟨by rw [HX.out]; rfl, HB1.out.trans (HB.out.mono hz1)⟩
    · intro v c kl yd yp w2 cnt1 hkey hlx hR hat hrg1 hlt hg1 hs1 hen
      obtain ⟨p, hp, rfl⟩ := SySet.key HS.out hkey (HSUB.out kl hlx)
      have hbw : Below r w1 w2 := HB.out.trans ⟨hg1.os, hg1.tape, hg1.output, hg1.size, fun k hk => hg1.block k (by have := HB.out.size; omega) (by simp; omega)⟩
      have HBW := Lib.hid hbw
      have HP := Lib.hid hp
      have HKEY := Lib.hid hkey
      have HRG1 := Lib.hid hrg1
      have hA : Below w2.heap.size w2 (w2.alloc (.cells #[.string (kb p.1), .int .i64 p.2] 141)) := by go_grown
      have hbb := hbw.trans (hA.mono (by have := hbw.size; have := hrg1.lt; omega))
      have hx2 := (box2w ((hbb.block _ hzx).trans HX1.out)).1
      have hy2 := (box2w ((hbb.block _ hzy).trans HY1.out)).1
      have HBB := Lib.hid hbb
      obtain ⟨x0, x1⟩ := hx2
      obtain ⟨y0, y1⟩ := hy2
      have hlef := HRG.out.left_eq
      have hrel1 := hrg1.left_eq
      have hlt1 := hrg1.lt
      have hml1 := hrg1.owns.lt
      clear hbw hp hkey hrg1 hg1 hlx hR hat hA hbb
      have hen : (Instr.entry (.pointer (some ⟨r, 0, none⟩))).run Tryz.prog w2 = .ok (.tuple #[syV p, c]) w2 := hen
      have HAL : Hid (Below w2.heap.size w2 (w2.alloc (.cells #[.string (kb p.1), .int .i64 p.2] 141))) := Lib.hid (by go_grown)
      by_cases hxp : x = p
      · subst hxp
        go_wp2_with fail
        have HK3 := HAL
        have HBB3 := HBB
        exact ⟨⟨_, cnt1, Lib.hid (ranges_keep2 HRG1.out (HK3.out.block m hml1) (HK3.out.block r hlt1)), Lib.hid (fun kl h => HSUB.out kl (by simp only [Bool.and_eq_true] at h; exact h.1)), Lib.hid (tops_step HT.out HKEY.out (fun h => absurd rfl h)), HBB3⟩, by rw [(ranges_keep2 HRG1.out (HK3.out.block m hml1) (HK3.out.block r hlt1)).left_eq]; omega⟩
      · have HXP := Lib.hid hxp
        by_cases hn1 : p.1 = x.1
        · have hn2 : ¬ p.2 = x.2 := fun e => hxp (Prod.ext hn1.symm e.symm)
          have hb1 := kb_beq_yes hn1
          have hb2 : (p.2 == x.2) = false := by rw [beq_eq_false_iff_ne]; exact hn2
          clear hn1 hn2 hxp
          go_wp2_with fail
          refine (HE.out p.1 _ (HB1.out.trans (HBB.out.mono hz1))).mono ?_
          rintro e w3 ⟨rfl, hb3⟩
          have HK3 : Hid (Below w2.heap.size w2 w3) := Lib.hid (HAL.out.trans (hb3.mono (by simp)))
          have HBB3 : Hid (Below r w1 w3) := Lib.hid (HBB.out.trans (hb3.mono (by have := HBB.out.size; simp; omega)))
          generalize hp1 : entryOf L p.1 = p1
          have HP1 : Hid (p1.2.1 = rkOf L p.1) := Lib.hid (by rw [← hp1]; rfl)
          clear hp1 hb3
          have hfd := rkFld1
          by_cases hlt3 : p1.2.1 < p0.2.1
          · have hd : decide (p1.2.1 < p0.2.1) = true := decide_eq_true hlt3
            have HLT : Hid (rkOf L p.1 < rkOf L x.1) := Lib.hid (by rw [← HP0.out, ← HP1.out]; exact hlt3)
            go_wp2_with fail
            exact ⟨⟨_, cnt1, Lib.hid (ranges_keep2 HRG1.out (HK3.out.block m hml1) (HK3.out.block r hlt1)), Lib.hid (fun kl h => HSUB.out kl (by simp only [Bool.and_eq_true] at h; exact h.1)), Lib.hid (tops_step HT.out HKEY.out (fun _ => HLT.out)), HBB3⟩, by rw [(ranges_keep2 HRG1.out (HK3.out.block m hml1) (HK3.out.block r hlt1)).left_eq]; omega⟩
          · have hd : decide (p1.2.1 < p0.2.1) = false := decide_eq_false hlt3
            have HX : Hid (topB L S x = false) := Lib.hid (topB_no HP.out HXP.out (by rw [← HP0.out, ← HP1.out]; exact hlt3))
            go_wp2_with fail
            go_ret
            exact ⟨by rw [HX.out]; rfl, HB1.out.trans (HBB3.out.mono hz1)⟩
        · have hb1 := kb_beq_no hn1
          clear hn1 hxp
          go_wp2_with fail
          refine (HE.out p.1 _ (HB1.out.trans (HBB.out.mono hz1))).mono ?_
          rintro e w3 ⟨rfl, hb3⟩
          have HK3 : Hid (Below w2.heap.size w2 w3) := Lib.hid (HAL.out.trans (hb3.mono (by simp)))
          have HBB3 : Hid (Below r w1 w3) := Lib.hid (HBB.out.trans (hb3.mono (by have := HBB.out.size; simp; omega)))
          generalize hp1 : entryOf L p.1 = p1
          have HP1 : Hid (p1.2.1 = rkOf L p.1) := Lib.hid (by rw [← hp1]; rfl)
          clear hp1 hb3
          have hfd := rkFld1
          by_cases hlt3 : p1.2.1 < p0.2.1
          · have hd : decide (p1.2.1 < p0.2.1) = true := decide_eq_true hlt3
            have HLT : Hid (rkOf L p.1 < rkOf L x.1) := Lib.hid (by rw [← HP0.out, ← HP1.out]; exact hlt3)
            go_wp2_with fail
            exact ⟨⟨_, cnt1, Lib.hid (ranges_keep2 HRG1.out (HK3.out.block m hml1) (HK3.out.block r hlt1)), Lib.hid (fun kl h => HSUB.out kl (by simp only [Bool.and_eq_true] at h; exact h.1)), Lib.hid (tops_step HT.out HKEY.out (fun _ => HLT.out)), HBB3⟩, by rw [(ranges_keep2 HRG1.out (HK3.out.block m hml1) (HK3.out.block r hlt1)).left_eq]; omega⟩
          · have hd : decide (p1.2.1 < p0.2.1) = false := decide_eq_false hlt3
            have HX : Hid (topB L S x = false) := Lib.hid (topB_no HP.out HXP.out (by rw [← HP0.out, ← HP1.out]; exact hlt3))
            go_wp2_with fail
            go_ret
            exact ⟨by rw [HX.out]; rfl, HB1.out.trans (HBB3.out.mono hz1)⟩
end Go.Proofs.YtnomppdmhgefiaaGreat
/- Package weight: isAdmissible. -/
namespace Go.Proofs.YtnomppdmhgefiaaGreat
open Go.RowKit Go.Shelf Go.Maps

/-- while the set is made -/
structure AmSt (w W : World) (lv : Value) (u : Int) (S : List Sy) : Prop where
  box : W.heap[w.heap.size]? = some (.cells #[lv, .int .i64 u] 132 (0, 0))
  set : SySet W (w.heap.size + 1) S
  low : Below w.heap.size w W
theorem AmSt.below {w A W : World} {lv : Value} {u : Int} {S : List Sy} (h : AmSt w A lv u S) (hb : Below A.heap.size A W) : AmSt w W lv u S :=
  ⟨(hb.block _ (Array.getElem?_eq_some_iff.1 h.box).1).trans h.box, h.set.kept (hb.block _ h.set.lt), h.low.trans (hb.mono h.low.size)⟩
theorem AmSt.turned {w A W : World} {lv : Value} {u : Int} {S S' : List Sy} (h : AmSt w A lv u S) (ht : A.mapTurned W (w.heap.size + 1)) (hs : SySet W (w.heap.size + 1) S') : AmSt w W lv u S' :=
  ⟨(ht.grown.block _ (Array.getElem?_eq_some_iff.1 h.box).1 (fun e => by injection e with e; omega)).trans h.box, hs, h.low.grown ht.grown h.low.size fun j hj => by cases hj; omega⟩
set_option maxRecDepth 100000 in
set_option maxHeartbeats 4000000 in
theorem isAdm_any {L : List Rk} {u : Int} (HW : Hid (WtOk L u)) (S : List Sy) (HK : Hid (SyKs S)) (hSl : S.length ≤ 4194304) (lv sv : Value) (w : World) (hL : RksIs w.heap.size w L lv) (hS : SyIs w.heap.size w S sv) :
    Calls Tryz.prog 68 #[orv lv u, sv] w fun e w' => e = .returned (.bool (admB L u S)) ∧ Below w.heap.size w w' := by
  have hlen : L.length ≤ 1048576 := by have := HW.out.len; omega
  have hL' := hL
  obtain ⟨ol, cl, rfl, -, -⟩ := hL'
  obtain ⟨os, cs, rfl, hcap, hc⟩ := hS
  have HC := Lib.hid hc
  have HL := Lib.hid hL
  have H0 : Hid (AmSt w ((w.alloc (.cells #[.slice ol L.length cl, .int .i64 u] 132)).alloc (.map #[] 0)) (.slice ol L.length cl) u []) := Lib.hid ⟨(Below.heap_alloc _ _ _ (by simp)).trans (heap_new_at _ _ _ rfl), by have h := SySet.made (w.alloc (.cells #[.slice ol L.length cl, .int .i64 u] 132)); simpa using h, by go_grown⟩
  have HE : Hid (∀ (k : Key) (W : World), Below w.heap.size w W → Calls Tryz.prog 125 #[.agg #[.slice ol L.length cl, .int .i64 u], .string (kb k)] W fun e w' => e = .returned (rkv (entryOf L k)) ∧ Below W.heap.size W w') := Lib.hid fun k W hW => entry_any L u k _ W (HL.out.carry hW hW.size) hlen HW.out.nms
  have HTOP : Hid (∀ (x : Sy) (m : Nat) (W : World), Below w.heap.size w W → SySet W m S → Calls Tryz.prog 126 #[.agg #[.slice ol L.length cl, .int .i64 u], syV x, .map (some m)] W fun e w' => e = .returned (.bool (topB L S x)) ∧ Below W.heap.size W w') := Lib.hid fun x m W hW hm => isTop_any HW S HK x _ m W (HL.out.carry hW hW.size) hm
  clear hc hL
  have hmm := @run_makeMap Tryz.prog
  go_enter Tryz.func68, Tryz.ntmps68
  rw [show orv (.slice ol L.length cl) u = .agg #[.slice ol L.length cl, .int .i64 u] from rfl]
  go_wp2_with fail
  clear hmm
  go_loopw [13] (fun i wr => ∃ k : Nat, k ≤ S.length ∧ i = .int .i64 k ∧ Hid (AmSt w wr (.slice ol L.length cl) u (S.take k))) (fun i _ => S.length - (intOf i).toNat)
  case atStart => exact ⟨0, by omega, rfl, H0⟩
  case round =>
    obtain ⟨k, hk, rfl, HA⟩ := hrel
    by_cases hlt : k < S.length
    · obtain ⟨p, hp⟩ : ∃ p, S[k]? = some p := ⟨_, List.getElem?_eq_getElem hlt⟩
      obtain ⟨b1, o1, rfl, hbn, hc1⟩ := HC.out (by rintro rfl; simp at hlt)
      obtain ⟨c0, c1⟩ := hc1 k p hp
      have c0 := (HA.out.low.cell (p := ⟨b1, _, none⟩) hbn).trans c0
      have c1 := (HA.out.low.cell (p := ⟨b1, _, none⟩) hbn).trans c1
      obtain ⟨kl, hkl⟩ := keyOf_sy p (HK.out p (List.mem_of_getElem? hp)).1 (HK.out p (List.mem_of_getElem? hp)).2
      have hA2 : Below wr.heap.size wr (wr.alloc (.cells #[.string (kb p.1), .int .i64 p.2] 141)) := by go_grown
      have HA2 := Lib.hid (HA.out.below hA2)
      obtain ⟨W3, hrun, hset, hturn⟩ := HA2.out.set.add (by rw [List.length_take]; omega) hkl
      have HA3 : Hid (AmSt w W3 (.slice ol L.length cl) u (S.take (k + 1))) := Lib.hid (HA2.out.turned hturn (by rw [List.take_add_one, hp]; exact hset))
      clear hc1 hp hkl hA2 hset hturn
      go_wp2_with fail
      exact ⟨⟨k + 1, by omega, by go_num, HA3⟩, by simp [intOf]; omega⟩
    · obtain rfl : k = S.length := by omega
      have hset := HA.out.set
      rw [List.take_length] at hset
      obtain ⟨n, D, hown, hn, hs⟩ := id hset
      have HSET := Lib.hid hset
      have HS := Lib.hid hs
      have HOWN := Lib.hid hown
      have HLOW := Lib.hid HA.out.low
      have HBOX := Lib.hid HA.out.box
      have hmlt := hown.lt
      clear hset hown hs HA
      go_wp2_with (first
        | (at_range; refine wpList_range_own _ rfl _ 187 rfl 141 4 syKeyed Tryz.underlying187 imgR (w.heap.size + 1) n D rfl HOWN.out ?_; intro w0 hrg0 hg0 hs0)
        | go_in)
      go_frame
      have hz1 := HLOW.out.size
      have hB0 : Below wr.heap.size wr w0 := ⟨hg0.os, hg0.tape, hg0.output, hg0.size, fun k hk => hg0.block k hk (by simp)⟩
      have HW1 := HLOW
      have HSET1 := HSET
      have HBOX1 := HBOX
      clear HLOW HSET HBOX
      generalize hr : wr.heap.size = r at hrg0 hs0 hB0 hz1 hmlt ⊢
      generalize wr = w1 at hr hB0 HW1 HSET1 HBOX1 HOWN hg0 ⊢
      go_loopw [22] (fun _ wr => ∃ (left : Lit → Bool) (cnt : Nat), Hid (wr.ranges Tryz.prog 141 imgR (w.heap.size + 1) r n D left cnt) ∧ Hid (∀ kl, left kl = true → Maps.has D kl = true) ∧ Hid (∀ y ∈ S, ∀ kl, keyOf Tryz.prog 141 (syV y) = some kl → left kl = true ∨ AdmX L u S y) ∧ Hid (Below r w1 wr)) (fun _ wr => wr.rangeLeft (w.heap.size + 1) r)
      case atStart => exact ⟨_, _, Lib.hid hrg0, Lib.hid (fun kl h => h), Lib.hid (fun y hy kl hk => .inl ((HS.out kl).2 ⟨y, hy, hk⟩)), Lib.hid hB0⟩
      case round =>
        obtain ⟨left, cnt, HRG, HSUB, HT, HB⟩ := hrel
        go_wp2_with (first
          | (at_next; refine wpList_next_ranges _ rfl _ rfl 141 syKeyed imgR id id (fun key kl _ => ⟨key, rfl⟩) (fun v y _ => ⟨v, rfl⟩) (w.heap.size + 1) r n D left cnt rfl HRG.out ?_ ?_)
          | go_in)
        · intro _ hno
          have HX : Hid (admB L u S = true) := Lib.hid (admB_yes.2 fun y hy => by
            obtain ⟨kl, hk⟩ := keyOf_sy y (HK.out y hy).1 (HK.out y hy).2
            rcases HT.out y hy kl hk with h | h
            · rw [hno kl] at h; cases h
            · exact h)
          clear hno
          go_wp2_with fail
          go_ret
          exact ⟨by rw [HX.out]; rfl, HW1.out.trans (HB.out.mono hz1)⟩
        · intro v c kl yd yp w2 cnt1 hkey hlx hR hat hrg1 hlt hg1 hs1 hen
          obtain ⟨p, hp, rfl⟩ := SySet.key HS.out hkey (HSUB.out kl hlx)
          have hbw : Below r w1 w2 := HB.out.trans ⟨hg1.os, hg1.tape, hg1.output, hg1.size, fun k hk => hg1.block k (by have := HB.out.size; omega) (by simp; omega)⟩
          have HP := Lib.hid hp
          have HKEY := Lib.hid hkey
          have HRG1 := Lib.hid hrg1
          have hA : Below w2.heap.size w2 (w2.alloc (.cells #[.string (kb p.1), .int .i64 p.2] 141)) := by go_grown
          have hbb := hbw.trans (hA.mono (by have := hbw.size; have := hrg1.lt; omega))
          have hxb := (Array.getElem?_eq_some_iff.1 HBOX1.out).1
          obtain ⟨x0, x1⟩ := (box2w ((hbb.block _ (by omega)).trans HBOX1.out)).1
          have HBB := Lib.hid hbb
          have HAL := Lib.hid hA
          have hlef := HRG.out.left_eq
          have hrel1 := hrg1.left_eq
          have hlt1 := hrg1.lt
          have hml1 := hrg1.owns.lt
          clear hbw hp hkey hrg1 hg1 hlx hR hat hA hbb
          have hen : (Instr.entry (.pointer (some ⟨r, 0, none⟩))).run Tryz.prog w2 = .ok (.tuple #[syV p, c]) w2 := hen
          go_wp2_with fail
          have HBXP := Lib.hid (heap_new_at w2 (.cells #[.string (kb p.1), .int .i64 p.2] 141) wr.heap.size hs1.symm)
          refine (HE.out p.1 _ (HW1.out.trans (HBB.out.mono hz1))).mono ?_
          rintro e w3 ⟨rfl, hb3⟩
          have HK3 : Hid (Below w2.heap.size w2 w3) := Lib.hid (HAL.out.trans (hb3.mono (by simp)))
          have HBB3 : Hid (Below r w1 w3) := Lib.hid (HBB.out.trans (hb3.mono (by have := HBB.out.size; simp; omega)))
          have HBX3 := Lib.hid ((hb3.block _ (by simp; omega)).trans HBXP.out)
          generalize hp1 : entryOf L p.1 = p1
          have HP1 : Hid (p1.2.2 = wtOf L p.1) := Lib.hid (by rw [← hp1]; rfl)
          clear hp1 hb3 x0 x1
          obtain ⟨x0, x1⟩ := (box2w ((HBB3.out.block _ (by omega)).trans HBOX1.out)).1
          obtain ⟨y0, y1⟩ := (box2w HBX3.out).1
          have hfd := rkFld2
          by_cases h0 : p.2 = 0
          · have hd0 : (p.2 == 0) = true := by rw [h0]; rfl
            have hd1 : (p.2 == 1) = false := by rw [h0]; rfl
            by_cases hw : p1.2.2 < u
            · have hdw : decide (p1.2.2 < u) = true := decide_eq_true hw
              have HX : Hid (admB L u S = false) := Lib.hid (admB_no.2 fun h => by have := (h p HP.out).1 h0; rw [← HP1.out] at this; omega)
              go_wp2_with fail
              go_ret
              exact ⟨by rw [HX.out]; rfl, HW1.out.trans (HBB3.out.mono hz1)⟩
            · have hdw : decide (p1.2.2 < u) = false := decide_eq_false hw
              have HOK : Hid (AdmX L u S p) := Lib.hid ⟨fun _ => by rw [← HP1.out]; omega, fun h1 => by omega⟩
              have HBF := HBB3
              go_wp2_with fail
              exact ⟨⟨_, cnt1, Lib.hid (ranges_keep2 HRG1.out (HK3.out.block _ hml1) (HK3.out.block r hlt1)), Lib.hid (fun kl h => HSUB.out kl (by simp only [Bool.and_eq_true] at h; exact h.1)), Lib.hid (tops_step HT.out HKEY.out HOK.out), HBF⟩, by rw [(ranges_keep2 HRG1.out (HK3.out.block _ hml1) (HK3.out.block r hlt1)).left_eq]; omega⟩
          · have hd0 : (p.2 == 0) = false := by rw [beq_eq_false_iff_ne]; exact h0
            by_cases h1 : p.2 = 1
            · have hd1 : (p.2 == 1) = true := by rw [h1]; rfl
              by_cases hz : p1.2.2 = 0
              · have hdz : (p1.2.2 == 0) = true := by rw [hz]; rfl
                have HZ : Hid (wtOf L p.1 = 0) := Lib.hid (by rw [← HP1.out]; exact hz)
                have HH0 := Lib.hid h0
                have HH1 := Lib.hid h1
                clear h0 h1 hz
                go_wp2_with fail
                refine (HTOP.out p _ _ (HW1.out.trans (HBB3.out.mono hz1)) (HSET1.out.kept (HBB3.out.block _ (by omega)))).mono ?_
                rintro e w4 ⟨rfl, hb4⟩
                have HK4 : Hid (Below w2.heap.size w2 w4) := Lib.hid (HK3.out.trans (hb4.mono HK3.out.size))
                have HBB4 : Hid (Below r w1 w4) := Lib.hid (HBB3.out.trans (hb4.mono (by have := HBB3.out.size; omega)))
                clear hb4 x0 x1 y0 y1
                cases ht : topB L S p with
                | true =>
                  have HOK : Hid (AdmX L u S p) := Lib.hid ⟨fun h => absurd h HH0.out, fun _ _ => topB_iff.1 ht⟩
                  clear ht
                  have HBF := HBB4
                  go_wp2_with fail
                  exact ⟨⟨_, cnt1, Lib.hid (ranges_keep2 HRG1.out (HK4.out.block _ hml1) (HK4.out.block r hlt1)), Lib.hid (fun kl h => HSUB.out kl (by simp only [Bool.and_eq_true] at h; exact h.1)), Lib.hid (tops_step HT.out HKEY.out HOK.out), HBF⟩, by rw [(ranges_keep2 HRG1.out (HK4.out.block _ hml1) (HK4.out.block r hlt1)).left_eq]; omega⟩
                | false =>
                  have HT0 := Lib.hid ht
                  clear ht
                  have HX : Hid (admB L u S = false) := Lib.hid (admB_no.2 fun h => by rw [topB_iff.2 ((h p HP.out).2 HH1.out HZ.out)] at HT0; exact absurd HT0.out (by simp))
                  go_wp2_with fail
                  go_ret
                  exact ⟨by rw [HX.out]; rfl, HW1.out.trans (HBB4.out.mono hz1)⟩
              · have hdz : (p1.2.2 == 0) = false := by rw [beq_eq_false_iff_ne]; exact hz
                have HOK : Hid (AdmX L u S p) := Lib.hid ⟨fun h => absurd h h0, fun _ h2 => absurd (HP1.out.trans h2) hz⟩
                clear h0 h1 hz
                have HBF := HBB3
                go_wp2_with fail
                exact ⟨⟨_, cnt1, Lib.hid (ranges_keep2 HRG1.out (HK3.out.block _ hml1) (HK3.out.block r hlt1)), Lib.hid (fun kl h => HSUB.out kl (by simp only [Bool.and_eq_true] at h; exact h.1)), Lib.hid (tops_step HT.out HKEY.out HOK.out), HBF⟩, by rw [(ranges_keep2 HRG1.out (HK3.out.block _ hml1) (HK3.out.block r hlt1)).left_eq]; omega⟩
            · have hd1 : (p.2 == 1) = false := by rw [beq_eq_false_iff_ne]; exact h1
              have HOK : Hid (AdmX L u S p) := Lib.hid ⟨fun h => absurd h h0, fun h2 => absurd h2 h1⟩
              clear h0 h1
              have HBF := HBB3
              go_wp2_with fail
              exact ⟨⟨_, cnt1, Lib.hid (ranges_keep2 HRG1.out (HK3.out.block _ hml1) (HK3.out.block r hlt1)), Lib.hid (fun kl h => HSUB.out kl (by simp only [Bool.and_eq_true] at h; exact h.1)), Lib.hid (tops_step HT.out HKEY.out HOK.out), HBF⟩, by rw [(ranges_keep2 HRG1.out (HK3.out.block _ hml1) (HK3.out.block r hlt1)).left_eq]; omega⟩
end Go.Proofs.YtnomppdmhgefiaaGreat
/- The reference's CompareNames draws only; CheckSubst of the reference. -/
namespace Go.Proofs.YtnomppdmhgefiaaGreat
open Go.RowKit

def cmpN (a b : ByteArray) : Int := if a = b then 0 else if a.data.toList < b.data.toList then -1 else 1
theorem cmpN_is {a b : ByteArray} {x y : Int} (h1 : cmpi x y = 0 ↔ a = b) (h2 : cmpi x y < 0 ↔ a.data.toList < b.data.toList) : cmpi x y = cmpN a b := by
  unfold cmpN
  by_cases e : a = b
  · rw [if_pos e]; exact h1.2 e
  · rw [if_neg e]
    have h0 : cmpi x y ≠ 0 := fun h => e (h1.1 h)
    by_cases l : a.data.toList < b.data.toList
    · rw [if_pos l]; have := h2.2 l; unfold cmpi at *; split <;> simp_all <;> omega
    · rw [if_neg l]; have : ¬ cmpi x y < 0 := fun h => l (h2.1 h); unfold cmpi at *; split <;> simp_all <;> omega
theorem drew_more {w v : World} (h : ∃ m, v = w.drewN m) (n : Nat) : ∃ m, v.drewN n = w.drewN m := by
  obtain ⟨m, rfl⟩ := h
  exact ⟨m + n, by rw [World.drewN_drewN]⟩
set_option maxHeartbeats 1000000 in
theorem cmpNames_quiet (a b : ByteArray) (w : World) (ha : a.size ≤ 1048576) (hb : b.size ≤ 1048576) :
    Calls Tryz.prog 52 #[.string a, .string b] w fun e w' => e = .returned (.int .i64 (cmpN a b)) ∧ ∃ m, w' = w.drewN m := by
  go_enter Tryz.func52, Tryz.ntmps52
  go_wp2_with fail
  go_loopw [5, 11] (fun _ i wr => ∃ k : Nat, k ≤ a.size ∧ k ≤ b.size ∧ i = .int .i64 k ∧ Hid (∀ j, j < k → a.data.toList[j]? = b.data.toList[j]?) ∧ Hid (∃ m, wr = w.drewN m)) (fun _ i _ => a.size - (intOf i).toNat)
  case atStart => exact ⟨0, by omega, by omega, rfl, Lib.hid (fun j h => absurd h (by omega)), Lib.hid ⟨0, rfl⟩⟩
  case round =>
    obtain ⟨k, hka, hkb, rfl, HE, hbw⟩ := hrel
    by_cases hlt : k < a.size ∧ k < b.size
    · obtain ⟨h1, h2⟩ := hlt
      have GA := Lib.hid (bytes_get h1)
      have GB := Lib.hid (bytes_get h2)
      by_cases hq : a[k].toNat = b[k].toNat
      · have HQ : Hid (a[k] = b[k]) := Lib.hid (UInt8.toNat_inj.1 hq)
        have hbb : (((a[k]'h1).toNat : Int) != ((b[k]'h2).toNat : Int)) = false := by rw [bne_eq_false_iff_eq]; omega
        clear hq
        go_wp2_with fail
        go_quiet (fail)
        go_wp2_with fail
        exact ⟨⟨k + 1, by omega, by omega, by go_num, Lib.hid (fun j hj => by
          by_cases e : j = k
          · subst e; rw [GA.out, GB.out, HQ.out]
          · exact HE.out j (by omega)), Lib.hid (drew_more hbw.out nq)⟩, by simp [intOf]; omega⟩
      · have HQ : Hid (a ≠ b) := Lib.hid (fun e => hq (by subst e; rfl))
        have HLT : Hid (cmpi ((a[k]'h1).toNat : Int) ((b[k]'h2).toNat : Int) < 0 ↔ a.data.toList < b.data.toList) := Lib.hid (by
          rw [cmpi_neg, lt_split HE.out GA.out GB.out (fun e => hq (by rw [e])), UInt8.lt_iff_toNat_lt]; omega)
        have HZ : Hid (cmpi ((a[k]'h1).toNat : Int) ((b[k]'h2).toNat : Int) ≠ 0) := Lib.hid (fun e => hq (by have := (cmpi_zero _ _).1 e; omega))
        have hbb : (((a[k]'h1).toNat : Int) != ((b[k]'h2).toNat : Int)) = true := by rw [bne_iff_ne]; omega
        clear hq
        go_wp2_with fail
        go_quiet (fail)
        go_wp2_with fail
        have hbq := Lib.hid (drew_more hbw.out nq)
        generalize wr.drewN nq = wq at hbq ⊢
        have hla := UInt8.toNat_lt (a[k]'h1)
        have hlb := UInt8.toNat_lt (b[k]'h2)
        have hwa : IntKind.i64.wrap ((a[k]'h1).toNat : Int) = ((a[k]'h1).toNat : Int) := IntWalk.i64_in _ (by omega)
        have hwb : IntKind.i64.wrap ((b[k]'h2).toNat : Int) = ((b[k]'h2).toNat : Int) := IntWalk.i64_in _ (by omega)
        go_quiet ((go_at_call 112; exact Calls.quiet_of_same ((cmpInts_any _ _ _).mono fun _ _ h => ⟨h.1, h.2.symm⟩)))
        go_wp2_with fail
        go_ret
        exact ⟨congrArg (fun c => Ending.returned (.int .i64 c)) (cmpN_is ⟨fun h => absurd h HZ.out, fun h => absurd h HQ.out⟩ HLT.out), drew_more hbq.out _⟩
    · go_wp2_with fail
      refine (cmpInts_any _ _ _).mono ?_
      rintro e w2 ⟨rfl, rfl⟩
      go_wp2_with fail
      go_ret
      refine ⟨congrArg (fun c => Ending.returned (.int .i64 c)) (cmpN_is ⟨fun h => ?_, fun h => ?_⟩ ?_), hbw.out⟩
      · have := (cmpi_zero _ _).1 h
        exact names_eq (by omega) (fun j hj => HE.out j (by omega))
      · subst h; exact (cmpi_zero _ _).2 rfl
      · rw [cmpi_neg, lt_end HE.out (by rw [bytes_len]; omega) (by rw [bytes_len]; omega) (by rw [bytes_len, bytes_len]; omega), bytes_len, bytes_len]; omega
theorem kb_data (a : Key) : (kb a).data.toList = a := rfl
theorem cmpN_yes {a b : Key} (h : a < b) : decide (0 ≤ cmpN (kb a) (kb b)) = false := by
  unfold cmpN
  rw [kb_data, kb_data, if_neg (fun e => by
    have h2 : a = b := by rw [← kb_data a, ← kb_data b, e]
    subst h2; exact absurd h (List.lt_irrefl _)), if_pos h]
  rfl
theorem cmpN_no {a b : Key} (h : ¬ a < b) : decide (0 ≤ cmpN (kb a) (kb b)) = true := by
  unfold cmpN
  rw [kb_data, kb_data, if_neg h]
  split <;> rfl
end Go.Proofs.YtnomppdmhgefiaaGreat
