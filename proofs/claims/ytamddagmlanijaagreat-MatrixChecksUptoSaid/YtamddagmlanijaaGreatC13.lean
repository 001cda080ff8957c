/- Packed: Mxo, Fit, Blk, Kp, Tlk, Hm. -/
import Derived.Test.YtamddagmlanijaaGreatC12
import Derived.Maps.OwnIn
import Derived.Test.YtamddagmlanijaaGreatC05
import Derived.Test.YtamddagmlanijaaGreatC06
import Derived.WalkKit
import Derived.ProofKit
import Derived.Maps.OwnSet
import Derived.Maps.OwnOps
import Derived.OpenShut
import Derived.Handy
import Derived.Lib.Hide
/- The reference of package matrix: Monotone. -/
namespace Go.Proofs.YtamddagmlanijaaGreat
open Go.RowKit Go.Shelf

theorem ent_fit {l : List Mx} {x : Key × Int} {n : Nat} (h : x.2 = (n : Int)) : (entAns l x.1 n).1 = fitB l x := by
  unfold entAns fitB
  cases findM l x.1 with
  | none => rfl
  | some p => exact decide_eq_decide.2 (by rw [h]; omega)
theorem ent_mon {l : List Mx} {x : Key × Int} {n : Nat} : (entAns l x.1 n).2.all (fun y => decide (0 < y)) = monB l x := by
  unfold entAns monB
  cases findM l x.1 with
  | none => simp
  | some p =>
    simp only
    rw [List.all_map, List.not_any_eq_all_not]
    congr 1
    funext m
    show decide (0 < hdM m) = !decide (hdM m = 0)
    by_cases h : hdM m = 0
    · rw [h]; rfl
    · rw [decide_eq_true (by omega), decide_eq_false h]; rfl
theorem ent_len {d : Nat} {l : List Mx} (h : MxOk d l) {k : Key} {n : Nat} (hn : n ≤ 8) : (entAns l k n).2.length ≤ 8 := by
  unfold entAns
  cases hf : findM l k with
  | none => simpa using hn
  | some p =>
    have h1 := (h.ents p (findM_some hf).1).1
    unfold formB at h1
    simp only [Bool.and_eq_true, decide_eq_true_eq] at h1
    simpa using h1.1.2
theorem arBad_no {s : List (Key × Int)} (h : symC s = 0) {x : Key × Int} (hx : x ∈ s) : 0 ≤ x.2 ∧ x.2 ≤ 8 := by
  unfold symC at h
  split at h
  · cases h
  · split at h
    · cases h
    · rename_i h2
      simp only [Bool.not_eq_true] at h2
      rw [List.any_eq_false] at h2
      have := h2 x hx
      unfold arBad at this
      simp only [decide_eq_true_eq] at this
      omega
set_option maxRecDepth 100000 in
set_option maxHeartbeats 8000000 in
theorem r9Monotone_any (d : Nat) (l : List Mx) (s : List (Key × Int)) (v sv : Value) (w : World) (hl : MxsIs w.heap.size w l v) (hs : mxsSm l) (hok : MxOk d l) (hv : SymsIs w.heap.size w s sv) (hss : symSm s) (hm0 : matC d l = 0) :
    Calls Tryz.prog 36 #[.int .i64 (d : Int), v, sv] w fun e w' => e = .returned (.tuple #[.bool (monAns d l s).1, .int .i64 (monAns d l s).2]) ∧ Below w.heap.size w w' := by
  have HEN : Hid (∀ W (k : Key) (n : Nat), Below w.heap.size w W → n ≤ 8 → Calls Tryz.prog 93 #[.int .i64 (d : Int), v, .string (kb k), .int .i64 (n : Int)] W fun e w' => EyPost l k n w' e ∧ Below W.heap.size W w') := Lib.hid fun W k n hW hn => rEntry9_any d l k n v W (hl.carry keeps_MxsIs hW hW.size) hs hok hn
  obtain ⟨oa, cap, rfl⟩ := hl.shape
  obtain ⟨os, cs, rfl⟩ := hv.shape
  have HV := Lib.hid hv
  have HSS := Lib.hid hss
  have hslen := hss.1
  have HM0 := Lib.hid hm0
  have HOK := Lib.hid hok
  clear hl hv hs hss hok hm0
  go_enter Tryz.func36, Tryz.ntmps36
  go_wp2_with fail
  refine (r8CheckSymbols_any s _ w HV.out HSS.out).mono ?_
  rintro e w1 ⟨rfl, hb1⟩
  have HB1 := Lib.hid hb1
  clear hb1
  by_cases hsc : symC s = 0
  rotate_left
  · have HA : Hid (monAns d l s = (false, symC s)) := Lib.hid (by unfold monAns; rw [if_neg (by rw [HM0.out]; simp), if_pos hsc])
    have hd1 : (symC s != 0) = true := by rw [bne_iff_ne]; exact hsc
    clear hsc
    generalize symC s = z at *
    go_wp2_with fail
    go_ret2
    exact ⟨by rw [HA.out]; rfl, HB1.out⟩
  have HSC := Lib.hid hsc
  rw [hsc]
  clear hsc
  go_wp2_with fail
  go_loopw [9, 23] (fun o i wr => ∃ k : Nat, k ≤ s.length ∧ i = .int .i64 k ∧ o = .bool (!((s.take k).any fun x => !monB l x)) ∧ Hid ((s.take k).any (fun x => !fitB l x) = false) ∧ Hid (Below w.heap.size w wr)) (fun _ i _ => s.length - (intOf i).toNat)
  case atStart => exact ⟨0, by omega, rfl, by simp, Lib.hid (by simp), HB1⟩
  case round =>
    obtain ⟨k, hk, rfl, rfl, HF, HB⟩ := hrel
    by_cases hlt : k < s.length
    · obtain ⟨b, o, x, rfl, hb, hx, c0, c1⟩ := SymsIs.two (HV.out.carry keeps_SymsIs HB.out HB.out.size) hlt
      have HX := Lib.hid hx
      have har := arBad_no HSC.out (List.mem_of_getElem? hx)
      obtain ⟨n, hn⟩ : ∃ n : Nat, x.2 = (n : Int) := ⟨x.2.toNat, by omega⟩
      have hn8 : n ≤ 8 := by omega
      have HN := Lib.hid hn
      rw [hn] at c1
      clear hx har hn
      have HBX : Hid (Below w.heap.size w (wr.alloc (.cells #[.string (kb x.1), .int .i64 (n : Int)] 110))) := Lib.hid (HB.out.alloc HB.out.size _)
      generalize hbo : (!((s.take k).any fun x => !monB l x)) = bo at *
      have HBO := Lib.hid hbo
      clear hbo
      go_wp2_with fail
      refine (HEN.out _ x.1 n HBX.out hn8).mono ?_
      rintro e w2 ⟨⟨nm, ov, nv, cv, om, cm, rfl, hhd⟩, hb2⟩
      have HB2 : Hid (Below w.heap.size w w2) := Lib.hid (HBX.out.trans (hb2.mono HBX.out.size))
      have HFI : Hid ((entAns l x.1 n).1 = fitB l x) := Lib.hid (ent_fit HN.out)
      have HMO : Hid ((entAns l x.1 n).2.all (fun y => decide (0 < y)) = monB l x) := Lib.hid ent_mon
      have HHD := Lib.hid hhd
      have hxl := ent_len (k := x.1) HOK.out hn8
      clear hb2 hhd HBX
      generalize (entAns l x.1 n).1 = ft at *
      generalize (entAns l x.1 n).2 = xs at *
      cases ft
      · have HA : Hid (monAns d l s = (false, 10)) := Lib.hid (by
          unfold monAns
          rw [if_neg (by rw [HM0.out]; simp), if_neg (by rw [HSC.out]; simp), if_pos]
          exact List.any_eq_true.2 ⟨x, List.mem_of_getElem? HX.out, by rw [← HFI.out]; rfl⟩)
        go_wp2_with fail
        go_ret2
        exact ⟨by rw [HA.out]; rfl, HB2.out.alloc HB2.out.size _⟩
      have hbx : Below w2.heap.size w2 (w2.alloc (.cells #[.string nm, .slice ov nv cv, .slice om xs.length cm] 142)) := by go_grown
      have HH3 : Hid (HdIs (w2.alloc (.cells #[.string nm, .slice ov nv cv, .slice om xs.length cm] 142)).heap.size (w2.alloc (.cells #[.string nm, .slice ov nv cv, .slice om xs.length cm] 142)) xs (.slice om xs.length cm)) := Lib.hid (HHD.out.carry keeps_HdIs hbx hbx.size)
      have HB3 : Hid (Below w.heap.size w (w2.alloc (.cells #[.string nm, .slice ov nv cv, .slice om xs.length cm] 142))) := Lib.hid (HB2.out.alloc HB2.out.size _)
      clear hbx HHD
      go_wp2_with fail
      go_loopw [9, 42] (fun o i wq => ∃ q : Nat, q ≤ xs.length ∧ i = .int .i64 q ∧ o = .bool (bo && (xs.take q).all fun y => decide (0 < y)) ∧ Hid (Below w.heap.size w wq ∧ HdIs wq.heap.size wq xs (.slice om xs.length cm))) (fun _ i _ => xs.length - (intOf i).toNat)
      case atStart => exact ⟨0, by omega, rfl, by simp, Lib.hid ⟨HB3.out, HH3.out⟩⟩
      case round =>
        obtain ⟨q, hq, rfl, rfl, HQ⟩ := hrel
        by_cases hqt : q < xs.length
        · obtain ⟨b3, o3, y, g, og, m, c, h, oh, r, ch, rfl, hb3, hy, d0, hm1, d1, hr1, d2⟩ := HdIs.at1 HQ.out.2 hqt
          have HY := Lib.hid hy
          clear hy
          have hm1' : (0 : Int) < (m : Int) := by omega
          have hr1' : (0 : Int) < (r : Int) := by omega
          have HNX : Hid ((xs.take (q + 1)).all (fun y => decide (0 < y)) = ((xs.take q).all (fun y => decide (0 < y)) && decide (0 < y))) := Lib.hid (by
            rw [List.take_add_one, HY.out, List.all_append]; simp)
          cases hcur : (bo && (xs.take q).all fun y => decide (0 < y))
          · have HCU : Hid ((bo && (xs.take (q + 1)).all fun y => decide (0 < y)) = false) := Lib.hid (by rw [HNX.out, ← Bool.and_assoc, hcur]; rfl)
            clear hcur
            go_wp2_with fail
            exact ⟨⟨q + 1, by omega, by push_cast; rfl, by rw [HCU.out], HQ⟩, by simp only [intOf]; omega⟩
          · have hdy : decide ((0 : Int) < (y : Int)) = decide (0 < y) := decide_eq_decide.2 (by omega)
            have HCU : Hid ((bo && (xs.take (q + 1)).all fun y => decide (0 < y)) = decide (0 < y)) := Lib.hid (by rw [HNX.out, ← Bool.and_assoc, hcur]; rfl)
            clear hcur
            go_wp2_with fail
            exact ⟨⟨q + 1, by omega, by push_cast; rfl, by rw [HCU.out, ← hdy], HQ⟩, by simp only [intOf]; omega⟩
        · obtain rfl : q = xs.length := by omega
          have HNB : Hid ((bo && (xs.take xs.length).all fun y => decide (0 < y)) = !((s.take (k + 1)).any fun x => !monB l x)) := Lib.hid (by
            rw [List.take_length, HMO.out, List.take_add_one, HX.out, List.any_append, Bool.not_or, HBO.out]
            simp)
          have HNF : Hid ((s.take (k + 1)).any (fun x => !fitB l x) = false) := Lib.hid (by
            rw [List.take_add_one, HX.out, List.any_append, HF.out]
            simp [← HFI.out])
          go_wp2_with fail
          exact ⟨⟨k + 1, by omega, by push_cast; rfl, by rw [HNB.out], HNF, Lib.hid HQ.out.1⟩, by simp only [intOf]; omega⟩
    · obtain rfl : k = s.length := by omega
      have HA : Hid (monAns d l s = (!(s.any fun x => !monB l x), 0)) := Lib.hid (by
        unfold monAns
        have h := HF.out
        rw [List.take_length] at h
        rw [if_neg (by rw [HM0.out]; simp), if_neg (by rw [HSC.out]; simp), if_neg (by rw [h]; simp)])
      have HT : Hid ((s.take s.length).any (fun x => !monB l x) = s.any fun x => !monB l x) := Lib.hid (by rw [List.take_length])
      go_wp2_with fail
      go_ret2
      exact ⟨by rw [HA.out, ← HT.out]; rfl, HB.out⟩
end Go.Proofs.YtamddagmlanijaaGreat
/- What fits measures: plain facts; look-ups in the map of images. fits: does the term with its bindings applied stay small? -/
namespace Go.Proofs.YtamddagmlanijaaGreat
open Go.RowKit Go.Maps

/-- a node's part of the size and of the depth of what is built -/
def szV (bl : List Bd) (v : View) : Nat := if v.2.2.1 then (imageOf bl v.2.1.data.toList).size else 1
def szs (bl : List Bd) (l : List View) : Nat := (l.map (szV bl)).sum
section
variable {w : World} {ops : Array Oper} {rest : List Oper} {o : Oper} {a : Act} {Q : Exit → Act → World → Prop} {F : Fence} {nF : Nat}
end
end Go.Proofs.YtamddagmlanijaaGreat
namespace Go.Proofs.YtamddagmlanijaaGreat
open Go.RowKit Go.Shelf
attribute [local go_sem] Oper.semAt_some

/-- the variables of fits, as they lie -/
structure FitMem (w W : World) (mv : Value) (sz dp : Int) : Prop where
  mb : Boxed W w.heap.size 238 mv
  sb : Boxed W (w.heap.size + 1 + 1) 3 (.int .i64 sz)
  db : Boxed W (w.heap.size + 1 + 1 + 1) 3 (.int .i64 dp)
  bl : Below w.heap.size w W
theorem FitMem.kept {w W W' : World} {mv : Value} {sz dp : Int} {row : Option Nat} (h : FitMem w W mv sz dp) (hg : W.grownBy W' row) (hr : ∀ r, row = some r → w.heap.size ≤ r ∧ ∃ o : Obj, W.heap[r]? = some o ∧ o.isCells = false) : FitMem w W' mv sz dp :=
  ⟨held_kept h.mb hg fun r e => (hr r e).2, held_kept h.sb hg fun r e => (hr r e).2, held_kept h.db hg fun r e => (hr r e).2, h.bl.grown hg h.bl.size fun r e => (hr r e).1⟩
theorem FitMem.below {w W W' : World} {mv : Value} {sz dp : Int} (h : FitMem w W mv sz dp) (hb : Below W.heap.size W W') : FitMem w W' mv sz dp :=
  h.kept (row := none) ⟨hb.os, hb.tape, hb.output, hb.size, fun i hi _ => hb.block i hi⟩ (fun r e => by cases e)
theorem FitMem.setS {w W : World} {mv : Value} {sz dp : Int} (h : FitMem w W mv sz dp) (v : Int) : FitMem w (W.setCell ⟨w.heap.size + 1 + 1, 0, none⟩ (.int .i64 v)) mv v dp :=
  ⟨(heap_set_other _ _ _ _ (by omega)).trans h.mb, h.sb.set _, (heap_set_other _ _ _ _ (by omega)).trans h.db, h.bl.setCell (p := ⟨w.heap.size + 1 + 1, 0, none⟩) (by simp; omega) _⟩
theorem FitMem.setD {w W : World} {mv : Value} {sz dp : Int} (h : FitMem w W mv sz dp) (v : Int) : FitMem w (W.setCell ⟨w.heap.size + 1 + 1 + 1, 0, none⟩ (.int .i64 v)) mv sz v :=
  ⟨(heap_set_other _ _ _ _ (by omega)).trans h.mb, (heap_set_other _ _ _ _ (by omega)).trans h.sb, h.db.set _, h.bl.setCell (p := ⟨w.heap.size + 1 + 1 + 1, 0, none⟩) (by simp; omega) _⟩

end Go.Proofs.YtamddagmlanijaaGreat
/- How many letters a term takes that is formed and small. -/
namespace Go.Proofs.YtamddagmlanijaaGreat
open Go.RowKit

theorem Tm.bulks_by_sizes (l : List Tm) (k : Nat) (h : ∀ u ∈ l, u.bulk ≤ k * u.size) : Tm.bulks l ≤ k * Tm.sizes l := by
  induction l with
  | nil => simp [Tm.bulks]
  | cons x l ih =>
    have h1 := h x (by simp)
    have h2 := ih fun u hu => h u (by simp [hu])
    simp only [Tm.bulks, Tm.sizes, Nat.mul_add]
    omega
theorem isName_le24 {s : ByteArray} {m : Bool} (h : isName s m = true) : s.size ≤ 24 := by
  unfold isName at h
  simp only [Bool.and_eq_true, decide_eq_true_eq] at h
  exact h.1.2
theorem Tm.formed.bulk25 {t : Tm} (h : t.formed) : t.bulk ≤ 25 * t.size := by
  induction t using Tm.ind with
  | h t ih =>
    obtain ⟨h1, h2⟩ := (Tm.formed_iff t).1 h
    have hn : t.nm.size ≤ 24 := by
      unfold nodeOk at h1
      split at h1
      · simp only [Bool.and_eq_true] at h1; exact isName_le24 h1.1
      · simp only [Bool.and_eq_true] at h1; exact isName_le24 h1.1
    have := Tm.bulks_by_sizes t.ts 25 fun u hu => ih u hu (h2 u hu)
    rw [Tm.bulk_eq, Tm.size_eq]
    omega

theorem Tm.ok.bulk {t : Tm} (h : t.ok) : t.bulk ≤ 100000 := by
  have h1 := h.1.bulk25
  have h2 := h.2.1
  omega
theorem SubOk.bulk {bl : List Bd} (h : SubOk bl) (hl : bl.length ≤ 1048576) : bdBulk bl ≤ 1048576 :=
  bdBulk_le hl fun p hp => by
    have h1 := (h.terms p hp).bulk
    have h2 := isName_le24 (h.names p hp)
    have h3 : (kb p.1).size = p.1.length := by show p.1.toArray.size = _; simp
    omega
end Go.Proofs.YtamddagmlanijaaGreat
/- What may change beside maps: blocks of cells stay. Lists of pairs as maps; a map of terms, a map of strings in memory. -/
namespace Go.Proofs.YtamddagmlanijaaGreat
open Go.RowKit Go.Maps

/-- blocks below n and all blocks of cells are as they were -/
structure KpC (n : Nat) (A B : World) : Prop where
  low : Below n A B
  cells : ∀ (k : Nat) (c : Array Value) (t : TypeId) (f : Nat × Nat), A.heap[k]? = some (Obj.cells c t f) → B.heap[k]? = some (Obj.cells c t f)
theorem KpC.refl (n : Nat) (A : World) : KpC n A A := ⟨Below.refl _ _, fun _ _ _ _ h => h⟩
theorem KpC.size {n : Nat} {A B : World} (h : KpC n A B) : A.heap.size ≤ B.heap.size := h.low.size
theorem KpC.trans {n : Nat} {A B C : World} (h : KpC n A B) (k : KpC n B C) : KpC n A C := ⟨h.low.trans k.low, fun i c t f hc => k.cells i c t f (h.cells i c t f hc)⟩
theorem KpC.of_below {n : Nat} {A B : World} (h : Below A.heap.size A B) (hn : n ≤ A.heap.size) : KpC n A B := ⟨h.mono hn, fun k _ _ _ hk => (h.block k (Array.getElem?_eq_some_iff.1 hk).1).trans hk⟩
theorem KpC.mono {n m : Nat} {A B : World} (h : KpC n A B) (hm : m ≤ n) : KpC m A B := ⟨h.low.mono hm, h.cells⟩
theorem KpC.drewN {n : Nat} {A B : World} (h : KpC n A B) (k : Nat) : KpC n A (B.drewN k) := ⟨below_drewN k h.low, h.cells⟩
/-- one map is written -/
theorem KpC.turned {n b : Nat} {A B : World} (h : A.mapTurned B b) (hn : n ≤ b) : KpC n A B := by
  have hg := h.grown
  obtain ⟨es, clock, es', clock', hb, rfl⟩ := h
  have hlt := (Array.getElem?_eq_some_iff.1 hb).1
  refine ⟨⟨hg.os, hg.tape, hg.output, hg.size, fun k hk => hg.block k (by omega) (fun e => by cases e; omega)⟩, fun k c t f hk => ?_⟩
  by_cases e : k = b
  · subst e; rw [hb] at hk; cases hk
  · exact (hg.block k (Array.getElem?_eq_some_iff.1 hk).1 (fun e' => e (by cases e'; rfl))).trans hk
/-- a block that was made since is written -/
theorem KpC.setNew {n : Nat} {A B : World} (h : KpC n A B) (hn : n ≤ A.heap.size) {p : Addr} (hp : A.heap.size ≤ p.block) (v : Value) : KpC n A (B.setCell p v) :=
  ⟨h.low.setCell (Nat.le_trans hn hp) v, fun k c t f hk => (Below.heap_setCell B p v k (by have := (Array.getElem?_eq_some_iff.1 hk).1; omega)).trans (h.cells k c t f hk)⟩
theorem block_of_cell {A : World} {b j : Nat} {v : Value} (h : A.cell? ⟨b, j, none⟩ = some v) : ∃ c t f, A.heap[b]? = some (.cells c t f) := by
  unfold World.cell? at h
  cases hh : A.heap[b]? with
  | none => rw [hh] at h; cases h
  | some ob =>
    cases ob with
    | cells c t fr => exact ⟨c, t, fr, rfl⟩
    | _ => rw [hh] at h; cases h
theorem KpC.same {n : Nat} {A B : World} (h : KpC n A B) {b j : Nat} {v : Value} (hc : A.cell? ⟨b, j, none⟩ = some v) : B.heap[b]? = A.heap[b]? := by
  obtain ⟨c, t, f, hb⟩ := block_of_cell hc
  rw [hb, h.cells _ _ _ _ hb]
theorem KpC.cell {n : Nat} {A B : World} (h : KpC n A B) {b j : Nat} {v : Value} (hc : A.cell? ⟨b, j, none⟩ = some v) : B.cell? ⟨b, j, none⟩ = some v :=
  (World.cell?_of_block (a := ⟨b, _, none⟩) (h.same hc)).trans hc
theorem SlIs.kp {n m n₀ : Nat} {A B : World} (h : KpC n₀ A B) (hn : n ≤ m) {l : List Tm} {s : Value} (hs : SlIs n A l s) : SlIs m B l s := by
  induction hs with
  | nil0 => exact .nil0
  | nil1 a cap => exact .nil1 a cap
  | row b o cap l s hl hb hc cells _ hf ih =>
    have hblk : B.heap[b]? = A.heap[b]? := by
      obtain ⟨t, r, rfl⟩ : ∃ t r, l = t :: r := by
        cases l with
        | nil => exact absurd rfl hl
        | cons t r => exact ⟨t, r, rfl⟩
      exact h.same (cells 0 t rfl).1
    refine .row b o cap l s hl (by omega) hc (fun i t ht => ?_) ih (fun i hi => (frozen_same hblk _).trans (hf i hi))
    obtain ⟨h1, h2, h3⟩ := cells i t ht
    exact ⟨h.cell h1, h.cell h2, h.cell h3⟩

/-- lists of pairs as maps -/
def getA {α : Type} (l : List (Key × α)) (k : Key) : Option α := (l.find? (fun p => decide (p.1 = k))).map (·.2)
def putA {α : Type} (l : List (Key × α)) (k : Key) (v : α) : List (Key × α) := if k ∈ l.map (·.1) then l.map (fun p => if p.1 = k then (k, v) else p) else l ++ [(k, v)]
section
variable {α : Type}
theorem getA_none {l : List (Key × α)} {k : Key} : getA l k = none ↔ k ∉ l.map (·.1) := by
  unfold getA
  rw [Option.map_eq_none_iff, List.find?_eq_none]
  constructor
  · intro h hm
    obtain ⟨p, hp, he⟩ := List.mem_map.1 hm
    have := h p hp
    simp [he] at this
  · intro h p hp
    simp only [decide_eq_true_eq]
    intro e; exact h (List.mem_map.2 ⟨p, hp, e⟩)
theorem getA_some {l : List (Key × α)} {k : Key} {v : α} (h : getA l k = some v) : (k, v) ∈ l := by
  unfold getA at h
  rw [Option.map_eq_some_iff] at h
  obtain ⟨p, hp, rfl⟩ := h
  have h1 := List.find?_some hp
  have h2 := List.mem_of_find?_eq_some hp
  simp only [decide_eq_true_eq] at h1
  subst h1; exact h2
theorem getA_mem {l : List (Key × α)} {k : Key} : k ∈ l.map (·.1) ↔ ∃ v, getA l k = some v := by
  constructor
  · intro h
    cases hg : getA l k with
    | none => exact absurd h (getA_none.1 hg)
    | some v => exact ⟨v, rfl⟩
  · rintro ⟨v, h⟩
    exact List.mem_map.2 ⟨_, getA_some h, rfl⟩
theorem getA_append {l r : List (Key × α)} (k : Key) : getA (l ++ r) k = (getA l k).or (getA r k) := by
  unfold getA
  rw [List.find?_append]
  cases l.find? (fun p => decide (p.1 = k)) <;> rfl
theorem putA_keys (l : List (Key × α)) (k : Key) (v : α) : (putA l k v).map (·.1) = addKey (l.map (·.1)) k := by
  unfold putA addKey
  split
  · rw [List.map_map]
    refine List.map_congr_left fun p _ => ?_
    simp only [Function.comp]
    split
    · rename_i h; exact h.symm
    · rfl
  · rw [List.map_append]; rfl
theorem getA_put (l : List (Key × α)) (k k' : Key) (v : α) : getA (putA l k v) k' = if k' = k then some v else getA l k' := by
  unfold putA
  split
  · rename_i hk
    have key : ∀ l : List (Key × α), getA (l.map (fun p => if p.1 = k then (k, v) else p)) k' = if k' = k then (if k ∈ l.map (·.1) then some v else none) else getA l k' := by
      intro l
      induction l with
      | nil => simp [getA]
      | cons p l ih =>
        unfold getA at ih ⊢
        rw [List.map_cons, List.find?_cons, List.find?_cons]
        by_cases h1 : p.1 = k
        · by_cases h2 : k' = k
          · subst h2; simp [h1]
          · have h3 : ¬ k = k' := fun e => h2 e.symm
            rw [if_pos h1]
            simp only [decide_eq_false h3, h1, if_neg h2] at ih ⊢
            exact ih
        · rw [if_neg h1]
          by_cases h2 : p.1 = k'
          · have h3 : ¬ k' = k := fun e => h1 (h2.trans e)
            simp [h2, h3]
          · simp only [decide_eq_false h2]
            rw [ih]
            by_cases h3 : k' = k
            · have : (k ∈ (p :: l).map (·.1)) ↔ k ∈ l.map (·.1) := by
                rw [List.map_cons, List.mem_cons]
                exact ⟨fun h => h.resolve_left (fun e => h1 e.symm), .inr⟩
              simp only [if_pos h3, this]
            · simp only [if_neg h3]
    rw [key, if_pos hk]
  · rename_i hk
    rw [getA_append]
    by_cases h : k' = k
    · subst h
      rw [getA_none.2 hk, if_pos rfl]; simp [getA]
    · rw [if_neg h]
      have : getA [(k, v)] k' = none := getA_none.2 (by simpa using h)
      rw [this, Option.or_none]
end

theorem _root_.Go.World.ownsMap.tight {H : Type} {P : Program} {k : TypeId} {R : Value → Option (DataW H × List MemPlace)} {w : World} {b n m : Nat} {D : DataW H} (h : w.ownsMap P k R b n D) (hm : Maps.size D = m) : w.ownsMap P k R b m D := by
  obtain ⟨es, clock, hb, F, _, hD⟩ := h
  refine ⟨es, clock, hb, F, ?_, hD⟩
  subst hD
  have e1 : Maps.size (DataW.map ((es.toList.map (Go.WideElems.rg P k R)).foldr DataW.insert [])) = es.size := by simp [Maps.size, length_sorted]
  omega

/-- what a map's datum says of the bindings l -/
structure TInv (n : Nat) (W : World) (D : DataW Value) (l : List Bd) : Prop where
  tidy : Tidy D
  nodup : (l.map (·.1)).Nodup
  size : Maps.size D = l.length
  has : ∀ k, Maps.has D (.string k) = decide (k ∈ l.map (·.1))
  at_ : ∀ k t, getA l k = some t → ∃ s, (∀ z, D.atKey (.string k) z = .held (tmv t s)) ∧ SlIs n W t.ts s
/-- block mb holds a map of terms -/
def TMap (n : Nat) (W : World) (mb : Nat) (l : List Bd) : Prop := ∃ D : DataW Value, W.ownsMap Tryz.prog 9 imgR mb l.length D ∧ TInv n W D l
theorem TMap.lt {n : Nat} {W : World} {mb : Nat} {l : List Bd} (h : TMap n W mb l) : mb < W.heap.size := by obtain ⟨D, h, _⟩ := h; exact h.lt
theorem TMap.nodup {n : Nat} {W : World} {mb : Nat} {l : List Bd} (h : TMap n W mb l) : (l.map (·.1)).Nodup := by obtain ⟨D, _, h⟩ := h; exact h.nodup
theorem TMap.kept {n n' m mb : Nat} {A B : World} {l : List Bd} (h : TMap n A mb l) (hk : KpC n' A B) (hn : n ≤ m) (hm : B.heap[mb]? = A.heap[mb]?) : TMap m B mb l := by
  obtain ⟨D, ⟨es, cl, hes, h1⟩, h2⟩ := h
  exact ⟨D, ⟨es, cl, hm.trans hes, h1⟩, h2.tidy, h2.nodup, h2.size, h2.has, fun k t hg => by obtain ⟨s, h3, h4⟩ := h2.at_ k t hg; exact ⟨s, h3, h4.kp hk hn⟩⟩
theorem TInv.put {n : Nat} {W : World} {D : DataW Value} {l : List Bd} (h : TInv n W D l) {k : Key} {t : Tm} {s : Value} (hs : SlIs n W t.ts s) : TInv n W (D.put (.string k) (.held (tmv t s))) (putA l k t) := by
  have hl : WideAt.IsKeyLit (.string k) := trivial
  have hks := putA_keys l k t
  refine ⟨h.tidy.put hl _, by rw [hks]; exact addKey_nodup h.nodup _, ?_, fun k' => ?_, fun k' t' hg => ?_⟩
  · have h1 : (putA l k t).length = ((putA l k t).map (·.1)).length := by rw [List.length_map]
    rw [h1, hks, size_put h.tidy, h.has, h.size]
    unfold addKey
    by_cases e : k ∈ l.map (·.1)
    · simp only [e, decide_true, if_true, List.length_map]
    · simp only [e, decide_false, if_false, List.length_append, List.length_map]; simp
  · rw [hks]
    by_cases e : k' = k
    · subst e; rw [has_put_same h.tidy.isMap hl]; simp [addKey_mem]
    · rw [has_put_other (by simpa using e), h.has]
      unfold addKey
      split
      · rfl
      · simp [e]
  · rw [getA_put] at hg
    by_cases e : k' = k
    · subst e
      rw [if_pos rfl] at hg; cases hg
      exact ⟨s, fun z => atKey_put_same h.tidy.isMap hl _ z, hs⟩
    · rw [if_neg e] at hg
      obtain ⟨s', h1, h2⟩ := h.at_ k' t' hg
      exact ⟨s', fun z => by rw [atKey_put_other (by simpa using e)]; exact h1 z, h2⟩

/-- block mb holds a map of strings -/
structure KInv (D : DataW Unit) (l : List (Key × Key)) : Prop where
  tidy : Tidy D
  nodup : (l.map (·.1)).Nodup
  size : Maps.size D = l.length
  has : ∀ k, Maps.has D (.string k) = decide (k ∈ l.map (·.1))
  at_ : ∀ k v, getA l k = some v → ∀ z, D.atKey (.string k) z = .lit (.string v)
def KMap (W : World) (mb : Nat) (l : List (Key × Key)) : Prop := ∃ D : DataW Unit, W.ownsMap Tryz.prog 9 (plainElem Tryz.prog 9) mb l.length D ∧ KInv D l
theorem KMap.lt {W : World} {mb : Nat} {l : List (Key × Key)} (h : KMap W mb l) : mb < W.heap.size := by obtain ⟨D, h, _⟩ := h; exact h.lt
theorem KMap.kept {mb : Nat} {A B : World} {l : List (Key × Key)} (h : KMap A mb l) (hm : B.heap[mb]? = A.heap[mb]?) : KMap B mb l := by
  obtain ⟨D, ⟨es, cl, hes, h1⟩, h2⟩ := h
  exact ⟨D, ⟨es, cl, hm.trans hes, h1⟩, h2⟩
theorem KInv.put {D : DataW Unit} {l : List (Key × Key)} (h : KInv D l) (k v : Key) : KInv (D.put (.string k) (.lit (.string v))) (putA l k v) := by
  have hl : WideAt.IsKeyLit (.string k) := trivial
  have hks := putA_keys l k v
  refine ⟨h.tidy.put hl _, by rw [hks]; exact addKey_nodup h.nodup _, ?_, fun k' => ?_, fun k' t' hg z => ?_⟩
  · have h1 : (putA l k v).length = ((putA l k v).map (·.1)).length := by rw [List.length_map]
    rw [h1, hks, size_put h.tidy, h.has, h.size]
    unfold addKey
    by_cases e : k ∈ l.map (·.1)
    · simp only [e, decide_true, if_true, List.length_map]
    · simp only [e, decide_false, if_false, List.length_append, List.length_map]; simp
  · rw [hks]
    by_cases e : k' = k
    · subst e; rw [has_put_same h.tidy.isMap hl]; simp [addKey_mem]
    · rw [has_put_other (by simpa using e), h.has]
      unfold addKey
      split
      · rfl
      · simp [e]
  · rw [getA_put] at hg
    by_cases e : k' = k
    · subst e
      rw [if_pos rfl] at hg; cases hg
      exact atKey_put_same h.tidy.isMap hl _ z
    · rw [if_neg e] at hg
      rw [atKey_put_other (by simpa using e)]; exact h.at_ k' t' hg z

end Go.Proofs.YtamddagmlanijaaGreat
/- Maps of terms at the walk: a key that is there, one that is not, a store. -/
namespace Go.Proofs.YtamddagmlanijaaGreat
open Go.RowKit Go.Maps

theorem TMap.at {n : Nat} {W : World} {mb : Nat} {l : List Bd} (h : TMap n W mb l) {k : Key} {t : Tm} (hk : getA l k = some t) :
    ∃ D s, W.ownsMap Tryz.prog 9 imgR mb l.length D ∧ Maps.has D (.string k) = true ∧ (∀ z, D.atKey (.string k) z = .held (tmv t s)) ∧ SlIs n W t.ts s := by
  obtain ⟨D, h1, h2⟩ := h
  obtain ⟨s, h3, h4⟩ := h2.at_ k t hk
  exact ⟨D, s, h1, by rw [h2.has]; exact decide_eq_true (getA_mem.2 ⟨t, hk⟩), h3, h4⟩
theorem TMap.no {n : Nat} {W : World} {mb : Nat} {l : List Bd} (h : TMap n W mb l) {k : Key} (hk : getA l k = none) :
    ∃ D, W.ownsMap Tryz.prog 9 imgR mb l.length D ∧ Maps.has D (.string k) = false ∧ TInv n W D l := by
  obtain ⟨D, h1, h2⟩ := h
  exact ⟨D, h1, by rw [h2.has]; exact decide_eq_false (getA_none.1 hk), h2⟩
section
variable (w : World) {ops : Array Oper} {rest : List Oper} {o : Oper} {a : Act} {Q : Exit → Act → World → Prop}
end
/-- a map of terms after a store -/
theorem TMap.store {n n' : Nat} {W W' : World} {mb : Nat} {l : List Bd} {D : DataW Value} (hi : TInv n W D l) {k : Key} {t : Tm} {s : Value} (hs : SlIs n W t.ts s) {j : Nat} (ho : W'.ownsMap Tryz.prog 9 imgR mb j (D.put (.string k) (.held (tmv t s)))) (hk : KpC n' W W') {m : Nat} (hm : n ≤ m) : TMap m W' mb (putA l k t) := by
  have h := hi.put (k := k) hs
  exact ⟨_, ho.tight h.size, h.tidy, h.nodup, h.size, h.has, fun k' t' hg => by obtain ⟨s', h1, h2⟩ := h.at_ k' t' hg; exact ⟨s', h1, h2.kp hk hm⟩⟩

/-- a map of terms whose arguments lie in blocks of which p holds -/
structure TInvP (p : Nat → Prop) (W : World) (D : DataW Value) (l : List Bd) : Prop where
  tidy : Tidy D
  nodup : (l.map (·.1)).Nodup
  size : Maps.size D = l.length
  has : ∀ k, Maps.has D (.string k) = decide (k ∈ l.map (·.1))
  at_ : ∀ k t, getA l k = some t → ∃ s, (∀ z, D.atKey (.string k) z = .held (tmv t s)) ∧ SlP p W t.ts s
def TMapP (p : Nat → Prop) (W : World) (mb : Nat) (l : List Bd) : Prop := ∃ D : DataW Value, W.ownsMap Tryz.prog 9 imgR mb l.length D ∧ TInvP p W D l
theorem TMapP.lt {p : Nat → Prop} {W : World} {mb : Nat} {l : List Bd} (h : TMapP p W mb l) : mb < W.heap.size := by obtain ⟨D, h, _⟩ := h; exact h.lt
theorem SlP.kpc {p : Nat → Prop} {n : Nat} {A B : World} (h : KpC n A B) {l : List Tm} {s : Value} (hs : SlP p A l s) : SlP p B l s := by
  induction hs with
  | nil0 => exact .nil0
  | nil1 a cap => exact .nil1 a cap
  | row b o cap l s hl hb hc cells _ hf ih =>
    have hblk : B.heap[b]? = A.heap[b]? := by
      obtain ⟨t, r, rfl⟩ : ∃ t r, l = t :: r := by
        cases l with
        | nil => exact absurd rfl hl
        | cons t r => exact ⟨t, r, rfl⟩
      exact h.same (cells 0 t rfl).1
    refine .row b o cap l s hl hb hc (fun i t ht => ?_) ih (fun i hi => (frozen_same hblk _).trans (hf i hi))
    obtain ⟨h1, h2, h3⟩ := cells i t ht
    exact ⟨h.cell h1, h.cell h2, h.cell h3⟩
theorem TMapP.map {p q : Nat → Prop} {A B : World} {mb : Nat} {l : List Bd} (h : TMapP p A mb l) (hm : B.heap[mb]? = A.heap[mb]?) (hc : ∀ (t : Tm) (s : Value), SlP p A t.ts s → SlP q B t.ts s) : TMapP q B mb l := by
  obtain ⟨D, ⟨es, cl, hes, h1⟩, h2⟩ := h
  exact ⟨D, ⟨es, cl, hm.trans hes, h1⟩, h2.tidy, h2.nodup, h2.size, h2.has, fun k t hg => by obtain ⟨s, h3, h4⟩ := h2.at_ k t hg; exact ⟨s, h3, hc t s h4⟩⟩
theorem TMapP.at {p : Nat → Prop} {W : World} {mb : Nat} {l : List Bd} (h : TMapP p W mb l) {k : Key} {t : Tm} (hk : getA l k = some t) :
    ∃ D s, W.ownsMap Tryz.prog 9 imgR mb l.length D ∧ Maps.has D (.string k) = true ∧ (∀ z, D.atKey (.string k) z = .held (tmv t s)) ∧ SlP p W t.ts s := by
  obtain ⟨D, h1, h2⟩ := h
  obtain ⟨s, h3, h4⟩ := h2.at_ k t hk
  exact ⟨D, s, h1, by rw [h2.has]; exact decide_eq_true (getA_mem.2 ⟨t, hk⟩), h3, h4⟩
theorem TMapP.no {p : Nat → Prop} {W : World} {mb : Nat} {l : List Bd} (h : TMapP p W mb l) {k : Key} (hk : getA l k = none) :
    ∃ D, W.ownsMap Tryz.prog 9 imgR mb l.length D ∧ Maps.has D (.string k) = false ∧ TInvP p W D l := by
  obtain ⟨D, h1, h2⟩ := h
  exact ⟨D, h1, by rw [h2.has]; exact decide_eq_false (getA_none.1 hk), h2⟩
theorem TInvP.put {p : Nat → Prop} {W : World} {D : DataW Value} {l : List Bd} (h : TInvP p W D l) {k : Key} {t : Tm} {s : Value} (hs : SlP p W t.ts s) : TInvP p W (D.put (.string k) (.held (tmv t s))) (putA l k t) := by
  have hl : WideAt.IsKeyLit (.string k) := trivial
  have hks := putA_keys l k t
  refine ⟨h.tidy.put hl _, by rw [hks]; exact addKey_nodup h.nodup _, ?_, fun k' => ?_, fun k' t' hg => ?_⟩
  · have h1 : (putA l k t).length = ((putA l k t).map (·.1)).length := by rw [List.length_map]
    rw [h1, hks, size_put h.tidy, h.has, h.size]
    unfold addKey
    by_cases e : k ∈ l.map (·.1)
    · simp only [e, decide_true, if_true, List.length_map]
    · simp only [e, decide_false, if_false, List.length_append, List.length_map]; simp
  · rw [hks]
    by_cases e : k' = k
    · subst e; rw [has_put_same h.tidy.isMap hl]; simp [addKey_mem]
    · rw [has_put_other (by simpa using e), h.has]
      unfold addKey
      split
      · rfl
      · simp [e]
  · rw [getA_put] at hg
    by_cases e : k' = k
    · subst e
      rw [if_pos rfl] at hg; cases hg
      exact ⟨s, fun z => atKey_put_same h.tidy.isMap hl _ z, hs⟩
    · rw [if_neg e] at hg
      obtain ⟨s', h1, h2⟩ := h.at_ k' t' hg
      exact ⟨s', fun z => by rw [atKey_put_other (by simpa using e)]; exact h1 z, h2⟩
/-- after a store -/
theorem TMapP.store {p : Nat → Prop} {n : Nat} {W W' : World} {mb : Nat} {l : List Bd} {D : DataW Value} (hi : TInvP p W D l) {k : Key} {t : Tm} {s : Value} (hs : SlP p W t.ts s) {j : Nat} (ho : W'.ownsMap Tryz.prog 9 imgR mb j (D.put (.string k) (.held (tmv t s)))) (hk : KpC n W W') : TMapP p W' mb (putA l k t) := by
  have h := hi.put (k := k) hs
  exact ⟨_, ho.tight h.size, h.tidy, h.nodup, h.size, h.has, fun k' t' hg => by obtain ⟨s', h1, h2⟩ := h.at_ k' t' hg; exact ⟨s', h1, h2.kpc hk⟩⟩
end Go.Proofs.YtamddagmlanijaaGreat
/- Maps of strings to values held as they are. -/
namespace Go.Proofs.YtamddagmlanijaaGreat
open Go.RowKit Go.Maps

structure HInv {α : Type} (enc : α → Value) (D : DataW Value) (l : List (Key × α)) : Prop where
  tidy : Tidy D
  nodup : (l.map (·.1)).Nodup
  size : Maps.size D = l.length
  has : ∀ k, Maps.has D (.string k) = decide (k ∈ l.map (·.1))
  at_ : ∀ k v, getA l k = some v → ∀ z, D.atKey (.string k) z = .held (enc v)
def HMap {α : Type} (enc : α → Value) (W : World) (mb : Nat) (l : List (Key × α)) : Prop := ∃ D : DataW Value, W.ownsMap Tryz.prog 9 imgR mb l.length D ∧ HInv enc D l
section
variable {α : Type} {enc : α → Value}
theorem HMap.lt {W : World} {mb : Nat} {l : List (Key × α)} (h : HMap enc W mb l) : mb < W.heap.size := by obtain ⟨D, h, _⟩ := h; exact h.lt
theorem HMap.kept {mb : Nat} {A B : World} {l : List (Key × α)} (h : HMap enc A mb l) (hm : B.heap[mb]? = A.heap[mb]?) : HMap enc B mb l := by
  obtain ⟨D, ⟨es, cl, hes, h1⟩, h2⟩ := h
  exact ⟨D, ⟨es, cl, hm.trans hes, h1⟩, h2⟩
theorem HMap.nodup {mb : Nat} {A : World} {l : List (Key × α)} (h : HMap enc A mb l) : (l.map (·.1)).Nodup := by obtain ⟨D, _, h⟩ := h; exact h.nodup
theorem HMap.at {W : World} {mb : Nat} {l : List (Key × α)} (h : HMap enc W mb l) {k : Key} {v : α} (hk : getA l k = some v) :
    ∃ D : DataW Value, W.ownsMap Tryz.prog 9 imgR mb l.length D ∧ Maps.has D (.string k) = true ∧ (∀ z, D.atKey (.string k) z = .held (enc v)) := by
  obtain ⟨D, h1, h2⟩ := h
  exact ⟨D, h1, by rw [h2.has]; exact decide_eq_true (getA_mem.2 ⟨v, hk⟩), h2.at_ k v hk⟩
theorem HMap.no {W : World} {mb : Nat} {l : List (Key × α)} (h : HMap enc W mb l) {k : Key} (hk : getA l k = none) :
    ∃ D : DataW Value, W.ownsMap Tryz.prog 9 imgR mb l.length D ∧ Maps.has D (.string k) = false := by
  obtain ⟨D, h1, h2⟩ := h
  exact ⟨D, h1, by rw [h2.has]; exact decide_eq_false (getA_none.1 hk)⟩
theorem HInv.put {D : DataW Value} {l : List (Key × α)} (h : HInv enc D l) (k : Key) (v : α) : HInv enc (D.put (.string k) (.held (enc v))) (putA l k v) := by
  have hl : WideAt.IsKeyLit (.string k) := trivial
  have hks := putA_keys l k v
  refine ⟨h.tidy.put hl _, by rw [hks]; exact addKey_nodup h.nodup _, ?_, fun k' => ?_, fun k' t' hg z => ?_⟩
  · have h1 : (putA l k v).length = ((putA l k v).map (·.1)).length := by rw [List.length_map]
    rw [h1, hks, size_put h.tidy, h.has, h.size]
    unfold addKey
    by_cases e : k ∈ l.map (·.1)
    · simp only [e, decide_true, if_true, List.length_map]
    · simp only [e, decide_false, if_false, List.length_append, List.length_map]; simp
  · rw [hks]
    by_cases e : k' = k
    · subst e; rw [has_put_same h.tidy.isMap hl]; simp [addKey_mem]
    · rw [has_put_other (by simpa using e), h.has]
      unfold addKey
      split
      · rfl
      · simp [e]
  · rw [getA_put] at hg
    by_cases e : k' = k
    · subst e
      rw [if_pos rfl] at hg; cases hg
      exact atKey_put_same h.tidy.isMap hl _ z
    · rw [if_neg e] at hg
      rw [atKey_put_other (by simpa using e)]; exact h.at_ k' t' hg z
theorem HMap.store {W' : World} {mb : Nat} {l : List (Key × α)} {D : DataW Value} (hi : HInv enc D l) {k : Key} {v : α} {j : Nat} (ho : W'.ownsMap Tryz.prog 9 imgR mb j (D.put (.string k) (.held (enc v)))) : HMap enc W' mb (putA l k v) := by
  have h := hi.put k v
  exact ⟨_, ho.tight h.size, h⟩
theorem HMap.made (W : World) : HMap enc (W.alloc (.map #[] 0)) W.heap.size [] := ⟨_, World.ownsMap_made W _ _ _, tidy_empty, by simp, rfl, (fun k => by simp [Maps.has_eq]), fun k v h => by cases h⟩
end
section
variable (w : World) {ops : Array Oper} {rest : List Oper} {o : Oper} {a : Act} {Q : Exit → Act → World → Prop}
end

end Go.Proofs.YtamddagmlanijaaGreat
