/- Packed: Mxq. -/
import Derived.Test.YtamddagmlanijaaGreatC10
import Derived.Test.YtamddagmlanijaaGreatC11
import Derived.Deep.RegionHeld3
/- The reference of package matrix: Entry. -/
namespace Go.Proofs.YtamddagmlanijaaGreat
open Go.RowKit Go.Shelf

theorem box3k {W : World} {b : Nat} {x y z : Value} {t : TypeId} (h : W.heap[b]? = some (.cells #[x, y, z] t (0, 0))) :
    W.cell? ⟨b, 0, none⟩ = some x ∧ W.cell? ⟨b, 1, none⟩ = some y ∧ W.cell? ⟨b, 2, none⟩ = some z ∧ W.frozen? ⟨b, 0, none⟩ = false ∧ W.frozen? ⟨b, 1, none⟩ = false ∧ W.frozen? ⟨b, 2, none⟩ = false :=
  ⟨cells_of' h 0, cells_of' h 1, cells_of' h 2, frozen_of' h _, frozen_of' h _, frozen_of' h _⟩
theorem box3h {W : World} {b : Nat} {x y z : Value} {t : TypeId} (h : W.heap[b]? = some (.cells #[x, y, z] t (0, 0))) (p q r : Value) :
    (((W.setCell ⟨b, 0, none⟩ p).setCell ⟨b, 1, none⟩ q).setCell ⟨b, 2, none⟩ r).heap[b]? = some (.cells #[p, q, r] t (0, 0)) := by
  simp only [World.setCell, Array.getElem?_modify, if_true, h, Option.map_some]
  rfl
theorem own_below9 {b0 n : Nat} {A W : World} {v : Value} {e : TypeId} {xs : List Value} (h : A.ownsRow b0 e 1 v n xs) (hg : A.grownBy W v.ownBlock) (hb : b0 ≤ A.heap.size) : Below b0 A W := by
  refine (Below.refl b0 A).grown hg hb fun j hj => ?_
  rcases h.2 with ⟨rfl, -⟩ | ⟨g, cap, cur, rfl, hbg, -⟩
  · cases hj
  · cases hj; exact hbg
/-- the matrices made so far -/
def eyVals (gs : Nat → Nat) (d j : Nat) : List Value := (List.range j).map fun i => .slice (some ⟨gs i, 0, none⟩) d d
theorem eyVals_succ (gs : Nat → Nat) (d j g : Nat) : eyVals (fun i => if i = j then g else gs i) d (j + 1) = eyVals gs d j ++ [.slice (some ⟨g, 0, none⟩) d d] := by
  unfold eyVals
  rw [List.range_succ, List.map_append]
  congr 1
  · refine List.map_congr_left fun i hi => ?_
    have := List.mem_range.1 hi
    have hne : i ≠ j := by omega
    simp [hne]
  · simp
structure EyRow (w0 : World) (p2 d j : Nat) (gs hs : Nat → Nat) (vv : Value) (W : World) (oj : Option Addr) (cj : Nat) : Prop where
  own : W.ownsRow (p2 + 1) 148 1 (.slice oj j cj) j (eyVals gs d j)
  el : ∀ i, i < j → (p2 < gs i ∧ p2 < hs i ∧ gs i < W.heap.size ∧ hs i < W.heap.size) ∧ (Value.slice oj j cj).ownBlock ≠ some (gs i) ∧ (Value.slice oj j cj).ownBlock ≠ some (hs i) ∧ W.cell? ⟨gs i, 0, none⟩ = some (.slice (some ⟨hs i, 0, none⟩) d d) ∧ W.cell? ⟨hs i, 0, none⟩ = some (.int .u64 1)
  box : W.heap[p2]? = some (.cells #[.string ⟨#[]⟩, vv, .slice oj j cj] 142 (0, 0))
  res : W.heap[w0.heap.size]? = some zeroMx
  low : Below w0.heap.size w0 W
  lt : w0.heap.size < p2
theorem EyRow.szs {w0 : World} {p2 d j : Nat} {gs hs : Nat → Nat} {vv : Value} {W : World} {oj : Option Addr} {cj : Nat} (h : EyRow w0 p2 d j gs hs vv W oj cj) : p2 < W.heap.size := (Array.getElem?_eq_some_iff.1 h.box).1
theorem EyRow.step {w0 : World} {p2 d j : Nat} {gs hs : Nat → Nat} {vv : Value} {W W2 W3 : World} {oj : Option Addr} {cj : Nat} (h : EyRow w0 p2 d j gs hs vv W oj cj) (hb : Below W.heap.size W W2) {g q : Nat} (hg : W.heap.size ≤ g ∧ W.heap.size ≤ q ∧ g < W2.heap.size ∧ q < W2.heap.size) (hc : W2.cell? ⟨g, 0, none⟩ = some (.slice (some ⟨q, 0, none⟩) d d)) (hd : W2.cell? ⟨q, 0, none⟩ = some (.int .u64 1))
    {og : Option Addr} {cg : Nat} (how : W3.ownsRow (p2 + 1) 148 1 (.slice og (j + 1) cg) (j + 1) (eyVals gs d j ++ [.slice (some ⟨g, 0, none⟩) d d])) (hgr : W2.grownBy W3 (Value.slice oj j cj).ownBlock) (hat : (Value.slice og (j + 1) cg).ownBlock = (Value.slice oj j cj).ownBlock ∨ (Value.slice og (j + 1) cg).ownBlock = some W2.heap.size) :
    EyRow w0 p2 d (j + 1) (fun i => if i = j then g else gs i) (fun i => if i = j then q else hs i) vv (W3.setCell ⟨p2, 2, none⟩ (.slice og (j + 1) cg)) og cg := by
  have hp := h.szs
  have hz := hb.size
  have hz3 := hgr.size
  have hbk : ∀ k, (Value.slice oj j cj).ownBlock = some k → p2 < k ∧ k < W.heap.size := fun k hk => by
    rcases h.own.2 with ⟨e, -⟩ | ⟨b, cap, cur, e, hbg, hh, -⟩
    · rw [e] at hk; cases hk
    · rw [e] at hk; cases hk; exact ⟨by show p2 < b; omega, (Array.getElem?_eq_some_iff.1 hh).1⟩
  have hkeep : ∀ k, k < W2.heap.size → (Value.slice oj j cj).ownBlock ≠ some k → k ≠ p2 → (W3.setCell ⟨p2, 2, none⟩ (.slice og (j + 1) cg)).heap[k]? = W2.heap[k]? := fun k h1 h2 h3 =>
    (Below.heap_setCell _ _ _ _ (by show k ≠ p2; exact h3)).trans (hgr.block k h1 (fun e => h2 e.symm))
  have hkc : ∀ k, k < W2.heap.size → (Value.slice oj j cj).ownBlock ≠ some k → k ≠ p2 → (W3.setCell ⟨p2, 2, none⟩ (.slice og (j + 1) cg)).cell? ⟨k, 0, none⟩ = W2.cell? ⟨k, 0, none⟩ := fun k h1 h2 h3 => World.cell?_of_block (w := W2) (hkeep k h1 h2 h3)
  have hsz : (W3.setCell ⟨p2, 2, none⟩ (.slice og (j + 1) cg)).heap.size = W3.heap.size := by simp [World.setCell]
  have hnew : ∀ k, k < W2.heap.size → (Value.slice oj j cj).ownBlock ≠ some k → (Value.slice og (j + 1) cg).ownBlock ≠ some k := fun k h1 h2 => by
    rcases hat with e | e
    · rw [e]; exact h2
    · rw [e]; intro e2; cases e2; omega
  refine ⟨?_, ?_, ?_, ?_, ?_, h.lt⟩
  · rw [eyVals_succ]
    exact ownsRow_setCell_below how (by show p2 < p2 + 1; omega) _
  · intro i hi
    rw [hsz]
    by_cases e : i = j
    · simp only [if_pos e]
      have n1 : (Value.slice oj j cj).ownBlock ≠ some g := fun e => by have := (hbk g e).2; omega
      have n2 : (Value.slice oj j cj).ownBlock ≠ some q := fun e => by have := (hbk q e).2; omega
      exact ⟨⟨by omega, by omega, by omega, by omega⟩, hnew g (by omega) n1, hnew q (by omega) n2, (hkc g (by omega) n1 (by omega)).trans hc, (hkc q (by omega) n2 (by omega)).trans hd⟩
    · simp only [if_neg e]
      obtain ⟨⟨a1, a2, a3, a4⟩, b1, b2, c1, c2⟩ := h.el i (by omega)
      exact ⟨⟨a1, a2, by omega, by omega⟩, hnew _ (by omega) b1, hnew _ (by omega) b2, (hkc _ (by omega) b1 (by omega)).trans ((hb.cell (p := ⟨gs i, 0, none⟩) a3).trans c1), (hkc _ (by omega) b2 (by omega)).trans ((hb.cell (p := ⟨hs i, 0, none⟩) a4).trans c2)⟩
  · have n1 : (Value.slice oj j cj).ownBlock ≠ some p2 := fun e => by have := (hbk p2 e).1; omega
    have h1 : W3.heap[p2]? = some (.cells #[.string ⟨#[]⟩, vv, .slice oj j cj] 142 (0, 0)) := (hgr.block p2 (by omega) (fun e => n1 e.symm)).trans ((hb.block p2 hp).trans h.box)
    simp only [World.setCell, Array.getElem?_modify, if_true, h1, Option.map_some]
    rfl
  · have n1 : (Value.slice oj j cj).ownBlock ≠ some w0.heap.size := fun e => by have := (hbk _ e).1; have := h.lt; omega
    have hlt := h.lt
    exact (hkeep _ (by omega) n1 (by omega)).trans ((hb.block _ (by omega)).trans h.res)
  · have hlt := h.lt
    have hl1 := h.low.trans (hb.mono h.low.size)
    exact (hl1.grown hgr (by omega) (fun k e => by have := (hbk k e).1; omega)).setCell (by show w0.heap.size ≤ p2; omega) _
theorem EyRow.heads {w0 : World} {p2 d j : Nat} {gs hs : Nat → Nat} {vv : Value} {W : World} {oj : Option Addr} {cj : Nat} (h : EyRow w0 p2 d j gs hs vv W oj cj) (hd : 1 ≤ d) : HdIs W.heap.size W (List.replicate j 1) (.slice oj j cj) := by
  have ho := h.own
  have hcap : j ≤ cj := by
    rcases ho.2 with ⟨e, -⟩ | ⟨b, cap, cur, e, hbg, hh, h1, -⟩
    · cases e; omega
    · cases e; exact h1
  refine ⟨oj, cj, by simp, by simpa using hcap, fun hne => ?_⟩
  have hj : j ≠ 0 := by rintro rfl; exact hne rfl
  obtain ⟨b, hb, hbw⟩ : ∃ b, oj = some ⟨b, 0, none⟩ ∧ b < W.heap.size := by
    rcases ho.2 with ⟨_, h0⟩ | ⟨g, cap, cur, hv, _, hg, _⟩
    · omega
    · simp only [Value.slice.injEq] at hv
      exact ⟨g, hv.1, (Array.getElem?_eq_some_iff.1 hg).1⟩
  subst hb
  refine ⟨b, 0, rfl, hbw, fun i x hx => ?_⟩
  have hi : i < j := by have := (List.getElem?_eq_some_iff.1 hx).1; simpa using this
  obtain rfl : x = 1 := by have := List.mem_of_getElem? hx; exact (List.mem_replicate.1 this).2
  obtain ⟨⟨a1, a2, a3, a4⟩, -, -, c1, c2⟩ := h.el i hi
  have hv : (eyVals gs d j)[i]? = some (.slice (some ⟨gs i, 0, none⟩) d d) := by
    unfold eyVals
    rw [List.getElem?_map, List.getElem?_range hi]; rfl
  have hc := ho.cells (g := b) rfl i _ hv
  rw [show (⟨b, 0, none⟩ : Addr).add i = ⟨b, i, none⟩ by unfold Addr.add; split <;> simp_all] at hc
  refine ⟨_, ⟨gs i, 0, d, d, hs i, 0, d, d, rfl, hd, a3, c1, hd, a4, c2⟩, rfl, fun k hk => ?_⟩
  obtain rfl : k = 0 := by omega
  simpa using hc
theorem infoRows9 : (Tryz.prog.info? 148).map (fun i => (i.zero, i.size, i.bytes)) = some (some (.slice none 0 0), 1, 24) := by kernel_rfl
theorem eyHeads_set {w0 : World} {p2 d j : Nat} {gs hs : Nat → Nat} {vv : Value} {W : World} {oj : Option Addr} {cj : Nat} (h : EyRow w0 p2 d j gs hs vv W oj cj) (hd : 1 ≤ d) (x y z : Value) :
    HdIs (((W.setCell ⟨w0.heap.size, 0, none⟩ x).setCell ⟨w0.heap.size, 1, none⟩ y).setCell ⟨w0.heap.size, 2, none⟩ z).heap.size (((W.setCell ⟨w0.heap.size, 0, none⟩ x).setCell ⟨w0.heap.size, 1, none⟩ y).setCell ⟨w0.heap.size, 2, none⟩ z) (List.replicate j 1) (.slice oj j cj) := by
  have hlt := h.lt
  have hsz : (((W.setCell ⟨w0.heap.size, 0, none⟩ x).setCell ⟨w0.heap.size, 1, none⟩ y).setCell ⟨w0.heap.size, 2, none⟩ z).heap.size = W.heap.size := by simp [World.setCell]
  have hkb : ∀ k, p2 ≤ k → (((W.setCell ⟨w0.heap.size, 0, none⟩ x).setCell ⟨w0.heap.size, 1, none⟩ y).setCell ⟨w0.heap.size, 2, none⟩ z).heap[k]? = W.heap[k]? := fun k hk => heap_set3 _ _ _ _ _ _ (by omega)
  have hkc : ∀ k o, p2 ≤ k → (((W.setCell ⟨w0.heap.size, 0, none⟩ x).setCell ⟨w0.heap.size, 1, none⟩ y).setCell ⟨w0.heap.size, 2, none⟩ z).cell? ⟨k, o, none⟩ = W.cell? ⟨k, o, none⟩ := fun k o hk => World.cell?_of_block (w := W) (hkb k hk)
  obtain ⟨oa, cap, e, hc, h3⟩ := h.heads hd
  refine ⟨oa, cap, e, hc, fun hne => ?_⟩
  have hj : j ≠ 0 := by rintro rfl; exact hne rfl
  obtain ⟨b, o, rfl, hb, hi⟩ := h3 hne
  have hpb : p2 < b := by
    rcases h.own.2 with ⟨_, h0⟩ | ⟨g, cap', cur, hv, hbg, hg, _⟩
    · omega
    · rw [e] at hv
      simp only [Value.slice.injEq, Option.some.injEq, Addr.mk.injEq] at hv
      omega
  refine ⟨b, o, rfl, by rw [hsz]; exact hb, fun i q hq => ?_⟩
  have hij : i < j := by have := (List.getElem?_eq_some_iff.1 hq).1; simpa using this
  obtain rfl : q = 1 := by have := List.mem_of_getElem? hq; exact (List.mem_replicate.1 this).2
  obtain ⟨⟨a1, a2, a3, a4⟩, -, -, c1, c2⟩ := h.el i hij
  have hv : (eyVals gs d j)[i]? = some (.slice (some ⟨gs i, 0, none⟩) d d) := by
    unfold eyVals
    rw [List.getElem?_map, List.getElem?_range hij]; rfl
  have hb0 : o = 0 := by
    rcases h.own.2 with ⟨_, h0⟩ | ⟨g, cap', cur, hv, hbg, hg, _⟩
    · omega
    · rw [e] at hv
      simp only [Value.slice.injEq, Option.some.injEq, Addr.mk.injEq] at hv
      exact hv.1.2.1
  subst hb0
  have hcc := h.own.cells (g := b) (by simp only [Value.slice.injEq] at e; rw [e.1]; rfl) i _ hv
  rw [show (⟨b, 0, none⟩ : Addr).add i = ⟨b, i, none⟩ by unfold Addr.add; split <;> simp_all] at hcc
  refine ⟨_, ⟨gs i, 0, d, d, hs i, 0, d, d, rfl, hd, by rw [hsz]; exact a3, (hkc _ _ (by omega)).trans c1, hd, by rw [hsz]; exact a4, (hkc _ _ (by omega)).trans c2⟩, rfl, fun k hk => ?_⟩
  obtain rfl : k = 0 := by omega
  rw [hkc b _ (by omega)]
  simpa using hcc
structure Ey5 (px : Nat) (w0 : World) (nm : ByteArray) (vv : Value) (om : Option Addr) (L cm n : Nat) (bb : Bool) (f : Nat → Bool) (w : World) (v23 v24 v25 v26 v27 v28 v9 : Value) : Prop where
  low : Below w0.heap.size w0 w
  f0 : f 0 = true → v23 = (.agg #[.string nm, vv, .slice om L cm])
  f1 : f 1 = true → v24 = (.pointer (some ⟨px, 2, none⟩))
  f2 : f 2 = true → v25 = (.slice om L cm)
  f3 : f 3 = true → v26 = (.int .i64 (L : Int))
  f4 : f 4 = true → v27 = (.int .i64 (n : Int))
  f5 : f 5 = true → v28 = (.bool bb)
  f7 : f 7 = true → v9 = .bool bb
  bp : w.heap[px]? = some (.cells #[.string nm, vv, .slice om L cm] 142 (0, 0))
  o6 : f 6 = false → w.heap[w0.heap.size]? = some zeroMx
  p6 : f 6 = true → w.heap[w0.heap.size]? = some (.cells #[.string nm, vv, .slice om L cm] 142 (0, 0))
  ne : px ≠ w0.heap.size
  hb : ((L : Int) == (n : Int)) = bb
def Ey5nv (px : Nat) (w0 : World) (nm : ByteArray) (vv : Value) (om : Option Addr) (L cm n : Nat) (bb : Bool) (z : Nat → Value) (f : Nat → Bool) (a : Act) (w : World) : Prop :=
  ∃ v23 v24 v25 v26 v27 v28 v9, a = { tmps := #[z 0, z 1, z 2, .int .i64 (n : Int), z 4, z 5, z 6, z 7, .pointer (some ⟨w0.heap.size, 0, none⟩), v9, z 10, .pointer (some ⟨px, 0, none⟩), z 12, z 13, z 14, z 15, z 16, z 17, z 18, z 19, z 20, z 21, z 22, v23, v24, v25, v26, v27, v28, z 29, z 30, z 31, z 32, z 33, z 34, z 35, z 36, z 37, z 38, z 39, z 40, z 41, z 42, z 43, z 44], defers := [] } ∧ Ey5 px w0 nm vv om L cm n bb f w v23 v24 v25 v26 v27 v28 v9

set_option maxRecDepth 100000 in
set_option maxHeartbeats 16000000 in
theorem rEntry9_any (d : Nat) (l : List Mx) (k : Key) (n : Nat) (v : Value) (w : World) (hl : MxsIs w.heap.size w l v) (hs : mxsSm l) (hok : MxOk d l) (hn : n ≤ 8) :
    Calls Tryz.prog 93 #[.int .i64 (d : Int), v, .string (kb k), .int .i64 (n : Int)] w fun e w' => EyPost l k n w' e ∧ Below w.heap.size w w' := by
  obtain ⟨oa, cap, rfl⟩ := hl.shape
  have HL := Lib.hid hl
  have HOK := Lib.hid hok
  have HD1 : Hid (1 ≤ d) := Lib.hid hok.dim.1
  have HD2 : Hid (d ≤ 1048576) := Lib.hid (by have := hok.dim.2; omega)
  have hlen := hs.1
  clear hl hs hok
  obtain ⟨i46, hi, hz0, hz1, hz2⟩ := info_parts infoU64
  have HI0 := Lib.hid hi
  have HZ0 := Lib.hid hz0
  have HZ1 := Lib.hid hz1
  have HZ2 := Lib.hid hz2
  clear hi hz0 hz1 hz2
  obtain ⟨i0, hi, hz0, hz1, hz2⟩ := info_parts infoRows9
  have I1 := Lib.hid hi
  have I2 := Lib.hid hz0
  have I3 := Lib.hid hz1
  have I4 := Lib.hid hz2
  clear hi hz0 hz1 hz2
  go_enter Tryz.func93, Tryz.ntmps93
  go_wp2_with fail
  have HX0 : Hid ((w.alloc zeroMx).heap[w.heap.size]? = some zeroMx) := Lib.hid (heap_new_at _ _ _ rfl)
  have HB0 : Hid (Below w.heap.size w (w.alloc zeroMx)) := Lib.hid (by go_grown)
  go_loopw [15] (fun i wr => ∃ j : Nat, j ≤ l.length ∧ i = .int .i64 j ∧ Hid (∀ q ∈ l.take j, q.1 ≠ k) ∧ Hid (Below w.heap.size w wr ∧ wr.heap[w.heap.size]? = some zeroMx)) (fun i _ => l.length - (intOf i).toNat)
  case atStart => exact ⟨0, by omega, rfl, Lib.hid (by simp), Lib.hid ⟨HB0.out, HX0.out⟩⟩
  case round =>
    obtain ⟨j, hj, rfl, HN, HB⟩ := hrel
    have hwz := (Array.getElem?_eq_some_iff.1 HB.out.2).1
    by_cases hlt : j < l.length
    · obtain ⟨b1, o1, p, ov, cv, om, cm, rfl, hbn, hp, hv, hm, c0, c1, c2⟩ := MxsIs.three HL.out hlt
      have c0 := (HB.out.1.cell (p := ⟨b1, _, none⟩) hbn).trans c0
      have c1 := (HB.out.1.cell (p := ⟨b1, _, none⟩) hbn).trans c1
      have c2 := (HB.out.1.cell (p := ⟨b1, _, none⟩) hbn).trans c2
      have HP := Lib.hid hp
      have HM := Lib.hid hm
      have HBX : Hid (Below wr.heap.size wr (wr.alloc (.cells #[.string (kb p.1), .slice ov p.2.1.length cv, .slice om p.2.2.length cm] 142))) := Lib.hid (by go_grown)
      have HXX : Hid ((wr.alloc (.cells #[.string (kb p.1), .slice ov p.2.1.length cv, .slice om p.2.2.length cm] 142)).heap[wr.heap.size]? = some (.cells #[.string (kb p.1), .slice ov p.2.1.length cv, .slice om p.2.2.length cm] 142 (0, 0))) := Lib.hid (heap_new_at _ _ _ rfl)
      clear hp hv hm
      by_cases hk : p.1 = k
      · subst hk
        have hbe : ((kb p.1).toList == (kb p.1).toList) = true := beq_self_eq_true _
        have HFI := Lib.hid (findM_at HN.out HP.out rfl)
        have q1 : ¬ (wr.heap.size = w.heap.size) := by omega
        go_wp2_with fail
        obtain ⟨bb, hbb⟩ : ∃ bb, ((p.2.2.length : Int) == (n : Int)) = bb := ⟨_, rfl⟩
        refine wp_region_invZ (Ey5nv wr.heap.size w (kb p.1) (.slice ov p.2.1.length cv) om p.2.2.length cm n bb) (by kernel_rfl) (by kernel_rfl) ?h0 ?hend ?hstep
        case h0 => exact ⟨_, _, _, _, _, _, _, rfl, (HB.out.1.trans (HBX.out.mono HB.out.1.size)).drew, nofun, nofun, nofun, nofun, nofun, nofun, nofun, HXX.out, fun _ => (HBX.out.block _ hwz).trans HB.out.2, nofun, q1, hbb⟩
        case hend =>
          rintro z f a W9 ⟨v23, v24, v25, v26, v27, v28, v9, rfl, h⟩ hall
          obtain rfl := h.f7 (hall 7 (by simp))
          have hx := h.p6 (hall 6 (by simp))
          have HX9 := Lib.hid hx
          have HL9 := Lib.hid h.low
          clear h hall hx
          obtain ⟨y0, y1, y2, -, -, -⟩ := box3k HX9.out
          go_wp2_with fail
          refine bodyPost_ret (v := .tuple #[.agg #[.string (kb p.1), .slice ov p.2.1.length cv, .slice om p.2.2.length cm], .bool bb]) (by simp [results, Tryz.f93, go_sem, y0, y1, y2]) rfl ?_
          have hent : entAns l p.1 n = (bb, p.2.2.map hdM) := by
            unfold entAns
            rw [HFI.out]
            simp only [Prod.mk.injEq, and_true]
            rw [← hbb]
            by_cases e : p.2.2.length = n
            · rw [decide_eq_true e, e]; simp
            · rw [decide_eq_false e]
              exact (beq_eq_false_iff_ne.2 (by omega)).symm
          refine ⟨⟨kb p.1, ov, p.2.1.length, cv, om, cm, ?_, ?_⟩, HL9.out⟩
          · rw [hent]; simp
          · rw [hent]
            have hfm := HOK.out.ents p (List.mem_of_getElem? HP.out)
            have := (MatsU.heads HM.out HD1.out (fun m hm => formB_rows hfm.1 hm)).carry keeps_HdIs HL9.out HL9.out.size
            simpa using this
        case hstep =>
          rintro z i o ho f a W ⟨v23, v24, v25, v26, v27, v28, v9, rfl, h⟩ hfi hd K' hK
          have HI := Lib.hid h
          match i, ho with
          | 0, ho =>
            cases ho
            have c0 := cells_of' h.bp 0
            have c1 := cells_of' h.bp 1
            have c2 := cells_of' h.bp 2
            simp only [List.getElem?_toArray, List.getElem?_cons_zero, List.getElem?_cons_succ] at c0 c1 c2
            clear h
            go_simp
            exact hK.out _ _ ⟨_, v24, v25, v26, v27, v28, v9, rfl, HI.out.low, (fun _ => rfl), HI.out.f1, HI.out.f2, HI.out.f3, HI.out.f4, HI.out.f5, HI.out.f7, HI.out.bp, HI.out.o6, HI.out.p6, HI.out.ne, HI.out.hb⟩
          | 1, ho =>
            cases ho
            clear h
            go_simp
            exact hK.out _ _ ⟨v23, _, v25, v26, v27, v28, v9, rfl, HI.out.low, HI.out.f0, (fun _ => rfl), HI.out.f2, HI.out.f3, HI.out.f4, HI.out.f5, HI.out.f7, HI.out.bp, HI.out.o6, HI.out.p6, HI.out.ne, HI.out.hb⟩
          | 2, ho =>
            cases ho
            have e := h.f1 (hd ⟨1, .data⟩ (by simp) rfl)
            subst e
            have c0 := cells_of' h.bp 0
            have c1 := cells_of' h.bp 1
            have c2 := cells_of' h.bp 2
            simp only [List.getElem?_toArray, List.getElem?_cons_zero, List.getElem?_cons_succ] at c0 c1 c2
            clear h
            go_simp
            exact hK.out _ _ ⟨v23, _, _, v26, v27, v28, v9, rfl, HI.out.low, HI.out.f0, HI.out.f1, (fun _ => rfl), HI.out.f3, HI.out.f4, HI.out.f5, HI.out.f7, HI.out.bp, HI.out.o6, HI.out.p6, HI.out.ne, HI.out.hb⟩
          | 3, ho =>
            cases ho
            have e := h.f2 (hd ⟨2, .data⟩ (by simp) rfl)
            subst e
            clear h
            go_simp
            exact hK.out _ _ ⟨v23, v24, _, _, v27, v28, v9, rfl, HI.out.low, HI.out.f0, HI.out.f1, HI.out.f2, (fun _ => rfl), HI.out.f4, HI.out.f5, HI.out.f7, HI.out.bp, HI.out.o6, HI.out.p6, HI.out.ne, HI.out.hb⟩
          | 4, ho =>
            cases ho
            clear h
            go_simp
            exact hK.out _ _ ⟨v23, v24, v25, v26, _, v28, v9, rfl, HI.out.low, HI.out.f0, HI.out.f1, HI.out.f2, HI.out.f3, (fun _ => rfl), HI.out.f5, HI.out.f7, HI.out.bp, HI.out.o6, HI.out.p6, HI.out.ne, HI.out.hb⟩
          | 5, ho =>
            cases ho
            have e := h.f3 (hd ⟨3, .data⟩ (by simp) rfl)
            subst e
            have e := h.f4 (hd ⟨4, .data⟩ (by simp) rfl)
            subst e
            have hbb := h.hb
            clear h
            go_simp
            exact hK.out _ _ ⟨v23, v24, v25, _, _, _, v9, rfl, HI.out.low, HI.out.f0, HI.out.f1, HI.out.f2, HI.out.f3, HI.out.f4, (fun _ => rfl), HI.out.f7, HI.out.bp, HI.out.o6, HI.out.p6, HI.out.ne, HI.out.hb⟩
          | 6, ho =>
            cases ho
            have d := hd ⟨0, .data⟩ (by simp) rfl
            have e := h.f0 d
            subst e
            have hz := h.o6 hfi
            have HZ := Lib.hid hz
            obtain ⟨y0, y1, y2, g0, g1, g2⟩ := box3k hz
            clear h hd hz
            go_simp
            exact hK.out _ _ ⟨_, v24, v25, v26, v27, v28, v9, rfl, below_set3 HI.out.low (b := w.heap.size) (Nat.le_refl _) (.string (kb p.1)) (.slice ov p.2.1.length cv) (.slice om p.2.2.length cm), HI.out.f0, HI.out.f1, HI.out.f2, HI.out.f3, HI.out.f4, HI.out.f5, HI.out.f7, ((heap_set3 W w.heap.size _ (.string (kb p.1)) (.slice ov p.2.1.length cv) (.slice om p.2.2.length cm) HI.out.ne).trans HI.out.bp), (nofun), (fun _ => box3h HZ.out (.string (kb p.1)) (.slice ov p.2.1.length cv) (.slice om p.2.2.length cm)), HI.out.ne, HI.out.hb⟩
          | 7, ho =>
            cases ho
            have e := h.f5 (hd ⟨5, .data⟩ (by simp) rfl)
            subst e
            clear h
            go_simp
            exact hK.out _ _ ⟨v23, v24, v25, v26, v27, _, _, rfl, HI.out.low, HI.out.f0, HI.out.f1, HI.out.f2, HI.out.f3, HI.out.f4, HI.out.f5, (fun _ => rfl), HI.out.bp, HI.out.o6, HI.out.p6, HI.out.ne, HI.out.hb⟩
          | i + 8, ho => simp at ho

      · have hbe : ((kb p.1).toList == (kb k).toList) = false := by
          rw [kb_toList, kb_toList, beq_eq_false_iff_ne]; exact hk
        have HK := Lib.hid hk
        clear hk
        go_wp2_with fail
        refine ⟨⟨j + 1, by omega, by push_cast; rfl, Lib.hid ?_, Lib.hid ⟨HB.out.1.trans (HBX.out.mono HB.out.1.size), (HBX.out.block _ hwz).trans HB.out.2⟩⟩, by simp only [intOf]; omega⟩
        intro q hq
        rw [List.take_add_one, HP.out] at hq
        rcases List.mem_append.1 hq with hq | hq
        · exact HN.out q hq
        · obtain rfl := List.mem_singleton.1 hq
          exact HK.out
    · obtain rfl : j = l.length := by omega
      have HFI : Hid (findM l k = none) := Lib.hid (findM_no (fun q hq => HN.out q (by rw [List.take_length]; exact hq)))
      have HENT : Hid (entAns l k n = (true, List.replicate n 1)) := Lib.hid (by unfold entAns; rw [HFI.out])
      clear HN HFI
      go_wp2_with (
        at_make
        refine wpList_make_full _ rfl _ _ 46 rfl w.heap.size 47 i46 (.int .u64 0) 1 Tryz.underlying46 HI0.out HZ0.out HZ1.out .i64 .i64 _ _ d rfl rfl rfl rfl (by rw [HZ2.out]; have := HD2.out; omega) (by unfold maxLen; have := HD2.out; omega) (by omega) ?_
        intro w2 hown2 hgr2
        have HBW2 : Hid (Below wr.heap.size wr w2) := Lib.hid ((Below.refl _ wr).grown hgr2 (Nat.le_refl _) (fun k e => by cases e))
        clear hown2 hgr2)
      obtain ⟨w9, hw9⟩ : ∃ w9, w9 = wr.heap.size := ⟨_, rfl⟩
      obtain ⟨p2, hp2⟩ : ∃ p2, p2 = w2.heap.size := ⟨_, rfl⟩
      have hz2 := HBW2.out.size
      have HE0 : Hid (EyRow w p2 d 0 (fun _ => 0) (fun _ => 0) (.slice (some ⟨w9, 0, none⟩) d d) (w2.alloc (.cells #[.string ⟨#[]⟩, .slice (some ⟨w9, 0, none⟩) d d, .slice none 0 0] 142)) none 0) := Lib.hid ⟨World.ownsRow_nil _ _ _ _, fun i hi => absurd hi (by omega), by rw [hp2]; exact heap_new_at _ _ _ rfl, (Below.heap_alloc _ _ _ (by omega)).trans ((HBW2.out.block _ hwz).trans HB.out.2), (HB.out.1.trans (HBW2.out.mono HB.out.1.size)).alloc (by omega) _, by omega⟩
      rw [← hw9, ← hp2]
      clear hw9 hp2 hz2 HBW2 HB hwz
      go_wp2_with fail
      go_loopw [34] (fun i wq => ∃ (j : Nat) (gs hs : Nat → Nat) (oj : Option Addr) (cj : Nat), j ≤ n ∧ i = .int .i64 j ∧ Hid (EyRow w p2 d j gs hs (.slice (some ⟨w9, 0, none⟩) d d) wq oj cj)) (fun i _ => n - (intOf i).toNat)
      case atStart => exact ⟨0, _, _, none, 0, by omega, rfl, HE0⟩
      case round =>
       obtain ⟨j, gs, hs, oj, cj, hj, rfl, HE⟩ := hrel
       have hp2 := HE.out.szs
       obtain ⟨y0, y1, c2, g0, g1, g2⟩ := box3k HE.out.box
       by_cases hlt2 : j < n
       · clear y0 y1 g0 g1
         go_wp2_with fail
         refine wp_region_noPanic ?_
         refine wp_region_held_drew (S := fun _ => True) (by kernel_rfl) trivial (fun _ => ?_)
         simp only [List.size_toArray, List.length_cons, List.length_nil, Nat.reduceAdd]
         refine wpAnyH_take (i := 0) (v := ?_) (by simp only [List.getElem?_toArray, List.getElem?_cons_zero]; rfl) (by kernel_rfl) (by kernel_rfl) (by kernel_rfl) (fun _ _ _ h => h) (Or.inl ⟨by rfl, ?_⟩) trivial ?_
         case refine_2 => (intro ww hSw; obtain _ := hSw; go_simp; try with_reducible rfl)
         try simp only [Act.put, List.setIfInBounds_toArray, List.set_cons_zero, List.set_cons_succ]
         refine wpAnyH_take (i := 2) (v := ?_) (by simp only [List.getElem?_toArray, List.getElem?_cons_zero, List.getElem?_cons_succ]; rfl) (by kernel_rfl) (by kernel_rfl) (by kernel_rfl) (fun _ _ _ h => h) (Or.inl ⟨by rfl, ?_⟩) trivial ?_
         case refine_2 => (intro ww hSw; obtain _ := hSw; go_simp; try with_reducible rfl)
         try simp only [Act.put, List.setIfInBounds_toArray, List.set_cons_zero, List.set_cons_succ]
         refine wpAnyH_ready (rs := [1, 3]) (by kernel_rfl) (by simp) ?_
         refine AllReadyH.cons (by simp only [List.getElem?_toArray, List.getElem?_cons_zero, List.getElem?_cons_succ]; rfl) (fun K' hK => ?_) ?_
         · go_simp
           refine hK.out _ _ trivial (fun _ => ?_)
           clear hK
           try simp only [Act.put, List.setIfInBounds_toArray, List.set_cons_zero, List.set_cons_succ]
           refine wpAnyH_ready (rs := [3]) (by kernel_rfl) (by simp) ?_
           refine AllReadyH.cons (by simp only [List.getElem?_toArray, List.getElem?_cons_zero, List.getElem?_cons_succ]; rfl) (fun K' hK => ?_) AllReadyH.nil
           go_simp
           refine (rOne9_any d HD1.out HD2.out _).mono ?_
           rintro e w1 ⟨g, q, rfl, k1, k2, k3, k4, k5, k6, hb1⟩
           have HB1 : Hid (Below wr.heap.size wr w1) := Lib.hid ⟨hb1.os, hb1.tape, hb1.output, hb1.size, hb1.block⟩
           have k5 : wr.heap.size ≤ g := k5
           have k6 : wr.heap.size ≤ q := k6
           have c2 := (hb1.cell (p := ⟨p2, 2, none⟩) hp2).trans c2
           have hz1 : wr.heap.size ≤ w1.heap.size := hb1.size
           have hp3 : p2 < w1.heap.size := by omega
           clear hb1
           refine hK.out _ _ trivial (fun _ => ?_)
           clear hK
           try simp only [Act.put, List.setIfInBounds_toArray, List.set_cons_zero, List.set_cons_succ]
           refine wpAnyH_ready (rs := [4]) (by kernel_rfl) (by simp) ?_
           refine AllReadyH.cons (by simp only [List.getElem?_toArray, List.getElem?_cons_zero, List.getElem?_cons_succ]; rfl) (fun K' hK => ?_) AllReadyH.nil
           go_simp
           have HB2 : Hid (Below wr.heap.size wr (w1.alloc (.cells #[.slice (some ⟨g, 0, none⟩) d d] 148))) := Lib.hid (HB1.out.alloc hz1 _)
           have HC2 : Hid ((w1.alloc (.cells #[.slice (some ⟨g, 0, none⟩) d d] 148)).cell? ⟨g, 0, none⟩ = some (.slice (some ⟨q, 0, none⟩) d d)) := Lib.hid ((((Below.refl w1.heap.size w1).alloc (Nat.le_refl _) _).cell (p := ⟨g, 0, none⟩) k3).trans k1)
           have HC3 : Hid ((w1.alloc (.cells #[.slice (some ⟨g, 0, none⟩) d d] 148)).cell? ⟨q, 0, none⟩ = some (.int .u64 1)) := Lib.hid ((((Below.refl w1.heap.size w1).alloc (Nat.le_refl _) _).cell (p := ⟨q, 0, none⟩) k4).trans k2)
           refine hK.out _ _ trivial (fun _ => ?_)
           clear hK
           try simp only [Act.put, List.setIfInBounds_toArray, List.set_cons_zero, List.set_cons_succ]
           refine wpAnyH_ready (rs := [5]) (by kernel_rfl) (by simp) ?_
           refine AllReadyH.cons (by simp only [List.getElem?_toArray, List.getElem?_cons_zero, List.getElem?_cons_succ]; rfl) (fun K' hK => ?_) AllReadyH.nil
           have HRO : Hid ((w1.alloc (.cells #[.slice (some ⟨g, 0, none⟩) d d] 148)).ownsRow (p2 + 1) 148 1 (.slice oj j cj) j (eyVals gs d j)) := Lib.hid (HE.out.own.kept (below_grown HB2.out) (own_none _))
           refine step_append_opt rfl _ _ 140 rfl (p2 + 1) 148 i0 (.slice none 0 0) 1 24 Tryz.underlying140 I1.out I2.out I3.out I4.out rfl (by decide) (.slice oj j cj) j (eyVals gs d j) rfl HRO.out (some ⟨w1.heap.size, 0, none⟩) 1 1 [.slice (some ⟨g, 0, none⟩) d d] rfl rfl (fun h => by cases h) (fun ad had => by cases had; exact cell_one_at (heap_new_at _ _ _ rfl)) (by simp [Value.oneCell']) (by unfold maxLen; omega) (by omega) (by simp; omega) ?_
           intro v7 w7 ho7 hg7 hat7
           obtain ⟨o7, c7, rfl⟩ := ownsRow_shape ho7
           have h9 := HE.out.step HB2.out ⟨k5, k6, by simp; omega, by simp; omega⟩ HC2.out HC3.out ho7 hg7 hat7
           have H9 := Lib.hid h9
           have hx7 : w7.heap[p2]? = some (.cells #[.string ⟨#[]⟩, .slice (some ⟨w9, 0, none⟩) d d, .slice oj j cj] 142 (0, 0)) := ((own_below9 HRO.out hg7 (by simp; omega)).block p2 (by omega)).trans ((HB2.out.block p2 hp2).trans HE.out.box)
           obtain ⟨-, -, y2, -, -, g2⟩ := box3k hx7
           clear h9 ho7 hg7 hat7
           refine hK.out _ _ trivial (fun _ => ?_)
           clear hK
           try simp only [Act.put, List.setIfInBounds_toArray, List.set_cons_zero, List.set_cons_succ]
           refine wpAnyH_take (i := 6) (v := ?_) (by simp only [List.getElem?_toArray, List.getElem?_cons_zero, List.getElem?_cons_succ]; rfl) (by kernel_rfl) (by kernel_rfl) (by kernel_rfl) (fun _ _ _ h => h) (Or.inl ⟨by rfl, ?_⟩) trivial ?_
           case refine_2 => (intro ww hSw; obtain _ := hSw; go_simp; try with_reducible rfl)
           try simp only [Act.put, List.setIfInBounds_toArray, List.set_cons_zero, List.set_cons_succ]
           refine wpAnyH_ready (rs := [7]) (by kernel_rfl) (by simp) ?_
           refine AllReadyH.cons (by simp only [List.getElem?_toArray, List.getElem?_cons_zero, List.getElem?_cons_succ]; rfl) (fun K' hK => ?_) AllReadyH.nil
           go_simp
           refine hK.out _ _ trivial (fun _ => ?_)
           clear hK
           try simp only [Act.put, List.setIfInBounds_toArray, List.set_cons_zero, List.set_cons_succ]
           refine wpAnyH_done (by kernel_rfl) ?_ _
           refine NoPanic.normal ?_
           go_wp2_with fail
           exact ⟨⟨j + 1, _, _, o7, c7, by omega, by push_cast; rfl, Lib.hid H9.out⟩, by simp only [intOf]; omega⟩
         · refine AllReadyH.cons (by simp only [List.getElem?_toArray, List.getElem?_cons_zero, List.getElem?_cons_succ]; rfl) (fun K' hK => ?_) AllReadyH.nil
           go_simp
           refine (rOne9_any d HD1.out HD2.out _).mono ?_
           rintro e w1 ⟨g, q, rfl, k1, k2, k3, k4, k5, k6, hb1⟩
           have HB1 : Hid (Below wr.heap.size wr w1) := Lib.hid ⟨hb1.os, hb1.tape, hb1.output, hb1.size, hb1.block⟩
           have k5 : wr.heap.size ≤ g := k5
           have k6 : wr.heap.size ≤ q := k6
           have c2 := (hb1.cell (p := ⟨p2, 2, none⟩) hp2).trans c2
           have hz1 : wr.heap.size ≤ w1.heap.size := hb1.size
           have hp3 : p2 < w1.heap.size := by omega
           clear hb1
           refine hK.out _ _ trivial (fun _ => ?_)
           clear hK
           try simp only [Act.put, List.setIfInBounds_toArray, List.set_cons_zero, List.set_cons_succ]
           refine wpAnyH_ready (rs := [1, 4]) (by kernel_rfl) (by simp) ?_
           refine AllReadyH.cons (by simp only [List.getElem?_toArray, List.getElem?_cons_zero, List.getElem?_cons_succ]; rfl) (fun K' hK => ?_) ?_
           · go_simp
             refine hK.out _ _ trivial (fun _ => ?_)
             clear hK
             try simp only [Act.put, List.setIfInBounds_toArray, List.set_cons_zero, List.set_cons_succ]
             refine wpAnyH_ready (rs := [4]) (by kernel_rfl) (by simp) ?_
             refine AllReadyH.cons (by simp only [List.getElem?_toArray, List.getElem?_cons_zero, List.getElem?_cons_succ]; rfl) (fun K' hK => ?_) AllReadyH.nil
             go_simp
             have HB2 : Hid (Below wr.heap.size wr (w1.alloc (.cells #[.slice (some ⟨g, 0, none⟩) d d] 148))) := Lib.hid (HB1.out.alloc hz1 _)
             have HC2 : Hid ((w1.alloc (.cells #[.slice (some ⟨g, 0, none⟩) d d] 148)).cell? ⟨g, 0, none⟩ = some (.slice (some ⟨q, 0, none⟩) d d)) := Lib.hid ((((Below.refl w1.heap.size w1).alloc (Nat.le_refl _) _).cell (p := ⟨g, 0, none⟩) k3).trans k1)
             have HC3 : Hid ((w1.alloc (.cells #[.slice (some ⟨g, 0, none⟩) d d] 148)).cell? ⟨q, 0, none⟩ = some (.int .u64 1)) := Lib.hid ((((Below.refl w1.heap.size w1).alloc (Nat.le_refl _) _).cell (p := ⟨q, 0, none⟩) k4).trans k2)
             refine hK.out _ _ trivial (fun _ => ?_)
             clear hK
             try simp only [Act.put, List.setIfInBounds_toArray, List.set_cons_zero, List.set_cons_succ]
             refine wpAnyH_ready (rs := [5]) (by kernel_rfl) (by simp) ?_
             refine AllReadyH.cons (by simp only [List.getElem?_toArray, List.getElem?_cons_zero, List.getElem?_cons_succ]; rfl) (fun K' hK => ?_) AllReadyH.nil
             have HRO : Hid ((w1.alloc (.cells #[.slice (some ⟨g, 0, none⟩) d d] 148)).ownsRow (p2 + 1) 148 1 (.slice oj j cj) j (eyVals gs d j)) := Lib.hid (HE.out.own.kept (below_grown HB2.out) (own_none _))
             refine step_append_opt rfl _ _ 140 rfl (p2 + 1) 148 i0 (.slice none 0 0) 1 24 Tryz.underlying140 I1.out I2.out I3.out I4.out rfl (by decide) (.slice oj j cj) j (eyVals gs d j) rfl HRO.out (some ⟨w1.heap.size, 0, none⟩) 1 1 [.slice (some ⟨g, 0, none⟩) d d] rfl rfl (fun h => by cases h) (fun ad had => by cases had; exact cell_one_at (heap_new_at _ _ _ rfl)) (by simp [Value.oneCell']) (by unfold maxLen; omega) (by omega) (by simp; omega) ?_
             intro v7 w7 ho7 hg7 hat7
             obtain ⟨o7, c7, rfl⟩ := ownsRow_shape ho7
             have h9 := HE.out.step HB2.out ⟨k5, k6, by simp; omega, by simp; omega⟩ HC2.out HC3.out ho7 hg7 hat7
             have H9 := Lib.hid h9
             have hx7 : w7.heap[p2]? = some (.cells #[.string ⟨#[]⟩, .slice (some ⟨w9, 0, none⟩) d d, .slice oj j cj] 142 (0, 0)) := ((own_below9 HRO.out hg7 (by simp; omega)).block p2 (by omega)).trans ((HB2.out.block p2 hp2).trans HE.out.box)
             obtain ⟨-, -, y2, -, -, g2⟩ := box3k hx7
             clear h9 ho7 hg7 hat7
             refine hK.out _ _ trivial (fun _ => ?_)
             clear hK
             try simp only [Act.put, List.setIfInBounds_toArray, List.set_cons_zero, List.set_cons_succ]
             refine wpAnyH_take (i := 6) (v := ?_) (by simp only [List.getElem?_toArray, List.getElem?_cons_zero, List.getElem?_cons_succ]; rfl) (by kernel_rfl) (by kernel_rfl) (by kernel_rfl) (fun _ _ _ h => h) (Or.inl ⟨by rfl, ?_⟩) trivial ?_
             case refine_2 => (intro ww hSw; obtain _ := hSw; go_simp; try with_reducible rfl)
             try simp only [Act.put, List.setIfInBounds_toArray, List.set_cons_zero, List.set_cons_succ]
             refine wpAnyH_ready (rs := [7]) (by kernel_rfl) (by simp) ?_
             refine AllReadyH.cons (by simp only [List.getElem?_toArray, List.getElem?_cons_zero, List.getElem?_cons_succ]; rfl) (fun K' hK => ?_) AllReadyH.nil
             go_simp
             refine hK.out _ _ trivial (fun _ => ?_)
             clear hK
             try simp only [Act.put, List.setIfInBounds_toArray, List.set_cons_zero, List.set_cons_succ]
             refine wpAnyH_done (by kernel_rfl) ?_ _
             refine NoPanic.normal ?_
             go_wp2_with fail
             exact ⟨⟨j + 1, _, _, o7, c7, by omega, by push_cast; rfl, Lib.hid H9.out⟩, by simp only [intOf]; omega⟩
           · refine AllReadyH.cons (by simp only [List.getElem?_toArray, List.getElem?_cons_zero, List.getElem?_cons_succ]; rfl) (fun K' hK => ?_) AllReadyH.nil
             go_simp
             have HB2 : Hid (Below wr.heap.size wr (w1.alloc (.cells #[.slice (some ⟨g, 0, none⟩) d d] 148))) := Lib.hid (HB1.out.alloc hz1 _)
             have HC2 : Hid ((w1.alloc (.cells #[.slice (some ⟨g, 0, none⟩) d d] 148)).cell? ⟨g, 0, none⟩ = some (.slice (some ⟨q, 0, none⟩) d d)) := Lib.hid ((((Below.refl w1.heap.size w1).alloc (Nat.le_refl _) _).cell (p := ⟨g, 0, none⟩) k3).trans k1)
             have HC3 : Hid ((w1.alloc (.cells #[.slice (some ⟨g, 0, none⟩) d d] 148)).cell? ⟨q, 0, none⟩ = some (.int .u64 1)) := Lib.hid ((((Below.refl w1.heap.size w1).alloc (Nat.le_refl _) _).cell (p := ⟨q, 0, none⟩) k4).trans k2)
             refine hK.out _ _ trivial (fun _ => ?_)
             clear hK
             try simp only [Act.put, List.setIfInBounds_toArray, List.set_cons_zero, List.set_cons_succ]
             refine wpAnyH_ready (rs := [1]) (by kernel_rfl) (by simp) ?_
             refine AllReadyH.cons (by simp only [List.getElem?_toArray, List.getElem?_cons_zero, List.getElem?_cons_succ]; rfl) (fun K' hK => ?_) AllReadyH.nil
             go_simp
             refine hK.out _ _ trivial (fun _ => ?_)
             clear hK
             try simp only [Act.put, List.setIfInBounds_toArray, List.set_cons_zero, List.set_cons_succ]
             refine wpAnyH_ready (rs := [5]) (by kernel_rfl) (by simp) ?_
             refine AllReadyH.cons (by simp only [List.getElem?_toArray, List.getElem?_cons_zero, List.getElem?_cons_succ]; rfl) (fun K' hK => ?_) AllReadyH.nil
             have HRO : Hid ((w1.alloc (.cells #[.slice (some ⟨g, 0, none⟩) d d] 148)).ownsRow (p2 + 1) 148 1 (.slice oj j cj) j (eyVals gs d j)) := Lib.hid (HE.out.own.kept (below_grown HB2.out) (own_none _))
             refine step_append_opt rfl _ _ 140 rfl (p2 + 1) 148 i0 (.slice none 0 0) 1 24 Tryz.underlying140 I1.out I2.out I3.out I4.out rfl (by decide) (.slice oj j cj) j (eyVals gs d j) rfl HRO.out (some ⟨w1.heap.size, 0, none⟩) 1 1 [.slice (some ⟨g, 0, none⟩) d d] rfl rfl (fun h => by cases h) (fun ad had => by cases had; exact cell_one_at (heap_new_at _ _ _ rfl)) (by simp [Value.oneCell']) (by unfold maxLen; omega) (by omega) (by simp; omega) ?_
             intro v7 w7 ho7 hg7 hat7
             obtain ⟨o7, c7, rfl⟩ := ownsRow_shape ho7
             have h9 := HE.out.step HB2.out ⟨k5, k6, by simp; omega, by simp; omega⟩ HC2.out HC3.out ho7 hg7 hat7
             have H9 := Lib.hid h9
             have hx7 : w7.heap[p2]? = some (.cells #[.string ⟨#[]⟩, .slice (some ⟨w9, 0, none⟩) d d, .slice oj j cj] 142 (0, 0)) := ((own_below9 HRO.out hg7 (by simp; omega)).block p2 (by omega)).trans ((HB2.out.block p2 hp2).trans HE.out.box)
             obtain ⟨-, -, y2, -, -, g2⟩ := box3k hx7
             clear h9 ho7 hg7 hat7
             refine hK.out _ _ trivial (fun _ => ?_)
             clear hK
             try simp only [Act.put, List.setIfInBounds_toArray, List.set_cons_zero, List.set_cons_succ]
             refine wpAnyH_take (i := 6) (v := ?_) (by simp only [List.getElem?_toArray, List.getElem?_cons_zero, List.getElem?_cons_succ]; rfl) (by kernel_rfl) (by kernel_rfl) (by kernel_rfl) (fun _ _ _ h => h) (Or.inl ⟨by rfl, ?_⟩) trivial ?_
             case refine_2 => (intro ww hSw; obtain _ := hSw; go_simp; try with_reducible rfl)
             try simp only [Act.put, List.setIfInBounds_toArray, List.set_cons_zero, List.set_cons_succ]
             refine wpAnyH_ready (rs := [7]) (by kernel_rfl) (by simp) ?_
             refine AllReadyH.cons (by simp only [List.getElem?_toArray, List.getElem?_cons_zero, List.getElem?_cons_succ]; rfl) (fun K' hK => ?_) AllReadyH.nil
             go_simp
             refine hK.out _ _ trivial (fun _ => ?_)
             clear hK
             try simp only [Act.put, List.setIfInBounds_toArray, List.set_cons_zero, List.set_cons_succ]
             refine wpAnyH_done (by kernel_rfl) ?_ _
             refine NoPanic.normal ?_
             go_wp2_with fail
             exact ⟨⟨j + 1, _, _, o7, c7, by omega, by push_cast; rfl, Lib.hid H9.out⟩, by simp only [intOf]; omega⟩

       · obtain rfl : j = n := by omega
         have hres := HE.out.res
         obtain ⟨r0, r1, r2, e0, e1, e2⟩ := box3k hres
         have hlt9 := HE.out.lt
         have q3 : ¬ (p2 = w.heap.size) := by omega
         have q4 : ¬ (w.heap.size = p2) := by omega
         go_wp2_with fail
         have q0 := box3m hres (.string ⟨#[]⟩) (.slice (some ⟨w9, 0, none⟩) d d) (.slice oj j cj)
         refine bodyPost_ret (v := .tuple #[.agg #[.string ⟨#[]⟩, .slice (some ⟨w9, 0, none⟩) d d, .slice oj j cj], .bool true]) (by simp [results, Tryz.f93, go_sem, q0.1, q0.2.1, q0.2.2]) rfl ?_
         have hbf : Below w.heap.size w (((wr.setCell ⟨w.heap.size, 0, none⟩ (.string ⟨#[]⟩)).setCell ⟨w.heap.size, 1, none⟩ (.slice (some ⟨w9, 0, none⟩) d d)).setCell ⟨w.heap.size, 2, none⟩ (.slice oj j cj)) := below_set3 HE.out.low (Nat.le_refl _) _ _ _
         refine ⟨⟨⟨#[]⟩, some ⟨w9, 0, none⟩, d, d, oj, cj, ?_, ?_⟩, hbf⟩
         · rw [HENT.out]; simp
         · rw [HENT.out]
           have h7 := eyHeads_set HE.out HD1.out (.string ⟨#[]⟩) (.slice (some ⟨w9, 0, none⟩) d d) (.slice oj j cj)
           simpa using h7
end Go.Proofs.YtamddagmlanijaaGreat
