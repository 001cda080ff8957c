/- Check: zero just where the term is well formed and small. -/
import Derived.Test.YtdnkommcnkbeeaaDp
import Derived.Test.YtdnkommcnkbeeaaMal
namespace Go.Proofs.Ytdnkommcnkbeeaa
open Go.RowKit Go.Shelf
attribute [local go_sem] Oper.semAt_some

/-- is this node formed? -/
def viewOk (v : View) : Bool := nodeOk v.2.1 v.2.2.1 v.2.2.2
def Tm.formed (t : Tm) : Prop := ∀ v ∈ t.nodes 1, viewOk v = true
/-- the terms that Check lets by -/
def Tm.ok (t : Tm) : Prop := t.formed ∧ t.size ≤ 4000 ∧ t.depth ≤ 200

theorem held_kept {W W' : World} {row : Option Nat} {B : Nat} {c : Array Value} {ty : TypeId} {fr : Nat × Nat} (h : W.heap[B]? = some (.cells c ty fr)) (hg : W.grownBy W' row) (hr : ∀ r, row = some r → ∃ o : Obj, W.heap[r]? = some o ∧ o.isCells = false) :
    W'.heap[B]? = some (.cells c ty fr) := (hg.block B (Array.getElem?_eq_some_iff.1 h).1 (fun e => by obtain ⟨o, ho, hc⟩ := hr B e.symm; rw [h] at ho; cases ho; cases hc)).trans h

/-- the variables of Check, as they lie -/
structure ChkMem (w W : World) (c : Array Value) (rv sz dp : Int) : Prop where
  tb : W.heap[w.heap.size]? = some (.cells c 34 (0, 0))
  rb : Boxed W (w.heap.size + 1) 23 (.int .i64 rv)
  sb : Boxed W (w.heap.size + 1 + 1) 3 (.int .i64 sz)
  db : Boxed W (w.heap.size + 1 + 1 + 1) 3 (.int .i64 dp)
  bl : Below w.heap.size w W
theorem ChkMem.kept {w W W' : World} {c : Array Value} {rv sz dp : Int} {row : Option Nat} (h : ChkMem w W c rv sz dp) (hg : W.grownBy W' row) (hr : ∀ r, row = some r → w.heap.size ≤ r ∧ ∃ o : Obj, W.heap[r]? = some o ∧ o.isCells = false) : ChkMem w W' c rv sz dp :=
  ⟨held_kept h.tb hg fun r e => (hr r e).2, held_kept h.rb hg fun r e => (hr r e).2, held_kept h.sb hg fun r e => (hr r e).2, held_kept h.db hg fun r e => (hr r e).2,
    h.bl.grown hg h.bl.size fun r e => (hr r e).1⟩
theorem ChkMem.below {w W W' : World} {c : Array Value} {rv sz dp : Int} (h : ChkMem w W c rv sz dp) (hb : Below W.heap.size W W') : ChkMem w W' c rv sz dp :=
  h.kept (row := none) ⟨hb.os, hb.tape, hb.output, hb.size, fun i hi _ => hb.block i hi⟩ (fun r e => by cases e)
theorem dmax_nd (pre : List Nd) : dmax (pre.map Nd.view) ≤ 2097152 := by
  induction pre with
  | nil => simp [dmax]
  | cons x pre ih => rw [List.map_cons, dmax_cons]; have := x.hd; simp only [Nd.view]; omega
theorem KeepsFrom.of_below {B : Nat} {W W' : World} (h : Below W.heap.size W W') : KeepsFrom B W W' := ⟨h.size, fun k _ _ hk _ => (h.block k (Array.getElem?_eq_some_iff.1 hk).1).trans hk⟩
theorem Keep.of_below {n₀ m₀ : Nat} {W W' : World} (hn : n₀ ≤ W.heap.size) (h : Below W.heap.size W W') : Keep n₀ m₀ W W' := ⟨h.mono hn, fun k _ _ hk _ => (h.block k (Array.getElem?_eq_some_iff.1 hk).1).trans hk⟩
theorem cells_of {W : World} {B : Nat} {c : Array Value} {ty : TypeId} {fr : Nat × Nat} (h : W.heap[B]? = some (.cells c ty fr)) (j : Nat) : W.cell? ⟨B, j, none⟩ = c[j]? := by
  unfold World.cell?; simp only [h]; rfl
theorem heap_set_other (W : World) (B k : Nat) (v : Value) (h : k ≠ B) : (W.setCell ⟨B, 0, none⟩ v).heap[k]? = W.heap[k]? := Below.heap_setCell W _ v k h
theorem ChkMem.setR {w W : World} {c : Array Value} {rv sz dp : Int} (h : ChkMem w W c rv sz dp) (v : Int) : ChkMem w (W.setCell ⟨w.heap.size + 1, 0, none⟩ (.int .i64 v)) c v sz dp :=
  ⟨(heap_set_other _ _ _ _ (by omega)).trans h.tb, h.rb.set _, (heap_set_other _ _ _ _ (by omega)).trans h.sb, (heap_set_other _ _ _ _ (by omega)).trans h.db, h.bl.setCell (p := ⟨w.heap.size + 1, 0, none⟩) (by simp) _⟩
theorem ChkMem.setS {w W : World} {c : Array Value} {rv sz dp : Int} (h : ChkMem w W c rv sz dp) (v : Int) : ChkMem w (W.setCell ⟨w.heap.size + 1 + 1, 0, none⟩ (.int .i64 v)) c rv v dp :=
  ⟨(heap_set_other _ _ _ _ (by omega)).trans h.tb, (heap_set_other _ _ _ _ (by omega)).trans h.rb, h.sb.set _, (heap_set_other _ _ _ _ (by omega)).trans h.db, h.bl.setCell (p := ⟨w.heap.size + 1 + 1, 0, none⟩) (by simp; omega) _⟩
theorem ChkMem.setD {w W : World} {c : Array Value} {rv sz dp : Int} (h : ChkMem w W c rv sz dp) (v : Int) : ChkMem w (W.setCell ⟨w.heap.size + 1 + 1 + 1, 0, none⟩ (.int .i64 v)) c rv sz v :=
  ⟨(heap_set_other _ _ _ _ (by omega)).trans h.tb, (heap_set_other _ _ _ _ (by omega)).trans h.rb, (heap_set_other _ _ _ _ (by omega)).trans h.sb, h.db.set _, h.bl.setCell (p := ⟨w.heap.size + 1 + 1 + 1, 0, none⟩) (by simp; omega) _⟩

theorem Tm.nodesL_mem {l : List Tm} {d : Nat} {v : View} (h : v ∈ Tm.nodesL d l) : ∃ u ∈ l, v ∈ u.nodes d := by
  induction l with
  | nil => simp [Tm.nodesL] at h
  | cons x l ih =>
    simp only [Tm.nodesL, List.mem_append] at h
    rcases h with h | h
    · exact ⟨x, by simp, h⟩
    · obtain ⟨u, hu, h⟩ := ih h
      exact ⟨u, by simp [hu], h⟩
theorem Tm.AllOk.views {t : Tm} (h : t.AllOk) : ∀ d, ∀ v ∈ t.nodes d, viewOk v = true := by
  induction t using Tm.ind with
  | h t ih =>
    intro d v hv
    rw [Tm.nodes_eq] at hv
    rcases List.mem_cons.1 hv with rfl | hv
    · exact h.node
    · obtain ⟨x, hx, hv⟩ := Tm.nodesL_mem hv
      exact ih x hx (h.kids x hx) (d + 1) v hv
theorem Tm.AllOk.formed {t : Tm} (h : t.AllOk) : t.formed := fun v hv => h.views 1 v hv
/-- the error of a term: which of the two errors of a term that is neither formed nor small is left open -/
def Tm.err (t : Tm) (c : Int) : Prop := (c = 0 ↔ t.ok) ∧ (t.AllOk → ¬ t.ok → c = 3) ∧ (¬ t.formed → t.size ≤ 4000 → c = 4)
set_option maxRecDepth 100000 in
set_option maxHeartbeats 4000000 in
theorem check_full (t : Tm) (s : Value) (w : World) (hs : SlIs w.heap.size w t.ts s) (hb : t.bulk ≤ 1048576) :
    Calls Try.prog 48 #[tmv t s] w fun e w' => (∃ c : Int, e = .returned (.int .i64 c) ∧ t.err c) ∧ Below w.heap.size w w' := by
  obtain ⟨oa, cap, rfl, -⟩ := hs.form
  have hsz := Tm.size_bulk t
  refine (callsIn_wide (n := 3)).1 ?_
  refine callsIn_of_wp_marks Try.func48 rfl trivial ?_ rfl
  simp only [Try.ntmps48, List.size_toArray, List.length_cons, List.length_nil, Nat.reduceAdd, Nat.reduceSub, Array.replicate_succ, Array.replicate_zero, List.push_toArray, List.append_toArray, List.nil_append, List.cons_append]
  gi_wp2_with (refine ⟨trivial, ?_⟩; gi_at_call 62; refine (nodes_in Fence.wide _ trivial rfl _ _ _ _ _).mono ?_; rintro e w' ⟨rfl, rfl⟩)
  have hB0 : Below w.heap.size w (((((w.alloc (.cells #[.string t.nm, .bool t.vr, .slice oa t.ts.length cap] 34)).alloc (.cells #[.int .i64 0] 23)).alloc (.cells #[.int .i64 0] 3)).alloc (.cells #[.int .i64 0] 3)).alloc (.cells #[.string t.nm, .bool t.vr, .slice oa t.ts.length cap] 34)) := by go_grown
  have hM0 : ChkMem w (((((w.alloc (.cells #[.string t.nm, .bool t.vr, .slice oa t.ts.length cap] 34)).alloc (.cells #[.int .i64 0] 23)).alloc (.cells #[.int .i64 0] 3)).alloc (.cells #[.int .i64 0] 3)).alloc (.cells #[.string t.nm, .bool t.vr, .slice oa t.ts.length cap] 34)) #[.string t.nm, .bool t.vr, .slice oa t.ts.length cap] 0 0 0 := by
    refine ⟨?_, ((boxed_at _ _ _ _ (by simp)).alloc _).alloc _ |>.alloc _, ((boxed_at _ _ _ _ (by simp)).alloc _).alloc _, (boxed_at _ _ _ _ (by simp)).alloc _, hB0⟩
    rw [Below.heap_alloc _ _ _ (by simp; omega), Below.heap_alloc _ _ _ (by simp; omega), Below.heap_alloc _ _ _ (by simp; omega), Below.heap_alloc _ _ _ (by simp)]
    exact World.alloc_heap_new w _
  refine wpIn_rangeFunc_ownH rfl (by omega) (gf := 75) (lb := #[.pointer (some ⟨w.heap.size + 1 + 1 + 1 + 1, 0, none⟩)]) rfl trivial (enters_of Try.func75 (by kernel_rfl) rfl)
    (nodes_stops Fence.wide rfl _ trivial trivial rfl (w.heap.size + 1 + 1 + 1 + 1) w.heap.size t _ _ (by simp) (by simp; omega) (cell_new_at _ _ _ _ _ (by simp)) (cell_new_at _ _ _ _ _ (by simp)) (cell_new_at _ _ _ _ _ (by simp)) (hs.carry hB0 (Nat.le_refl _)) hb)
    (fun h k => h.trans k) (Keep.put (by simp; omega)) (Below.refl _ _) (fun _ => rfl)
    (fun pre W => ChkMem w W #[.string t.nm, .bool t.vr, .slice oa t.ts.length cap] 0 (pre.length : Int) (dmax (pre.map Nd.view) : Int) ∧ (∀ x ∈ pre, viewOk x.view = true) ∧ pre.length ≤ 4000)
    (fun c pre W => (c = .ret ∧ (∃ x ∈ pre, viewOk x.view = false) ∧ ∃ sz dp, ChkMem w W #[.string t.nm, .bool t.vr, .slice oa t.ts.length cap] 4 sz dp) ∨
      (c = .exit 0 ∧ pre.length = 4001 ∧ ∃ dp, ChkMem w W #[.string t.nm, .bool t.vr, .slice oa t.ts.length cap] 0 4001 dp))
    (fun s A B row h hg hr => ⟨h.1.kept hg (fun r e => ⟨by have := (hr r e).1; simp at this; omega, (hr r e).2⟩), h.2⟩)
    (fun c s A B row h hg hr => h.elim (fun ⟨h1, h2, sz, dp, h3⟩ => .inl ⟨h1, h2, sz, dp, h3.kept hg (fun r e => ⟨by have := (hr r e).1; simp at this; omega, (hr r e).2⟩)⟩)
      (fun ⟨h1, h2, dp, h3⟩ => .inr ⟨h1, h2, dp, h3.kept hg (fun r e => ⟨by have := (hr r e).1; simp at this; omega, (hr r e).2⟩)⟩))
    ⟨hM0, by simp, by simp⟩
    (fun x a' W => ∃ B, w.heap.size + 1 + 1 + 1 < B ∧ W.heap[B]? = some (.cells #[.string x.nm, .bool x.vr, .slice x.oa x.n x.cap] 34 (0, 0)) ∧
      a' = { tmps := #[tmv t (.slice oa t.ts.length cap), .pointer (some ⟨w.heap.size, 0, none⟩), .pointer (some ⟨w.heap.size + 1, 0, none⟩), .pointer (some ⟨w.heap.size + 1 + 1, 0, none⟩), .pointer (some ⟨w.heap.size + 1 + 1 + 1, 0, none⟩), .int .i64 x.d, .pointer (some ⟨B, 0, none⟩),
        tmv t (.slice oa t.ts.length cap), .func (.func 75) #[] #[.pointer (some ⟨w.heap.size + 1 + 1 + 1 + 1, 0, none⟩)], .int .i64 x.d, .agg #[.string x.nm, .bool x.vr, .slice x.oa x.n x.cap], undef, undef, undef, undef, undef, undef, undef, undef, undef, undef, undef, undef, undef, undef, undef, undef, undef, undef, undef, undef, undef, undef], defers := [] })
    (fun x a' s A B row ⟨b, h1, h2, h3⟩ hg hr => ⟨b, h1, held_kept h2 hg (fun r e => (hr r e).2), h3⟩) ?assign ?body ?done ?stop
  case assign =>
    rintro l pre x W K ⟨hM, hp, hl⟩ hK
    simp only [Nd.encs]
    simp only [Array.zip]
    gi_wp2
    refine hK _ _ ((KeepsOthers.alloc _ _).from _) ((Keep.refl _ _ _).alloc (by have := hM.bl.size; omega) _) ⟨hM.kept (World.grownBy_alloc W _ none) (fun r e => by cases e), hp, hl⟩ ⟨W.heap.size, by have := hM.db.lt; omega, World.alloc_heap_new W _, rfl⟩
  case body =>
    rintro l pre x a' W hl ⟨r, hr⟩ ⟨hM, hp, hlen⟩ ⟨B, hB, hX, rfl⟩ hlt
    have b0 := cells_of hX 0
    have b1 := cells_of hX 1
    have b2 := cells_of hX 2
    simp only [List.getElem?_toArray, List.getElem?_cons_zero, List.getElem?_cons_succ] at b0 b1 b2
    have hxn := x.hnm
    have hxa := x.hn
    have hBlt : B < W.heap.size := (Array.getElem?_eq_some_iff.1 hX).1
    have HM := Lib.hid hM
    have HP := Lib.hid hp
    have HX := Lib.hid hX
    clear hM hp hX hr
    gi_wp2_with fail
    refine ⟨trivial, (CallsIn.inRound l (callsIn_wide.2 (isFormed_any x.nm x.vr x.oa x.n x.cap _ hxn hxa))).mono ?_⟩
    rintro e W2 ⟨rfl, hb2⟩
    have HM2 := Lib.hid (HM.out.below hb2)
    have rc := HM2.out.rb.cell
    have rf := HM2.out.rb.frozen
    have sc := HM2.out.sb.cell
    have sf := HM2.out.sb.frozen
    have dc := HM2.out.db.cell
    have df := HM2.out.db.frozen
    have hxd := x.hd
    have HB2 := Lib.hid hb2
    have hdm : dmax (pre.map Nd.view) ≤ 2097152 := dmax_nd pre
    clear hb2
    have hv : viewOk x.view = nodeOk x.nm x.vr x.n := rfl
    cases hno : nodeOk x.nm x.vr x.n
    · rw [hno] at hv
      have HV := Lib.hid hv
      clear hno hv
      gi_wp2
      exact ⟨(KeepsFrom.of_below HB2.out).trans ((KeepsOthers.setCell _ _ _).from _), .inl ⟨rfl, ⟨x, by simp, HV.out⟩, _, _, HM2.out.setR 4⟩⟩
    · rw [hno] at hv
      have HV := Lib.hid hv
      clear hno hv
      have e1 := Lib.hid (show (((pre ++ [x]).length : Nat) : Int) = (pre.length : Int) + 1 by simp)
      have e2 := Lib.hid (show ((dmax ((pre ++ [x]).map Nd.view) : Nat) : Int) = max (dmax (pre.map Nd.view) : Int) (x.d : Int) by
        rw [List.map_append, List.map_singleton, dmax_snoc]; show ((max (dmax (pre.map Nd.view)) x.d : Nat) : Int) = _; omega)
      have hMz := HM2.out.bl.size
      by_cases h4 : pre.length < 4000
      · gi_wp2
        refine ⟨((KeepsFrom.of_below HB2.out).trans ((KeepsOthers.setCell _ _ _).from _)).trans ((KeepsOthers.setCell _ _ _).from _),
          ((Keep.of_below (by have := HM.out.bl.size; omega) HB2.out).trans (Keep.setCell _ (by simp; omega) (by simp) _)).trans (Keep.setCell _ (by simp; omega) (by simp) _), ?_, ?_, by simp; omega⟩
        · rw [e1.out, e2.out]
          exact (HM2.out.setS _).setD _
        · intro y hy
          rcases List.mem_append.1 hy with h | h
          · exact HP.out y h
          · obtain rfl : y = x := by simpa using h
            exact HV.out
      · have h5 : pre.length = 4000 := by omega
        rw [h5] at sc
        gi_wp2
        exact ⟨((KeepsFrom.of_below HB2.out).trans ((KeepsOthers.setCell _ _ _).from _)).trans ((KeepsOthers.setCell _ _ _).from _), .inr ⟨rfl, by simp; omega, _, (HM2.out.setS _).setD _⟩⟩
  case done =>
    rintro D ys W hD hys ⟨hM, hp, hlen⟩ hK
    have rc := hM.rb.cell
    have rf := hM.rb.frozen
    have hl : ys.length = t.size := by have h := congrArg List.length hys; rwa [List.length_map, Tm.nodes_length] at h
    have hd : dmax (ys.map Nd.view) = t.depth := by rw [hys]; have h := dmax_nodes t 1; omega
    have hform : t.formed := fun v hv => by
      rw [← hys] at hv
      obtain ⟨x, hx, rfl⟩ := List.mem_map.1 hv
      exact hp x hx
    rw [hl, hd] at hM
    rw [hl] at hlen
    have sc := hM.sb.cell
    have dc := hM.db.cell
    have HM := Lib.hid hM
    have HF := Lib.hid hform
    clear hM hp hys hl hd hform
    by_cases h2 : t.depth ≤ 200
    · gi_wp2
      refine ⟨trivial, ?_⟩
      gi_wp2
      have hK' := (KeepsOthers.setCell W ⟨w.heap.size + 1, 0, none⟩ (.int .i64 0)).same D _ hK rfl
      have HM' := HM.out.setR 0
      refine ⟨by simp, .inl ⟨_, _, rfl, run_takeDeferred hK', ?_⟩⟩
      have hc5 := cell_kept HM'.rb.cell (grownBy_putObj' _ D (.deferred none)) (fun r e => by cases e; exact ⟨_, hK', rfl⟩)
      refine ⟨.int .i64 0, ?_, ⟨0, rfl, ⟨fun _ => ⟨HF.out, hlen, h2⟩, fun _ => rfl⟩, fun _ h => absurd ⟨HF.out, hlen, h2⟩ h, fun h => absurd HF.out h⟩, HM'.bl.trans (belowK_b (w := w) (Nat.le_refl _) _ D _ _ (by simp at hD; omega) hK' rfl rfl)⟩
      simp [results, Try.f48, go_sem, hc5]
    · gi_wp2
      refine ⟨trivial, ?_⟩
      gi_wp2
      have hK' := (KeepsOthers.setCell W ⟨w.heap.size + 1, 0, none⟩ (.int .i64 3)).same D _ hK rfl
      have HM' := HM.out.setR 3
      refine ⟨by simp, .inl ⟨_, _, rfl, run_takeDeferred hK', ?_⟩⟩
      have hc5 := cell_kept HM'.rb.cell (grownBy_putObj' _ D (.deferred none)) (fun r e => by cases e; exact ⟨_, hK', rfl⟩)
      refine ⟨.int .i64 3, ?_, ⟨3, rfl, ⟨fun h => by omega, fun h => absurd h.2.2 h2⟩, fun _ _ => rfl, fun h => absurd HF.out h⟩, HM'.bl.trans (belowK_b (w := w) (Nat.le_refl _) _ D _ _ (by simp at hD; omega) hK' rfl rfl)⟩
      simp [results, Try.f48, go_sem, hc5]
  case stop =>
    rintro D c pre W hD hpre hx hK
    rcases hx with ⟨rfl, ⟨x, hxm, hxv⟩, sz, dp, hM⟩ | ⟨rfl, hlen, dp, hM⟩
    · have rc := hM.rb.cell
      have hnf : ¬ t.formed := fun h => by
        have := h x.view (hpre.subset (List.mem_map.2 ⟨x, hxm, rfl⟩))
        rw [hxv] at this; cases this
      have HM := Lib.hid hM
      have HF := Lib.hid hnf
      clear hM hpre hnf
      gi_wp2
      refine ⟨by simp, .inl ⟨_, _, rfl, run_takeDeferred hK, ?_⟩⟩
      have hc5 := cell_kept rc (grownBy_putObj' _ D (.deferred none)) (fun r e => by cases e; exact ⟨_, hK, rfl⟩)
      refine ⟨.int .i64 4, ?_, ⟨4, rfl, ⟨fun h => by omega, fun h => absurd h.1 HF.out⟩, fun h => absurd h.formed HF.out, fun _ _ => rfl⟩, HM.out.bl.trans (belowK_b (w := w) (Nat.le_refl _) _ D _ _ (by simp at hD; omega) hK rfl rfl)⟩
      simp [results, Try.f48, go_sem, hc5]
    · have hnz : 4000 < t.size := by
        have := hpre.length_le
        rw [List.length_map, Tm.nodes_length] at this
        omega
      have hsW : SlIs W.heap.size W t.ts (.slice oa t.ts.length cap) := hs.carry hM.bl hM.bl.size
      have rc := hM.rb.cell
      have rf := hM.rb.frozen
      have sc := hM.sb.cell
      have t0 := cells_of hM.tb 0
      have t1 := cells_of hM.tb 1
      have t2 := cells_of hM.tb 2
      simp only [List.getElem?_toArray, List.getElem?_cons_zero, List.getElem?_cons_succ] at t0 t1 t2
      have HM := Lib.hid hM
      have HS := Lib.hid hsW
      have HK := Lib.hid hK
      clear hM hpre hsW hK
      gi_wp2_with fail
      refine ⟨trivial, (callsIn_wide.2 (malformed_full t _ W hb HS.out)).mono ?_⟩
      rintro e W2 ⟨⟨b, rfl, hbf⟩, hb2⟩
      have HBF := Lib.hid hbf
      clear hbf
      have HM2 := Lib.hid (HM.out.below hb2)
      have HK2 := Lib.hid ((hb2.block D (Array.getElem?_eq_some_iff.1 HK.out).1).trans HK.out)
      have rc2 := HM2.out.rb.cell
      have rf2 := HM2.out.rb.frozen
      have sc2 := HM2.out.sb.cell
      clear hb2 rc rf sc t0 t1 t2
      cases b
      · gi_wp2
        have hK' := (KeepsOthers.setCell W2 ⟨w.heap.size + 1, 0, none⟩ (.int .i64 3)).same D _ HK2.out rfl
        have HM' := HM2.out.setR 3
        refine ⟨by simp, .inl ⟨_, _, rfl, run_takeDeferred hK', ?_⟩⟩
        have hc5 := cell_kept HM'.rb.cell (grownBy_putObj' _ D (.deferred none)) (fun r e => by cases e; exact ⟨_, hK', rfl⟩)
        refine ⟨.int .i64 3, ?_, ⟨3, rfl, ⟨fun h => by omega, fun h => by have := h.2.1; omega⟩, fun _ _ => rfl, fun _ h => by omega⟩, HM'.bl.trans (belowK_b (w := w) (Nat.le_refl _) _ D _ _ (by simp at hD; omega) hK' rfl rfl)⟩
        simp [results, Try.f48, go_sem, hc5]
      · gi_wp2
        have hK' := (KeepsOthers.setCell W2 ⟨w.heap.size + 1, 0, none⟩ (.int .i64 4)).same D _ HK2.out rfl
        have HM' := HM2.out.setR 4
        refine ⟨by simp, .inl ⟨_, _, rfl, run_takeDeferred hK', ?_⟩⟩
        have hc5 := cell_kept HM'.rb.cell (grownBy_putObj' _ D (.deferred none)) (fun r e => by cases e; exact ⟨_, hK', rfl⟩)
        refine ⟨.int .i64 4, ?_, ⟨4, rfl, ⟨fun h => by omega, fun h => by have := h.2.1; omega⟩, fun h _ => by have h1 := HBF.out h; simp at h1, fun _ h => by omega⟩, HM'.bl.trans (belowK_b (w := w) (Nat.le_refl _) _ D _ _ (by simp at hD; omega) hK' rfl rfl)⟩
        simp [results, Try.f48, go_sem, hc5]
theorem check_any (t : Tm) (s : Value) (w : World) (hs : SlIs w.heap.size w t.ts s) (hb : t.bulk ≤ 1048576) :
    Calls Try.prog 48 #[tmv t s] w fun e w' => (∃ c : Int, e = .returned (.int .i64 c) ∧ (c = 0 ↔ t.ok)) ∧ Below w.heap.size w w' :=
  (check_full t s w hs hb).mono fun _ _ ⟨⟨c, h, h1, _⟩, hb⟩ => ⟨⟨c, h, h1⟩, hb⟩
end Go.Proofs.Ytdnkommcnkbeeaa
