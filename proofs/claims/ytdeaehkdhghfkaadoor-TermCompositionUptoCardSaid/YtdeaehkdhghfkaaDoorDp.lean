/- Depth, by the iterator over nodes. -/
import Derived.Test.YtdeaehkdhghfkaaDoorNodes2
namespace Go.Proofs.YtdeaehkdhghfkaaDoor
open Go.RowKit Go.Shelf
attribute [local go_sem] Oper.semAt_some

/-- the greatest depth of what has come -/
def dmax (l : List View) : Nat := l.foldl (fun m v => max m v.1) 0
theorem foldl_max (l : List View) (m : Nat) : l.foldl (fun m v => max m v.1) m = max m (dmax l) := by
  induction l generalizing m with
  | nil => simp [dmax]
  | cons v l ih =>
    have e : dmax (v :: l) = l.foldl (fun m v => max m v.1) (max 0 v.1) := rfl
    rw [List.foldl_cons, ih, e, ih]; omega
theorem dmax_snoc (l : List View) (v : View) : dmax (l ++ [v]) = max (dmax l) v.1 := by simp [dmax]
theorem dmax_cons (l : List View) (v : View) : dmax (v :: l) = max v.1 (dmax l) := by
  have e : dmax (v :: l) = l.foldl (fun m v => max m v.1) (max 0 v.1) := rfl
  rw [e, foldl_max]; omega
theorem dmax_append (l r : List View) : dmax (l ++ r) = max (dmax l) (dmax r) := by rw [dmax, List.foldl_append, foldl_max]; rfl
theorem dmax_nodesL (l : List Tm) (h : ∀ u ∈ l, ∀ d, dmax (u.nodes d) + 1 = d + u.depth) (d : Nat) : dmax (Tm.nodesL d l) + 1 = if l = [] then 1 else d + Tm.depths l := by
  induction l with
  | nil => simp [Tm.nodesL, dmax]
  | cons t l ih =>
    have h1 := h t (by simp) d
    have h2 := ih (fun u hu => h u (by simp [hu]))
    have h3 : 1 ≤ t.depth := by rw [Tm.depth_eq]; omega
    rw [Tm.nodesL, dmax_append, Tm.depths, if_neg (by simp)]
    by_cases e : l = []
    · subst e; simp [Tm.depths] at h2 ⊢; omega
    · rw [if_neg e] at h2; omega
theorem dmax_nodes (t : Tm) (d : Nat) : dmax (t.nodes d) + 1 = d + t.depth := by
  induction t using Tm.ind generalizing d with
  | h t ih =>
    have h := dmax_nodesL t.ts ih (d + 1)
    rw [Tm.nodes_eq, dmax_cons, Tm.depth_eq]
    by_cases e : t.ts = []
    · rw [if_pos e] at h; rw [e] at h ⊢; simp [Tm.depths] at h ⊢; omega
    · rw [if_neg e] at h; simp only; omega

set_option maxRecDepth 100000 in
set_option maxHeartbeats 2000000 in
theorem tdepth_any (t : Tm) (s : Value) (w : World) (hs : SlIs w.heap.size w t.ts s) (hb : t.bulk ≤ 1048576) :
    Calls Tryd.prog 15 #[tmv t s] w fun e w' => e = .returned (.int .i64 t.depth) ∧ Below w.heap.size w w' := by
  obtain ⟨oa, cap, rfl, -⟩ := hs.form
  have hsz := Tm.size_bulk t
  refine (callsIn_wide (n := 3)).1 ?_
  refine callsIn_of_wp_marks Tryd.func15 rfl trivial ?_ rfl
  simp only [Tryd.ntmps15, List.size_toArray, List.length_cons, List.length_nil, Nat.reduceAdd, Nat.reduceSub, Array.replicate_succ, Array.replicate_zero, List.push_toArray, List.append_toArray, List.nil_append, List.cons_append]
  gi_wp2_with (refine ⟨trivial, ?_⟩; gi_at_call 56; refine (nodes_in Fence.wide _ trivial rfl _ _ _ _ _).mono ?_; rintro e w' ⟨rfl, rfl⟩)
  have hB0 : Below w.heap.size w (((w.alloc (.cells #[.string t.nm, .bool t.vr, .slice oa t.ts.length cap] 24)).alloc (.cells #[.int .i64 0] 3)).alloc (.cells #[.string t.nm, .bool t.vr, .slice oa t.ts.length cap] 24)) := by go_grown
  refine wpIn_rangeFunc_ownF rfl (by omega) (gf := 100) (lb := #[.pointer (some ⟨w.heap.size + 1 + 1, 0, none⟩)]) rfl trivial (enters_of Tryd.func100 (by kernel_rfl) rfl)
    (nodes_stops Fence.wide rfl _ trivial trivial rfl (w.heap.size + 1 + 1) w.heap.size t _ _ (by simp) (by simp; omega) (cell_new_at _ _ _ _ _ (by simp)) (cell_new_at _ _ _ _ _ (by simp)) (cell_new_at _ _ _ _ _ (by simp)) (hs.carry hB0 (Nat.le_refl _)) hb)
    (fun h k => h.trans k) (Keep.put (by simp; omega)) (Below.refl _ _) (fun _ => rfl)
    (fun pre W => Boxed W (w.heap.size + 1) 3 (.int .i64 (dmax (pre.map Nd.view) : Int)) ∧ Below w.heap.size w W)
    (fun _ _ _ => False)
    (OwnFrom.and (Own.from (boxed_own _ _ _) _) (ownFrom_below (Nat.le_refl _) (by simp; omega)))
    (fun _ _ _ _ _ hs _ _ => hs)
    ⟨(boxed_at _ _ _ _ (by simp)).alloc _, hB0⟩
    (fun x => { tmps := #[tmv t (.slice oa t.ts.length cap), .pointer (some ⟨w.heap.size, 0, none⟩), .int .i64 0, .pointer (some ⟨w.heap.size + 1, 0, none⟩), .int .i64 x.d, tmv t (.slice oa t.ts.length cap), .func (.func 100) #[] #[.pointer (some ⟨w.heap.size + 1 + 1, 0, none⟩)], .int .i64 x.d, .agg #[.string x.nm, .bool x.vr, .slice x.oa x.n x.cap], undef, undef, undef, undef], defers := [] }) ?assign ?body ?done ?stop
  case assign =>
    intro l x W K hK
    simp only [Nd.encs]
    simp only [Array.zip]
    gi_wp2
    exact hK
  case body =>
    rintro l pre x W ⟨hX, hB⟩ hlt
    have hc := hX.cell
    have hf := hX.frozen
    have hz := hB.size
    have hxd := x.hd
    gi_wp2
    refine ⟨KeepsOthers.setCell _ _ _, Keep.setCell _ (by simp) (by simp) _, ?_, hB.setCell (p := ⟨w.heap.size + 1, 0, none⟩) (by simp) _⟩
    rw [List.map_append, List.map_singleton, dmax_snoc, show ((max (dmax (pre.map Nd.view)) x.view.1 : Nat) : Int) = max (dmax (pre.map Nd.view) : Int) (x.d : Int) from by show ((max (dmax (pre.map Nd.view)) x.d : Nat) : Int) = _; omega]
    exact hX.set _
  case done =>
    rintro D ys W hD hys ⟨hX, hB⟩ hK
    have hc := hX.cell
    have HL : Hid ((dmax (ys.map Nd.view) : Int) = t.depth) := Lib.hid (by rw [hys]; have h := dmax_nodes t 1; omega)
    clear hys
    gi_wp2
    refine ⟨by simp, .inl ⟨_, _, rfl, run_takeDeferred hK, ?_⟩⟩
    exact ⟨_, results_tmp rfl _ _ _, (by show Ending.returned (Value.int IntKind.i64 (dmax (ys.map Nd.view) : Int)) = _; exact ret_int HL.out), hB.trans (belowK_b (w := w) (Nat.le_refl _) W D _ _ (by simp at hD; omega) hK rfl rfl)⟩
  case stop =>
    rintro D c pre W _ _ h _
    exact h.elim

end Go.Proofs.YtdeaehkdhghfkaaDoor
