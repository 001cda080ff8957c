/- nodes(t) gives an iterator over the nodes of t; Size and Depth by it. -/
import Derived.Test.YtdeaehkdhghfkaaDoorNodes
import Derived.Test.YtdeaehkdhghfkaaDoorMem
namespace Go.Proofs.YtdeaehkdhghfkaaDoor
open Go.RowKit Go.Shelf
attribute [local go_sem] Oper.semAt_some

set_option maxRecDepth 100000 in
set_option maxHeartbeats 1000000 in
theorem nodes_in (F : Fence) (n : Nat) (hf : F.fn 56) (hro : F.round = none) (t : Tm) (oa : Option Addr) (len cap : Nat) (w : World) :
    CallsIn F n Tryd.prog 56 #[.agg #[.string t.nm, .bool t.vr, .slice oa len cap]] w fun e w' =>
      e = .returned (.func (.func 100) #[] #[.pointer (some ⟨w.heap.size, 0, none⟩)]) ∧ w' = w.alloc (.cells #[.string t.nm, .bool t.vr, .slice oa len cap] 24) := by
  refine callsIn_of_wp Tryd.func56 rfl hf ?_ hro
  simp only [Tryd.ntmps56, List.size_toArray, List.length_cons, List.length_nil, Nat.reduceAdd, Nat.reduceSub, Array.replicate_succ, Array.replicate_zero, List.push_toArray, List.append_toArray, List.nil_append, List.cons_append]
  gi_wp2
  go_ret
  exact ⟨rfl, rfl⟩

set_option maxRecDepth 100000 in
set_option maxHeartbeats 1000000 in
theorem nodes1_in (F : Fence) (hd : F.depth = none) (n : Nat) (hf : F.fn 100) (hfw : F.fn 101) (hro : F.round = none) (l Bt n₀ m₀ : Nat) (t : Tm) (s : Value) (J Jx : List Nd → World → Prop) (hJ : ∀ s A o, J s A → J s (World.alloc A o))
    (hnm : n₀ ≤ m₀)
    (hY : ∀ pre (x : Nd) W, J pre W → pre.length < t.size → YieldAt F (n - 1) Tryd.prog l x.encs W fun e W' =>
      (e = .returned (.bool true) ∧ J (pre ++ [x]) W' ∧ Keep n₀ m₀ W W') ∨ (e = .returned (.bool false) ∧ Jx (pre ++ [x]) W'))
    (W : World) (hm : m₀ ≤ W.heap.size) (h0 : W.cell? ⟨Bt, 0, none⟩ = some (.string t.nm)) (h1 : W.cell? ⟨Bt, 1, none⟩ = some (.bool t.vr)) (h2 : W.cell? ⟨Bt, 2, none⟩ = some s) (hs : SlIs n₀ W t.ts s) (hb : t.bulk ≤ 1048576) (hJ0 : J [] W) :
    CallsIn F n Tryd.prog 100 #[.func (.yield l) #[] #[], .pointer (some ⟨Bt, 0, none⟩)] W fun e W' => (∃ v, e = .returned v) ∧
      ((∃ ys : List Nd, ys.map Nd.view = t.nodes 1 ∧ J ys W') ∨ (∃ pre : List Nd, pre.map Nd.view <+: t.nodes 1 ∧ Jx pre W')) := by
  have hdd : ∀ k : Nat, (F.depth.isSome = true → 1 ≤ k) := fun k h => by rw [hd] at h; cases h
  have hsz := Tm.size_bulk t
  have HP := Lib.hid (tmWalkIn F hd hfw hro l n₀ m₀ t.size J Jx hJ hnm (fun m pre x W hj hl => yieldAny hd m (hY pre x W hj hl)) t (n - 1) 1 s [] W hs hm hJ0 (by simp) hb (by omega))
  obtain ⟨oa, cap, rfl, -⟩ := hs.form
  refine callsIn_of_wp Tryd.func100 rfl hf ?_ hro
  simp only [Tryd.ntmps100, List.size_toArray, List.length_cons, List.length_nil, Nat.reduceAdd, Nat.reduceSub, Array.replicate_succ, Array.replicate_zero, List.push_toArray, List.append_toArray, List.nil_append, List.cons_append]
  gi_wp2_with fail
  refine HP.out.mono ?_
  clear HP
  rintro e W1 (⟨rfl, ⟨xs, hxs, hJ1⟩, _⟩ | ⟨rfl, xs, hxs, hx⟩)
  · have HX := Lib.hid hxs
    clear hxs
    gi_wp2_with fail
    go_end0
    exact ⟨⟨_, rfl⟩, .inl ⟨xs, HX.out, by simpa using hJ1⟩⟩
  · have HX := Lib.hid hxs
    clear hxs
    gi_wp2_with fail
    go_end0
    exact ⟨⟨_, rfl⟩, .inr ⟨xs, HX.out, by simpa using hx⟩⟩

/-- THE ITERATOR'S CONTRACT. -/
theorem nodes_stops (F : Fence) (hd : F.depth = none) (n : Nat) (hf : F.fn 100) (hfw : F.fn 101) (hro : F.round = none) (Bt n₀ : Nat) (t : Tm) (s : Value) (w : World) (hBt : Bt < w.heap.size) (hn : n₀ ≤ w.heap.size)
    (h0 : w.cell? ⟨Bt, 0, none⟩ = some (.string t.nm)) (h1 : w.cell? ⟨Bt, 1, none⟩ = some (.bool t.vr)) (h2 : w.cell? ⟨Bt, 2, none⟩ = some s) (hs : SlIs n₀ w t.ts s) (hb : t.bulk ≤ 1048576) :
    SeqStopsK F n Tryd.prog 100 #[.pointer (some ⟨Bt, 0, none⟩)] Nd.encs (Keep n₀ w.heap.size) (fun ys => ys.map Nd.view = t.nodes 1) (fun pre => pre.map Nd.view <+: t.nodes 1) t.size w := fun l J Jx W hW hJ _ hY hJ0 =>
  nodes1_in F hd n hf hfw hro l Bt n₀ w.heap.size t s J Jx (fun s A o h => hJ s A _ none h (World.grownBy_alloc A o none) (fun r e => by cases e)) hn hY W hW.size
    ((hW.cell (p := ⟨Bt, 0, none⟩) hBt).trans h0) ((hW.cell (p := ⟨Bt, 1, none⟩) hBt).trans h1) ((hW.cell (p := ⟨Bt, 2, none⟩) hBt).trans h2) (hs.carry (hW.mono hn) (Nat.le_refl _)) hb hJ0


theorem Keep.setCell {n₀ m₀ : Nat} (W : World) {p : Addr} (h : n₀ ≤ p.block) (hm : p.block < m₀) (v : Value) : Keep n₀ m₀ W (W.setCell p v) :=
  ⟨(Below.refl n₀ W).setCell h v, fun k hk _ hp _ => (Below.heap_setCell W p v k (by omega)).trans hp⟩
set_option maxRecDepth 100000 in
set_option maxHeartbeats 2000000 in
theorem tsize_any (t : Tm) (s : Value) (w : World) (hs : SlIs w.heap.size w t.ts s) (hb : t.bulk ≤ 1048576) :
    Calls Tryd.prog 13 #[tmv t s] w fun e w' => e = .returned (.int .i64 t.size) ∧ Below w.heap.size w w' := by
  obtain ⟨oa, cap, rfl, -⟩ := hs.form
  have hsz := Tm.size_bulk t
  refine (callsIn_wide (n := 3)).1 ?_
  refine callsIn_of_wp_marks Tryd.func13 rfl trivial ?_ rfl
  simp only [Tryd.ntmps13, List.size_toArray, List.length_cons, List.length_nil, Nat.reduceAdd, Nat.reduceSub, Array.replicate_succ, Array.replicate_zero, List.push_toArray, List.append_toArray, List.nil_append, List.cons_append]
  gi_wp2_with (refine ⟨trivial, ?_⟩; gi_at_call 56; refine (nodes_in Fence.wide _ trivial rfl _ _ _ _ _).mono ?_; rintro e w' ⟨rfl, rfl⟩)
  have hB0 : Below w.heap.size w (((w.alloc (.cells #[.string t.nm, .bool t.vr, .slice oa t.ts.length cap] 24)).alloc (.cells #[.int .i64 0] 3)).alloc (.cells #[.string t.nm, .bool t.vr, .slice oa t.ts.length cap] 24)) := by go_grown
  refine wpIn_rangeFunc_ownF rfl (by omega) (gf := 100) (lb := #[.pointer (some ⟨w.heap.size + 1 + 1, 0, none⟩)]) rfl trivial (enters_of Tryd.func100 (by kernel_rfl) rfl)
    (nodes_stops Fence.wide rfl _ trivial trivial rfl (w.heap.size + 1 + 1) w.heap.size t _ _ (by simp) (by simp; omega) (cell_new_at _ _ _ _ _ (by simp)) (cell_new_at _ _ _ _ _ (by simp)) (cell_new_at _ _ _ _ _ (by simp)) (hs.carry hB0 (Nat.le_refl _)) hb)
    (fun h k => h.trans k) (Keep.put (by simp; omega)) (Below.refl _ _) (fun _ => rfl)
    (fun pre W => Boxed W (w.heap.size + 1) 3 (.int .i64 (pre.length : Int)) ∧ Below w.heap.size w W)
    (fun _ _ _ => False)
    (OwnFrom.and (Own.from (boxed_own _ _ _) _) (ownFrom_below (Nat.le_refl _) (by simp; omega)))
    (fun _ _ _ _ _ hs _ _ => hs)
    ⟨(boxed_at _ _ _ _ (by simp)).alloc _, hB0⟩
    (fun x => { tmps := #[tmv t (.slice oa t.ts.length cap), .pointer (some ⟨w.heap.size, 0, none⟩), .int .i64 0, .pointer (some ⟨w.heap.size + 1, 0, none⟩), tmv t (.slice oa t.ts.length cap), .func (.func 100) #[] #[.pointer (some ⟨w.heap.size + 1 + 1, 0, none⟩)], .int .i64 x.d, .agg #[.string x.nm, .bool x.vr, .slice x.oa x.n x.cap], undef, undef, undef], defers := [] }) ?assign ?body ?done ?stop
  case assign =>
    intro l x W K hK
    simp only [Nd.encs]
    gi_wp2
    simpa using hK
  case body =>
    rintro l pre x W ⟨hX, hB⟩ hlt
    have hc := hX.cell
    have hf := hX.frozen
    have hz := hB.size
    gi_wp2
    refine ⟨KeepsOthers.setCell _ _ _, Keep.setCell _ (by simp) (by simp) _, ?_, hB.setCell (p := ⟨w.heap.size + 1, 0, none⟩) (by simp) _⟩
    rw [List.length_append]
    exact hX.set _
  case done =>
    rintro D ys W hD hys ⟨hX, hB⟩ hK
    have hc := hX.cell
    have HL : Hid ((ys.length : Int) = t.size) := Lib.hid (by have h := congrArg List.length hys; rw [List.length_map, Tm.nodes_length] at h; omega)
    clear hys
    gi_wp2
    refine ⟨by simp, .inl ⟨_, _, rfl, run_takeDeferred hK, ?_⟩⟩
    exact ⟨_, results_tmp rfl _ _ _, (by show Ending.returned (Value.int IntKind.i64 (ys.length : Int)) = _; exact ret_int HL.out), hB.trans (belowK_b (w := w) (Nat.le_refl _) W D _ _ (by simp at hD; omega) hK rfl rfl)⟩
  case stop =>
    rintro D c pre W _ _ h _
    exact h.elim

end Go.Proofs.YtdeaehkdhghfkaaDoor
