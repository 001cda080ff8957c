/- nodes(t) gives an iterator over the nodes of t; Size and Depth by it. -/
import Derived.Test.YtdnkommcnkbeeaaNodes
import Derived.Test.YtdnkommcnkbeeaaMem
namespace Go.Proofs.Ytdnkommcnkbeeaa
open Go.RowKit Go.Shelf
attribute [local go_sem] Oper.semAt_some

set_option maxRecDepth 100000 in
set_option maxHeartbeats 1000000 in
theorem nodes_in (F : Fence) (n : Nat) (hf : F.fn 62) (hro : F.round = none) (t : Tm) (oa : Option Addr) (len cap : Nat) (w : World) :
    CallsIn F n Try.prog 62 #[.agg #[.string t.nm, .bool t.vr, .slice oa len cap]] w fun e w' =>
      e = .returned (.func (.func 75) #[] #[.pointer (some ⟨w.heap.size, 0, none⟩)]) ∧ w' = w.alloc (.cells #[.string t.nm, .bool t.vr, .slice oa len cap] 34) := by
  refine callsIn_of_wp Try.func62 rfl hf ?_ hro
  simp only [Try.ntmps62, List.size_toArray, List.length_cons, List.length_nil, Nat.reduceAdd, Nat.reduceSub, Array.replicate_succ, Array.replicate_zero, List.push_toArray, List.append_toArray, List.nil_append, List.cons_append]
  gi_wp2
  go_ret
  exact ⟨rfl, rfl⟩

set_option maxRecDepth 100000 in
set_option maxHeartbeats 1000000 in
theorem nodes1_in (F : Fence) (hd : F.depth = none) (n : Nat) (hf : F.fn 75) (hfw : F.fn 76) (hro : F.round = none) (l Bt n₀ m₀ : Nat) (t : Tm) (s : Value) (J Jx : List Nd → World → Prop) (hJ : ∀ s A o, J s A → J s (World.alloc A o))
    (hnm : n₀ ≤ m₀)
    (hY : ∀ pre (x : Nd) W, J pre W → pre.length < t.size → YieldAt F (n - 1) Try.prog l x.encs W fun e W' =>
      (e = .returned (.bool true) ∧ J (pre ++ [x]) W' ∧ Keep n₀ m₀ W W') ∨ (e = .returned (.bool false) ∧ Jx (pre ++ [x]) W'))
    (W : World) (hm : m₀ ≤ W.heap.size) (h0 : W.cell? ⟨Bt, 0, none⟩ = some (.string t.nm)) (h1 : W.cell? ⟨Bt, 1, none⟩ = some (.bool t.vr)) (h2 : W.cell? ⟨Bt, 2, none⟩ = some s) (hs : SlIs n₀ W t.ts s) (hb : t.bulk ≤ 1048576) (hJ0 : J [] W) :
    CallsIn F n Try.prog 75 #[.func (.yield l) #[] #[], .pointer (some ⟨Bt, 0, none⟩)] W fun e W' => (∃ v, e = .returned v) ∧
      ((∃ ys : List Nd, ys.map Nd.view = t.nodes 1 ∧ J ys W') ∨ (∃ pre : List Nd, pre.map Nd.view <+: t.nodes 1 ∧ Jx pre W')) := by
  have hdd : ∀ k : Nat, (F.depth.isSome = true → 1 ≤ k) := fun k h => by rw [hd] at h; cases h
  have hsz := Tm.size_bulk t
  have HP := Lib.hid (tmWalkIn F hd hfw hro l n₀ m₀ t.size J Jx hJ hnm (fun m pre x W hj hl => yieldAny hd m (hY pre x W hj hl)) t (n - 1) 1 s [] W hs hm hJ0 (by simp) hb (by omega))
  obtain ⟨oa, cap, rfl, -⟩ := hs.form
  refine callsIn_of_wp Try.func75 rfl hf ?_ hro
  simp only [Try.ntmps75, List.size_toArray, List.length_cons, List.length_nil, Nat.reduceAdd, Nat.reduceSub, Array.replicate_succ, Array.replicate_zero, List.push_toArray, List.append_toArray, List.nil_append, List.cons_append]
  gi_wp2_with fail
  refine HP.out.mono ?_
  clear HP
  rintro e W1 (⟨rfl, ⟨xs, hxs, hJ1⟩, _⟩ | ⟨rfl, xs, hxs, hx⟩)
  · have HX := Lib.hid hxs
    clear hxs
    gi_wp2_with fail
    go_end0
    exact ⟨⟨_, rfl⟩, .inl ⟨xs, HX.out, by simpa using hJ1⟩⟩
  · have HX := Lib.hid hxs
    clear hxs
    gi_wp2_with fail
    go_end0
    exact ⟨⟨_, rfl⟩, .inr ⟨xs, HX.out, by simpa using hx⟩⟩

/-- THE ITERATOR'S CONTRACT. -/
theorem nodes_stops (F : Fence) (hd : F.depth = none) (n : Nat) (hf : F.fn 75) (hfw : F.fn 76) (hro : F.round = none) (Bt n₀ : Nat) (t : Tm) (s : Value) (w : World) (hBt : Bt < w.heap.size) (hn : n₀ ≤ w.heap.size)
    (h0 : w.cell? ⟨Bt, 0, none⟩ = some (.string t.nm)) (h1 : w.cell? ⟨Bt, 1, none⟩ = some (.bool t.vr)) (h2 : w.cell? ⟨Bt, 2, none⟩ = some s) (hs : SlIs n₀ w t.ts s) (hb : t.bulk ≤ 1048576) :
    SeqStopsK F n Try.prog 75 #[.pointer (some ⟨Bt, 0, none⟩)] Nd.encs (Keep n₀ w.heap.size) (fun ys => ys.map Nd.view = t.nodes 1) (fun pre => pre.map Nd.view <+: t.nodes 1) t.size w := fun l J Jx W hW hJ _ hY hJ0 =>
  nodes1_in F hd n hf hfw hro l Bt n₀ w.heap.size t s J Jx (fun s A o h => hJ s A _ none h (World.grownBy_alloc A o none) (fun r e => by cases e)) hn hY W hW.size
    ((hW.cell (p := ⟨Bt, 0, none⟩) hBt).trans h0) ((hW.cell (p := ⟨Bt, 1, none⟩) hBt).trans h1) ((hW.cell (p := ⟨Bt, 2, none⟩) hBt).trans h2) (hs.carry (hW.mono hn) (Nat.le_refl _)) hb hJ0


theorem Keep.setCell {n₀ m₀ : Nat} (W : World) {p : Addr} (h : n₀ ≤ p.block) (hm : p.block < m₀) (v : Value) : Keep n₀ m₀ W (W.setCell p v) :=
  ⟨(Below.refl n₀ W).setCell h v, fun k hk _ hp _ => (Below.heap_setCell W p v k (by omega)).trans hp⟩
end Go.Proofs.Ytdnkommcnkbeeaa
