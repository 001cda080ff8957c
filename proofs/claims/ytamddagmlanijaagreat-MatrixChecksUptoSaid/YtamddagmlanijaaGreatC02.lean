/- Packed: Dp. -/
import Derived.RangeFuncNested
import Derived.RangeFuncBound
import Derived.RangeFuncCalls
import Derived.RangeFuncLeaves
import Derived.Shelf.Abstract
import Derived.Shelf.RegionOpen
import Derived.WalkKit
import Derived.OwnWalkIn
import Derived.TacticsInMore
import Derived.LoopNIn
import Derived.LoopIn
import Derived.Handy
import Derived.Lib.Hide
import Derived.Test.YtamddagmlanijaaGreatC01
/- Merged: Nodes, Nodes2, Dp. -/
/- The nodes of a term, as the program's iterator visits them: a recursive function that hands yield on. -/
namespace Go.Proofs.YtamddagmlanijaaGreat
open Go.RowKit Go.Shelf
attribute [local go_sem] Oper.semAt_some

theorem room_of_none {F : Fence} (hd : F.depth = none) (k : Nat) : F.room k := fun d h => by rw [hd] at h; cases h
theorem roundAny {F : Fence} (hd : F.depth = none) {m m' : Nat} {P : Program} {l : Nat} {f : FuncId} {tmps : Array Value} {assign body : Code} {w : World} {R : Ending → World → Prop}
    (h : RoundIn F m P l f tmps assign body w R) : RoundIn F m' P l f tmps assign body w R := ⟨h.1, fun c cs _ => h.2 c cs (room_of_none hd _)⟩
theorem yieldAny {F : Fence} (hd : F.depth = none) {m : Nat} (m' : Nat) {P : Program} {l : Nat} {args : Array Value} {W : World} {R : Ending → World → Prop} (h : YieldAt F m P l args W R) : YieldAt F m' P l args W R := by
  obtain ⟨fn, tmps, assign, body, hy, hR⟩ := h
  exact ⟨fn, tmps, assign, body, hy, roundAny hd hR⟩

/-- what a node shows: its depth, name, kind, and how many arguments it has -/
abbrev View := Nat × ByteArray × Bool × Nat
mutual
def Tm.nodes (d : Nat) : Tm → List View
  | .mk n v l => (d, n, v, l.length) :: Tm.nodesL (d + 1) l
def Tm.nodesL (d : Nat) : List Tm → List View
  | [] => []
  | t :: r => Tm.nodes d t ++ Tm.nodesL d r
end
theorem Tm.nodes_eq (d : Nat) (t : Tm) : t.nodes d = (d, t.nm, t.vr, t.ts.length) :: Tm.nodesL (d + 1) t.ts := by cases t; simp [Tm.nodes, Tm.nm, Tm.vr, Tm.ts]
theorem Tm.nodesL_append (d : Nat) (l r : List Tm) : Tm.nodesL d (l ++ r) = Tm.nodesL d l ++ Tm.nodesL d r := by
  induction l with
  | nil => simp [Tm.nodesL]
  | cons t l ih => simp [Tm.nodesL, ih]
theorem Tm.nodesL_length (l : List Tm) (h : ∀ u ∈ l, ∀ d, (u.nodes d).length = u.size) (d : Nat) : (Tm.nodesL d l).length = Tm.sizes l := by
  induction l with
  | nil => simp [Tm.nodesL, Tm.sizes]
  | cons t l ih => simp [Tm.nodesL, Tm.sizes, h t (by simp), ih (fun u hu => h u (by simp [hu]))]
theorem Tm.nodes_length (t : Tm) (d : Nat) : (t.nodes d).length = t.size := by
  induction t using Tm.ind generalizing d with
  | h t ih => rw [Tm.nodes_eq, Tm.size_eq, List.length_cons, Tm.nodesL_length _ ih]; omega

theorem Tm.nodes_prefix {l : List Tm} {k d : Nat} {u : Tm} (h : l[k]? = some u) {ys : List View} (hy : ys <+: u.nodes d) : Tm.nodesL d (l.take k) ++ ys <+: Tm.nodesL d l := by
  obtain ⟨r, hr⟩ := hy
  refine ⟨r ++ Tm.nodesL d (l.drop (k + 1)), ?_⟩
  have e : Tm.nodesL d l = Tm.nodesL d (l.take (k + 1)) ++ Tm.nodesL d (l.drop (k + 1)) := by rw [← Tm.nodesL_append, List.take_append_drop]
  rw [e, Tm.take_snoc h, Tm.nodesL_append]
  simp [Tm.nodesL, ← hr]

/-- what the iterator hands to yield -/
structure Nd where
  d : Nat
  nm : ByteArray
  vr : Bool
  oa : Option Addr
  n : Nat
  cap : Nat
  hd : d ≤ 2097152
  hnm : nm.size ≤ 1048576
  hn : n ≤ 1048576
def Nd.view (x : Nd) : View := (x.d, x.nm, x.vr, x.n)
@[reducible] def Nd.encs (x : Nd) : Array Value := #[.int .i64 x.d, .agg #[.string x.nm, .bool x.vr, .slice x.oa x.n x.cap]]

/-- What a round that goes on keeps: all blocks below n₀, and the cells of all blocks from m₀ on. -/
structure Keep (n₀ m₀ : Nat) (A B : World) : Prop where
  below : Below n₀ A B
  cells : ∀ k, m₀ ≤ k → ∀ o, A.heap[k]? = some o → o.isCells = true → B.heap[k]? = some o
theorem Keep.refl (n₀ m₀ : Nat) (A : World) : Keep n₀ m₀ A A := ⟨Below.refl _ _, fun _ _ _ h _ => h⟩
theorem Keep.trans {n₀ m₀ : Nat} {A B C : World} (h : Keep n₀ m₀ A B) (k : Keep n₀ m₀ B C) : Keep n₀ m₀ A C :=
  ⟨h.below.trans k.below, fun i hi o ho hc => k.cells i hi o (h.cells i hi o ho hc) hc⟩
theorem Keep.put {n₀ m₀ : Nat} {w : World} (hn : n₀ ≤ w.heap.size) (W : World) (l : Nat) (o o' : Obj) (hl : w.heap.size ≤ l) (h : W.heap[l]? = some o) (hc : o.isCells = false) (hw : o.isWalk = false) : Keep n₀ m₀ W (W.putObj l o') :=
  ⟨belowK_b hn W l o o' hl h hc hw, fun k _ p hp hpc => by
    by_cases e : k = l
    · subst e; rw [h] at hp; cases hp; rw [hc] at hpc; cases hpc
    · exact (World.putObj_heap_other e).trans hp⟩
theorem Keep.alloc {n₀ m₀ : Nat} {A B : World} (h : Keep n₀ m₀ A B) (hn : n₀ ≤ B.heap.size) (o : Obj) : Keep n₀ m₀ A (B.alloc o) :=
  h.trans ⟨(Below.refl n₀ B).alloc hn o, fun _ _ _ hp _ => (Below.heap_alloc _ _ _ (Array.getElem?_eq_some_iff.1 hp).1).trans hp⟩
/-- a new block of cells, behind a round -/
theorem Keep.new {n₀ m₀ : Nat} {A B : World} {c : Array Value} {ty : TypeId} (h : Keep n₀ m₀ (A.alloc (.cells c ty)) B) (hm : m₀ ≤ A.heap.size) (j : Nat) :
    B.cell? ⟨A.heap.size, j, none⟩ = c[j]? := by
  have := h.cells A.heap.size hm _ (World.alloc_heap_new A _) rfl
  simp [World.cell?, this]
set_option maxRecDepth 100000 in
set_option maxHeartbeats 2000000 in
theorem tmWalkIn (F : Fence) (hd : F.depth = none) (hf : F.fn 223) (hro : F.round = none) (l n₀ m₀ N : Nat) (J Jx : List Nd → World → Prop) (hJ : ∀ s A o, J s A → J s (World.alloc A o))
    (hnm : n₀ ≤ m₀)
    (hY : ∀ m pre (x : Nd) W, J pre W → pre.length < N → YieldAt F m Tryz.prog l x.encs W fun e W' =>
      (e = .returned (.bool true) ∧ J (pre ++ [x]) W' ∧ Keep n₀ m₀ W W') ∨ (e = .returned (.bool false) ∧ Jx (pre ++ [x]) W')) (t : Tm) :
    ∀ (n d : Nat) (s : Value) (pre : List Nd) (W : World), SlIs n₀ W t.ts s → m₀ ≤ W.heap.size → J pre W → pre.length + t.size ≤ N → t.bulk ≤ 1048576 → d + t.size ≤ 2097152 →
      CallsIn F n Tryz.prog 223 #[.int .i64 d, tmv t s, .func (.yield l) #[] #[]] W fun e W' =>
        (e = .returned (.bool true) ∧ (∃ xs : List Nd, xs.map Nd.view = t.nodes d ∧ J (pre ++ xs) W') ∧ Below n₀ W W') ∨
        (e = .returned (.bool false) ∧ ∃ xs : List Nd, xs.map Nd.view <+: t.nodes d ∧ Jx (pre ++ xs) W') := by
  induction t using Tm.ind with
  | h t ih =>
    intro n d s pre W hs hm0 hJW hN hb hdz
    have hdd : ∀ k : Nat, (F.depth.isSome = true → 1 ≤ k) := fun k h => by rw [hd] at h; cases h
    obtain ⟨oa, cap, rfl, -⟩ := hs.form
    have hse := Tm.size_eq t
    have hl := Tm.length_sizes t.ts
    have hsz := Tm.size_bulk t
    have hbe := Tm.bulk_eq t
    have hlen : t.ts.length ≤ 1048576 := by omega
    have hdle : d ≤ 2097152 := by omega
    have IH := Lib.hid ih
    have HE := Lib.hid hse
    have HB := Lib.hid hbe
    clear ih hse hbe
    obtain ⟨x0, hx0⟩ : ∃ x0 : Nd, x0 = ⟨d, t.nm, t.vr, oa, t.ts.length, cap, hdle, by have := HB.out; omega, hlen⟩ := ⟨_, rfl⟩
    have hpos := Tm.size_pos t
    have hy0 := hY (n - 1) pre x0 _ (hJ _ _ (.cells #[.string t.nm, .bool t.vr, .slice oa t.ts.length cap] 25) hJW) (by omega)
    have HX : Hid (x0.view = (d, t.nm, t.vr, t.ts.length)) := Lib.hid (by rw [hx0]; rfl)
    rw [show x0.encs = #[.int .i64 d, .agg #[.string t.nm, .bool t.vr, .slice oa t.ts.length cap]] from by rw [hx0]] at hy0
    clear hx0
    obtain ⟨fn, tmps, assign, body, hy, hR⟩ := hy0
    have HV : Hid (t.nodes d = (d, t.nm, t.vr, t.ts.length) :: Tm.nodesL (d + 1) t.ts) := Lib.hid (Tm.nodes_eq d t)
    refine callsIn_of_wp Tryz.func223 rfl hf ?_ hro
    simp only [Tryz.ntmps223, List.size_toArray, List.length_cons, List.length_nil, Nat.reduceAdd, Nat.reduceSub, Array.replicate_succ, Array.replicate_zero, List.push_toArray, List.append_toArray, List.nil_append, List.cons_append]
    gi_wp2
    refine hR.mono ?_
    clear hR hy
    rintro e W1 (⟨rfl, hJ1, hk1⟩ | ⟨rfl, hJx1⟩)
    · have hb1 : Below n₀ W W1 := Below.trans ((Below.refl n₀ W).alloc (by omega) _) hk1.below
      have hz1 := hk1.below.size
      have hc2 := hk1.new hm0 2
      gi_wp2
      gi_loopw [17] (fun i wr => ∃ (k : Nat) (xs : List Nd), k ≤ t.ts.length ∧ i = .int .i64 k ∧ Hid (xs.map Nd.view = (d, t.nm, t.vr, t.ts.length) :: Tm.nodesL (d + 1) (t.ts.take k)) ∧ J (pre ++ xs) wr ∧ Below n₀ W wr ∧ m₀ ≤ wr.heap.size) (fun i _ => t.ts.length - (intOf i).toNat)
      case atStart => exact ⟨0, [x0], by omega, rfl, Lib.hid (by simp [Tm.nodesL]; exact HX.out), hJ1, hb1, by simp at hz1; omega⟩
      case round =>
        obtain ⟨k, xs, hk, rfl, HXS, hJw, hbw, hmw⟩ := hrel
        by_cases hlt : k < t.ts.length
        · obtain ⟨b, o, u, s, rfl, hbb, hu, hum, hus, c1, c2, c3⟩ := (hs.carry hbw (Nat.le_refl _)).get hlt
          obtain ⟨oa2, cap2, rfl, -⟩ := hus.form
          have hub := Tm.bulk_mem hum
          have hus2 := Tm.size_mem hum
          have hub2 : u.bulk ≤ 1048576 := by have := HB.out; omega
          have hsz2 : d + 1 + u.size ≤ 2097152 := by have := HE.out; omega
          have htk := Tm.take_snoc hu
          have hxl : xs.length = 1 + Tm.sizes (t.ts.take k) := by
            have h := congrArg List.length HXS.out
            rw [List.length_map, List.length_cons, Tm.nodesL_length _ (fun u _ d => Tm.nodes_length u d)] at h
            omega
          have hst := Tm.sizes_append (t.ts.take k) [u]
          have hsk := Tm.sizes_take t.ts (k + 1)
          have hNu : (pre ++ xs).length + u.size ≤ N := by
            have h1 := HE.out
            rw [htk, hst] at hsk
            simp [Tm.sizes] at hsk
            simp
            omega
          have HT := Lib.hid htk
          have IHu : ∀ W2, Below n₀ wr W2 → m₀ ≤ W2.heap.size → J (pre ++ xs) W2 → Hid (CallsIn F (n - 1) Tryz.prog 223 #[.int .i64 ((d : Int) + 1), tmv u (.slice oa2 u.ts.length cap2), .func (.yield l) #[] #[]] W2 fun e W' =>
              (e = .returned (.bool true) ∧ (∃ ys : List Nd, ys.map Nd.view = u.nodes (d + 1) ∧ J (pre ++ xs ++ ys) W') ∧ Below n₀ W2 W') ∨
              (e = .returned (.bool false) ∧ ∃ ys : List Nd, ys.map Nd.view <+: u.nodes (d + 1) ∧ Jx (pre ++ xs ++ ys) W')) := fun W2 h2 hm2 hJ2 =>
            Lib.hid (IH.out u hum (n - 1) (d + 1) _ (pre ++ xs) W2 (hus.carry h2 (Nat.le_refl _)) hm2 hJ2 hNu hub2 hsz2)
          have HU := Lib.hid hu
          clear htk hst hsk hu hxl
          gi_wp2_with fail
          refine (IHu _ ((Below.refl n₀ wr).alloc (by omega) _) (by simp; omega) (hJ _ _ _ hJw)).out.mono ?_
          clear IHu
          rintro e W2 (⟨rfl, ⟨ys, hys, hJ2⟩, hb2⟩ | ⟨rfl, ys, hys, hJx2⟩)
          · have hb2' : Below n₀ W W2 := hbw.trans (Below.trans ((Below.refl n₀ wr).alloc (by omega) _) hb2)
            have hz2 := hb2.size
            have HY2 := Lib.hid hys
            clear hys
            gi_wp2_with fail
            refine ⟨⟨k + 1, xs ++ ys, by omega, by go_num, Lib.hid ?_, by rw [← List.append_assoc]; exact hJ2, hb2', by simp at hz2; omega⟩, by simp [intOf]; omega⟩
            rw [List.map_append, HXS.out, HY2.out, HT.out, Tm.nodesL_append]
            simp [Tm.nodesL]
          · gi_wp2_with fail
            go_ret
            refine .inr ⟨rfl, xs ++ ys, ?_, by rw [← List.append_assoc]; exact hJx2⟩
            rw [HV.out, List.map_append, HXS.out, List.cons_append]
            exact List.cons_prefix_cons.2 ⟨rfl, Tm.nodes_prefix HU.out hys⟩
        · obtain rfl : k = t.ts.length := by omega
          gi_wp2
          go_ret
          exact .inl ⟨rfl, ⟨xs, by rw [HXS.out, HV.out, List.take_of_length_le (Nat.le_refl _)], hJw⟩, hbw⟩
    · gi_wp2
      go_ret
      exact .inr ⟨rfl, [x0], by rw [HV.out]; simp [HX.out], hJx1⟩

end Go.Proofs.YtamddagmlanijaaGreat
/- nodes(t) gives an iterator over the nodes of t; Size and Depth by it. -/
namespace Go.Proofs.YtamddagmlanijaaGreat
open Go.RowKit Go.Shelf
attribute [local go_sem] Oper.semAt_some

set_option maxRecDepth 100000 in
set_option maxHeartbeats 1000000 in
theorem nodes_in (F : Fence) (n : Nat) (hf : F.fn 166) (hro : F.round = none) (t : Tm) (oa : Option Addr) (len cap : Nat) (w : World) :
    CallsIn F n Tryz.prog 166 #[.agg #[.string t.nm, .bool t.vr, .slice oa len cap]] w fun e w' =>
      e = .returned (.func (.func 222) #[] #[.pointer (some ⟨w.heap.size, 0, none⟩)]) ∧ w' = w.alloc (.cells #[.string t.nm, .bool t.vr, .slice oa len cap] 25) := by
  refine callsIn_of_wp Tryz.func166 rfl hf ?_ hro
  simp only [Tryz.ntmps166, List.size_toArray, List.length_cons, List.length_nil, Nat.reduceAdd, Nat.reduceSub, Array.replicate_succ, Array.replicate_zero, List.push_toArray, List.append_toArray, List.nil_append, List.cons_append]
  gi_wp2
  go_ret
  exact ⟨rfl, rfl⟩

set_option maxRecDepth 100000 in
set_option maxHeartbeats 1000000 in
theorem nodes1_in (F : Fence) (hd : F.depth = none) (n : Nat) (hf : F.fn 222) (hfw : F.fn 223) (hro : F.round = none) (l Bt n₀ m₀ : Nat) (t : Tm) (s : Value) (J Jx : List Nd → World → Prop) (hJ : ∀ s A o, J s A → J s (World.alloc A o))
    (hnm : n₀ ≤ m₀)
    (hY : ∀ pre (x : Nd) W, J pre W → pre.length < t.size → YieldAt F (n - 1) Tryz.prog l x.encs W fun e W' =>
      (e = .returned (.bool true) ∧ J (pre ++ [x]) W' ∧ Keep n₀ m₀ W W') ∨ (e = .returned (.bool false) ∧ Jx (pre ++ [x]) W'))
    (W : World) (hm : m₀ ≤ W.heap.size) (h0 : W.cell? ⟨Bt, 0, none⟩ = some (.string t.nm)) (h1 : W.cell? ⟨Bt, 1, none⟩ = some (.bool t.vr)) (h2 : W.cell? ⟨Bt, 2, none⟩ = some s) (hs : SlIs n₀ W t.ts s) (hb : t.bulk ≤ 1048576) (hJ0 : J [] W) :
    CallsIn F n Tryz.prog 222 #[.func (.yield l) #[] #[], .pointer (some ⟨Bt, 0, none⟩)] W fun e W' => (∃ v, e = .returned v) ∧
      ((∃ ys : List Nd, ys.map Nd.view = t.nodes 1 ∧ J ys W') ∨ (∃ pre : List Nd, pre.map Nd.view <+: t.nodes 1 ∧ Jx pre W')) := by
  have hdd : ∀ k : Nat, (F.depth.isSome = true → 1 ≤ k) := fun k h => by rw [hd] at h; cases h
  have hsz := Tm.size_bulk t
  have HP := Lib.hid (tmWalkIn F hd hfw hro l n₀ m₀ t.size J Jx hJ hnm (fun m pre x W hj hl => yieldAny hd m (hY pre x W hj hl)) t (n - 1) 1 s [] W hs hm hJ0 (by simp) hb (by omega))
  obtain ⟨oa, cap, rfl, -⟩ := hs.form
  refine callsIn_of_wp Tryz.func222 rfl hf ?_ hro
  simp only [Tryz.ntmps222, List.size_toArray, List.length_cons, List.length_nil, Nat.reduceAdd, Nat.reduceSub, Array.replicate_succ, Array.replicate_zero, List.push_toArray, List.append_toArray, List.nil_append, List.cons_append]
  gi_wp2_with fail
  refine HP.out.mono ?_
  clear HP
  rintro e W1 (⟨rfl, ⟨xs, hxs, hJ1⟩, _⟩ | ⟨rfl, xs, hxs, hx⟩)
  · have HX := Lib.hid hxs
    clear hxs
    gi_wp2_with fail
    go_end0
    exact ⟨⟨_, rfl⟩, .inl ⟨xs, HX.out, by simpa using hJ1⟩⟩
  · have HX := Lib.hid hxs
    clear hxs
    gi_wp2_with fail
    go_end0
    exact ⟨⟨_, rfl⟩, .inr ⟨xs, HX.out, by simpa using hx⟩⟩

/-- THE ITERATOR'S CONTRACT. -/
theorem nodes_stops (F : Fence) (hd : F.depth = none) (n : Nat) (hf : F.fn 222) (hfw : F.fn 223) (hro : F.round = none) (Bt n₀ : Nat) (t : Tm) (s : Value) (w : World) (hBt : Bt < w.heap.size) (hn : n₀ ≤ w.heap.size)
    (h0 : w.cell? ⟨Bt, 0, none⟩ = some (.string t.nm)) (h1 : w.cell? ⟨Bt, 1, none⟩ = some (.bool t.vr)) (h2 : w.cell? ⟨Bt, 2, none⟩ = some s) (hs : SlIs n₀ w t.ts s) (hb : t.bulk ≤ 1048576) :
    SeqStopsK F n Tryz.prog 222 #[.pointer (some ⟨Bt, 0, none⟩)] Nd.encs (Keep n₀ w.heap.size) (fun ys => ys.map Nd.view = t.nodes 1) (fun pre => pre.map Nd.view <+: t.nodes 1) t.size w := fun l J Jx W hW hJ _ hY hJ0 =>
  nodes1_in F hd n hf hfw hro l Bt n₀ w.heap.size t s J Jx (fun s A o h => hJ s A _ none h (World.grownBy_alloc A o none) (fun r e => by cases e)) hn hY W hW.size
    ((hW.cell (p := ⟨Bt, 0, none⟩) hBt).trans h0) ((hW.cell (p := ⟨Bt, 1, none⟩) hBt).trans h1) ((hW.cell (p := ⟨Bt, 2, none⟩) hBt).trans h2) (hs.carry (hW.mono hn) (Nat.le_refl _)) hb hJ0

theorem Keep.setCell {n₀ m₀ : Nat} (W : World) {p : Addr} (h : n₀ ≤ p.block) (hm : p.block < m₀) (v : Value) : Keep n₀ m₀ W (W.setCell p v) :=
  ⟨(Below.refl n₀ W).setCell h v, fun k hk _ hp _ => (Below.heap_setCell W p v k (by omega)).trans hp⟩
end Go.Proofs.YtamddagmlanijaaGreat
/- Depth, by the iterator over nodes. -/
namespace Go.Proofs.YtamddagmlanijaaGreat
open Go.RowKit Go.Shelf
attribute [local go_sem] Oper.semAt_some

/-- the greatest depth of what has come -/
def dmax (l : List View) : Nat := l.foldl (fun m v => max m v.1) 0
theorem foldl_max (l : List View) (m : Nat) : l.foldl (fun m v => max m v.1) m = max m (dmax l) := by
  induction l generalizing m with
  | nil => simp [dmax]
  | cons v l ih =>
    have e : dmax (v :: l) = l.foldl (fun m v => max m v.1) (max 0 v.1) := rfl
    rw [List.foldl_cons, ih, e, ih]; omega
theorem dmax_snoc (l : List View) (v : View) : dmax (l ++ [v]) = max (dmax l) v.1 := by simp [dmax]
theorem dmax_cons (l : List View) (v : View) : dmax (v :: l) = max v.1 (dmax l) := by
  have e : dmax (v :: l) = l.foldl (fun m v => max m v.1) (max 0 v.1) := rfl
  rw [e, foldl_max]; omega
theorem dmax_append (l r : List View) : dmax (l ++ r) = max (dmax l) (dmax r) := by rw [dmax, List.foldl_append, foldl_max]; rfl
theorem dmax_nodesL (l : List Tm) (h : ∀ u ∈ l, ∀ d, dmax (u.nodes d) + 1 = d + u.depth) (d : Nat) : dmax (Tm.nodesL d l) + 1 = if l = [] then 1 else d + Tm.depths l := by
  induction l with
  | nil => simp [Tm.nodesL, dmax]
  | cons t l ih =>
    have h1 := h t (by simp) d
    have h2 := ih (fun u hu => h u (by simp [hu]))
    have h3 : 1 ≤ t.depth := by rw [Tm.depth_eq]; omega
    rw [Tm.nodesL, dmax_append, Tm.depths, if_neg (by simp)]
    by_cases e : l = []
    · subst e; simp [Tm.depths] at h2 ⊢; omega
    · rw [if_neg e] at h2; omega
theorem dmax_nodes (t : Tm) (d : Nat) : dmax (t.nodes d) + 1 = d + t.depth := by
  induction t using Tm.ind generalizing d with
  | h t ih =>
    have h := dmax_nodesL t.ts ih (d + 1)
    rw [Tm.nodes_eq, dmax_cons, Tm.depth_eq]
    by_cases e : t.ts = []
    · rw [if_pos e] at h; rw [e] at h ⊢; simp [Tm.depths] at h ⊢; omega
    · rw [if_neg e] at h; simp only; omega

end Go.Proofs.YtamddagmlanijaaGreat
