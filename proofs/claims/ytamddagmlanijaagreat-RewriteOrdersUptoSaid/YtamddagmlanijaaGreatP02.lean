/- Packed: Own, Dp. -/
import Derived.WalkKit
import Derived.RangeFuncBox
import Derived.Deep.Draws
import Derived.Test.YtamddagmlanijaaGreatP01
import Derived.RangeFuncNested
import Derived.RangeFuncBound
import Derived.RangeFuncCalls
import Derived.RangeFuncLeaves
import Derived.Shelf.Abstract
import Derived.Shelf.RegionOpen
import Derived.OwnWalkIn
import Derived.TacticsInMore
import Derived.LoopNIn
import Derived.LoopIn
import Derived.Handy
import Derived.Lib.Hide
/- Merged: Mem, Own. -/
/- Small facts on memory. No program stands here. -/
namespace Go.Proofs.YtamddagmlanijaaGreat
open Go.RowKit
theorem add_blk (a : Addr) (j : Nat) : (a.add j).block = a.block := by unfold Addr.add; split <;> rfl
theorem below_drewN {B : Nat} {A W : World} (n : Nat) (h : Below B A W) : Below B A (W.drewN n) := ⟨h.os, h.tape, h.output, h.size, h.block⟩
theorem below_grown {A W : World} (h : Below A.heap.size A W) : A.grownBy W none := ⟨h.os, h.tape, h.output, h.size, fun i hi _ => h.block i hi⟩
theorem cell_at_new (W : World) (c : Array Value) (ty : TypeId) (j : Nat) : (W.alloc (.cells c ty)).cell? ⟨W.heap.size, j, none⟩ = c[j]? := by
  have h := World.alloc_heap_new W (.cells c ty)
  unfold World.cell?
  simp only [h]
  rfl
theorem cell_new_at (W : World) (c : Array Value) (ty : TypeId) (b j : Nat) (h : b = W.heap.size) : (W.alloc (.cells c ty)).cell? ⟨b, j, none⟩ = c[j]? := by
  subst h; exact cell_at_new W c ty j
theorem boxed_at (W : World) (v : Value) (ty : TypeId) (b : Nat) (h : b = W.heap.size) : Boxed (W.alloc (.cells #[v] ty)) b ty v := by
  subst h; exact Boxed.new W ty v
theorem cell_old (W : World) (o : Obj) (b j : Nat) (h : b < W.heap.size) : (W.alloc o).cell? ⟨b, j, none⟩ = W.cell? ⟨b, j, none⟩ :=
  ((Below.refl W.heap.size W).alloc (Nat.le_refl _) o).cell (p := ⟨b, j, none⟩) h

end Go.Proofs.YtamddagmlanijaaGreat
/- Terms in memory of their own, no block met twice; what may change beside them. No program stands here. -/
namespace Go.Proofs.YtamddagmlanijaaGreat
open Go.RowKit

/-- Of the blocks that are there, those below n₀ and from m on are as they were. -/
structure Fr (n₀ m : Nat) (A B : World) : Prop where
  os : B.os = A.os
  tape : B.tape = A.tape
  output : B.output = A.output
  size : A.heap.size ≤ B.heap.size
  block : ∀ k, k < A.heap.size → (k < n₀ ∨ m ≤ k) → B.heap[k]? = A.heap[k]?
theorem Fr.refl (n₀ m : Nat) (A : World) : Fr n₀ m A A := ⟨rfl, rfl, rfl, Nat.le_refl _, fun _ _ _ => rfl⟩
theorem Fr.trans {n₀ m : Nat} {A B C : World} (h : Fr n₀ m A B) (k : Fr n₀ m B C) : Fr n₀ m A C :=
  ⟨k.os.trans h.os, k.tape.trans h.tape, k.output.trans h.output, Nat.le_trans h.size k.size, fun i hi hc => (k.block i (Nat.lt_of_lt_of_le hi h.size) hc).trans (h.block i hi hc)⟩
theorem Fr.of_below {n₀ m : Nat} {A B : World} (h : Below A.heap.size A B) : Fr n₀ m A B := ⟨h.os, h.tape, h.output, h.size, fun k hk _ => h.block k hk⟩
theorem Fr.alloc {n₀ m : Nat} {A B : World} (h : Fr n₀ m A B) (o : Obj) : Fr n₀ m A (B.alloc o) := h.trans (Fr.of_below ((Below.refl _ B).alloc (Nat.le_refl _) o))
/-- a store into a block that is new to A -/
theorem Fr.setNew {n₀ m : Nat} {A B : World} (h : Fr n₀ m A B) {p : Addr} (hp : A.heap.size ≤ p.block) (v : Value) : Fr n₀ m A (B.setCell p v) :=
  ⟨h.os, h.tape, h.output, by simpa [World.setCell] using h.size, fun k hk hc => (Below.heap_setCell B p v k (by omega)).trans (h.block k hk hc)⟩
theorem Fr.below {n₀ m : Nat} {A B : World} (h : Fr n₀ m A B) (hn : n₀ ≤ A.heap.size) : Below n₀ A B := ⟨h.os, h.tape, h.output, h.size, fun k hk => h.block k (by omega) (.inl hk)⟩
theorem Fr.all {m : Nat} {A B : World} (h : Fr m m A B) : Below A.heap.size A B := ⟨h.os, h.tape, h.output, h.size, fun k hk => h.block k hk (by omega)⟩
theorem Fr.drew {n₀ m : Nat} {A B : World} (h : Fr n₀ m A B) : Fr n₀ m A B.drew := ⟨h.os, h.tape, h.output, h.size, h.block⟩

abbrev Child := Tm × Value × List Nat
def chCells (ch : List Child) : List Value := ch.flatMap fun c => [.string c.1.nm, .bool c.1.vr, c.2.1]
theorem chCells_append (a b : List Child) : chCells (a ++ b) = chCells a ++ chCells b := by simp [chCells]
theorem chCells_length (a : List Child) : (chCells a).length = a.length * 3 := by
  induction a with
  | nil => rfl
  | cons p a ih => simp [chCells] at ih ⊢; omega
theorem chCells_at (ch : List Child) (i : Nat) (c : Child) (h : ch[i]? = some c) :
    (chCells ch)[i * 3]? = some (.string c.1.nm) ∧ (chCells ch)[i * 3 + 1]? = some (.bool c.1.vr) ∧ (chCells ch)[i * 3 + 2]? = some c.2.1 := by
  induction ch generalizing i with
  | nil => simp at h
  | cons p ch ih =>
    cases i with
    | zero => simp at h; subst h; simp [chCells]
    | succ i =>
      obtain ⟨h1, h2, h3⟩ := ih i (by simpa using h)
      have e : ∀ r, (i + 1) * 3 + r = i * 3 + r + 3 := fun r => by omega
      refine ⟨?_, ?_, ?_⟩
      · have := e 0; simp only [Nat.add_zero] at this; rw [this]; simpa [chCells] using h1
      · rw [e 1]; simpa [chCells] using h2
      · rw [e 2]; simpa [chCells] using h3

/-- The slice value s holds the terms l in blocks fp of their own (e: the type of a term). -/
inductive SlOwn (e : TypeId) (W : World) : List Tm → Value → List Nat → Prop
  | nil : SlOwn e W [] (.slice none 0 0) []
  | row (g : Nat) (ch : List Child) (cur : Array Value) : ch ≠ [] → W.heap[g]? = some (.cells cur e (0, 0)) → cur.toList = chCells ch →
      (∀ c ∈ ch, SlOwn e W c.1.ts c.2.1 c.2.2) → SlOwn e W (ch.map (·.1)) (.slice (some ⟨g, 0, none⟩) ch.length ch.length) (g :: ch.flatMap (·.2.2))

theorem SlOwn.carry {e : TypeId} {A B : World} {l : List Tm} {s : Value} {fp : List Nat} (h : SlOwn e A l s fp) (hb : ∀ k ∈ fp, B.heap[k]? = A.heap[k]?) : SlOwn e B l s fp := by
  induction h with
  | nil => exact .nil
  | row g ch cur hne hg hc _ ih =>
    refine .row g ch cur hne ((hb g (by simp)).trans hg) hc fun c hcm => ih c hcm fun k hk => hb k ?_
    exact List.mem_cons_of_mem _ (List.mem_flatMap.2 ⟨c, hcm, hk⟩)

theorem SlOwn.lt {e : TypeId} {A : World} {l : List Tm} {s : Value} {fp : List Nat} (h : SlOwn e A l s fp) : ∀ k ∈ fp, k < A.heap.size := by
  induction h with
  | nil => simp
  | row g ch cur hne hg hc _ ih =>
    intro k hk
    rcases List.mem_cons.1 hk with rfl | hk
    · exact (Array.getElem?_eq_some_iff.1 hg).1
    · obtain ⟨c, hc, hk⟩ := List.mem_flatMap.1 hk
      exact ih c hc k hk

theorem SlOwn.form {e : TypeId} {A : World} {l : List Tm} {s : Value} {fp : List Nat} (h : SlOwn e A l s fp) : ∃ oa n c, s = .slice oa n c := by
  cases h with
  | nil => exact ⟨_, _, _, rfl⟩
  | row g ch cur hne hg hc hk => exact ⟨_, _, _, rfl⟩
theorem cells_of' {W : World} {B : Nat} {c : Array Value} {ty : TypeId} {fr : Nat × Nat} (h : W.heap[B]? = some (.cells c ty fr)) (j : Nat) : W.cell? ⟨B, j, none⟩ = c[j]? := by
  unfold World.cell?; simp only [h]; rfl
theorem frozen_of' {W : World} {B : Nat} {c : Array Value} {ty : TypeId} (h : W.heap[B]? = some (.cells c ty (0, 0))) (j : Nat) : W.frozen? ⟨B, j, none⟩ = false := by
  unfold World.frozen?; simp [h]

/-- Owned terms are terms. -/
theorem SlOwn.is {e : TypeId} {W : World} {n₀ : Nat} {l : List Tm} {s : Value} {fp : List Nat} (h : SlOwn e W l s fp) (hn : ∀ k ∈ fp, k < n₀) : SlIs n₀ W l s := by
  induction h with
  | nil => exact .nil0
  | row g ch cur hne hg hc hk ih =>
    have hlen : (ch.map (·.1)).length = ch.length := by simp
    have hcell : ∀ j, W.cell? ⟨g, j, none⟩ = (chCells ch)[j]? := fun j => by
      unfold World.cell?
      simp only [hg]
      rw [← hc, Array.getElem?_toList]; rfl
    have hch : ∀ i t, (ch.map (·.1))[i]? = some t → ∃ c : Child, ch[i]? = some c ∧ c.1 = t := fun i t ht => by rw [List.getElem?_map, Option.map_eq_some_iff] at ht; exact ht
    have key := SlIs.row (n₀ := n₀) (W := W) g 0 ch.length (ch.map (·.1)) (fun i => ((ch[i]?).map (·.2.1)).getD (.bool false)) (by simpa using hne) (hn g (by simp)) (by simp)
      (fun i t ht => by
        obtain ⟨c, hci, rfl⟩ := hch i t ht
        obtain ⟨h1, h2, h3⟩ := chCells_at ch i c hci
        simp only [Nat.zero_add, hcell, hci, Option.map_some, Option.getD_some]
        exact ⟨h1, h2, h3⟩)
      (fun i t ht => by
        obtain ⟨c, hci, rfl⟩ := hch i t ht
        have hm := List.mem_of_getElem? hci
        simp only [hci, Option.map_some, Option.getD_some]
        exact ih c hm fun k hk => hn k (List.mem_cons_of_mem _ (List.mem_flatMap.2 ⟨c, hm, hk⟩)))
      (fun i _ => by unfold World.frozen?; simp [hg])
    rw [hlen] at key
    exact key

theorem set3 {W : World} {g : Nat} {cur : Array Value} {e : TypeId} {fr : Nat × Nat} (h : W.heap[g]? = some (.cells cur e fr)) (i : Nat) (a b c : Value) :
    (((W.setCell ⟨g, i, none⟩ a).setCell ⟨g, i + 1, none⟩ b).setCell ⟨g, i + 2, none⟩ c).heap[g]? = some (.cells (((cur.setIfInBounds i a).setIfInBounds (i + 1) b).setIfInBounds (i + 2) c) e fr) := by
  simp [World.setCell, Array.getElem?_modify, h]
theorem set3_list (l z : List Value) (i : Nat) (x y v a b c : Value) (hl : l.length = i) : (((l ++ x :: y :: v :: z).set i a).set (i + 1) b).set (i + 2) c = l ++ a :: b :: c :: z := by
  subst hl
  simp

end Go.Proofs.YtamddagmlanijaaGreat
/- Merged: Nodes, Nodes2, Dp. -/
/- The nodes of a term, as the program's iterator visits them: a recursive function that hands yield on. -/
namespace Go.Proofs.YtamddagmlanijaaGreat
open Go.RowKit Go.Shelf
attribute [local go_sem] Oper.semAt_some

theorem room_of_none {F : Fence} (hd : F.depth = none) (k : Nat) : F.room k := fun d h => by rw [hd] at h; cases h
theorem roundAny {F : Fence} (hd : F.depth = none) {m m' : Nat} {P : Program} {l : Nat} {f : FuncId} {tmps : Array Value} {assign body : Code} {w : World} {R : Ending → World → Prop}
    (h : RoundIn F m P l f tmps assign body w R) : RoundIn F m' P l f tmps assign body w R := ⟨h.1, fun c cs _ => h.2 c cs (room_of_none hd _)⟩
theorem yieldAny {F : Fence} (hd : F.depth = none) {m : Nat} (m' : Nat) {P : Program} {l : Nat} {args : Array Value} {W : World} {R : Ending → World → Prop} (h : YieldAt F m P l args W R) : YieldAt F m' P l args W R := by
  obtain ⟨fn, tmps, assign, body, hy, hR⟩ := h
  exact ⟨fn, tmps, assign, body, hy, roundAny hd hR⟩

/-- what a node shows: its depth, name, kind, and how many arguments it has -/
abbrev View := Nat × ByteArray × Bool × Nat
mutual
def Tm.nodes (d : Nat) : Tm → List View
  | .mk n v l => (d, n, v, l.length) :: Tm.nodesL (d + 1) l
def Tm.nodesL (d : Nat) : List Tm → List View
  | [] => []
  | t :: r => Tm.nodes d t ++ Tm.nodesL d r
end
theorem Tm.nodes_eq (d : Nat) (t : Tm) : t.nodes d = (d, t.nm, t.vr, t.ts.length) :: Tm.nodesL (d + 1) t.ts := by cases t; simp [Tm.nodes, Tm.nm, Tm.vr, Tm.ts]
theorem Tm.nodesL_append (d : Nat) (l r : List Tm) : Tm.nodesL d (l ++ r) = Tm.nodesL d l ++ Tm.nodesL d r := by
  induction l with
  | nil => simp [Tm.nodesL]
  | cons t l ih => simp [Tm.nodesL, ih]
theorem Tm.nodesL_length (l : List Tm) (h : ∀ u ∈ l, ∀ d, (u.nodes d).length = u.size) (d : Nat) : (Tm.nodesL d l).length = Tm.sizes l := by
  induction l with
  | nil => simp [Tm.nodesL, Tm.sizes]
  | cons t l ih => simp [Tm.nodesL, Tm.sizes, h t (by simp), ih (fun u hu => h u (by simp [hu]))]
theorem Tm.nodes_length (t : Tm) (d : Nat) : (t.nodes d).length = t.size := by
  induction t using Tm.ind generalizing d with
  | h t ih => rw [Tm.nodes_eq, Tm.size_eq, List.length_cons, Tm.nodesL_length _ ih]; omega

theorem Tm.nodes_prefix {l : List Tm} {k d : Nat} {u : Tm} (h : l[k]? = some u) {ys : List View} (hy : ys <+: u.nodes d) : Tm.nodesL d (l.take k) ++ ys <+: Tm.nodesL d l := by
  obtain ⟨r, hr⟩ := hy
  refine ⟨r ++ Tm.nodesL d (l.drop (k + 1)), ?_⟩
  have e : Tm.nodesL d l = Tm.nodesL d (l.take (k + 1)) ++ Tm.nodesL d (l.drop (k + 1)) := by rw [← Tm.nodesL_append, List.take_append_drop]
  rw [e, Tm.take_snoc h, Tm.nodesL_append]
  simp [Tm.nodesL, ← hr]

/-- what the iterator hands to yield -/
structure Nd where
  d : Nat
  nm : ByteArray
  vr : Bool
  oa : Option Addr
  n : Nat
  cap : Nat
  hd : d ≤ 2097152
  hnm : nm.size ≤ 1048576
  hn : n ≤ 1048576
def Nd.view (x : Nd) : View := (x.d, x.nm, x.vr, x.n)
@[reducible] def Nd.encs (x : Nd) : Array Value := #[.int .i64 x.d, .agg #[.string x.nm, .bool x.vr, .slice x.oa x.n x.cap]]

/-- What a round that goes on keeps: all blocks below n₀, and the cells of all blocks from m₀ on. -/
structure Keep (n₀ m₀ : Nat) (A B : World) : Prop where
  below : Below n₀ A B
  cells : ∀ k, m₀ ≤ k → ∀ o, A.heap[k]? = some o → o.isCells = true → B.heap[k]? = some o
theorem Keep.refl (n₀ m₀ : Nat) (A : World) : Keep n₀ m₀ A A := ⟨Below.refl _ _, fun _ _ _ h _ => h⟩
theorem Keep.trans {n₀ m₀ : Nat} {A B C : World} (h : Keep n₀ m₀ A B) (k : Keep n₀ m₀ B C) : Keep n₀ m₀ A C :=
  ⟨h.below.trans k.below, fun i hi o ho hc => k.cells i hi o (h.cells i hi o ho hc) hc⟩
theorem Keep.put {n₀ m₀ : Nat} {w : World} (hn : n₀ ≤ w.heap.size) (W : World) (l : Nat) (o o' : Obj) (hl : w.heap.size ≤ l) (h : W.heap[l]? = some o) (hc : o.isCells = false) (hw : o.isWalk = false) : Keep n₀ m₀ W (W.putObj l o') :=
  ⟨belowK_b hn W l o o' hl h hc hw, fun k _ p hp hpc => by
    by_cases e : k = l
    · subst e; rw [h] at hp; cases hp; rw [hc] at hpc; cases hpc
    · exact (World.putObj_heap_other e).trans hp⟩
theorem Keep.alloc {n₀ m₀ : Nat} {A B : World} (h : Keep n₀ m₀ A B) (hn : n₀ ≤ B.heap.size) (o : Obj) : Keep n₀ m₀ A (B.alloc o) :=
  h.trans ⟨(Below.refl n₀ B).alloc hn o, fun _ _ _ hp _ => (Below.heap_alloc _ _ _ (Array.getElem?_eq_some_iff.1 hp).1).trans hp⟩
/-- a new block of cells, behind a round -/
theorem Keep.new {n₀ m₀ : Nat} {A B : World} {c : Array Value} {ty : TypeId} (h : Keep n₀ m₀ (A.alloc (.cells c ty)) B) (hm : m₀ ≤ A.heap.size) (j : Nat) :
    B.cell? ⟨A.heap.size, j, none⟩ = c[j]? := by
  have := h.cells A.heap.size hm _ (World.alloc_heap_new A _) rfl
  simp [World.cell?, this]
set_option maxRecDepth 100000 in
set_option maxHeartbeats 2000000 in
theorem tmWalkIn (F : Fence) (hd : F.depth = none) (hf : F.fn 223) (hro : F.round = none) (l n₀ m₀ N : Nat) (J Jx : List Nd → World → Prop) (hJ : ∀ s A o, J s A → J s (World.alloc A o))
    (hnm : n₀ ≤ m₀)
    (hY : ∀ m pre (x : Nd) W, J pre W → pre.length < N → YieldAt F m Tryz.prog l x.encs W fun e W' =>
      (e = .returned (.bool true) ∧ J (pre ++ [x]) W' ∧ Keep n₀ m₀ W W') ∨ (e = .returned (.bool false) ∧ Jx (pre ++ [x]) W')) (t : Tm) :
    ∀ (n d : Nat) (s : Value) (pre : List Nd) (W : World), SlIs n₀ W t.ts s → m₀ ≤ W.heap.size → J pre W → pre.length + t.size ≤ N → t.bulk ≤ 1048576 → d + t.size ≤ 2097152 →
      CallsIn F n Tryz.prog 223 #[.int .i64 d, tmv t s, .func (.yield l) #[] #[]] W fun e W' =>
        (e = .returned (.bool true) ∧ (∃ xs : List Nd, xs.map Nd.view = t.nodes d ∧ J (pre ++ xs) W') ∧ Below n₀ W W') ∨
        (e = .returned (.bool false) ∧ ∃ xs : List Nd, xs.map Nd.view <+: t.nodes d ∧ Jx (pre ++ xs) W') := by
  induction t using Tm.ind with
  | h t ih =>
    intro n d s pre W hs hm0 hJW hN hb hdz
    have hdd : ∀ k : Nat, (F.depth.isSome = true → 1 ≤ k) := fun k h => by rw [hd] at h; cases h
    obtain ⟨oa, cap, rfl, -⟩ := hs.form
    have hse := Tm.size_eq t
    have hl := Tm.length_sizes t.ts
    have hsz := Tm.size_bulk t
    have hbe := Tm.bulk_eq t
    have hlen : t.ts.length ≤ 1048576 := by omega
    have hdle : d ≤ 2097152 := by omega
    have IH := Lib.hid ih
    have HE := Lib.hid hse
    have HB := Lib.hid hbe
    clear ih hse hbe
    obtain ⟨x0, hx0⟩ : ∃ x0 : Nd, x0 = ⟨d, t.nm, t.vr, oa, t.ts.length, cap, hdle, by have := HB.out; omega, hlen⟩ := ⟨_, rfl⟩
    have hpos := Tm.size_pos t
    have hy0 := hY (n - 1) pre x0 _ (hJ _ _ (.cells #[.string t.nm, .bool t.vr, .slice oa t.ts.length cap] 25) hJW) (by omega)
    have HX : Hid (x0.view = (d, t.nm, t.vr, t.ts.length)) := Lib.hid (by rw [hx0]; rfl)
    rw [show x0.encs = #[.int .i64 d, .agg #[.string t.nm, .bool t.vr, .slice oa t.ts.length cap]] from by rw [hx0]] at hy0
    clear hx0
    obtain ⟨fn, tmps, assign, body, hy, hR⟩ := hy0
    have HV : Hid (t.nodes d = (d, t.nm, t.vr, t.ts.length) :: Tm.nodesL (d + 1) t.ts) := Lib.hid (Tm.nodes_eq d t)
    refine callsIn_of_wp Tryz.func223 rfl hf ?_ hro
    simp only [Tryz.ntmps223, List.size_toArray, List.length_cons, List.length_nil, Nat.reduceAdd, Nat.reduceSub, Array.replicate_succ, Array.replicate_zero, List.push_toArray, List.append_toArray, List.nil_append, List.cons_append]
    gi_wp2
    refine hR.mono ?_
    clear hR hy
    rintro e W1 (⟨rfl, hJ1, hk1⟩ | ⟨rfl, hJx1⟩)
    · have hb1 : Below n₀ W W1 := Below.trans ((Below.refl n₀ W).alloc (by omega) _) hk1.below
      have hz1 := hk1.below.size
      have hc2 := hk1.new hm0 2
      gi_wp2
      gi_loopw [17] (fun i wr => ∃ (k : Nat) (xs : List Nd), k ≤ t.ts.length ∧ i = .int .i64 k ∧ Hid (xs.map Nd.view = (d, t.nm, t.vr, t.ts.length) :: Tm.nodesL (d + 1) (t.ts.take k)) ∧ J (pre ++ xs) wr ∧ Below n₀ W wr ∧ m₀ ≤ wr.heap.size) (fun i _ => t.ts.length - (intOf i).toNat)
      case atStart => exact ⟨0, [x0], by omega, rfl, Lib.hid (by simp [Tm.nodesL]; exact HX.out), hJ1, hb1, by simp at hz1; omega⟩
      case round =>
        obtain ⟨k, xs, hk, rfl, HXS, hJw, hbw, hmw⟩ := hrel
        by_cases hlt : k < t.ts.length
        · obtain ⟨b, o, u, s, rfl, hbb, hu, hum, hus, c1, c2, c3⟩ := (hs.carry hbw (Nat.le_refl _)).get hlt
          obtain ⟨oa2, cap2, rfl, -⟩ := hus.form
          have hub := Tm.bulk_mem hum
          have hus2 := Tm.size_mem hum
          have hub2 : u.bulk ≤ 1048576 := by have := HB.out; omega
          have hsz2 : d + 1 + u.size ≤ 2097152 := by have := HE.out; omega
          have htk := Tm.take_snoc hu
          have hxl : xs.length = 1 + Tm.sizes (t.ts.take k) := by
            have h := congrArg List.length HXS.out
            rw [List.length_map, List.length_cons, Tm.nodesL_length _ (fun u _ d => Tm.nodes_length u d)] at h
            omega
          have hst := Tm.sizes_append (t.ts.take k) [u]
          have hsk := Tm.sizes_take t.ts (k + 1)
          have hNu : (pre ++ xs).length + u.size ≤ N := by
            have h1 := HE.out
            rw [htk, hst] at hsk
            simp [Tm.sizes] at hsk
            simp
            omega
          have HT := Lib.hid htk
          have IHu : ∀ W2, Below n₀ wr W2 → m₀ ≤ W2.heap.size → J (pre ++ xs) W2 → Hid (CallsIn F (n - 1) Tryz.prog 223 #[.int .i64 ((d : Int) + 1), tmv u (.slice oa2 u.ts.length cap2), .func (.yield l) #[] #[]] W2 fun e W' =>
              (e = .returned (.bool true) ∧ (∃ ys : List Nd, ys.map Nd.view = u.nodes (d + 1) ∧ J (pre ++ xs ++ ys) W') ∧ Below n₀ W2 W') ∨
              (e = .returned (.bool false) ∧ ∃ ys : List Nd, ys.map Nd.view <+: u.nodes (d + 1) ∧ Jx (pre ++ xs ++ ys) W')) := fun W2 h2 hm2 hJ2 =>
            Lib.hid (IH.out u hum (n - 1) (d + 1) _ (pre ++ xs) W2 (hus.carry h2 (Nat.le_refl _)) hm2 hJ2 hNu hub2 hsz2)
          have HU := Lib.hid hu
          clear htk hst hsk hu hxl
          gi_wp2_with fail
          refine (IHu _ ((Below.refl n₀ wr).alloc (by omega) _) (by simp; omega) (hJ _ _ _ hJw)).out.mono ?_
          clear IHu
          rintro e W2 (⟨rfl, ⟨ys, hys, hJ2⟩, hb2⟩ | ⟨rfl, ys, hys, hJx2⟩)
          · have hb2' : Below n₀ W W2 := hbw.trans (Below.trans ((Below.refl n₀ wr).alloc (by omega) _) hb2)
            have hz2 := hb2.size
            have HY2 := Lib.hid hys
            clear hys
            gi_wp2_with fail
            refine ⟨⟨k + 1, xs ++ ys, by omega, by go_num, Lib.hid ?_, by rw [← List.append_assoc]; exact hJ2, hb2', by simp at hz2; omega⟩, by simp [intOf]; omega⟩
            rw [List.map_append, HXS.out, HY2.out, HT.out, Tm.nodesL_append]
            simp [Tm.nodesL]
          · gi_wp2_with fail
            go_ret
            refine .inr ⟨rfl, xs ++ ys, ?_, by rw [← List.append_assoc]; exact hJx2⟩
            rw [HV.out, List.map_append, HXS.out, List.cons_append]
            exact List.cons_prefix_cons.2 ⟨rfl, Tm.nodes_prefix HU.out hys⟩
        · obtain rfl : k = t.ts.length := by omega
          gi_wp2
          go_ret
          exact .inl ⟨rfl, ⟨xs, by rw [HXS.out, HV.out, List.take_of_length_le (Nat.le_refl _)], hJw⟩, hbw⟩
    · gi_wp2
      go_ret
      exact .inr ⟨rfl, [x0], by rw [HV.out]; simp [HX.out], hJx1⟩

end Go.Proofs.YtamddagmlanijaaGreat
/- nodes(t) gives an iterator over the nodes of t; Size and Depth by it. -/
namespace Go.Proofs.YtamddagmlanijaaGreat
open Go.RowKit Go.Shelf
attribute [local go_sem] Oper.semAt_some

set_option maxRecDepth 100000 in
set_option maxHeartbeats 1000000 in
theorem nodes_in (F : Fence) (n : Nat) (hf : F.fn 166) (hro : F.round = none) (t : Tm) (oa : Option Addr) (len cap : Nat) (w : World) :
    CallsIn F n Tryz.prog 166 #[.agg #[.string t.nm, .bool t.vr, .slice oa len cap]] w fun e w' =>
      e = .returned (.func (.func 222) #[] #[.pointer (some ⟨w.heap.size, 0, none⟩)]) ∧ w' = w.alloc (.cells #[.string t.nm, .bool t.vr, .slice oa len cap] 25) := by
  refine callsIn_of_wp Tryz.func166 rfl hf ?_ hro
  simp only [Tryz.ntmps166, List.size_toArray, List.length_cons, List.length_nil, Nat.reduceAdd, Nat.reduceSub, Array.replicate_succ, Array.replicate_zero, List.push_toArray, List.append_toArray, List.nil_append, List.cons_append]
  gi_wp2
  go_ret
  exact ⟨rfl, rfl⟩

set_option maxRecDepth 100000 in
set_option maxHeartbeats 1000000 in
theorem nodes1_in (F : Fence) (hd : F.depth = none) (n : Nat) (hf : F.fn 222) (hfw : F.fn 223) (hro : F.round = none) (l Bt n₀ m₀ : Nat) (t : Tm) (s : Value) (J Jx : List Nd → World → Prop) (hJ : ∀ s A o, J s A → J s (World.alloc A o))
    (hnm : n₀ ≤ m₀)
    (hY : ∀ pre (x : Nd) W, J pre W → pre.length < t.size → YieldAt F (n - 1) Tryz.prog l x.encs W fun e W' =>
      (e = .returned (.bool true) ∧ J (pre ++ [x]) W' ∧ Keep n₀ m₀ W W') ∨ (e = .returned (.bool false) ∧ Jx (pre ++ [x]) W'))
    (W : World) (hm : m₀ ≤ W.heap.size) (h0 : W.cell? ⟨Bt, 0, none⟩ = some (.string t.nm)) (h1 : W.cell? ⟨Bt, 1, none⟩ = some (.bool t.vr)) (h2 : W.cell? ⟨Bt, 2, none⟩ = some s) (hs : SlIs n₀ W t.ts s) (hb : t.bulk ≤ 1048576) (hJ0 : J [] W) :
    CallsIn F n Tryz.prog 222 #[.func (.yield l) #[] #[], .pointer (some ⟨Bt, 0, none⟩)] W fun e W' => (∃ v, e = .returned v) ∧
      ((∃ ys : List Nd, ys.map Nd.view = t.nodes 1 ∧ J ys W') ∨ (∃ pre : List Nd, pre.map Nd.view <+: t.nodes 1 ∧ Jx pre W')) := by
  have hdd : ∀ k : Nat, (F.depth.isSome = true → 1 ≤ k) := fun k h => by rw [hd] at h; cases h
  have hsz := Tm.size_bulk t
  have HP := Lib.hid (tmWalkIn F hd hfw hro l n₀ m₀ t.size J Jx hJ hnm (fun m pre x W hj hl => yieldAny hd m (hY pre x W hj hl)) t (n - 1) 1 s [] W hs hm hJ0 (by simp) hb (by omega))
  obtain ⟨oa, cap, rfl, -⟩ := hs.form
  refine callsIn_of_wp Tryz.func222 rfl hf ?_ hro
  simp only [Tryz.ntmps222, List.size_toArray, List.length_cons, List.length_nil, Nat.reduceAdd, Nat.reduceSub, Array.replicate_succ, Array.replicate_zero, List.push_toArray, List.append_toArray, List.nil_append, List.cons_append]
  gi_wp2_with fail
  refine HP.out.mono ?_
  clear HP
  rintro e W1 (⟨rfl, ⟨xs, hxs, hJ1⟩, _⟩ | ⟨rfl, xs, hxs, hx⟩)
  · have HX := Lib.hid hxs
    clear hxs
    gi_wp2_with fail
    go_end0
    exact ⟨⟨_, rfl⟩, .inl ⟨xs, HX.out, by simpa using hJ1⟩⟩
  · have HX := Lib.hid hxs
    clear hxs
    gi_wp2_with fail
    go_end0
    exact ⟨⟨_, rfl⟩, .inr ⟨xs, HX.out, by simpa using hx⟩⟩

/-- THE ITERATOR'S CONTRACT. -/
theorem nodes_stops (F : Fence) (hd : F.depth = none) (n : Nat) (hf : F.fn 222) (hfw : F.fn 223) (hro : F.round = none) (Bt n₀ : Nat) (t : Tm) (s : Value) (w : World) (hBt : Bt < w.heap.size) (hn : n₀ ≤ w.heap.size)
    (h0 : w.cell? ⟨Bt, 0, none⟩ = some (.string t.nm)) (h1 : w.cell? ⟨Bt, 1, none⟩ = some (.bool t.vr)) (h2 : w.cell? ⟨Bt, 2, none⟩ = some s) (hs : SlIs n₀ w t.ts s) (hb : t.bulk ≤ 1048576) :
    SeqStopsK F n Tryz.prog 222 #[.pointer (some ⟨Bt, 0, none⟩)] Nd.encs (Keep n₀ w.heap.size) (fun ys => ys.map Nd.view = t.nodes 1) (fun pre => pre.map Nd.view <+: t.nodes 1) t.size w := fun l J Jx W hW hJ _ hY hJ0 =>
  nodes1_in F hd n hf hfw hro l Bt n₀ w.heap.size t s J Jx (fun s A o h => hJ s A _ none h (World.grownBy_alloc A o none) (fun r e => by cases e)) hn hY W hW.size
    ((hW.cell (p := ⟨Bt, 0, none⟩) hBt).trans h0) ((hW.cell (p := ⟨Bt, 1, none⟩) hBt).trans h1) ((hW.cell (p := ⟨Bt, 2, none⟩) hBt).trans h2) (hs.carry (hW.mono hn) (Nat.le_refl _)) hb hJ0

theorem Keep.setCell {n₀ m₀ : Nat} (W : World) {p : Addr} (h : n₀ ≤ p.block) (hm : p.block < m₀) (v : Value) : Keep n₀ m₀ W (W.setCell p v) :=
  ⟨(Below.refl n₀ W).setCell h v, fun k hk _ hp _ => (Below.heap_setCell W p v k (by omega)).trans hp⟩
set_option maxRecDepth 100000 in
set_option maxHeartbeats 2000000 in
theorem tsize_any (t : Tm) (s : Value) (w : World) (hs : SlIs w.heap.size w t.ts s) (hb : t.bulk ≤ 1048576) :
    Calls Tryz.prog 105 #[tmv t s] w fun e w' => e = .returned (.int .i64 t.size) ∧ Below w.heap.size w w' := by
  obtain ⟨oa, cap, rfl, -⟩ := hs.form
  have hsz := Tm.size_bulk t
  refine (callsIn_wide (n := 3)).1 ?_
  refine callsIn_of_wp_marks Tryz.func105 rfl trivial ?_ rfl
  simp only [Tryz.ntmps105, List.size_toArray, List.length_cons, List.length_nil, Nat.reduceAdd, Nat.reduceSub, Array.replicate_succ, Array.replicate_zero, List.push_toArray, List.append_toArray, List.nil_append, List.cons_append]
  gi_wp2_with (refine ⟨trivial, ?_⟩; gi_at_call 166; refine (nodes_in Fence.wide _ trivial rfl _ _ _ _ _).mono ?_; rintro e w' ⟨rfl, rfl⟩)
  have hB0 : Below w.heap.size w (((w.alloc (.cells #[.string t.nm, .bool t.vr, .slice oa t.ts.length cap] 25)).alloc (.cells #[.int .i64 0] 3)).alloc (.cells #[.string t.nm, .bool t.vr, .slice oa t.ts.length cap] 25)) := by go_grown
  refine wpIn_rangeFunc_ownF rfl (by omega) (gf := 222) (lb := #[.pointer (some ⟨w.heap.size + 1 + 1, 0, none⟩)]) rfl trivial (enters_of Tryz.func222 (by kernel_rfl) rfl)
    (nodes_stops Fence.wide rfl _ trivial trivial rfl (w.heap.size + 1 + 1) w.heap.size t _ _ (by simp) (by simp; omega) (cell_new_at _ _ _ _ _ (by simp)) (cell_new_at _ _ _ _ _ (by simp)) (cell_new_at _ _ _ _ _ (by simp)) (hs.carry hB0 (Nat.le_refl _)) hb)
    (fun h k => h.trans k) (Keep.put (by simp; omega)) (Below.refl _ _) (fun _ => rfl)
    (fun pre W => Boxed W (w.heap.size + 1) 3 (.int .i64 (pre.length : Int)) ∧ Below w.heap.size w W)
    (fun _ _ _ => False)
    (OwnFrom.and (Own.from (boxed_own _ _ _) _) (ownFrom_below (Nat.le_refl _) (by simp; omega)))
    (fun _ _ _ _ _ hs _ _ => hs)
    ⟨(boxed_at _ _ _ _ (by simp)).alloc _, hB0⟩
    (fun x => { tmps := #[tmv t (.slice oa t.ts.length cap), .pointer (some ⟨w.heap.size, 0, none⟩), .int .i64 0, .pointer (some ⟨w.heap.size + 1, 0, none⟩), tmv t (.slice oa t.ts.length cap), .func (.func 222) #[] #[.pointer (some ⟨w.heap.size + 1 + 1, 0, none⟩)], .int .i64 x.d, .agg #[.string x.nm, .bool x.vr, .slice x.oa x.n x.cap], undef, undef, undef], defers := [] }) ?assign ?body ?done ?stop
  case assign =>
    intro l x W K hK
    simp only [Nd.encs]
    gi_wp2
    simpa using hK
  case body =>
    rintro l pre x W ⟨hX, hB⟩ hlt
    have hc := hX.cell
    have hf := hX.frozen
    have hz := hB.size
    gi_wp2
    refine ⟨KeepsOthers.setCell _ _ _, Keep.setCell _ (by simp) (by simp) _, ?_, hB.setCell (p := ⟨w.heap.size + 1, 0, none⟩) (by simp) _⟩
    rw [List.length_append]
    exact hX.set _
  case done =>
    rintro D ys W hD hys ⟨hX, hB⟩ hK
    have hc := hX.cell
    have HL : Hid ((ys.length : Int) = t.size) := Lib.hid (by have h := congrArg List.length hys; rw [List.length_map, Tm.nodes_length] at h; omega)
    clear hys
    gi_wp2
    refine ⟨by simp, .inl ⟨_, _, rfl, run_takeDeferred hK, ?_⟩⟩
    exact ⟨_, results_tmp rfl _ _ _, (by show Ending.returned (Value.int IntKind.i64 (ys.length : Int)) = _; exact ret_int HL.out), hB.trans (belowK_b (w := w) (Nat.le_refl _) W D _ _ (by simp at hD; omega) hK rfl rfl)⟩
  case stop =>
    rintro D c pre W _ _ h _
    exact h.elim

end Go.Proofs.YtamddagmlanijaaGreat
/- Depth, by the iterator over nodes. -/
namespace Go.Proofs.YtamddagmlanijaaGreat
open Go.RowKit Go.Shelf
attribute [local go_sem] Oper.semAt_some

/-- the greatest depth of what has come -/
def dmax (l : List View) : Nat := l.foldl (fun m v => max m v.1) 0
theorem foldl_max (l : List View) (m : Nat) : l.foldl (fun m v => max m v.1) m = max m (dmax l) := by
  induction l generalizing m with
  | nil => simp [dmax]
  | cons v l ih =>
    have e : dmax (v :: l) = l.foldl (fun m v => max m v.1) (max 0 v.1) := rfl
    rw [List.foldl_cons, ih, e, ih]; omega
theorem dmax_snoc (l : List View) (v : View) : dmax (l ++ [v]) = max (dmax l) v.1 := by simp [dmax]
theorem dmax_cons (l : List View) (v : View) : dmax (v :: l) = max v.1 (dmax l) := by
  have e : dmax (v :: l) = l.foldl (fun m v => max m v.1) (max 0 v.1) := rfl
  rw [e, foldl_max]; omega
theorem dmax_append (l r : List View) : dmax (l ++ r) = max (dmax l) (dmax r) := by rw [dmax, List.foldl_append, foldl_max]; rfl
theorem dmax_nodesL (l : List Tm) (h : ∀ u ∈ l, ∀ d, dmax (u.nodes d) + 1 = d + u.depth) (d : Nat) : dmax (Tm.nodesL d l) + 1 = if l = [] then 1 else d + Tm.depths l := by
  induction l with
  | nil => simp [Tm.nodesL, dmax]
  | cons t l ih =>
    have h1 := h t (by simp) d
    have h2 := ih (fun u hu => h u (by simp [hu]))
    have h3 : 1 ≤ t.depth := by rw [Tm.depth_eq]; omega
    rw [Tm.nodesL, dmax_append, Tm.depths, if_neg (by simp)]
    by_cases e : l = []
    · subst e; simp [Tm.depths] at h2 ⊢; omega
    · rw [if_neg e] at h2; omega
theorem dmax_nodes (t : Tm) (d : Nat) : dmax (t.nodes d) + 1 = d + t.depth := by
  induction t using Tm.ind generalizing d with
  | h t ih =>
    have h := dmax_nodesL t.ts ih (d + 1)
    rw [Tm.nodes_eq, dmax_cons, Tm.depth_eq]
    by_cases e : t.ts = []
    · rw [if_pos e] at h; rw [e] at h ⊢; simp [Tm.depths] at h ⊢; omega
    · rw [if_neg e] at h; simp only; omega

set_option maxRecDepth 100000 in
set_option maxHeartbeats 2000000 in
theorem tdepth_any (t : Tm) (s : Value) (w : World) (hs : SlIs w.heap.size w t.ts s) (hb : t.bulk ≤ 1048576) :
    Calls Tryz.prog 243 #[tmv t s] w fun e w' => e = .returned (.int .i64 t.depth) ∧ Below w.heap.size w w' := by
  obtain ⟨oa, cap, rfl, -⟩ := hs.form
  have hsz := Tm.size_bulk t
  refine (callsIn_wide (n := 3)).1 ?_
  refine callsIn_of_wp_marks Tryz.func243 rfl trivial ?_ rfl
  simp only [Tryz.ntmps243, List.size_toArray, List.length_cons, List.length_nil, Nat.reduceAdd, Nat.reduceSub, Array.replicate_succ, Array.replicate_zero, List.push_toArray, List.append_toArray, List.nil_append, List.cons_append]
  gi_wp2_with (refine ⟨trivial, ?_⟩; gi_at_call 166; refine (nodes_in Fence.wide _ trivial rfl _ _ _ _ _).mono ?_; rintro e w' ⟨rfl, rfl⟩)
  have hB0 : Below w.heap.size w (((w.alloc (.cells #[.string t.nm, .bool t.vr, .slice oa t.ts.length cap] 25)).alloc (.cells #[.int .i64 0] 3)).alloc (.cells #[.string t.nm, .bool t.vr, .slice oa t.ts.length cap] 25)) := by go_grown
  refine wpIn_rangeFunc_ownF rfl (by omega) (gf := 222) (lb := #[.pointer (some ⟨w.heap.size + 1 + 1, 0, none⟩)]) rfl trivial (enters_of Tryz.func222 (by kernel_rfl) rfl)
    (nodes_stops Fence.wide rfl _ trivial trivial rfl (w.heap.size + 1 + 1) w.heap.size t _ _ (by simp) (by simp; omega) (cell_new_at _ _ _ _ _ (by simp)) (cell_new_at _ _ _ _ _ (by simp)) (cell_new_at _ _ _ _ _ (by simp)) (hs.carry hB0 (Nat.le_refl _)) hb)
    (fun h k => h.trans k) (Keep.put (by simp; omega)) (Below.refl _ _) (fun _ => rfl)
    (fun pre W => Boxed W (w.heap.size + 1) 3 (.int .i64 (dmax (pre.map Nd.view) : Int)) ∧ Below w.heap.size w W)
    (fun _ _ _ => False)
    (OwnFrom.and (Own.from (boxed_own _ _ _) _) (ownFrom_below (Nat.le_refl _) (by simp; omega)))
    (fun _ _ _ _ _ hs _ _ => hs)
    ⟨(boxed_at _ _ _ _ (by simp)).alloc _, hB0⟩
    (fun x => { tmps := #[tmv t (.slice oa t.ts.length cap), .pointer (some ⟨w.heap.size, 0, none⟩), .int .i64 0, .pointer (some ⟨w.heap.size + 1, 0, none⟩), .int .i64 x.d, tmv t (.slice oa t.ts.length cap), .func (.func 222) #[] #[.pointer (some ⟨w.heap.size + 1 + 1, 0, none⟩)], .int .i64 x.d, .agg #[.string x.nm, .bool x.vr, .slice x.oa x.n x.cap], undef, undef, undef, undef], defers := [] }) ?assign ?body ?done ?stop
  case assign =>
    intro l x W K hK
    simp only [Nd.encs]
    simp only [Array.zip]
    gi_wp2
    exact hK
  case body =>
    rintro l pre x W ⟨hX, hB⟩ hlt
    have hc := hX.cell
    have hf := hX.frozen
    have hz := hB.size
    have hxd := x.hd
    gi_wp2
    refine ⟨KeepsOthers.setCell _ _ _, Keep.setCell _ (by simp) (by simp) _, ?_, hB.setCell (p := ⟨w.heap.size + 1, 0, none⟩) (by simp) _⟩
    rw [List.map_append, List.map_singleton, dmax_snoc, show ((max (dmax (pre.map Nd.view)) x.view.1 : Nat) : Int) = max (dmax (pre.map Nd.view) : Int) (x.d : Int) from by show ((max (dmax (pre.map Nd.view)) x.d : Nat) : Int) = _; omega]
    exact hX.set _
  case done =>
    rintro D ys W hD hys ⟨hX, hB⟩ hK
    have hc := hX.cell
    have HL : Hid ((dmax (ys.map Nd.view) : Int) = t.depth) := Lib.hid (by rw [hys]; have h := dmax_nodes t 1; omega)
    clear hys
    gi_wp2
    refine ⟨by simp, .inl ⟨_, _, rfl, run_takeDeferred hK, ?_⟩⟩
    exact ⟨_, results_tmp rfl _ _ _, (by show Ending.returned (Value.int IntKind.i64 (dmax (ys.map Nd.view) : Int)) = _; exact ret_int HL.out), hB.trans (belowK_b (w := w) (Nat.le_refl _) W D _ _ (by simp at hD; omega) hK rfl rfl)⟩
  case stop =>
    rintro D c pre W _ _ h _
    exact h.elim

end Go.Proofs.YtamddagmlanijaaGreat
