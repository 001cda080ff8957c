/- Packed: Csy. -/
import Derived.Test.YtamddagmlanijaaGreatP07
import Derived.Test.YtamddagmlanijaaGreatP09
import Derived.Maps.OwnIn
import Derived.WalkKit
import Derived.ProofKit
import Derived.OpenShut
import Derived.Handy
import Derived.Lib.Hide
import Derived.Maps.RangeWalk
import Derived.Sort.MapsRangeIn
/- Merged: Ars, Rng, Vbl, Csy. -/
/- arities(r): the map of the arities of the function symbols. -/
namespace Go.Proofs.YtamddagmlanijaaGreat
open Go.RowKit Go.Shelf Go.Maps
attribute [local go_sem] Oper.semAt_some

/-- one node: its arity is noted, or the run ends -/
def arStep (m : List (Key × Nat)) (v : View) : Option (List (Key × Nat)) :=
  if v.2.2.1 then some m
  else if Lib.hasSuffix v.2.1.data.toList [35] then none
  else match getA m v.2.1.data.toList with
    | some n => if n = v.2.2.2 then some (putA m v.2.1.data.toList v.2.2.2) else none
    | none => some (putA m v.2.1.data.toList v.2.2.2)
def arRun : List (Key × Nat) → List View → Option (List (Key × Nat))
  | m, [] => some m
  | m, v :: l => (arStep m v).bind fun m' => arRun m' l
theorem arRun_append (m : List (Key × Nat)) (l r : List View) : arRun m (l ++ r) = (arRun m l).bind fun m' => arRun m' r := by
  induction l generalizing m with
  | nil => rfl
  | cons v l ih =>
    simp only [List.cons_append, arRun]
    cases arStep m v with
    | none => rfl
    | some m' => exact ih m'
theorem arRun_none {m : List (Key × Nat)} {l r : List View} (h : arRun m l = none) (hp : l <+: r) : arRun m r = none := by
  obtain ⟨x, rfl⟩ := hp
  rw [arRun_append, h]; rfl
abbrev encN (n : Nat) : Value := .int .i64 n
/-- the nodes of the terms -/
def viewsV (l : List TmV) : List View := (l.map fun x => x.1.nodes 1).flatten
theorem viewsV_snoc (l : List TmV) (x : TmV) : viewsV (l ++ [x]) = viewsV l ++ x.1.nodes 1 := by simp [viewsV]

theorem putA_length_le {α : Type} (l : List (Key × α)) (k : Key) (v : α) : (putA l k v).length ≤ l.length + 1 := by
  have h1 : (putA l k v).length = ((putA l k v).map (·.1)).length := by rw [List.length_map]
  rw [h1, putA_keys]
  unfold addKey
  split <;> simp
theorem arStep_length {m m' : List (Key × Nat)} {v : View} (h : arStep m v = some m') : m'.length ≤ m.length + 1 := by
  unfold arStep at h
  have hp := putA_length_le m v.2.1.data.toList v.2.2.2
  split at h
  · cases h; omega
  · split at h
    · cases h
    · split at h
      · split at h
        · cases h; exact hp
        · cases h
      · cases h; exact hp
theorem arRun_length {m m' : List (Key × Nat)} {l : List View} (h : arRun m l = some m') : m'.length ≤ m.length + l.length := by
  induction l generalizing m with
  | nil => cases h; simp
  | cons v l ih =>
    simp only [arRun] at h
    cases hs : arStep m v with
    | none => rw [hs] at h; cases h
    | some m1 =>
      rw [hs] at h
      have := ih h
      have := arStep_length hs
      simp only [List.length_cons]
      omega
theorem viewsV_length (l : List TmV) (hb : ∀ x ∈ l, x.1.bulk ≤ 1048576) : (viewsV l).length ≤ 1048576 * l.length := by
  induction l with
  | nil => simp [viewsV]
  | cons x l ih =>
    have h1 := ih fun y hy => hb y (by simp [hy])
    have h2 := hb x (by simp)
    have h3 := Tm.size_bulk x.1
    have h4 : (viewsV (x :: l)).length = x.1.size + (viewsV l).length := by simp [viewsV, Tm.nodes_length]
    rw [h4, List.length_cons]
    omega
theorem viewsV_prefix {a b : List TmV} (h : a <+: b) : viewsV a <+: viewsV b := by
  obtain ⟨r, rfl⟩ := h
  exact ⟨viewsV r, by simp [viewsV]⟩
/-- the variables of arities, as they lie -/
structure ArMem (w W : World) (ok : Bool) (m : List (Key × Nat)) : Prop where
  rb : Boxed W w.heap.size 127 (.map none)
  ob : Boxed W (w.heap.size + 1) 4 (.bool ok)
  hm : HMap encN W (w.heap.size + 1 + 1) m
  mb : Boxed W (w.heap.size + 1 + 1 + 1) 127 (.map (some (w.heap.size + 1 + 1)))
  bl : Below w.heap.size w W
theorem ArMem.kept {w W W' : World} {ok : Bool} {m : List (Key × Nat)} {row : Option Nat} (h : ArMem w W ok m) (hg : W.grownBy W' row) (hr : ∀ r, row = some r → w.heap.size + 1 + 1 + 1 ≤ r ∧ ∃ o : Obj, W.heap[r]? = some o ∧ o.isCells = false) : ArMem w W' ok m :=
  ⟨held_kept h.rb hg fun r e => (hr r e).2, held_kept h.ob hg fun r e => (hr r e).2, h.hm.kept (hg.block _ h.hm.lt (fun e => by have := (hr _ e.symm).1; omega)), held_kept h.mb hg fun r e => (hr r e).2,
    h.bl.grown hg h.bl.size fun r e => by have := (hr r e).1; omega⟩
theorem ArMem.below {w W W' : World} {ok : Bool} {m : List (Key × Nat)} (h : ArMem w W ok m) (hb : Below W.heap.size W W') : ArMem w W' ok m :=
  h.kept (row := none) ⟨hb.os, hb.tape, hb.output, hb.size, fun i hi _ => hb.block i hi⟩ (fun r e => by cases e)
theorem turned_cell' {w w3 : World} {bq b : Nat} (h : w.mapTurned w3 bq) (hb : b < w.heap.size) (hne : b ≠ bq) : w3.heap[b]? = w.heap[b]? := h.grown.block b hb (fun e => hne (by injection e))
theorem ArMem.retn {w W : World} {m : List (Key × Nat)} (h : ArMem w W false m) : ArMem w ((W.setCell ⟨w.heap.size, 0, none⟩ (.map none)).setCell ⟨w.heap.size + 1, 0, none⟩ (.bool false)) false m :=
  ⟨(heap_set_other _ _ _ _ (by omega)).trans (h.rb.set _), Boxed.set _ ((heap_set_other _ _ _ _ (by omega)).trans h.ob), h.hm.kept ((heap_set_other _ _ _ _ (by omega)).trans (heap_set_other _ _ _ _ (by omega))), (heap_set_other _ _ _ _ (by omega)).trans ((heap_set_other _ _ _ _ (by omega)).trans h.mb),
    (h.bl.setCell (p := ⟨w.heap.size, 0, none⟩) (by simp) _).setCell (p := ⟨w.heap.size + 1, 0, none⟩) (by simp) _⟩
/-- a store into the map -/
theorem ArMem.turned {w W W' : World} {ok : Bool} {m m' : List (Key × Nat)} (h : ArMem w W ok m) (ht : W.mapTurned W' (w.heap.size + 1 + 1)) (hm : HMap encN W' (w.heap.size + 1 + 1) m') : ArMem w W' ok m' :=
  ⟨(turned_cell' ht h.rb.lt (by omega)).trans h.rb, (turned_cell' ht h.ob.lt (by omega)).trans h.ob, hm, (turned_cell' ht h.mb.lt (by omega)).trans h.mb,
    h.bl.grown ht.grown h.bl.size fun r e => by cases e; omega⟩
theorem Keep.turned {n₀ m₀ b : Nat} {A B : World} (h : A.mapTurned B b) (hn : n₀ ≤ b) (hnA : n₀ ≤ A.heap.size) (hb : b < m₀) : Keep n₀ m₀ A B :=
  ⟨(Below.refl n₀ A).grown h.grown hnA (fun r e => by cases e; exact hn), fun k hk o ho _ => (h.grown.block k (Array.getElem?_eq_some_iff.1 ho).1 (fun e => by injection e with e; omega)).trans ho⟩
theorem Keep.grown {n₀ m₀ : Nat} {A B C : World} {row : Option Nat} (h : Keep n₀ m₀ A B) (hn : n₀ ≤ B.heap.size) (hg : B.grownBy C row) (hr : ∀ r, row = some r → n₀ ≤ r ∧ ∃ o : Obj, B.heap[r]? = some o ∧ o.isCells = false) : Keep n₀ m₀ A C :=
  ⟨h.below.grown hg hn (fun r e => (hr r e).1), fun k hk o ho hc => held_any (h.cells k hk o ho hc) hc hg fun r e => (hr r e).2⟩
where
  held_any {W W' : World} {row : Option Nat} {B : Nat} {o : Obj} (h : W.heap[B]? = some o) (hc : o.isCells = true) (hg : W.grownBy W' row) (hr : ∀ r, row = some r → ∃ o : Obj, W.heap[r]? = some o ∧ o.isCells = false) : W'.heap[B]? = some o :=
    (hg.block B (Array.getElem?_eq_some_iff.1 h).1 (fun e => by obtain ⟨o', ho, hc'⟩ := hr B e.symm; rw [h] at ho; cases ho; rw [hc] at hc'; cases hc')).trans h

section
variable {α : Type} {enc : α → Value} (w : World) {ops : Array Oper} {rest : List Oper} {o : Oper} {a : Act} {Q : Exit → Act → World → Prop} {F : Fence} {nF : Nat}
theorem hlookIn_hit (ty te : TypeId) (z0 : Value) (hty : Tryz.prog.underlying ty = some (.map 9 te)) (hz : (zeroValue te).run Tryz.prog w = .ok z0 w) (hg : o.guard = none) (m x : Operand) (hop : o.op = Op.lookup ty m x true) (b n : Nat) (D : DataW Value) (hm : a.eval m = .map (some b)) (hown : w.ownsMap Tryz.prog 9 imgR b n D)
    (key : Value) (kl : Lit) (hx : a.eval x = key) (hkey : keyOf Tryz.prog 9 key = some kl) (val : Value) (hat : ∀ z, D.atKey kl z = .held val) (hh : Maps.has D kl = true)
    (hK : wpListIn F nF Tryz.prog ops Q rest (a.put o.dst (.tuple #[val, .bool true])) w) : wpListIn F nF Tryz.prog ops Q (o :: rest) a w :=
  wpListIn_lookup_own_ok _ hg m x ty hop 9 te strKeyed hty imgR hz (.held z0) [] rfl b n D hm hown key kl hx hkey fun v ps hv => by
    rw [hat] at hv
    simp only [imgR, Option.some.injEq, Prod.mk.injEq, DataW.held.injEq] at hv
    obtain ⟨rfl, -⟩ := hv
    rw [hh]; exact hK
theorem hlookIn_miss (ty te : TypeId) (z0 : Value) (hty : Tryz.prog.underlying ty = some (.map 9 te)) (hz : (zeroValue te).run Tryz.prog w = .ok z0 w) (hg : o.guard = none) (m x : Operand) (hop : o.op = Op.lookup ty m x true) (b n : Nat) (D : DataW Value) (hm : a.eval m = .map (some b)) (hown : w.ownsMap Tryz.prog 9 imgR b n D)
    (key : Value) (kl : Lit) (hx : a.eval x = key) (hkey : keyOf Tryz.prog 9 key = some kl) (hh : Maps.has D kl = false)
    (hK : wpListIn F nF Tryz.prog ops Q rest (a.put o.dst (.tuple #[z0, .bool false])) w) : wpListIn F nF Tryz.prog ops Q (o :: rest) a w :=
  wpListIn_lookup_own_ok _ hg m x ty hop 9 te strKeyed hty imgR hz (.held z0) [] rfl b n D hm hown key kl hx hkey fun v ps hv => by
    rw [atKey_of_not_has hh] at hv
    simp only [imgR, Option.some.injEq, Prod.mk.injEq, DataW.held.injEq] at hv
    obtain ⟨rfl, -⟩ := hv
    rw [hh]; exact hK
end
/-- how arities answers -/
def ArPost (r : Option (List (Key × Nat))) (e : Ending) (W : World) : Prop :=
  (∀ m, r = some m → ∃ mb, e = .returned (.tuple #[.map (some mb), .bool true]) ∧ HMap encN W mb m) ∧ (r = none → ∃ x, e = .returned (.tuple #[x, .bool false]))

set_option maxRecDepth 100000 in
set_option maxHeartbeats 4000000 in
theorem arities_any (l : List RlV) (v : Value) (w : World) (hv : RulV w.heap.size w l v) (hl : l.length ≤ 1048576) (hb : ∀ x ∈ sidesV l, x.1.bulk ≤ 1048576) :
    Calls Tryz.prog 146 #[v] w fun e w' => ArPost (arRun [] (viewsV (sidesV l))) e w' ∧ Below w.heap.size w w' := by
  have hsh := hv.shape
  obtain ⟨oa, cap, rfl⟩ := hsh
  refine (callsIn_wide (n := 7)).1 ?_
  refine callsIn_of_wp_marks Tryz.func146 rfl trivial ?_ rfl
  have hmm := @run_makeMap Tryz.prog
  simp only [Tryz.ntmps146, List.size_toArray, List.length_cons, List.length_nil, Nat.reduceAdd, Nat.reduceSub, Array.replicate_succ, Array.replicate_zero, List.push_toArray, List.append_toArray, List.nil_append, List.cons_append]
  gi_wp2_with (refine ⟨trivial, ?_⟩; gi_at_call 145; refine (sides_in Fence.wide _ trivial rfl _ ⟨_, _, _, rfl⟩ _).mono ?_; rintro e w' ⟨rfl, rfl⟩)
  clear hmm
  have hB0 : Below w.heap.size w (((((w.alloc (.cells #[.map none] 127)).alloc (.cells #[.bool false] 4)).alloc (.map #[] 0)).alloc (.cells #[.map (some (w.heap.size + 1 + 1))] 127)).alloc (.cells #[.slice oa l.length cap] 22)) := by go_grown
  have hM0 : ArMem w (((((w.alloc (.cells #[.map none] 127)).alloc (.cells #[.bool false] 4)).alloc (.map #[] 0)).alloc (.cells #[.map (some (w.heap.size + 1 + 1))] 127)).alloc (.cells #[.slice oa l.length cap] 22)) false [] := by
    refine ⟨((((boxed_at _ _ _ _ (by simp)).alloc _).alloc _).alloc _).alloc _, (((boxed_at _ _ _ _ (by simp)).alloc _).alloc _).alloc _, ?_, (boxed_at _ _ _ _ (by simp)).alloc _, hB0⟩
    have h := HMap.made (enc := encN) ((w.alloc (.cells #[.map none] 127)).alloc (.cells #[.bool false] 4))
    simp only [World.size_alloc] at h
    refine h.kept ?_
    rw [Below.heap_alloc _ _ _ (by simp), Below.heap_alloc _ _ _ (by simp)]
  have hsl := sidesV_length l
  refine wpIn_rangeFunc_ownH rfl (by omega) (gf := 206) (lb := #[.pointer (some ⟨w.heap.size + 1 + 1 + 1 + 1, 0, none⟩)]) rfl trivial (enters_of Tryz.func206 (by kernel_rfl) rfl)
    (sides_stops Fence.wide rfl _ trivial rfl (w.heap.size + 1 + 1 + 1 + 1) w.heap.size l _ _ (by simp) (by simp; omega) (cell_new_at _ _ _ _ _ (by simp)) (hv.carry hB0 (Nat.le_refl _)) hl)
    (fun h k => h.trans k) (Keep.put (by simp; omega)) (Below.refl _ _) (fun _ => rfl)
    (fun pre W => ∃ m, arRun [] (viewsV (pre.map Subtype.val)) = some m ∧ ArMem w W false m)
    (fun c pre W => c = .ret ∧ arRun [] (viewsV (pre.map Subtype.val)) = none ∧ ∃ m, ArMem w W false m)
    (fun s A B row ⟨m, h1, h⟩ hg hr => ⟨m, h1, h.kept hg (fun r e => ⟨by have := (hr r e).1; simp at this; omega, (hr r e).2⟩)⟩)
    (fun c s A B row ⟨h1, h2, m, h⟩ hg hr => ⟨h1, h2, m, h.kept hg (fun r e => ⟨by have := (hr r e).1; simp at this; omega, (hr r e).2⟩)⟩)
    ⟨[], rfl, hM0⟩
    (fun x a' W => ∃ B, w.heap.size + 1 + 1 + 1 < B ∧ W.heap[B]? = some (.cells #[.string x.1.1.nm, .bool x.1.1.vr, x.1.2] 25 (0, 0)) ∧
      a' = { tmps := #[.slice oa l.length cap, undef, .pointer (some ⟨w.heap.size, 0, none⟩), .pointer (some ⟨w.heap.size + 1, 0, none⟩), .pointer (some ⟨w.heap.size + 1 + 1 + 1, 0, none⟩), .pointer (some ⟨B, 0, none⟩), undef, undef, undef, undef, .map (some (w.heap.size + 1 + 1)), .slice oa l.length cap, .func (.func 206) #[] #[.pointer (some ⟨w.heap.size + 1 + 1 + 1 + 1, 0, none⟩)], .agg #[.string x.1.1.nm, .bool x.1.1.vr, x.1.2], undef, undef, undef, undef, undef, undef, undef, undef, undef, undef, undef, undef, undef, undef, undef, undef, undef, undef, undef, undef, undef, undef, undef, undef, undef, undef, undef, undef, undef, undef, undef, undef, undef], defers := [] })
    (fun x a' s A B row ⟨b, h1, h2, h3⟩ hg hr => ⟨b, h1, held_kept h2 hg (fun r e => (hr r e).2), h3⟩) ?assign ?body ?done ?stop
  case assign =>
    rintro lp pre ⟨⟨u, uv⟩, hxm⟩ W K ⟨m, hm, hM⟩ hK
    obtain ⟨ou, cu, e, -⟩ := (hv.mem hxm).form
    simp only at e
    subst e
    simp only [TmV.encs]
    simp only [Array.zip]
    gi_wp2
    refine hK _ _ ((KeepsOthers.alloc _ _).from _) ((Keep.refl _ _ _).alloc (by have := hM.bl.size; omega) _) ⟨m, hm, hM.kept (World.grownBy_alloc W _ none) (fun r e => by cases e)⟩ ⟨W.heap.size, hM.mb.lt, World.alloc_heap_new W _, rfl⟩
  case body =>
    rintro lp pre x a' W hlp ⟨r, hr⟩ ⟨m, hm, hM⟩ ⟨B, hB, hX, rfl⟩ hlt
    have hxs := hv.mem x.2
    have hxb := hb x.1 x.2
    obtain ⟨⟨u, uv⟩, hxm⟩ := x
    simp only at hxs hxb hX ⊢
    obtain ⟨ou, cu, rfl, -⟩ := hxs.form
    have b0 := cells_of hX 0
    have b1 := cells_of hX 1
    have b2 := cells_of hX 2
    simp only [List.getElem?_toArray, List.getElem?_cons_zero, List.getElem?_cons_succ] at b0 b1 b2
    have hlpW : lp < W.heap.size := (Array.getElem?_eq_some_iff.1 hr).1
    have HM := Lib.hid hM
    have HR := Lib.hid hr
    have HS := Lib.hid hxs
    have HA := Lib.hid hm
    have HX := Lib.hid hX
    clear hM hr hX hxs hm hv
    gi_wp2_with fail
    refine ⟨trivial, (CallsIn.inRound lp (nodes_in Fence.wide _ trivial rfl _ _ _ _ _)).mono ?_⟩
    rintro e w' ⟨rfl, rfl⟩
    gi_wp2_with fail
    have hWz := HM.out.bl.size
    have hWm := HM.out.mb.lt
    have hB1 : Below W.heap.size W (W.alloc (.cells #[.string u.nm, .bool u.vr, .slice ou u.ts.length cu] 25)) := by go_grown
    have hsW : SlIs w.heap.size (W.alloc (.cells #[.string u.nm, .bool u.vr, .slice ou u.ts.length cu] 25)) u.ts (.slice ou u.ts.length cu) := HS.out.carry (HM.out.bl.trans (hB1.mono hWz)) (Nat.le_refl _)
    refine wpIn_rangeFunc_ownN (l₀ := lp) (r₀ := r) rfl ((hB1.block lp hlpW).trans HR.out) (by omega) (gf := 222) (lb := #[.pointer (some ⟨W.heap.size, 0, none⟩)]) rfl trivial (enters_of Tryz.func222 (by kernel_rfl) rfl)
      ((nodes_stops Fence.wide rfl _ trivial trivial rfl W.heap.size w.heap.size u _ _ (by simp) (by simp; omega) (cell_new_at _ _ _ _ _ (by simp)) (cell_new_at _ _ _ _ _ (by simp)) (cell_new_at _ _ _ _ _ (by simp)) hsW hxb).inRound lp)
      (fun h k => h.trans k) (Keep.put (by simp; omega)) (Below.refl _ _) (fun _ => rfl)
      (fun pre W' => ∃ m', arRun m (pre.map Nd.view) = some m' ∧ ArMem w W' false m' ∧ Keep w.heap.size (w.heap.size + 1 + 1 + 1 + 1 + 1) W W' ∧ KeepsFrom (w.heap.size + 1 + 1 + 1 + 1 + 1) W W')
      (fun c pre W' => c = .ret ∧ arRun m (pre.map Nd.view) = none ∧ (∃ m', ArMem w W' false m') ∧ KeepsFrom (w.heap.size + 1 + 1 + 1 + 1 + 1) W W')
      (fun s A A' row ⟨m', h1, h2, h3, h4⟩ hg hr => ⟨m', h1, h2.kept hg (fun r e => ⟨by have := (hr r e).1; simp at this; omega, (hr r e).2⟩), h3.grown h2.bl.size hg (fun r e => ⟨by have := (hr r e).1; simp at this; omega, (hr r e).2⟩),
        ownFrom_keepsFrom (β := Unit) (B := w.heap.size + 1 + 1 + 1 + 1 + 1) (by simp) () _ _ row h4 hg hr⟩)
      (fun c s A A' row ⟨h1, h2, ⟨m', h3⟩, h4⟩ hg hr => ⟨h1, h2, ⟨m', h3.kept hg (fun r e => ⟨by have := (hr r e).1; simp at this; omega, (hr r e).2⟩)⟩, ownFrom_keepsFrom (β := Unit) (B := w.heap.size + 1 + 1 + 1 + 1 + 1) (by simp) () _ _ row h4 hg hr⟩)
      ⟨m, rfl, HM.out.below hB1, (Keep.refl _ _ _).alloc hWz _, KeepsFrom.of_below hB1⟩
      (fun y a' W' => ∃ C, w.heap.size + 1 + 1 + 1 < C ∧ W'.heap[C]? = some (.cells #[.string y.nm, .bool y.vr, .slice y.oa y.n y.cap] 25 (0, 0)) ∧
        a' = { tmps := #[.slice oa l.length cap, undef, .pointer (some ⟨w.heap.size, 0, none⟩), .pointer (some ⟨w.heap.size + 1, 0, none⟩), .pointer (some ⟨w.heap.size + 1 + 1 + 1, 0, none⟩), .pointer (some ⟨B, 0, none⟩), undef, .pointer (some ⟨C, 0, none⟩), undef, undef, .map (some (w.heap.size + 1 + 1)), .slice oa l.length cap, .func (.func 206) #[] #[.pointer (some ⟨w.heap.size + 1 + 1 + 1 + 1, 0, none⟩)], .agg #[.string u.nm, .bool u.vr, .slice ou u.ts.length cu], .agg #[.string u.nm, .bool u.vr, .slice ou u.ts.length cu], .func (.func 222) #[] #[.pointer (some ⟨W.heap.size, 0, none⟩)], .int .i64 y.d, .agg #[.string y.nm, .bool y.vr, .slice y.oa y.n y.cap], undef, undef, undef, undef, undef, undef, undef, undef, undef, undef, undef, undef, undef, undef, undef, undef, undef, undef, undef, undef, undef, undef, undef, undef, undef, undef, undef, undef, undef], defers := [] })
      (fun x a' s A B row ⟨b, h1, h2, h3⟩ hg hr => ⟨b, h1, held_kept h2 hg (fun r e => (hr r e).2), h3⟩) ?assign2 ?body2 ?done2 ?stop2
    case assign2 =>
      rintro lq pre2 y V K ⟨m', h1, h2, h3, h4⟩ hK
      simp only [Nd.encs]
      simp only [Array.zip]
      have hVz := h4.size
      gi_wp2
      refine hK _ _ ((KeepsOthers.alloc _ _).from _) ((Keep.refl _ _ _).alloc (by omega) _) ⟨m', h1, h2.kept (World.grownBy_alloc V _ none) (fun r e => by cases e), h3.alloc h2.bl.size _, h4.trans ((KeepsOthers.alloc _ _).from _)⟩ ⟨V.heap.size, h2.mb.lt, World.alloc_heap_new V _, rfl⟩
    case body2 =>
      rintro lq pre2 y a' V hlq ⟨rq, hrq⟩ ⟨m', h1, h2, h3, h4⟩ ⟨C, hC, hY, rfl⟩ hlt2
      have b0 := cells_of hY 0
      have b1 := cells_of hY 1
      have b2 := cells_of hY 2
      simp only [List.getElem?_toArray, List.getElem?_cons_zero, List.getElem?_cons_succ] at b0 b1 b2
      have hyn := y.hnm
      have hya := y.hn
      have hyd := y.hd
      have mc := h2.mb.cell
      have rc := h2.rb.cell
      have rf := h2.rb.frozen
      have oc := h2.ob.cell
      have of := h2.ob.frozen
      have H1 := Lib.hid h1
      have H2 := Lib.hid h2
      have H3 := Lib.hid h3
      have H4 := Lib.hid h4
      have HY := Lib.hid hY
      clear h1 h2 h3 h4 hY hrq
      have hev := arRun_append m (pre2.map Nd.view) [y.view]
      rw [H1.out] at hev
      have HE := Lib.hid (show arRun m ((pre2 ++ [y]).map Nd.view) = arStep m' y.view by
        rw [List.map_append, List.map_singleton, hev]
        simp only [Option.bind_some, arRun]
        cases arStep m' y.view <;> rfl)
      clear hev
      have hml : m'.length < maxLen := by
        have e1 := arRun_length HA.out
        have e2 := arRun_length H1.out
        have e3 := viewsV_length (pre.map Subtype.val) (fun x hx => by obtain ⟨z, -, rfl⟩ := List.mem_map.1 hx; exact hb z.1 z.2)
        simp only [List.length_map, List.length_nil] at e1 e2 e3
        have e4 := Tm.size_bulk u
        unfold maxLen
        omega
      have HKEY : Hid (keyOf Tryz.prog 9 (.string y.nm) = some (.string y.nm.data.toList)) := Lib.hid (WideMaps.keyOf_string_mk Tryz.underlying9 (by unfold maxLen; omega))
      obtain ⟨D, hown, hinv⟩ := H2.out.hm
      have HOWN := Lib.hid hown
      have HINV := Lib.hid hinv
      clear hown hinv
      cases hyv : y.vr
      · have HV := Lib.hid hyv
        rw [hyv] at b1
        clear hyv
        cases hga : getA m' y.nm.data.toList with
        | none =>
          have HHAS := Lib.hid (show Maps.has D (.string y.nm.data.toList) = false by rw [HINV.out.has]; exact decide_eq_false (getA_none.1 hga))
          have HGA := Lib.hid hga
          clear hga
          by_cases hsu : Lib.hasSuffix y.nm.data.toList [35] = true
          · have HSUF := Lib.hid (fun W0 : World => (Tryz.strings_HasSuffix y.nm ⟨#[35]⟩ W0 (by omega)).mono fun _ _ ⟨he, hw⟩ => (⟨he.trans (by rw [show Lib.hasSuffix y.nm.data.toList (⟨#[35]⟩ : ByteArray).data.toList = true from hsu]), hw⟩ : _ = Ending.returned (.bool true) ∧ _ = W0))
            have HST := Lib.hid (show arStep m' y.view = none by unfold arStep; rw [if_neg (by simp [Nd.view, HV.out]), if_pos (show Lib.hasSuffix y.view.2.1.data.toList [35] = true from hsu)])
            clear hsu
            gi_wp2_with (first | (gi_at_lookup; refine hlookIn_miss _ 127 3 (.int .i64 0) Tryz.underlying127 (Tryz.zeroValue3 _) rfl (.tmp 21) (.tmp 23) rfl (w.heap.size + 1 + 1) m'.length D rfl HOWN.out (.string y.nm) (.string y.nm.data.toList) rfl HKEY.out HHAS.out ?_) | (refine ⟨trivial, ?_⟩; gi_at_call 207; refine (CallsIn.inRound _ (CallsIn.inRound _ (callsIn_wide.2 (HSUF.out V)))).mono ?_; rintro e w' ⟨rfl, rfl⟩))
            all_goals first | (rename_i hx _; exact absurd hx (by simp [undef])) | exact ⟨((KeepsOthers.setCell _ _ _).trans (KeepsOthers.setCell _ _ _)).from _, rfl, HE.out.trans HST.out, ⟨m', H2.out.retn⟩, H4.out.trans (((KeepsOthers.setCell _ _ _).trans (KeepsOthers.setCell _ _ _)).from _)⟩
          · have HSUF := Lib.hid (fun W0 : World => (Tryz.strings_HasSuffix y.nm ⟨#[35]⟩ W0 (by omega)).mono fun _ _ ⟨he, hw⟩ => (⟨he.trans (by rw [show Lib.hasSuffix y.nm.data.toList (⟨#[35]⟩ : ByteArray).data.toList = false from by simpa using hsu]), hw⟩ : _ = Ending.returned (.bool false) ∧ _ = W0))
            have HST := Lib.hid (show arStep m' y.view = (match getA m' y.nm.data.toList with | some n => if n = y.n then some (putA m' y.nm.data.toList y.n) else none | none => some (putA m' y.nm.data.toList y.n)) by unfold arStep; rw [if_neg (by simp [Nd.view, HV.out]), if_neg (show ¬ Lib.hasSuffix y.view.2.1.data.toList [35] = true from hsu)]; rfl)
            clear hsu
            rw [HGA.out] at HST
            gi_wp2_with (first | (gi_at_lookup; refine hlookIn_miss _ 127 3 (.int .i64 0) Tryz.underlying127 (Tryz.zeroValue3 _) rfl (.tmp 21) (.tmp 23) rfl (w.heap.size + 1 + 1) m'.length D rfl HOWN.out (.string y.nm) (.string y.nm.data.toList) rfl HKEY.out HHAS.out ?_) | (refine ⟨trivial, ?_⟩; gi_at_call 207; refine (CallsIn.inRound _ (CallsIn.inRound _ (callsIn_wide.2 (HSUF.out V)))).mono ?_; rintro e w' ⟨rfl, rfl⟩) | (gi_at_mapUpdate; refine wpListIn_mapUpdate_in _ rfl (.tmp 40) (.tmp 42) (.tmp 45) 127 rfl 9 3 strKeyed Tryz.underlying127 imgR (w.heap.size + 1 + 1) m'.length D rfl HOWN.out hml (.string y.nm) (.int .i64 y.n) (.string y.nm.data.toList) rfl rfl HKEY.out (.held (.int .i64 y.n)) [] rfl ?_; intro V3 hown3 hturn3))
            have hm3 : HMap encN V3 (w.heap.size + 1 + 1) (putA m' y.nm.data.toList y.n) := HMap.store HINV.out hown3
            have HM3 := Lib.hid (H2.out.turned hturn3 hm3)
            have HT3 := Lib.hid hturn3
            clear hown3 hturn3 hm3
            gi_wp2
            have hz2 := H2.out.bl.size
            exact ⟨KeepsFrom.of_grownBy HT3.out.grown (fun r e => by cases e; simp; omega), Keep.turned HT3.out (by omega) hz2 (by simp; omega), _, (by first | exact HE.out.trans (HST.out.trans (if_pos rfl)) | exact HE.out.trans HST.out), HM3.out, H3.out.trans (Keep.turned HT3.out (by omega) hz2 (by omega)), H4.out.trans (KeepsFrom.of_grownBy HT3.out.grown (fun r e => by cases e; omega))⟩
        | some k =>
          have HHAS := Lib.hid (show Maps.has D (.string y.nm.data.toList) = true by rw [HINV.out.has]; exact decide_eq_true (getA_mem.2 ⟨k, hga⟩))
          have HAT := Lib.hid (HINV.out.at_ _ _ hga)
          have HGA := Lib.hid hga
          clear hga
          by_cases hsu : Lib.hasSuffix y.nm.data.toList [35] = true
          · have HSUF := Lib.hid (fun W0 : World => (Tryz.strings_HasSuffix y.nm ⟨#[35]⟩ W0 (by omega)).mono fun _ _ ⟨he, hw⟩ => (⟨he.trans (by rw [show Lib.hasSuffix y.nm.data.toList (⟨#[35]⟩ : ByteArray).data.toList = true from hsu]), hw⟩ : _ = Ending.returned (.bool true) ∧ _ = W0))
            have HST := Lib.hid (show arStep m' y.view = none by unfold arStep; rw [if_neg (by simp [Nd.view, HV.out]), if_pos (show Lib.hasSuffix y.view.2.1.data.toList [35] = true from hsu)])
            clear hsu
            gi_wp2_with (first | (gi_at_lookup; refine hlookIn_hit _ 127 3 (.int .i64 0) Tryz.underlying127 (Tryz.zeroValue3 _) rfl (.tmp 21) (.tmp 23) rfl (w.heap.size + 1 + 1) m'.length D rfl HOWN.out (.string y.nm) (.string y.nm.data.toList) rfl HKEY.out (encN k) HAT.out HHAS.out ?_) | (refine ⟨trivial, ?_⟩; gi_at_call 207; refine (CallsIn.inRound _ (CallsIn.inRound _ (callsIn_wide.2 (HSUF.out V)))).mono ?_; rintro e w' ⟨rfl, rfl⟩))
            all_goals first | (rename_i hx _; exact absurd hx (by simp [undef])) | exact ⟨((KeepsOthers.setCell _ _ _).trans (KeepsOthers.setCell _ _ _)).from _, rfl, HE.out.trans HST.out, ⟨m', H2.out.retn⟩, H4.out.trans (((KeepsOthers.setCell _ _ _).trans (KeepsOthers.setCell _ _ _)).from _)⟩
          · have HSUF := Lib.hid (fun W0 : World => (Tryz.strings_HasSuffix y.nm ⟨#[35]⟩ W0 (by omega)).mono fun _ _ ⟨he, hw⟩ => (⟨he.trans (by rw [show Lib.hasSuffix y.nm.data.toList (⟨#[35]⟩ : ByteArray).data.toList = false from by simpa using hsu]), hw⟩ : _ = Ending.returned (.bool false) ∧ _ = W0))
            have HST := Lib.hid (show arStep m' y.view = (match getA m' y.nm.data.toList with | some n => if n = y.n then some (putA m' y.nm.data.toList y.n) else none | none => some (putA m' y.nm.data.toList y.n)) by unfold arStep; rw [if_neg (by simp [Nd.view, HV.out]), if_neg (show ¬ Lib.hasSuffix y.view.2.1.data.toList [35] = true from hsu)]; rfl)
            clear hsu
            rw [HGA.out] at HST
            by_cases hk : k = y.n
            · subst hk
              gi_wp2_with (first | (gi_at_lookup; refine hlookIn_hit _ 127 3 (.int .i64 0) Tryz.underlying127 (Tryz.zeroValue3 _) rfl (.tmp 21) (.tmp 23) rfl (w.heap.size + 1 + 1) m'.length D rfl HOWN.out (.string y.nm) (.string y.nm.data.toList) rfl HKEY.out (encN y.n) HAT.out HHAS.out ?_) | (refine ⟨trivial, ?_⟩; gi_at_call 207; refine (CallsIn.inRound _ (CallsIn.inRound _ (callsIn_wide.2 (HSUF.out V)))).mono ?_; rintro e w' ⟨rfl, rfl⟩) | (gi_at_mapUpdate; refine wpListIn_mapUpdate_in _ rfl (.tmp 40) (.tmp 42) (.tmp 45) 127 rfl 9 3 strKeyed Tryz.underlying127 imgR (w.heap.size + 1 + 1) m'.length D rfl HOWN.out hml (.string y.nm) (.int .i64 y.n) (.string y.nm.data.toList) rfl rfl HKEY.out (.held (.int .i64 y.n)) [] rfl ?_; intro V3 hown3 hturn3))
              have hm3 : HMap encN V3 (w.heap.size + 1 + 1) (putA m' y.nm.data.toList y.n) := HMap.store HINV.out hown3
              have HM3 := Lib.hid (H2.out.turned hturn3 hm3)
              have HT3 := Lib.hid hturn3
              clear hown3 hturn3 hm3
              gi_wp2
              have hz2 := H2.out.bl.size
              exact ⟨KeepsFrom.of_grownBy HT3.out.grown (fun r e => by cases e; simp; omega), Keep.turned HT3.out (by omega) hz2 (by simp; omega), _, (by first | exact HE.out.trans (HST.out.trans (if_pos rfl)) | exact HE.out.trans HST.out), HM3.out, H3.out.trans (Keep.turned HT3.out (by omega) hz2 (by omega)), H4.out.trans (KeepsFrom.of_grownBy HT3.out.grown (fun r e => by cases e; omega))⟩
            · have hk1 : ((k : Int) != (y.n : Int)) = true := by simp only [bne_iff_ne, ne_eq]; omega
              gi_wp2_with (first | (gi_at_lookup; refine hlookIn_hit _ 127 3 (.int .i64 0) Tryz.underlying127 (Tryz.zeroValue3 _) rfl (.tmp 21) (.tmp 23) rfl (w.heap.size + 1 + 1) m'.length D rfl HOWN.out (.string y.nm) (.string y.nm.data.toList) rfl HKEY.out (encN k) HAT.out HHAS.out ?_) | (refine ⟨trivial, ?_⟩; gi_at_call 207; refine (CallsIn.inRound _ (CallsIn.inRound _ (callsIn_wide.2 (HSUF.out V)))).mono ?_; rintro e w' ⟨rfl, rfl⟩))
              exact ⟨((KeepsOthers.setCell _ _ _).trans (KeepsOthers.setCell _ _ _)).from _, rfl, HE.out.trans (HST.out.trans (if_neg hk)), ⟨m', H2.out.retn⟩, H4.out.trans (((KeepsOthers.setCell _ _ _).trans (KeepsOthers.setCell _ _ _)).from _)⟩
      · have HV := Lib.hid hyv
        rw [hyv] at b1
        clear hyv
        have HST := Lib.hid (show arStep m' y.view = some m' by unfold arStep; rw [if_pos (by simp [Nd.view, HV.out])])
        gi_wp2_with fail
        exact ⟨KeepsFrom.refl _ _, Keep.refl _ _ _, m', HE.out.trans HST.out, H2.out, H3.out, H4.out⟩
    case done2 =>
      rintro ys V hys ⟨m', h1, h2, h3, h4⟩
      gi_wp2
      refine ⟨by simpa using h4, by simpa using h3, m', ?_, h2⟩
      rw [List.map_append, List.map_singleton, viewsV_snoc, arRun_append, HA.out, ← hys]
      exact h1
    case stop2 =>
      rintro c ys V hys ⟨rfl, h2, ⟨m', h3⟩, h4⟩
      gi_wp2
      refine ⟨by simpa using h4, rfl, ?_, m', h3⟩
      rw [List.map_append, List.map_singleton, viewsV_snoc, arRun_append, HA.out]
      exact arRun_none h2 hys
  case done =>
    rintro D ys W hD hys ⟨m, hm, hM⟩ hK
    have mc := hM.mb.cell
    have rc := hM.rb.cell
    have rf := hM.rb.frozen
    have oc := hM.ob.cell
    have of := hM.ob.frozen
    rw [hys] at hm
    have HM := Lib.hid hM
    have HA := Lib.hid hm
    clear hys hm hM
    gi_wp2
    have hK1 := (KeepsOthers.setCell W ⟨w.heap.size, 0, none⟩ (.map (some (w.heap.size + 1 + 1)))).same D _ hK rfl
    have hK2 := (KeepsOthers.setCell _ ⟨w.heap.size + 1, 0, none⟩ (.bool true)).same D _ hK1 rfl
    have hr : Boxed ((W.setCell ⟨w.heap.size, 0, none⟩ (.map (some (w.heap.size + 1 + 1)))).setCell ⟨w.heap.size + 1, 0, none⟩ (.bool true)) w.heap.size 127 (.map (some (w.heap.size + 1 + 1))) := (heap_set_other _ _ _ _ (by omega)).trans (HM.out.rb.set _)
    have ho : Boxed ((W.setCell ⟨w.heap.size, 0, none⟩ (.map (some (w.heap.size + 1 + 1)))).setCell ⟨w.heap.size + 1, 0, none⟩ (.bool true)) (w.heap.size + 1) 4 (.bool true) := Boxed.set _ ((heap_set_other _ _ _ _ (by omega)).trans HM.out.ob)
    have hh : HMap encN ((W.setCell ⟨w.heap.size, 0, none⟩ (.map (some (w.heap.size + 1 + 1)))).setCell ⟨w.heap.size + 1, 0, none⟩ (.bool true)) (w.heap.size + 1 + 1) m := HM.out.hm.kept ((heap_set_other _ _ _ _ (by omega)).trans (heap_set_other _ _ _ _ (by omega)))
    have hbl : Below w.heap.size w ((W.setCell ⟨w.heap.size, 0, none⟩ (.map (some (w.heap.size + 1 + 1)))).setCell ⟨w.heap.size + 1, 0, none⟩ (.bool true)) := (HM.out.bl.setCell (p := ⟨w.heap.size, 0, none⟩) (by simp) _).setCell (p := ⟨w.heap.size + 1, 0, none⟩) (by simp) _
    refine ⟨by simp, .inl ⟨_, _, rfl, run_takeDeferred hK2, ?_⟩⟩
    have hc0 := cell_kept hr.cell (grownBy_putObj' _ D (.deferred none)) (fun r e => by cases e; exact ⟨_, hK2, rfl⟩)
    have hc1 := cell_kept ho.cell (grownBy_putObj' _ D (.deferred none)) (fun r e => by cases e; exact ⟨_, hK2, rfl⟩)
    refine ⟨.tuple #[.map (some (w.heap.size + 1 + 1)), .bool true], ?_, ⟨fun m1 h1 => ?_, fun h => by rw [HA.out] at h; cases h⟩, hbl.trans (belowK_b (w := w) (Nat.le_refl _) _ D _ _ (by simp at hD; omega) hK2 rfl rfl)⟩
    · simp [results, Tryz.f146, go_sem, hc0, hc1]
    · rw [HA.out] at h1
      cases h1
      exact ⟨_, rfl, hh.kept (World.putObj_heap_other (by simp at hD; omega))⟩
  case stop =>
    rintro D c pre W hD hpre ⟨rfl, hm, m, hM⟩ hK
    have HA := Lib.hid (arRun_none hm (viewsV_prefix hpre))
    have HM := Lib.hid hM
    clear hm hM hpre
    gi_wp2
    refine ⟨by simp, .inl ⟨_, _, rfl, run_takeDeferred hK, ?_⟩⟩
    have hc0 := cell_kept HM.out.rb.cell (grownBy_putObj' _ D (.deferred none)) (fun r e => by cases e; exact ⟨_, hK, rfl⟩)
    have hc1 := cell_kept HM.out.ob.cell (grownBy_putObj' _ D (.deferred none)) (fun r e => by cases e; exact ⟨_, hK, rfl⟩)
    refine ⟨.tuple #[.map none, .bool false], ?_, ⟨fun m1 h1 => (by rw [HA.out] at h1; cases h1), fun _ => ⟨_, rfl⟩⟩, HM.out.bl.trans (belowK_b (w := w) (Nat.le_refl _) _ D _ _ (by simp at hD; omega) hK rfl rfl)⟩
    simp [results, Tryz.f146, go_sem, hc0, hc1]
end Go.Proofs.YtamddagmlanijaaGreat
/- Ranging over maps: small facts. -/
namespace Go.Proofs.YtamddagmlanijaaGreat
open Go.RowKit Go.Maps

section
variable {H : Type} {w w' : World} {P : Program} {k : TypeId} {R : Value → Option (DataW H × List MemPlace)} {b r n : Nat} {D : DataW H} {left : Lit → Bool} {cnt : Nat}
end
theorem key_of_str {x : ByteArray} {kl : Lit} (h : keyOf Tryz.prog 9 (.string x) = some kl) : kl = .string x.data.toList := by
  rw [keyOf_string Tryz.underlying9] at h
  simp only [mapKey] at h
  first
    | (simp only [Option.some.injEq] at h; exact h.symm)
    | (split at h <;> simp_all)
end Go.Proofs.YtamddagmlanijaaGreat
/- variables(t): the set of the variables of a term. hasExtra: has the right side of a rule a variable that the left side lacks? -/
namespace Go.Proofs.YtamddagmlanijaaGreat
open Go.RowKit Go.Shelf Go.Maps
attribute [local go_sem] Oper.semAt_some

/-- the set of the variables, as it grows -/
def vbRun : List (Key × Bool) → List View → List (Key × Bool)
  | m, [] => m
  | m, v :: l => vbRun (if v.2.2.1 then putA m v.2.1.data.toList true else m) l
theorem vbRun_append (m : List (Key × Bool)) (l r : List View) : vbRun m (l ++ r) = vbRun (vbRun m l) r := by
  induction l generalizing m with
  | nil => rfl
  | cons v l ih => simp only [List.cons_append, vbRun, ih]
theorem vbRun_length (m : List (Key × Bool)) (l : List View) : (vbRun m l).length ≤ m.length + l.length := by
  induction l generalizing m with
  | nil => simp [vbRun]
  | cons v l ih =>
    simp only [vbRun, List.length_cons]
    have h1 := ih (if v.2.2.1 then putA m v.2.1.data.toList true else m)
    have h2 := putA_length_le m v.2.1.data.toList true
    by_cases h : v.2.2.1 = true
    · simp only [h, if_true] at h1 ⊢; omega
    · simp only [h] at h1 ⊢; simp at h1 ⊢; omega
theorem vbRun_get (m : List (Key × Bool)) (l : List View) (k : Key) : getA (vbRun m l) k = cond (l.any (fun v => v.2.2.1 && decide (v.2.1.data.toList = k))) (some true) (getA m k) := by
  induction l generalizing m with
  | nil => rfl
  | cons v l ih =>
    simp only [vbRun, ih, List.any_cons]
    by_cases hv : v.2.2.1 = true
    · rw [if_pos hv, hv, Bool.true_and, getA_put]
      by_cases h2 : k = v.2.1.data.toList
      · rw [if_pos h2, decide_eq_true h2.symm, Bool.true_or]
        cases l.any _ <;> rfl
      · rw [if_neg h2, decide_eq_false (fun h => h2 h.symm), Bool.false_or]
    · rw [if_neg hv, show v.2.2.1 = false by simpa using hv, Bool.false_and, Bool.false_or]

/-- the variables of the walk, as they lie -/
structure VbMem (w W : World) (m : List (Key × Bool)) : Prop where
  hm : HMap Value.bool W (w.heap.size + 1) m
  mb : Boxed W (w.heap.size + 1 + 1) 258 (.map (some (w.heap.size + 1)))
  bl : Below w.heap.size w W
theorem VbMem.kept {w W W' : World} {m : List (Key × Bool)} {row : Option Nat} (h : VbMem w W m) (hg : W.grownBy W' row) (hr : ∀ r, row = some r → w.heap.size + 1 + 1 ≤ r ∧ ∃ o : Obj, W.heap[r]? = some o ∧ o.isCells = false) : VbMem w W' m :=
  ⟨h.hm.kept (hg.block _ h.hm.lt (fun e => by have := (hr _ e.symm).1; omega)), held_kept h.mb hg fun r e => (hr r e).2,
    h.bl.grown hg h.bl.size fun r e => by have := (hr r e).1; omega⟩
theorem VbMem.turned {w W W' : World} {m m' : List (Key × Bool)} (h : VbMem w W m) (ht : W.mapTurned W' (w.heap.size + 1)) (hm : HMap Value.bool W' (w.heap.size + 1) m') : VbMem w W' m' :=
  ⟨hm, (turned_cell' ht h.mb.lt (by omega)).trans h.mb, h.bl.grown ht.grown h.bl.size fun r e => by cases e; omega⟩

set_option maxRecDepth 100000 in
set_option maxHeartbeats 4000000 in
theorem variables_any (t : Tm) (s : Value) (w : World) (hs : SlIs w.heap.size w t.ts s) (hb : t.bulk ≤ 1048576) :
    Calls Tryz.prog 198 #[tmv t s] w fun e w' => (∃ mb, e = .returned (.map (some mb)) ∧ w.heap.size ≤ mb ∧ HMap Value.bool w' mb (vbRun [] (t.nodes 1))) ∧ Below w.heap.size w w' := by
  obtain ⟨oa, cap, rfl, -⟩ := hs.form
  have hsz := Tm.size_bulk t
  refine (callsIn_wide (n := 3)).1 ?_
  refine callsIn_of_wp_marks Tryz.func198 rfl trivial ?_ rfl
  have hmm := @run_makeMap Tryz.prog
  simp only [Tryz.ntmps198, List.size_toArray, List.length_cons, List.length_nil, Nat.reduceAdd, Nat.reduceSub, Array.replicate_succ, Array.replicate_zero, List.push_toArray, List.append_toArray, List.nil_append, List.cons_append]
  gi_wp2_with (refine ⟨trivial, ?_⟩; gi_at_call 166; refine (nodes_in Fence.wide _ trivial rfl _ _ _ _ _).mono ?_; rintro e w' ⟨rfl, rfl⟩)
  clear hmm
  have hB0 : Below w.heap.size w ((((w.alloc (.cells #[.string t.nm, .bool t.vr, .slice oa t.ts.length cap] 25)).alloc (.map #[] 0)).alloc (.cells #[.map (some (w.heap.size + 1))] 258)).alloc (.cells #[.string t.nm, .bool t.vr, .slice oa t.ts.length cap] 25)) := by go_grown
  have hM0 : VbMem w ((((w.alloc (.cells #[.string t.nm, .bool t.vr, .slice oa t.ts.length cap] 25)).alloc (.map #[] 0)).alloc (.cells #[.map (some (w.heap.size + 1))] 258)).alloc (.cells #[.string t.nm, .bool t.vr, .slice oa t.ts.length cap] 25)) [] := by
    refine ⟨?_, (boxed_at _ _ _ _ (by simp)).alloc _, hB0⟩
    have h := HMap.made (enc := Value.bool) (w.alloc (.cells #[.string t.nm, .bool t.vr, .slice oa t.ts.length cap] 25))
    simp only [World.size_alloc] at h
    refine h.kept ?_
    rw [Below.heap_alloc _ _ _ (by simp), Below.heap_alloc _ _ _ (by simp)]
  refine wpIn_rangeFunc_ownH rfl (by omega) (gf := 222) (lb := #[.pointer (some ⟨w.heap.size + 1 + 1 + 1, 0, none⟩)]) rfl trivial (enters_of Tryz.func222 (by kernel_rfl) rfl)
    (nodes_stops Fence.wide rfl _ trivial trivial rfl (w.heap.size + 1 + 1 + 1) w.heap.size t _ _ (by simp) (by simp; omega) (cell_new_at _ _ _ _ _ (by simp)) (cell_new_at _ _ _ _ _ (by simp)) (cell_new_at _ _ _ _ _ (by simp)) (hs.carry hB0 (Nat.le_refl _)) hb)
    (fun h k => h.trans k) (Keep.put (by simp; omega)) (Below.refl _ _) (fun _ => rfl)
    (fun pre W => VbMem w W (vbRun [] (pre.map Nd.view)))
    (fun _ _ _ => False)
    (fun s A B row h hg hr => h.kept hg (fun r e => ⟨by have := (hr r e).1; simp at this; omega, (hr r e).2⟩))
    (fun _ _ _ _ _ hs _ _ => hs)
    hM0
    (fun x a' W => ∃ C, w.heap.size + 1 + 1 < C ∧ W.heap[C]? = some (.cells #[.string x.nm, .bool x.vr, .slice x.oa x.n x.cap] 25 (0, 0)) ∧
      a' = { tmps := #[tmv t (.slice oa t.ts.length cap), .pointer (some ⟨w.heap.size, 0, none⟩), .map none, .pointer (some ⟨w.heap.size + 1 + 1, 0, none⟩), undef, .pointer (some ⟨C, 0, none⟩), .map (some (w.heap.size + 1)), .agg #[.string t.nm, .bool t.vr, .slice oa t.ts.length cap], .func (.func 222) #[] #[.pointer (some ⟨w.heap.size + 1 + 1 + 1, 0, none⟩)], .int .i64 x.d, .agg #[.string x.nm, .bool x.vr, .slice x.oa x.n x.cap], undef, undef, undef, undef, undef, undef], defers := [] })
    (fun x a' s A B row ⟨b, h1, h2, h3⟩ hg hr => ⟨b, h1, held_kept h2 hg (fun r e => (hr r e).2), h3⟩) ?assign ?body ?done ?stop
  case assign =>
    rintro l pre x W K hM hK
    simp only [Nd.encs]
    simp only [Array.zip]
    gi_wp2
    exact hK _ _ ((KeepsOthers.alloc _ _).from _) ((Keep.refl _ _ _).alloc (by have := hM.bl.size; omega) _) (hM.kept (World.grownBy_alloc W _ none) (fun r e => by cases e)) ⟨W.heap.size, hM.mb.lt, World.alloc_heap_new W _, rfl⟩
  case body =>
    rintro l pre x a' W hl ⟨r, hr⟩ hM ⟨C, hC, hX, rfl⟩ hlt
    have b0 := cells_of hX 0
    have b1 := cells_of hX 1
    have b2 := cells_of hX 2
    simp only [List.getElem?_toArray, List.getElem?_cons_zero, List.getElem?_cons_succ] at b0 b1 b2
    have hxn := x.hnm
    have mc := hM.mb.cell
    have hml := vbRun_length [] (pre.map Nd.view)
    simp only [List.length_map, List.length_nil] at hml
    have hml2 : (vbRun [] (pre.map Nd.view)).length < maxLen := by unfold maxLen; omega
    have HKEY : Hid (keyOf Tryz.prog 9 (.string x.nm) = some (.string x.nm.data.toList)) := Lib.hid (WideMaps.keyOf_string_mk Tryz.underlying9 (by unfold maxLen; omega))
    obtain ⟨D, hown, hinv⟩ := hM.hm
    have HOWN := Lib.hid hown
    have HINV := Lib.hid hinv
    have HM := Lib.hid hM
    clear hM hX hr hown hinv hml
    cases hxv : x.vr
    · rw [hxv] at b1
      have HE := Lib.hid (show vbRun [] ((pre ++ [x]).map Nd.view) = vbRun [] (pre.map Nd.view) by rw [List.map_append, List.map_singleton, vbRun_append]; simp [vbRun, Nd.view, hxv])
      clear hxv
      gi_wp2_with fail
      refine ⟨KeepsFrom.refl _ _, Keep.refl _ _ _, ?_⟩
      show VbMem w W (vbRun [] ((pre ++ [x]).map Nd.view))
      rw [HE.out]
      exact HM.out
    · rw [hxv] at b1
      have HE := Lib.hid (show vbRun [] ((pre ++ [x]).map Nd.view) = putA (vbRun [] (pre.map Nd.view)) x.nm.data.toList true by rw [List.map_append, List.map_singleton, vbRun_append]; simp [vbRun, Nd.view, hxv])
      clear hxv
      gi_wp2_with (gi_at_mapUpdate; refine wpListIn_mapUpdate_in _ rfl (.tmp 13) (.tmp 15) _ 258 rfl 9 4 strKeyed Tryz.underlying258 imgR (w.heap.size + 1) (vbRun [] (pre.map Nd.view)).length D rfl HOWN.out hml2 (.string x.nm) (.bool true) (.string x.nm.data.toList) rfl rfl HKEY.out (.held (.bool true)) [] rfl ?_; intro V3 hown3 hturn3)
      have hm3 : HMap Value.bool V3 (w.heap.size + 1) (putA (vbRun [] (pre.map Nd.view)) x.nm.data.toList true) := HMap.store HINV.out hown3
      have HM3 := Lib.hid (HM.out.turned hturn3 hm3)
      have HT3 := Lib.hid hturn3
      clear hown3 hturn3 hm3
      gi_wp2
      have hz2 := HM.out.bl.size
      refine ⟨KeepsFrom.of_grownBy HT3.out.grown (fun r e => by cases e; simp <;> omega), Keep.turned HT3.out (by omega) hz2 (by simp <;> omega), ?_⟩
      show VbMem w V3 (vbRun [] ((pre ++ [x]).map Nd.view))
      rw [HE.out]
      exact HM3.out
  case done =>
    rintro D ys W hD hys hM hK
    have mc := hM.mb.cell
    rw [hys] at hM
    have HM := Lib.hid hM
    clear hys hM
    gi_wp2
    refine ⟨by simp, .inl ⟨_, _, rfl, run_takeDeferred hK, ?_⟩⟩
    exact ⟨_, results_tmp rfl _ _ _, ⟨_, rfl, by omega, HM.out.hm.kept (World.putObj_heap_other (by simp at hD; omega))⟩, HM.out.bl.trans (belowK_b (w := w) (Nat.le_refl _) W D _ _ (by simp at hD; omega) hK rfl rfl)⟩
  case stop =>
    rintro D c pre W _ _ h _
    exact h.elim

def hasVar (t : Tm) (k : Key) : Bool := (t.nodes 1).any fun v => v.2.2.1 && decide (v.2.1.data.toList = k)
theorem vbRun_nodes (t : Tm) (k : Key) : getA (vbRun [] (t.nodes 1)) k = cond (hasVar t k) (some true) none := vbRun_get _ _ _
/-- has t a variable that s lacks? -/
def extraV (s t : Tm) : Bool := (t.nodes 1).any fun v => v.2.2.1 && !hasVar s v.2.1.data.toList
theorem extraV_iff (s t : Tm) : extraV s t = true ↔ ∃ k, hasVar t k = true ∧ hasVar s k = false := by
  unfold extraV
  rw [List.any_eq_true]
  constructor
  · rintro ⟨v, hv, h⟩
    simp only [Bool.and_eq_true, Bool.not_eq_true'] at h
    exact ⟨v.2.1.data.toList, List.any_eq_true.2 ⟨v, hv, by simp [h.1]⟩, h.2⟩
  · rintro ⟨k, h1, h2⟩
    obtain ⟨v, hv, h⟩ := List.any_eq_true.1 h1
    simp only [Bool.and_eq_true, decide_eq_true_eq] at h
    exact ⟨v, hv, by rw [h.2, h2, h.1]; rfl⟩
theorem HMap.look0 {W : World} {mb : Nat} {l : List (Key × Bool)} (h : HMap Value.bool W mb l) (x : ByteArray) (hx : keyOf Tryz.prog 9 (.string x) = some (.string x.data.toList)) :
    (Instr.lookup 258 (.map (some mb)) (.string x) false).run Tryz.prog W = .ok (.bool ((getA l x.data.toList).getD false)) W := by
  obtain ⟨D, hown, hinv⟩ := h
  obtain ⟨v, ps, hrun, hv⟩ := hown.lookup strKeyed Tryz.underlying258 (Tryz.zeroValue4 W) (zd := .held (.bool false)) (zp := []) rfl (key := .string x) (kl := .string x.data.toList) hx
  rw [hrun]
  cases hg : getA l x.data.toList with
  | none =>
    rw [atKey_of_not_has (by rw [hinv.has]; exact decide_eq_false (getA_none.1 hg))] at hv
    simp only [imgR, Option.some.injEq, Prod.mk.injEq, DataW.held.injEq] at hv
    rw [hv.1]; rfl
  | some b =>
    rw [hinv.at_ _ _ hg] at hv
    simp only [imgR, Option.some.injEq, Prod.mk.injEq, DataW.held.injEq] at hv
    rw [hv.1]; rfl
theorem hasVar_look (t : Tm) (k : Key) : (getA (vbRun [] (t.nodes 1)) k).getD false = hasVar t k := by
  rw [vbRun_nodes]; cases hasVar t k <;> rfl
set_option maxRecDepth 100000 in
set_option maxHeartbeats 4000000 in
theorem hasExtra_any (s t : Tm) (vs vt : Value) (w : World) (hs : SlIs w.heap.size w s.ts vs) (ht : SlIs w.heap.size w t.ts vt) (hsb : s.bulk ≤ 1048576) (htb : t.bulk ≤ 1048576) :
    Calls Tryz.prog 147 #[.agg #[.string s.nm, .bool s.vr, vs, .string t.nm, .bool t.vr, vt]] w fun e w' => e = .returned (.bool (extraV s t)) ∧ Below w.heap.size w w' := by
  obtain ⟨os, cs, rfl, -⟩ := hs.form
  obtain ⟨ot, ct, rfl, -⟩ := ht.form
  have HS := Lib.hid hs
  have HT := Lib.hid ht
  clear hs ht
  have hA : Below w.heap.size w (w.alloc (.cells #[.string s.nm, .bool s.vr, .slice os s.ts.length cs, .string t.nm, .bool t.vr, .slice ot t.ts.length ct] 75)) := by go_grown
  have HV1 := Lib.hid (variables_any s (.slice os s.ts.length cs) _ (HS.out.carry hA hA.size) hsb)
  have HA := Lib.hid hA
  clear hA
  go_enter Tryz.func147, Tryz.ntmps147
  go_wp2_with fail
  refine HV1.out.mono ?_
  rintro e w1 ⟨⟨ms, rfl, hms, hm1⟩, hb1⟩
  have hBW := HA.out.trans (hb1.mono (by simp))
  have hz1 := hBW.size
  have c3 : w1.cell? ⟨w.heap.size, 3, none⟩ = some (.string t.nm) := (hb1.cell (p := ⟨w.heap.size, 3, none⟩) (by simp)).trans (cell_new_at _ _ _ _ _ (by simp))
  have c4 : w1.cell? ⟨w.heap.size, 4, none⟩ = some (.bool t.vr) := (hb1.cell (p := ⟨w.heap.size, 4, none⟩) (by simp)).trans (cell_new_at _ _ _ _ _ (by simp))
  have c5 : w1.cell? ⟨w.heap.size, 5, none⟩ = some (.slice ot t.ts.length ct) := (hb1.cell (p := ⟨w.heap.size, 5, none⟩) (by simp)).trans (cell_new_at _ _ _ _ _ (by simp))
  have HV2 := Lib.hid (variables_any t (.slice ot t.ts.length ct) w1 (HT.out.carry hBW hz1) htb)
  have HM1 := Lib.hid hm1
  have HB1 := Lib.hid hBW
  clear hm1 hb1 hBW HV1
  go_wp2_with fail
  refine HV2.out.mono ?_
  rintro e w2 ⟨⟨mt, rfl, hmt, hm2⟩, hb2⟩
  have HM1' := Lib.hid (HM1.out.kept (hb2.block ms HM1.out.lt))
  have HB2 := Lib.hid (HB1.out.trans (hb2.mono hz1))
  obtain ⟨D, hown, hinv⟩ := id hm2
  have HOWN := Lib.hid hown
  have HINV := Lib.hid hinv
  have HM2 := Lib.hid hm2
  have hmslt := HM1.out.lt
  clear hm2 hb2 hown hinv HV2
  go_wp2_with (at_range; refine wpList_range_own _ rfl _ 258 rfl 9 4 strKeyed Tryz.underlying258 imgR mt (vbRun [] (t.nodes 1)).length D rfl HOWN.out ?_; intro w0 hrg0 hg0 hs0)
  go_frame
  have hB0 : Below w2.heap.size w2 w0 := ⟨hg0.os, hg0.tape, hg0.output, hg0.size, fun k hk => hg0.block k hk (by simp)⟩
  have hms2 : ms < w2.heap.size := HM1'.out.lt
  have hmt2 : mt < w2.heap.size := HM2.out.lt
  have hmm : ms < mt := by omega
  generalize hr : w2.heap.size = r at hrg0 hs0 hms2 hmt2 hB0 ⊢
  go_loopw [4] (fun _ wr => ∃ (left : Lit → Bool) (cnt : Nat), Hid (wr.ranges Tryz.prog 9 imgR mt r (vbRun [] (t.nodes 1)).length D left cnt) ∧ Hid (∀ kl, left kl = true → Maps.has D kl = true) ∧ Hid (∀ k, hasVar t k = true → left (.string k) = false → hasVar s k = true) ∧ Hid (HMap Value.bool wr ms (vbRun [] (s.nodes 1))) ∧ Hid (Below w.heap.size w wr))
    (fun _ wr => wr.rangeLeft mt r)
  case atStart => exact ⟨_, _, Lib.hid hrg0, Lib.hid (fun kl h => h), Lib.hid (fun k h1 h2 => by
      rw [HINV.out.has] at h2
      have h3 := vbRun_nodes t k
      rw [h1] at h3
      exact absurd (getA_mem.2 ⟨true, h3⟩) (of_decide_eq_false h2)), Lib.hid (HM1'.out.kept (hB0.block ms hms2)), Lib.hid (HB2.out.trans (hB0.mono (by have := HB2.out.size; omega)))⟩
  case round =>
    obtain ⟨left, cnt, HRG, HSUB, HT2, HMS, HB⟩ := hrel
    go_wp2_with (first
      | (at_next; refine wpList_next_ranges _ rfl _ rfl 9 strKeyed imgR Value.string id (fun key kl hk => Maps.keyOf_string_inv Tryz.underlying9 hk) (fun v y _ => ⟨v, rfl⟩) mt r (vbRun [] (t.nodes 1)).length D left cnt rfl HRG.out ?_ ?_)
      | go_in)
    · intro _ hno
      have HX : Hid (extraV s t = false) := Lib.hid (by
        cases he : extraV s t with
        | false => rfl
        | true =>
          obtain ⟨k, h1, h2⟩ := (extraV_iff s t).1 he
          rw [HT2.out k h1 (hno _)] at h2; cases h2)
      clear hno
      go_wp2_with fail
      go_ret
      exact ⟨by rw [HX.out]; rfl, HB.out⟩
    · intro x c kl yd yp w1 cnt1 hkey hlx hR hat hrg1 hlt hg1 hs1 hen
      have hkl := key_of_str hkey
      have hmem : hasVar t x.data.toList = true := by
        have := HSUB.out kl hlx
        rw [hkl, HINV.out.has] at this
        obtain ⟨b, hb⟩ := getA_mem.1 (of_decide_eq_true this)
        rw [vbRun_nodes] at hb
        cases h : hasVar t x.data.toList with
        | true => rfl
        | false => rw [h] at hb; cases hb
      have hmap1 : HMap Value.bool w1 ms (vbRun [] (s.nodes 1)) := HMS.out.kept (hg1.block ms HMS.out.lt (by simp; omega))
      have hlook := hmap1.look0 x (by rw [← hkl]; exact hkey)
      rw [hasVar_look] at hlook
      have HM1 := Lib.hid hmap1
      have HRG1 := Lib.hid hrg1
      have HMEM := Lib.hid hmem
      have HB1 := Lib.hid (HB.out.trans (show Below w.heap.size _ w1 from ⟨hg1.os, hg1.tape, hg1.output, hg1.size, fun k hk => hg1.block k (by have := HB.out.size; omega) (by simp; have := HB2.out.size; omega)⟩))
      have hlef := HRG.out.left_eq
      have hrel1 := hrg1.left_eq
      have HKL := Lib.hid hkl
      clear hmap1 hrg1 hg1 hmem hkl hkey hlx hR hat
      cases hsv : hasVar s x.data.toList
      · rw [hsv] at hlook
        have HX : Hid (extraV s t = true) := Lib.hid ((extraV_iff s t).2 ⟨_, HMEM.out, hsv⟩)
        clear hsv
        go_wp2_with fail
        go_ret
        exact ⟨by rw [HX.out]; rfl, HB1.out⟩
      · rw [hsv] at hlook
        have HSV := Lib.hid hsv
        clear hsv
        go_wp2_with fail
        exact ⟨⟨_, cnt1, HRG1, Lib.hid (fun kl h => HSUB.out kl (by simp only [Bool.and_eq_true] at h; exact h.1)), Lib.hid (fun k hk hl => by
          by_cases e : left (.string k) = false
          · exact HT2.out k hk e
          · have e' : left (.string k) = true := by simpa using e
            rw [e', HKL.out] at hl
            have : k = x.data.toList := Classical.byContradiction fun hne => by
              have h4 := sameKey_ne (a := .string k) (b := .string x.data.toList) (by simpa using hne)
              rw [h4] at hl
              simp at hl
            rw [this]; exact HSV.out), HM1, HB1⟩, by omega⟩
end Go.Proofs.YtamddagmlanijaaGreat
/- CheckSystem: zero just where the system is valid. -/
namespace Go.Proofs.YtamddagmlanijaaGreat
open Go.RowKit Go.Shelf Go.Maps
attribute [local go_sem] Oper.semAt_some

/-- the systems that CheckSystem lets by -/
def SysOk (l : List RlV) : Prop := l.length ≤ 64 ∧ (∀ x ∈ sidesV l, x.1.ok) ∧ arRun [] (viewsV (sidesV l)) ≠ none ∧ ∀ p ∈ l, p.1.1.vr = false ∧ extraV p.1.1 p.2.1 = false
/-- the result's box -/
structure CsMem (w W : World) (c : Int) : Prop where
  rb : Boxed W w.heap.size 29 (.int .i64 c)
  bl : Below w.heap.size w W
theorem CsMem.kept {w W W' : World} {c : Int} {row : Option Nat} (h : CsMem w W c) (hg : W.grownBy W' row) (hr : ∀ r, row = some r → w.heap.size + 1 ≤ r ∧ ∃ o : Obj, W.heap[r]? = some o ∧ o.isCells = false) : CsMem w W' c :=
  ⟨held_kept h.rb hg fun r e => (hr r e).2, h.bl.grown hg h.bl.size fun r e => by have := (hr r e).1; omega⟩
theorem CsMem.below {w W W' : World} {c : Int} (h : CsMem w W c) (hb : Below W.heap.size W W') : CsMem w W' c :=
  h.kept (row := none) ⟨hb.os, hb.tape, hb.output, hb.size, fun i hi _ => hb.block i hi⟩ (fun r e => by cases e)
theorem CsMem.setR {w W : World} {c : Int} (h : CsMem w W c) (v : Int) : CsMem w (W.setCell ⟨w.heap.size, 0, none⟩ (.int .i64 v)) v :=
  ⟨h.rb.set _, h.bl.setCell (p := ⟨w.heap.size, 0, none⟩) (by simp) _⟩
theorem sidesV_mem {l : List RlV} {p : RlV} (h : p ∈ l) : p.1 ∈ sidesV l ∧ p.2 ∈ sidesV l := by
  induction l with
  | nil => cases h
  | cons q l ih =>
    rcases List.mem_cons.1 h with rfl | h
    · exact ⟨by simp [sidesV], by simp [sidesV]⟩
    · have := ih h
      exact ⟨by simp [sidesV, this.1], by simp [sidesV, this.2]⟩
set_option maxRecDepth 100000 in
set_option maxHeartbeats 4000000 in
theorem tcheckSystem_any (l : List RlV) (v : Value) (w : World) (hv : RulV w.heap.size w l v) (hl : l.length ≤ 1048576) (hb : ∀ x ∈ sidesV l, x.1.bulk ≤ 1048576) :
    Calls Tryz.prog 81 #[v] w fun e w' => (∃ c : Int, e = .returned (.int .i64 c) ∧ (c = 0 ↔ SysOk l)) ∧ Below w.heap.size w w' := by
  have hsh := hv.shape
  obtain ⟨oa, cap, rfl⟩ := hsh
  refine (callsIn_wide (n := 5)).1 ?_
  refine callsIn_of_wp_marks Tryz.func81 rfl trivial ?_ rfl
  simp only [Tryz.ntmps81, List.size_toArray, List.length_cons, List.length_nil, Nat.reduceAdd, Nat.reduceSub, Array.replicate_succ, Array.replicate_zero, List.push_toArray, List.append_toArray, List.nil_append, List.cons_append]
  by_cases hlim : 64 < l.length
  · have HV := Lib.hid hv
    have HBB := Lib.hid hb
    clear hv hb
    gi_wp2_with fail
    have hc0 : (w.alloc (.cells #[.int .i64 3] 29)).cell? ⟨w.heap.size, 0, none⟩ = some (.int .i64 3) := cell_new_at _ _ _ _ _ rfl
    refine ⟨.int .i64 3, ?_, ⟨3, rfl, fun h => absurd h (by decide), fun h => by have := h.1; omega⟩, by go_grown⟩
    simp [results, Tryz.f81, go_sem, hc0]
  have hB0 : Below w.heap.size w ((w.alloc (.cells #[.int .i64 0] 29)).alloc (.cells #[.slice oa l.length cap] 22)) := by go_grown
  have hM0 : CsMem w ((w.alloc (.cells #[.int .i64 0] 29)).alloc (.cells #[.slice oa l.length cap] 22)) 0 := ⟨(boxed_at _ _ _ _ (by simp)).alloc _, hB0⟩
  have hlz : decide ((64 : Int) < (l.length : Int)) = false := by simp; omega
  have HV := Lib.hid hv
  have HBB := Lib.hid hb
  clear hv hb
  gi_wp2_with (refine ⟨trivial, ?_⟩; gi_at_call 145; refine (sides_in Fence.wide _ trivial rfl _ ⟨_, _, _, rfl⟩ _).mono ?_; rintro e w' ⟨rfl, rfl⟩)
  have hsl := sidesV_length l
  refine wpIn_rangeFunc_ownH rfl (by omega) (gf := 206) (lb := #[.pointer (some ⟨w.heap.size + 1, 0, none⟩)]) rfl trivial (enters_of Tryz.func206 (by kernel_rfl) rfl)
    (sides_stops Fence.wide rfl _ trivial rfl (w.heap.size + 1) w.heap.size l _ _ (by simp) (by simp; omega) (cell_new_at _ _ _ _ _ (by simp)) (HV.out.carry hB0 (Nat.le_refl _)) hl)
    (fun h k => h.trans k) (Keep.put (by simp; omega)) (Below.refl _ _) (fun _ => rfl)
    (fun pre W => CsMem w W 0 ∧ ∀ x ∈ pre, x.1.1.ok)
    (fun c pre W => c = .ret ∧ (∃ x ∈ pre, ¬ x.1.1.ok) ∧ ∃ c : Int, c ≠ 0 ∧ CsMem w W c)
    (fun s A B row ⟨h1, h2⟩ hg hr => ⟨h1.kept hg (fun r e => ⟨by have := (hr r e).1; simp at this; omega, (hr r e).2⟩), h2⟩)
    (fun c s A B row ⟨h1, h2, m, h0, h⟩ hg hr => ⟨h1, h2, m, h0, h.kept hg (fun r e => ⟨by have := (hr r e).1; simp at this; omega, (hr r e).2⟩)⟩)
    ⟨hM0, by simp⟩
    (fun x a' W => ∃ B, w.heap.size < B ∧ W.heap[B]? = some (.cells #[.string x.1.1.nm, .bool x.1.1.vr, x.1.2] 25 (0, 0)) ∧
      a' = { tmps := #[.slice oa l.length cap, undef, .pointer (some ⟨w.heap.size, 0, none⟩), .pointer (some ⟨B, 0, none⟩), undef, undef, undef, undef, undef, .slice oa l.length cap, .int .i64 l.length, .bool false, .slice oa l.length cap, .func (.func 206) #[] #[.pointer (some ⟨w.heap.size + 1, 0, none⟩)], .agg #[.string x.1.1.nm, .bool x.1.1.vr, x.1.2], undef, undef, undef, undef, undef, undef, undef, undef, undef, undef, undef, undef, undef, undef, undef, undef, undef, undef, undef, undef, undef, undef, undef, undef, undef, undef], defers := [] })
    (fun x a' s A B row ⟨b, h1, h2, h3⟩ hg hr => ⟨b, h1, held_kept h2 hg (fun r e => (hr r e).2), h3⟩) ?assign ?body ?done ?stop
  case assign =>
    rintro lp pre ⟨⟨u, uv⟩, hxm⟩ W K ⟨hM, hp⟩ hK
    obtain ⟨ou, cu, e, -⟩ := (HV.out.mem hxm).form
    simp only at e
    subst e
    simp only [TmV.encs]
    simp only [Array.zip]
    gi_wp2
    refine hK _ _ ((KeepsOthers.alloc _ _).from _) ((Keep.refl _ _ _).alloc (by have := hM.bl.size; omega) _) ⟨hM.kept (World.grownBy_alloc W _ none) (fun r e => by cases e), hp⟩ ⟨W.heap.size, hM.rb.lt, World.alloc_heap_new W _, rfl⟩
  case body =>
    rintro lp pre x a' W hlp ⟨r, hr⟩ ⟨hM, hp⟩ ⟨B, hB, hX, rfl⟩ hlt
    have hxs := HV.out.mem x.2
    have hxb := HBB.out x.1 x.2
    obtain ⟨⟨u, uv⟩, hxm⟩ := x
    simp only at hxs hxb hX ⊢
    obtain ⟨ou, cu, rfl, -⟩ := hxs.form
    have b0 := cells_of hX 0
    have b1 := cells_of hX 1
    have b2 := cells_of hX 2
    simp only [List.getElem?_toArray, List.getElem?_cons_zero, List.getElem?_cons_succ] at b0 b1 b2
    have HM := Lib.hid hM
    have HS := Lib.hid (hxs.carry hM.bl hM.bl.size)
    have HP := Lib.hid hp
    clear hM hr hX hxs hp
    gi_wp2_with fail
    refine ⟨trivial, (CallsIn.inRound lp (callsIn_wide.2 (check_any u _ W HS.out hxb))).mono ?_⟩
    rintro e W2 ⟨⟨c, rfl, hc⟩, hb2⟩
    have HM2 := Lib.hid (HM.out.below hb2)
    have rc := HM2.out.rb.cell
    have rf := HM2.out.rb.frozen
    have HB2 := Lib.hid hb2
    by_cases h0 : c = 0
    · have HC := Lib.hid (hc.1 h0)
      subst h0
      clear hb2 hc
      gi_wp2_with fail
      refine ⟨KeepsFrom.of_below HB2.out, Keep.of_below HM.out.bl.size HB2.out, HM2.out, fun y hy => ?_⟩
      rcases List.mem_append.1 hy with h | h
      · exact HP.out y h
      · obtain rfl := List.mem_singleton.1 h
        exact HC.out
    · have h1 : (c != 0) = true := by simpa using h0
      have HC := Lib.hid (fun h => h0 (hc.2 h))
      clear hb2 hc
      gi_wp2_with fail
      exact ⟨(KeepsFrom.of_below HB2.out).trans ((KeepsOthers.setCell _ _ _).from _), rfl, ⟨⟨(u, .slice ou u.ts.length cu), hxm⟩, by simp, HC.out⟩, c, h0, HM2.out.setR c⟩
  case done =>
    rintro D ys W hD hys ⟨hM, hp⟩ hK
    have HOK : Hid (∀ x ∈ sidesV l, x.1.ok) := Lib.hid (fun x hx => by
      rw [← hys] at hx
      obtain ⟨z, hz, rfl⟩ := List.mem_map.1 hx
      exact hp z hz)
    have HM := Lib.hid hM
    have HK := Lib.hid hK
    have HAR := Lib.hid (arities_any l (.slice oa l.length cap) W (HV.out.carry hM.bl hM.bl.size) hl HBB.out)
    clear hys hM hp hK
    gi_wp2_with fail
    refine ⟨trivial, (callsIn_wide.2 HAR.out).mono ?_⟩
    rintro e W2 ⟨hpost, hb2⟩
    have HM2 := Lib.hid (HM.out.below hb2)
    have HK2 := Lib.hid ((hb2.block D (Array.getElem?_eq_some_iff.1 HK.out).1).trans HK.out)
    clear hb2 HAR
    cases har : arRun [] (viewsV (sidesV l)) with
    | none =>
      rw [har] at hpost
      obtain ⟨x, rfl⟩ := hpost.2 rfl
      have HN := Lib.hid har
      have rc := HM2.out.rb.cell
      have rf := HM2.out.rb.frozen
      clear har hpost
      gi_wp2_with fail
      have HKx := (KeepsOthers.setCell W2 ⟨w.heap.size, 0, none⟩ (.int .i64 6)).same D _ HK2.out rfl
      have HMx := HM2.out.setR 6
      refine ⟨by simp, .inl ⟨_, _, rfl, run_takeDeferred HKx, ?_⟩⟩
      have hc0 := cell_kept HMx.rb.cell (grownBy_putObj' _ D (.deferred none)) (fun r e => by cases e; exact ⟨_, HKx, rfl⟩)
      refine ⟨.int .i64 6, ?_, ⟨6, rfl, fun h => absurd h (by decide), fun h => absurd HN.out h.2.2.1⟩, HMx.bl.trans (belowK_b (w := w) (Nat.le_refl _) _ D _ _ (by simp at hD; omega) HKx rfl rfl)⟩
      simp [results, Tryz.f81, go_sem, hc0]
    | some m =>
      rw [har] at hpost
      obtain ⟨mb, rfl, -⟩ := hpost.1 m rfl
      have HN := Lib.hid (show arRun [] (viewsV (sidesV l)) ≠ none by rw [har]; simp)
      clear har hpost
      gi_wp2_with fail
      gi_loopw [29] (fun i wr => ∃ k : Nat, k ≤ l.length ∧ i = .int .i64 k ∧ Hid (∀ p ∈ l.take k, p.1.1.vr = false ∧ extraV p.1.1 p.2.1 = false) ∧ Hid (CsMem w wr 0) ∧ Hid (wr.heap[D]? = some (.deferred (some [])))) (fun i _ => l.length - (intOf i).toNat)
      case atStart => exact ⟨0, by omega, rfl, Lib.hid (by simp), HM2, HK2⟩
      case round =>
        obtain ⟨k, hk, rfl, HP, HM3, HK3⟩ := hrel
        have rc := HM3.out.rb.cell
        have rf := HM3.out.rb.frozen
        by_cases hlt : k < l.length
        · obtain ⟨b, o, x, y, ox, oy, cx, cy, rfl, hbn, hpk, hsx, hsy, c0, c1, c2, c3, c4, c5⟩ := (HV.out.carry HM3.out.bl (Nat.le_refl _)).get hlt
          have HPK := Lib.hid hpk
          have HTK : Hid (l.take (k + 1) = l.take k ++ [((x, .slice ox x.ts.length cx), (y, .slice oy y.ts.length cy))]) := Lib.hid (by rw [List.take_add_one, hpk]; rfl)
          have hpm := List.mem_of_getElem? hpk
          have HPM := Lib.hid hpm
          have hxb := HBB.out _ (sidesV_mem hpm).1
          have hyb := HBB.out _ (sidesV_mem hpm).2
          simp only at hxb hyb
          clear hpk hpm
          have hz := HM3.out.bl.size
          have HSX := Lib.hid hsx
          have HSY := Lib.hid hsy
          clear hsx hsy
          have hba : Below wr.heap.size wr (wr.alloc (.cells #[.string x.nm, .bool x.vr, .slice ox x.ts.length cx, .string y.nm, .bool y.vr, .slice oy y.ts.length cy] 75)) := by go_grown
          have hbx : Below w.heap.size wr (wr.alloc (.cells #[.string x.nm, .bool x.vr, .slice ox x.ts.length cx, .string y.nm, .bool y.vr, .slice oy y.ts.length cy] 75)) := hba.mono hz
          have hE := hasExtra_any x y _ _ _ (HSX.out.carry hbx (by simp; omega)) (HSY.out.carry hbx (by simp; omega)) hxb hyb
          have HM4 := Lib.hid (HM3.out.below hba)
          have HK4 := Lib.hid ((hba.block D (Array.getElem?_eq_some_iff.1 HK3.out).1).trans HK3.out)
          clear hba hbx
          cases hxv : x.vr
          · have HXV := Lib.hid hxv
            rw [hxv] at c1 hE HM4 HK4
            have HE := Lib.hid hE
            clear hxv hE
            gi_wp2_with fail
            refine ⟨trivial, (callsIn_wide.2 HE.out).mono ?_⟩
            rintro e W5 ⟨rfl, hb5⟩
            have HM5 := Lib.hid (HM4.out.below hb5)
            have HK5 := Lib.hid ((hb5.block D (Array.getElem?_eq_some_iff.1 HK4.out).1).trans HK4.out)
            clear rc rf hb5 HE
            have rc := HM5.out.rb.cell
            have rf := HM5.out.rb.frozen
            cases hex : extraV x y
            · have HEX := Lib.hid hex
              clear hex
              gi_wp2_with fail
              refine ⟨⟨k + 1, by omega, by go_num, Lib.hid (fun p hp => ?_), HM5, HK5⟩, by simp [intOf]; omega⟩
              rw [HTK.out, List.mem_append] at hp
              rcases hp with hp | hp
              · exact HP.out p hp
              · obtain rfl := List.mem_singleton.1 hp
                exact ⟨HXV.out, HEX.out⟩
            · have HEX := Lib.hid hex
              clear hex
              gi_wp2_with fail
              have HKx := (KeepsOthers.setCell W5 ⟨w.heap.size, 0, none⟩ (.int .i64 7)).same D _ HK5.out rfl
              have HMx := HM5.out.setR 7
              refine ⟨by simp, .inl ⟨_, _, rfl, run_takeDeferred HKx, ?_⟩⟩
              have hc0 := cell_kept HMx.rb.cell (grownBy_putObj' _ D (.deferred none)) (fun r e => by cases e; exact ⟨_, HKx, rfl⟩)
              refine ⟨.int .i64 7, ?_, ⟨7, rfl, fun h => absurd h (by decide), fun h => by have := (h.2.2.2 _ HPM.out).2; rw [HEX.out] at this; cases this⟩, HMx.bl.trans (belowK_b (w := w) (Nat.le_refl _) _ D _ _ (by simp at hD; omega) HKx rfl rfl)⟩
              simp [results, Tryz.f81, go_sem, hc0]
          · have HXV := Lib.hid hxv
            rw [hxv] at c1 HM4 HK4
            clear hxv hE rc rf
            have rc := HM4.out.rb.cell
            have rf := HM4.out.rb.frozen
            gi_wp2_with fail
            refine ⟨trivial, ?_⟩
            gi_wp2_with fail
            have HKx := (KeepsOthers.setCell _ ⟨w.heap.size, 0, none⟩ (.int .i64 7)).same D _ HK4.out rfl
            have HMx := HM4.out.setR 7
            refine ⟨by simp, .inl ⟨_, _, rfl, run_takeDeferred HKx, ?_⟩⟩
            have hc0 := cell_kept HMx.rb.cell (grownBy_putObj' _ D (.deferred none)) (fun r e => by cases e; exact ⟨_, HKx, rfl⟩)
            refine ⟨.int .i64 7, ?_, ⟨7, rfl, fun h => absurd h (by decide), fun h => by have := (h.2.2.2 _ HPM.out).1; rw [HXV.out] at this; cases this⟩, HMx.bl.trans (belowK_b (w := w) (Nat.le_refl _) _ D _ _ (by simp at hD; omega) HKx rfl rfl)⟩
            simp [results, Tryz.f81, go_sem, hc0]
        · obtain rfl : k = l.length := by omega
          have HPL : Hid (∀ p ∈ l, p.1.1.vr = false ∧ extraV p.1.1 p.2.1 = false) := Lib.hid (fun p hp => HP.out p (by rw [List.take_length]; exact hp))
          gi_wp2_with fail
          have HKx := (KeepsOthers.setCell wr ⟨w.heap.size, 0, none⟩ (.int .i64 0)).same D _ HK3.out rfl
          have HMx := HM3.out.setR 0
          refine ⟨by simp, .inl ⟨_, _, rfl, run_takeDeferred HKx, ?_⟩⟩
          have hc0 := cell_kept HMx.rb.cell (grownBy_putObj' _ D (.deferred none)) (fun r e => by cases e; exact ⟨_, HKx, rfl⟩)
          refine ⟨.int .i64 0, ?_, ⟨0, rfl, fun _ => ⟨by omega, HOK.out, HN.out, HPL.out⟩, fun _ => rfl⟩, HMx.bl.trans (belowK_b (w := w) (Nat.le_refl _) _ D _ _ (by simp at hD; omega) HKx rfl rfl)⟩
          simp [results, Tryz.f81, go_sem, hc0]
  case stop =>
    rintro D c pre W hD hpre ⟨rfl, ⟨x, hx, hno⟩, c, hc, hM⟩ hK
    have HNO : Hid (¬ SysOk l) := Lib.hid (fun h => hno (h.2.1 x.1 x.2))
    have HM := Lib.hid hM
    clear hM hpre hx hno
    gi_wp2
    refine ⟨by simp, .inl ⟨_, _, rfl, run_takeDeferred hK, ?_⟩⟩
    have hc0 := cell_kept HM.out.rb.cell (grownBy_putObj' _ D (.deferred none)) (fun r e => by cases e; exact ⟨_, hK, rfl⟩)
    refine ⟨.int .i64 c, ?_, ⟨c, rfl, fun h => absurd h hc, fun h => absurd h HNO.out⟩, HM.out.bl.trans (belowK_b (w := w) (Nat.le_refl _) _ D _ _ (by simp at hD; omega) hK rfl rfl)⟩
    simp [results, Tryz.f81, go_sem, hc0]
end Go.Proofs.YtamddagmlanijaaGreat
