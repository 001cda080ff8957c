/- Packed: Csy, ShelfI, Itr, Tvr, Mya. -/
import Derived.Test.YtamddagmlanijaaGreatC05
import Derived.Test.YtamddagmlanijaaGreatC13
import Derived.Maps.OwnIn
import Derived.WalkKit
import Derived.ProofKit
import Derived.OpenShut
import Derived.Handy
import Derived.Lib.Hide
import Derived.Maps.RangeWalk
import Derived.Sort.MapsRangeIn
import Derived.Shelf.SlIter.Nil
import Derived.Shelf.SortM.Plain
import Derived.Shelf.SortM.SortNone
import Derived.Ground.GgzProg
import Derived.Ground.SlgmProg
import Derived.Test.YtamddagmlanijaaGreatProg
import Derived.Deep.RegionHeld3
import Derived.Laws.IdiomCopy
/- Merged: Ars, Rng, Vbl, Csy. -/
/- arities(r): the map of the arities of the function symbols. -/
namespace Go.Proofs.YtamddagmlanijaaGreat
open Go.RowKit Go.Shelf Go.Maps
attribute [local go_sem] Oper.semAt_some

abbrev encN (n : Nat) : Value := .int .i64 n
theorem putA_length_le {α : Type} (l : List (Key × α)) (k : Key) (v : α) : (putA l k v).length ≤ l.length + 1 := by
  have h1 : (putA l k v).length = ((putA l k v).map (·.1)).length := by rw [List.length_map]
  rw [h1, putA_keys]
  unfold addKey
  split <;> simp
/-- the variables of arities, as they lie -/
structure ArMem (w W : World) (ok : Bool) (m : List (Key × Nat)) : Prop where
  rb : Boxed W w.heap.size 127 (.map none)
  ob : Boxed W (w.heap.size + 1) 4 (.bool ok)
  hm : HMap encN W (w.heap.size + 1 + 1) m
  mb : Boxed W (w.heap.size + 1 + 1 + 1) 127 (.map (some (w.heap.size + 1 + 1)))
  bl : Below w.heap.size w W
theorem ArMem.kept {w W W' : World} {ok : Bool} {m : List (Key × Nat)} {row : Option Nat} (h : ArMem w W ok m) (hg : W.grownBy W' row) (hr : ∀ r, row = some r → w.heap.size + 1 + 1 + 1 ≤ r ∧ ∃ o : Obj, W.heap[r]? = some o ∧ o.isCells = false) : ArMem w W' ok m :=
  ⟨held_kept h.rb hg fun r e => (hr r e).2, held_kept h.ob hg fun r e => (hr r e).2, h.hm.kept (hg.block _ h.hm.lt (fun e => by have := (hr _ e.symm).1; omega)), held_kept h.mb hg fun r e => (hr r e).2,
    h.bl.grown hg h.bl.size fun r e => by have := (hr r e).1; omega⟩
theorem ArMem.below {w W W' : World} {ok : Bool} {m : List (Key × Nat)} (h : ArMem w W ok m) (hb : Below W.heap.size W W') : ArMem w W' ok m :=
  h.kept (row := none) ⟨hb.os, hb.tape, hb.output, hb.size, fun i hi _ => hb.block i hi⟩ (fun r e => by cases e)
theorem turned_cell' {w w3 : World} {bq b : Nat} (h : w.mapTurned w3 bq) (hb : b < w.heap.size) (hne : b ≠ bq) : w3.heap[b]? = w.heap[b]? := h.grown.block b hb (fun e => hne (by injection e))
/-- a store into the map -/
theorem ArMem.turned {w W W' : World} {ok : Bool} {m m' : List (Key × Nat)} (h : ArMem w W ok m) (ht : W.mapTurned W' (w.heap.size + 1 + 1)) (hm : HMap encN W' (w.heap.size + 1 + 1) m') : ArMem w W' ok m' :=
  ⟨(turned_cell' ht h.rb.lt (by omega)).trans h.rb, (turned_cell' ht h.ob.lt (by omega)).trans h.ob, hm, (turned_cell' ht h.mb.lt (by omega)).trans h.mb,
    h.bl.grown ht.grown h.bl.size fun r e => by cases e; omega⟩
theorem Keep.turned {n₀ m₀ b : Nat} {A B : World} (h : A.mapTurned B b) (hn : n₀ ≤ b) (hnA : n₀ ≤ A.heap.size) (hb : b < m₀) : Keep n₀ m₀ A B :=
  ⟨(Below.refl n₀ A).grown h.grown hnA (fun r e => by cases e; exact hn), fun k hk o ho _ => (h.grown.block k (Array.getElem?_eq_some_iff.1 ho).1 (fun e => by injection e with e; omega)).trans ho⟩
theorem Keep.grown {n₀ m₀ : Nat} {A B C : World} {row : Option Nat} (h : Keep n₀ m₀ A B) (hn : n₀ ≤ B.heap.size) (hg : B.grownBy C row) (hr : ∀ r, row = some r → n₀ ≤ r ∧ ∃ o : Obj, B.heap[r]? = some o ∧ o.isCells = false) : Keep n₀ m₀ A C :=
  ⟨h.below.grown hg hn (fun r e => (hr r e).1), fun k hk o ho hc => held_any (h.cells k hk o ho hc) hc hg fun r e => (hr r e).2⟩
where
  held_any {W W' : World} {row : Option Nat} {B : Nat} {o : Obj} (h : W.heap[B]? = some o) (hc : o.isCells = true) (hg : W.grownBy W' row) (hr : ∀ r, row = some r → ∃ o : Obj, W.heap[r]? = some o ∧ o.isCells = false) : W'.heap[B]? = some o :=
    (hg.block B (Array.getElem?_eq_some_iff.1 h).1 (fun e => by obtain ⟨o', ho, hc'⟩ := hr B e.symm; rw [h] at ho; cases ho; rw [hc] at hc'; cases hc')).trans h

section
variable {α : Type} {enc : α → Value} (w : World) {ops : Array Oper} {rest : List Oper} {o : Oper} {a : Act} {Q : Exit → Act → World → Prop} {F : Fence} {nF : Nat}
end
end Go.Proofs.YtamddagmlanijaaGreat
/- Ranging over maps: small facts. -/
namespace Go.Proofs.YtamddagmlanijaaGreat
open Go.RowKit Go.Maps

section
variable {H : Type} {w w' : World} {P : Program} {k : TypeId} {R : Value → Option (DataW H × List MemPlace)} {b r n : Nat} {D : DataW H} {left : Lit → Bool} {cnt : Nat}
end
end Go.Proofs.YtamddagmlanijaaGreat
/- variables(t): the set of the variables of a term. hasExtra: has the right side of a rule a variable that the left side lacks? -/
namespace Go.Proofs.YtamddagmlanijaaGreat
open Go.RowKit Go.Shelf Go.Maps
attribute [local go_sem] Oper.semAt_some

/-- the set of the variables, as it grows -/
def vbRun : List (Key × Bool) → List View → List (Key × Bool)
  | m, [] => m
  | m, v :: l => vbRun (if v.2.2.1 then putA m v.2.1.data.toList true else m) l
theorem vbRun_append (m : List (Key × Bool)) (l r : List View) : vbRun m (l ++ r) = vbRun (vbRun m l) r := by
  induction l generalizing m with
  | nil => rfl
  | cons v l ih => simp only [List.cons_append, vbRun, ih]
theorem vbRun_length (m : List (Key × Bool)) (l : List View) : (vbRun m l).length ≤ m.length + l.length := by
  induction l generalizing m with
  | nil => simp [vbRun]
  | cons v l ih =>
    simp only [vbRun, List.length_cons]
    have h1 := ih (if v.2.2.1 then putA m v.2.1.data.toList true else m)
    have h2 := putA_length_le m v.2.1.data.toList true
    by_cases h : v.2.2.1 = true
    · simp only [h, if_true] at h1 ⊢; omega
    · simp only [h] at h1 ⊢; simp at h1 ⊢; omega
/-- the variables of the walk, as they lie -/
structure VbMem (w W : World) (m : List (Key × Bool)) : Prop where
  hm : HMap Value.bool W (w.heap.size + 1) m
  mb : Boxed W (w.heap.size + 1 + 1) 258 (.map (some (w.heap.size + 1)))
  bl : Below w.heap.size w W
theorem VbMem.kept {w W W' : World} {m : List (Key × Bool)} {row : Option Nat} (h : VbMem w W m) (hg : W.grownBy W' row) (hr : ∀ r, row = some r → w.heap.size + 1 + 1 ≤ r ∧ ∃ o : Obj, W.heap[r]? = some o ∧ o.isCells = false) : VbMem w W' m :=
  ⟨h.hm.kept (hg.block _ h.hm.lt (fun e => by have := (hr _ e.symm).1; omega)), held_kept h.mb hg fun r e => (hr r e).2,
    h.bl.grown hg h.bl.size fun r e => by have := (hr r e).1; omega⟩
theorem VbMem.turned {w W W' : World} {m m' : List (Key × Bool)} (h : VbMem w W m) (ht : W.mapTurned W' (w.heap.size + 1)) (hm : HMap Value.bool W' (w.heap.size + 1) m') : VbMem w W' m' :=
  ⟨hm, (turned_cell' ht h.mb.lt (by omega)).trans h.mb, h.bl.grown ht.grown h.bl.size fun r e => by cases e; omega⟩

set_option maxRecDepth 100000 in
set_option maxHeartbeats 4000000 in
theorem variables_any (t : Tm) (s : Value) (w : World) (hs : SlIs w.heap.size w t.ts s) (hb : t.bulk ≤ 1048576) :
    Calls Tryz.prog 198 #[tmv t s] w fun e w' => (∃ mb, e = .returned (.map (some mb)) ∧ w.heap.size ≤ mb ∧ HMap Value.bool w' mb (vbRun [] (t.nodes 1))) ∧ Below w.heap.size w w' := by
  obtain ⟨oa, cap, rfl, -⟩ := hs.form
  have hsz := Tm.size_bulk t
  refine (callsIn_wide (n := 3)).1 ?_
  refine callsIn_of_wp_marks Tryz.func198 rfl trivial ?_ rfl
  have hmm := @run_makeMap Tryz.prog
  simp only [Tryz.ntmps198, List.size_toArray, List.length_cons, List.length_nil, Nat.reduceAdd, Nat.reduceSub, Array.replicate_succ, Array.replicate_zero, List.push_toArray, List.append_toArray, List.nil_append, List.cons_append]
  gi_wp2_with (refine ⟨trivial, ?_⟩; gi_at_call 166; refine (nodes_in Fence.wide _ trivial rfl _ _ _ _ _).mono ?_; rintro e w' ⟨rfl, rfl⟩)
  clear hmm
  have hB0 : Below w.heap.size w ((((w.alloc (.cells #[.string t.nm, .bool t.vr, .slice oa t.ts.length cap] 25)).alloc (.map #[] 0)).alloc (.cells #[.map (some (w.heap.size + 1))] 258)).alloc (.cells #[.string t.nm, .bool t.vr, .slice oa t.ts.length cap] 25)) := by go_grown
  have hM0 : VbMem w ((((w.alloc (.cells #[.string t.nm, .bool t.vr, .slice oa t.ts.length cap] 25)).alloc (.map #[] 0)).alloc (.cells #[.map (some (w.heap.size + 1))] 258)).alloc (.cells #[.string t.nm, .bool t.vr, .slice oa t.ts.length cap] 25)) [] := by
    refine ⟨?_, (boxed_at _ _ _ _ (by simp)).alloc _, hB0⟩
    have h := HMap.made (enc := Value.bool) (w.alloc (.cells #[.string t.nm, .bool t.vr, .slice oa t.ts.length cap] 25))
    simp only [World.size_alloc] at h
    refine h.kept ?_
    rw [Below.heap_alloc _ _ _ (by simp), Below.heap_alloc _ _ _ (by simp)]
  refine wpIn_rangeFunc_ownH rfl (by omega) (gf := 222) (lb := #[.pointer (some ⟨w.heap.size + 1 + 1 + 1, 0, none⟩)]) rfl trivial (enters_of Tryz.func222 (by kernel_rfl) rfl)
    (nodes_stops Fence.wide rfl _ trivial trivial rfl (w.heap.size + 1 + 1 + 1) w.heap.size t _ _ (by simp) (by simp; omega) (cell_new_at _ _ _ _ _ (by simp)) (cell_new_at _ _ _ _ _ (by simp)) (cell_new_at _ _ _ _ _ (by simp)) (hs.carry hB0 (Nat.le_refl _)) hb)
    (fun h k => h.trans k) (Keep.put (by simp; omega)) (Below.refl _ _) (fun _ => rfl)
    (fun pre W => VbMem w W (vbRun [] (pre.map Nd.view)))
    (fun _ _ _ => False)
    (fun s A B row h hg hr => h.kept hg (fun r e => ⟨by have := (hr r e).1; simp at this; omega, (hr r e).2⟩))
    (fun _ _ _ _ _ hs _ _ => hs)
    hM0
    (fun x a' W => ∃ C, w.heap.size + 1 + 1 < C ∧ W.heap[C]? = some (.cells #[.string x.nm, .bool x.vr, .slice x.oa x.n x.cap] 25 (0, 0)) ∧
      a' = { tmps := #[tmv t (.slice oa t.ts.length cap), .pointer (some ⟨w.heap.size, 0, none⟩), .map none, .pointer (some ⟨w.heap.size + 1 + 1, 0, none⟩), undef, .pointer (some ⟨C, 0, none⟩), .map (some (w.heap.size + 1)), .agg #[.string t.nm, .bool t.vr, .slice oa t.ts.length cap], .func (.func 222) #[] #[.pointer (some ⟨w.heap.size + 1 + 1 + 1, 0, none⟩)], .int .i64 x.d, .agg #[.string x.nm, .bool x.vr, .slice x.oa x.n x.cap], undef, undef, undef, undef, undef, undef], defers := [] })
    (fun x a' s A B row ⟨b, h1, h2, h3⟩ hg hr => ⟨b, h1, held_kept h2 hg (fun r e => (hr r e).2), h3⟩) ?assign ?body ?done ?stop
  case assign =>
    rintro l pre x W K hM hK
    simp only [Nd.encs]
    simp only [Array.zip]
    gi_wp2
    exact hK _ _ ((KeepsOthers.alloc _ _).from _) ((Keep.refl _ _ _).alloc (by have := hM.bl.size; omega) _) (hM.kept (World.grownBy_alloc W _ none) (fun r e => by cases e)) ⟨W.heap.size, hM.mb.lt, World.alloc_heap_new W _, rfl⟩
  case body =>
    rintro l pre x a' W hl ⟨r, hr⟩ hM ⟨C, hC, hX, rfl⟩ hlt
    have b0 := cells_of hX 0
    have b1 := cells_of hX 1
    have b2 := cells_of hX 2
    simp only [List.getElem?_toArray, List.getElem?_cons_zero, List.getElem?_cons_succ] at b0 b1 b2
    have hxn := x.hnm
    have mc := hM.mb.cell
    have hml := vbRun_length [] (pre.map Nd.view)
    simp only [List.length_map, List.length_nil] at hml
    have hml2 : (vbRun [] (pre.map Nd.view)).length < maxLen := by unfold maxLen; omega
    have HKEY : Hid (keyOf Tryz.prog 9 (.string x.nm) = some (.string x.nm.data.toList)) := Lib.hid (WideMaps.keyOf_string_mk Tryz.underlying9 (by unfold maxLen; omega))
    obtain ⟨D, hown, hinv⟩ := hM.hm
    have HOWN := Lib.hid hown
    have HINV := Lib.hid hinv
    have HM := Lib.hid hM
    clear hM hX hr hown hinv hml
    cases hxv : x.vr
    · rw [hxv] at b1
      have HE := Lib.hid (show vbRun [] ((pre ++ [x]).map Nd.view) = vbRun [] (pre.map Nd.view) by rw [List.map_append, List.map_singleton, vbRun_append]; simp [vbRun, Nd.view, hxv])
      clear hxv
      gi_wp2_with fail
      refine ⟨KeepsFrom.refl _ _, Keep.refl _ _ _, ?_⟩
      show VbMem w W (vbRun [] ((pre ++ [x]).map Nd.view))
      rw [HE.out]
      exact HM.out
    · rw [hxv] at b1
      have HE := Lib.hid (show vbRun [] ((pre ++ [x]).map Nd.view) = putA (vbRun [] (pre.map Nd.view)) x.nm.data.toList true by rw [List.map_append, List.map_singleton, vbRun_append]; simp [vbRun, Nd.view, hxv])
      clear hxv
      gi_wp2_with (gi_at_mapUpdate; refine wpListIn_mapUpdate_in _ rfl (.tmp 13) (.tmp 15) _ 258 rfl 9 4 strKeyed Tryz.underlying258 imgR (w.heap.size + 1) (vbRun [] (pre.map Nd.view)).length D rfl HOWN.out hml2 (.string x.nm) (.bool true) (.string x.nm.data.toList) rfl rfl HKEY.out (.held (.bool true)) [] rfl ?_; intro V3 hown3 hturn3)
      have hm3 : HMap Value.bool V3 (w.heap.size + 1) (putA (vbRun [] (pre.map Nd.view)) x.nm.data.toList true) := HMap.store HINV.out hown3
      have HM3 := Lib.hid (HM.out.turned hturn3 hm3)
      have HT3 := Lib.hid hturn3
      clear hown3 hturn3 hm3
      gi_wp2
      have hz2 := HM.out.bl.size
      refine ⟨KeepsFrom.of_grownBy HT3.out.grown (fun r e => by cases e; simp <;> omega), Keep.turned HT3.out (by omega) hz2 (by simp <;> omega), ?_⟩
      show VbMem w V3 (vbRun [] ((pre ++ [x]).map Nd.view))
      rw [HE.out]
      exact HM3.out
  case done =>
    rintro D ys W hD hys hM hK
    have mc := hM.mb.cell
    rw [hys] at hM
    have HM := Lib.hid hM
    clear hys hM
    gi_wp2
    refine ⟨by simp, .inl ⟨_, _, rfl, run_takeDeferred hK, ?_⟩⟩
    exact ⟨_, results_tmp rfl _ _ _, ⟨_, rfl, by omega, HM.out.hm.kept (World.putObj_heap_other (by simp at hD; omega))⟩, HM.out.bl.trans (belowK_b (w := w) (Nat.le_refl _) W D _ _ (by simp at hD; omega) hK rfl rfl)⟩
  case stop =>
    rintro D c pre W _ _ h _
    exact h.elim

end Go.Proofs.YtamddagmlanijaaGreat
/- CheckSystem: zero just where the system is valid. -/
namespace Go.Proofs.YtamddagmlanijaaGreat
open Go.RowKit Go.Shelf Go.Maps
attribute [local go_sem] Oper.semAt_some

/-- the result's box -/
structure CsMem (w W : World) (c : Int) : Prop where
  rb : Boxed W w.heap.size 29 (.int .i64 c)
  bl : Below w.heap.size w W
theorem CsMem.kept {w W W' : World} {c : Int} {row : Option Nat} (h : CsMem w W c) (hg : W.grownBy W' row) (hr : ∀ r, row = some r → w.heap.size + 1 ≤ r ∧ ∃ o : Obj, W.heap[r]? = some o ∧ o.isCells = false) : CsMem w W' c :=
  ⟨held_kept h.rb hg fun r e => (hr r e).2, h.bl.grown hg h.bl.size fun r e => by have := (hr r e).1; omega⟩
theorem CsMem.below {w W W' : World} {c : Int} (h : CsMem w W c) (hb : Below W.heap.size W W') : CsMem w W' c :=
  h.kept (row := none) ⟨hb.os, hb.tape, hb.output, hb.size, fun i hi _ => hb.block i hi⟩ (fun r e => by cases e)
theorem CsMem.setR {w W : World} {c : Int} (h : CsMem w W c) (v : Int) : CsMem w (W.setCell ⟨w.heap.size, 0, none⟩ (.int .i64 v)) v :=
  ⟨h.rb.set _, h.bl.setCell (p := ⟨w.heap.size, 0, none⟩) (by simp) _⟩
end Go.Proofs.YtamddagmlanijaaGreat
/-
  DERIVED: THE SHELF's CONTRACTS AT THIS DUMP, IN PLAIN WORDS (tools/lay-plain.mjs out of 'TryzIter.lean', which tools/lay-shelf.mjs wrote): THE SAME DECLARATIONS UNDER THE SAME NAMES: 'import', 'namespace', 'open', 'def', 'theorem' AND NOTHING ELSE: no command of the shelf's: FOR A HAND-IN. Each laying: the table of numbers ('.._ren') and one theorem, a field a fact of the dump's own or the kernel's comparison; each contract: ONE APPLICATION.
-/
namespace Go.Proofs
open Go.RowKit Go.Maps Go.Sort Go.Shelf
def Tryz.keys197_ren : Go.Shelf.Ren := ⟨fun | 7 => 197 | 10 => 254 | n => n, fun | 23 => 258 | 26 => 9 | 3 => 4 | 28 => 256 | 0 => 0 | 27 => 255 | 33 => 187 | 4 => 4 | n => n, fun | n => n⟩
theorem Tryz.keys197 : Go.Proofs.SlLaysZ.n7 Tryz.prog Tryz.keys197_ren := {
  mixed := by kernel_rfl
  f7 := ⟨Tryz.f197.name, by decide, Tryz.func197.trans (congrArg some (by kernel_rfl))⟩
  f10 := ⟨Tryz.f254.name, by decide, Tryz.func254.trans (congrArg some (by kernel_rfl))⟩
  t0 := Tryz.underlying0
  a0 := Tryz.isAgg0
  z0 := Tryz.sizeOf0
  v0 := Tryz.zeroValue0
  t4 := Tryz.underlying4
  a4 := Tryz.isAgg4
  z4 := Tryz.sizeOf4
  v4 := Tryz.zeroValue4
  t23 := Tryz.underlying258
  a23 := Tryz.isAgg258
  z23 := Tryz.sizeOf258
  v23 := Tryz.zeroValue258
  t26 := Tryz.underlying9
  a26 := Tryz.isAgg9
  z26 := Tryz.sizeOf9
  v26 := Tryz.zeroValue9
  t27 := Tryz.underlying255
  a27 := Tryz.isAgg255
  z27 := Tryz.sizeOf255
  v27 := Tryz.zeroValue255
  t28 := Tryz.underlying256
  a28 := Tryz.isAgg256
  z28 := Tryz.sizeOf256
  v28 := Tryz.zeroValue256
  t33 := Tryz.underlying187
  a33 := Tryz.isAgg187
  z33 := Tryz.sizeOf187
  v33 := Tryz.zeroValue187 }
def Tryz.sorted196_ren : Go.Shelf.Ren := ⟨fun | 6 => 196 | 8 => 252 | 9 => 253 | 11 => 277 | 13 => 173 | 12 => 278 | 23 => 236 | 24 => 237 | 14 => 287 | 15 => 288 | 16 => 289 | 17 => 290 | 18 => 291 | 19 => 292 | 20 => 293 | 21 => 294 | 22 => 295 | 25 => 296 | 26 => 269 | 27 => 270 | 28 => 297 | 29 => 298 | 30 => 299 | 31 => 300 | n => n, fun | 26 => 9 | 28 => 256 | 24 => 51 | 0 => 0 | 3 => 3 | 37 => 236 | 48 => 296 | 50 => 47 | 4 => 4 | 40 => 290 | 39 => 289 | 45 => 202 | 5 => 5 | 9 => 9 | 51 => 315 | 55 => 319 | 57 => 334 | 58 => 136 | 33 => 187 | n => n, fun | n => n⟩
theorem Tryz.sorted196 : Go.Proofs.SlLaysZ.n6 Tryz.prog Tryz.sorted196_ren := {
  mixed := by kernel_rfl
  f6 := ⟨Tryz.f196.name, by decide, Tryz.func196.trans (congrArg some (by kernel_rfl))⟩
  f8 := ⟨Tryz.f252.name, by decide, Tryz.func252.trans (congrArg some (by kernel_rfl))⟩
  f11 := ⟨Tryz.f277.name, by decide, Tryz.func277.trans (congrArg some (by kernel_rfl))⟩
  t0 := Tryz.underlying0
  a0 := Tryz.isAgg0
  z0 := Tryz.sizeOf0
  v0 := Tryz.zeroValue0
  t24 := Tryz.underlying51
  a24 := Tryz.isAgg51
  z24 := Tryz.sizeOf51
  v24 := Tryz.zeroValue51
  t26 := Tryz.underlying9
  a26 := Tryz.isAgg9
  z26 := Tryz.sizeOf9
  v26 := Tryz.zeroValue9
  t28 := Tryz.underlying256
  a28 := Tryz.isAgg256
  z28 := Tryz.sizeOf256
  v28 := Tryz.zeroValue256
  i26 := by kernel_rfl }
def Tryz.sort253_ren : Go.Shelf.Ren := ⟨fun | 6 => 253 | 8 => 173 | 9 => 278 | 19 => 236 | 20 => 237 | 21 => 287 | 22 => 288 | 23 => 289 | 24 => 290 | 25 => 291 | 26 => 292 | 27 => 293 | 28 => 294 | 29 => 295 | 36 => 296 | 31 => 269 | 32 => 270 | 37 => 297 | 38 => 298 | 39 => 299 | 41 => 300 | n => n, fun | 27 => 51 | 29 => 9 | 3 => 3 | 32 => 236 | 26 => 51 | 0 => 0 | 44 => 296 | 46 => 47 | 4 => 4 | 36 => 290 | 35 => 289 | 41 => 202 | 5 => 5 | 9 => 9 | 53 => 315 | 57 => 319 | 63 => 334 | 64 => 136 | n => n, fun | n => n⟩
theorem Tryz.sort253 : Go.Proofs.SlLaysM.n6 Tryz.prog Tryz.sort253_ren := {
  mixed := by kernel_rfl
  f6 := ⟨Tryz.f253.name, by decide, Tryz.func253.trans (congrArg some (by kernel_rfl))⟩
  f8 := Tryz.func173.trans (congrArg some (by kernel_rfl))
  f9 := ⟨Tryz.f278.name, by decide, Tryz.func278.trans (congrArg some (by kernel_rfl))⟩
  f19 := Tryz.func236.trans (congrArg some (by kernel_rfl))
  f20 := Tryz.func237.trans (congrArg some (by kernel_rfl))
  f21 := ⟨Tryz.f287.name, by decide, Tryz.func287.trans (congrArg some (by kernel_rfl))⟩
  f22 := ⟨Tryz.f288.name, by decide, Tryz.func288.trans (congrArg some (by kernel_rfl))⟩
  f23 := ⟨Tryz.f289.name, by decide, Tryz.func289.trans (congrArg some (by kernel_rfl))⟩
  f24 := ⟨Tryz.f290.name, by decide, Tryz.func290.trans (congrArg some (by kernel_rfl))⟩
  f25 := ⟨Tryz.f291.name, by decide, Tryz.func291.trans (congrArg some (by kernel_rfl))⟩
  f26 := ⟨Tryz.f292.name, by decide, Tryz.func292.trans (congrArg some (by kernel_rfl))⟩
  f27 := ⟨Tryz.f293.name, by decide, Tryz.func293.trans (congrArg some (by kernel_rfl))⟩
  f28 := ⟨Tryz.f294.name, by decide, Tryz.func294.trans (congrArg some (by kernel_rfl))⟩
  f29 := ⟨Tryz.f295.name, by decide, Tryz.func295.trans (congrArg some (by kernel_rfl))⟩
  f31 := Tryz.func269.trans (congrArg some (by kernel_rfl))
  f32 := Tryz.func270.trans (congrArg some (by kernel_rfl))
  f36 := ⟨Tryz.f296.name, by decide, Tryz.func296.trans (congrArg some (by kernel_rfl))⟩
  f37 := ⟨Tryz.f297.name, by decide, Tryz.func297.trans (congrArg some (by kernel_rfl))⟩
  f38 := ⟨Tryz.f298.name, by decide, Tryz.func298.trans (congrArg some (by kernel_rfl))⟩
  f39 := ⟨Tryz.f299.name, by decide, Tryz.func299.trans (congrArg some (by kernel_rfl))⟩
  f41 := ⟨Tryz.f300.name, by decide, Tryz.func300.trans (congrArg some (by kernel_rfl))⟩
  t0 := Tryz.underlying0
  a0 := Tryz.isAgg0
  z0 := Tryz.sizeOf0
  v0 := Tryz.zeroValue0
  t3 := Tryz.underlying3
  a3 := Tryz.isAgg3
  z3 := Tryz.sizeOf3
  v3 := Tryz.zeroValue3
  t4 := Tryz.underlying4
  a4 := Tryz.isAgg4
  z4 := Tryz.sizeOf4
  v4 := Tryz.zeroValue4
  t5 := Tryz.underlying5
  a5 := Tryz.isAgg5
  z5 := Tryz.sizeOf5
  v5 := Tryz.zeroValue5
  t9 := Tryz.underlying9
  a9 := Tryz.isAgg9
  z9 := Tryz.sizeOf9
  v9 := Tryz.zeroValue9
  t26 := Tryz.underlying51
  a26 := Tryz.isAgg51
  z26 := Tryz.sizeOf51
  v26 := Tryz.zeroValue51
  t27 := Tryz.underlying51
  a27 := Tryz.isAgg51
  z27 := Tryz.sizeOf51
  v27 := Tryz.zeroValue51
  t29 := Tryz.underlying9
  a29 := Tryz.isAgg9
  z29 := Tryz.sizeOf9
  v29 := Tryz.zeroValue9
  t32 := Tryz.underlying236
  a32 := Tryz.isAgg236
  z32 := Tryz.sizeOf236
  v32 := Tryz.zeroValue236
  t35 := Tryz.underlying289
  a35 := Tryz.isAgg289
  z35 := Tryz.sizeOf289
  v35 := Tryz.zeroValue289
  t36 := Tryz.underlying290
  a36 := Tryz.isAgg290
  z36 := Tryz.sizeOf290
  v36 := Tryz.zeroValue290
  t41 := Tryz.underlying202
  a41 := Tryz.isAgg202
  z41 := Tryz.sizeOf202
  v41 := Tryz.zeroValue202
  t44 := Tryz.underlying296
  a44 := Tryz.isAgg296
  z44 := Tryz.sizeOf296
  v44 := Tryz.zeroValue296
  t46 := Tryz.underlying47
  a46 := Tryz.isAgg47
  z46 := Tryz.sizeOf47
  v46 := Tryz.zeroValue47
  t53 := Tryz.underlying315
  a53 := Tryz.isAgg315
  z53 := Tryz.sizeOf315
  v53 := Tryz.zeroValue315
  t57 := Tryz.underlying319
  a57 := Tryz.isAgg319
  z57 := Tryz.sizeOf319
  v57 := Tryz.zeroValue319
  t63 := Tryz.underlying334
  a63 := Tryz.isAgg334
  z63 := Tryz.sizeOf334
  v63 := Tryz.zeroValue334
  t64 := Tryz.underlying136
  a64 := Tryz.isAgg136
  z64 := Tryz.sizeOf136
  v64 := Tryz.zeroValue136 }
/-- slices.Sort's two contracts at this dump, at the fence that asks nothing. -/
theorem Tryz.sorts196 (m : Nat) : AnyZ.SortsIn Tryz.prog Tryz.sorted196_ren Fence.wide m :=
  ⟨fun blk off cap ss W hH hblk hsz => callsIn_wide.2 (AnyM.slices_Sort_string Tryz.sort253 blk off cap ss W hH hblk hsz),
   fun p cap W => callsIn_wide.2 (AnyM.slices_Sort_string_none Tryz.sort253 p cap W)⟩

/-- **maps.Keys[map[string]bool,string,bool], at whatever map, the nil one too:** a function value over ONE NEW BLOCK, which holds the map. -/
theorem Tryz.maps_Keys_197 (mb : Option Nat) (W : World) : CallsIn Fence.wide 5 Tryz.prog 197 #[.map mb] W fun e w' => e = .returned (.func (.func 254) #[] #[.pointer (some ⟨W.heap.size, 0, none⟩)]) ∧ w' = W.alloc (.cells #[.map mb] 258) :=
  AnyZ.keys_in Tryz.keys197 Fence.wide 5 trivial rfl mb W

set_option maxHeartbeats 1000000 in
/-- **slices.Sorted[string] AT WHAT maps.Keys[map[string]bool,string,bool] HANDED BACK FOR A MAP THAT IS NOT nil** ('w': the world AHEAD of maps.Keys' call): A NEW SLICE THAT HOLDS THE MAP's KEYS, SORTED; nil just where it has none; nothing that lay before has turned. -/
theorem Tryz.slices_Sorted_keys_196_197 {H : Type} (b nn : Nat) (D0 : DataW H) (R : Value → Option (DataW H × List MemPlace)) (w : World) (hown : w.ownsMap Tryz.prog 9 R b nn D0) (hmax : Maps.size D0 ≤ maxLen) (hbytes : Maps.size D0 * 16 ≤ 140737488355328) :
    CallsIn Fence.wide 5 Tryz.prog 196 #[.func (.func 254) #[] #[.pointer (some ⟨w.heap.size, 0, none⟩)]] (w.alloc (.cells #[.map (some b)] 258)) fun e w' => ∃ (v : Value) (ss : List (List UInt8)), e = .returned v ∧ ss.Perm (strKeys D0) ∧
      w'.ownsRow (w.alloc (.cells #[.map (some b)] 258)).heap.size 9 1 v ss.length ((ss.mergeSort (fun x y => decide (x ≤ y))).map encStr) ∧ (v = .slice none 0 0 ↔ ss = []) ∧ Below (w.alloc (.cells #[.map (some b)] 258)).heap.size (w.alloc (.cells #[.map (some b)] 258)) w' := by
  have hbl := hown.lt
  have hseq : SeqGives Fence.wide 2 Tryz.prog 254 #[.pointer (some ⟨w.heap.size, 0, none⟩)] encStr (fun ss => ss.Perm (strKeys D0)) (Maps.size D0) (w.alloc (.cells #[.map (some b)] 258)) :=
    AnyZ.keys_gives (ρ := Tryz.keys197_ren) { Tryz.keys197 with } Fence.wide _ trivial rfl (by omega) w.heap.size b nn D0 _ (by simp) (by simp) (by
      obtain ⟨es, clock, hb, Ft, hs, hD⟩ := hown
      exact ⟨es, clock, (Below.heap_alloc _ _ b hbl).trans hb, Ft, hs, hD⟩)
  exact AnyZ.sorted_in Tryz.sorted196 Fence.wide 5 trivial trivial trivial trivial rfl (by omega) (Tryz.sorts196 _) (enters_of Tryz.func253 (by kernel_rfl) rfl) 254 #[.pointer (some ⟨w.heap.size, 0, none⟩)] trivial (enters_of Tryz.func254 (by kernel_rfl) rfl) _ _ hmax hbytes _ hseq

end Go.Proofs
/- The sorted keys of a map of terms, of a map of strings. -/
namespace Go.Proofs.YtamddagmlanijaaGreat
open Go.RowKit Go.Maps Go.Sort

/-- the names in order -/
def sortK (l : List Key) : List Key := l.mergeSort (fun x y => decide (x ≤ y))
theorem strs_enc (l : List Key) : l.map encStr = strs l := rfl
/-- the keys of a datum that has just these keys -/
theorem keys_perm {H : Type} {n b : Nat} {D : DataW H} {R : Value → Option (DataW H × List MemPlace)} {w : World} {ks ss : List Key} (ho : w.ownsMap Tryz.prog 9 R b n D) (hn : ks.Nodup) (hh : ∀ k, Maps.has D (.string k) = decide (k ∈ ks)) (hs : ss.Perm (strKeys D)) : ss.mergeSort (fun x y => decide (x ≤ y)) = sortK ks :=
  mergeSort_of_perm (hs.trans (Collected.perm (left := fun _ => false) ⟨hn, fun x => by rw [hh]; simp⟩ ho strKeyed Tryz.underlying9 (fun _ => rfl)).symm)
end Go.Proofs.YtamddagmlanijaaGreat
/- term.Vars: the variables in order. -/
namespace Go.Proofs.YtamddagmlanijaaGreat
open Go.RowKit

theorem keysV_any (mb : Nat) (W : World) : Calls Tryz.prog 197 #[.map (some mb)] W fun e w' => e = .returned (.func (.func 254) #[] #[.pointer (some ⟨W.heap.size, 0, none⟩)]) ∧ W.alloc (.cells #[.map (some mb)] 258) = w' :=
  (callsIn_wide.1 (Tryz.maps_Keys_197 (some mb) W)).mono fun _ _ ⟨h1, h2⟩ => ⟨h1, h2.symm⟩
theorem sortedV_any {α : Type} {enc : α → Value} (mb : Nat) (m : List (Key × α)) (W : World) (h : HMap enc W mb m) (hl : m.length ≤ 1048576) :
    Calls Tryz.prog 196 #[.func (.func 254) #[] #[.pointer (some ⟨W.heap.size, 0, none⟩)]] (W.alloc (.cells #[.map (some mb)] 258)) fun e w' => (∃ v, e = .returned v ∧ StrIs w'.heap.size w' (sortK (m.map (·.1))) v) ∧ Below W.heap.size W w' := by
  obtain ⟨D, ho, hi⟩ := h
  refine (callsIn_wide.1 (Tryz.slices_Sorted_keys_196_197 mb _ D imgR W ho (by rw [hi.size]; unfold maxLen; omega) (by rw [hi.size]; omega))).mono ?_
  rintro e w' ⟨v, ss, rfl, hp, hrow, -, hb⟩
  rw [keys_perm ho hi.nodup hi.has hp, strs_enc] at hrow
  have hlen : ss.length = (sortK (m.map (·.1))).length := by rw [← keys_perm ho hi.nodup hi.has hp, List.length_mergeSort]
  rw [hlen] at hrow
  exact ⟨⟨v, rfl, StrIs.ofRow hrow⟩, Below.trans (by go_grown) (hb.mono (by simp))⟩
/-- the names of the variables -/
def varsK (t : Tm) : List Key := sortK ((vbRun [] (t.nodes 1)).map (·.1))
set_option maxRecDepth 100000 in
set_option maxHeartbeats 4000000 in
theorem tvars_any (t : Tm) (s : Value) (w : World) (hs : SlIs w.heap.size w t.ts s) (hb : t.bulk ≤ 1048576) :
    Calls Tryz.prog 136 #[tmv t s] w fun e w' => (∃ (v : Value) (c : Int), e = .returned (.tuple #[v, .int .i64 c]) ∧ (c = 0 ↔ t.ok) ∧ (c = 0 → StrIs w'.heap.size w' (varsK t) v) ∧ (c ≠ 0 → v = .slice none 0 0)) ∧ Below w.heap.size w w' := by
  obtain ⟨oa, cap, rfl, -⟩ := hs.form
  have hba : Below w.heap.size w (w.alloc (.cells #[.string t.nm, .bool t.vr, .slice oa t.ts.length cap] 25)) := by go_grown
  have HCK := Lib.hid (check_any t (.slice oa t.ts.length cap) _ (hs.carry hba hba.size) hb)
  have HVA : Hid (∀ W, Below w.heap.size w W → Calls Tryz.prog 198 #[.agg #[.string t.nm, .bool t.vr, .slice oa t.ts.length cap]] W fun e w' => (∃ mb, e = .returned (.map (some mb)) ∧ W.heap.size ≤ mb ∧ HMap Value.bool w' mb (vbRun [] (t.nodes 1))) ∧ Below W.heap.size W w') := Lib.hid fun W hW => variables_any t _ W (hs.carry hW hW.size) hb
  have HBA := Lib.hid hba
  have HTB : Hid ((w.alloc (.cells #[.string t.nm, .bool t.vr, .slice oa t.ts.length cap] 25)).heap[w.heap.size]? = some (.cells #[.string t.nm, .bool t.vr, .slice oa t.ts.length cap] 25 (0, 0))) := Lib.hid (heap_new_at _ _ _ rfl)
  clear hs hba
  rw [show tmv t (.slice oa t.ts.length cap) = .agg #[.string t.nm, .bool t.vr, .slice oa t.ts.length cap] from rfl]
  go_enter Tryz.func136, Tryz.ntmps136
  go_wp2_with fail
  refine HCK.out.mono ?_
  rintro e w1 ⟨⟨c, rfl, hc⟩, hb1⟩
  have HB1 := Lib.hid (HBA.out.trans (hb1.mono (by simp)))
  have htb := (hb1.block w.heap.size (by simp)).trans HTB.out
  obtain ⟨⟨t0, t1, t2⟩, -⟩ := box3 htb
  have HC := Lib.hid hc
  clear hb1 hc HCK htb HTB
  by_cases hc0 : c = 0
  rotate_left
  · have hd : (c != 0) = true := by rw [bne_iff_ne]; exact hc0
    have HC0 := Lib.hid hc0
    clear hc0
    go_wp2_with fail
    refine bodyPost_ret (v := .tuple #[.slice none 0 0, .int .i64 c]) (by simp [results, Tryz.f136, go_sem]) rfl ?_
    exact ⟨⟨_, _, rfl, HC.out, fun h => absurd h HC0.out, fun _ => rfl⟩, HB1.out⟩
  subst hc0
  have HOK := Lib.hid (HC.out.1 rfl)
  have HLN : Hid ((vbRun [] (t.nodes 1)).length ≤ 1048576) := Lib.hid (by
    have h1 := vbRun_length [] (t.nodes 1)
    have h2 : (t.nodes 1).length = t.size := Tm.nodes_length t 1
    have := HOK.out.2.1
    simp only [List.length_nil] at h1
    omega)
  go_wp2_with fail
  refine (HVA.out _ HB1.out).mono ?_
  rintro e w2 ⟨⟨mb, rfl, -, hmap⟩, hb2⟩
  have HB2 := Lib.hid (HB1.out.trans (hb2.mono HB1.out.size))
  have HSO := Lib.hid (sortedV_any mb _ w2 hmap HLN.out)
  clear hb2 hmap t0 t1 t2
  go_wp2_with fail
  refine (keysV_any mb w2).mono ?_
  rintro e w3 ⟨rfl, rfl⟩
  go_wp2_with fail
  refine HSO.out.mono ?_
  rintro e w4 ⟨⟨v, rfl, hv⟩, hb4⟩
  have HV := Lib.hid hv
  obtain ⟨ov, cv, rfl⟩ : ∃ ov cv, v = .slice ov (varsK t).length cv := by obtain ⟨a, b, h, -⟩ := hv; exact ⟨a, b, h⟩
  have HB4 := Lib.hid (HB2.out.trans (hb4.mono HB2.out.size))
  clear hv hb4
  go_wp2_with fail
  refine bodyPost_ret (v := .tuple #[.slice ov (varsK t).length cv, .int .i64 0]) (by simp [results, Tryz.f136, go_sem]) rfl ?_
  exact ⟨⟨_, _, rfl, ⟨fun _ => HOK.out, fun _ => rfl⟩, fun _ => HV.out, fun h => absurd rfl h⟩, HB4.out⟩
theorem varsK_ground {t : Tm} (h : ∀ v ∈ t.nodes 1, v.2.2.1 = false) : varsK t = [] := by
  have key : ∀ (l : List View) (m : List (Key × Bool)), (∀ v ∈ l, v.2.2.1 = false) → vbRun m l = m := by
    intro l
    induction l with
    | nil => intro m _; rfl
    | cons v l ih =>
      intro m hl
      rw [vbRun, hl v (by simp), if_neg (by decide)]
      exact ih m fun x hx => hl x (by simp [hx])
  unfold varsK
  rw [key _ _ h]
  simp [sortK]
end Go.Proofs.YtamddagmlanijaaGreat
/- Package matrix at the chapter's example: columns. -/
namespace Go.Proofs.YtamddagmlanijaaGreat
open Go.RowKit Go.Shelf

/-- all blocks but one are kept -/
structure ButB (b : Nat) (A W : World) : Prop where
  os : W.os = A.os
  tape : W.tape = A.tape
  output : W.output = A.output
  size : A.heap.size ≤ W.heap.size
  block : ∀ k, k < A.heap.size → k ≠ b → W.heap[k]? = A.heap[k]?
theorem ButB.below {b m : Nat} {A W : World} (h : ButB b A W) (h1 : m ≤ b) (h2 : m ≤ A.heap.size) : Below m A W := ⟨h.os, h.tape, h.output, h.size, fun k hk => h.block k (by omega) (by omega)⟩
theorem ButB.trans {b : Nat} {A B C : World} (h : ButB b A B) (k : ButB b B C) : ButB b A C :=
  ⟨k.os.trans h.os, k.tape.trans h.tape, k.output.trans h.output, Nat.le_trans h.size k.size, fun i hi hb => (k.block i (Nat.lt_of_lt_of_le hi h.size) hb).trans (h.block i hi hb)⟩
theorem ButB.of {b : Nat} {A W : World} (h : Below A.heap.size A W) : ButB b A W := ⟨h.os, h.tape, h.output, h.size, fun k hk _ => h.block k hk⟩
theorem ButB.setCell {b : Nat} {A W : World} (h : ButB b A W) (o : Nat) (u : Value) : ButB b A (W.setCell ⟨b, o, none⟩ u) :=
  ⟨h.os, h.tape, h.output, by have := h.size; simpa [World.setCell] using this, fun k hk hb => (Below.heap_setCell _ _ _ _ hb).trans (h.block k hk hb)⟩
theorem heap_alloc_new' (w : World) (o : Obj) {n : Nat} (h : n = w.heap.size) : (w.alloc o).heap[n]? = some o := by
  subst h
  show (w.heap.push o)[w.heap.size]? = _
  simp
theorem size_alloc' (w : World) (o : Obj) : (w.alloc o).heap.size = w.heap.size + 1 := by
  show (w.heap.push o).size = _
  simp
theorem heap_alloc_old' (w : World) (o : Obj) {n : Nat} (h : n < w.heap.size) : (w.alloc o).heap[n]? = w.heap[n]? := by
  show (w.heap.push o)[n]? = _
  rw [Array.getElem?_push_lt h, Array.getElem?_eq_getElem h]
theorem boxSet {w : World} {b i : Nat} {cs : Array Value} {T : TypeId} {v : Value} (hb : w.heap[b]? = some (.cells cs T)) : (w.setCell ⟨b, i, none⟩ v).heap[b]? = some (.cells (cs.setIfInBounds i v) T) := by
  simp [World.setCell, Array.getElem?_modify, hb]
/-- a linear function without variables -/
abbrev linO (x0 x1 x2 x3 : Nat) : Obj := .cells #[.int .u64 (x0 : Int), .int .u64 (x1 : Int), .int .u64 (x2 : Int), .int .u64 (x3 : Int), .map none] 157
abbrev linV (x0 x1 x2 x3 : Nat) : Value := .agg #[.int .u64 (x0 : Int), .int .u64 (x1 : Int), .int .u64 (x2 : Int), .int .u64 (x3 : Int), .map none]
theorem linO_cs {W : World} {b x0 x1 x2 x3 : Nat} (h : W.heap[b]? = some (linO x0 x1 x2 x3)) : W.cell? ⟨b, 0, none⟩ = some (.int .u64 (x0 : Int)) ∧ W.cell? ⟨b, 1, none⟩ = some (.int .u64 (x1 : Int)) ∧ W.cell? ⟨b, 2, none⟩ = some (.int .u64 (x2 : Int)) ∧ W.cell? ⟨b, 3, none⟩ = some (.int .u64 (x3 : Int)) ∧ W.cell? ⟨b, 4, none⟩ = some (.map none) ∧
    W.frozen? ⟨b, 0, none⟩ = false ∧ W.frozen? ⟨b, 1, none⟩ = false ∧ W.frozen? ⟨b, 2, none⟩ = false ∧ W.frozen? ⟨b, 3, none⟩ = false ∧ W.frozen? ⟨b, 4, none⟩ = false :=
  ⟨cells_of' h 0, cells_of' h 1, cells_of' h 2, cells_of' h 3, cells_of' h 4, frozen_of' h _, frozen_of' h _, frozen_of' h _, frozen_of' h _, frozen_of' h _⟩
set_option maxRecDepth 100000 in
set_option maxHeartbeats 4000000 in
theorem constant_any (x0 x1 : Nat) (v : Value) (w : World) (hv : U64Is w.heap.size w [x0, x1] v) :
    Calls Tryz.prog 219 #[v] w fun e w' => e = .returned (linV x0 x1 0 0) ∧ Below w.heap.size w w' := by
  obtain ⟨ov, cv, rfl⟩ := hv.sh
  obtain ⟨b, o, y, e1, hb, hy, c0⟩ := hv.at (k := 0) (by simp)
  subst e1
  obtain ⟨b', o', y', e1, -, hy', c1⟩ := hv.at (k := 1) (by simp)
  cases e1
  simp at hy hy'
  subst hy hy'
  clear hv
  rw [Nat.add_zero] at c0
  simp only [List.length_cons, List.length_nil, Nat.zero_add, Nat.reduceAdd]
  obtain ⟨W2, hW2⟩ : ∃ W2, W2 = ((w.alloc (.cells #[.int .u64 0, .int .u64 0, .int .u64 0, .int .u64 0, .map none] 157)).alloc (.cells #[.int .u64 0, .int .u64 0, .int .u64 0, .int .u64 0, .map none] 157)) := ⟨_, rfl⟩
  have hg : W2.heap[w.heap.size + 1]? = some (linO 0 0 0 0) := by subst hW2; exact heap_alloc_new' _ _ (size_alloc' _ _).symm
  have hg0 : W2.heap[w.heap.size]? = some (linO 0 0 0 0) := by subst hW2; rw [heap_alloc_old' _ _ (by simp)]; exact heap_alloc_new' _ _ rfl
  have bl2 : Below w.heap.size w W2 := by subst hW2; exact ((Below.refl _ _).alloc (Nat.le_refl _) _).alloc (by simp) _
  have k0 : W2.cell? ⟨b, o, none⟩ = some (.int .u64 (x0 : Int)) := (bl2.cell hb).trans c0
  have k1 : W2.cell? ⟨b, o + 1, none⟩ = some (.int .u64 (x1 : Int)) := (bl2.cell hb).trans c1
  have run := run_copy_cells (P := Tryz.prog) W2 46 46 3 47 (w.heap.size + 1) 0 4 4 ⟨b, o, none⟩ 2 cv [.int .u64 (x0 : Int), .int .u64 (x1 : Int)] rfl rfl rfl (by
      intro j v hv
      match j with
      | 0 => simp at hv; subst hv; simpa [Addr.add] using k0
      | 1 => simp at hv; subst hv; simpa [Addr.add] using k1
      | j + 2 => simp at hv) (by
      intro j hj
      have := cells_of' hg j
      match j with
      | 0 => simp [cells_of' hg 0]
      | 1 => simp [cells_of' hg 1]
      | j + 2 => exact absurd hj (by simp)) (fun j _ => by simp [frozen_of' hg]) (by intro v hv; simp at hv; rcases hv with rfl | rfl <;> rfl)
  simp only [World.setCells, List.length_cons, List.length_nil, Nat.zero_add, Nat.reduceAdd] at run
  obtain ⟨W3, hW3⟩ : ∃ W3, W3 = ((W2.setCell ⟨w.heap.size + 1, 0, none⟩ (.int .u64 (x0 : Int))).setCell ⟨w.heap.size + 1, 1, none⟩ (.int .u64 (x1 : Int))) := ⟨_, rfl⟩
  have hg3 : W3.heap[w.heap.size + 1]? = some (linO x0 x1 0 0) := by
    subst hW3
    have h1 := boxSet hg (i := 0) (v := .int .u64 (x0 : Int))
    exact boxSet h1 (i := 1) (v := .int .u64 (x1 : Int))
  have hg30 : W3.heap[w.heap.size]? = some (linO 0 0 0 0) := by
    subst hW3
    rw [Below.heap_setCell _ _ _ _ (by simp), Below.heap_setCell _ _ _ _ (by simp)]
    exact hg0
  have bl3 : Below w.heap.size w W3 := by
    subst hW3
    exact (bl2.setCell (Nat.le_succ _) _).setCell (Nat.le_succ _) _
  rw [← hW3] at run
  rw [hW2] at run
  clear hW3 hg hg0 k0 k1 bl2 hW2
  obtain ⟨d0, d1, d2, d3, d4, -⟩ := linO_cs hg3
  obtain ⟨e0, e1, e2, e3, e4, f0, f1, f2, f3, f4⟩ := linO_cs hg30
  go_enter Tryz.func219, Tryz.ntmps219
  go_wp2_with fail
  have hg4 := boxSet (i := 4) (v := Value.map none) (boxSet (i := 3) (v := .int .u64 0) (boxSet (i := 2) (v := .int .u64 0) (boxSet (i := 1) (v := .int .u64 (x1 : Int)) (boxSet (i := 0) (v := .int .u64 (x0 : Int)) hg30))))
  obtain ⟨m0, m1, m2, m3, m4, -⟩ := linO_cs (x0 := x0) (x1 := x1) (x2 := 0) (x3 := 0) hg4
  have bl4 := ((((bl3.setCell (p := ⟨w.heap.size, 0, none⟩) (Nat.le_refl _) (.int .u64 (x0 : Int))).setCell (p := ⟨w.heap.size, 1, none⟩) (Nat.le_refl _) (.int .u64 (x1 : Int))).setCell (p := ⟨w.heap.size, 2, none⟩) (Nat.le_refl _) (.int .u64 0)).setCell (p := ⟨w.heap.size, 3, none⟩) (Nat.le_refl _) (.int .u64 0)).setCell (p := ⟨w.heap.size, 4, none⟩) (Nat.le_refl _) (.map none)
  revert m0 m1 m2 m3 m4 bl4
  generalize World.setCell _ ⟨w.heap.size, 4, none⟩ _ = W4
  intro m0 m1 m2 m3 m4 bl4
  refine bodyPost_ret (v := linV x0 x1 0 0) (by simp [results, Tryz.f219, go_sem, m0, m1, m2, m3, m4]) rfl ?_
  exact ⟨rfl, bl4⟩
end Go.Proofs.YtamddagmlanijaaGreat
