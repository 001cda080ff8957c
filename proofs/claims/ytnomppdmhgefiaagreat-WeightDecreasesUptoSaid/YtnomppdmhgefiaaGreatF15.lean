/- Packed: ShelfI, Itr, Syr. -/
import Derived.Shelf.SlIter.Nil
import Derived.Shelf.SortM.Plain
import Derived.Shelf.SortM.SortNone
import Derived.Ground.GgzProg
import Derived.Ground.SlgmProg
import Derived.Test.YtnomppdmhgefiaaGreatProg
import Derived.Test.YtnomppdmhgefiaaGreatF13
import Derived.WalkKit
import Derived.ProofKit
import Derived.OpenShut
import Derived.Handy
import Derived.Lib.Hide
import Derived.Lib.AppendIntMem
import Derived.Test.YtnomppdmhgefiaaGreatF05
import Derived.Test.YtnomppdmhgefiaaGreatF06
/-
  DERIVED: THE SHELF's CONTRACTS AT THIS DUMP, IN PLAIN WORDS (tools/lay-plain.mjs out of 'TryzIter.lean', which tools/lay-shelf.mjs wrote): THE SAME DECLARATIONS UNDER THE SAME NAMES: 'import', 'namespace', 'open', 'def', 'theorem' AND NOTHING ELSE: no command of the shelf's: FOR A HAND-IN. Each laying: the table of numbers ('.._ren') and one theorem, a field a fact of the dump's own or the kernel's comparison; each contract: ONE APPLICATION.
-/
namespace Go.Proofs
open Go.RowKit Go.Maps Go.Sort Go.Shelf
def Tryz.keys124_ren : Go.Shelf.Ren := ⟨fun | 7 => 124 | 10 => 188 | n => n, fun | 23 => 164 | 26 => 9 | 3 => 3 | 28 => 185 | 0 => 0 | 27 => 184 | 33 => 174 | 4 => 4 | n => n, fun | n => n⟩
theorem Tryz.keys124 : Go.Proofs.SlLaysZ.n7 Tryz.prog Tryz.keys124_ren := {
  mixed := by kernel_rfl
  f7 := ⟨Tryz.f124.name, by decide, Tryz.func124.trans (congrArg some (by kernel_rfl))⟩
  f10 := ⟨Tryz.f188.name, by decide, Tryz.func188.trans (congrArg some (by kernel_rfl))⟩
  t0 := Tryz.underlying0
  a0 := Tryz.isAgg0
  z0 := Tryz.sizeOf0
  v0 := Tryz.zeroValue0
  t4 := Tryz.underlying4
  a4 := Tryz.isAgg4
  z4 := Tryz.sizeOf4
  v4 := Tryz.zeroValue4
  t23 := Tryz.underlying164
  a23 := Tryz.isAgg164
  z23 := Tryz.sizeOf164
  v23 := Tryz.zeroValue164
  t26 := Tryz.underlying9
  a26 := Tryz.isAgg9
  z26 := Tryz.sizeOf9
  v26 := Tryz.zeroValue9
  t27 := Tryz.underlying184
  a27 := Tryz.isAgg184
  z27 := Tryz.sizeOf184
  v27 := Tryz.zeroValue184
  t28 := Tryz.underlying185
  a28 := Tryz.isAgg185
  z28 := Tryz.sizeOf185
  v28 := Tryz.zeroValue185
  t33 := Tryz.underlying174
  a33 := Tryz.isAgg174
  z33 := Tryz.sizeOf174
  v33 := Tryz.zeroValue174 }
def Tryz.sorted123_ren : Go.Shelf.Ren := ⟨fun | 6 => 123 | 8 => 186 | 9 => 187 | 11 => 228 | 13 => 230 | 12 => 229 | 23 => 257 | 24 => 258 | 14 => 248 | 15 => 249 | 16 => 250 | 17 => 251 | 18 => 252 | 19 => 253 | 20 => 254 | 21 => 255 | 22 => 256 | 25 => 267 | 26 => 268 | 27 => 269 | 28 => 270 | 29 => 271 | 30 => 272 | 31 => 275 | n => n, fun | 26 => 9 | 28 => 185 | 24 => 81 | 0 => 0 | 3 => 3 | 37 => 272 | 48 => 306 | 50 => 77 | 4 => 4 | 40 => 300 | 39 => 299 | 45 => 216 | 5 => 5 | 9 => 9 | 51 => 314 | 55 => 318 | 57 => 322 | 58 => 108 | 33 => 174 | n => n, fun | n => n⟩
theorem Tryz.sorted123 : Go.Proofs.SlLaysZ.n6 Tryz.prog Tryz.sorted123_ren := {
  mixed := by kernel_rfl
  f6 := ⟨Tryz.f123.name, by decide, Tryz.func123.trans (congrArg some (by kernel_rfl))⟩
  f8 := ⟨Tryz.f186.name, by decide, Tryz.func186.trans (congrArg some (by kernel_rfl))⟩
  f11 := ⟨Tryz.f228.name, by decide, Tryz.func228.trans (congrArg some (by kernel_rfl))⟩
  t0 := Tryz.underlying0
  a0 := Tryz.isAgg0
  z0 := Tryz.sizeOf0
  v0 := Tryz.zeroValue0
  t24 := Tryz.underlying81
  a24 := Tryz.isAgg81
  z24 := Tryz.sizeOf81
  v24 := Tryz.zeroValue81
  t26 := Tryz.underlying9
  a26 := Tryz.isAgg9
  z26 := Tryz.sizeOf9
  v26 := Tryz.zeroValue9
  t28 := Tryz.underlying185
  a28 := Tryz.isAgg185
  z28 := Tryz.sizeOf185
  v28 := Tryz.zeroValue185
  i26 := by kernel_rfl }
def Tryz.sort187_ren : Go.Shelf.Ren := ⟨fun | 6 => 187 | 8 => 230 | 9 => 229 | 19 => 257 | 20 => 258 | 21 => 248 | 22 => 249 | 23 => 250 | 24 => 251 | 25 => 252 | 26 => 253 | 27 => 254 | 28 => 255 | 29 => 256 | 36 => 267 | 31 => 268 | 32 => 269 | 37 => 270 | 38 => 271 | 39 => 272 | 41 => 275 | n => n, fun | 27 => 81 | 29 => 9 | 3 => 3 | 32 => 272 | 26 => 81 | 0 => 0 | 44 => 306 | 46 => 77 | 4 => 4 | 36 => 300 | 35 => 299 | 41 => 216 | 5 => 5 | 9 => 9 | 53 => 314 | 57 => 318 | 63 => 322 | 64 => 108 | n => n, fun | n => n⟩
theorem Tryz.sort187 : Go.Proofs.SlLaysM.n6 Tryz.prog Tryz.sort187_ren := {
  mixed := by kernel_rfl
  f6 := ⟨Tryz.f187.name, by decide, Tryz.func187.trans (congrArg some (by kernel_rfl))⟩
  f8 := Tryz.func230.trans (congrArg some (by kernel_rfl))
  f9 := ⟨Tryz.f229.name, by decide, Tryz.func229.trans (congrArg some (by kernel_rfl))⟩
  f19 := Tryz.func257.trans (congrArg some (by kernel_rfl))
  f20 := Tryz.func258.trans (congrArg some (by kernel_rfl))
  f21 := ⟨Tryz.f248.name, by decide, Tryz.func248.trans (congrArg some (by kernel_rfl))⟩
  f22 := ⟨Tryz.f249.name, by decide, Tryz.func249.trans (congrArg some (by kernel_rfl))⟩
  f23 := ⟨Tryz.f250.name, by decide, Tryz.func250.trans (congrArg some (by kernel_rfl))⟩
  f24 := ⟨Tryz.f251.name, by decide, Tryz.func251.trans (congrArg some (by kernel_rfl))⟩
  f25 := ⟨Tryz.f252.name, by decide, Tryz.func252.trans (congrArg some (by kernel_rfl))⟩
  f26 := ⟨Tryz.f253.name, by decide, Tryz.func253.trans (congrArg some (by kernel_rfl))⟩
  f27 := ⟨Tryz.f254.name, by decide, Tryz.func254.trans (congrArg some (by kernel_rfl))⟩
  f28 := ⟨Tryz.f255.name, by decide, Tryz.func255.trans (congrArg some (by kernel_rfl))⟩
  f29 := ⟨Tryz.f256.name, by decide, Tryz.func256.trans (congrArg some (by kernel_rfl))⟩
  f31 := Tryz.func268.trans (congrArg some (by kernel_rfl))
  f32 := Tryz.func269.trans (congrArg some (by kernel_rfl))
  f36 := ⟨Tryz.f267.name, by decide, Tryz.func267.trans (congrArg some (by kernel_rfl))⟩
  f37 := ⟨Tryz.f270.name, by decide, Tryz.func270.trans (congrArg some (by kernel_rfl))⟩
  f38 := ⟨Tryz.f271.name, by decide, Tryz.func271.trans (congrArg some (by kernel_rfl))⟩
  f39 := ⟨Tryz.f272.name, by decide, Tryz.func272.trans (congrArg some (by kernel_rfl))⟩
  f41 := ⟨Tryz.f275.name, by decide, Tryz.func275.trans (congrArg some (by kernel_rfl))⟩
  t0 := Tryz.underlying0
  a0 := Tryz.isAgg0
  z0 := Tryz.sizeOf0
  v0 := Tryz.zeroValue0
  t3 := Tryz.underlying3
  a3 := Tryz.isAgg3
  z3 := Tryz.sizeOf3
  v3 := Tryz.zeroValue3
  t4 := Tryz.underlying4
  a4 := Tryz.isAgg4
  z4 := Tryz.sizeOf4
  v4 := Tryz.zeroValue4
  t5 := Tryz.underlying5
  a5 := Tryz.isAgg5
  z5 := Tryz.sizeOf5
  v5 := Tryz.zeroValue5
  t9 := Tryz.underlying9
  a9 := Tryz.isAgg9
  z9 := Tryz.sizeOf9
  v9 := Tryz.zeroValue9
  t26 := Tryz.underlying81
  a26 := Tryz.isAgg81
  z26 := Tryz.sizeOf81
  v26 := Tryz.zeroValue81
  t27 := Tryz.underlying81
  a27 := Tryz.isAgg81
  z27 := Tryz.sizeOf81
  v27 := Tryz.zeroValue81
  t29 := Tryz.underlying9
  a29 := Tryz.isAgg9
  z29 := Tryz.sizeOf9
  v29 := Tryz.zeroValue9
  t32 := Tryz.underlying272
  a32 := Tryz.isAgg272
  z32 := Tryz.sizeOf272
  v32 := Tryz.zeroValue272
  t35 := Tryz.underlying299
  a35 := Tryz.isAgg299
  z35 := Tryz.sizeOf299
  v35 := Tryz.zeroValue299
  t36 := Tryz.underlying300
  a36 := Tryz.isAgg300
  z36 := Tryz.sizeOf300
  v36 := Tryz.zeroValue300
  t41 := Tryz.underlying216
  a41 := Tryz.isAgg216
  z41 := Tryz.sizeOf216
  v41 := Tryz.zeroValue216
  t44 := Tryz.underlying306
  a44 := Tryz.isAgg306
  z44 := Tryz.sizeOf306
  v44 := Tryz.zeroValue306
  t46 := Tryz.underlying77
  a46 := Tryz.isAgg77
  z46 := Tryz.sizeOf77
  v46 := Tryz.zeroValue77
  t53 := Tryz.underlying314
  a53 := Tryz.isAgg314
  z53 := Tryz.sizeOf314
  v53 := Tryz.zeroValue314
  t57 := Tryz.underlying318
  a57 := Tryz.isAgg318
  z57 := Tryz.sizeOf318
  v57 := Tryz.zeroValue318
  t63 := Tryz.underlying322
  a63 := Tryz.isAgg322
  z63 := Tryz.sizeOf322
  v63 := Tryz.zeroValue322
  t64 := Tryz.underlying108
  a64 := Tryz.isAgg108
  z64 := Tryz.sizeOf108
  v64 := Tryz.zeroValue108 }
/-- slices.Sort's two contracts at this dump, at the fence that asks nothing. -/
theorem Tryz.sorts123 (m : Nat) : AnyZ.SortsIn Tryz.prog Tryz.sorted123_ren Fence.wide m :=
  ⟨fun blk off cap ss W hH hblk hsz => callsIn_wide.2 (AnyM.slices_Sort_string Tryz.sort187 blk off cap ss W hH hblk hsz),
   fun p cap W => callsIn_wide.2 (AnyM.slices_Sort_string_none Tryz.sort187 p cap W)⟩

/-- **maps.Keys[map[string]int,string,int], at whatever map, the nil one too:** a function value over ONE NEW BLOCK, which holds the map. -/
theorem Tryz.maps_Keys_124 (mb : Option Nat) (W : World) : CallsIn Fence.wide 5 Tryz.prog 124 #[.map mb] W fun e w' => e = .returned (.func (.func 188) #[] #[.pointer (some ⟨W.heap.size, 0, none⟩)]) ∧ w' = W.alloc (.cells #[.map mb] 164) :=
  AnyZ.keys_in Tryz.keys124 Fence.wide 5 trivial rfl mb W

set_option maxHeartbeats 1000000 in
/-- **slices.Sorted[string] AT WHAT maps.Keys[map[string]int,string,int] HANDED BACK FOR A MAP THAT IS NOT nil** ('w': the world AHEAD of maps.Keys' call): A NEW SLICE THAT HOLDS THE MAP's KEYS, SORTED; nil just where it has none; nothing that lay before has turned. -/
theorem Tryz.slices_Sorted_keys_123_124 {H : Type} (b nn : Nat) (D0 : DataW H) (R : Value → Option (DataW H × List MemPlace)) (w : World) (hown : w.ownsMap Tryz.prog 9 R b nn D0) (hmax : Maps.size D0 ≤ maxLen) (hbytes : Maps.size D0 * 16 ≤ 140737488355328) :
    CallsIn Fence.wide 5 Tryz.prog 123 #[.func (.func 188) #[] #[.pointer (some ⟨w.heap.size, 0, none⟩)]] (w.alloc (.cells #[.map (some b)] 164)) fun e w' => ∃ (v : Value) (ss : List (List UInt8)), e = .returned v ∧ ss.Perm (strKeys D0) ∧
      w'.ownsRow (w.alloc (.cells #[.map (some b)] 164)).heap.size 9 1 v ss.length ((ss.mergeSort (fun x y => decide (x ≤ y))).map encStr) ∧ (v = .slice none 0 0 ↔ ss = []) ∧ Below (w.alloc (.cells #[.map (some b)] 164)).heap.size (w.alloc (.cells #[.map (some b)] 164)) w' := by
  have hbl := hown.lt
  have hseq : SeqGives Fence.wide 2 Tryz.prog 188 #[.pointer (some ⟨w.heap.size, 0, none⟩)] encStr (fun ss => ss.Perm (strKeys D0)) (Maps.size D0) (w.alloc (.cells #[.map (some b)] 164)) :=
    AnyZ.keys_gives (ρ := Tryz.keys124_ren) { Tryz.keys124 with } Fence.wide _ trivial rfl (by omega) w.heap.size b nn D0 _ (by simp) (by simp) (by
      obtain ⟨es, clock, hb, Ft, hs, hD⟩ := hown
      exact ⟨es, clock, (Below.heap_alloc _ _ b hbl).trans hb, Ft, hs, hD⟩)
  exact AnyZ.sorted_in Tryz.sorted123 Fence.wide 5 trivial trivial trivial trivial rfl (by omega) (Tryz.sorts123 _) (enters_of Tryz.func187 (by kernel_rfl) rfl) 188 #[.pointer (some ⟨w.heap.size, 0, none⟩)] trivial (enters_of Tryz.func188 (by kernel_rfl) rfl) _ _ hmax hbytes _ hseq

end Go.Proofs
/- The sorted keys of a map of terms, of a map of strings. -/
namespace Go.Proofs.YtnomppdmhgefiaaGreat
open Go.RowKit Go.Maps Go.Sort

/-- the names in order -/
def sortK (l : List Key) : List Key := l.mergeSort (fun x y => decide (x ≤ y))
theorem strs_enc (l : List Key) : l.map encStr = strs l := rfl
theorem sortK_perm (l : List Key) : (sortK l).Perm l := List.mergeSort_perm l _
theorem sortK_len (l : List Key) : (sortK l).length = l.length := (sortK_perm l).length_eq
theorem sortK_mem {l : List Key} {x : Key} : x ∈ sortK l ↔ x ∈ l := (sortK_perm l).mem_iff
/-- the keys of a datum that has just these keys -/
theorem keys_perm {H : Type} {n b : Nat} {D : DataW H} {R : Value → Option (DataW H × List MemPlace)} {w : World} {ks ss : List Key} (ho : w.ownsMap Tryz.prog 9 R b n D) (hn : ks.Nodup) (hh : ∀ k, Maps.has D (.string k) = decide (k ∈ ks)) (hs : ss.Perm (strKeys D)) : ss.mergeSort (fun x y => decide (x ≤ y)) = sortK ks :=
  mergeSort_of_perm (hs.trans (Collected.perm (left := fun _ => false) ⟨hn, fun x => by rw [hh]; simp⟩ ho strKeyed Tryz.underlying9 (fun _ => rfl)).symm)
end Go.Proofs.YtnomppdmhgefiaaGreat
/- Symbols being appended: rows of them in memory. -/
namespace Go.Proofs.YtnomppdmhgefiaaGreat
open Go.RowKit Go.Maps

/-- a symbol: name, arity -/
abbrev Sy := Key × Int
def syCells (l : List Sy) : List Value := l.flatMap fun p => [.string (kb p.1), .int .i64 p.2]
theorem syCells_append (a b : List Sy) : syCells (a ++ b) = syCells a ++ syCells b := by simp [syCells]
theorem syCells_at (l : List Sy) (i : Nat) (p : Sy) (h : l[i]? = some p) : (syCells l)[i * 2]? = some (.string (kb p.1)) ∧ (syCells l)[i * 2 + 1]? = some (.int .i64 p.2) := by
  induction l generalizing i with
  | nil => simp at h
  | cons q l ih =>
    cases i with
    | zero => simp at h; subst h; simp [syCells]
    | succ i =>
      obtain ⟨h1, h2⟩ := ih i (by simpa using h)
      have e : ∀ r, (i + 1) * 2 + r = i * 2 + r + 2 := fun r => by omega
      refine ⟨?_, ?_⟩
      · have := e 0; simp only [Nat.add_zero] at this; rw [this]; simpa [syCells] using h1
      · rw [e 1]; simpa [syCells] using h2
theorem grown_step {A B C : World} {r r' : Option Nat} (h : A.grownBy B r) (k : B.grownBy C r') (hr : ∀ i, i < A.heap.size → some i ≠ r → some i ≠ r') : A.grownBy C r :=
  ⟨k.os.trans h.os, k.tape.trans h.tape, k.output.trans h.output, Nat.le_trans h.size k.size, fun i hi hne => (k.block i (Nat.lt_of_lt_of_le hi h.size) (hr i hi hne)).trans (h.block i hi hne)⟩
/-- what lies in the call -/
structure FxSt (base : Nat) (w W : World) (mv : Value) (t : Tm) (sl : Value) (ms : List Sy) (v : Value) : Prop where
  box : W.heap[w.heap.size]? = some (.cells #[.string t.nm, .bool t.vr, sl] 25 (0, 0))
  row : W.ownsRow base 141 2 v ms.length (syCells ms)
  gr : w.grownBy W mv.ownBlock
  own : v.ownBlock = mv.ownBlock ∨ ∃ j, v.ownBlock = some j ∧ w.heap.size + 1 ≤ j
theorem FxSt.below {base : Nat} {w A W : World} {mv : Value} {t : Tm} {sl : Value} {ms : List Sy} {v : Value} (h : FxSt base w A mv t sl ms v) (hb : Below A.heap.size A W) : FxSt base w W mv t sl ms v :=
  ⟨(hb.block _ (Array.getElem?_eq_some_iff.1 h.box).1).trans h.box, h.row.kept (below_grown hb) (own_none _), grown_step h.gr (below_grown hb) (fun _ _ _ => by simp), h.own⟩
theorem FxSt.grow {base : Nat} {w A W : World} {mv : Value} {t : Tm} {sl : Value} {ms ms' : List Sy} {v v' : Value} (h : FxSt base w A mv t sl ms v) (hlt : ∀ j, mv.ownBlock = some j → j < w.heap.size) (hg : A.grownBy W v.ownBlock) (ho : W.ownsRow base 141 2 v' ms'.length (syCells ms')) (hat : v'.ownBlock = v.ownBlock ∨ ∃ j, v'.ownBlock = some j ∧ A.heap.size ≤ j) : FxSt base w W mv t sl ms' v' := by
  have hz := (Array.getElem?_eq_some_iff.1 h.box).1
  refine ⟨(hg.block _ hz fun e => ?_).trans h.box, ho, grown_step h.gr hg fun i hi hne e => ?_, ?_⟩
  · rcases h.own with e2 | ⟨j, e2, hj⟩
    · have := hlt _ (e2.symm.trans e.symm); omega
    · rw [e2] at e; cases e; omega
  · rcases h.own with e2 | ⟨j, e2, hj⟩
    · exact hne (e.trans e2)
    · rw [e2] at e; cases e; omega
  · rcases hat with e | ⟨j, e, hj⟩
    · rw [e]; exact h.own
    · exact .inr ⟨j, e, by omega⟩
theorem FxSt.low {base : Nat} {w W : World} {mv : Value} {t : Tm} {sl : Value} {ms : List Sy} {v : Value} (h : FxSt base w W mv t sl ms v) (hb : base ≤ w.heap.size) (hm : ∀ j, mv.ownBlock = some j → base ≤ j) : Below base w W :=
  ⟨h.gr.os, h.gr.tape, h.gr.output, h.gr.size, fun i hi => h.gr.block i (by omega) fun e => by have := hm _ e.symm; omega⟩
/-- an entry of the row -/
theorem syGet {base : Nat} {W : World} {ms : List Sy} {v : Value} (h : W.ownsRow base 141 2 v ms.length (syCells ms)) {k : Nat} (hk : k < ms.length) :
    ∃ gg cap p, v = .slice (some ⟨gg, 0, none⟩) ms.length cap ∧ ms[k]? = some p ∧ W.cell? ⟨gg, k * 2, none⟩ = some (.string (kb p.1)) ∧ W.cell? ⟨gg, k * 2 + 1, none⟩ = some (.int .i64 p.2) := by
  have h0 := h
  rcases h.2 with ⟨rfl, hl⟩ | ⟨gg, cap, cur, rfl, hbg, hg, hle, _⟩
  · omega
  · have hp : ms[k]? = some ms[k] := List.getElem?_eq_getElem hk
    obtain ⟨h1, h2⟩ := syCells_at ms k _ hp
    have key : ∀ j u, (syCells ms)[j]? = some u → W.cell? ⟨gg, 0 + j, none⟩ = some u := fun j u hj => by
      have := h0.cells (g := gg) rfl j u hj
      rwa [ad_add] at this
    refine ⟨gg, cap, ms[k], rfl, hp, ?_, ?_⟩
    · have := key _ _ h1; rwa [Nat.zero_add] at this
    · have := key _ _ h2; rwa [Nat.zero_add] at this
theorem infoSym : (Tryz.prog.info? 141).map (fun i => (i.zero, i.size, i.bytes)) = some (some (.agg #[.string ⟨#[]⟩, .int .i64 0]), 2, 24) := by kernel_rfl
theorem cells_new2 (W : World) (a b : Value) (e : TypeId) : ∀ j u, [a, b][j]? = some u → (W.alloc (.cells #[a, b] e)).cell? ((⟨W.heap.size, 0, none⟩ : Addr).add j) = some u := by
  intro j u hj
  rw [ad_add, Nat.zero_add]
  have h := cells_of' (heap_new_at W (.cells #[a, b] e) W.heap.size rfl) j
  rw [h, ← Array.getElem?_toList]
  exact hj
end Go.Proofs.YtnomppdmhgefiaaGreat
