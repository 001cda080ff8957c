/- Packed: ShelfI, Itr, Elm, Ucl. -/
import Derived.Shelf.SlIter.Nil
import Derived.Shelf.SortM.Plain
import Derived.Shelf.SortM.SortNone
import Derived.Ground.GgzProg
import Derived.Ground.SlgmProg
import Derived.Test.YtamddagmlanijaaGreatProg
import Derived.Test.YtamddagmlanijaaGreatP09
import Derived.WalkKit
import Derived.ProofKit
import Derived.Test.YtamddagmlanijaaGreatP07
import Derived.Test.YtamddagmlanijaaGreatP08
import Derived.OpenShut
import Derived.Handy
import Derived.Lib.Hide
import Derived.Deep.RegionHeld3
/-
  DERIVED: THE SHELF's CONTRACTS AT THIS DUMP, IN PLAIN WORDS (tools/lay-plain.mjs out of 'TryzIter.lean', which tools/lay-shelf.mjs wrote): THE SAME DECLARATIONS UNDER THE SAME NAMES: 'import', 'namespace', 'open', 'def', 'theorem' AND NOTHING ELSE: no command of the shelf's: FOR A HAND-IN. Each laying: the table of numbers ('.._ren') and one theorem, a field a fact of the dump's own or the kernel's comparison; each contract: ONE APPLICATION.
-/
namespace Go.Proofs
open Go.RowKit Go.Maps Go.Sort Go.Shelf
def Tryz.sorted196_ren : Go.Shelf.Ren := ⟨fun | 6 => 196 | 8 => 252 | 9 => 253 | 11 => 277 | 13 => 173 | 12 => 278 | 23 => 236 | 24 => 237 | 14 => 287 | 15 => 288 | 16 => 289 | 17 => 290 | 18 => 291 | 19 => 292 | 20 => 293 | 21 => 294 | 22 => 295 | 25 => 296 | 26 => 269 | 27 => 270 | 28 => 297 | 29 => 298 | 30 => 299 | 31 => 300 | n => n, fun | 26 => 9 | 28 => 256 | 24 => 51 | 0 => 0 | 3 => 3 | 37 => 236 | 48 => 296 | 50 => 47 | 4 => 4 | 40 => 290 | 39 => 289 | 45 => 202 | 5 => 5 | 9 => 9 | 51 => 315 | 55 => 319 | 57 => 334 | 58 => 136 | 33 => 187 | n => n, fun | n => n⟩
theorem Tryz.sorted196 : Go.Proofs.SlLaysZ.n6 Tryz.prog Tryz.sorted196_ren := {
  mixed := by kernel_rfl
  f6 := ⟨Tryz.f196.name, by decide, Tryz.func196.trans (congrArg some (by kernel_rfl))⟩
  f8 := ⟨Tryz.f252.name, by decide, Tryz.func252.trans (congrArg some (by kernel_rfl))⟩
  f11 := ⟨Tryz.f277.name, by decide, Tryz.func277.trans (congrArg some (by kernel_rfl))⟩
  t0 := Tryz.underlying0
  a0 := Tryz.isAgg0
  z0 := Tryz.sizeOf0
  v0 := Tryz.zeroValue0
  t24 := Tryz.underlying51
  a24 := Tryz.isAgg51
  z24 := Tryz.sizeOf51
  v24 := Tryz.zeroValue51
  t26 := Tryz.underlying9
  a26 := Tryz.isAgg9
  z26 := Tryz.sizeOf9
  v26 := Tryz.zeroValue9
  t28 := Tryz.underlying256
  a28 := Tryz.isAgg256
  z28 := Tryz.sizeOf256
  v28 := Tryz.zeroValue256
  i26 := by kernel_rfl }
def Tryz.sort253_ren : Go.Shelf.Ren := ⟨fun | 6 => 253 | 8 => 173 | 9 => 278 | 19 => 236 | 20 => 237 | 21 => 287 | 22 => 288 | 23 => 289 | 24 => 290 | 25 => 291 | 26 => 292 | 27 => 293 | 28 => 294 | 29 => 295 | 36 => 296 | 31 => 269 | 32 => 270 | 37 => 297 | 38 => 298 | 39 => 299 | 41 => 300 | n => n, fun | 27 => 51 | 29 => 9 | 3 => 3 | 32 => 236 | 26 => 51 | 0 => 0 | 44 => 296 | 46 => 47 | 4 => 4 | 36 => 290 | 35 => 289 | 41 => 202 | 5 => 5 | 9 => 9 | 53 => 315 | 57 => 319 | 63 => 334 | 64 => 136 | n => n, fun | n => n⟩
theorem Tryz.sort253 : Go.Proofs.SlLaysM.n6 Tryz.prog Tryz.sort253_ren := {
  mixed := by kernel_rfl
  f6 := ⟨Tryz.f253.name, by decide, Tryz.func253.trans (congrArg some (by kernel_rfl))⟩
  f8 := Tryz.func173.trans (congrArg some (by kernel_rfl))
  f9 := ⟨Tryz.f278.name, by decide, Tryz.func278.trans (congrArg some (by kernel_rfl))⟩
  f19 := Tryz.func236.trans (congrArg some (by kernel_rfl))
  f20 := Tryz.func237.trans (congrArg some (by kernel_rfl))
  f21 := ⟨Tryz.f287.name, by decide, Tryz.func287.trans (congrArg some (by kernel_rfl))⟩
  f22 := ⟨Tryz.f288.name, by decide, Tryz.func288.trans (congrArg some (by kernel_rfl))⟩
  f23 := ⟨Tryz.f289.name, by decide, Tryz.func289.trans (congrArg some (by kernel_rfl))⟩
  f24 := ⟨Tryz.f290.name, by decide, Tryz.func290.trans (congrArg some (by kernel_rfl))⟩
  f25 := ⟨Tryz.f291.name, by decide, Tryz.func291.trans (congrArg some (by kernel_rfl))⟩
  f26 := ⟨Tryz.f292.name, by decide, Tryz.func292.trans (congrArg some (by kernel_rfl))⟩
  f27 := ⟨Tryz.f293.name, by decide, Tryz.func293.trans (congrArg some (by kernel_rfl))⟩
  f28 := ⟨Tryz.f294.name, by decide, Tryz.func294.trans (congrArg some (by kernel_rfl))⟩
  f29 := ⟨Tryz.f295.name, by decide, Tryz.func295.trans (congrArg some (by kernel_rfl))⟩
  f31 := Tryz.func269.trans (congrArg some (by kernel_rfl))
  f32 := Tryz.func270.trans (congrArg some (by kernel_rfl))
  f36 := ⟨Tryz.f296.name, by decide, Tryz.func296.trans (congrArg some (by kernel_rfl))⟩
  f37 := ⟨Tryz.f297.name, by decide, Tryz.func297.trans (congrArg some (by kernel_rfl))⟩
  f38 := ⟨Tryz.f298.name, by decide, Tryz.func298.trans (congrArg some (by kernel_rfl))⟩
  f39 := ⟨Tryz.f299.name, by decide, Tryz.func299.trans (congrArg some (by kernel_rfl))⟩
  f41 := ⟨Tryz.f300.name, by decide, Tryz.func300.trans (congrArg some (by kernel_rfl))⟩
  t0 := Tryz.underlying0
  a0 := Tryz.isAgg0
  z0 := Tryz.sizeOf0
  v0 := Tryz.zeroValue0
  t3 := Tryz.underlying3
  a3 := Tryz.isAgg3
  z3 := Tryz.sizeOf3
  v3 := Tryz.zeroValue3
  t4 := Tryz.underlying4
  a4 := Tryz.isAgg4
  z4 := Tryz.sizeOf4
  v4 := Tryz.zeroValue4
  t5 := Tryz.underlying5
  a5 := Tryz.isAgg5
  z5 := Tryz.sizeOf5
  v5 := Tryz.zeroValue5
  t9 := Tryz.underlying9
  a9 := Tryz.isAgg9
  z9 := Tryz.sizeOf9
  v9 := Tryz.zeroValue9
  t26 := Tryz.underlying51
  a26 := Tryz.isAgg51
  z26 := Tryz.sizeOf51
  v26 := Tryz.zeroValue51
  t27 := Tryz.underlying51
  a27 := Tryz.isAgg51
  z27 := Tryz.sizeOf51
  v27 := Tryz.zeroValue51
  t29 := Tryz.underlying9
  a29 := Tryz.isAgg9
  z29 := Tryz.sizeOf9
  v29 := Tryz.zeroValue9
  t32 := Tryz.underlying236
  a32 := Tryz.isAgg236
  z32 := Tryz.sizeOf236
  v32 := Tryz.zeroValue236
  t35 := Tryz.underlying289
  a35 := Tryz.isAgg289
  z35 := Tryz.sizeOf289
  v35 := Tryz.zeroValue289
  t36 := Tryz.underlying290
  a36 := Tryz.isAgg290
  z36 := Tryz.sizeOf290
  v36 := Tryz.zeroValue290
  t41 := Tryz.underlying202
  a41 := Tryz.isAgg202
  z41 := Tryz.sizeOf202
  v41 := Tryz.zeroValue202
  t44 := Tryz.underlying296
  a44 := Tryz.isAgg296
  z44 := Tryz.sizeOf296
  v44 := Tryz.zeroValue296
  t46 := Tryz.underlying47
  a46 := Tryz.isAgg47
  z46 := Tryz.sizeOf47
  v46 := Tryz.zeroValue47
  t53 := Tryz.underlying315
  a53 := Tryz.isAgg315
  z53 := Tryz.sizeOf315
  v53 := Tryz.zeroValue315
  t57 := Tryz.underlying319
  a57 := Tryz.isAgg319
  z57 := Tryz.sizeOf319
  v57 := Tryz.zeroValue319
  t63 := Tryz.underlying334
  a63 := Tryz.isAgg334
  z63 := Tryz.sizeOf334
  v63 := Tryz.zeroValue334
  t64 := Tryz.underlying136
  a64 := Tryz.isAgg136
  z64 := Tryz.sizeOf136
  v64 := Tryz.zeroValue136 }
def Tryz.keys226_ren : Go.Shelf.Ren := ⟨fun | 7 => 226 | 10 => 267 | n => n, fun | 23 => 232 | 26 => 9 | 3 => 25 | 28 => 256 | 0 => 0 | 27 => 255 | 33 => 187 | 4 => 4 | n => n, fun | n => n⟩
theorem Tryz.keys226 : Go.Proofs.SlLaysZ.n7 Tryz.prog Tryz.keys226_ren := {
  mixed := by kernel_rfl
  f7 := ⟨Tryz.f226.name, by decide, Tryz.func226.trans (congrArg some (by kernel_rfl))⟩
  f10 := ⟨Tryz.f267.name, by decide, Tryz.func267.trans (congrArg some (by kernel_rfl))⟩
  t0 := Tryz.underlying0
  a0 := Tryz.isAgg0
  z0 := Tryz.sizeOf0
  v0 := Tryz.zeroValue0
  t4 := Tryz.underlying4
  a4 := Tryz.isAgg4
  z4 := Tryz.sizeOf4
  v4 := Tryz.zeroValue4
  t23 := Tryz.underlying232
  a23 := Tryz.isAgg232
  z23 := Tryz.sizeOf232
  v23 := Tryz.zeroValue232
  t26 := Tryz.underlying9
  a26 := Tryz.isAgg9
  z26 := Tryz.sizeOf9
  v26 := Tryz.zeroValue9
  t27 := Tryz.underlying255
  a27 := Tryz.isAgg255
  z27 := Tryz.sizeOf255
  v27 := Tryz.zeroValue255
  t28 := Tryz.underlying256
  a28 := Tryz.isAgg256
  z28 := Tryz.sizeOf256
  v28 := Tryz.zeroValue256
  t33 := Tryz.underlying187
  a33 := Tryz.isAgg187
  z33 := Tryz.sizeOf187
  v33 := Tryz.zeroValue187 }

/-- slices.Sort's two contracts at this dump, at the fence that asks nothing. -/
theorem Tryz.sorts196 (m : Nat) : AnyZ.SortsIn Tryz.prog Tryz.sorted196_ren Fence.wide m :=
  ⟨fun blk off cap ss W hH hblk hsz => callsIn_wide.2 (AnyM.slices_Sort_string Tryz.sort253 blk off cap ss W hH hblk hsz),
   fun p cap W => callsIn_wide.2 (AnyM.slices_Sort_string_none Tryz.sort253 p cap W)⟩

/-- **maps.Keys[dwindle/unify.matcher,string,dwindle/api.Term], at whatever map, the nil one too:** a function value over ONE NEW BLOCK, which holds the map. -/
theorem Tryz.maps_Keys_226 (mb : Option Nat) (W : World) : CallsIn Fence.wide 5 Tryz.prog 226 #[.map mb] W fun e w' => e = .returned (.func (.func 267) #[] #[.pointer (some ⟨W.heap.size, 0, none⟩)]) ∧ w' = W.alloc (.cells #[.map mb] 232) :=
  AnyZ.keys_in Tryz.keys226 Fence.wide 5 trivial rfl mb W

set_option maxHeartbeats 1000000 in
/-- **slices.Sorted[string] AT WHAT maps.Keys[dwindle/unify.matcher,string,dwindle/api.Term] HANDED BACK FOR A MAP THAT IS NOT nil** ('w': the world AHEAD of maps.Keys' call): A NEW SLICE THAT HOLDS THE MAP's KEYS, SORTED; nil just where it has none; nothing that lay before has turned. -/
theorem Tryz.slices_Sorted_keys_196_226 {H : Type} (b nn : Nat) (D0 : DataW H) (R : Value → Option (DataW H × List MemPlace)) (w : World) (hown : w.ownsMap Tryz.prog 9 R b nn D0) (hmax : Maps.size D0 ≤ maxLen) (hbytes : Maps.size D0 * 16 ≤ 140737488355328) :
    CallsIn Fence.wide 5 Tryz.prog 196 #[.func (.func 267) #[] #[.pointer (some ⟨w.heap.size, 0, none⟩)]] (w.alloc (.cells #[.map (some b)] 232)) fun e w' => ∃ (v : Value) (ss : List (List UInt8)), e = .returned v ∧ ss.Perm (strKeys D0) ∧
      w'.ownsRow (w.alloc (.cells #[.map (some b)] 232)).heap.size 9 1 v ss.length ((ss.mergeSort (fun x y => decide (x ≤ y))).map encStr) ∧ (v = .slice none 0 0 ↔ ss = []) ∧ Below (w.alloc (.cells #[.map (some b)] 232)).heap.size (w.alloc (.cells #[.map (some b)] 232)) w' := by
  have hbl := hown.lt
  have hseq : SeqGives Fence.wide 2 Tryz.prog 267 #[.pointer (some ⟨w.heap.size, 0, none⟩)] encStr (fun ss => ss.Perm (strKeys D0)) (Maps.size D0) (w.alloc (.cells #[.map (some b)] 232)) :=
    AnyZ.keys_gives (ρ := Tryz.keys226_ren) { Tryz.keys226 with } Fence.wide _ trivial rfl (by omega) w.heap.size b nn D0 _ (by simp) (by simp) (by
      obtain ⟨es, clock, hb, Ft, hs, hD⟩ := hown
      exact ⟨es, clock, (Below.heap_alloc _ _ b hbl).trans hb, Ft, hs, hD⟩)
  exact AnyZ.sorted_in Tryz.sorted196 Fence.wide 5 trivial trivial trivial trivial rfl (by omega) (Tryz.sorts196 _) (enters_of Tryz.func253 (by kernel_rfl) rfl) 267 #[.pointer (some ⟨w.heap.size, 0, none⟩)] trivial (enters_of Tryz.func267 (by kernel_rfl) rfl) _ _ hmax hbytes _ hseq

end Go.Proofs
/- The sorted keys of a map of terms, of a map of strings. -/
namespace Go.Proofs.YtamddagmlanijaaGreat
open Go.RowKit Go.Maps Go.Sort

/-- the names in order -/
def sortK (l : List Key) : List Key := l.mergeSort (fun x y => decide (x ≤ y))
theorem keysM_any (mb : Nat) (W : World) : Calls Tryz.prog 226 #[.map (some mb)] W fun e w' => e = .returned (.func (.func 267) #[] #[.pointer (some ⟨W.heap.size, 0, none⟩)]) ∧ W.alloc (.cells #[.map (some mb)] 232) = w' :=
  (callsIn_wide.1 (Tryz.maps_Keys_226 (some mb) W)).mono fun _ _ ⟨h1, h2⟩ => ⟨h1, h2.symm⟩
theorem strs_enc (l : List Key) : l.map encStr = strs l := rfl
theorem sortK_perm (l : List Key) : (sortK l).Perm l := List.mergeSort_perm l _
theorem sortK_len (l : List Key) : (sortK l).length = l.length := (sortK_perm l).length_eq
theorem sortK_mem {l : List Key} {x : Key} : x ∈ sortK l ↔ x ∈ l := (sortK_perm l).mem_iff
theorem sortK_order {l : List Key} (hn : l.Nodup) : (sortK l).Pairwise (· < ·) := by
  have tr : ∀ a b c : List UInt8, leB a b = true → leB b c = true → leB a c = true := fun a b c h1 h2 => by simp only [leB, decide_eq_true_eq] at *; exact List.le_trans h1 h2
  have to : ∀ a b : List UInt8, (leB a b || leB b a) = true := fun a b => by simp only [leB, Bool.or_eq_true, decide_eq_true_eq]; exact List.le_total a b
  have h1 := List.pairwise_mergeSort tr to l
  have h2 : (sortK l).Nodup := (sortK_perm l).nodup_iff.2 hn
  refine List.Pairwise.imp₂ (R := fun a b => leB a b = true) (S := fun a b => a ≠ b) (fun a b h3 h4 => ?_) h1 h2
  simp only [leB, decide_eq_true_eq] at h3
  exact Classical.byContradiction fun h => h4 (List.le_antisymm h3 (List.not_lt.1 h))
/-- the keys of a datum that has just these keys -/
theorem keys_perm {H : Type} {n b : Nat} {D : DataW H} {R : Value → Option (DataW H × List MemPlace)} {w : World} {ks ss : List Key} (ho : w.ownsMap Tryz.prog 9 R b n D) (hn : ks.Nodup) (hh : ∀ k, Maps.has D (.string k) = decide (k ∈ ks)) (hs : ss.Perm (strKeys D)) : ss.mergeSort (fun x y => decide (x ≤ y)) = sortK ks :=
  mergeSort_of_perm (hs.trans (Collected.perm (left := fun _ => false) ⟨hn, fun x => by rw [hh]; simp⟩ ho strKeyed Tryz.underlying9 (fun _ => rfl)).symm)
theorem sortedM_any {n : Nat} (mb : Nat) (m : List Bd) (W : World) (h : TMap n W mb m) (hl : m.length ≤ 1048576) :
    Calls Tryz.prog 196 #[.func (.func 267) #[] #[.pointer (some ⟨W.heap.size, 0, none⟩)]] (W.alloc (.cells #[.map (some mb)] 232)) fun e w' => (∃ v, e = .returned v ∧ StrIs w'.heap.size w' (sortK (m.map (·.1))) v) ∧ Below W.heap.size W w' := by
  obtain ⟨D, ho, hi⟩ := h
  refine (callsIn_wide.1 (Tryz.slices_Sorted_keys_196_226 mb _ D imgR W ho (by rw [hi.size]; unfold maxLen; omega) (by rw [hi.size]; omega))).mono ?_
  rintro e w' ⟨v, ss, rfl, hp, hrow, -, hb⟩
  rw [keys_perm ho hi.nodup hi.has hp, strs_enc] at hrow
  have hlen : ss.length = (sortK (m.map (·.1))).length := by rw [← keys_perm ho hi.nodup hi.has hp, List.length_mergeSort]
  rw [hlen] at hrow
  exact ⟨⟨v, rfl, StrIs.ofRow hrow⟩, Below.trans (by go_grown) (hb.mono (by simp))⟩
end Go.Proofs.YtamddagmlanijaaGreat
/- Bindings being appended, each with a term in new memory. -/
namespace Go.Proofs.YtamddagmlanijaaGreat
open Go.RowKit

/-- a binding as it lies: its name, its term, the slice of the term's arguments -/
abbrev Elem := Bd × (Option Addr × Nat × Nat)
instance : Inhabited Elem := ⟨(([], .mk ⟨#[]⟩ true []), (none, 0, 0))⟩
def Elem.sl (x : Elem) : Value := .slice x.2.1 x.2.2.1 x.2.2.2
def encE (x : Elem) : List Value := [.string (kb x.1.1), .string x.1.2.nm, .bool x.1.2.vr, .slice x.2.1 x.2.2.1 x.2.2.2]
def ecells (l : List Elem) : List Value := l.flatMap encE
theorem ecells_append (a b : List Elem) : ecells (a ++ b) = ecells a ++ ecells b := by simp [ecells]
theorem ecells_at (l : List Elem) (i c : Nat) (x : Elem) (h : l[i]? = some x) (hc : c < 4) : (ecells l)[i * 4 + c]? = (encE x)[c]? := by
  induction l generalizing i with
  | nil => simp at h
  | cons q l ih =>
    cases i with
    | zero =>
      simp at h; subst h
      rw [show ecells (q :: l) = encE q ++ ecells l from rfl, Nat.zero_mul, Nat.zero_add, List.getElem?_append_left (by show c < 4; exact hc)]
    | succ i =>
      rw [show ecells (q :: l) = encE q ++ ecells l from rfl, List.getElem?_append_right (by show 4 ≤ _; omega), show (i + 1) * 4 + c - (encE q).length = i * 4 + c by show (i + 1) * 4 + c - 4 = _; omega]
      exact ih i (by simpa using h)
/-- the elements that have been made -/
structure CmpSt (w W : World) (v : Value) (es : List Elem) : Prop where
  row : W.ownsRow w.heap.size 134 4 v es.length (ecells es)
  kids : ∀ x ∈ es, SlP (fun b => w.heap.size ≤ b ∧ b < W.heap.size ∧ some b ≠ v.ownBlock) W x.1.2.ts (Elem.sl x)
  low : Below w.heap.size w W
theorem CmpSt.below {w W A : World} {v : Value} {es : List Elem} (h : CmpSt w W v es) (hb : Below W.heap.size W A) : CmpSt w A v es :=
  ⟨h.row.kept (below_grown hb) (own_none _), fun x hx => (h.kids x hx).carry fun b hb' => ⟨hb.block b hb'.2.1, hb'.1, Nat.lt_of_lt_of_le hb'.2.1 hb.size, hb'.2.2⟩, h.low.trans (hb.mono h.low.size)⟩
/-- one more -/
theorem CmpSt.step {w W B W5 : World} {v v5 : Value} {es : List Elem} {x : Elem} (h : CmpSt w W v es) (hB : Below W.heap.size W B) (hx : SlP (fun b => W.heap.size ≤ b ∧ b < B.heap.size) B x.1.2.ts (Elem.sl x)) (h5 : B.grownBy W5 v.ownBlock)
    (ho : W5.ownsRow w.heap.size 134 4 v5 (es.length + 1) (ecells es ++ encE x)) (hat : v5.ownBlock = v.ownBlock ∨ v5.ownBlock = some B.heap.size) : CmpSt w W5 v5 (es ++ [x]) := by
  have z0 := h.low.size
  have zB := hB.size
  have z5 := h5.size
  have own : ∀ j, v.ownBlock = some j → w.heap.size ≤ j ∧ j < W.heap.size := fun j hj => h.row.lt j hj
  refine ⟨?_, ?_, ?_⟩
  · rw [List.length_append, ecells_append, show ecells [x] = encE x by simp [ecells]]; exact ho
  · intro y hy
    rcases List.mem_append.1 hy with hy | hy
    · refine (h.kids y hy).carry fun b hb => ⟨(h5.block b (by omega) hb.2.2).trans (hB.block b hb.2.1), hb.1, by omega, ?_⟩
      rcases hat with e | e
      · rw [e]; exact hb.2.2
      · rw [e]; intro hh; cases hh; omega
    · obtain rfl := List.mem_singleton.1 hy
      refine hx.carry fun b hb => ⟨h5.block b hb.2 (fun e => by have := own _ e.symm; omega), by omega, by omega, ?_⟩
      rcases hat with e | e
      · rw [e]; intro hh; have := own _ hh.symm; omega
      · rw [e]; intro hh; cases hh; omega
  · exact (h.low.trans (hB.mono z0)).grown h5 (by omega) (fun j hj => (own j hj).1)
theorem CmpSt.start (w : World) : CmpSt w w (.slice none 0 0) [] := ⟨World.ownsRow_nil _ _ _ _, by simp, Below.refl _ _⟩

theorem apB_formed {bl : List Bd} (h : ∀ p ∈ bl, p.2.formed) {t : Tm} (ht : t.formed) : (apB bl t).formed := by
  induction t using Tm.ind with
  | h t ih =>
    obtain ⟨h1, h2⟩ := (Tm.formed_iff t).1 ht
    cases hv : t.vr
    · rw [apB_fun bl hv, Tm.formed_iff]
      rw [hv] at h1
      refine ⟨by simpa [Tm.nm, Tm.vr, Tm.ts] using h1, fun u hu => ?_⟩
      obtain ⟨x, hx, rfl⟩ := List.mem_map.1 hu
      exact ih x hx (h2 x hx)
    · rw [apB_var bl hv]
      unfold imageOf
      cases hf : bl.find? (fun p => decide (p.1 = t.nm.data.toList)) with
      | some p => exact h p (List.mem_of_find?_eq_some hf)
      | none =>
        rw [Tm.formed_iff]
        rw [hv] at h1
        refine ⟨?_, fun u hu => by cases hu⟩
        simp only [Tm.nm, Tm.vr, Tm.ts, kb_key]
        simp only [nodeOk, if_true, Bool.and_eq_true] at h1 ⊢
        exact ⟨h1.1, rfl⟩
theorem cells_new4 (W : World) (x : Elem) (e : TypeId) : ∀ j u, (encE x)[j]? = some u → (W.alloc (.cells #[.string (kb x.1.1), .string x.1.2.nm, .bool x.1.2.vr, .slice x.2.1 x.2.2.1 x.2.2.2] e)).cell? ((⟨W.heap.size, 0, none⟩ : Addr).add j) = some u := cells_new W _ _ _ _ e
theorem encE_one (x : Elem) : ∀ v ∈ encE x, v.oneCell' = true := fun v hv => by simp [encE] at hv; rcases hv with rfl | rfl | rfl | rfl <;> rfl

/-- the row as bindings -/
theorem BindsIs.ofE {W : World} {m n : Nat} {e : TypeId} {v : Value} {es : List Elem} (h : W.ownsRow m e 4 v es.length (ecells es)) (hn : W.heap.size ≤ n) (hk : ∀ x ∈ es, SlIs n W x.1.2.ts (Elem.sl x)) : BindsIs n W (es.map (·.1)) v := by
  have h0 := h
  rcases h.2 with ⟨rfl, hl⟩ | ⟨g, cap, cur, rfl, hb, hg, hle, _⟩
  · obtain rfl : es = [] := List.length_eq_zero_iff.1 hl
    exact ⟨none, 0, rfl, Nat.le_refl _, fun h => absurd rfl h⟩
  · refine ⟨_, cap, by rw [List.length_map], by rw [List.length_map]; exact hle, fun _ => ⟨g, 0, rfl, Nat.lt_of_lt_of_le (Array.getElem?_eq_some_iff.1 hg).1 hn, fun i p hp => ?_⟩⟩
    rw [List.getElem?_map, Option.map_eq_some_iff] at hp
    obtain ⟨x, hx, rfl⟩ := hp
    have key : ∀ c v, (encE x)[c]? = some v → c < 4 → W.cell? ⟨g, 0 + i * 4 + c, none⟩ = some v := fun c v hv hc => by
      have h1 := ecells_at es i c x hx hc
      rw [hv] at h1
      have := h0.cells (g := g) rfl _ v h1
      rw [ad_add] at this
      rwa [Nat.zero_add] at this ⊢
    exact ⟨Elem.sl x, key 0 _ rfl (by omega), key 1 _ rfl (by omega), key 2 _ rfl (by omega), key 3 _ rfl (by omega), hk x (List.mem_of_getElem? hx)⟩
end Go.Proofs.YtamddagmlanijaaGreat
/- Package unify's clone. -/
namespace Go.Proofs.YtamddagmlanijaaGreat
open Go.RowKit

/-- nothing replaced -/
theorem apB_none {t : Tm} (h : t.bare) : apB [] t = t := by
  induction t using Tm.ind with
  | h t ih =>
    cases hv : t.vr
    · rw [apB_fun [] hv]
      have key : ∀ l : List Tm, (∀ u ∈ l, u ∈ t.ts) → l.map (apB []) = l := by
        intro l
        induction l with
        | nil => intro _; rfl
        | cons x l ihl => intro hs; rw [List.map_cons, ih x (hs x (by simp)) (h.kids x (hs x (by simp))), ihl fun u hu => hs u (by simp [hu])]
      rw [key t.ts fun u hu => hu]
      exact Tm.ext' (a := .mk t.nm false t.ts) (b := t) rfl hv.symm rfl
    · rw [apB_var [] hv, imageOf_out (by simp), kb_key]
      exact Tm.ext' (a := .mk t.nm true []) (b := t) rfl hv.symm (h.vr0 hv).symm

set_option maxRecDepth 100000 in
set_option maxHeartbeats 4000000 in
theorem uclone_ap (t : Tm) (hbare : t.bare) : ∀ (s : Value) (w : World), SlIs w.heap.size w t.ts s → t.bulk ≤ 1048576 →
    Calls Tryz.prog 227 #[tmv t s] w fun e w' => (∃ sl, e = .returned (tmv (apB [] t) sl) ∧ SlP (fun b => b < 0 ∨ w.heap.size ≤ b) w' (apB [] t).ts sl) ∧ Below w.heap.size w w' := by
  induction t using Tm.ind with
  | h t ih =>
    intro s w hs hb
    obtain ⟨oa, ca, rfl, -⟩ := hs.form
    by_cases hv : t.vr = true
    · have h0 : t.ts.length = 0 := by rw [hbare.vr0 hv]; rfl
      have HA : Hid (apB [] t = .mk t.nm true []) := Lib.hid (by rw [apB_var [] hv, imageOf_out (by simp), kb_key])
      clear hs ih
      go_enter Tryz.func227, Tryz.ntmps227
      rw [show tmv t (.slice oa t.ts.length ca) = .agg #[.string t.nm, .bool true, .slice oa 0 ca] from by rw [tmv, hv, h0]]
      clear h0 hv
      go_wp2_with fail
      go_rounds 1
      refine bodyPost_ret (v := .agg #[.string t.nm, .bool true, .slice none 0 0]) (by simp [results, Tryz.f227, go_sem]) rfl ?_
      rw [HA.out]
      exact ⟨⟨_, rfl, .nil0⟩, by go_grown⟩
    · have hv : t.vr = false := by simpa using hv
      obtain ⟨i0, hi, hz, hs1, hb1⟩ := info_parts infoTerm
      have HI := Lib.hid hi
      have HZ := Lib.hid hz
      have HS1 := Lib.hid hs1
      have HB1 := Lib.hid hb1
      have HA := Lib.hid (apB_fun [] hv)
      have htl : t.ts.length ≤ 1048576 := by have := Tm.length_sizes t.ts; have := Tm.size_bulk t; have := Tm.size_eq t; omega
      have IH : Hid (∀ u ∈ t.ts, ∀ (s : Value) (w : World), SlIs w.heap.size w u.ts s → u.bulk ≤ 1048576 → Calls Tryz.prog 227 #[tmv u s] w fun e w' => (∃ sl, e = .returned (tmv (apB [] u) sl) ∧ SlP (fun b => b < 0 ∨ w.heap.size ≤ b) w' (apB [] u).ts sl) ∧ Below w.heap.size w w') := Lib.hid fun u hu => ih u hu (hbare.kids u hu)
      have HSL := Lib.hid hs
      have HBK := Lib.hid hb
      clear ih hs hb hi hz hs1 hb1
      go_enter Tryz.func227, Tryz.ntmps227
      rw [show tmv t (.slice oa t.ts.length ca) = .agg #[.string t.nm, .bool t.vr, .slice oa t.ts.length ca] from rfl, hv]
      go_wp2_with fail
      have hb0 : Below w.heap.size w (((w.alloc (.cells #[.string t.nm, .bool false, .slice oa t.ts.length ca] 25)).alloc (.cells #[.string ⟨#[]⟩, .bool false, .slice none 0 0] 25)).alloc (.cells #[.string t.nm, .bool false, .slice none 0 0] 25)) := by go_grown
      have HST0 := Lib.hid (ApSt.start (n₀ := 0) (bl := []) (nm := t.nm) (l := t.ts) hb0 (heap_new_at _ _ _ (by simp)) ((Below.heap_alloc _ _ _ (by simp)).trans (heap_new_at _ _ _ (by simp))))
      clear hb0
      go_loopw [14] (fun i wr => ∃ (k : Nat) (v : Value) (ch : List (Tm × Value)), k ≤ t.ts.length ∧ i = .int .i64 k ∧ Hid (ApSt 0 w [] t.nm t.ts k wr v ch)) (fun i _ => t.ts.length - (intOf i).toNat)
      case atStart => exact ⟨0, _, _, by omega, rfl, HST0⟩
      case round =>
        obtain ⟨k, v, ch, hk, rfl, HST⟩ := hrel
        have hst := HST.out
        have hzo := (Array.getElem?_eq_some_iff.1 hst.out).1
        by_cases hlt : k < t.ts.length
        · obtain ⟨b, o, u, su, rfl, hbb, hu, hum, hus, c1, c2, c3⟩ := (HSL.out.carry hst.low (Nat.le_refl _)).get (k := k) hlt
          obtain ⟨ou, cu, rfl, -⟩ := hus.form
          obtain ⟨ov, cv, rfl⟩ := ownsRow_shape hst.row
          have HCHL : Hid (ch.length = k) := Lib.hid (by have := congrArg List.length hst.terms; simp at this; omega)
          have HLOWA : Hid (Below wr.heap.size wr (wr.alloc (.cells #[.string u.nm, .bool u.vr, .slice ou u.ts.length cu] 25)).drew) := Lib.hid (by go_grown)
          have hub : u.bulk ≤ 1048576 := by have := Tm.bulk_mem hum; have := Tm.bulk_eq t; have := HBK.out; omega
          have hout := (Below.heap_alloc wr (.cells #[.string u.nm, .bool u.vr, .slice ou u.ts.length cu] 25) (w.heap.size + 2) (by omega)).trans hst.out
          obtain ⟨⟨x0, x1, x2⟩, f0, f1, f2⟩ := box3 hout
          have hown : ∀ j, (Value.slice ov ch.length cv).ownBlock = some j → w.heap.size + 3 ≤ j ∧ j < wr.heap.size := fun j hj => hst.row.lt j hj
          have HOWN := Lib.hid hown
          have HOUT := Lib.hid hout
          have HU := Lib.hid hu
          have hz := hst.low.size
          have IHu := fun W1 (hW : Below wr.heap.size wr W1) => Lib.hid (IH.out u hum _ W1 (hus.carry (B := W1) (hW.mono hz) (by have := hW.size; omega)) hub)
          clear hst hu hus hown hout
          go_wp2_with fail
          have hxA := (box3 HOUT.out).1.2.2
          have HYA := Lib.hid (box3 (heap_new_at wr (.cells #[.string u.nm, .bool u.vr, .slice ou u.ts.length cu] 25) _ rfl)).1
          refine wp_region_noPanic ?_
          refine wp_region_held_drew (S := fun w' => w'.cell? ⟨wr.heap.size, 0, none⟩ = some (.string u.nm) ∧ w'.cell? ⟨wr.heap.size, 1, none⟩ = some (.bool u.vr) ∧ w'.cell? ⟨wr.heap.size, 2, none⟩ = some (.slice ou u.ts.length cu)) (by kernel_rfl) HYA.out (fun _ => ?_)
          simp only [List.size_toArray, List.length_cons, List.length_nil, Nat.reduceAdd]
          refine wpAnyH_take (i := 0) (v := ?_) (by simp only [List.getElem?_toArray, List.getElem?_cons_zero]; rfl) (by kernel_rfl) (by kernel_rfl) (by kernel_rfl) (fun _ _ _ h => h) (Or.inl ⟨by rfl, ?_⟩) HYA.out ?_
          case refine_2 => (intro ww hSw; obtain ⟨s1, s2, s3⟩ := hSw; go_simp; try with_reducible rfl)
          try simp only [Act.put, List.setIfInBounds_toArray, List.set_cons_zero, List.set_cons_succ]
          refine wpAnyH_take (i := 2) (v := ?_) (by simp only [List.getElem?_toArray, List.getElem?_cons_zero, List.getElem?_cons_succ]; rfl) (by kernel_rfl) (by kernel_rfl) (by kernel_rfl) (fun _ _ _ h => h) (Or.inl ⟨by rfl, ?_⟩) HYA.out ?_
          case refine_2 => (intro ww hSw; obtain ⟨s1, s2, s3⟩ := hSw; go_simp; try with_reducible rfl)
          try simp only [Act.put, List.setIfInBounds_toArray, List.set_cons_zero, List.set_cons_succ]
          refine wpAnyH_ready (rs := [1, 3]) (by kernel_rfl) (by simp) ?_
          refine AllReadyH.cons (by simp only [List.getElem?_toArray, List.getElem?_cons_zero, List.getElem?_cons_succ]; rfl) (fun K' hK => ?_) ?_
          · go_simp
            refine hK.out _ _ HYA.out (fun _ => ?_)
            clear hK
            try simp only [Act.put, List.setIfInBounds_toArray, List.set_cons_zero, List.set_cons_succ]
            refine wpAnyH_ready (rs := [3]) (by kernel_rfl) (by simp) ?_
            refine AllReadyH.cons (by simp only [List.getElem?_toArray, List.getElem?_cons_zero, List.getElem?_cons_succ]; rfl) (fun K' hK => ?_) AllReadyH.nil
            go_simp
            refine (IHu _ HLOWA.out).out.mono ?_
            rintro e w4 ⟨⟨sl4, rfl, hsl4⟩, hb4⟩
            obtain ⟨o4, c4, rfl⟩ := hsl4.form
            dsimp only [tmv]
            have hout4 := (hb4.block (w.heap.size + 2) (by simp; omega)).trans HOUT.out
            have hbx4 := (hb4.block wr.heap.size (by simp)).trans (heap_new_at wr (.cells #[.string u.nm, .bool u.vr, .slice ou u.ts.length cu] 25) _ rfl)
            obtain ⟨⟨x0, x1, x2⟩, f0, f1, f2⟩ := box3 hout4
            have HY4 := Lib.hid (box3 hbx4).1
            have HSL4 := Lib.hid hsl4
            have HB4 := Lib.hid hb4
            have HOUT4 := Lib.hid hout4
            have HBX4 := Lib.hid hbx4
            have HZ4 := Lib.hid (show wr.heap.size < w4.heap.size from (Array.getElem?_eq_some_iff.1 hbx4).1)
            clear hsl4 hb4 hout4 hbx4
            refine hK.out _ _ HY4.out (fun _ => ?_)
            clear hK
            try simp only [Act.put, List.setIfInBounds_toArray, List.set_cons_zero, List.set_cons_succ]
            refine wpAnyH_ready (rs := [4]) (by kernel_rfl) (by simp) ?_
            refine AllReadyH.cons (by simp only [List.getElem?_toArray, List.getElem?_cons_zero, List.getElem?_cons_succ]; rfl) (fun K' hK => ?_) AllReadyH.nil
            go_simp
            have hy5 := (box3 ((Below.heap_alloc w4 (.cells #[.string (apB [] u).nm, .bool (apB [] u).vr, .slice o4 (apB [] u).ts.length c4] 25) _ HZ4.out).trans HBX4.out)).1
            have hx5 := (box3 ((Below.heap_alloc w4 (.cells #[.string (apB [] u).nm, .bool (apB [] u).vr, .slice o4 (apB [] u).ts.length c4] 25) (w.heap.size + 2) (by have := HZ4.out; omega)).trans HOUT4.out)).1.2.2
            have HY5 := Lib.hid hy5
            clear hy5
            refine hK.out _ _ HY5.out (fun _ => ?_)
            clear hK
            try simp only [Act.put, List.setIfInBounds_toArray, List.set_cons_zero, List.set_cons_succ]
            refine wpAnyH_ready (rs := [5]) (by kernel_rfl) (by simp) ?_
            refine AllReadyH.cons (by simp only [List.getElem?_toArray, List.getElem?_cons_zero, List.getElem?_cons_succ]; rfl) (fun K' hK => ?_) AllReadyH.nil
            refine step_append_opt rfl (.tmp 19) (.tmp 22) 23 rfl (w.heap.size + 3) 25 i0 (.agg #[.string ⟨#[]⟩, .bool false, .slice none 0 0]) 3 48 Tryz.underlying23 HI.out HZ.out HS1.out HB1.out rfl (by decide) (.slice ov ch.length cv) ch.length (stCells ch) rfl (HST.out.row.kept (below_grown (HLOWA.out.trans ((HB4.out.mono (by simp)).alloc (Nat.le_of_lt HZ4.out) _))) (own_none _)) (some ⟨w4.heap.size, 0, none⟩) 1 1 [.string (apB [] u).nm, .bool (apB [] u).vr, .slice o4 (apB [] u).ts.length c4] rfl rfl (fun h => by cases h) (fun ad had => by cases had; exact cells_new3 _ _ _ _ _) (by simp [Value.oneCell']) (by have := HCHL.out; unfold maxLen; omega) (by have := HCHL.out; omega) (by have := HZ4.out; simp; omega) ?_
            intro v5 w5 ho5 hg5 hat5
            obtain ⟨o5, c5, rfl⟩ := ownsRow_shape ho5
            have hout5 := (hg5.block (w.heap.size + 2) (by have := HZ4.out; simp; omega) (fun e => by have := (HOWN.out _ e.symm).1; omega)).trans ((Below.heap_alloc _ _ _ (by have := HZ4.out; omega)).trans HOUT4.out)
            have hbx5 := (hg5.block wr.heap.size (by have := HZ4.out; simp; omega) (fun e => by have := (HOWN.out _ e.symm).2; omega)).trans ((Below.heap_alloc _ _ _ HZ4.out).trans HBX4.out)
            obtain ⟨⟨x0, x1, x2⟩, f0, f1, f2⟩ := box3 hout5
            have HBX5 := Lib.hid hbx5
            have HY6 := Lib.hid (box3 hbx5).1
            have HST5 := Lib.hid (HST.out.step (Nat.zero_le _) HU.out HLOWA.out HB4.out HSL4.out ((Below.refl _ w4).alloc (Nat.le_refl _) _) hg5 ho5 hat5)
            clear ho5 hg5 hat5 hout5 hbx5
            refine hK.out _ _ HY6.out (fun _ => ?_)
            clear hK
            try simp only [Act.put, List.setIfInBounds_toArray, List.set_cons_zero, List.set_cons_succ]
            refine wpAnyH_take (i := 6) (v := ?_) (by simp only [List.getElem?_toArray, List.getElem?_cons_zero, List.getElem?_cons_succ]; rfl) (by kernel_rfl) (by kernel_rfl) (by kernel_rfl) (fun _ _ _ h => h) (Or.inl ⟨by rfl, ?_⟩) HY6.out ?_
            case refine_2 => (intro ww hSw; obtain ⟨s1, s2, s3⟩ := hSw; go_simp; try with_reducible rfl)
            try simp only [Act.put, List.setIfInBounds_toArray, List.set_cons_zero, List.set_cons_succ]
            refine wpAnyH_ready (rs := [7]) (by kernel_rfl) (by simp) ?_
            refine AllReadyH.cons (by simp only [List.getElem?_toArray, List.getElem?_cons_zero, List.getElem?_cons_succ]; rfl) (fun K' hK => ?_) AllReadyH.nil
            go_simp
            have HY7 := Lib.hid (box3 ((Below.heap_setCell w5 ⟨w.heap.size + 2, 2, none⟩ (.slice o5 (ch.length + 1) c5) wr.heap.size (by show wr.heap.size ≠ w.heap.size + 2; omega)).trans HBX5.out)).1
            refine hK.out _ _ HY7.out (fun _ => ?_)
            clear hK
            try simp only [Act.put, List.setIfInBounds_toArray, List.set_cons_zero, List.set_cons_succ]
            refine wpAnyH_done (by kernel_rfl) ?_ _
            refine NoPanic.normal ?_
            go_wp2_with fail
            exact ⟨⟨k + 1, _, _, by omega, by go_num, HST5⟩, by simp [intOf]; omega⟩
          · refine AllReadyH.cons (by simp only [List.getElem?_toArray, List.getElem?_cons_zero, List.getElem?_cons_succ]; rfl) (fun K' hK => ?_) AllReadyH.nil
            go_simp
            refine (IHu _ HLOWA.out).out.mono ?_
            rintro e w4 ⟨⟨sl4, rfl, hsl4⟩, hb4⟩
            obtain ⟨o4, c4, rfl⟩ := hsl4.form
            dsimp only [tmv]
            have hout4 := (hb4.block (w.heap.size + 2) (by simp; omega)).trans HOUT.out
            have hbx4 := (hb4.block wr.heap.size (by simp)).trans (heap_new_at wr (.cells #[.string u.nm, .bool u.vr, .slice ou u.ts.length cu] 25) _ rfl)
            obtain ⟨⟨x0, x1, x2⟩, f0, f1, f2⟩ := box3 hout4
            have HY4 := Lib.hid (box3 hbx4).1
            have HSL4 := Lib.hid hsl4
            have HB4 := Lib.hid hb4
            have HOUT4 := Lib.hid hout4
            have HBX4 := Lib.hid hbx4
            have HZ4 := Lib.hid (show wr.heap.size < w4.heap.size from (Array.getElem?_eq_some_iff.1 hbx4).1)
            clear hsl4 hb4 hout4 hbx4
            refine hK.out _ _ HY4.out (fun _ => ?_)
            clear hK
            try simp only [Act.put, List.setIfInBounds_toArray, List.set_cons_zero, List.set_cons_succ]
            refine wpAnyH_ready (rs := [1, 4]) (by kernel_rfl) (by simp) ?_
            refine AllReadyH.cons (by simp only [List.getElem?_toArray, List.getElem?_cons_zero, List.getElem?_cons_succ]; rfl) (fun K' hK => ?_) ?_
            · go_simp
              refine hK.out _ _ HY4.out (fun _ => ?_)
              clear hK
              try simp only [Act.put, List.setIfInBounds_toArray, List.set_cons_zero, List.set_cons_succ]
              refine wpAnyH_ready (rs := [4]) (by kernel_rfl) (by simp) ?_
              refine AllReadyH.cons (by simp only [List.getElem?_toArray, List.getElem?_cons_zero, List.getElem?_cons_succ]; rfl) (fun K' hK => ?_) AllReadyH.nil
              go_simp
              have hy5 := (box3 ((Below.heap_alloc w4 (.cells #[.string (apB [] u).nm, .bool (apB [] u).vr, .slice o4 (apB [] u).ts.length c4] 25) _ HZ4.out).trans HBX4.out)).1
              have hx5 := (box3 ((Below.heap_alloc w4 (.cells #[.string (apB [] u).nm, .bool (apB [] u).vr, .slice o4 (apB [] u).ts.length c4] 25) (w.heap.size + 2) (by have := HZ4.out; omega)).trans HOUT4.out)).1.2.2
              have HY5 := Lib.hid hy5
              clear hy5
              refine hK.out _ _ HY5.out (fun _ => ?_)
              clear hK
              try simp only [Act.put, List.setIfInBounds_toArray, List.set_cons_zero, List.set_cons_succ]
              refine wpAnyH_ready (rs := [5]) (by kernel_rfl) (by simp) ?_
              refine AllReadyH.cons (by simp only [List.getElem?_toArray, List.getElem?_cons_zero, List.getElem?_cons_succ]; rfl) (fun K' hK => ?_) AllReadyH.nil
              refine step_append_opt rfl (.tmp 19) (.tmp 22) 23 rfl (w.heap.size + 3) 25 i0 (.agg #[.string ⟨#[]⟩, .bool false, .slice none 0 0]) 3 48 Tryz.underlying23 HI.out HZ.out HS1.out HB1.out rfl (by decide) (.slice ov ch.length cv) ch.length (stCells ch) rfl (HST.out.row.kept (below_grown (HLOWA.out.trans ((HB4.out.mono (by simp)).alloc (Nat.le_of_lt HZ4.out) _))) (own_none _)) (some ⟨w4.heap.size, 0, none⟩) 1 1 [.string (apB [] u).nm, .bool (apB [] u).vr, .slice o4 (apB [] u).ts.length c4] rfl rfl (fun h => by cases h) (fun ad had => by cases had; exact cells_new3 _ _ _ _ _) (by simp [Value.oneCell']) (by have := HCHL.out; unfold maxLen; omega) (by have := HCHL.out; omega) (by have := HZ4.out; simp; omega) ?_
              intro v5 w5 ho5 hg5 hat5
              obtain ⟨o5, c5, rfl⟩ := ownsRow_shape ho5
              have hout5 := (hg5.block (w.heap.size + 2) (by have := HZ4.out; simp; omega) (fun e => by have := (HOWN.out _ e.symm).1; omega)).trans ((Below.heap_alloc _ _ _ (by have := HZ4.out; omega)).trans HOUT4.out)
              have hbx5 := (hg5.block wr.heap.size (by have := HZ4.out; simp; omega) (fun e => by have := (HOWN.out _ e.symm).2; omega)).trans ((Below.heap_alloc _ _ _ HZ4.out).trans HBX4.out)
              obtain ⟨⟨x0, x1, x2⟩, f0, f1, f2⟩ := box3 hout5
              have HBX5 := Lib.hid hbx5
              have HY6 := Lib.hid (box3 hbx5).1
              have HST5 := Lib.hid (HST.out.step (Nat.zero_le _) HU.out HLOWA.out HB4.out HSL4.out ((Below.refl _ w4).alloc (Nat.le_refl _) _) hg5 ho5 hat5)
              clear ho5 hg5 hat5 hout5 hbx5
              refine hK.out _ _ HY6.out (fun _ => ?_)
              clear hK
              try simp only [Act.put, List.setIfInBounds_toArray, List.set_cons_zero, List.set_cons_succ]
              refine wpAnyH_take (i := 6) (v := ?_) (by simp only [List.getElem?_toArray, List.getElem?_cons_zero, List.getElem?_cons_succ]; rfl) (by kernel_rfl) (by kernel_rfl) (by kernel_rfl) (fun _ _ _ h => h) (Or.inl ⟨by rfl, ?_⟩) HY6.out ?_
              case refine_2 => (intro ww hSw; obtain ⟨s1, s2, s3⟩ := hSw; go_simp; try with_reducible rfl)
              try simp only [Act.put, List.setIfInBounds_toArray, List.set_cons_zero, List.set_cons_succ]
              refine wpAnyH_ready (rs := [7]) (by kernel_rfl) (by simp) ?_
              refine AllReadyH.cons (by simp only [List.getElem?_toArray, List.getElem?_cons_zero, List.getElem?_cons_succ]; rfl) (fun K' hK => ?_) AllReadyH.nil
              go_simp
              have HY7 := Lib.hid (box3 ((Below.heap_setCell w5 ⟨w.heap.size + 2, 2, none⟩ (.slice o5 (ch.length + 1) c5) wr.heap.size (by show wr.heap.size ≠ w.heap.size + 2; omega)).trans HBX5.out)).1
              refine hK.out _ _ HY7.out (fun _ => ?_)
              clear hK
              try simp only [Act.put, List.setIfInBounds_toArray, List.set_cons_zero, List.set_cons_succ]
              refine wpAnyH_done (by kernel_rfl) ?_ _
              refine NoPanic.normal ?_
              go_wp2_with fail
              exact ⟨⟨k + 1, _, _, by omega, by go_num, HST5⟩, by simp [intOf]; omega⟩
            · refine AllReadyH.cons (by simp only [List.getElem?_toArray, List.getElem?_cons_zero, List.getElem?_cons_succ]; rfl) (fun K' hK => ?_) AllReadyH.nil
              go_simp
              have hy5 := (box3 ((Below.heap_alloc w4 (.cells #[.string (apB [] u).nm, .bool (apB [] u).vr, .slice o4 (apB [] u).ts.length c4] 25) _ HZ4.out).trans HBX4.out)).1
              have hx5 := (box3 ((Below.heap_alloc w4 (.cells #[.string (apB [] u).nm, .bool (apB [] u).vr, .slice o4 (apB [] u).ts.length c4] 25) (w.heap.size + 2) (by have := HZ4.out; omega)).trans HOUT4.out)).1.2.2
              have HY5 := Lib.hid hy5
              clear hy5
              refine hK.out _ _ HY5.out (fun _ => ?_)
              clear hK
              try simp only [Act.put, List.setIfInBounds_toArray, List.set_cons_zero, List.set_cons_succ]
              refine wpAnyH_ready (rs := [1]) (by kernel_rfl) (by simp) ?_
              refine AllReadyH.cons (by simp only [List.getElem?_toArray, List.getElem?_cons_zero, List.getElem?_cons_succ]; rfl) (fun K' hK => ?_) AllReadyH.nil
              go_simp
              refine hK.out _ _ HY5.out (fun _ => ?_)
              clear hK
              try simp only [Act.put, List.setIfInBounds_toArray, List.set_cons_zero, List.set_cons_succ]
              refine wpAnyH_ready (rs := [5]) (by kernel_rfl) (by simp) ?_
              refine AllReadyH.cons (by simp only [List.getElem?_toArray, List.getElem?_cons_zero, List.getElem?_cons_succ]; rfl) (fun K' hK => ?_) AllReadyH.nil
              refine step_append_opt rfl (.tmp 19) (.tmp 22) 23 rfl (w.heap.size + 3) 25 i0 (.agg #[.string ⟨#[]⟩, .bool false, .slice none 0 0]) 3 48 Tryz.underlying23 HI.out HZ.out HS1.out HB1.out rfl (by decide) (.slice ov ch.length cv) ch.length (stCells ch) rfl (HST.out.row.kept (below_grown (HLOWA.out.trans ((HB4.out.mono (by simp)).alloc (Nat.le_of_lt HZ4.out) _))) (own_none _)) (some ⟨w4.heap.size, 0, none⟩) 1 1 [.string (apB [] u).nm, .bool (apB [] u).vr, .slice o4 (apB [] u).ts.length c4] rfl rfl (fun h => by cases h) (fun ad had => by cases had; exact cells_new3 _ _ _ _ _) (by simp [Value.oneCell']) (by have := HCHL.out; unfold maxLen; omega) (by have := HCHL.out; omega) (by have := HZ4.out; simp; omega) ?_
              intro v5 w5 ho5 hg5 hat5
              obtain ⟨o5, c5, rfl⟩ := ownsRow_shape ho5
              have hout5 := (hg5.block (w.heap.size + 2) (by have := HZ4.out; simp; omega) (fun e => by have := (HOWN.out _ e.symm).1; omega)).trans ((Below.heap_alloc _ _ _ (by have := HZ4.out; omega)).trans HOUT4.out)
              have hbx5 := (hg5.block wr.heap.size (by have := HZ4.out; simp; omega) (fun e => by have := (HOWN.out _ e.symm).2; omega)).trans ((Below.heap_alloc _ _ _ HZ4.out).trans HBX4.out)
              obtain ⟨⟨x0, x1, x2⟩, f0, f1, f2⟩ := box3 hout5
              have HBX5 := Lib.hid hbx5
              have HY6 := Lib.hid (box3 hbx5).1
              have HST5 := Lib.hid (HST.out.step (Nat.zero_le _) HU.out HLOWA.out HB4.out HSL4.out ((Below.refl _ w4).alloc (Nat.le_refl _) _) hg5 ho5 hat5)
              clear ho5 hg5 hat5 hout5 hbx5
              refine hK.out _ _ HY6.out (fun _ => ?_)
              clear hK
              try simp only [Act.put, List.setIfInBounds_toArray, List.set_cons_zero, List.set_cons_succ]
              refine wpAnyH_take (i := 6) (v := ?_) (by simp only [List.getElem?_toArray, List.getElem?_cons_zero, List.getElem?_cons_succ]; rfl) (by kernel_rfl) (by kernel_rfl) (by kernel_rfl) (fun _ _ _ h => h) (Or.inl ⟨by rfl, ?_⟩) HY6.out ?_
              case refine_2 => (intro ww hSw; obtain ⟨s1, s2, s3⟩ := hSw; go_simp; try with_reducible rfl)
              try simp only [Act.put, List.setIfInBounds_toArray, List.set_cons_zero, List.set_cons_succ]
              refine wpAnyH_ready (rs := [7]) (by kernel_rfl) (by simp) ?_
              refine AllReadyH.cons (by simp only [List.getElem?_toArray, List.getElem?_cons_zero, List.getElem?_cons_succ]; rfl) (fun K' hK => ?_) AllReadyH.nil
              go_simp
              have HY7 := Lib.hid (box3 ((Below.heap_setCell w5 ⟨w.heap.size + 2, 2, none⟩ (.slice o5 (ch.length + 1) c5) wr.heap.size (by show wr.heap.size ≠ w.heap.size + 2; omega)).trans HBX5.out)).1
              refine hK.out _ _ HY7.out (fun _ => ?_)
              clear hK
              try simp only [Act.put, List.setIfInBounds_toArray, List.set_cons_zero, List.set_cons_succ]
              refine wpAnyH_done (by kernel_rfl) ?_ _
              refine NoPanic.normal ?_
              go_wp2_with fail
              exact ⟨⟨k + 1, _, _, by omega, by go_num, HST5⟩, by simp [intOf]; omega⟩
        · obtain rfl : k = t.ts.length := by omega
          obtain ⟨ov, cv, rfl⟩ := ownsRow_shape hst.row
          obtain ⟨⟨x0, x1, x2⟩, -⟩ := box3 hst.out
          obtain ⟨⟨r0, r1, r2⟩, f0, f1, f2⟩ := box3 hst.ret
          clear hst
          go_wp2_with fail
          have hq := box3_set HST.out.ret (.string t.nm) (.bool false) (.slice ov ch.length cv)
          obtain ⟨⟨q0, q1, q2⟩, -⟩ := box3 hq
          refine bodyPost_ret (v := .agg #[.string t.nm, .bool false, .slice ov ch.length cv]) (by simp [results, Tryz.f227, go_sem, q0, q1, q2]) rfl ?_
          have hbf := below_set3 HST.out.low (b := w.heap.size + 1) (by omega) (.string t.nm) (.bool false) (.slice ov ch.length cv)
          refine ⟨⟨.slice ov ch.length cv, by rw [HA.out]; rfl, ?_⟩, hbf⟩
          have h1 := SlP.ofRow (p := fun b => b < 0 ∨ w.heap.size + 3 ≤ b) HST.out.row (fun b hb => .inr hb) (fun c hc => (HST.out.kids c hc).carry fun b hb => ⟨rfl, hb.1⟩)
          have h2 := HST.out.terms
          rw [List.take_length] at h2
          rw [h2] at h1
          rw [HA.out]
          exact h1.carry fun b hb => ⟨heap_set3 _ _ _ _ _ _ (by omega), by omega⟩
/-- clone: the same term in blocks that are new -/
theorem uclone_new (t : Tm) (hbare : t.bare) (s : Value) (w : World) (hs : SlIs w.heap.size w t.ts s) (hb : t.bulk ≤ 1048576) :
    Calls Tryz.prog 227 #[tmv t s] w fun e w' => (∃ sl, e = .returned (tmv t sl) ∧ SlP (fun b => w.heap.size ≤ b ∧ b < w'.heap.size) w' t.ts sl) ∧ Below w.heap.size w w' := by
  have h := uclone_ap t hbare s w hs hb
  rw [apB_none hbare] at h
  refine h.mono ?_
  rintro e w' ⟨⟨sl, rfl, h⟩, hb⟩
  exact ⟨⟨sl, rfl, h.lt.carry fun b hb => ⟨rfl, by omega, hb.2⟩⟩, hb⟩
end Go.Proofs.YtamddagmlanijaaGreat
