/- Packed: Tm, SpB, Shelf, Sz, Own. -/
import Derived.Below
import Derived.ProofKit
import Derived.WalkKit
import Derived.DataReads
import Derived.ChangeArms
import Derived.Deep.Slices
import Derived.Test.YtamddagmlanijaaGreatRows
import Derived.Deep.Strs
import Derived.OpenShut
import Derived.Shelf.Small.Bits
import Derived.Shelf.Small.Strs
import Derived.Shelf.Small.Wraps
import Derived.Shelf.Strconv.Itoa0
import Derived.Shelf.Strings.Prefix
import Derived.Shelf.Bits.Mul64
import Derived.Shelf.Slices.Equal
import Derived.Ground.Names2Prog
import Derived.Shelf.Slices.Clone
import Derived.Shelf.Slices.Empties2
import Derived.Ground.SlgnProg
import Derived.Shelf.SlicesE.Clone
import Derived.Ground.SlsfProg
import Derived.Shelf.SlSortCmp.Insertion
import Derived.Shelf.SlSortCmp.SiftDown1
import Derived.Shelf.SlSortCmp.HeapSort1
import Derived.Shelf.SlSortCmp.Insertion1
import Derived.Shelf.SlSortCmp.Median1
import Derived.Shelf.SlSortCmp.Pivot1
import Derived.Shelf.SlSortCmp.ReverseRange1
import Derived.Test.YtamddagmlanijaaGreatProg
import Derived.Handy
import Derived.Lib.Hide
import Derived.RangeFuncBox
import Derived.Deep.Draws
/- Plain terms, and what it says that a slice of the memory holds such terms. No program stands here. -/
namespace Go.Proofs.YtamddagmlanijaaGreat
open Go.RowKit

/-- A term: its name, whether it is a variable, its arguments. -/
inductive Tm where
  | mk (nm : ByteArray) (vr : Bool) (ts : List Tm)

namespace Tm
def nm : Tm → ByteArray | .mk n _ _ => n
def vr : Tm → Bool | .mk _ v _ => v
def ts : Tm → List Tm | .mk _ _ l => l

theorem ind {p : Tm → Prop} (h : ∀ t : Tm, (∀ u ∈ t.ts, p u) → p t) (t : Tm) : p t := by
  refine h t fun u hu => ind h u
termination_by SizeOf.sizeOf t
decreasing_by
  cases t with
  | mk n v l =>
    have := List.sizeOf_lt_of_mem hu
    simp [Tm.ts] at this ⊢
    omega

mutual
def size : Tm → Nat
  | .mk _ _ l => 1 + sizes l
def sizes : List Tm → Nat
  | [] => 0
  | t :: r => size t + sizes r
end
mutual
def bulk : Tm → Nat
  | .mk n _ l => 1 + n.size + bulks l
def bulks : List Tm → Nat
  | [] => 0
  | t :: r => bulk t + bulks r
end
mutual
def depth : Tm → Nat
  | .mk _ _ l => 1 + depths l
def depths : List Tm → Nat
  | [] => 0
  | t :: r => max (depth t) (depths r)
end

theorem size_eq (t : Tm) : t.size = 1 + sizes t.ts := by cases t; simp [size, ts]
theorem depth_eq (t : Tm) : t.depth = 1 + depths t.ts := by cases t; simp [depth, ts]
theorem bulk_eq (t : Tm) : t.bulk = 1 + t.nm.size + bulks t.ts := by cases t; simp [bulk, ts, nm]
theorem sizes_append (l r : List Tm) : sizes (l ++ r) = sizes l + sizes r := by
  induction l with
  | nil => simp [sizes]
  | cons t l ih => simp [sizes, ih]; omega
theorem length_sizes (l : List Tm) : l.length ≤ sizes l := by
  induction l with
  | nil => simp
  | cons t l ih => simp [sizes, size_eq]; omega
theorem sizes_bulks (l : List Tm) : (∀ u ∈ l, u.size ≤ u.bulk) → sizes l ≤ bulks l := by
  induction l with
  | nil => simp [sizes]
  | cons t l ih => intro h; have := h t (by simp); have := ih (fun u hu => h u (by simp [hu])); simp [sizes, bulks]; omega
theorem size_bulk (t : Tm) : t.size ≤ t.bulk := by
  induction t using ind with
  | h t ih => rw [size_eq, bulk_eq]; have := sizes_bulks _ ih; omega
theorem size_pos (t : Tm) : 1 ≤ t.size := by rw [size_eq]; omega
theorem bulk_mem {t : Tm} {l : List Tm} (h : t ∈ l) : t.bulk ≤ bulks l := by
  induction l with
  | nil => cases h
  | cons x l ih =>
    simp only [bulks]
    rcases List.mem_cons.1 h with rfl | h
    · omega
    · have := ih h; omega
theorem size_mem {t : Tm} {l : List Tm} (h : t ∈ l) : t.size ≤ sizes l := by
  induction l with
  | nil => cases h
  | cons x l ih =>
    simp only [sizes]
    rcases List.mem_cons.1 h with rfl | h
    · omega
    · have := ih h; omega
theorem sizes_take (l : List Tm) (k : Nat) : sizes (l.take k) ≤ sizes l := by
  have := sizes_append (l.take k) (l.drop k)
  rw [List.take_append_drop] at this
  omega
theorem take_snoc {l : List Tm} {k : Nat} {t : Tm} (h : l[k]? = some t) : l.take (k + 1) = l.take k ++ [t] := by
  rw [List.take_add_one, h]; rfl
end Tm

/-- The slice value s holds the terms l, in blocks below n₀ of the world W. -/
inductive SlIs (n₀ : Nat) (W : World) : List Tm → Value → Prop
  | nil0 : SlIs n₀ W [] (.slice none 0 0)
  | nil1 (a : Addr) (cap : Nat) : SlIs n₀ W [] (.slice (some a) 0 cap)
  | row (b o cap : Nat) (l : List Tm) (s : Nat → Value) : l ≠ [] → b < n₀ → l.length ≤ cap → 
      (∀ i t, l[i]? = some t → W.cell? ⟨b, o + i * 3, none⟩ = some (.string t.nm) ∧ W.cell? ⟨b, o + i * 3 + 1, none⟩ = some (.bool t.vr) ∧ W.cell? ⟨b, o + i * 3 + 2, none⟩ = some (s i)) →
      (∀ i t, l[i]? = some t → SlIs n₀ W t.ts (s i)) → (∀ i, i < l.length * 3 → W.frozen? ⟨b, o + i, none⟩ = false) → SlIs n₀ W l (.slice (some ⟨b, o, none⟩) l.length cap)

theorem SlIs.carry {n₀ n₁ : Nat} {A B : World} (h : Below n₀ A B) (hn : n₀ ≤ n₁) {l : List Tm} {s : Value} (hs : SlIs n₀ A l s) : SlIs n₁ B l s := by
  induction hs with
  | nil0 => exact .nil0
  | nil1 a cap => exact .nil1 a cap
  | row b o cap l s hl hb hc cells _ hf ih =>
    refine .row b o cap l s hl (by omega) hc (fun i t ht => ?_) ih (fun i hi => (h.frozen (p := ⟨b, _, none⟩) hb).trans (hf i hi))
    obtain ⟨h1, h2, h3⟩ := cells i t ht
    exact ⟨(h.cell (p := ⟨b, _, none⟩) hb).trans h1, (h.cell (p := ⟨b, _, none⟩) hb).trans h2, (h.cell (p := ⟨b, _, none⟩) hb).trans h3⟩

/-- its length -/
theorem SlIs.form {n₀ : Nat} {W : World} {l : List Tm} {s : Value} (h : SlIs n₀ W l s) : ∃ oa cap, s = .slice oa l.length cap ∧
    (l ≠ [] → ∃ b o, oa = some ⟨b, o, none⟩ ∧ b < n₀) := by
  cases h with
  | nil0 => exact ⟨_, _, rfl, fun h => absurd rfl h⟩
  | nil1 a cap => exact ⟨_, _, rfl, fun h => absurd rfl h⟩
  | row b o cap l s hl hb hc cells hk hf => exact ⟨_, _, rfl, fun _ => ⟨b, o, rfl, hb⟩⟩

end Go.Proofs.YtamddagmlanijaaGreat
/- Merged: Rd, Sp, SpB. -/
/- What an argument reads as: a term in memory. -/
namespace Go.Proofs.YtamddagmlanijaaGreat
open Go.RowKit Go.ChangeShapes Go.WideShapes Go.ChangeAt Go.Deep

instance : Inhabited Tm := ⟨.mk ⟨#[]⟩ false []⟩
theorem addr_add (b o k : Nat) : (⟨b, o, none⟩ : Addr).add k = ⟨b, o + k, none⟩ := by unfold Addr.add; split <;> simp_all
end Go.Proofs.YtamddagmlanijaaGreat
/- An argument read again, whatever is said of spare room elsewhere. -/
namespace Go.Proofs.YtamddagmlanijaaGreat
open Go.RowKit Go.ChangeShapes Go.WideShapes Go.ChangeAt Go.Deep

section
variable {H : Type} {enc : TypeId × Value → H} {P : Program} {w : World} (sp : Nat → Bool)
/-- what is read of a value of type t with fuel k, is read so too under sp -/
def SpAt (enc : TypeId × Value → H) (P : Program) (w : World) (sp : Nat → Bool) (k : Nat) (t : TypeId) : Prop :=
  ∀ cs x, DataW.trod enc P w 0 (fun _ => true) true k t cs = some x → (∀ p ∈ x.2, sp p.block = true) → ∃ m, DataW.trod enc P w 0 sp true m t cs = some x

theorem sp_string {t : TypeId} (ht : P.underlying t = some .string) (k : Nat) : SpAt enc P w sp k t := by
  intro cs x h _
  obtain ⟨s, rfl, rfl, hs⟩ := DataW.trod_string ht h
  exact ⟨1, by simp [DataW.trod, ht, hs]⟩
theorem sp_int {t : TypeId} {q : IntKind} (ht : P.underlying t = some (.int q)) (k : Nat) : SpAt enc P w sp k t := by
  intro cs x h _
  obtain ⟨b, rfl, rfl, hw⟩ := DataW.trod_int ht h
  exact ⟨1, by simp [DataW.trod, ht, hw]⟩
theorem row_block {a : Addr} {n : Nat} (hn : 0 < n) : ∃ p ∈ MemPlace.row a n, p.block = a.block :=
  ⟨.cell a.block (a.off + 0), List.mem_map.2 ⟨0, List.mem_range.2 hn, rfl⟩, rfl⟩

theorem sp_slice {t e : TypeId} (ht : P.underlying t = some (.slice e)) (hc : 0 < P.cellsOf e) {k : Nat} (hk : SpAt enc P w sp k e) : SpAt enc P w sp (k + 1) t := by
  intro cs x h hp
  rcases DataW.trod_slice ht h with ⟨rfl, rfl⟩ | ⟨a, len, cap, elems, rest, k', hkk, rfl, rfl, hba, hlc, hcm, hel, hall, hrest, -⟩
  · exact ⟨1, by simp [DataW.trod, ht]⟩
  · obtain rfl : k' = k := by omega
    obtain ⟨hrl, hrall⟩ := hrest rfl
    have hx : ∀ i, i < cap → ∃ cs n, w.cells? 0 (a.add (i * P.cellsOf e)) (P.cellsOf e) = some cs ∧ DataW.trod enc P w 0 sp true n e cs = some (((elems ++ rest).getD i (.nil, [])).1, ((elems ++ rest).getD i (.nil, [])).2) := fun i hi => by
      have key : (w.cells? 0 (a.add (i * P.cellsOf e)) (P.cellsOf e)).bind (DataW.trod enc P w 0 (fun _ => true) true k' e) = (elems ++ rest)[i]? := by
        by_cases hil : i < len
        · rw [hall i hil, List.getElem?_append_left (by omega)]
        · have := hrall (i - len) (by omega)
          rw [show len + (i - len) = i by omega] at this
          rw [this, List.getElem?_append_right (by omega), hel]
      have hlt : i < (elems ++ rest).length := by rw [List.length_append]; omega
      rw [List.getElem?_eq_getElem hlt] at key
      obtain ⟨cs', h1, h2⟩ := Option.bind_eq_some_iff.1 key
      obtain ⟨m, hm⟩ := hk cs' _ h2 (fun p hpp => hp p (List.mem_append.2 (.inr (List.mem_flatMap.2 ⟨_, List.getElem_mem hlt, hpp⟩))))
      refine ⟨cs', m, h1, ?_⟩
      rw [hm, List.getD_eq_getElem?_getD, List.getElem?_eq_getElem hlt]
      rfl
    have e1 : (List.range len).map (fun i => ((elems ++ rest).getD i (.nil, [])).1) = elems.map (·.1) := by
      rw [map_by_index elems (.nil, []) (·.1), hel]
      refine List.map_congr_left fun i hi => ?_
      have hi' : i < elems.length := by rw [hel]; simpa using hi
      simp [List.getD, List.getElem?_append_left hi']
    have e2 : (List.range (cap - len)).map (fun j => ((elems ++ rest).getD (len + j) (.nil, [])).1) = rest.map (·.1) := by
      rw [map_by_index rest (.nil, []) (·.1), hrl]
      refine List.map_congr_left fun j _ => ?_
      simp [List.getD, List.getElem?_append_right (show elems.length ≤ len + j by omega), hel]
    have e3 : (List.range cap).flatMap (fun i => ((elems ++ rest).getD i (.nil, [])).2) = (elems ++ rest).flatMap (·.2) := by
      rw [flatMap_by_index (elems ++ rest) (.nil, []) (·.2), List.length_append, hel, hrl, show len + (cap - len) = cap by omega]
    have e4 : elems.length + rest.length = cap := by omega
    by_cases hz : cap = 0
    · subst hz
      obtain rfl : len = 0 := by omega
      obtain rfl : elems = [] := List.length_eq_zero_iff.1 hel
      obtain rfl : rest = [] := List.length_eq_zero_iff.1 (by omega)
      exact ⟨1, by simp [DataW.trod, ht, hcm, MemPlace.row]⟩
    · have hspa : sp a.block = true := by
        obtain ⟨p, hp1, hp2⟩ := row_block (a := a) (n := cap * P.cellsOf e) (Nat.mul_pos (by omega) hc)
        rw [← hp2]
        exact hp p (List.mem_append.2 (.inl (by rw [e4]; exact hp1)))
      obtain ⟨m, hm⟩ := shut_slice_whole_cells (enc := enc) (held := true) ht hba hlc hcm hspa _ _ hx
      refine ⟨m, ?_⟩
      rw [hm, e1, e2, e3, e4]
theorem sp_zero (t : TypeId) : SpAt enc P w sp 0 t := by intro cs x h; simp [DataW.trod] at h
theorem sp_struct3 {t : TypeId} {f0 f1 f2 : Field} (ht : P.underlying t = some (.struct #[f0, f1, f2])) {k : Nat} (h0 : SpAt enc P w sp k f0.type) (h1 : SpAt enc P w sp k f1.type) (h2 : SpAt enc P w sp k f2.type) : SpAt enc P w sp (k + 1) t := by
  intro cs x h hp
  obtain ⟨xs, m, hkk, rfl, hl, hlen, hf⟩ := DataW.trod_struct ht h
  obtain rfl : m = k := by omega
  match xs, hlen with
  | [y0, y1, y2], _ =>
    have g0 := hf 0 f0 rfl
    have g1 := hf 1 f1 rfl
    have g2 := hf 2 f2 rfl
    simp only [List.getElem?_cons_zero, List.getElem?_cons_succ] at g0 g1 g2
    simp only [List.flatMap_cons, List.flatMap_nil, List.append_nil, List.mem_append] at hp
    obtain ⟨m0, k0⟩ := h0 _ _ g0 (fun p hpp => hp p (.inl hpp))
    obtain ⟨m1, k1⟩ := h1 _ _ g1 (fun p hpp => hp p (.inr (.inl hpp)))
    obtain ⟨m2, k2⟩ := h2 _ _ g2 (fun p hpp => hp p (.inr (.inr hpp)))
    have hq := trod_struct3_mk (enc := enc) ht hl (DataW.trod_le (show m0 ≤ max m0 (max m1 m2) by omega) k0) (DataW.trod_le (show m1 ≤ max m0 (max m1 m2) by omega) k1) (DataW.trod_le (show m2 ≤ max m0 (max m1 m2) by omega) k2)
    exact ⟨_, by rw [hq]; simp⟩
theorem trod_again {t : TypeId} {w0 : World} {v : Value} {d : DataW H} {ps : List MemPlace} (hs : ∀ k, SpAt enc P w sp k t) (h : DataW.Trod enc P w0 0 (fun _ => true) true t v d ps) (hp : ∀ p ∈ ps, sp p.block = true) (hm : ∀ p ∈ ps, w0.sameAt w p) :
    DataW.Trod enc P w 0 sp true t v d ps := by
  obtain ⟨n, hn⟩ := h
  exact hs n _ _ (DataW.trod_carry n t _ _ hn hm) hp
end
section
variable {H : Type} {enc : TypeId × Value → H} {w : World} (sp : Nat → Bool)
end
end Go.Proofs.YtamddagmlanijaaGreat
/- Arguments read again: a struct of two fields, an array of three. -/
namespace Go.Proofs.YtamddagmlanijaaGreat
open Go.RowKit Go.ChangeShapes Go.WideShapes Go.ChangeAt Go.Deep

theorem uptoBulk_mem {H : Type} {d : DataW H} {l : List (DataW H)} (h : d ∈ l) : Rows.uptoBulk d ≤ Rows.uptoBulkAll l := by
  induction l with
  | nil => cases h
  | cons x l ih =>
    rw [Rows.uptoBulkAll]
    rcases List.mem_cons.1 h with rfl | h
    · omega
    · have := ih h; omega
section
variable {H : Type} {enc : TypeId × Value → H} {P : Program} {w : World} (sp : Nat → Bool)
theorem sp_struct2 {t : TypeId} {f0 f1 : Field} (ht : P.underlying t = some (.struct #[f0, f1])) {k : Nat} (h0 : SpAt enc P w sp k f0.type) (h1 : SpAt enc P w sp k f1.type) : SpAt enc P w sp (k + 1) t := by
  intro cs x h hp
  obtain ⟨xs, m, hkk, rfl, hl, hlen, hf⟩ := DataW.trod_struct ht h
  obtain rfl : m = k := by omega
  match xs, hlen with
  | [y0, y1], _ =>
    have g0 := hf 0 f0 rfl
    have g1 := hf 1 f1 rfl
    simp only [List.getElem?_cons_zero, List.getElem?_cons_succ] at g0 g1
    simp only [List.flatMap_cons, List.flatMap_nil, List.append_nil, List.mem_append] at hp
    obtain ⟨m0, k0⟩ := h0 _ _ g0 (fun p hpp => hp p (.inl hpp))
    obtain ⟨m1, k1⟩ := h1 _ _ g1 (fun p hpp => hp p (.inr hpp))
    have hq := trod_struct2_mk (enc := enc) ht hl (DataW.trod_le (show m0 ≤ max m0 m1 by omega) k0) (DataW.trod_le (show m1 ≤ max m0 m1 by omega) k1)
    exact ⟨_, by rw [hq]; simp⟩
end
end Go.Proofs.YtamddagmlanijaaGreat
/-
  DERIVED: THE SHELF's CONTRACTS AT THIS DUMP, IN PLAIN WORDS (tools/lay-plain.mjs out of 'TryzShelf.lean', which tools/lay-shelf.mjs wrote): THE SAME DECLARATIONS UNDER THE SAME NAMES: 'import', 'namespace', 'open', 'def', 'theorem' AND NOTHING ELSE: no command of the shelf's: FOR A HAND-IN. Each laying: the table of numbers ('.._ren') and one theorem, a field a fact of the dump's own or the kernel's comparison; each contract: ONE APPLICATION.
-/
namespace Go.Proofs
open Go.Shelf
def Tryz.lays106_ren : Go.Shelf.Ren := ⟨fun | 106 => 190 | 213 => 250 | 265 => 276 | n => n, fun | 9 => 9 | 3 => 3 | n => n, fun | n => n⟩
theorem Tryz.lays106 : Go.Proofs.Lays.n106 Tryz.prog Tryz.lays106_ren := {
  mixed := by kernel_rfl
  f106 := Tryz.func190.trans (congrArg some (by kernel_rfl))
  f213 := Tryz.func250.trans (congrArg some (by kernel_rfl))
  f265 := Tryz.func276.trans (congrArg some (by kernel_rfl))
  t3 := Tryz.underlying3
  a3 := Tryz.isAgg3
  z3 := Tryz.sizeOf3
  v3 := Tryz.zeroValue3
  t9 := Tryz.underlying9
  a9 := Tryz.isAgg9
  z9 := Tryz.sizeOf9
  v9 := Tryz.zeroValue9 }
open Go.RowKit in
/-- strings.Compare: "Compare returns an integer comparing two strings lexicographically. The result will be 0 if a == b, -1 if a < b, and +1 if a > b.": IT RETURNS 'Lib.compareBytes a b'; the world is as it was. (LAID: no walk: one application.) -/
theorem Tryz.strings_Compare (a b : ByteArray) (w : World) :
    Calls Tryz.prog 190 #[.string a, .string b] w fun e w' => e = .returned (.int .i64 (Lib.compareBytes a.data.toList b.data.toList)) ∧ w' = w := Any.strings_Compare Tryz.lays106 a b w
def Tryz.lays102_ren : Go.Shelf.Ren := ⟨fun | 102 => 125 | 209 => 192 | 207 => 251 | n => n, fun | 9 => 9 | 4 => 4 | 3 => 3 | n => n, fun | n => n⟩
theorem Tryz.lays102 : Go.Proofs.Lays.n102 Tryz.prog Tryz.lays102_ren := {
  mixed := by kernel_rfl
  f102 := Tryz.func125.trans (congrArg some (by kernel_rfl))
  f207 := Tryz.func251.trans (congrArg some (by kernel_rfl))
  f209 := Tryz.func192.trans (congrArg some (by kernel_rfl))
  t3 := Tryz.underlying3
  a3 := Tryz.isAgg3
  z3 := Tryz.sizeOf3
  v3 := Tryz.zeroValue3
  t4 := Tryz.underlying4
  a4 := Tryz.isAgg4
  z4 := Tryz.sizeOf4
  v4 := Tryz.zeroValue4
  t9 := Tryz.underlying9
  a9 := Tryz.isAgg9
  z9 := Tryz.sizeOf9
  v9 := Tryz.zeroValue9 }
open Go.RowKit Go.Lib in
/-- strings.TrimSuffix: "TrimSuffix returns s without the provided trailing suffix string. If s doesn't end with suffix, s is returned unchanged.": IT RETURNS 'Lib.trimSuffix s suffix'; the world is as it was. (LAID: no walk: one application.) -/
theorem Tryz.strings_TrimSuffix (s p : ByteArray) (w : World) (hs : s.size ≤ 9223372036854775807) :
    Calls Tryz.prog 125 #[.string s, .string p] w fun e w' => e = .returned (.string ⟨(Lib.trimSuffix s.data.toList p.data.toList).toArray⟩) ∧ w' = w := Any.strings_TrimSuffix Tryz.lays102 s p w hs
def Tryz.lays264_ren : Go.Shelf.Ren := ⟨fun | 264 => 195 | n => n, fun | 53 => 47 | 46 => 236 | n => n, fun | n => n⟩
theorem Tryz.lays264 : Go.Proofs.Lays.n264 Tryz.prog Tryz.lays264_ren := {
  mixed := by kernel_rfl
  f264 := Tryz.func195.trans (congrArg some (by kernel_rfl))
  t46 := Tryz.underlying236
  a46 := Tryz.isAgg236
  z46 := Tryz.sizeOf236
  v46 := Tryz.zeroValue236
  t53 := Tryz.underlying47
  a53 := Tryz.isAgg47
  z53 := Tryz.sizeOf47
  v53 := Tryz.zeroValue47 }
open Go.RowKit Go.Lib in
theorem Tryz.bits_Mul64 (x y : Nat) (hx : x < 18446744073709551616) (hy : y < 18446744073709551616) (w : World) :
    Calls Tryz.prog 195 #[.int .u64 x, .int .u64 y] w fun e w' => e = .returned (.tuple #[.int .u64 ((x * y / 18446744073709551616 : Nat) : Int), .int .u64 ((x * y % 18446744073709551616 : Nat) : Int)]) ∧ w' = w := Any.bits_Mul64 Tryz.lays264 x y hx hy w
def Tryz.laysSlE041_f165_ren : Go.Shelf.Ren := ⟨fun | 41 => 165 | n => n, fun | 22 => 46 | 23 => 47 | 4 => 4 | n => n, fun | n => n⟩
theorem Tryz.laysSlE041_f165 : Go.Proofs.SlLaysE0.n41 Tryz.prog Tryz.laysSlE041_f165_ren := {
  mixed := by kernel_rfl
  f41 := ⟨Tryz.f165.name, by decide, Tryz.func165.trans (congrArg some (by kernel_rfl))⟩
  t4 := Tryz.underlying4
  a4 := Tryz.isAgg4
  z4 := Tryz.sizeOf4
  v4 := Tryz.zeroValue4
  t22 := Tryz.underlying46
  a22 := Tryz.isAgg46
  z22 := Tryz.sizeOf46
  v22 := Tryz.zeroValue46 }
open Go.RowKit Go.Lib in
/-- slices.Clone: "Clone returns a copy of the slice. The elements are copied using assignment, so this is a shallow clone. The result may have additional unused capacity. The result preserves the nilness of s.": OF A SLICE THAT IS NOT nil IT RETURNS A SLICE THAT IS NOT nil, OF THE SAME CELLS, IN MEMORY OF THE CALL's OWN ('ownsRow': the how-to's 6f); below the heap's size at the call all is as it was. (LAID AT THE INSTANCE 'slices.Clone[[]uint64,uint64]': no walk: one application.) -/
theorem Tryz.slices_Clone_f165 (i0 : TypeInfo) (z : Value) (size bytes : Nat) (hi : Tryz.prog.info? 47 = some i0) (hz0 : i0.zero = some z) (hz1 : i0.size = size) (hz2 : i0.bytes = bytes) (hzs : z.cells.size = size) (hsz : 0 < size) (z23 : ∀ w, (Go.sizeOf 47).run Tryz.prog w = .ok size w) (b off n c : Nat) (news : List Value) (w : World) (hl : news.length = n * size) (hn : n ≤ maxLen) (hbig : n * bytes ≤ 140737488355328) (hc : ∀ j u, news[j]? = some u → w.cell? ⟨b, off + j, none⟩ = some u) (h1 : ∀ u ∈ news, u.oneCell' = true) :
    Calls Tryz.prog 165 #[.slice (some ⟨b, off, none⟩) n c] w fun e w' => ∃ v', e = .returned v' ∧ w'.ownsRow w.heap.size 47 size v' n news ∧ v' ≠ .slice none 0 0 ∧ Below w.heap.size w w' := AnyE.slices_Clone Tryz.laysSlE041_f165 i0 z size bytes hi hz0 hz1 hz2 hzs hsz z23 b off n c news w hl hn hbig hc h1
end Go.Proofs
/- Merged: Nm, Nm2, Sz. -/
/- Names: their bytes, what is a name; the walks of the program's and the reference's functions on names. -/
namespace Go.Proofs.YtamddagmlanijaaGreat
open Go.RowKit

theorem ret_int {k : IntKind} {a b : Int} (h : a = b) : Ending.returned (.int k a) = .returned (.int k b) := by rw [h]
theorem ret_bool {a b : Bool} (h : a = b) : Ending.returned (.bool a) = .returned (.bool b) := by rw [h]

/-- may the byte stand in a name? -/
def okByte (c : UInt8) : Bool := (65 ≤ c && c ≤ 90) || (97 ≤ c && c ≤ 122) || (48 ≤ c && c ≤ 57) || c == 95 || c == 39
theorem okByte_yes {c : UInt8} (h : (65 ≤ c.toNat ∧ c.toNat ≤ 90) ∨ (97 ≤ c.toNat ∧ c.toNat ≤ 122) ∨ (48 ≤ c.toNat ∧ c.toNat ≤ 57) ∨ c.toNat = 95 ∨ c.toNat = 39) : okByte c = true := by
  simp [okByte, UInt8.le_iff_toNat_le, ← UInt8.toNat_inj]; omega
theorem okByte_no {c : UInt8} (h : ¬ ((65 ≤ c.toNat ∧ c.toNat ≤ 90) ∨ (97 ≤ c.toNat ∧ c.toNat ≤ 122) ∨ (48 ≤ c.toNat ∧ c.toNat ≤ 57) ∨ c.toNat = 95 ∨ c.toNat = 39)) : okByte c = false := by
  simp [okByte, UInt8.le_iff_toNat_le, ← UInt8.toNat_inj]; omega
theorem byte_cases (n : Nat) : n < 39 ∨ n = 39 ∨ (39 < n ∧ n < 48) ∨ (48 ≤ n ∧ n ≤ 57) ∨ (57 < n ∧ n < 65) ∨ (65 ≤ n ∧ n ≤ 90) ∨ (90 < n ∧ n < 95) ∨ n = 95 ∨ n = 96 ∨ (97 ≤ n ∧ n ≤ 122) ∨ 122 < n := by omega

/-- do all bytes stand in names? -/
def plain (s : ByteArray) : Bool := s.data.toList.all okByte
theorem all_snoc {l : List UInt8} {k : Nat} {c : UInt8} (h : l[k]? = some c) (p : UInt8 → Bool) : (l.take (k + 1)).all p = ((l.take k).all p && p c) := by
  rw [List.take_add_one, h]; simp
theorem all_not {l : List UInt8} {k : Nat} {c : UInt8} (h : l[k]? = some c) {p : UInt8 → Bool} (hp : p c = false) : l.all p = false := by
  rw [List.all_eq_false]; exact ⟨c, List.mem_of_getElem? h, by simp [hp]⟩
theorem bytes_get {s : ByteArray} {k : Nat} (h : k < s.size) : s.data.toList[k]? = some s[k] := by
  rw [Array.getElem?_toList, Array.getElem?_eq_getElem (by exact h)]; rfl
theorem bytes_len (s : ByteArray) : s.data.toList.length = s.size := by rw [Array.length_toList]; rfl

set_option maxHeartbeats 1000000 in
theorem plain_any (s : ByteArray) (w : World) (hs : s.size ≤ 1048576) :
    Calls Tryz.prog 126 #[.string s] w fun e w' => e = .returned (.bool (plain s)) ∧ w = w' := by
  go_enter Tryz.func126, Tryz.ntmps126
  go_wp2_with fail
  go_loop [3, 4, 5, 6, 9] (fun _ _ _ _ i => ∃ k : Nat, k ≤ s.size ∧ i = .int .i64 k ∧ Hid ((s.data.toList.take k).all okByte = true)) (fun _ _ _ _ i => s.size - (intOf i).toNat)
  case atStart => exact ⟨0, by omega, rfl, Lib.hid rfl⟩
  case round =>
    obtain ⟨k, hk, rfl, HA⟩ := hrel
    by_cases hlt : k < s.size
    · have HG := Lib.hid (bytes_get hlt)
      have HY' := Lib.hid (@okByte_yes (s[k]'hlt))
      have HN' := Lib.hid (@okByte_no (s[k]'hlt))
      rcases byte_cases s[k].toNat with h | h | h | h | h | h | h | h | h | h | h
      all_goals
        have HC := Lib.hid h
        first
          | have e95 : (((s[k]'hlt).toNat : Int) != 95) = true := by rw [bne_iff_ne]; omega
          | have e95 : (((s[k]'hlt).toNat : Int) != 95) = false := by rw [bne_eq_false_iff_eq]; omega
        first
          | have e39 : (((s[k]'hlt).toNat : Int) != 39) = true := by rw [bne_iff_ne]; omega
          | have e39 : (((s[k]'hlt).toNat : Int) != 39) = false := by rw [bne_eq_false_iff_eq]; omega
        go_wp2_with fail
        all_goals first
          | (exact ⟨⟨k + 1, by omega, by go_num, Lib.hid (by rw [all_snoc HG.out, HA.out, HY'.out (by have := HC.out; omega)]; rfl)⟩, by simp [intOf]; omega⟩)
          | (go_ret; exact ⟨ret_bool (by rw [plain, all_not HG.out (HN'.out (by have := HC.out; omega))]), rfl⟩)
          | (exfalso; simp at *; omega)
    · obtain rfl : k = s.size := by omega
      have HP := Lib.hid (show plain s = true by rw [plain, ← HA.out, List.take_of_length_le (by rw [bytes_len]; omega)])
      go_wp2_with fail
      go_ret
      exact ⟨ret_bool HP.out.symm, rfl⟩
end Go.Proofs.YtamddagmlanijaaGreat
/- More on names: their bytes, what is a name; the walks of the program's and the reference's functions on names. -/
namespace Go.Proofs.YtamddagmlanijaaGreat
open Go.RowKit

/-- the name without the mark, where a mark may be -/
def baseOf (s : ByteArray) (m : Bool) : ByteArray := if m then ⟨(Lib.trimSuffix s.data.toList [35]).toArray⟩ else s
def isName (s : ByteArray) (m : Bool) : Bool := decide (0 < (baseOf s m).size) && decide (s.size ≤ 24) && plain (baseOf s m)
theorem baseOf_size (s : ByteArray) (m : Bool) : (baseOf s m).size ≤ s.size := by
  unfold baseOf
  split
  · show (Lib.trimSuffix s.data.toList [35]).length ≤ s.size
    rw [← bytes_len]
    unfold Lib.trimSuffix
    split
    · simp
    · simp
  · exact Nat.le_refl _

theorem trim_any (s : ByteArray) (w : World) (hs : s.size ≤ 1048576) :
    Calls Tryz.prog 125 #[.string s, .string ⟨#[35]⟩] w fun e w' => e = .returned (.string (baseOf s true)) ∧ w = w' :=
  (Tryz.strings_TrimSuffix s ⟨#[35]⟩ w (by omega)).mono fun _ _ ⟨he, hw⟩ => ⟨by rw [he]; rfl, hw.symm⟩
theorem isName_eq {s : ByteArray} {m : Bool} {b : Bool} (h0 : 0 < (baseOf s m).size) (h : s.size ≤ 24) (hb : plain (baseOf s m) = b) : isName s m = b := by simp [isName, h0, h, hb]
theorem isName_no {s : ByteArray} {m : Bool} (h : ¬ (0 < (baseOf s m).size ∧ s.size ≤ 24)) : isName s m = false := by
  unfold isName
  by_cases h0 : 0 < (baseOf s m).size <;> by_cases h1 : s.size ≤ 24 <;> simp_all <;> omega

set_option maxHeartbeats 1000000 in
theorem isName_yes (s : ByteArray) (w : World) (hs : s.size ≤ 1048576) :
    Calls Tryz.prog 59 #[.string s, .bool true] w fun e w' => e = .returned (.bool (isName s true)) ∧ w = w' := by
  have hb := baseOf_size s true
  by_cases h0 : 0 < (baseOf s true).size
  · by_cases h24 : s.size ≤ 24
    · have HE := Lib.hid (isName_eq h0 h24 rfl)
      go_enter Tryz.func59, Tryz.ntmps59
      go_wp2_with (first | (go_at_call 125; refine (trim_any _ _ hs).mono ?_; rintro e w' ⟨rfl, rfl⟩) | (go_at_call 126; refine (plain_any _ _ (by omega)).mono ?_; rintro e w' ⟨rfl, rfl⟩))
      go_ret
      exact ⟨ret_bool HE.out.symm, rfl⟩
    · have HE := Lib.hid (isName_no (s := s) (m := true) (fun h => h24 h.2))
      go_enter Tryz.func59, Tryz.ntmps59
      go_wp2_with (go_at_call 125; refine (trim_any _ _ hs).mono ?_; rintro e w' ⟨rfl, rfl⟩)
      go_ret
      exact ⟨ret_bool HE.out.symm, rfl⟩
  · have HE := Lib.hid (isName_no (s := s) (m := true) (fun h => h0 h.1))
    go_enter Tryz.func59, Tryz.ntmps59
    go_wp2_with (go_at_call 125; refine (trim_any _ _ hs).mono ?_; rintro e w' ⟨rfl, rfl⟩)
    go_ret
    exact ⟨ret_bool HE.out.symm, rfl⟩

set_option maxHeartbeats 1000000 in
theorem isName_not (s : ByteArray) (w : World) (hs : s.size ≤ 1048576) :
    Calls Tryz.prog 59 #[.string s, .bool false] w fun e w' => e = .returned (.bool (isName s false)) ∧ w = w' := by
  by_cases h0 : 0 < s.size
  · by_cases h24 : s.size ≤ 24
    · have HE := Lib.hid (isName_eq (s := s) (m := false) h0 h24 rfl)
      go_enter Tryz.func59, Tryz.ntmps59
      go_wp2_with (go_at_call 126; refine (plain_any _ _ (by omega)).mono ?_; rintro e w' ⟨rfl, rfl⟩)
      go_ret
      exact ⟨ret_bool HE.out.symm, rfl⟩
    · have HE := Lib.hid (isName_no (s := s) (m := false) (fun h => h24 h.2))
      go_enter Tryz.func59, Tryz.ntmps59
      go_wp2_with fail
      go_ret
      exact ⟨ret_bool HE.out.symm, rfl⟩
  · have HE := Lib.hid (isName_no (s := s) (m := false) (fun h => h0 h.1))
    go_enter Tryz.func59, Tryz.ntmps59
    go_wp2_with fail
    go_ret
    exact ⟨ret_bool HE.out.symm, rfl⟩
theorem isName_any (s : ByteArray) (m : Bool) (w : World) (hs : s.size ≤ 1048576) :
    Calls Tryz.prog 59 #[.string s, .bool m] w fun e w' => e = .returned (.bool (isName s m)) ∧ w = w' := by
  cases m
  · exact isName_not s w hs
  · exact isName_yes s w hs

/-- has the node of a term the form of a variable or of an applied symbol? (n: the number of its arguments) -/
def nodeOk (nm : ByteArray) (vr : Bool) (n : Nat) : Bool := if vr then isName nm false && n == 0 else isName nm true && decide (n ≤ 8)

set_option maxHeartbeats 1000000 in
theorem isFormed_any (nm : ByteArray) (vr : Bool) (oa : Option Addr) (n cap : Nat) (w : World) (hs : nm.size ≤ 1048576) (hn : n ≤ 1048576) :
    Calls Tryz.prog 167 #[.agg #[.string nm, .bool vr, .slice oa n cap]] w fun e w' => e = .returned (.bool (nodeOk nm vr n)) ∧ Below w.heap.size w w' := by
  cases vr
  · cases hi : isName nm true
    all_goals have HI := Lib.hid hi
    all_goals clear hi
    all_goals by_cases h8 : n ≤ 8
    all_goals have HE : Hid (nodeOk nm false n = (isName nm true && decide (n ≤ 8))) := Lib.hid (by simp [nodeOk])
    all_goals go_enter Tryz.func167, Tryz.ntmps167
    all_goals go_wp2_with (go_at_call 59; refine (isName_any _ _ _ hs).mono ?_; rintro e w' ⟨rfl, rfl⟩; rw [HI.out])
    all_goals go_ret
    all_goals exact ⟨ret_bool (by rw [HE.out, HI.out]; first | (simp [h8]; done) | (simp [h8]; omega)), by go_grown⟩
  · cases hi : isName nm false
    all_goals have HI := Lib.hid hi
    all_goals clear hi
    all_goals by_cases h8 : n = 0
    all_goals have HE : Hid (nodeOk nm true n = (isName nm false && n == 0)) := Lib.hid (by simp [nodeOk])
    all_goals first | subst h8 | have h9 : ((n : Int) == 0) = false := by rw [beq_eq_false_iff_ne]; omega
    all_goals go_enter Tryz.func167, Tryz.ntmps167
    all_goals go_wp2_with (go_at_call 59; refine (isName_any _ _ _ hs).mono ?_; rintro e w' ⟨rfl, rfl⟩; rw [HI.out])
    all_goals go_ret
    all_goals exact ⟨ret_bool (by rw [HE.out, HI.out]; simp_all), by go_grown⟩
end Go.Proofs.YtamddagmlanijaaGreat
namespace Go.Proofs.YtamddagmlanijaaGreat
open Go.RowKit

/-- a term's value: its three cells -/
@[reducible] def tmv (t : Tm) (s : Value) : Value := .agg #[.string t.nm, .bool t.vr, s]

/-- the cells of the k-th argument, where there is one -/
theorem SlIs.get {n₀ : Nat} {W : World} {l : List Tm} {oa : Option Addr} {n cap k : Nat} (h : SlIs n₀ W l (.slice oa n cap)) (hk : k < l.length) :
    ∃ (b o : Nat) (u : Tm) (s : Value), oa = some ⟨b, o, none⟩ ∧ b < n₀ ∧ l[k]? = some u ∧ u ∈ l ∧ SlIs n₀ W u.ts s ∧
      W.cell? ⟨b, o + k * 3, none⟩ = some (.string u.nm) ∧ W.cell? ⟨b, o + k * 3 + 1, none⟩ = some (.bool u.vr) ∧ W.cell? ⟨b, o + k * 3 + 2, none⟩ = some s := by
  cases h with
  | nil0 => simp at hk
  | nil1 a cap => simp at hk
  | row b o cap l s hl hb hc cells hs hf =>
    have hu : l[k]? = some l[k] := List.getElem?_eq_getElem hk
    obtain ⟨h1, h2, h3⟩ := cells k _ hu
    exact ⟨b, o, l[k], s k, rfl, hb, hu, List.getElem_mem hk, hs k _ hu, h1, h2, h3⟩

end Go.Proofs.YtamddagmlanijaaGreat
/- Merged: Mem, Own. -/
/- Small facts on memory. No program stands here. -/
namespace Go.Proofs.YtamddagmlanijaaGreat
open Go.RowKit
theorem add_blk (a : Addr) (j : Nat) : (a.add j).block = a.block := by unfold Addr.add; split <;> rfl
theorem below_drewN {B : Nat} {A W : World} (n : Nat) (h : Below B A W) : Below B A (W.drewN n) := ⟨h.os, h.tape, h.output, h.size, h.block⟩
theorem below_grown {A W : World} (h : Below A.heap.size A W) : A.grownBy W none := ⟨h.os, h.tape, h.output, h.size, fun i hi _ => h.block i hi⟩
theorem cell_at_new (W : World) (c : Array Value) (ty : TypeId) (j : Nat) : (W.alloc (.cells c ty)).cell? ⟨W.heap.size, j, none⟩ = c[j]? := by
  have h := World.alloc_heap_new W (.cells c ty)
  unfold World.cell?
  simp only [h]
  rfl
theorem cell_new_at (W : World) (c : Array Value) (ty : TypeId) (b j : Nat) (h : b = W.heap.size) : (W.alloc (.cells c ty)).cell? ⟨b, j, none⟩ = c[j]? := by
  subst h; exact cell_at_new W c ty j
theorem boxed_at (W : World) (v : Value) (ty : TypeId) (b : Nat) (h : b = W.heap.size) : Boxed (W.alloc (.cells #[v] ty)) b ty v := by
  subst h; exact Boxed.new W ty v
end Go.Proofs.YtamddagmlanijaaGreat
/- Terms in memory of their own, no block met twice; what may change beside them. No program stands here. -/
namespace Go.Proofs.YtamddagmlanijaaGreat
open Go.RowKit

/-- Of the blocks that are there, those below n₀ and from m on are as they were. -/
structure Fr (n₀ m : Nat) (A B : World) : Prop where
  os : B.os = A.os
  tape : B.tape = A.tape
  output : B.output = A.output
  size : A.heap.size ≤ B.heap.size
  block : ∀ k, k < A.heap.size → (k < n₀ ∨ m ≤ k) → B.heap[k]? = A.heap[k]?
theorem Fr.refl (n₀ m : Nat) (A : World) : Fr n₀ m A A := ⟨rfl, rfl, rfl, Nat.le_refl _, fun _ _ _ => rfl⟩
theorem Fr.trans {n₀ m : Nat} {A B C : World} (h : Fr n₀ m A B) (k : Fr n₀ m B C) : Fr n₀ m A C :=
  ⟨k.os.trans h.os, k.tape.trans h.tape, k.output.trans h.output, Nat.le_trans h.size k.size, fun i hi hc => (k.block i (Nat.lt_of_lt_of_le hi h.size) hc).trans (h.block i hi hc)⟩
theorem Fr.of_below {n₀ m : Nat} {A B : World} (h : Below A.heap.size A B) : Fr n₀ m A B := ⟨h.os, h.tape, h.output, h.size, fun k hk _ => h.block k hk⟩
theorem Fr.alloc {n₀ m : Nat} {A B : World} (h : Fr n₀ m A B) (o : Obj) : Fr n₀ m A (B.alloc o) := h.trans (Fr.of_below ((Below.refl _ B).alloc (Nat.le_refl _) o))
/-- a store into a block that is new to A -/
theorem Fr.setNew {n₀ m : Nat} {A B : World} (h : Fr n₀ m A B) {p : Addr} (hp : A.heap.size ≤ p.block) (v : Value) : Fr n₀ m A (B.setCell p v) :=
  ⟨h.os, h.tape, h.output, by simpa [World.setCell] using h.size, fun k hk hc => (Below.heap_setCell B p v k (by omega)).trans (h.block k hk hc)⟩
theorem Fr.below {n₀ m : Nat} {A B : World} (h : Fr n₀ m A B) (hn : n₀ ≤ A.heap.size) : Below n₀ A B := ⟨h.os, h.tape, h.output, h.size, fun k hk => h.block k (by omega) (.inl hk)⟩
theorem Fr.all {m : Nat} {A B : World} (h : Fr m m A B) : Below A.heap.size A B := ⟨h.os, h.tape, h.output, h.size, fun k hk => h.block k hk (by omega)⟩
theorem Fr.drew {n₀ m : Nat} {A B : World} (h : Fr n₀ m A B) : Fr n₀ m A B.drew := ⟨h.os, h.tape, h.output, h.size, h.block⟩

abbrev Child := Tm × Value × List Nat
def chCells (ch : List Child) : List Value := ch.flatMap fun c => [.string c.1.nm, .bool c.1.vr, c.2.1]
theorem chCells_append (a b : List Child) : chCells (a ++ b) = chCells a ++ chCells b := by simp [chCells]
theorem chCells_length (a : List Child) : (chCells a).length = a.length * 3 := by
  induction a with
  | nil => rfl
  | cons p a ih => simp [chCells] at ih ⊢; omega
theorem chCells_at (ch : List Child) (i : Nat) (c : Child) (h : ch[i]? = some c) :
    (chCells ch)[i * 3]? = some (.string c.1.nm) ∧ (chCells ch)[i * 3 + 1]? = some (.bool c.1.vr) ∧ (chCells ch)[i * 3 + 2]? = some c.2.1 := by
  induction ch generalizing i with
  | nil => simp at h
  | cons p ch ih =>
    cases i with
    | zero => simp at h; subst h; simp [chCells]
    | succ i =>
      obtain ⟨h1, h2, h3⟩ := ih i (by simpa using h)
      have e : ∀ r, (i + 1) * 3 + r = i * 3 + r + 3 := fun r => by omega
      refine ⟨?_, ?_, ?_⟩
      · have := e 0; simp only [Nat.add_zero] at this; rw [this]; simpa [chCells] using h1
      · rw [e 1]; simpa [chCells] using h2
      · rw [e 2]; simpa [chCells] using h3

/-- The slice value s holds the terms l in blocks fp of their own (e: the type of a term). -/
inductive SlOwn (e : TypeId) (W : World) : List Tm → Value → List Nat → Prop
  | nil : SlOwn e W [] (.slice none 0 0) []
  | row (g : Nat) (ch : List Child) (cur : Array Value) : ch ≠ [] → W.heap[g]? = some (.cells cur e (0, 0)) → cur.toList = chCells ch →
      (∀ c ∈ ch, SlOwn e W c.1.ts c.2.1 c.2.2) → SlOwn e W (ch.map (·.1)) (.slice (some ⟨g, 0, none⟩) ch.length ch.length) (g :: ch.flatMap (·.2.2))

theorem SlOwn.carry {e : TypeId} {A B : World} {l : List Tm} {s : Value} {fp : List Nat} (h : SlOwn e A l s fp) (hb : ∀ k ∈ fp, B.heap[k]? = A.heap[k]?) : SlOwn e B l s fp := by
  induction h with
  | nil => exact .nil
  | row g ch cur hne hg hc _ ih =>
    refine .row g ch cur hne ((hb g (by simp)).trans hg) hc fun c hcm => ih c hcm fun k hk => hb k ?_
    exact List.mem_cons_of_mem _ (List.mem_flatMap.2 ⟨c, hcm, hk⟩)

theorem SlOwn.lt {e : TypeId} {A : World} {l : List Tm} {s : Value} {fp : List Nat} (h : SlOwn e A l s fp) : ∀ k ∈ fp, k < A.heap.size := by
  induction h with
  | nil => simp
  | row g ch cur hne hg hc _ ih =>
    intro k hk
    rcases List.mem_cons.1 hk with rfl | hk
    · exact (Array.getElem?_eq_some_iff.1 hg).1
    · obtain ⟨c, hc, hk⟩ := List.mem_flatMap.1 hk
      exact ih c hc k hk

theorem SlOwn.form {e : TypeId} {A : World} {l : List Tm} {s : Value} {fp : List Nat} (h : SlOwn e A l s fp) : ∃ oa n c, s = .slice oa n c := by
  cases h with
  | nil => exact ⟨_, _, _, rfl⟩
  | row g ch cur hne hg hc hk => exact ⟨_, _, _, rfl⟩
theorem cells_of' {W : World} {B : Nat} {c : Array Value} {ty : TypeId} {fr : Nat × Nat} (h : W.heap[B]? = some (.cells c ty fr)) (j : Nat) : W.cell? ⟨B, j, none⟩ = c[j]? := by
  unfold World.cell?; simp only [h]; rfl
theorem frozen_of' {W : World} {B : Nat} {c : Array Value} {ty : TypeId} (h : W.heap[B]? = some (.cells c ty (0, 0))) (j : Nat) : W.frozen? ⟨B, j, none⟩ = false := by
  unfold World.frozen?; simp [h]

/-- Owned terms are terms. -/
theorem SlOwn.is {e : TypeId} {W : World} {n₀ : Nat} {l : List Tm} {s : Value} {fp : List Nat} (h : SlOwn e W l s fp) (hn : ∀ k ∈ fp, k < n₀) : SlIs n₀ W l s := by
  induction h with
  | nil => exact .nil0
  | row g ch cur hne hg hc hk ih =>
    have hlen : (ch.map (·.1)).length = ch.length := by simp
    have hcell : ∀ j, W.cell? ⟨g, j, none⟩ = (chCells ch)[j]? := fun j => by
      unfold World.cell?
      simp only [hg]
      rw [← hc, Array.getElem?_toList]; rfl
    have hch : ∀ i t, (ch.map (·.1))[i]? = some t → ∃ c : Child, ch[i]? = some c ∧ c.1 = t := fun i t ht => by rw [List.getElem?_map, Option.map_eq_some_iff] at ht; exact ht
    have key := SlIs.row (n₀ := n₀) (W := W) g 0 ch.length (ch.map (·.1)) (fun i => ((ch[i]?).map (·.2.1)).getD (.bool false)) (by simpa using hne) (hn g (by simp)) (by simp)
      (fun i t ht => by
        obtain ⟨c, hci, rfl⟩ := hch i t ht
        obtain ⟨h1, h2, h3⟩ := chCells_at ch i c hci
        simp only [Nat.zero_add, hcell, hci, Option.map_some, Option.getD_some]
        exact ⟨h1, h2, h3⟩)
      (fun i t ht => by
        obtain ⟨c, hci, rfl⟩ := hch i t ht
        have hm := List.mem_of_getElem? hci
        simp only [hci, Option.map_some, Option.getD_some]
        exact ih c hm fun k hk => hn k (List.mem_cons_of_mem _ (List.mem_flatMap.2 ⟨c, hm, hk⟩)))
      (fun i _ => by unfold World.frozen?; simp [hg])
    rw [hlen] at key
    exact key

theorem set3 {W : World} {g : Nat} {cur : Array Value} {e : TypeId} {fr : Nat × Nat} (h : W.heap[g]? = some (.cells cur e fr)) (i : Nat) (a b c : Value) :
    (((W.setCell ⟨g, i, none⟩ a).setCell ⟨g, i + 1, none⟩ b).setCell ⟨g, i + 2, none⟩ c).heap[g]? = some (.cells (((cur.setIfInBounds i a).setIfInBounds (i + 1) b).setIfInBounds (i + 2) c) e fr) := by
  simp [World.setCell, Array.getElem?_modify, h]
theorem set3_list (l z : List Value) (i : Nat) (x y v a b c : Value) (hl : l.length = i) : (((l ++ x :: y :: v :: z).set i a).set (i + 1) b).set (i + 2) c = l ++ a :: b :: c :: z := by
  subst hl
  simp

end Go.Proofs.YtamddagmlanijaaGreat
