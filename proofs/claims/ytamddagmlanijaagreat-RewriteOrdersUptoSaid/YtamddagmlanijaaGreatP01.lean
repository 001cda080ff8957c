/- Packed: Tm, SpB, Shelf, Sz. -/
import Derived.Below
import Derived.ProofKit
import Derived.WalkKit
import Derived.DataReads
import Derived.ChangeArms
import Derived.Deep.Slices
import Derived.Test.YtamddagmlanijaaGreatRows
import Derived.Deep.Strs
import Derived.OpenShut
import Derived.Shelf.Small.Bits
import Derived.Shelf.Small.Strs
import Derived.Shelf.Small.Wraps
import Derived.Shelf.Strconv.Itoa0
import Derived.Shelf.Strings.Prefix
import Derived.Shelf.Bits.Mul64
import Derived.Shelf.Slices.Equal
import Derived.Ground.Names2Prog
import Derived.Shelf.Slices.Clone
import Derived.Shelf.Slices.Empties2
import Derived.Ground.SlgnProg
import Derived.Shelf.SlicesE.Clone
import Derived.Ground.SlsfProg
import Derived.Shelf.SlSortCmp.Insertion
import Derived.Shelf.SlSortCmp.SiftDown1
import Derived.Shelf.SlSortCmp.HeapSort1
import Derived.Shelf.SlSortCmp.Insertion1
import Derived.Shelf.SlSortCmp.Median1
import Derived.Shelf.SlSortCmp.Pivot1
import Derived.Shelf.SlSortCmp.ReverseRange1
import Derived.Test.YtamddagmlanijaaGreatProg
import Derived.Handy
import Derived.Lib.Hide
/- Plain terms, and what it says that a slice of the memory holds such terms. No program stands here. -/
namespace Go.Proofs.YtamddagmlanijaaGreat
open Go.RowKit

/-- A term: its name, whether it is a variable, its arguments. -/
inductive Tm where
  | mk (nm : ByteArray) (vr : Bool) (ts : List Tm)

namespace Tm
def nm : Tm → ByteArray | .mk n _ _ => n
def vr : Tm → Bool | .mk _ v _ => v
def ts : Tm → List Tm | .mk _ _ l => l

theorem ind {p : Tm → Prop} (h : ∀ t : Tm, (∀ u ∈ t.ts, p u) → p t) (t : Tm) : p t := by
  refine h t fun u hu => ind h u
termination_by SizeOf.sizeOf t
decreasing_by
  cases t with
  | mk n v l =>
    have := List.sizeOf_lt_of_mem hu
    simp [Tm.ts] at this ⊢
    omega

mutual
def size : Tm → Nat
  | .mk _ _ l => 1 + sizes l
def sizes : List Tm → Nat
  | [] => 0
  | t :: r => size t + sizes r
end
mutual
def bulk : Tm → Nat
  | .mk n _ l => 1 + n.size + bulks l
def bulks : List Tm → Nat
  | [] => 0
  | t :: r => bulk t + bulks r
end
mutual
def depth : Tm → Nat
  | .mk _ _ l => 1 + depths l
def depths : List Tm → Nat
  | [] => 0
  | t :: r => max (depth t) (depths r)
end

theorem size_eq (t : Tm) : t.size = 1 + sizes t.ts := by cases t; simp [size, ts]
theorem depth_eq (t : Tm) : t.depth = 1 + depths t.ts := by cases t; simp [depth, ts]
theorem bulk_eq (t : Tm) : t.bulk = 1 + t.nm.size + bulks t.ts := by cases t; simp [bulk, ts, nm]
theorem sizes_append (l r : List Tm) : sizes (l ++ r) = sizes l + sizes r := by
  induction l with
  | nil => simp [sizes]
  | cons t l ih => simp [sizes, ih]; omega
theorem length_sizes (l : List Tm) : l.length ≤ sizes l := by
  induction l with
  | nil => simp
  | cons t l ih => simp [sizes, size_eq]; omega
theorem sizes_bulks (l : List Tm) : (∀ u ∈ l, u.size ≤ u.bulk) → sizes l ≤ bulks l := by
  induction l with
  | nil => simp [sizes]
  | cons t l ih => intro h; have := h t (by simp); have := ih (fun u hu => h u (by simp [hu])); simp [sizes, bulks]; omega
theorem size_bulk (t : Tm) : t.size ≤ t.bulk := by
  induction t using ind with
  | h t ih => rw [size_eq, bulk_eq]; have := sizes_bulks _ ih; omega
theorem size_pos (t : Tm) : 1 ≤ t.size := by rw [size_eq]; omega
theorem bulk_mem {t : Tm} {l : List Tm} (h : t ∈ l) : t.bulk ≤ bulks l := by
  induction l with
  | nil => cases h
  | cons x l ih =>
    simp only [bulks]
    rcases List.mem_cons.1 h with rfl | h
    · omega
    · have := ih h; omega
theorem size_mem {t : Tm} {l : List Tm} (h : t ∈ l) : t.size ≤ sizes l := by
  induction l with
  | nil => cases h
  | cons x l ih =>
    simp only [sizes]
    rcases List.mem_cons.1 h with rfl | h
    · omega
    · have := ih h; omega
theorem sizes_take (l : List Tm) (k : Nat) : sizes (l.take k) ≤ sizes l := by
  have := sizes_append (l.take k) (l.drop k)
  rw [List.take_append_drop] at this
  omega
theorem take_snoc {l : List Tm} {k : Nat} {t : Tm} (h : l[k]? = some t) : l.take (k + 1) = l.take k ++ [t] := by
  rw [List.take_add_one, h]; rfl
end Tm

/-- The slice value s holds the terms l, in blocks below n₀ of the world W. -/
inductive SlIs (n₀ : Nat) (W : World) : List Tm → Value → Prop
  | nil0 : SlIs n₀ W [] (.slice none 0 0)
  | nil1 (a : Addr) (cap : Nat) : SlIs n₀ W [] (.slice (some a) 0 cap)
  | row (b o cap : Nat) (l : List Tm) (s : Nat → Value) : l ≠ [] → b < n₀ → l.length ≤ cap → 
      (∀ i t, l[i]? = some t → W.cell? ⟨b, o + i * 3, none⟩ = some (.string t.nm) ∧ W.cell? ⟨b, o + i * 3 + 1, none⟩ = some (.bool t.vr) ∧ W.cell? ⟨b, o + i * 3 + 2, none⟩ = some (s i)) →
      (∀ i t, l[i]? = some t → SlIs n₀ W t.ts (s i)) → (∀ i, i < l.length * 3 → W.frozen? ⟨b, o + i, none⟩ = false) → SlIs n₀ W l (.slice (some ⟨b, o, none⟩) l.length cap)

theorem SlIs.carry {n₀ n₁ : Nat} {A B : World} (h : Below n₀ A B) (hn : n₀ ≤ n₁) {l : List Tm} {s : Value} (hs : SlIs n₀ A l s) : SlIs n₁ B l s := by
  induction hs with
  | nil0 => exact .nil0
  | nil1 a cap => exact .nil1 a cap
  | row b o cap l s hl hb hc cells _ hf ih =>
    refine .row b o cap l s hl (by omega) hc (fun i t ht => ?_) ih (fun i hi => (h.frozen (p := ⟨b, _, none⟩) hb).trans (hf i hi))
    obtain ⟨h1, h2, h3⟩ := cells i t ht
    exact ⟨(h.cell (p := ⟨b, _, none⟩) hb).trans h1, (h.cell (p := ⟨b, _, none⟩) hb).trans h2, (h.cell (p := ⟨b, _, none⟩) hb).trans h3⟩

/-- its length -/
theorem SlIs.form {n₀ : Nat} {W : World} {l : List Tm} {s : Value} (h : SlIs n₀ W l s) : ∃ oa cap, s = .slice oa l.length cap ∧
    (l ≠ [] → ∃ b o, oa = some ⟨b, o, none⟩ ∧ b < n₀) := by
  cases h with
  | nil0 => exact ⟨_, _, rfl, fun h => absurd rfl h⟩
  | nil1 a cap => exact ⟨_, _, rfl, fun h => absurd rfl h⟩
  | row b o cap l s hl hb hc cells hk hf => exact ⟨_, _, rfl, fun _ => ⟨b, o, rfl, hb⟩⟩

end Go.Proofs.YtamddagmlanijaaGreat
/- Merged: Rd, Sp, SpB. -/
/- What an argument reads as: a term in memory. -/
namespace Go.Proofs.YtamddagmlanijaaGreat
open Go.RowKit Go.ChangeShapes Go.WideShapes Go.ChangeAt Go.Deep

theorem cellsTerm : Tryz.prog.cellsOf 25 = 3 := by kernel_rfl
instance : Inhabited Tm := ⟨.mk ⟨#[]⟩ false []⟩
theorem addr_add (b o k : Nat) : (⟨b, o, none⟩ : Addr).add k = ⟨b, o + k, none⟩ := by unfold Addr.add; split <;> simp_all
theorem bulks_range {H : Type} (T : Nat → Tm) (es : List (DataW H)) (h : ∀ i d, es[i]? = some d → (T i).bulk ≤ Rows.uptoBulk d) : Tm.bulks ((List.range es.length).map T) ≤ Rows.uptoBulkAll es := by
  induction es generalizing T with
  | nil => simp [Tm.bulks, Rows.uptoBulkAll]
  | cons d es ih =>
    have h0 := h 0 d rfl
    have h1 := ih (fun i => T (i + 1)) (fun i d' hd => h (i + 1) d' (by simpa using hd))
    simp only [List.length_cons, List.range_succ_eq_map, List.map_cons, List.map_map, Tm.bulks, Rows.uptoBulkAll, Function.comp_def] at h1 ⊢
    have e : Tm.bulks (List.map (fun x => T x.succ) (List.range es.length)) = Tm.bulks (List.map (fun i => T (i + 1)) (List.range es.length)) := rfl
    rw [e]
    omega

set_option maxRecDepth 100000 in
set_option maxHeartbeats 1000000 in
theorem term_open {H : Type} (enc : TypeId × Value → H) (W : World) (n : Nat) : ∀ (cs : List Value) (x : DataW H × List MemPlace), DataW.trod enc Tryz.prog W 0 (fun _ => true) true n 25 cs = some x → W.noneFrozen x.2 →
    ∃ (t : Tm) (s : Value), cs = [.string t.nm, .bool t.vr, s] ∧ SlIs W.heap.size W t.ts s ∧ t.bulk ≤ Rows.uptoBulk x.1 := by
  induction n using Nat.strongRecOn with
  | ind n ih =>
    intro cs x h hfz
    obtain ⟨xs, m, rfl, rfl, hl, hlen, hf⟩ := DataW.trod_struct Tryz.underlying25 h
    rw [cellsTerm] at hl
    match cs, hl with
    | [v0, v1, v2], _ =>
      match xs, hlen with
      | [y0, y1, y2], _ =>
        have h0 := hf 0 _ rfl
        have h1 := hf 1 _ rfl
        have h2 := hf 2 _ rfl
        simp only [List.getElem?_cons_zero, List.getElem?_cons_succ] at h0 h1 h2
        obtain ⟨s, hs, rfl, -⟩ := DataW.trod_string Tryz.underlying9 h0
        obtain ⟨b, hb, rfl⟩ := DataW.trod_bool Tryz.underlying4 h1
        cases hs
        cases hb
        rcases DataW.trod_slice Tryz.underlying23 h2 with ⟨hc, rfl⟩ | ⟨a, len, cap, elems, rest, k, rfl, hc, rfl, hba, hlc, hcm, hel, hall, -, -⟩
        · cases hc
          refine ⟨.mk s b [], _, rfl, .nil0, ?_⟩
          simp [Tm.bulk, Tm.bulks, Rows.uptoBulk, Rows.uptoBulkAll]
          have : s.data.size = s.size := rfl
          omega
        · cases hc
          rw [cellsTerm] at hall hfz
          have key : ∀ i, i < len → ∃ ts : Tm × Value, W.cells? 0 (a.add (i * 3)) 3 = some [.string ts.1.nm, .bool ts.1.vr, ts.2] ∧ SlIs W.heap.size W ts.1.ts ts.2 ∧ ∃ e, elems[i]? = some e ∧ ts.1.bulk ≤ Rows.uptoBulk e.1 := fun i hi => by
            have hi2 : i < elems.length := by omega
            have hh := hall i hi
            rw [List.getElem?_eq_getElem hi2] at hh
            obtain ⟨cs', g1, g2⟩ := Option.bind_eq_some_iff.1 hh
            obtain ⟨t, s', rfl, ht, hbk⟩ := ih k (by omega) cs' _ g2 (fun b' off hp => hfz b' off (by
              simp only [List.flatMap_cons, List.flatMap_nil, List.mem_append]
              refine .inr (.inr (.inl (.inr (List.mem_flatMap.2 ⟨elems[i], List.mem_append.2 (.inl (List.getElem_mem hi2)), hp⟩))))))
            exact ⟨(t, s'), g1, ht, _, List.getElem?_eq_getElem hi2, hbk⟩
          obtain ⟨TS, hTS⟩ := choose_lt (α := Tm × Value) key
          refine ⟨.mk s b ((List.range len).map fun i => (TS i).1), _, rfl, ?_, ?_⟩
          · by_cases hz0 : len = 0
            · subst hz0; exact .nil1 a cap
            · obtain ⟨c0, _, _⟩ := hTS 0 (by omega)
              have hsp : a.spot = none := by
                have := (World.cells?_some c0).2.2 0 (by omega)
                simp only [Nat.zero_mul] at this
                have e : (a.add 0).add 0 = a := by simp [Addr.add]
                rw [e] at this
                exact World.cell?_spot this
              obtain ⟨ab, ao, asp⟩ := a
              simp only at hsp; subst hsp
              have hlt : ab < W.heap.size := by
                have := (World.cells?_some c0).2.2 0 (by omega)
                exact World.block_lt_of_cell? W _ this
              have hrow := SlIs.row (n₀ := W.heap.size) (W := W) ab ao cap ((List.range len).map fun i => (TS i).1) (fun i => (TS i).2) (by simpa using hz0) hlt (by simpa using hlc)
                (fun i t ht => by
                  have hi : i < len := by have := (List.getElem?_eq_some_iff.1 ht).1; simpa using this
                  rw [List.getElem?_map, List.getElem?_range hi] at ht
                  cases ht
                  have hc := (World.cells?_some (hTS i hi).1).2.2
                  have k0 := hc 0 (by omega)
                  have k1 := hc 1 (by omega)
                  have k2 := hc 2 (by omega)
                  simp only [addr_add, Nat.add_zero, Nat.add_assoc] at k0 k1 k2
                  exact ⟨k0, by rw [Nat.add_assoc]; exact k1, by rw [Nat.add_assoc]; exact k2⟩)
                (fun i t ht => by
                  have hi : i < len := by have := (List.getElem?_eq_some_iff.1 ht).1; simpa using this
                  rw [List.getElem?_map, List.getElem?_range hi] at ht
                  cases ht
                  exact (hTS i hi).2.1)
                (fun i hi => hfz ab (ao + i) (by
                  simp only [List.flatMap_cons, List.flatMap_nil, List.mem_append]
                  refine .inr (.inr (.inl (.inl ?_)))
                  simp only [MemPlace.row, List.mem_map, List.mem_range]
                  exact ⟨i, by simp at hi; omega, rfl⟩))
              simpa [Tm.ts] using hrow
          · have hbs := bulks_range (fun i => (TS i).1) (elems.map (·.1)) (fun i d hd => by
              rw [List.getElem?_map, Option.map_eq_some_iff] at hd
              obtain ⟨e, he, rfl⟩ := hd
              have hi : i < len := by have := (List.getElem?_eq_some_iff.1 he).1; omega
              obtain ⟨_, _, e', he', hb'⟩ := hTS i hi
              rw [he] at he'; cases he'
              exact hb')
            rw [List.length_map, hel] at hbs
            simp [Tm.bulk, Rows.uptoBulk, Rows.uptoBulkAll]
            have : s.data.size = s.size := rfl
            omega
end Go.Proofs.YtamddagmlanijaaGreat
/- An argument read again, whatever is said of spare room elsewhere. -/
namespace Go.Proofs.YtamddagmlanijaaGreat
open Go.RowKit Go.ChangeShapes Go.WideShapes Go.ChangeAt Go.Deep

section
variable {H : Type} {enc : TypeId × Value → H} {P : Program} {w : World} (sp : Nat → Bool)
/-- what is read of a value of type t with fuel k, is read so too under sp -/
def SpAt (enc : TypeId × Value → H) (P : Program) (w : World) (sp : Nat → Bool) (k : Nat) (t : TypeId) : Prop :=
  ∀ cs x, DataW.trod enc P w 0 (fun _ => true) true k t cs = some x → (∀ p ∈ x.2, sp p.block = true) → ∃ m, DataW.trod enc P w 0 sp true m t cs = some x

theorem sp_string {t : TypeId} (ht : P.underlying t = some .string) (k : Nat) : SpAt enc P w sp k t := by
  intro cs x h _
  obtain ⟨s, rfl, rfl, hs⟩ := DataW.trod_string ht h
  exact ⟨1, by simp [DataW.trod, ht, hs]⟩
theorem sp_bool {t : TypeId} (ht : P.underlying t = some .bool) (k : Nat) : SpAt enc P w sp k t := by
  intro cs x h _
  obtain ⟨b, rfl, rfl⟩ := DataW.trod_bool ht h
  exact ⟨1, by simp [DataW.trod, ht]⟩
theorem sp_int {t : TypeId} {q : IntKind} (ht : P.underlying t = some (.int q)) (k : Nat) : SpAt enc P w sp k t := by
  intro cs x h _
  obtain ⟨b, rfl, rfl, hw⟩ := DataW.trod_int ht h
  exact ⟨1, by simp [DataW.trod, ht, hw]⟩
theorem row_block {a : Addr} {n : Nat} (hn : 0 < n) : ∃ p ∈ MemPlace.row a n, p.block = a.block :=
  ⟨.cell a.block (a.off + 0), List.mem_map.2 ⟨0, List.mem_range.2 hn, rfl⟩, rfl⟩

theorem sp_slice {t e : TypeId} (ht : P.underlying t = some (.slice e)) (hc : 0 < P.cellsOf e) {k : Nat} (hk : SpAt enc P w sp k e) : SpAt enc P w sp (k + 1) t := by
  intro cs x h hp
  rcases DataW.trod_slice ht h with ⟨rfl, rfl⟩ | ⟨a, len, cap, elems, rest, k', hkk, rfl, rfl, hba, hlc, hcm, hel, hall, hrest, -⟩
  · exact ⟨1, by simp [DataW.trod, ht]⟩
  · obtain rfl : k' = k := by omega
    obtain ⟨hrl, hrall⟩ := hrest rfl
    have hx : ∀ i, i < cap → ∃ cs n, w.cells? 0 (a.add (i * P.cellsOf e)) (P.cellsOf e) = some cs ∧ DataW.trod enc P w 0 sp true n e cs = some (((elems ++ rest).getD i (.nil, [])).1, ((elems ++ rest).getD i (.nil, [])).2) := fun i hi => by
      have key : (w.cells? 0 (a.add (i * P.cellsOf e)) (P.cellsOf e)).bind (DataW.trod enc P w 0 (fun _ => true) true k' e) = (elems ++ rest)[i]? := by
        by_cases hil : i < len
        · rw [hall i hil, List.getElem?_append_left (by omega)]
        · have := hrall (i - len) (by omega)
          rw [show len + (i - len) = i by omega] at this
          rw [this, List.getElem?_append_right (by omega), hel]
      have hlt : i < (elems ++ rest).length := by rw [List.length_append]; omega
      rw [List.getElem?_eq_getElem hlt] at key
      obtain ⟨cs', h1, h2⟩ := Option.bind_eq_some_iff.1 key
      obtain ⟨m, hm⟩ := hk cs' _ h2 (fun p hpp => hp p (List.mem_append.2 (.inr (List.mem_flatMap.2 ⟨_, List.getElem_mem hlt, hpp⟩))))
      refine ⟨cs', m, h1, ?_⟩
      rw [hm, List.getD_eq_getElem?_getD, List.getElem?_eq_getElem hlt]
      rfl
    have e1 : (List.range len).map (fun i => ((elems ++ rest).getD i (.nil, [])).1) = elems.map (·.1) := by
      rw [map_by_index elems (.nil, []) (·.1), hel]
      refine List.map_congr_left fun i hi => ?_
      have hi' : i < elems.length := by rw [hel]; simpa using hi
      simp [List.getD, List.getElem?_append_left hi']
    have e2 : (List.range (cap - len)).map (fun j => ((elems ++ rest).getD (len + j) (.nil, [])).1) = rest.map (·.1) := by
      rw [map_by_index rest (.nil, []) (·.1), hrl]
      refine List.map_congr_left fun j _ => ?_
      simp [List.getD, List.getElem?_append_right (show elems.length ≤ len + j by omega), hel]
    have e3 : (List.range cap).flatMap (fun i => ((elems ++ rest).getD i (.nil, [])).2) = (elems ++ rest).flatMap (·.2) := by
      rw [flatMap_by_index (elems ++ rest) (.nil, []) (·.2), List.length_append, hel, hrl, show len + (cap - len) = cap by omega]
    have e4 : elems.length + rest.length = cap := by omega
    by_cases hz : cap = 0
    · subst hz
      obtain rfl : len = 0 := by omega
      obtain rfl : elems = [] := List.length_eq_zero_iff.1 hel
      obtain rfl : rest = [] := List.length_eq_zero_iff.1 (by omega)
      exact ⟨1, by simp [DataW.trod, ht, hcm, MemPlace.row]⟩
    · have hspa : sp a.block = true := by
        obtain ⟨p, hp1, hp2⟩ := row_block (a := a) (n := cap * P.cellsOf e) (Nat.mul_pos (by omega) hc)
        rw [← hp2]
        exact hp p (List.mem_append.2 (.inl (by rw [e4]; exact hp1)))
      obtain ⟨m, hm⟩ := shut_slice_whole_cells (enc := enc) (held := true) ht hba hlc hcm hspa _ _ hx
      refine ⟨m, ?_⟩
      rw [hm, e1, e2, e3, e4]
theorem sp_zero (t : TypeId) : SpAt enc P w sp 0 t := by intro cs x h; simp [DataW.trod] at h
theorem sp_struct3 {t : TypeId} {f0 f1 f2 : Field} (ht : P.underlying t = some (.struct #[f0, f1, f2])) {k : Nat} (h0 : SpAt enc P w sp k f0.type) (h1 : SpAt enc P w sp k f1.type) (h2 : SpAt enc P w sp k f2.type) : SpAt enc P w sp (k + 1) t := by
  intro cs x h hp
  obtain ⟨xs, m, hkk, rfl, hl, hlen, hf⟩ := DataW.trod_struct ht h
  obtain rfl : m = k := by omega
  match xs, hlen with
  | [y0, y1, y2], _ =>
    have g0 := hf 0 f0 rfl
    have g1 := hf 1 f1 rfl
    have g2 := hf 2 f2 rfl
    simp only [List.getElem?_cons_zero, List.getElem?_cons_succ] at g0 g1 g2
    simp only [List.flatMap_cons, List.flatMap_nil, List.append_nil, List.mem_append] at hp
    obtain ⟨m0, k0⟩ := h0 _ _ g0 (fun p hpp => hp p (.inl hpp))
    obtain ⟨m1, k1⟩ := h1 _ _ g1 (fun p hpp => hp p (.inr (.inl hpp)))
    obtain ⟨m2, k2⟩ := h2 _ _ g2 (fun p hpp => hp p (.inr (.inr hpp)))
    have hq := trod_struct3_mk (enc := enc) ht hl (DataW.trod_le (show m0 ≤ max m0 (max m1 m2) by omega) k0) (DataW.trod_le (show m1 ≤ max m0 (max m1 m2) by omega) k1) (DataW.trod_le (show m2 ≤ max m0 (max m1 m2) by omega) k2)
    exact ⟨_, by rw [hq]; simp⟩
theorem trod_again {t : TypeId} {w0 : World} {v : Value} {d : DataW H} {ps : List MemPlace} (hs : ∀ k, SpAt enc P w sp k t) (h : DataW.Trod enc P w0 0 (fun _ => true) true t v d ps) (hp : ∀ p ∈ ps, sp p.block = true) (hm : ∀ p ∈ ps, w0.sameAt w p) :
    DataW.Trod enc P w 0 sp true t v d ps := by
  obtain ⟨n, hn⟩ := h
  exact hs n _ _ (DataW.trod_carry n t _ _ hn hm) hp
end
section
variable {H : Type} {enc : TypeId × Value → H} {w : World} (sp : Nat → Bool)
theorem sp_term (k : Nat) : SpAt enc Tryz.prog w sp k 25 := by
  induction k using Nat.strongRecOn with
  | ind k ih =>
    match k with
    | 0 => exact sp_zero sp _
    | 1 => exact sp_struct3 sp Tryz.underlying25 (sp_zero sp _) (sp_zero sp _) (sp_zero sp _)
    | k + 2 => exact sp_struct3 sp Tryz.underlying25 (sp_string sp Tryz.underlying9 _) (sp_bool sp Tryz.underlying4 _) (sp_slice sp Tryz.underlying23 (by rw [cellsTerm]; omega) (ih k (by omega)))
end
end Go.Proofs.YtamddagmlanijaaGreat
/- Arguments read again: a struct of two fields, an array of three. -/
namespace Go.Proofs.YtamddagmlanijaaGreat
open Go.RowKit Go.ChangeShapes Go.WideShapes Go.ChangeAt Go.Deep

theorem uptoBulk_mem {H : Type} {d : DataW H} {l : List (DataW H)} (h : d ∈ l) : Rows.uptoBulk d ≤ Rows.uptoBulkAll l := by
  induction l with
  | nil => cases h
  | cons x l ih =>
    rw [Rows.uptoBulkAll]
    rcases List.mem_cons.1 h with rfl | h
    · omega
    · have := ih h; omega
section
variable {H : Type} {enc : TypeId × Value → H} {P : Program} {w : World} (sp : Nat → Bool)
theorem sp_struct2 {t : TypeId} {f0 f1 : Field} (ht : P.underlying t = some (.struct #[f0, f1])) {k : Nat} (h0 : SpAt enc P w sp k f0.type) (h1 : SpAt enc P w sp k f1.type) : SpAt enc P w sp (k + 1) t := by
  intro cs x h hp
  obtain ⟨xs, m, hkk, rfl, hl, hlen, hf⟩ := DataW.trod_struct ht h
  obtain rfl : m = k := by omega
  match xs, hlen with
  | [y0, y1], _ =>
    have g0 := hf 0 f0 rfl
    have g1 := hf 1 f1 rfl
    simp only [List.getElem?_cons_zero, List.getElem?_cons_succ] at g0 g1
    simp only [List.flatMap_cons, List.flatMap_nil, List.append_nil, List.mem_append] at hp
    obtain ⟨m0, k0⟩ := h0 _ _ g0 (fun p hpp => hp p (.inl hpp))
    obtain ⟨m1, k1⟩ := h1 _ _ g1 (fun p hpp => hp p (.inr hpp))
    have hq := trod_struct2_mk (enc := enc) ht hl (DataW.trod_le (show m0 ≤ max m0 m1 by omega) k0) (DataW.trod_le (show m1 ≤ max m0 m1 by omega) k1)
    exact ⟨_, by rw [hq]; simp⟩
end
end Go.Proofs.YtamddagmlanijaaGreat
/-
  DERIVED: THE SHELF's CONTRACTS AT THIS DUMP, IN PLAIN WORDS (tools/lay-plain.mjs out of 'TryzShelf.lean', which tools/lay-shelf.mjs wrote): THE SAME DECLARATIONS UNDER THE SAME NAMES: 'import', 'namespace', 'open', 'def', 'theorem' AND NOTHING ELSE: no command of the shelf's: FOR A HAND-IN. Each laying: the table of numbers ('.._ren') and one theorem, a field a fact of the dump's own or the kernel's comparison; each contract: ONE APPLICATION.
-/
namespace Go.Proofs
open Go.Shelf
def Tryz.lays106_ren : Go.Shelf.Ren := ⟨fun | 106 => 190 | 213 => 250 | 265 => 276 | n => n, fun | 9 => 9 | 3 => 3 | n => n, fun | n => n⟩
theorem Tryz.lays106 : Go.Proofs.Lays.n106 Tryz.prog Tryz.lays106_ren := {
  mixed := by kernel_rfl
  f106 := Tryz.func190.trans (congrArg some (by kernel_rfl))
  f213 := Tryz.func250.trans (congrArg some (by kernel_rfl))
  f265 := Tryz.func276.trans (congrArg some (by kernel_rfl))
  t3 := Tryz.underlying3
  a3 := Tryz.isAgg3
  z3 := Tryz.sizeOf3
  v3 := Tryz.zeroValue3
  t9 := Tryz.underlying9
  a9 := Tryz.isAgg9
  z9 := Tryz.sizeOf9
  v9 := Tryz.zeroValue9 }
open Go.RowKit in
/-- strings.Compare: "Compare returns an integer comparing two strings lexicographically. The result will be 0 if a == b, -1 if a < b, and +1 if a > b.": IT RETURNS 'Lib.compareBytes a b'; the world is as it was. (LAID: no walk: one application.) -/
theorem Tryz.strings_Compare (a b : ByteArray) (w : World) :
    Calls Tryz.prog 190 #[.string a, .string b] w fun e w' => e = .returned (.int .i64 (Lib.compareBytes a.data.toList b.data.toList)) ∧ w' = w := Any.strings_Compare Tryz.lays106 a b w
def Tryz.lays122_ren : Go.Shelf.Ren := ⟨fun | 122 => 174 | 215 => 238 | n => n, fun | 3 => 3 | 4 => 4 | n => n, fun | n => n⟩
theorem Tryz.lays122 : Go.Proofs.Lays.n122 Tryz.prog Tryz.lays122_ren := {
  mixed := by kernel_rfl
  f122 := Tryz.func174.trans (congrArg some (by kernel_rfl))
  f215 := Tryz.func238.trans (congrArg some (by kernel_rfl))
  t3 := Tryz.underlying3
  a3 := Tryz.isAgg3
  z3 := Tryz.sizeOf3
  v3 := Tryz.zeroValue3
  t4 := Tryz.underlying4
  a4 := Tryz.isAgg4
  z4 := Tryz.sizeOf4
  v4 := Tryz.zeroValue4 }
open Go.RowKit in
/-- cmp.Compare at int: "Compare returns -1 if x is less than y, 0 if x equals y, +1 if x is greater than y.": IT RETURNS 'Lib.compareInt x y'; the world is as it was. (LAID: no walk: one application.) -/
theorem Tryz.cmp_Compare_int (x y : Int) (w : World) :
    Calls Tryz.prog 174 #[.int .i64 x, .int .i64 y] w fun e w' => e = .returned (.int .i64 (Lib.compareInt x y)) ∧ w' = w := Any.cmp_Compare_int Tryz.lays122 x y w
def Tryz.lays100_ren : Go.Shelf.Ren := ⟨fun | 100 => 207 | 207 => 251 | n => n, fun | 9 => 9 | 4 => 4 | 3 => 3 | n => n, fun | n => n⟩
theorem Tryz.lays100 : Go.Proofs.Lays.n100 Tryz.prog Tryz.lays100_ren := {
  mixed := by kernel_rfl
  f100 := Tryz.func207.trans (congrArg some (by kernel_rfl))
  f207 := Tryz.func251.trans (congrArg some (by kernel_rfl))
  t3 := Tryz.underlying3
  a3 := Tryz.isAgg3
  z3 := Tryz.sizeOf3
  v3 := Tryz.zeroValue3
  t4 := Tryz.underlying4
  a4 := Tryz.isAgg4
  z4 := Tryz.sizeOf4
  v4 := Tryz.zeroValue4
  t9 := Tryz.underlying9
  a9 := Tryz.isAgg9
  z9 := Tryz.sizeOf9
  v9 := Tryz.zeroValue9 }
open Go.RowKit Go.Lib in
/-- strings.HasSuffix: "HasSuffix reports whether the string s ends with suffix.": IT RETURNS 'Lib.hasSuffix s suffix'; the world is as it was. ('hs': no Go string is longer: a caller has it of every string that it was handed.) (LAID: no walk: one application.) -/
theorem Tryz.strings_HasSuffix (s p : ByteArray) (w : World) (hs : s.size ≤ 9223372036854775807) :
    Calls Tryz.prog 207 #[.string s, .string p] w fun e w' => e = .returned (.bool (Lib.hasSuffix s.data.toList p.data.toList)) ∧ w' = w := Any.strings_HasSuffix Tryz.lays100 s p w hs
def Tryz.lays102_ren : Go.Shelf.Ren := ⟨fun | 102 => 125 | 209 => 192 | 207 => 251 | n => n, fun | 9 => 9 | 4 => 4 | 3 => 3 | n => n, fun | n => n⟩
theorem Tryz.lays102 : Go.Proofs.Lays.n102 Tryz.prog Tryz.lays102_ren := {
  mixed := by kernel_rfl
  f102 := Tryz.func125.trans (congrArg some (by kernel_rfl))
  f207 := Tryz.func251.trans (congrArg some (by kernel_rfl))
  f209 := Tryz.func192.trans (congrArg some (by kernel_rfl))
  t3 := Tryz.underlying3
  a3 := Tryz.isAgg3
  z3 := Tryz.sizeOf3
  v3 := Tryz.zeroValue3
  t4 := Tryz.underlying4
  a4 := Tryz.isAgg4
  z4 := Tryz.sizeOf4
  v4 := Tryz.zeroValue4
  t9 := Tryz.underlying9
  a9 := Tryz.isAgg9
  z9 := Tryz.sizeOf9
  v9 := Tryz.zeroValue9 }
open Go.RowKit Go.Lib in
/-- strings.TrimSuffix: "TrimSuffix returns s without the provided trailing suffix string. If s doesn't end with suffix, s is returned unchanged.": IT RETURNS 'Lib.trimSuffix s suffix'; the world is as it was. (LAID: no walk: one application.) -/
theorem Tryz.strings_TrimSuffix (s p : ByteArray) (w : World) (hs : s.size ≤ 9223372036854775807) :
    Calls Tryz.prog 125 #[.string s, .string p] w fun e w' => e = .returned (.string ⟨(Lib.trimSuffix s.data.toList p.data.toList).toArray⟩) ∧ w' = w := Any.strings_TrimSuffix Tryz.lays102 s p w hs
def Tryz.lays111_ren : Go.Shelf.Ren := ⟨fun | 111 => 102 | n => n, fun | 28 => 34 | 3 => 3 | 4 => 4 | 0 => 0 | n => n, fun | n => n⟩
theorem Tryz.lays111 : Go.Proofs.Lays.n111 Tryz.prog Tryz.lays111_ren := {
  mixed := by kernel_rfl
  f111 := Tryz.func102.trans (congrArg some (by kernel_rfl))
  t0 := Tryz.underlying0
  a0 := Tryz.isAgg0
  z0 := Tryz.sizeOf0
  v0 := Tryz.zeroValue0
  t3 := Tryz.underlying3
  a3 := Tryz.isAgg3
  z3 := Tryz.sizeOf3
  v3 := Tryz.zeroValue3
  t4 := Tryz.underlying4
  a4 := Tryz.isAgg4
  z4 := Tryz.sizeOf4
  v4 := Tryz.zeroValue4
  t28 := Tryz.underlying34
  a28 := Tryz.isAgg34
  z28 := Tryz.sizeOf34
  v28 := Tryz.zeroValue34 }
open Go.RowKit Go.Lib in
/-- slices.Equal at []int: "Equal reports whether two slices are equal: the same length and all elements equal. If the lengths are different, Equal returns false. Otherwise, the elements are compared in increasing index order, and the comparison stops at the first unequal pair. Empty and nil slices are considered equal.": IT RETURNS WHETHER THE TWO LISTS OF ELEMENTS ARE ONE; the world is as it was but for the count of draws (the test 's1[i] != s2[i]' has two reads, whose order the model draws, once a round). 'xs', 'ys': what the cells behind the two addresses hold (the spare capacity too, if you have it); 'xs.take n', 'ys.take m': the elements. THE TWO SLICES MAY OVERLAP. (LAID: no walk: one application.) -/
theorem Tryz.slices_Equal_int (b1 o1 n c b2 o2 m d : Nat) (xs ys : List Int) (w : World) (hx : n ≤ xs.length) (hy : m ≤ ys.length) (hbig : n ≤ 9223372036854775807) (hbig2 : m ≤ 9223372036854775807) (hc1 : ∀ j, j < xs.length → w.cell? ⟨b1, o1 + j, none⟩ = some (.int .i64 (xs.getD j 0))) (hc2 : ∀ j, j < ys.length → w.cell? ⟨b2, o2 + j, none⟩ = some (.int .i64 (ys.getD j 0))) :
    Calls Tryz.prog 102 #[.slice (some ⟨b1, o1, none⟩) n c, .slice (some ⟨b2, o2, none⟩) m d] w fun e w' => e = .returned (.bool (xs.take n == ys.take m)) ∧ ∃ q, w' = w.drewN q := Any.slices_Equal_int Tryz.lays111 b1 o1 n c b2 o2 m d xs ys w hx hy hbig hbig2 hc1 hc2
open Go.RowKit Go.Lib in
/-- The same where the first is of length 0 (a nil one too): no cell is asked for. (LAID: no walk: one application.) -/
theorem Tryz.slices_Equal_int_empty (a1 a2 : Option Addr) (c m d : Nat) (w : World) (hbig2 : m ≤ 9223372036854775807) :
    Calls Tryz.prog 102 #[.slice a1 0 c, .slice a2 m d] w fun e w' => e = .returned (.bool (decide (m = 0))) ∧ w' = w := Any.slices_Equal_int_empty Tryz.lays111 a1 a2 c m d w hbig2
def Tryz.laysNm215_ren : Go.Shelf.Ren := ⟨fun | 15 => 186 | n => n, fun | 22 => 34 | 3 => 3 | 4 => 4 | n => n, fun | n => n⟩
theorem Tryz.laysNm215 : Go.Proofs.Lays2.n15 Tryz.prog Tryz.laysNm215_ren := {
  mixed := by kernel_rfl
  f15 := Tryz.func186.trans (congrArg some (by kernel_rfl))
  t3 := Tryz.underlying3
  a3 := Tryz.isAgg3
  z3 := Tryz.sizeOf3
  v3 := Tryz.zeroValue3
  t4 := Tryz.underlying4
  a4 := Tryz.isAgg4
  z4 := Tryz.sizeOf4
  v4 := Tryz.zeroValue4
  t22 := Tryz.underlying34
  a22 := Tryz.isAgg34
  z22 := Tryz.sizeOf34
  v22 := Tryz.zeroValue34
  i3 := by kernel_rfl }
open Go.RowKit Go.Lib in
/-- slices.Clone at []int: "Clone returns a copy of the slice. The elements are copied using assignment, so this is a shallow clone. The result may have additional unused capacity. The result preserves the nilness of s.": OF A SLICE THAT IS NOT nil IT RETURNS A SLICE THAT IS NOT nil, OF THE SAME ELEMENTS, IN MEMORY OF THE CALL's OWN: in the how-to's words (6f): 'w'.ownsRow B e 1 v' n cells': v' begins at the head of a row among the blocks from B on (B: the heap's size at the call), not frozen, whose first cells are the elements · 'Below B w w'': below B all is as it was. The capacity is whatever the run-time gives. 'zs': what the cells behind the slice's address hold; 'zs.take n': its elements. (LAID: no walk: one application.) -/
theorem Tryz.slices_Clone_int (b off n c : Nat) (zs : List Int) (w : World) (hz : n ≤ zs.length) (hbig : n * 8 ≤ 140737488355328) (hc : ∀ j, j < zs.length → w.cell? ⟨b, off + j, none⟩ = some (.int .i64 (zs.getD j 0))) :
    Calls Tryz.prog 186 #[.slice (some ⟨b, off, none⟩) n c] w fun e w' => ∃ v', e = .returned v' ∧ w'.ownsRow w.heap.size 3 1 v' n ((zs.take n).map (Value.int .i64)) ∧ v' ≠ .slice none 0 0 ∧ Below w.heap.size w w' := Any.slices_Clone_int Tryz.laysNm215 b off n c zs w hz hbig hc
open Go.RowKit Go.Lib in
/-- The same at nil: nil comes back; the world is as it was. (LAID: no walk: one application.) -/
theorem Tryz.slices_Clone_int_nil (n c : Nat) (w : World) :
    Calls Tryz.prog 186 #[.slice none n c] w fun e w' => e = .returned (.slice none 0 0) ∧ w' = w := Any.slices_Clone_int_nil Tryz.laysNm215 n c w
open Go.RowKit Go.Lib in
theorem Tryz.slices_Equal_int_lens (a1 a2 : Option Addr) (n c m d : Nat) (w : World) (hnm : n ≠ m) :
    Calls Tryz.prog 102 #[.slice a1 n c, .slice a2 m d] w fun e w' => e = .returned (.bool false) ∧ w' = w := Any.slices_Equal_int_lens Tryz.lays111 a1 a2 n c m d w hnm
end Go.Proofs
/- Merged: Nm, Nm2, Sz. -/
/- Names: their bytes, what is a name; the walks of the program's and the reference's functions on names. -/
namespace Go.Proofs.YtamddagmlanijaaGreat
open Go.RowKit

theorem ret_int {k : IntKind} {a b : Int} (h : a = b) : Ending.returned (.int k a) = .returned (.int k b) := by rw [h]
theorem ret_bool {a b : Bool} (h : a = b) : Ending.returned (.bool a) = .returned (.bool b) := by rw [h]

/-- may the byte stand in a name? -/
def okByte (c : UInt8) : Bool := (65 ≤ c && c ≤ 90) || (97 ≤ c && c ≤ 122) || (48 ≤ c && c ≤ 57) || c == 95 || c == 39
theorem okByte_yes {c : UInt8} (h : (65 ≤ c.toNat ∧ c.toNat ≤ 90) ∨ (97 ≤ c.toNat ∧ c.toNat ≤ 122) ∨ (48 ≤ c.toNat ∧ c.toNat ≤ 57) ∨ c.toNat = 95 ∨ c.toNat = 39) : okByte c = true := by
  simp [okByte, UInt8.le_iff_toNat_le, ← UInt8.toNat_inj]; omega
theorem okByte_no {c : UInt8} (h : ¬ ((65 ≤ c.toNat ∧ c.toNat ≤ 90) ∨ (97 ≤ c.toNat ∧ c.toNat ≤ 122) ∨ (48 ≤ c.toNat ∧ c.toNat ≤ 57) ∨ c.toNat = 95 ∨ c.toNat = 39)) : okByte c = false := by
  simp [okByte, UInt8.le_iff_toNat_le, ← UInt8.toNat_inj]; omega
theorem byte_cases (n : Nat) : n < 39 ∨ n = 39 ∨ (39 < n ∧ n < 48) ∨ (48 ≤ n ∧ n ≤ 57) ∨ (57 < n ∧ n < 65) ∨ (65 ≤ n ∧ n ≤ 90) ∨ (90 < n ∧ n < 95) ∨ n = 95 ∨ n = 96 ∨ (97 ≤ n ∧ n ≤ 122) ∨ 122 < n := by omega

/-- do all bytes stand in names? -/
def plain (s : ByteArray) : Bool := s.data.toList.all okByte
theorem all_snoc {l : List UInt8} {k : Nat} {c : UInt8} (h : l[k]? = some c) (p : UInt8 → Bool) : (l.take (k + 1)).all p = ((l.take k).all p && p c) := by
  rw [List.take_add_one, h]; simp
theorem all_not {l : List UInt8} {k : Nat} {c : UInt8} (h : l[k]? = some c) {p : UInt8 → Bool} (hp : p c = false) : l.all p = false := by
  rw [List.all_eq_false]; exact ⟨c, List.mem_of_getElem? h, by simp [hp]⟩
theorem bytes_get {s : ByteArray} {k : Nat} (h : k < s.size) : s.data.toList[k]? = some s[k] := by
  rw [Array.getElem?_toList, Array.getElem?_eq_getElem (by exact h)]; rfl
theorem bytes_len (s : ByteArray) : s.data.toList.length = s.size := by rw [Array.length_toList]; rfl

set_option maxHeartbeats 1000000 in
theorem plain_any (s : ByteArray) (w : World) (hs : s.size ≤ 1048576) :
    Calls Tryz.prog 126 #[.string s] w fun e w' => e = .returned (.bool (plain s)) ∧ w = w' := by
  go_enter Tryz.func126, Tryz.ntmps126
  go_wp2_with fail
  go_loop [3, 4, 5, 6, 9] (fun _ _ _ _ i => ∃ k : Nat, k ≤ s.size ∧ i = .int .i64 k ∧ Hid ((s.data.toList.take k).all okByte = true)) (fun _ _ _ _ i => s.size - (intOf i).toNat)
  case atStart => exact ⟨0, by omega, rfl, Lib.hid rfl⟩
  case round =>
    obtain ⟨k, hk, rfl, HA⟩ := hrel
    by_cases hlt : k < s.size
    · have HG := Lib.hid (bytes_get hlt)
      have HY' := Lib.hid (@okByte_yes (s[k]'hlt))
      have HN' := Lib.hid (@okByte_no (s[k]'hlt))
      rcases byte_cases s[k].toNat with h | h | h | h | h | h | h | h | h | h | h
      all_goals
        have HC := Lib.hid h
        first
          | have e95 : (((s[k]'hlt).toNat : Int) != 95) = true := by rw [bne_iff_ne]; omega
          | have e95 : (((s[k]'hlt).toNat : Int) != 95) = false := by rw [bne_eq_false_iff_eq]; omega
        first
          | have e39 : (((s[k]'hlt).toNat : Int) != 39) = true := by rw [bne_iff_ne]; omega
          | have e39 : (((s[k]'hlt).toNat : Int) != 39) = false := by rw [bne_eq_false_iff_eq]; omega
        go_wp2_with fail
        all_goals first
          | (exact ⟨⟨k + 1, by omega, by go_num, Lib.hid (by rw [all_snoc HG.out, HA.out, HY'.out (by have := HC.out; omega)]; rfl)⟩, by simp [intOf]; omega⟩)
          | (go_ret; exact ⟨ret_bool (by rw [plain, all_not HG.out (HN'.out (by have := HC.out; omega))]), rfl⟩)
          | (exfalso; simp at *; omega)
    · obtain rfl : k = s.size := by omega
      have HP := Lib.hid (show plain s = true by rw [plain, ← HA.out, List.take_of_length_le (by rw [bytes_len]; omega)])
      go_wp2_with fail
      go_ret
      exact ⟨ret_bool HP.out.symm, rfl⟩
end Go.Proofs.YtamddagmlanijaaGreat
/- More on names: their bytes, what is a name; the walks of the program's and the reference's functions on names. -/
namespace Go.Proofs.YtamddagmlanijaaGreat
open Go.RowKit

/-- the name without the mark, where a mark may be -/
def baseOf (s : ByteArray) (m : Bool) : ByteArray := if m then ⟨(Lib.trimSuffix s.data.toList [35]).toArray⟩ else s
def isName (s : ByteArray) (m : Bool) : Bool := decide (0 < (baseOf s m).size) && decide (s.size ≤ 24) && plain (baseOf s m)
theorem baseOf_size (s : ByteArray) (m : Bool) : (baseOf s m).size ≤ s.size := by
  unfold baseOf
  split
  · show (Lib.trimSuffix s.data.toList [35]).length ≤ s.size
    rw [← bytes_len]
    unfold Lib.trimSuffix
    split
    · simp
    · simp
  · exact Nat.le_refl _

theorem trim_any (s : ByteArray) (w : World) (hs : s.size ≤ 1048576) :
    Calls Tryz.prog 125 #[.string s, .string ⟨#[35]⟩] w fun e w' => e = .returned (.string (baseOf s true)) ∧ w = w' :=
  (Tryz.strings_TrimSuffix s ⟨#[35]⟩ w (by omega)).mono fun _ _ ⟨he, hw⟩ => ⟨by rw [he]; rfl, hw.symm⟩
theorem isName_eq {s : ByteArray} {m : Bool} {b : Bool} (h0 : 0 < (baseOf s m).size) (h : s.size ≤ 24) (hb : plain (baseOf s m) = b) : isName s m = b := by simp [isName, h0, h, hb]
theorem isName_no {s : ByteArray} {m : Bool} (h : ¬ (0 < (baseOf s m).size ∧ s.size ≤ 24)) : isName s m = false := by
  unfold isName
  by_cases h0 : 0 < (baseOf s m).size <;> by_cases h1 : s.size ≤ 24 <;> simp_all <;> omega

set_option maxHeartbeats 1000000 in
theorem isName_yes (s : ByteArray) (w : World) (hs : s.size ≤ 1048576) :
    Calls Tryz.prog 59 #[.string s, .bool true] w fun e w' => e = .returned (.bool (isName s true)) ∧ w = w' := by
  have hb := baseOf_size s true
  by_cases h0 : 0 < (baseOf s true).size
  · by_cases h24 : s.size ≤ 24
    · have HE := Lib.hid (isName_eq h0 h24 rfl)
      go_enter Tryz.func59, Tryz.ntmps59
      go_wp2_with (first | (go_at_call 125; refine (trim_any _ _ hs).mono ?_; rintro e w' ⟨rfl, rfl⟩) | (go_at_call 126; refine (plain_any _ _ (by omega)).mono ?_; rintro e w' ⟨rfl, rfl⟩))
      go_ret
      exact ⟨ret_bool HE.out.symm, rfl⟩
    · have HE := Lib.hid (isName_no (s := s) (m := true) (fun h => h24 h.2))
      go_enter Tryz.func59, Tryz.ntmps59
      go_wp2_with (go_at_call 125; refine (trim_any _ _ hs).mono ?_; rintro e w' ⟨rfl, rfl⟩)
      go_ret
      exact ⟨ret_bool HE.out.symm, rfl⟩
  · have HE := Lib.hid (isName_no (s := s) (m := true) (fun h => h0 h.1))
    go_enter Tryz.func59, Tryz.ntmps59
    go_wp2_with (go_at_call 125; refine (trim_any _ _ hs).mono ?_; rintro e w' ⟨rfl, rfl⟩)
    go_ret
    exact ⟨ret_bool HE.out.symm, rfl⟩

set_option maxHeartbeats 1000000 in
theorem isName_not (s : ByteArray) (w : World) (hs : s.size ≤ 1048576) :
    Calls Tryz.prog 59 #[.string s, .bool false] w fun e w' => e = .returned (.bool (isName s false)) ∧ w = w' := by
  by_cases h0 : 0 < s.size
  · by_cases h24 : s.size ≤ 24
    · have HE := Lib.hid (isName_eq (s := s) (m := false) h0 h24 rfl)
      go_enter Tryz.func59, Tryz.ntmps59
      go_wp2_with (go_at_call 126; refine (plain_any _ _ (by omega)).mono ?_; rintro e w' ⟨rfl, rfl⟩)
      go_ret
      exact ⟨ret_bool HE.out.symm, rfl⟩
    · have HE := Lib.hid (isName_no (s := s) (m := false) (fun h => h24 h.2))
      go_enter Tryz.func59, Tryz.ntmps59
      go_wp2_with fail
      go_ret
      exact ⟨ret_bool HE.out.symm, rfl⟩
  · have HE := Lib.hid (isName_no (s := s) (m := false) (fun h => h0 h.1))
    go_enter Tryz.func59, Tryz.ntmps59
    go_wp2_with fail
    go_ret
    exact ⟨ret_bool HE.out.symm, rfl⟩
theorem isName_any (s : ByteArray) (m : Bool) (w : World) (hs : s.size ≤ 1048576) :
    Calls Tryz.prog 59 #[.string s, .bool m] w fun e w' => e = .returned (.bool (isName s m)) ∧ w = w' := by
  cases m
  · exact isName_not s w hs
  · exact isName_yes s w hs

/-- has the node of a term the form of a variable or of an applied symbol? (n: the number of its arguments) -/
def nodeOk (nm : ByteArray) (vr : Bool) (n : Nat) : Bool := if vr then isName nm false && n == 0 else isName nm true && decide (n ≤ 8)

set_option maxHeartbeats 1000000 in
theorem isFormed_any (nm : ByteArray) (vr : Bool) (oa : Option Addr) (n cap : Nat) (w : World) (hs : nm.size ≤ 1048576) (hn : n ≤ 1048576) :
    Calls Tryz.prog 167 #[.agg #[.string nm, .bool vr, .slice oa n cap]] w fun e w' => e = .returned (.bool (nodeOk nm vr n)) ∧ Below w.heap.size w w' := by
  cases vr
  · cases hi : isName nm true
    all_goals have HI := Lib.hid hi
    all_goals clear hi
    all_goals by_cases h8 : n ≤ 8
    all_goals have HE : Hid (nodeOk nm false n = (isName nm true && decide (n ≤ 8))) := Lib.hid (by simp [nodeOk])
    all_goals go_enter Tryz.func167, Tryz.ntmps167
    all_goals go_wp2_with (go_at_call 59; refine (isName_any _ _ _ hs).mono ?_; rintro e w' ⟨rfl, rfl⟩; rw [HI.out])
    all_goals go_ret
    all_goals exact ⟨ret_bool (by rw [HE.out, HI.out]; first | (simp [h8]; done) | (simp [h8]; omega)), by go_grown⟩
  · cases hi : isName nm false
    all_goals have HI := Lib.hid hi
    all_goals clear hi
    all_goals by_cases h8 : n = 0
    all_goals have HE : Hid (nodeOk nm true n = (isName nm false && n == 0)) := Lib.hid (by simp [nodeOk])
    all_goals first | subst h8 | have h9 : ((n : Int) == 0) = false := by rw [beq_eq_false_iff_ne]; omega
    all_goals go_enter Tryz.func167, Tryz.ntmps167
    all_goals go_wp2_with (go_at_call 59; refine (isName_any _ _ _ hs).mono ?_; rintro e w' ⟨rfl, rfl⟩; rw [HI.out])
    all_goals go_ret
    all_goals exact ⟨ret_bool (by rw [HE.out, HI.out]; simp_all), by go_grown⟩
end Go.Proofs.YtamddagmlanijaaGreat
namespace Go.Proofs.YtamddagmlanijaaGreat
open Go.RowKit

/-- a term's value: its three cells -/
@[reducible] def tmv (t : Tm) (s : Value) : Value := .agg #[.string t.nm, .bool t.vr, s]

/-- the cells of the k-th argument, where there is one -/
theorem SlIs.get {n₀ : Nat} {W : World} {l : List Tm} {oa : Option Addr} {n cap k : Nat} (h : SlIs n₀ W l (.slice oa n cap)) (hk : k < l.length) :
    ∃ (b o : Nat) (u : Tm) (s : Value), oa = some ⟨b, o, none⟩ ∧ b < n₀ ∧ l[k]? = some u ∧ u ∈ l ∧ SlIs n₀ W u.ts s ∧
      W.cell? ⟨b, o + k * 3, none⟩ = some (.string u.nm) ∧ W.cell? ⟨b, o + k * 3 + 1, none⟩ = some (.bool u.vr) ∧ W.cell? ⟨b, o + k * 3 + 2, none⟩ = some s := by
  cases h with
  | nil0 => simp at hk
  | nil1 a cap => simp at hk
  | row b o cap l s hl hb hc cells hs hf =>
    have hu : l[k]? = some l[k] := List.getElem?_eq_getElem hk
    obtain ⟨h1, h2, h3⟩ := cells k _ hu
    exact ⟨b, o, l[k], s k, rfl, hb, hu, List.getElem_mem hk, hs k _ hu, h1, h2, h3⟩

end Go.Proofs.YtamddagmlanijaaGreat
