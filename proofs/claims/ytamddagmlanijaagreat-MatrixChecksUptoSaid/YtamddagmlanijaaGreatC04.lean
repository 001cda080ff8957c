/- Packed: Rep, VarP, Fst2, Bind. -/
import Derived.WalkKit
import Derived.ProofKit
import Derived.OpenShut
import Derived.Handy
import Derived.Lib.Hide
import Derived.Deep.RegionHeld3
import Derived.Test.YtamddagmlanijaaGreatC01
import Derived.Test.YtamddagmlanijaaGreatC03
import Derived.StringKeys
import Derived.Maps.OwnSet
import Derived.Maps.OwnOps
import Derived.Maps.StringElems
import Derived.Lib.ItoaNum
import Derived.OwnWalk
import Derived.Laws.AppendOwnNone
import Derived.Maps.AppendAt
import Derived.Deep.RegionLawGrows
import Derived.Laws.Tables
import Derived.Laws.Cells
import Derived.Laws.BytesString
import Derived.BigQuiet
import Derived.Deep.LoopGhost
import Derived.StillTailTactics
/- replace: a term with its variables replaced by a function with a state, in memory of its own. -/
namespace Go.Proofs.YtamddagmlanijaaGreat
open Go.RowKit

section
variable {σ : Type} (img : σ → ByteArray → Tm × σ)
mutual
def Tm.rep (s : σ) : Tm → Tm × σ
  | .mk nm true _ => img s nm
  | .mk nm false l => (.mk nm false (Tm.reps s l).1, (Tm.reps s l).2)
def Tm.reps (s : σ) : List Tm → List Tm × σ
  | [] => ([], s)
  | t :: r => ((Tm.rep s t).1 :: (Tm.reps (Tm.rep s t).2 r).1, (Tm.reps (Tm.rep s t).2 r).2)
end
theorem Tm.reps_snoc (s : σ) (l : List Tm) (t : Tm) : Tm.reps img s (l ++ [t]) = ((Tm.reps img s l).1 ++ [(Tm.rep img (Tm.reps img s l).2 t).1], (Tm.rep img (Tm.reps img s l).2 t).2) := by
  induction l generalizing s with
  | nil => simp [Tm.reps]
  | cons x l ih => simp [Tm.reps, ih]
theorem Tm.reps_length (s : σ) (l : List Tm) : (Tm.reps img s l).1.length = l.length := by
  induction l generalizing s with
  | nil => rfl
  | cons x l ih => simp [Tm.reps, ih]
end

theorem set1 {W : World} {g : Nat} {cur : Array Value} {e : TypeId} {fr : Nat × Nat} (h : W.heap[g]? = some (.cells cur e fr)) (i : Nat) (a : Value) :
    (W.setCell ⟨g, i, none⟩ a).heap[g]? = some (.cells (cur.setIfInBounds i a) e fr) := by
  simp [World.setCell, Array.getElem?_modify, h]
theorem heap_new_at (W : World) (o : Obj) (b : Nat) (h : b = W.heap.size) : (W.alloc o).heap[b]? = some o := by subst h; exact World.alloc_heap_new W o
/-- replace, k arguments being done: W is the world, w the world at the call -/
structure RepSt {σ : Type} (img : σ → ByteArray → Tm × σ) (I : σ → World → Prop) (n₀ m : Nat) (w : World) (nm : ByteArray) (l : List Tm) (st : σ) (k : Nat) (W : World) (ch : List Child) (sg : σ) (cur : Array Value) (rest : List Value) : Prop where
  reps : Tm.reps img st (l.take k) = (ch.map (·.1), sg)
  inv : I sg W
  fr : Fr n₀ m w W
  cells : W.heap[w.heap.size + 3]? = some (.cells cur 25 (0, 0))
  list : cur.toList = chCells ch ++ rest
  rest : rest.length = (l.length - k) * 3
  own : ∀ c ∈ ch, SlOwn 25 W c.1.ts c.2.1 c.2.2
  nodup : (ch.flatMap (·.2.2)).Nodup
  fresh : ∀ b ∈ ch.flatMap (·.2.2), w.heap.size + 4 ≤ b
  box : W.heap[w.heap.size + 2]? = some (.cells #[.string nm, .bool false, .slice (some ⟨w.heap.size + 3, 0, none⟩) l.length l.length] 25 (0, 0))
  ret : W.heap[w.heap.size + 1]? = some (.cells #[.string ⟨#[]⟩, .bool false, .slice none 0 0] 25 (0, 0))
  size : w.heap.size + 4 ≤ W.heap.size

theorem RepSt.chlen {σ : Type} {img : σ → ByteArray → Tm × σ} {I : σ → World → Prop} {n₀ m : Nat} {w : World} {nm : ByteArray} {l : List Tm} {st : σ} {k : Nat} {W : World} {ch : List Child} {sg : σ} {cur : Array Value} {rest : List Value}
    (h : RepSt img I n₀ m w nm l st k W ch sg cur rest) (hk : k ≤ l.length) : ch.length = k := by
  have h1 := congrArg (fun x => x.1.length) h.reps
  simp only [Tm.reps_length, List.length_map, List.length_take] at h1
  omega

/-- one argument more -/
theorem RepSt.step {σ : Type} {img : σ → ByteArray → Tm × σ} {I : σ → World → Prop} {n₀ m : Nat} {w : World} {nm : ByteArray} {l : List Tm} {st : σ} {k : Nat} {W A W2 : World} {ch : List Child} {sg : σ} {cur : Array Value} {rest : List Value}
    (h : RepSt img I n₀ m w nm l st k W ch sg cur rest) (hm : m ≤ w.heap.size) (hI : ∀ s A B, I s A → Below m A B → I s B) {u : Tm} (hu : l[k]? = some u) (hA : Below W.heap.size W A) {sl : Value} {fp : List Nat}
    (ho : SlOwn 25 W2 (u.rep img sg).1.ts sl fp) (hnd : fp.Nodup) (hf : ∀ b ∈ fp, A.heap.size ≤ b) (hi : I (u.rep img sg).2 W2) (hfr : Fr n₀ m A W2) :
    ∃ cur' rest', RepSt img I n₀ m w nm l st (k + 1) (((W2.setCell ⟨w.heap.size + 3, k * 3, none⟩ (.string (u.rep img sg).1.nm)).setCell ⟨w.heap.size + 3, k * 3 + 1, none⟩ (.bool (u.rep img sg).1.vr)).setCell ⟨w.heap.size + 3, k * 3 + 2, none⟩ sl)
      (ch ++ [((u.rep img sg).1, sl, fp)]) (u.rep img sg).2 cur' rest' := by
  have hkl : k < l.length := (List.getElem?_eq_some_iff.1 hu).1
  have hcl := h.chlen (by omega)
  have hAs := hA.size
  have hWs := h.size
  have old : ∀ j, j < W.heap.size → (j < n₀ ∨ m ≤ j) → W2.heap[j]? = W.heap[j]? := fun j hj hc => (hfr.block j (by omega) hc).trans (hA.block j hj)
  have other : ∀ (j : Nat), j ≠ w.heap.size + 3 → (((W2.setCell ⟨w.heap.size + 3, k * 3, none⟩ (.string (u.rep img sg).1.nm)).setCell ⟨w.heap.size + 3, k * 3 + 1, none⟩ (.bool (u.rep img sg).1.vr)).setCell ⟨w.heap.size + 3, k * 3 + 2, none⟩ sl).heap[j]? = W2.heap[j]? := fun j hj => by
    rw [Below.heap_setCell _ _ _ _ hj, Below.heap_setCell _ _ _ _ hj, Below.heap_setCell _ _ _ _ hj]
  have hrl := h.rest
  obtain ⟨x, y, z, rest', hrest⟩ : ∃ x y z rest', rest = x :: y :: z :: rest' := by
    match rest, hrl with
    | [], e => simp at e; omega
    | [_], e => simp at e; omega
    | [_, _], e => simp at e; omega
    | x :: y :: z :: r, _ => exact ⟨x, y, z, r, rfl⟩
  have hcell2 := (old _ (by omega) (.inr (by omega))).trans h.cells
  have hset := set3 hcell2 (k * 3) (.string (u.rep img sg).1.nm) (.bool (u.rep img sg).1.vr) sl
  refine ⟨_, rest', ⟨?_, ?_, ?_, hset, ?_, ?_, ?_, ?_, ?_, (other _ (by omega)).trans ((old _ (by omega) (.inr (by omega))).trans h.box), (other _ (by omega)).trans ((old _ (by omega) (.inr (by omega))).trans h.ret), ?_⟩⟩
  · rw [Tm.take_snoc hu, Tm.reps_snoc, h.reps]; simp
  · exact hI _ _ _ hi ((((Below.refl m W2).setCell (p := ⟨w.heap.size + 3, k * 3, none⟩) (by simp; omega) _).setCell (p := ⟨w.heap.size + 3, k * 3 + 1, none⟩) (by simp; omega) _).setCell (p := ⟨w.heap.size + 3, k * 3 + 2, none⟩) (by simp; omega) _)
  · exact ((((h.fr.trans (Fr.of_below hA)).trans hfr).setNew (p := ⟨w.heap.size + 3, k * 3, none⟩) (by simp) _).setNew (p := ⟨w.heap.size + 3, k * 3 + 1, none⟩) (by simp) _).setNew (p := ⟨w.heap.size + 3, k * 3 + 2, none⟩) (by simp) _
  · simp only [Array.toList_setIfInBounds]
    rw [h.list, hrest, set3_list _ _ _ _ _ _ _ _ _ (by rw [chCells_length, hcl]), chCells_append]
    simp [chCells]
  · rw [hrest] at hrl; simp at hrl; omega
  · intro c hc
    rcases List.mem_append.1 hc with hc | hc
    · refine (h.own c hc).carry fun j hj => ?_
      have hj4 := h.fresh j (List.mem_flatMap.2 ⟨c, hc, hj⟩)
      rw [other _ (by omega)]
      exact old _ ((h.own c hc).lt j hj) (.inr (by omega))
    · obtain rfl : c = ((u.rep img sg).1, sl, fp) := by simpa using hc
      exact ho.carry fun j hj => other _ (by have := hf j hj; omega)
  · rw [List.flatMap_append, List.nodup_append]
    refine ⟨h.nodup, by simpa using hnd, fun a ha b hb => ?_⟩
    obtain ⟨c, hc, ha⟩ := List.mem_flatMap.1 ha
    have h1 := (h.own c hc).lt a ha
    have h2 := hf b (by simpa using hb)
    omega
  · intro b hb
    rw [List.flatMap_append] at hb
    rcases List.mem_append.1 hb with hb | hb
    · exact h.fresh b hb
    · have := hf b (by simpa using hb); omega
  · have := hfr.size; simp [World.setCell]; omega

/-- behind the call for an argument: what is there still -/
theorem RepSt.after {σ : Type} {img : σ → ByteArray → Tm × σ} {I : σ → World → Prop} {n₀ m : Nat} {w : World} {nm : ByteArray} {l : List Tm} {st : σ} {k : Nat} {W A W2 : World} {ch : List Child} {sg : σ} {cur : Array Value} {rest : List Value}
    (h : RepSt img I n₀ m w nm l st k W ch sg cur rest) (hm : m ≤ w.heap.size) (hk : k < l.length) (hA : Below W.heap.size W A) (hfr : Fr n₀ m A W2) :
    W2.cell? ⟨w.heap.size + 1 + 1, 2, none⟩ = some (.slice (some ⟨w.heap.size + 1 + 1 + 1, 0, none⟩) l.length l.length) ∧ (∃ x y z, W2.cell? ⟨w.heap.size + 1 + 1 + 1, k * 3, none⟩ = some x ∧
      W2.cell? ⟨w.heap.size + 1 + 1 + 1, k * 3 + 1, none⟩ = some y ∧ W2.cell? ⟨w.heap.size + 1 + 1 + 1, k * 3 + 2, none⟩ = some z) ∧
      W2.frozen? ⟨w.heap.size + 1 + 1 + 1, k * 3, none⟩ = false ∧ W2.frozen? ⟨w.heap.size + 1 + 1 + 1, k * 3 + 1, none⟩ = false ∧ W2.frozen? ⟨w.heap.size + 1 + 1 + 1, k * 3 + 2, none⟩ = false := by
  have hAs := hA.size
  have hWs := h.size
  have hcl := h.chlen (by omega)
  have old : ∀ j, j < W.heap.size → (j < n₀ ∨ m ≤ j) → W2.heap[j]? = W.heap[j]? := fun j hj hc => (hfr.block j (by omega) hc).trans (hA.block j hj)
  have hb := (old _ (by omega) (.inr (by omega))).trans h.box
  have hc := (old _ (by omega) (.inr (by omega))).trans h.cells
  have hlen : cur.size = l.length * 3 := by
    have h1 := congrArg List.length h.list
    have h2 := h.rest
    simp [chCells_length] at h1
    omega
  refine ⟨by have := cells_of' hb 2; simpa using this, ⟨cur[k * 3]'(by omega), cur[k * 3 + 1]'(by omega), cur[k * 3 + 2]'(by omega), ?_, ?_, ?_⟩, frozen_of' hc _, frozen_of' hc _, frozen_of' hc _⟩ <;>
  · refine (cells_of' hc _).trans ?_
    exact Array.getElem?_eq_getElem _

end Go.Proofs.YtamddagmlanijaaGreat
/- Merged: Cln, Tmn, Can, Can2, VarP. -/
/- clone, and the small makers of terms. -/
namespace Go.Proofs.YtamddagmlanijaaGreat
open Go.RowKit

/-- variables have no arguments -/
inductive Tm.bare : Tm → Prop
  | mk (t : Tm) : (t.vr = true → t.ts = []) → (∀ u ∈ t.ts, u.bare) → t.bare
theorem Tm.bare.kids {t : Tm} (h : t.bare) : ∀ u ∈ t.ts, u.bare := by cases h with | mk _ h1 h2 => exact h2
theorem Tm.mem_nodesL {u : Tm} {l : List Tm} (h : u ∈ l) (d : Nat) : ∀ v ∈ u.nodes d, v ∈ Tm.nodesL d l := by
  induction l with
  | nil => cases h
  | cons x l ih =>
    intro v hv
    simp only [Tm.nodesL, List.mem_append]
    rcases List.mem_cons.1 h with rfl | h
    · exact .inl hv
    · exact .inr (ih h v hv)
/-- formed, node by node -/
theorem Tm.formed_iff (t : Tm) : t.formed ↔ nodeOk t.nm t.vr t.ts.length = true ∧ ∀ u ∈ t.ts, u.formed := by
  have sh : ∀ (u : Tm) (d : Nat), (∀ v ∈ u.nodes d, viewOk v = true) → ∀ d', ∀ v ∈ u.nodes d', viewOk v = true := by
    intro u
    induction u using Tm.ind with
    | h u ih =>
      intro d h d' v hv
      rw [Tm.nodes_eq] at hv h
      rcases List.mem_cons.1 hv with rfl | hv
      · have := h _ (List.mem_cons_self ..); exact this
      · obtain ⟨x, hx, hv⟩ := Tm.nodesL_mem hv
        exact ih x hx (d + 1) (fun v hv => h v (List.mem_cons_of_mem _ (Tm.mem_nodesL hx _ v hv))) _ v hv
  unfold Tm.formed
  rw [Tm.nodes_eq]
  constructor
  · intro h
    refine ⟨h _ (List.mem_cons_self ..), fun u hu => sh u 2 (fun v hv => h v (List.mem_cons_of_mem _ (Tm.mem_nodesL hu _ v hv))) 1⟩
  · rintro ⟨h1, h2⟩ v hv
    rcases List.mem_cons.1 hv with rfl | hv
    · exact h1
    · obtain ⟨x, hx, hv⟩ := Tm.nodesL_mem hv
      exact sh x 1 (h2 x hx) 2 v hv
theorem Tm.formed.bare {t : Tm} (h : t.formed) : t.bare := by
  induction t using Tm.ind with
  | h t ih =>
    obtain ⟨h1, h2⟩ := (Tm.formed_iff t).1 h
    refine .mk t (fun hv => ?_) fun u hu => ih u hu (h2 u hu)
    simp only [nodeOk, hv, if_true, Bool.and_eq_true, beq_iff_eq] at h1
    exact List.length_eq_zero_iff.1 h1.2

theorem box3 {W : World} {b : Nat} {x y z : Value} {e : TypeId} (h : W.heap[b]? = some (.cells #[x, y, z] e (0, 0))) :
    (W.cell? ⟨b, 0, none⟩ = some x ∧ W.cell? ⟨b, 1, none⟩ = some y ∧ W.cell? ⟨b, 2, none⟩ = some z) ∧ W.frozen? ⟨b, 0, none⟩ = false ∧ W.frozen? ⟨b, 1, none⟩ = false ∧ W.frozen? ⟨b, 2, none⟩ = false :=
  ⟨⟨by have := cells_of' h 0; simpa using this, by have := cells_of' h 1; simpa using this, by have := cells_of' h 2; simpa using this⟩, frozen_of' h _, frozen_of' h _, frozen_of' h _⟩
theorem below_set3 {B : Nat} {A W : World} (h : Below B A W) {b : Nat} (hb : B ≤ b) (x y z : Value) : Below B A (((W.setCell ⟨b, 0, none⟩ x).setCell ⟨b, 1, none⟩ y).setCell ⟨b, 2, none⟩ z) :=
  ((h.setCell (p := ⟨b, 0, none⟩) hb _).setCell (p := ⟨b, 1, none⟩) hb _).setCell (p := ⟨b, 2, none⟩) hb _
theorem heap_set3 (W : World) (b k : Nat) (x y z : Value) (h : k ≠ b) : (((W.setCell ⟨b, 0, none⟩ x).setCell ⟨b, 1, none⟩ y).setCell ⟨b, 2, none⟩ z).heap[k]? = W.heap[k]? := by
  rw [Below.heap_setCell _ _ _ _ h, Below.heap_setCell _ _ _ _ h, Below.heap_setCell _ _ _ _ h]

end Go.Proofs.YtamddagmlanijaaGreat
/- A term and a number as results. -/
namespace Go.Proofs.YtamddagmlanijaaGreat
open Go.RowKit

abbrev Tm.zero : Tm := .mk ⟨#[]⟩ false []
end Go.Proofs.YtamddagmlanijaaGreat
/- Canonical: the names in the order of their first showing. -/
namespace Go.Proofs.YtamddagmlanijaaGreat
open Go.RowKit Go.Maps

abbrev Key := List UInt8
def xname (dig : Nat → ByteArray) (i : Nat) : ByteArray := ⟨#[120]⟩ ++ dig i
/-- the map's datum and the names seen -/
structure MapInv (dig : Nat → ByteArray) (D : DataW Unit) (ss : List Key) : Prop where
  tidy : Tidy D
  size : Maps.size D = ss.length
  has : ∀ k, Maps.has D (.string k) = decide (k ∈ ss)
  at_ : ∀ i k, ss[i]? = some k → ∀ z, D.atKey (.string k) z = .lit (.string (xname dig i).data.toList)
theorem MapInv.put {dig : Nat → ByteArray} {D : DataW Unit} {ss : List Key} (h : MapInv dig D ss) {k : Key} (hk : k ∉ ss) : MapInv dig (D.put (.string k) (.lit (.string (xname dig ss.length).data.toList))) (ss ++ [k]) := by
  have hl : WideAt.IsKeyLit (.string k) := trivial
  refine ⟨h.tidy.put hl _, ?_, fun k' => ?_, fun i k' hi z => ?_⟩
  · rw [size_put h.tidy, h.has, h.size]; simp [hk]
  · by_cases e : k' = k
    · subst e; rw [has_put_same h.tidy.isMap hl]; simp
    · rw [has_put_other (by simpa using e), h.has]; simp [e]
  · by_cases e : k' = k
    · subst e
      rw [atKey_put_same h.tidy.isMap hl]
      have hlt := (List.getElem?_eq_some_iff.1 hi).1
      by_cases hil : i < ss.length
      · rw [List.getElem?_append_left hil] at hi; exact absurd (List.mem_of_getElem? hi) hk
      · simp at hlt; rw [show i = ss.length by omega]
    · rw [atKey_put_other (by simpa using e)]
      refine h.at_ i k' ?_ z
      by_cases hil : i < ss.length
      · rwa [List.getElem?_append_left hil] at hi
      · rw [List.getElem?_append_right (by omega)] at hi
        have hlt := (List.getElem?_eq_some_iff.1 hi).1
        simp at hlt
        rw [show i - ss.length = 0 by omega] at hi
        simp at hi; exact absurd hi.symm e
section
variable {H : Type} {P : Program} (w : World) {ops : Array Oper} {rest : List Oper} {o : Oper} {a : Act} {Q : Exit → Act → World → Prop}
end

theorem strKeyed : Keyed Tryz.prog 9 := string_keyed Tryz.underlying9
end Go.Proofs.YtamddagmlanijaaGreat
/- Canonical: the walk. -/
namespace Go.Proofs.YtamddagmlanijaaGreat
open Go.RowKit Go.Maps

end Go.Proofs.YtamddagmlanijaaGreat
/- Canonical forms and renamings: plain facts. -/
namespace Go.Proofs.YtamddagmlanijaaGreat
open Go.RowKit

/-- a name from its bytes -/
def kb (k : Key) : ByteArray := ⟨k.toArray⟩
theorem kb_key (nm : ByteArray) : kb nm.data.toList = nm := by cases nm; rfl
theorem key_kb (k : Key) : (kb k).data.toList = k := rfl
def digN (i : Nat) : ByteArray := if i < 1048576 then kb (Lib.decDigits i) else ⟨#[]⟩
/-- one name more, if it is new -/
def addKey (ss : List Key) (k : Key) : List Key := if k ∈ ss then ss else ss ++ [k]
theorem addKey_mem (ss : List Key) (k : Key) : k ∈ addKey ss k := by unfold addKey; split; assumption; simp
end Go.Proofs.YtamddagmlanijaaGreat
/- Merged: Str, PosM, Fst, Fst2. -/
/- Slices of strings in memory; an append of any slice onto a row of one's own. -/
namespace Go.Proofs.YtamddagmlanijaaGreat
open Go.RowKit

theorem kb_toList (a : Key) : (kb a).toList = a := by rw [ByteArray.toList_eq]; rfl
theorem ad_add (b o k : Nat) : (⟨b, o, none⟩ : Addr).add k = ⟨b, o + k, none⟩ := by unfold Addr.add; split <;> simp_all
def strs (l : List Key) : List Value := l.map fun k => .string (kb k)
theorem strs_length (l : List Key) : (strs l).length = l.length := by simp [strs]
theorem strs_at (l : List Key) (i : Nat) (k : Key) (h : l[i]? = some k) : (strs l)[i]? = some (.string (kb k)) := by simp [strs, h]

/-- the slice value v holds these strings, in a block below n -/
def StrIs (n : Nat) (W : World) (l : List Key) (v : Value) : Prop :=
  ∃ oa cap, v = .slice oa l.length cap ∧ l.length ≤ cap ∧ ((oa = none → l.length = 0 ∧ cap = 0) ∧ ∀ a, oa = some a → a.spot = none) ∧
    (l ≠ [] → ∃ b o, oa = some ⟨b, o, none⟩ ∧ b < n ∧ ∀ i k, l[i]? = some k → W.cell? ⟨b, o + i, none⟩ = some (.string (kb k)))
theorem StrIs.nil (n : Nat) (W : World) : StrIs n W [] (.slice none 0 0) := ⟨_, _, rfl, Nat.le_refl _, ⟨fun _ => ⟨rfl, rfl⟩, fun a h => by cases h⟩, fun h => absurd rfl h⟩
theorem StrIs.carry {n m : Nat} {A B : World} {l : List Key} {v : Value} (h : StrIs n A l v) (hb : Below n A B) (hn : n ≤ m) : StrIs m B l v := by
  obtain ⟨oa, cap, rfl, h1, h2, h3⟩ := h
  refine ⟨oa, cap, rfl, h1, h2, fun hne => ?_⟩
  obtain ⟨b, o, rfl, hbn, hc⟩ := h3 hne
  exact ⟨b, o, rfl, by omega, fun i k hk => (hb.cell (p := ⟨b, _, none⟩) hbn).trans (hc i k hk)⟩
theorem StrIs.ofRow {W : World} {m : Nat} {e : TypeId} {v : Value} {l : List Key} (h : W.ownsRow m e 1 v l.length (strs l)) : StrIs W.heap.size W l v := by
  have h0 := h
  rcases h.2 with ⟨rfl, hl⟩ | ⟨g, cap, cur, rfl, hb, hg, hle, _⟩
  · exact ⟨none, 0, by rw [hl], by omega, ⟨fun _ => ⟨hl, rfl⟩, fun a h => by cases h⟩, fun hne => absurd (List.length_eq_zero_iff.1 hl) hne⟩
  · refine ⟨_, cap, rfl, hle, ⟨fun h => (by cases h), fun a h => by cases h; rfl⟩, fun _ => ⟨g, 0, rfl, (Array.getElem?_eq_some_iff.1 hg).1, fun i x hx => ?_⟩⟩
    have := h0.cells (g := g) rfl i _ (strs_at l i x hx)
    have e : (⟨g, 0, none⟩ : Addr).add i = ⟨g, i, none⟩ := by unfold Addr.add; split <;> simp_all
    rw [Nat.zero_add]
    rwa [e] at this

section
variable {P : Program} {w : World} {ops : Array Oper} {rest : List Oper} {o : Oper} {a : Act} {Q : Exit → Act → World → Prop}
theorem wpList_append_opt (hgd : o.guard = none) (s x : Operand) (t : TypeId)
    (ho : o.op = .call { callee := .builtin .append, args := #[s, x], argTypes := #[t, t] })
    (base : Nat) (e : TypeId) (i : TypeInfo) (z : Value) (size bytes : Nat) (ht : P.underlying t = some (.slice e)) (hi : P.info? e = some i) (hz : i.zero = some z)
    (hsize : i.size = size) (hby : i.bytes = bytes) (hzs : z.cells.size = size) (hsz : 0 < size)
    (v : Value) (n : Nat) (xs : List Value) (hs : a.eval s = v) (hown : w.ownsRow base e size v n xs)
    (oa : Option Addr) (m c : Nat) (news : List Value) (hx : a.eval x = .slice oa m c) (hl : news.length = m * size) (hnone : oa = none → m = 0 ∧ c = 0) (hnews : ∀ ad, oa = some ad → ∀ j u, news[j]? = some u → w.cell? (ad.add j) = some u) (h1 : ∀ u ∈ news, u.oneCell' = true)
    (h63 : n + m ≤ maxLen) (hbytes : (n + m) * bytes ≤ 140737488355328) (hbase : base ≤ w.heap.size)
    (h : ∀ v' w', w'.ownsRow base e size v' (n + m) (xs ++ news) → w.grownBy w' v.ownBlock → (v'.ownBlock = v.ownBlock ∨ v'.ownBlock = some w.heap.size) → wpList P ops Q rest (a.put o.dst v') w') :
    wpList P ops Q (o :: rest) a w := by
  cases oa with
  | some ad => exact wpList_append_own_at _ hgd s x t ho base e i z size bytes ht hi hz hsize hby hzs hsz v n xs hs hown ad m c news hx hl (hnews ad rfl) h1 h63 hbytes hbase fun v' w' k1 k2 _ k4 => h v' w' k1 k2 k4
  | none =>
    obtain ⟨rfl, rfl⟩ := hnone rfl
    obtain rfl : news = [] := List.length_eq_zero_iff.1 (by simpa using hl)
    refine wpList_append_own_none hgd s x t ho base e i size ht hi v n xs hs hown hx ?_
    exact h v w (by simpa using hown) ⟨rfl, rfl, rfl, Nat.le_refl _, fun _ _ _ => rfl⟩ (.inl rfl)
end

/-- append of any slice onto a row of one's own, in a drawn region -/
theorem step_append_opt {P : Program} {ops : Array Oper} {o : Oper} {a : Act} {w : World} {K : Act → World → Prop} {Q : Exit → Act → World → Prop} {E : Prop}
    (hgd : o.guard = none) (s x : Operand) (t : TypeId)
    (ho : o.op = .call { callee := .builtin .append, args := #[s, x], argTypes := #[t, t] })
    (base : Nat) (e : TypeId) (i : TypeInfo) (z : Value) (size bytes : Nat) (ht : P.underlying t = some (.slice e)) (hi : P.info? e = some i) (hz : i.zero = some z)
    (hsize : i.size = size) (hby : i.bytes = bytes) (hzs : z.cells.size = size) (hsz : 0 < size)
    (v : Value) (n : Nat) (xs : List Value) (hs : a.eval s = v) (hown : w.ownsRow base e size v n xs)
    (oa : Option Addr) (m c : Nat) (news : List Value) (hx : a.eval x = .slice oa m c) (hl : news.length = m * size) (hnone : oa = none → m = 0 ∧ c = 0) (hnews : ∀ ad, oa = some ad → ∀ j u, news[j]? = some u → w.cell? (ad.add j) = some u) (h1 : ∀ u ∈ news, u.oneCell' = true)
    (h63 : n + m ≤ maxLen) (hbytes : (n + m) * bytes ≤ 140737488355328) (hbase : base ≤ w.heap.size)
    (h : ∀ v' w', w'.ownsRow base e size v' (n + m) (xs ++ news) → w.grownBy w' v.ownBlock → (v'.ownBlock = v.ownBlock ∨ v'.ownBlock = some w.heap.size) → K (a.put o.dst v') w') :
    if Region.wanted o (yielded ops a.tmps) = true then Oper.wp P o a w K Q else E := by
  have hw : Region.wanted o (yielded ops a.tmps) = true := by simp [Region.wanted, hgd]
  rw [if_pos hw]
  cases oa with
  | some ad =>
    obtain ⟨v', w', hr, h2, h3, h4, h5⟩ := run_append_own_at (P := P) w base t o.type e i z size bytes ht hi hz hsize hby hzs hsz v n xs hown ad m c news hl (hnews ad rfl) h1 h63 hbytes hbase
    unfold Oper.wp execOp
    simp only [ho, resolve, invoke, builtin, Sem.run_bind, Sem.run_pure, Result.andThen_ok, List.map_toArray, List.map_cons, List.map_nil, hs, hx, hr]
    exact h v' w' h2 h3 h5
  | none =>
    obtain ⟨rfl, rfl⟩ := hnone rfl
    obtain rfl : news = [] := List.length_eq_zero_iff.1 (by simpa using hl)
    have hrun := run_append_owned_none (P := P) (w := w) base t o.type e i size ht hi v n xs hown
    unfold Oper.wp
    simp only [execOp, ho, resolve, invoke, builtin, Sem.run_bind, Sem.run_pure, Result.andThen_ok, List.map_toArray, List.map_cons, List.map_nil, hs, hx, hrun]
    exact h v w (by simpa using hown) ⟨rfl, rfl, rfl, Nat.le_refl _, fun _ _ _ => rfl⟩ (.inl rfl)
end Go.Proofs.YtamddagmlanijaaGreat
/- Positions in memory: rows of integers of their own, a list of such rows, and append onto a row whose spare room is shared. -/
namespace Go.Proofs.YtamddagmlanijaaGreat
open Go.RowKit

def ints (l : List Int) : List Value := l.map (.int .i64)
/-- rows of integers, each of its own block, all from m on -/
def Hs (m : Nat) (W : World) : List (List Int) → List Value → Prop
  | [], [] => True
  | p :: ps, h :: hs => W.ownsRow m 3 1 h p.length (ints p) ∧ Hs m W ps hs
  | _, _ => False
theorem Hs.append {m : Nat} {W : World} {a b : List (List Int)} {x y : List Value} (h : Hs m W a x) (k : Hs m W b y) : Hs m W (a ++ b) (x ++ y) := by
  induction a generalizing x with
  | nil => cases x with | nil => simpa using k | cons _ _ => exact h.elim
  | cons p a ih => cases x with | nil => exact h.elim | cons v x => exact ⟨h.1, ih h.2⟩
theorem Hs.length {m : Nat} {W : World} {a : List (List Int)} {x : List Value} (h : Hs m W a x) : x.length = a.length := by
  induction a generalizing x with
  | nil => cases x with | nil => rfl | cons _ _ => exact h.elim
  | cons p a ih => cases x with | nil => exact h.elim | cons v x => simp [ih h.2]
theorem Hs.get {m : Nat} {W : World} {a : List (List Int)} {x : List Value} (h : Hs m W a x) (i : Nat) (p : List Int) (hp : a[i]? = some p) : ∃ v, x[i]? = some v ∧ W.ownsRow m 3 1 v p.length (ints p) := by
  induction a generalizing x i with
  | nil => simp at hp
  | cons q a ih =>
    cases x with
    | nil => exact h.elim
    | cons v x =>
      cases i with
      | zero => simp at hp; subst hp; exact ⟨v, rfl, h.1⟩
      | succ i => obtain ⟨v', hv, ho⟩ := ih h.2 i (by simpa using hp); exact ⟨v', by simpa using hv, ho⟩

/-- between the worlds only the blocks x and y of those that were there may have changed -/
structure FrP (x y : Option Nat) (A B : World) : Prop where
  os : B.os = A.os
  tape : B.tape = A.tape
  output : B.output = A.output
  size : A.heap.size ≤ B.heap.size
  block : ∀ k, k < A.heap.size → some k ≠ x → some k ≠ y → B.heap[k]? = A.heap[k]?
theorem FrP.of_below {x y : Option Nat} {A B : World} (h : Below A.heap.size A B) : FrP x y A B := ⟨h.os, h.tape, h.output, h.size, fun k hk _ _ => h.block k hk⟩
theorem FrP.refl (x y : Option Nat) (A : World) : FrP x y A A := ⟨rfl, rfl, rfl, Nat.le_refl _, fun _ _ _ _ => rfl⟩
/-- then once more, with blocks that are the same or new -/
theorem FrP.trans {x y x' y' : Option Nat} {A B C : World} (h : FrP x y A B) (k : FrP x' y' B C) (hx : x' = x ∨ x' = y ∨ (∀ j, x' = some j → A.heap.size ≤ j)) (hy : y' = y ∨ y' = x ∨ (∀ j, y' = some j → A.heap.size ≤ j)) : FrP x y A C :=
  ⟨k.os.trans h.os, k.tape.trans h.tape, k.output.trans h.output, Nat.le_trans h.size k.size, fun i hi h1 h2 => (k.block i (Nat.lt_of_lt_of_le hi h.size)
    (fun e => by rcases hx with rfl | rfl | hx; exact h1 e; exact h2 e; have := hx i e.symm; omega) (fun e => by rcases hy with rfl | rfl | hy; exact h2 e; exact h1 e; have := hy i e.symm; omega)).trans (h.block i hi h1 h2)⟩
theorem FrP.grown {A B : World} {x : Option Nat} (h : A.grownBy B x) : FrP x none A B := ⟨h.os, h.tape, h.output, h.size, fun k hk h1 _ => h.block k hk h1⟩
theorem FrP.below {x y : Option Nat} {A B : World} {n : Nat} (h : FrP x y A B) (hn : n ≤ A.heap.size) (hx : ∀ j, x = some j → n ≤ j) (hy : ∀ j, y = some j → n ≤ j) : Below n A B :=
  ⟨h.os, h.tape, h.output, h.size, fun k hk => h.block k (by omega) (fun e => by have := hx k e.symm; omega) (fun e => by have := hy k e.symm; omega)⟩
theorem FrP.row {x y : Option Nat} {A B : World} (h : FrP x y A B) {m n : Nat} {e : TypeId} {v : Value} {xs : List Value} (ho : A.ownsRow m e 1 v n xs) (hx : v.ownBlock = none ∨ v.ownBlock ≠ x) (hy : v.ownBlock = none ∨ v.ownBlock ≠ y) : B.ownsRow m e 1 v n xs := by
  refine ⟨ho.1, ?_⟩
  rcases ho.2 with hn | ⟨g, cap, cur, rfl, hb, hg, rest⟩
  · exact .inl hn
  · exact .inr ⟨g, cap, cur, rfl, hb, (h.block g (Array.getElem?_eq_some_iff.1 hg).1 (by simpa [Value.ownBlock] using hx) (by simpa [Value.ownBlock] using hy)).trans hg, rest⟩
theorem Hs.kept {m n : Nat} {W V : World} {a : List (List Int)} {x : List Value} (h : Hs m W a x) (hk : ∀ (v : Value) (p : List Int), W.ownsRow m 3 1 v p.length (ints p) → V.ownsRow n 3 1 v p.length (ints p)) : Hs n V a x := by
  induction a generalizing x with
  | nil => cases x with | nil => trivial | cons _ _ => exact h.elim
  | cons p a ih => cases x with | nil => exact h.elim | cons v x => exact ⟨hk v p h.1, ih h.2⟩
/-- v' is v and one element more: in v's own room, or in a new block -/
def More (A B : World) (v v' : Value) (n : Nat) : Prop :=
  (∃ g cap, v = .slice (some ⟨g, 0, none⟩) n cap ∧ v' = .slice (some ⟨g, 0, none⟩) (n + 1) cap ∧ A.grownBy B (some g)) ∨ (A.grownBy B none ∧ ∃ k, v'.ownBlock = some k ∧ A.heap.size ≤ k)

/-- what is left of v when v' has been used -/
theorem More.back {A B C : World} {v v' : Value} {n m : Nat} {e : TypeId} {xs : List Value} {y : Value} (h : More A B v v' n) (ho : A.ownsRow m e 1 v n xs) (ho' : C.ownsRow m e 1 v' (n + 1) (xs ++ [y])) {x : Option Nat} (hf : FrP x v'.ownBlock B C)
    (hx : v.ownBlock = none ∨ v.ownBlock ≠ x) : C.ownsRow m e 1 v n xs := by
  rcases h with ⟨g, cap, rfl, rfl, _⟩ | ⟨hg, k, hk, hkn⟩
  · refine ⟨ho.1, ?_⟩
    rcases ho'.2 with ⟨h1, _⟩ | ⟨g', cap', cur, h1, hb, hg', hle, hcm, hcs, ht⟩
    · cases h1
    · simp only [Value.slice.injEq, Option.some.injEq, Addr.mk.injEq] at h1
      obtain ⟨⟨rfl, -⟩, -, rfl⟩ := h1
      refine .inr ⟨g, cap, cur, rfl, hb, hg', by omega, hcm, hcs, ?_⟩
      have hl := ho.1
      have := congrArg (List.take (n * 1)) ht
      rw [List.take_take, Nat.min_eq_left (by omega)] at this
      rw [this, List.take_append_of_le_length (by omega), List.take_of_length_le (by omega)]
  · have h1 : B.ownsRow m e 1 v n xs := ho.kept hg (by cases hv : v.ownBlock <;> simp)
    refine hf.row h1 hx ?_
    cases hv : v.ownBlock with
    | none => exact .inl rfl
    | some j => exact .inr fun he => by rw [hk] at he; cases he; have := (ho.lt _ hv).2; omega
theorem More.own {A B : World} {v v' : Value} {n : Nat} (h : More A B v v' n) : v'.ownBlock = v.ownBlock ∨ ∃ k, v'.ownBlock = some k ∧ A.heap.size ≤ k := by
  rcases h with ⟨g, cap, rfl, rfl, _⟩ | ⟨hg, k, hk, hkn⟩
  · exact .inl rfl
  · exact .inr ⟨k, hk, hkn⟩
theorem More.frame {A B : World} {v v' : Value} {n : Nat} (h : More A B v v' n) : A.grownBy B v.ownBlock := by
  rcases h with ⟨g, cap, rfl, rfl, hg⟩ | ⟨hg, k, hk, hkn⟩
  · exact hg
  · exact ⟨hg.os, hg.tape, hg.output, hg.size, fun k hk _ => hg.block k hk (by simp)⟩

end Go.Proofs.YtamddagmlanijaaGreat
/- The reference's Has, Digits and First. -/
namespace Go.Proofs.YtamddagmlanijaaGreat
open Go.RowKit

theorem cell_one_at {W : World} {k : Nat} {x : Value} {e : TypeId} (h : W.heap[k]? = some (.cells #[x] e (0, 0))) : ∀ j u, [x][j]? = some u → W.cell? ((⟨k, 0, none⟩ : Addr).add j) = some u := by
  intro j u hj
  match j, hj with
  | 0, hj =>
    simp only [List.getElem?_cons_zero, Option.some.injEq] at hj
    subst hj
    have := cells_of' h 0
    simpa [Addr.add] using this
/-- the cells of a slice of strings, as an append asks for them -/
theorem StrIs.news {n : Nat} {W : World} {l : List Key} {oa : Option Addr} {cap : Nat} (h : StrIs n W l (.slice oa l.length cap)) : (oa = none → l.length = 0 ∧ cap = 0) ∧ ∀ ad, oa = some ad → ∀ j u, (strs l)[j]? = some u → W.cell? (ad.add j) = some u := by
  obtain ⟨oa', cap', he, -, h2, h3⟩ := h
  simp only [Value.slice.injEq, true_and] at he
  obtain ⟨rfl, rfl⟩ := he
  refine ⟨h2.1, fun ad had j u hj => ?_⟩
  have hlt := (List.getElem?_eq_some_iff.1 hj).1
  rw [strs_length] at hlt
  obtain ⟨b, o, rfl, _, hc⟩ := h3 (by rintro rfl; simp at hlt)
  cases had
  rw [strs, List.getElem?_map, List.getElem?_eq_getElem hlt] at hj
  simp only [Option.map_some, Option.some.injEq] at hj
  subst hj
  have := hc j _ (List.getElem?_eq_getElem hlt)
  have e : (⟨b, o, none⟩ : Addr).add j = ⟨b, o + j, none⟩ := by unfold Addr.add; split <;> simp_all
  rw [e]; exact this

end Go.Proofs.YtamddagmlanijaaGreat
/- The reference's First, whole. -/
namespace Go.Proofs.YtamddagmlanijaaGreat
open Go.RowKit

end Go.Proofs.YtamddagmlanijaaGreat
/- Merged: Cmp, Cmp2, Ins, Ins2, Bind. -/
/- The reference's comparison of terms: zero just where the terms are equal. -/
namespace Go.Proofs.YtamddagmlanijaaGreat
open Go.RowKit

def cmpi (a b : Int) : Int := if a < b then -1 else if b < a then 1 else 0
theorem cmpi_zero (a b : Int) : cmpi a b = 0 ↔ a = b := by unfold cmpi; split <;> (try split) <;> omega

set_option maxHeartbeats 400000 in
theorem cmpInts_any (a b : Int) (w : World) : Calls Tryz.prog 114 #[.int .i64 a, .int .i64 b] w fun e w' => e = .returned (.int .i64 (cmpi a b)) ∧ w = w' := by
  by_cases h1 : a < b
  · have HE := Lib.hid (show cmpi a b = -1 by simp [cmpi, h1])
    go_enter Tryz.func114, Tryz.ntmps114
    go_wp2_with fail
    go_ret
    exact ⟨ret_int HE.out.symm, rfl⟩
  · by_cases h2 : b < a
    · have HE := Lib.hid (show cmpi a b = 1 by simp [cmpi, h1, h2])
      go_enter Tryz.func114, Tryz.ntmps114
      go_wp2_with fail
      go_ret
      exact ⟨ret_int HE.out.symm, rfl⟩
    · have HE := Lib.hid (show cmpi a b = 0 by simp [cmpi, h1, h2])
      go_enter Tryz.func114, Tryz.ntmps114
      go_wp2_with fail
      go_ret
      exact ⟨ret_int HE.out.symm, rfl⟩

/-- where two names first part -/
theorem names_eq {a b : ByteArray} (hs : a.size = b.size) (h : ∀ k, k < a.size → a.data.toList[k]? = b.data.toList[k]?) : a = b := by
  have e : a.data.toList = b.data.toList := by
    apply List.ext_getElem?
    intro k
    by_cases hk : k < a.size
    · exact h k hk
    · rw [List.getElem?_eq_none (by rw [bytes_len]; omega), List.getElem?_eq_none (by rw [bytes_len]; omega)]
  cases a; cases b
  simpa using e

theorem cmpi_neg (a b : Int) : cmpi a b < 0 ↔ a < b := by unfold cmpi; split <;> (try split) <;> omega
theorem lt_split {l r : List UInt8} {k : Nat} {x y : UInt8} (h : ∀ j, j < k → l[j]? = r[j]?) (hx : l[k]? = some x) (hy : r[k]? = some y) (hne : x ≠ y) : l < r ↔ x < y := by
  induction k generalizing l r with
  | zero =>
    cases l with
    | nil => cases hx
    | cons a l =>
      cases r with
      | nil => cases hy
      | cons b r =>
        simp at hx hy; subst hx; subst hy
        rw [List.cons_lt_cons_iff]
        exact ⟨fun h => by rcases h with h | ⟨h, _⟩; exact h; exact absurd h hne, .inl⟩
  | succ k ih =>
    cases l with
    | nil => cases hx
    | cons a l =>
      cases r with
      | nil => cases hy
      | cons b r =>
        have h0 := h 0 (by omega)
        simp at h0; subst h0
        rw [List.cons_lt_cons_iff]
        have h2 := ih (l := l) (r := r) (fun j hj => by simpa using h (j + 1) (by omega)) (by simpa using hx) (by simpa using hy)
        rw [← h2]
        exact ⟨fun h => by rcases h with h | ⟨_, h⟩; exact absurd h (UInt8.lt_irrefl _); exact h, fun h => .inr ⟨rfl, h⟩⟩
theorem lt_end {l r : List UInt8} {k : Nat} (h : ∀ j, j < k → l[j]? = r[j]?) (h1 : k ≤ l.length) (h2 : k ≤ r.length) (hk : k = l.length ∨ k = r.length) : l < r ↔ l.length < r.length := by
  induction k generalizing l r with
  | zero =>
    cases l with
    | nil =>
      cases r with
      | nil => simp
      | cons b r => simp
    | cons a l =>
      cases r with
      | nil => simp
      | cons b r => simp at hk
  | succ k ih =>
    cases l with
    | nil => simp at h1
    | cons a l =>
      cases r with
      | nil => simp at h2
      | cons b r =>
        have h0 := h 0 (by omega)
        simp at h0; subst h0
        rw [List.cons_lt_cons_iff]
        have h3 := ih (l := l) (r := r) (fun j hj => by simpa using h (j + 1) (by omega)) (by simpa using h1) (by simpa using h2) (by simpa using hk)
        rw [List.length_cons, List.length_cons, Nat.add_lt_add_iff_right, ← h3]
        exact ⟨fun h => by rcases h with h | ⟨_, h⟩; exact absurd h (UInt8.lt_irrefl _); exact h, fun h => .inr ⟨rfl, h⟩⟩

end Go.Proofs.YtamddagmlanijaaGreat
/- The reference's Compare and Equal on terms. -/
namespace Go.Proofs.YtamddagmlanijaaGreat
open Go.RowKit

end Go.Proofs.YtamddagmlanijaaGreat
/- The reference's Insert. -/
namespace Go.Proofs.YtamddagmlanijaaGreat
open Go.RowKit

/-- k stands in l, or is put before the first name that is not less -/
def InsAt (l : List Key) (k : Key) (r : List Key) : Prop := ∃ j, j ≤ l.length ∧ (∀ x ∈ l.take j, x < k) ∧ ((r = l ∧ k ∈ l) ∨ (r = l.take j ++ [k] ++ l.drop j ∧ ∀ x, l[j]? = some x → x ≠ k ∧ ¬ x < k))
end Go.Proofs.YtamddagmlanijaaGreat
/- The reference's Insert into nothing; Insert, whole; sorted. -/
namespace Go.Proofs.YtamddagmlanijaaGreat
open Go.RowKit

/-- r holds what l holds, and k -/
def InsOf (l : List Key) (k : Key) (r : List Key) : Prop := (∀ x, x ∈ r ↔ x ∈ l ∨ x = k) ∧ r.length ≤ l.length + 1
theorem InsOf.same {l : List Key} {k : Key} (h : k ∈ l) : InsOf l k l := ⟨fun x => ⟨.inl, fun hx => by rcases hx with hx | rfl; exact hx; exact h⟩, by omega⟩
theorem InsOf.at {l : List Key} (k : Key) (j : Nat) : InsOf l k (l.take j ++ [k] ++ l.drop j) := by
  refine ⟨fun x => ?_, ?_⟩
  · have h := List.take_append_drop j l
    constructor
    · intro hx
      simp only [List.mem_append, List.mem_singleton] at hx
      rcases hx with (hx | hx) | hx
      · exact .inl (List.mem_of_mem_take hx)
      · exact .inr hx
      · exact .inl (List.mem_of_mem_drop hx)
    · intro hx
      simp only [List.mem_append, List.mem_singleton]
      rcases hx with hx | hx
      · rw [← h] at hx
        rcases List.mem_append.1 hx with hx | hx
        · exact .inl (.inl hx)
        · exact .inr hx
      · exact .inl (.inr hx)
  · simp; omega
/-- names in order stay in order -/
theorem InsAt.sorted {l r : List Key} {k : Key} (h : InsAt l k r) (hl : l.Pairwise (· < ·)) : r.Pairwise (· < ·) := by
  obtain ⟨j, hj, hless, h⟩ := h
  rcases h with ⟨rfl, _⟩ | ⟨rfl, hn⟩
  · exact hl
  · have hsp : (l.take j ++ l.drop j).Pairwise (· < ·) := by rw [List.take_append_drop]; exact hl
    obtain ⟨h1, h2, h3⟩ := List.pairwise_append.1 hsp
    have hk : ∀ y ∈ l.drop j, k < y := by
      cases hd : l.drop j with
      | nil => intro y hy; cases hy
      | cons x d =>
        have hx : l[j]? = some x := by
          have : (l.drop j)[0]? = some x := by rw [hd]; rfl
          rw [List.getElem?_drop] at this
          simpa using this
        obtain ⟨hne, hnl⟩ := hn x hx
        have hkx : k < x := by
          exact Classical.byContradiction fun h => hne (List.le_antisymm (List.not_lt.1 h) (List.not_lt.1 hnl))
        intro y hy
        rcases List.mem_cons.1 hy with rfl | hy
        · exact hkx
        · rw [hd] at h2; exact List.lt_trans hkx ((List.pairwise_cons.1 h2).1 y hy)
    rw [List.append_assoc]
    refine List.pairwise_append.2 ⟨h1, ?_, ?_⟩
    · exact List.pairwise_cons.2 ⟨hk, h2⟩
    · intro a ha b hb
      rcases List.mem_append.1 hb with hb | hb
      · rw [List.mem_singleton.1 hb]; exact hless a ha
      · exact h3 a ha b hb
end Go.Proofs.YtamddagmlanijaaGreat
/- Slices of bindings; the reference's Image and Renaming. -/
namespace Go.Proofs.YtamddagmlanijaaGreat
open Go.RowKit

abbrev Bd := Key × Tm
/-- the slice value v holds these bindings, in blocks below n -/
def BindsIs (n : Nat) (W : World) (bl : List Bd) (v : Value) : Prop :=
  ∃ oa cap, v = .slice oa bl.length cap ∧ bl.length ≤ cap ∧
    (bl ≠ [] → ∃ b o, oa = some ⟨b, o, none⟩ ∧ b < n ∧ ∀ i p, bl[i]? = some p → ∃ s, W.cell? ⟨b, o + i * 4, none⟩ = some (.string (kb p.1)) ∧ W.cell? ⟨b, o + i * 4 + 1, none⟩ = some (.string p.2.nm) ∧ W.cell? ⟨b, o + i * 4 + 2, none⟩ = some (.bool p.2.vr) ∧ W.cell? ⟨b, o + i * 4 + 3, none⟩ = some s ∧ SlIs n W p.2.ts s)
theorem BindsIs.carry {n m : Nat} {A B : World} {l : List Bd} {v : Value} (h : BindsIs n A l v) (hb : Below n A B) (hn : n ≤ m) : BindsIs m B l v := by
  obtain ⟨oa, cap, rfl, h1, h3⟩ := h
  refine ⟨oa, cap, rfl, h1, fun hne => ?_⟩
  obtain ⟨b, o, rfl, hbn, hc⟩ := h3 hne
  refine ⟨b, o, rfl, by omega, fun i p hk => ?_⟩
  obtain ⟨s, c0, c1, c2, c3, hs⟩ := hc i p hk
  exact ⟨s, (hb.cell (p := ⟨b, _, none⟩) hbn).trans c0, (hb.cell (p := ⟨b, _, none⟩) hbn).trans c1, (hb.cell (p := ⟨b, _, none⟩) hbn).trans c2, (hb.cell (p := ⟨b, _, none⟩) hbn).trans c3, hs.carry hb hn⟩

/-- what a name stands for -/
def imageOf (bl : List Bd) (k : Key) : Tm := match bl.find? (fun p => decide (p.1 = k)) with
  | some p => p.2
  | none => .mk (kb k) true []
end Go.Proofs.YtamddagmlanijaaGreat
