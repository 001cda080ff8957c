/- Packed: VarP, Fst2, Rkp, RdK. -/
import Derived.WalkKit
import Derived.ProofKit
import Derived.OpenShut
import Derived.Handy
import Derived.Lib.Hide
import Derived.Test.YtnomppdmhgefiaaGreatF02
import Derived.Test.YtnomppdmhgefiaaGreatF03
import Derived.StringKeys
import Derived.Maps.OwnSet
import Derived.Maps.OwnOps
import Derived.Maps.StringElems
import Derived.Lib.ItoaNum
import Derived.OwnWalk
import Derived.Laws.AppendOwnNone
import Derived.Maps.AppendAt
import Derived.Deep.RegionLawGrows
import Derived.Laws.Tables
import Derived.Test.YtnomppdmhgefiaaGreatF01
import Derived.Laws.Cells
import Derived.Laws.BytesString
import Derived.Deep.RegionHeld3
/- Merged: Cln, Tmn, Can, Can2, VarP. -/
/- clone, and the small makers of terms. -/
namespace Go.Proofs.YtnomppdmhgefiaaGreat
open Go.RowKit

/-- variables have no arguments -/
inductive Tm.bare : Tm → Prop
  | mk (t : Tm) : (t.vr = true → t.ts = []) → (∀ u ∈ t.ts, u.bare) → t.bare
theorem Tm.bare.kids {t : Tm} (h : t.bare) : ∀ u ∈ t.ts, u.bare := by cases h with | mk _ h1 h2 => exact h2
theorem Tm.bare.vr0 {t : Tm} (h : t.bare) : t.vr = true → t.ts = [] := by cases h with | mk _ h1 h2 => exact h1
theorem Tm.mem_nodesL {u : Tm} {l : List Tm} (h : u ∈ l) (d : Nat) : ∀ v ∈ u.nodes d, v ∈ Tm.nodesL d l := by
  induction l with
  | nil => cases h
  | cons x l ih =>
    intro v hv
    simp only [Tm.nodesL, List.mem_append]
    rcases List.mem_cons.1 h with rfl | h
    · exact .inl hv
    · exact .inr (ih h v hv)
/-- formed, node by node -/
theorem Tm.formed_iff (t : Tm) : t.formed ↔ nodeOk t.nm t.vr t.ts.length = true ∧ ∀ u ∈ t.ts, u.formed := by
  have sh : ∀ (u : Tm) (d : Nat), (∀ v ∈ u.nodes d, viewOk v = true) → ∀ d', ∀ v ∈ u.nodes d', viewOk v = true := by
    intro u
    induction u using Tm.ind with
    | h u ih =>
      intro d h d' v hv
      rw [Tm.nodes_eq] at hv h
      rcases List.mem_cons.1 hv with rfl | hv
      · have := h _ (List.mem_cons_self ..); exact this
      · obtain ⟨x, hx, hv⟩ := Tm.nodesL_mem hv
        exact ih x hx (d + 1) (fun v hv => h v (List.mem_cons_of_mem _ (Tm.mem_nodesL hx _ v hv))) _ v hv
  unfold Tm.formed
  rw [Tm.nodes_eq]
  constructor
  · intro h
    refine ⟨h _ (List.mem_cons_self ..), fun u hu => sh u 2 (fun v hv => h v (List.mem_cons_of_mem _ (Tm.mem_nodesL hu _ v hv))) 1⟩
  · rintro ⟨h1, h2⟩ v hv
    rcases List.mem_cons.1 hv with rfl | hv
    · exact h1
    · obtain ⟨x, hx, hv⟩ := Tm.nodesL_mem hv
      exact sh x 1 (h2 x hx) 2 v hv
theorem Tm.formed.bare {t : Tm} (h : t.formed) : t.bare := by
  induction t using Tm.ind with
  | h t ih =>
    obtain ⟨h1, h2⟩ := (Tm.formed_iff t).1 h
    refine .mk t (fun hv => ?_) fun u hu => ih u hu (h2 u hu)
    simp only [nodeOk, hv, if_true, Bool.and_eq_true, beq_iff_eq] at h1
    exact List.length_eq_zero_iff.1 h1.2

theorem box3 {W : World} {b : Nat} {x y z : Value} {e : TypeId} (h : W.heap[b]? = some (.cells #[x, y, z] e (0, 0))) :
    (W.cell? ⟨b, 0, none⟩ = some x ∧ W.cell? ⟨b, 1, none⟩ = some y ∧ W.cell? ⟨b, 2, none⟩ = some z) ∧ W.frozen? ⟨b, 0, none⟩ = false ∧ W.frozen? ⟨b, 1, none⟩ = false ∧ W.frozen? ⟨b, 2, none⟩ = false :=
  ⟨⟨by have := cells_of' h 0; simpa using this, by have := cells_of' h 1; simpa using this, by have := cells_of' h 2; simpa using this⟩, frozen_of' h _, frozen_of' h _, frozen_of' h _⟩
theorem box3_set {W : World} {b : Nat} {x y z : Value} {e : TypeId} (h : W.heap[b]? = some (.cells #[x, y, z] e (0, 0))) (x' y' z' : Value) :
    (((W.setCell ⟨b, 0, none⟩ x').setCell ⟨b, 1, none⟩ y').setCell ⟨b, 2, none⟩ z').heap[b]? = some (.cells #[x', y', z'] e (0, 0)) := by
  have := set3 h 0 x' y' z'; simpa using this
theorem below_set3 {B : Nat} {A W : World} (h : Below B A W) {b : Nat} (hb : B ≤ b) (x y z : Value) : Below B A (((W.setCell ⟨b, 0, none⟩ x).setCell ⟨b, 1, none⟩ y).setCell ⟨b, 2, none⟩ z) :=
  ((h.setCell (p := ⟨b, 0, none⟩) hb _).setCell (p := ⟨b, 1, none⟩) hb _).setCell (p := ⟨b, 2, none⟩) hb _
theorem heap_set3 (W : World) (b k : Nat) (x y z : Value) (h : k ≠ b) : (((W.setCell ⟨b, 0, none⟩ x).setCell ⟨b, 1, none⟩ y).setCell ⟨b, 2, none⟩ z).heap[k]? = W.heap[k]? := by
  rw [Below.heap_setCell _ _ _ _ h, Below.heap_setCell _ _ _ _ h, Below.heap_setCell _ _ _ _ h]

end Go.Proofs.YtnomppdmhgefiaaGreat
/- A term and a number as results. -/
namespace Go.Proofs.YtnomppdmhgefiaaGreat
open Go.RowKit

abbrev Tm.zero : Tm := .mk ⟨#[]⟩ false []
end Go.Proofs.YtnomppdmhgefiaaGreat
/- Canonical: the names in the order of their first showing. -/
namespace Go.Proofs.YtnomppdmhgefiaaGreat
open Go.RowKit Go.Maps

abbrev Key := List UInt8
def xname (dig : Nat → ByteArray) (i : Nat) : ByteArray := ⟨#[120]⟩ ++ dig i
/-- the map's datum and the names seen -/
structure MapInv (dig : Nat → ByteArray) (D : DataW Unit) (ss : List Key) : Prop where
  tidy : Tidy D
  size : Maps.size D = ss.length
  has : ∀ k, Maps.has D (.string k) = decide (k ∈ ss)
  at_ : ∀ i k, ss[i]? = some k → ∀ z, D.atKey (.string k) z = .lit (.string (xname dig i).data.toList)
theorem MapInv.empty (dig : Nat → ByteArray) : MapInv dig (.map []) [] := ⟨tidy_empty, rfl, fun k => by simp [Maps.has_eq], fun i k h => by simp at h⟩
theorem MapInv.put {dig : Nat → ByteArray} {D : DataW Unit} {ss : List Key} (h : MapInv dig D ss) {k : Key} (hk : k ∉ ss) : MapInv dig (D.put (.string k) (.lit (.string (xname dig ss.length).data.toList))) (ss ++ [k]) := by
  have hl : WideAt.IsKeyLit (.string k) := trivial
  refine ⟨h.tidy.put hl _, ?_, fun k' => ?_, fun i k' hi z => ?_⟩
  · rw [size_put h.tidy, h.has, h.size]; simp [hk]
  · by_cases e : k' = k
    · subst e; rw [has_put_same h.tidy.isMap hl]; simp
    · rw [has_put_other (by simpa using e), h.has]; simp [e]
  · by_cases e : k' = k
    · subst e
      rw [atKey_put_same h.tidy.isMap hl]
      have hlt := (List.getElem?_eq_some_iff.1 hi).1
      by_cases hil : i < ss.length
      · rw [List.getElem?_append_left hil] at hi; exact absurd (List.mem_of_getElem? hi) hk
      · simp at hlt; rw [show i = ss.length by omega]
    · rw [atKey_put_other (by simpa using e)]
      refine h.at_ i k' ?_ z
      by_cases hil : i < ss.length
      · rwa [List.getElem?_append_left hil] at hi
      · rw [List.getElem?_append_right (by omega)] at hi
        have hlt := (List.getElem?_eq_some_iff.1 hi).1
        simp at hlt
        rw [show i - ss.length = 0 by omega] at hi
        simp at hi; exact absurd hi.symm e
section
variable {H : Type} {P : Program} (w : World) {ops : Array Oper} {rest : List Oper} {o : Oper} {a : Act} {Q : Exit → Act → World → Prop}
end

theorem strKeyed : Keyed Tryz.prog 9 := string_keyed Tryz.underlying9
end Go.Proofs.YtnomppdmhgefiaaGreat
/- Canonical: the walk. -/
namespace Go.Proofs.YtnomppdmhgefiaaGreat
open Go.RowKit Go.Maps

end Go.Proofs.YtnomppdmhgefiaaGreat
/- Canonical forms and renamings: plain facts. -/
namespace Go.Proofs.YtnomppdmhgefiaaGreat
open Go.RowKit

/-- a name from its bytes -/
def kb (k : Key) : ByteArray := ⟨k.toArray⟩
theorem kb_key (nm : ByteArray) : kb nm.data.toList = nm := by cases nm; rfl
theorem key_kb (k : Key) : (kb k).data.toList = k := rfl
theorem kb_inj {a b : Key} : kb a = kb b ↔ a = b := ⟨fun h => by rw [← key_kb a, h, key_kb], fun h => by rw [h]⟩

def digN (i : Nat) : ByteArray := if i < 1048576 then kb (Lib.decDigits i) else ⟨#[]⟩
/-- one name more, if it is new -/
def addKey (ss : List Key) (k : Key) : List Key := if k ∈ ss then ss else ss ++ [k]
theorem addKey_mem (ss : List Key) (k : Key) : k ∈ addKey ss k := by unfold addKey; split; assumption; simp
end Go.Proofs.YtnomppdmhgefiaaGreat
/- Merged: Str, PosM, Fst, Fst2. -/
/- Slices of strings in memory; an append of any slice onto a row of one's own. -/
namespace Go.Proofs.YtnomppdmhgefiaaGreat
open Go.RowKit

theorem kb_toList (a : Key) : (kb a).toList = a := by rw [ByteArray.toList_eq]; rfl
theorem kb_beq_yes {a b : Key} (h : a = b) : ((kb a).toList == (kb b).toList) = true := by rw [h, beq_self_eq_true]
theorem kb_beq_no {a b : Key} (h : a ≠ b) : ((kb a).toList == (kb b).toList) = false := by rw [kb_toList, kb_toList, beq_eq_false_iff_ne]; exact h

theorem ad_add (b o k : Nat) : (⟨b, o, none⟩ : Addr).add k = ⟨b, o + k, none⟩ := by unfold Addr.add; split <;> simp_all
def strs (l : List Key) : List Value := l.map fun k => .string (kb k)
theorem strs_length (l : List Key) : (strs l).length = l.length := by simp [strs]
theorem strs_at (l : List Key) (i : Nat) (k : Key) (h : l[i]? = some k) : (strs l)[i]? = some (.string (kb k)) := by simp [strs, h]

/-- the slice value v holds these strings, in a block below n -/
def StrIs (n : Nat) (W : World) (l : List Key) (v : Value) : Prop :=
  ∃ oa cap, v = .slice oa l.length cap ∧ l.length ≤ cap ∧ ((oa = none → l.length = 0 ∧ cap = 0) ∧ ∀ a, oa = some a → a.spot = none) ∧
    (l ≠ [] → ∃ b o, oa = some ⟨b, o, none⟩ ∧ b < n ∧ ∀ i k, l[i]? = some k → W.cell? ⟨b, o + i, none⟩ = some (.string (kb k)))
theorem StrIs.nil (n : Nat) (W : World) : StrIs n W [] (.slice none 0 0) := ⟨_, _, rfl, Nat.le_refl _, ⟨fun _ => ⟨rfl, rfl⟩, fun a h => by cases h⟩, fun h => absurd rfl h⟩
theorem StrIs.carry {n m : Nat} {A B : World} {l : List Key} {v : Value} (h : StrIs n A l v) (hb : Below n A B) (hn : n ≤ m) : StrIs m B l v := by
  obtain ⟨oa, cap, rfl, h1, h2, h3⟩ := h
  refine ⟨oa, cap, rfl, h1, h2, fun hne => ?_⟩
  obtain ⟨b, o, rfl, hbn, hc⟩ := h3 hne
  exact ⟨b, o, rfl, by omega, fun i k hk => (hb.cell (p := ⟨b, _, none⟩) hbn).trans (hc i k hk)⟩
theorem StrIs.ofRow {W : World} {m : Nat} {e : TypeId} {v : Value} {l : List Key} (h : W.ownsRow m e 1 v l.length (strs l)) : StrIs W.heap.size W l v := by
  have h0 := h
  rcases h.2 with ⟨rfl, hl⟩ | ⟨g, cap, cur, rfl, hb, hg, hle, _⟩
  · exact ⟨none, 0, by rw [hl], by omega, ⟨fun _ => ⟨hl, rfl⟩, fun a h => by cases h⟩, fun hne => absurd (List.length_eq_zero_iff.1 hl) hne⟩
  · refine ⟨_, cap, rfl, hle, ⟨fun h => (by cases h), fun a h => by cases h; rfl⟩, fun _ => ⟨g, 0, rfl, (Array.getElem?_eq_some_iff.1 hg).1, fun i x hx => ?_⟩⟩
    have := h0.cells (g := g) rfl i _ (strs_at l i x hx)
    have e : (⟨g, 0, none⟩ : Addr).add i = ⟨g, i, none⟩ := by unfold Addr.add; split <;> simp_all
    rw [Nat.zero_add]
    rwa [e] at this

section
variable {P : Program} {w : World} {ops : Array Oper} {rest : List Oper} {o : Oper} {a : Act} {Q : Exit → Act → World → Prop}
theorem wpList_append_opt (hgd : o.guard = none) (s x : Operand) (t : TypeId)
    (ho : o.op = .call { callee := .builtin .append, args := #[s, x], argTypes := #[t, t] })
    (base : Nat) (e : TypeId) (i : TypeInfo) (z : Value) (size bytes : Nat) (ht : P.underlying t = some (.slice e)) (hi : P.info? e = some i) (hz : i.zero = some z)
    (hsize : i.size = size) (hby : i.bytes = bytes) (hzs : z.cells.size = size) (hsz : 0 < size)
    (v : Value) (n : Nat) (xs : List Value) (hs : a.eval s = v) (hown : w.ownsRow base e size v n xs)
    (oa : Option Addr) (m c : Nat) (news : List Value) (hx : a.eval x = .slice oa m c) (hl : news.length = m * size) (hnone : oa = none → m = 0 ∧ c = 0) (hnews : ∀ ad, oa = some ad → ∀ j u, news[j]? = some u → w.cell? (ad.add j) = some u) (h1 : ∀ u ∈ news, u.oneCell' = true)
    (h63 : n + m ≤ maxLen) (hbytes : (n + m) * bytes ≤ 140737488355328) (hbase : base ≤ w.heap.size)
    (h : ∀ v' w', w'.ownsRow base e size v' (n + m) (xs ++ news) → w.grownBy w' v.ownBlock → (v'.ownBlock = v.ownBlock ∨ v'.ownBlock = some w.heap.size) → wpList P ops Q rest (a.put o.dst v') w') :
    wpList P ops Q (o :: rest) a w := by
  cases oa with
  | some ad => exact wpList_append_own_at _ hgd s x t ho base e i z size bytes ht hi hz hsize hby hzs hsz v n xs hs hown ad m c news hx hl (hnews ad rfl) h1 h63 hbytes hbase fun v' w' k1 k2 _ k4 => h v' w' k1 k2 k4
  | none =>
    obtain ⟨rfl, rfl⟩ := hnone rfl
    obtain rfl : news = [] := List.length_eq_zero_iff.1 (by simpa using hl)
    refine wpList_append_own_none hgd s x t ho base e i size ht hi v n xs hs hown hx ?_
    exact h v w (by simpa using hown) ⟨rfl, rfl, rfl, Nat.le_refl _, fun _ _ _ => rfl⟩ (.inl rfl)
end

/-- append of any slice onto a row of one's own, in a drawn region -/
theorem step_append_opt {P : Program} {ops : Array Oper} {o : Oper} {a : Act} {w : World} {K : Act → World → Prop} {Q : Exit → Act → World → Prop} {E : Prop}
    (hgd : o.guard = none) (s x : Operand) (t : TypeId)
    (ho : o.op = .call { callee := .builtin .append, args := #[s, x], argTypes := #[t, t] })
    (base : Nat) (e : TypeId) (i : TypeInfo) (z : Value) (size bytes : Nat) (ht : P.underlying t = some (.slice e)) (hi : P.info? e = some i) (hz : i.zero = some z)
    (hsize : i.size = size) (hby : i.bytes = bytes) (hzs : z.cells.size = size) (hsz : 0 < size)
    (v : Value) (n : Nat) (xs : List Value) (hs : a.eval s = v) (hown : w.ownsRow base e size v n xs)
    (oa : Option Addr) (m c : Nat) (news : List Value) (hx : a.eval x = .slice oa m c) (hl : news.length = m * size) (hnone : oa = none → m = 0 ∧ c = 0) (hnews : ∀ ad, oa = some ad → ∀ j u, news[j]? = some u → w.cell? (ad.add j) = some u) (h1 : ∀ u ∈ news, u.oneCell' = true)
    (h63 : n + m ≤ maxLen) (hbytes : (n + m) * bytes ≤ 140737488355328) (hbase : base ≤ w.heap.size)
    (h : ∀ v' w', w'.ownsRow base e size v' (n + m) (xs ++ news) → w.grownBy w' v.ownBlock → (v'.ownBlock = v.ownBlock ∨ v'.ownBlock = some w.heap.size) → K (a.put o.dst v') w') :
    if Region.wanted o (yielded ops a.tmps) = true then Oper.wp P o a w K Q else E := by
  have hw : Region.wanted o (yielded ops a.tmps) = true := by simp [Region.wanted, hgd]
  rw [if_pos hw]
  cases oa with
  | some ad =>
    obtain ⟨v', w', hr, h2, h3, h4, h5⟩ := run_append_own_at (P := P) w base t o.type e i z size bytes ht hi hz hsize hby hzs hsz v n xs hown ad m c news hl (hnews ad rfl) h1 h63 hbytes hbase
    unfold Oper.wp execOp
    simp only [ho, resolve, invoke, builtin, Sem.run_bind, Sem.run_pure, Result.andThen_ok, List.map_toArray, List.map_cons, List.map_nil, hs, hx, hr]
    exact h v' w' h2 h3 h5
  | none =>
    obtain ⟨rfl, rfl⟩ := hnone rfl
    obtain rfl : news = [] := List.length_eq_zero_iff.1 (by simpa using hl)
    have hrun := run_append_owned_none (P := P) (w := w) base t o.type e i size ht hi v n xs hown
    unfold Oper.wp
    simp only [execOp, ho, resolve, invoke, builtin, Sem.run_bind, Sem.run_pure, Result.andThen_ok, List.map_toArray, List.map_cons, List.map_nil, hs, hx, hrun]
    exact h v w (by simpa using hown) ⟨rfl, rfl, rfl, Nat.le_refl _, fun _ _ _ => rfl⟩ (.inl rfl)
end Go.Proofs.YtnomppdmhgefiaaGreat
/- Positions in memory: rows of integers of their own, a list of such rows, and append onto a row whose spare room is shared. -/
namespace Go.Proofs.YtnomppdmhgefiaaGreat
open Go.RowKit

def ints (l : List Int) : List Value := l.map (.int .i64)
/-- rows of integers, each of its own block, all from m on -/
def Hs (m : Nat) (W : World) : List (List Int) → List Value → Prop
  | [], [] => True
  | p :: ps, h :: hs => W.ownsRow m 3 1 h p.length (ints p) ∧ Hs m W ps hs
  | _, _ => False
theorem Hs.append {m : Nat} {W : World} {a b : List (List Int)} {x y : List Value} (h : Hs m W a x) (k : Hs m W b y) : Hs m W (a ++ b) (x ++ y) := by
  induction a generalizing x with
  | nil => cases x with | nil => simpa using k | cons _ _ => exact h.elim
  | cons p a ih => cases x with | nil => exact h.elim | cons v x => exact ⟨h.1, ih h.2⟩
theorem Hs.length {m : Nat} {W : World} {a : List (List Int)} {x : List Value} (h : Hs m W a x) : x.length = a.length := by
  induction a generalizing x with
  | nil => cases x with | nil => rfl | cons _ _ => exact h.elim
  | cons p a ih => cases x with | nil => exact h.elim | cons v x => simp [ih h.2]
theorem Hs.get {m : Nat} {W : World} {a : List (List Int)} {x : List Value} (h : Hs m W a x) (i : Nat) (p : List Int) (hp : a[i]? = some p) : ∃ v, x[i]? = some v ∧ W.ownsRow m 3 1 v p.length (ints p) := by
  induction a generalizing x i with
  | nil => simp at hp
  | cons q a ih =>
    cases x with
    | nil => exact h.elim
    | cons v x =>
      cases i with
      | zero => simp at hp; subst hp; exact ⟨v, rfl, h.1⟩
      | succ i => obtain ⟨v', hv, ho⟩ := ih h.2 i (by simpa using hp); exact ⟨v', by simpa using hv, ho⟩

/-- between the worlds only the blocks x and y of those that were there may have changed -/
structure FrP (x y : Option Nat) (A B : World) : Prop where
  os : B.os = A.os
  tape : B.tape = A.tape
  output : B.output = A.output
  size : A.heap.size ≤ B.heap.size
  block : ∀ k, k < A.heap.size → some k ≠ x → some k ≠ y → B.heap[k]? = A.heap[k]?
theorem FrP.of_below {x y : Option Nat} {A B : World} (h : Below A.heap.size A B) : FrP x y A B := ⟨h.os, h.tape, h.output, h.size, fun k hk _ _ => h.block k hk⟩
theorem FrP.refl (x y : Option Nat) (A : World) : FrP x y A A := ⟨rfl, rfl, rfl, Nat.le_refl _, fun _ _ _ _ => rfl⟩
/-- then once more, with blocks that are the same or new -/
theorem FrP.trans {x y x' y' : Option Nat} {A B C : World} (h : FrP x y A B) (k : FrP x' y' B C) (hx : x' = x ∨ x' = y ∨ (∀ j, x' = some j → A.heap.size ≤ j)) (hy : y' = y ∨ y' = x ∨ (∀ j, y' = some j → A.heap.size ≤ j)) : FrP x y A C :=
  ⟨k.os.trans h.os, k.tape.trans h.tape, k.output.trans h.output, Nat.le_trans h.size k.size, fun i hi h1 h2 => (k.block i (Nat.lt_of_lt_of_le hi h.size)
    (fun e => by rcases hx with rfl | rfl | hx; exact h1 e; exact h2 e; have := hx i e.symm; omega) (fun e => by rcases hy with rfl | rfl | hy; exact h2 e; exact h1 e; have := hy i e.symm; omega)).trans (h.block i hi h1 h2)⟩
theorem FrP.grown {A B : World} {x : Option Nat} (h : A.grownBy B x) : FrP x none A B := ⟨h.os, h.tape, h.output, h.size, fun k hk h1 _ => h.block k hk h1⟩
theorem FrP.below {x y : Option Nat} {A B : World} {n : Nat} (h : FrP x y A B) (hn : n ≤ A.heap.size) (hx : ∀ j, x = some j → n ≤ j) (hy : ∀ j, y = some j → n ≤ j) : Below n A B :=
  ⟨h.os, h.tape, h.output, h.size, fun k hk => h.block k (by omega) (fun e => by have := hx k e.symm; omega) (fun e => by have := hy k e.symm; omega)⟩
theorem FrP.row {x y : Option Nat} {A B : World} (h : FrP x y A B) {m n : Nat} {e : TypeId} {v : Value} {xs : List Value} (ho : A.ownsRow m e 1 v n xs) (hx : v.ownBlock = none ∨ v.ownBlock ≠ x) (hy : v.ownBlock = none ∨ v.ownBlock ≠ y) : B.ownsRow m e 1 v n xs := by
  refine ⟨ho.1, ?_⟩
  rcases ho.2 with hn | ⟨g, cap, cur, rfl, hb, hg, rest⟩
  · exact .inl hn
  · exact .inr ⟨g, cap, cur, rfl, hb, (h.block g (Array.getElem?_eq_some_iff.1 hg).1 (by simpa [Value.ownBlock] using hx) (by simpa [Value.ownBlock] using hy)).trans hg, rest⟩
theorem Hs.kept {m n : Nat} {W V : World} {a : List (List Int)} {x : List Value} (h : Hs m W a x) (hk : ∀ (v : Value) (p : List Int), W.ownsRow m 3 1 v p.length (ints p) → V.ownsRow n 3 1 v p.length (ints p)) : Hs n V a x := by
  induction a generalizing x with
  | nil => cases x with | nil => trivial | cons _ _ => exact h.elim
  | cons p a ih => cases x with | nil => exact h.elim | cons v x => exact ⟨hk v p h.1, ih h.2⟩
/-- v' is v and one element more: in v's own room, or in a new block -/
def More (A B : World) (v v' : Value) (n : Nat) : Prop :=
  (∃ g cap, v = .slice (some ⟨g, 0, none⟩) n cap ∧ v' = .slice (some ⟨g, 0, none⟩) (n + 1) cap ∧ A.grownBy B (some g)) ∨ (A.grownBy B none ∧ ∃ k, v'.ownBlock = some k ∧ A.heap.size ≤ k)

/-- what is left of v when v' has been used -/
theorem More.back {A B C : World} {v v' : Value} {n m : Nat} {e : TypeId} {xs : List Value} {y : Value} (h : More A B v v' n) (ho : A.ownsRow m e 1 v n xs) (ho' : C.ownsRow m e 1 v' (n + 1) (xs ++ [y])) {x : Option Nat} (hf : FrP x v'.ownBlock B C)
    (hx : v.ownBlock = none ∨ v.ownBlock ≠ x) : C.ownsRow m e 1 v n xs := by
  rcases h with ⟨g, cap, rfl, rfl, _⟩ | ⟨hg, k, hk, hkn⟩
  · refine ⟨ho.1, ?_⟩
    rcases ho'.2 with ⟨h1, _⟩ | ⟨g', cap', cur, h1, hb, hg', hle, hcm, hcs, ht⟩
    · cases h1
    · simp only [Value.slice.injEq, Option.some.injEq, Addr.mk.injEq] at h1
      obtain ⟨⟨rfl, -⟩, -, rfl⟩ := h1
      refine .inr ⟨g, cap, cur, rfl, hb, hg', by omega, hcm, hcs, ?_⟩
      have hl := ho.1
      have := congrArg (List.take (n * 1)) ht
      rw [List.take_take, Nat.min_eq_left (by omega)] at this
      rw [this, List.take_append_of_le_length (by omega), List.take_of_length_le (by omega)]
  · have h1 : B.ownsRow m e 1 v n xs := ho.kept hg (by cases hv : v.ownBlock <;> simp)
    refine hf.row h1 hx ?_
    cases hv : v.ownBlock with
    | none => exact .inl rfl
    | some j => exact .inr fun he => by rw [hk] at he; cases he; have := (ho.lt _ hv).2; omega
theorem More.own {A B : World} {v v' : Value} {n : Nat} (h : More A B v v' n) : v'.ownBlock = v.ownBlock ∨ ∃ k, v'.ownBlock = some k ∧ A.heap.size ≤ k := by
  rcases h with ⟨g, cap, rfl, rfl, _⟩ | ⟨hg, k, hk, hkn⟩
  · exact .inl rfl
  · exact .inr ⟨k, hk, hkn⟩
theorem More.frame {A B : World} {v v' : Value} {n : Nat} (h : More A B v v' n) : A.grownBy B v.ownBlock := by
  rcases h with ⟨g, cap, rfl, rfl, hg⟩ | ⟨hg, k, hk, hkn⟩
  · exact hg
  · exact ⟨hg.os, hg.tape, hg.output, hg.size, fun k hk _ => hg.block k hk (by simp)⟩

end Go.Proofs.YtnomppdmhgefiaaGreat
/- The reference's Has, Digits and First. -/
namespace Go.Proofs.YtnomppdmhgefiaaGreat
open Go.RowKit

theorem cell_one_at {W : World} {k : Nat} {x : Value} {e : TypeId} (h : W.heap[k]? = some (.cells #[x] e (0, 0))) : ∀ j u, [x][j]? = some u → W.cell? ((⟨k, 0, none⟩ : Addr).add j) = some u := by
  intro j u hj
  match j, hj with
  | 0, hj =>
    simp only [List.getElem?_cons_zero, Option.some.injEq] at hj
    subst hj
    have := cells_of' h 0
    simpa [Addr.add] using this
/-- the cells of a slice of strings, as an append asks for them -/
theorem StrIs.news {n : Nat} {W : World} {l : List Key} {oa : Option Addr} {cap : Nat} (h : StrIs n W l (.slice oa l.length cap)) : (oa = none → l.length = 0 ∧ cap = 0) ∧ ∀ ad, oa = some ad → ∀ j u, (strs l)[j]? = some u → W.cell? (ad.add j) = some u := by
  obtain ⟨oa', cap', he, -, h2, h3⟩ := h
  simp only [Value.slice.injEq, true_and] at he
  obtain ⟨rfl, rfl⟩ := he
  refine ⟨h2.1, fun ad had j u hj => ?_⟩
  have hlt := (List.getElem?_eq_some_iff.1 hj).1
  rw [strs_length] at hlt
  obtain ⟨b, o, rfl, _, hc⟩ := h3 (by rintro rfl; simp at hlt)
  cases had
  rw [strs, List.getElem?_map, List.getElem?_eq_getElem hlt] at hj
  simp only [Option.map_some, Option.some.injEq] at hj
  subst hj
  have := hc j _ (List.getElem?_eq_getElem hlt)
  have e : (⟨b, o, none⟩ : Addr).add j = ⟨b, o + j, none⟩ := by unfold Addr.add; split <;> simp_all
  rw [e]; exact this

end Go.Proofs.YtnomppdmhgefiaaGreat
/- The reference's First, whole. -/
namespace Go.Proofs.YtnomppdmhgefiaaGreat
open Go.RowKit

end Go.Proofs.YtnomppdmhgefiaaGreat
/- Precedences: what is said of them, and how they lie. No program stands here. -/
namespace Go.Proofs.YtnomppdmhgefiaaGreat
open Go.RowKit

/-- an entry: name, rank, weight -/
abbrev Rk := Key × Int × Int
/-- the slice value v holds these entries, in blocks below n -/
def RksIs (n : Nat) (W : World) (l : List Rk) (v : Value) : Prop :=
  ∃ oa cap, v = .slice oa l.length cap ∧ l.length ≤ cap ∧
    (l ≠ [] → ∃ b o, oa = some ⟨b, o, none⟩ ∧ b < n ∧ ∀ i p, l[i]? = some p → W.cell? ⟨b, o + i * 3, none⟩ = some (.string (kb p.1)) ∧ W.cell? ⟨b, o + i * 3 + 1, none⟩ = some (.int .i64 p.2.1) ∧ W.cell? ⟨b, o + i * 3 + 2, none⟩ = some (.int .i64 p.2.2))
theorem RksIs.carry {n m : Nat} {A B : World} {l : List Rk} {v : Value} (h : RksIs n A l v) (hb : Below n A B) (hn : n ≤ m) : RksIs m B l v := by
  obtain ⟨oa, cap, rfl, h1, h3⟩ := h
  refine ⟨oa, cap, rfl, h1, fun hne => ?_⟩
  obtain ⟨b, o, rfl, hbn, hc⟩ := h3 hne
  refine ⟨b, o, rfl, by omega, fun i p hk => ?_⟩
  obtain ⟨c0, c1, c2⟩ := hc i p hk
  exact ⟨(hb.cell (p := ⟨b, _, none⟩) hbn).trans c0, (hb.cell (p := ⟨b, _, none⟩) hbn).trans c1, (hb.cell (p := ⟨b, _, none⟩) hbn).trans c2⟩

/-- the names are those of symbols, and increase -/
def NmsOk (l : List Rk) : Prop := ∀ i p, l[i]? = some p → isName (kb p.1) true = true ∧ ∀ q, 0 < i → l[i - 1]? = some q → q.1 < p.1
/-- the ranks fit, and there are no weights -/
def RksOk (l : List Rk) : Prop := ∀ p ∈ l, 0 ≤ p.2.1 ∧ p.2.1 ≤ 1000 ∧ p.2.2 = 0
open Classical in
/-- the error of the names of a precedence -/
noncomputable def listC (l : List Rk) : Int := if 256 < l.length then 3 else if NmsOk l then 0 else 4
structure PrecOk (l : List Rk) : Prop where
  len : l.length ≤ 256
  nms : NmsOk l
  rks : RksOk l
/-- names increase from any to any later -/
theorem NmsOk.lt {l : List Rk} (h : NmsOk l) {i j : Nat} {p q : Rk} (hij : i < j) (hp : l[i]? = some p) (hq : l[j]? = some q) : p.1 < q.1 := by
  induction j generalizing q with
  | zero => omega
  | succ j ih =>
    have hj := (List.getElem?_eq_some_iff.1 hq).1
    have hm : l[j]? = some l[j] := List.getElem?_eq_getElem (by omega)
    have h1 := (h (j + 1) q hq).2 l[j] (by omega) hm
    rcases Nat.lt_or_ge i j with e | e
    · exact List.lt_trans (ih e hm) h1
    · obtain rfl : i = j := by omega
      rw [hm] at hp; cases hp; exact h1
/-- the entry of a name -/
def entryOf (l : List Rk) (k : Key) : Rk := match l.find? (fun p => decide (p.1 = k)) with
  | some p => p
  | none => (k, 0, 0)
/-- the rank of a name -/
def rkOf (l : List Rk) (k : Key) : Int := (entryOf l k).2.1
/-- the rank of a name as it lies -/
def rkB (l : List Rk) (b : ByteArray) : Int := rkOf l b.data.toList
theorem entryOf_hit {l : List Rk} {k : Key} {j : Nat} {p : Rk} (h : ∀ q ∈ l.take j, q.1 ≠ k) (hp : l[j]? = some p) (hk : p.1 = k) : entryOf l k = p := by
  have hlt := (List.getElem?_eq_some_iff.1 hp).1
  have e : l = l.take j ++ p :: l.drop (j + 1) := by
    have h1 := List.take_append_drop j l
    rw [List.drop_eq_getElem_cons hlt] at h1
    have h2 := (List.getElem?_eq_some_iff.1 hp).2
    rw [h2] at h1
    exact h1.symm
  unfold entryOf
  rw [e, List.find?_append, List.find?_eq_none.2 (fun q hq => by simpa using h q hq)]
  simp [hk]
theorem entryOf_miss {l : List Rk} {k : Key} (h : ∀ q ∈ l, q.1 ≠ k) : entryOf l k = (k, 0, 0) := by
  unfold entryOf
  rw [List.find?_eq_none.2 (fun q hq => by simpa using h q hq)]
/-- the measure of a precedence -/
def rkBulk (l : List Rk) : Nat := l.foldr (fun p m => max (1 + p.1.length) m) l.length
theorem rkBulk_len (l : List Rk) : l.length ≤ rkBulk l := by
  unfold rkBulk
  generalize l.length = m
  induction l with
  | nil => exact Nat.le_refl _
  | cons p l ih => simp only [List.foldr_cons]; omega
theorem rkBulk_mem {l : List Rk} {p : Rk} (h : p ∈ l) : 1 + p.1.length ≤ rkBulk l := by
  unfold rkBulk
  generalize l.length = m
  induction l with
  | nil => cases h
  | cons q l ih =>
    simp only [List.foldr_cons]
    rcases List.mem_cons.1 h with rfl | h
    · omega
    · have := ih h; omega
theorem rkBulk_le {l : List Rk} {N : Nat} (h1 : l.length ≤ N) (h2 : ∀ p ∈ l, 1 + p.1.length ≤ N) : rkBulk l ≤ N := by
  unfold rkBulk
  revert h1
  generalize l.length = m
  intro h1
  induction l with
  | nil => exact h1
  | cons q l ih =>
    simp only [List.foldr_cons]
    have := ih fun p hp => h2 p (by simp [hp])
    have := h2 q (by simp)
    omega
end Go.Proofs.YtnomppdmhgefiaaGreat
/- What an argument reads as: precedences, three terms. -/
namespace Go.Proofs.YtnomppdmhgefiaaGreat
open Go.RowKit Go.ChangeShapes Go.WideShapes Go.ChangeAt Go.Deep

theorem cellsRank : Tryz.prog.cellsOf 137 = 3 := by kernel_rfl
instance : Inhabited Rk := ⟨([], 0, 0)⟩
set_option maxRecDepth 100000 in
set_option maxHeartbeats 1000000 in
theorem rank_open {H : Type} (enc : TypeId × Value → H) (W : World) (n : Nat) (cs : List Value) (x : DataW H × List MemPlace) (h : DataW.trod enc Tryz.prog W 0 (fun _ => true) true n 137 cs = some x) :
    ∃ (p : Rk), cs = [.string (kb p.1), .int .i64 p.2.1, .int .i64 p.2.2] ∧ 1 + p.1.length ≤ Rows.uptoBulk x.1 := by
  obtain ⟨xs, m, rfl, rfl, hl, hlen, hf⟩ := DataW.trod_struct Tryz.underlying137 h
  rw [cellsRank] at hl
  match cs, hl with
  | [v0, v1, v2], _ =>
    match xs, hlen with
    | [y0, y1, y2], _ =>
      have h0 := hf 0 _ rfl
      have h1 := hf 1 _ rfl
      have h2 := hf 2 _ rfl
      simp only [List.getElem?_cons_zero, List.getElem?_cons_succ] at h0 h1 h2
      obtain ⟨s, hs, rfl, -⟩ := DataW.trod_string Tryz.underlying9 h0
      obtain ⟨a, ha, rfl, -⟩ := DataW.trod_int Tryz.underlying3 h1
      obtain ⟨b, hb, rfl, -⟩ := DataW.trod_int Tryz.underlying3 h2
      cases hs
      cases ha
      cases hb
      refine ⟨(s.data.toList, a, b), by rw [kb_key], ?_⟩
      simp [Rows.uptoBulk, Rows.uptoBulkAll]
      have : s.data.size = s.size := rfl
      omega
set_option maxRecDepth 100000 in
set_option maxHeartbeats 1000000 in
theorem ranks_open {H : Type} (enc : TypeId × Value → H) (W : World) (n : Nat) (v : Value) (x : DataW H × List MemPlace) (h : DataW.trod enc Tryz.prog W 0 (fun _ => true) true n 54 [v] = some x) :
    ∃ (l : List Rk), RksIs W.heap.size W l v ∧ rkBulk l ≤ Rows.uptoBulk x.1 := by
  rcases DataW.trod_slice Tryz.underlying54 h with ⟨hc, rfl⟩ | ⟨a, len, cap, elems, rest, k, rfl, hc, rfl, hba, hlc, hcm, hel, hall, -, -⟩
  · cases hc
    exact ⟨[], ⟨none, 0, rfl, Nat.le_refl _, fun h => absurd rfl h⟩, rkBulk_le (by simp) (by simp)⟩
  · cases hc
    rw [cellsRank] at hall
    have key : ∀ i, i < len → ∃ p : Rk, W.cells? 0 (a.add (i * 3)) 3 = some [.string (kb p.1), .int .i64 p.2.1, .int .i64 p.2.2] ∧ ∃ e, elems[i]? = some e ∧ 1 + p.1.length ≤ Rows.uptoBulk e.1 := fun i hi => by
      have hi2 : i < elems.length := by omega
      have hh := hall i hi
      rw [List.getElem?_eq_getElem hi2] at hh
      obtain ⟨cs', g1, g2⟩ := Option.bind_eq_some_iff.1 hh
      obtain ⟨p, rfl, hbk⟩ := rank_open enc W k cs' _ g2
      exact ⟨p, g1, _, List.getElem?_eq_getElem hi2, hbk⟩
    obtain ⟨TS, hTS⟩ := choose_lt (α := Rk) key
    have hlen : ((List.range len).map fun i => TS i).length = len := by simp
    have hle : len ≤ Rows.uptoBulkAll (elems.map (·.1)) := by
      rw [← hel]
      have : ∀ l : List (DataW H × List MemPlace), (∀ e ∈ l, 1 ≤ Rows.uptoBulk e.1) → l.length ≤ Rows.uptoBulkAll (l.map (·.1)) := by
        intro l
        induction l with
        | nil => intro _; simp
        | cons e l ih => intro h; have h1 := h e (by simp); have h2 := ih fun x hx => h x (by simp [hx]); simp only [List.length_cons, List.map_cons, Rows.uptoBulkAll]; omega
      refine this elems fun e he => ?_
      obtain ⟨i, hi, hie⟩ := List.mem_iff_getElem.1 he
      obtain ⟨_, e', he', hb'⟩ := hTS i (by omega)
      rw [List.getElem?_eq_getElem hi, hie] at he'; cases he'
      omega
    have hup : Rows.uptoBulkAll (elems.map (·.1)) ≤ Rows.uptoBulk (DataW.slice (elems.map (·.1)) (rest.map (·.1))) := by simp only [Rows.uptoBulk]; omega
    refine ⟨(List.range len).map fun i => TS i, ⟨some a, cap, by rw [hlen], by rw [hlen]; exact hlc, fun hne => ?_⟩, rkBulk_le (by rw [hlen]; exact Nat.le_trans hle hup) fun p hp => ?_⟩
    · have hz0 : len ≠ 0 := by rintro rfl; simp at hne
      obtain ⟨c0, _⟩ := hTS 0 (by omega)
      have hsp : a.spot = none := by
        have := (World.cells?_some c0).2.2 0 (by omega)
        simp only [Nat.zero_mul] at this
        have e : (a.add 0).add 0 = a := by simp [Addr.add]
        rw [e] at this
        exact World.cell?_spot this
      obtain ⟨ab, ao, asp⟩ := a
      simp only at hsp; subst hsp
      have hlt : ab < W.heap.size := by
        have := (World.cells?_some c0).2.2 0 (by omega)
        exact World.block_lt_of_cell? W _ this
      refine ⟨ab, ao, rfl, hlt, fun i p hp => ?_⟩
      have hi : i < len := by have := (List.getElem?_eq_some_iff.1 hp).1; simpa using this
      rw [List.getElem?_map, List.getElem?_range hi] at hp
      cases hp
      have hc := (World.cells?_some (hTS i hi).1).2.2
      have k0 := hc 0 (by omega)
      have k1 := hc 1 (by omega)
      have k2 := hc 2 (by omega)
      simp only [addr_add, Nat.add_zero, Nat.add_assoc] at k0 k1 k2
      exact ⟨k0, by rw [Nat.add_assoc]; exact k1, by rw [Nat.add_assoc]; exact k2⟩
    · obtain ⟨i, hi, rfl⟩ := List.mem_map.1 hp
      have hi := List.mem_range.1 hi
      obtain ⟨_, e, he, hb⟩ := hTS i hi
      have := uptoBulk_mem (d := e.1) (l := elems.map (·.1)) (List.mem_map.2 ⟨e, List.mem_of_getElem? he, rfl⟩)
      exact Nat.le_trans hb (Nat.le_trans this hup)
section
variable {H : Type} {enc : TypeId × Value → H} {w : World} (sp : Nat → Bool)
theorem sp_rank (k : Nat) : SpAt enc Tryz.prog w sp k 137 := by
  match k with
  | 0 => exact sp_zero sp _
  | k + 1 => exact sp_struct3 sp Tryz.underlying137 (sp_string sp Tryz.underlying9 _) (sp_int sp Tryz.underlying3 _) (sp_int sp Tryz.underlying3 _)
theorem sp_ranks (k : Nat) : SpAt enc Tryz.prog w sp k 54 := by
  match k with
  | 0 => exact sp_zero sp _
  | k + 1 => exact sp_slice sp Tryz.underlying54 (by rw [cellsRank]; omega) (sp_rank sp k)
end
end Go.Proofs.YtnomppdmhgefiaaGreat
