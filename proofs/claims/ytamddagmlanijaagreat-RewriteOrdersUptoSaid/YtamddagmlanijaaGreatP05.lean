/- Packed: Fst2, Bind. -/
import Derived.WalkKit
import Derived.ProofKit
import Derived.OwnWalk
import Derived.Laws.AppendOwnNone
import Derived.Maps.AppendAt
import Derived.Test.YtamddagmlanijaaGreatP04
import Derived.Lib.Hide
import Derived.Deep.RegionLawGrows
import Derived.Laws.Tables
import Derived.Test.YtamddagmlanijaaGreatP02
import Derived.Test.YtamddagmlanijaaGreatP01
import Derived.OpenShut
import Derived.Handy
import Derived.Laws.Cells
import Derived.Laws.BytesString
import Derived.Deep.RegionHeld3
import Derived.BigQuiet
import Derived.Deep.LoopGhost
import Derived.Test.YtamddagmlanijaaGreatP03
import Derived.StillTailTactics
/- Merged: Str, PosM, Fst, Fst2. -/
/- Slices of strings in memory; an append of any slice onto a row of one's own. -/
namespace Go.Proofs.YtamddagmlanijaaGreat
open Go.RowKit

theorem kb_toList (a : Key) : (kb a).toList = a := by rw [ByteArray.toList_eq]; rfl
theorem ad_add (b o k : Nat) : (⟨b, o, none⟩ : Addr).add k = ⟨b, o + k, none⟩ := by unfold Addr.add; split <;> simp_all
def strs (l : List Key) : List Value := l.map fun k => .string (kb k)
theorem strs_length (l : List Key) : (strs l).length = l.length := by simp [strs]
theorem strs_at (l : List Key) (i : Nat) (k : Key) (h : l[i]? = some k) : (strs l)[i]? = some (.string (kb k)) := by simp [strs, h]

/-- the slice value v holds these strings, in a block below n -/
def StrIs (n : Nat) (W : World) (l : List Key) (v : Value) : Prop :=
  ∃ oa cap, v = .slice oa l.length cap ∧ l.length ≤ cap ∧ ((oa = none → l.length = 0 ∧ cap = 0) ∧ ∀ a, oa = some a → a.spot = none) ∧
    (l ≠ [] → ∃ b o, oa = some ⟨b, o, none⟩ ∧ b < n ∧ ∀ i k, l[i]? = some k → W.cell? ⟨b, o + i, none⟩ = some (.string (kb k)))
theorem StrIs.nil (n : Nat) (W : World) : StrIs n W [] (.slice none 0 0) := ⟨_, _, rfl, Nat.le_refl _, ⟨fun _ => ⟨rfl, rfl⟩, fun a h => by cases h⟩, fun h => absurd rfl h⟩
theorem StrIs.carry {n m : Nat} {A B : World} {l : List Key} {v : Value} (h : StrIs n A l v) (hb : Below n A B) (hn : n ≤ m) : StrIs m B l v := by
  obtain ⟨oa, cap, rfl, h1, h2, h3⟩ := h
  refine ⟨oa, cap, rfl, h1, h2, fun hne => ?_⟩
  obtain ⟨b, o, rfl, hbn, hc⟩ := h3 hne
  exact ⟨b, o, rfl, by omega, fun i k hk => (hb.cell (p := ⟨b, _, none⟩) hbn).trans (hc i k hk)⟩
theorem StrIs.ofRow {W : World} {m : Nat} {e : TypeId} {v : Value} {l : List Key} (h : W.ownsRow m e 1 v l.length (strs l)) : StrIs W.heap.size W l v := by
  have h0 := h
  rcases h.2 with ⟨rfl, hl⟩ | ⟨g, cap, cur, rfl, hb, hg, hle, _⟩
  · exact ⟨none, 0, by rw [hl], by omega, ⟨fun _ => ⟨hl, rfl⟩, fun a h => by cases h⟩, fun hne => absurd (List.length_eq_zero_iff.1 hl) hne⟩
  · refine ⟨_, cap, rfl, hle, ⟨fun h => (by cases h), fun a h => by cases h; rfl⟩, fun _ => ⟨g, 0, rfl, (Array.getElem?_eq_some_iff.1 hg).1, fun i x hx => ?_⟩⟩
    have := h0.cells (g := g) rfl i _ (strs_at l i x hx)
    have e : (⟨g, 0, none⟩ : Addr).add i = ⟨g, i, none⟩ := by unfold Addr.add; split <;> simp_all
    rw [Nat.zero_add]
    rwa [e] at this

section
variable {P : Program} {w : World} {ops : Array Oper} {rest : List Oper} {o : Oper} {a : Act} {Q : Exit → Act → World → Prop}
theorem wpList_append_opt (hgd : o.guard = none) (s x : Operand) (t : TypeId)
    (ho : o.op = .call { callee := .builtin .append, args := #[s, x], argTypes := #[t, t] })
    (base : Nat) (e : TypeId) (i : TypeInfo) (z : Value) (size bytes : Nat) (ht : P.underlying t = some (.slice e)) (hi : P.info? e = some i) (hz : i.zero = some z)
    (hsize : i.size = size) (hby : i.bytes = bytes) (hzs : z.cells.size = size) (hsz : 0 < size)
    (v : Value) (n : Nat) (xs : List Value) (hs : a.eval s = v) (hown : w.ownsRow base e size v n xs)
    (oa : Option Addr) (m c : Nat) (news : List Value) (hx : a.eval x = .slice oa m c) (hl : news.length = m * size) (hnone : oa = none → m = 0 ∧ c = 0) (hnews : ∀ ad, oa = some ad → ∀ j u, news[j]? = some u → w.cell? (ad.add j) = some u) (h1 : ∀ u ∈ news, u.oneCell' = true)
    (h63 : n + m ≤ maxLen) (hbytes : (n + m) * bytes ≤ 140737488355328) (hbase : base ≤ w.heap.size)
    (h : ∀ v' w', w'.ownsRow base e size v' (n + m) (xs ++ news) → w.grownBy w' v.ownBlock → (v'.ownBlock = v.ownBlock ∨ v'.ownBlock = some w.heap.size) → wpList P ops Q rest (a.put o.dst v') w') :
    wpList P ops Q (o :: rest) a w := by
  cases oa with
  | some ad => exact wpList_append_own_at _ hgd s x t ho base e i z size bytes ht hi hz hsize hby hzs hsz v n xs hs hown ad m c news hx hl (hnews ad rfl) h1 h63 hbytes hbase fun v' w' k1 k2 _ k4 => h v' w' k1 k2 k4
  | none =>
    obtain ⟨rfl, rfl⟩ := hnone rfl
    obtain rfl : news = [] := List.length_eq_zero_iff.1 (by simpa using hl)
    refine wpList_append_own_none hgd s x t ho base e i size ht hi v n xs hs hown hx ?_
    exact h v w (by simpa using hown) ⟨rfl, rfl, rfl, Nat.le_refl _, fun _ _ _ => rfl⟩ (.inl rfl)
end

/-- append of any slice onto a row of one's own, in a drawn region -/
theorem step_append_opt {P : Program} {ops : Array Oper} {o : Oper} {a : Act} {w : World} {K : Act → World → Prop} {Q : Exit → Act → World → Prop} {E : Prop}
    (hgd : o.guard = none) (s x : Operand) (t : TypeId)
    (ho : o.op = .call { callee := .builtin .append, args := #[s, x], argTypes := #[t, t] })
    (base : Nat) (e : TypeId) (i : TypeInfo) (z : Value) (size bytes : Nat) (ht : P.underlying t = some (.slice e)) (hi : P.info? e = some i) (hz : i.zero = some z)
    (hsize : i.size = size) (hby : i.bytes = bytes) (hzs : z.cells.size = size) (hsz : 0 < size)
    (v : Value) (n : Nat) (xs : List Value) (hs : a.eval s = v) (hown : w.ownsRow base e size v n xs)
    (oa : Option Addr) (m c : Nat) (news : List Value) (hx : a.eval x = .slice oa m c) (hl : news.length = m * size) (hnone : oa = none → m = 0 ∧ c = 0) (hnews : ∀ ad, oa = some ad → ∀ j u, news[j]? = some u → w.cell? (ad.add j) = some u) (h1 : ∀ u ∈ news, u.oneCell' = true)
    (h63 : n + m ≤ maxLen) (hbytes : (n + m) * bytes ≤ 140737488355328) (hbase : base ≤ w.heap.size)
    (h : ∀ v' w', w'.ownsRow base e size v' (n + m) (xs ++ news) → w.grownBy w' v.ownBlock → (v'.ownBlock = v.ownBlock ∨ v'.ownBlock = some w.heap.size) → K (a.put o.dst v') w') :
    if Region.wanted o (yielded ops a.tmps) = true then Oper.wp P o a w K Q else E := by
  have hw : Region.wanted o (yielded ops a.tmps) = true := by simp [Region.wanted, hgd]
  rw [if_pos hw]
  cases oa with
  | some ad =>
    obtain ⟨v', w', hr, h2, h3, h4, h5⟩ := run_append_own_at (P := P) w base t o.type e i z size bytes ht hi hz hsize hby hzs hsz v n xs hown ad m c news hl (hnews ad rfl) h1 h63 hbytes hbase
    unfold Oper.wp execOp
    simp only [ho, resolve, invoke, builtin, Sem.run_bind, Sem.run_pure, Result.andThen_ok, List.map_toArray, List.map_cons, List.map_nil, hs, hx, hr]
    exact h v' w' h2 h3 h5
  | none =>
    obtain ⟨rfl, rfl⟩ := hnone rfl
    obtain rfl : news = [] := List.length_eq_zero_iff.1 (by simpa using hl)
    have hrun := run_append_owned_none (P := P) (w := w) base t o.type e i size ht hi v n xs hown
    unfold Oper.wp
    simp only [execOp, ho, resolve, invoke, builtin, Sem.run_bind, Sem.run_pure, Result.andThen_ok, List.map_toArray, List.map_cons, List.map_nil, hs, hx, hrun]
    exact h v w (by simpa using hown) ⟨rfl, rfl, rfl, Nat.le_refl _, fun _ _ _ => rfl⟩ (.inl rfl)
end Go.Proofs.YtamddagmlanijaaGreat
/- Positions in memory: rows of integers of their own, a list of such rows, and append onto a row whose spare room is shared. -/
namespace Go.Proofs.YtamddagmlanijaaGreat
open Go.RowKit

def ints (l : List Int) : List Value := l.map (.int .i64)
mutual
def Tm.positions (l : List Int) : Tm → List (List Int)
  | .mk _ _ ts => l :: Tm.positionsL l 0 ts
def Tm.positionsL (l : List Int) (i : Nat) : List Tm → List (List Int)
  | [] => []
  | t :: r => Tm.positions (l ++ [(i : Int)]) t ++ Tm.positionsL l (i + 1) r
end
theorem Tm.positions_eq (l : List Int) (t : Tm) : t.positions l = l :: Tm.positionsL l 0 t.ts := by cases t; simp [Tm.positions, Tm.ts]
theorem Tm.positionsL_snoc (l : List Int) (ts : List Tm) (u : Tm) (i : Nat) : Tm.positionsL l i (ts ++ [u]) = Tm.positionsL l i ts ++ u.positions (l ++ [((i + ts.length : Nat) : Int)]) := by
  induction ts generalizing i with
  | nil => simp [Tm.positionsL]
  | cons t ts ih => simp only [List.cons_append, Tm.positionsL, ih, List.append_assoc, List.length_cons]; congr 4; simp; omega
/-- rows of integers, each of its own block, all from m on -/
def Hs (m : Nat) (W : World) : List (List Int) → List Value → Prop
  | [], [] => True
  | p :: ps, h :: hs => W.ownsRow m 3 1 h p.length (ints p) ∧ Hs m W ps hs
  | _, _ => False
theorem Hs.append {m : Nat} {W : World} {a b : List (List Int)} {x y : List Value} (h : Hs m W a x) (k : Hs m W b y) : Hs m W (a ++ b) (x ++ y) := by
  induction a generalizing x with
  | nil => cases x with | nil => simpa using k | cons _ _ => exact h.elim
  | cons p a ih => cases x with | nil => exact h.elim | cons v x => exact ⟨h.1, ih h.2⟩
theorem Hs.length {m : Nat} {W : World} {a : List (List Int)} {x : List Value} (h : Hs m W a x) : x.length = a.length := by
  induction a generalizing x with
  | nil => cases x with | nil => rfl | cons _ _ => exact h.elim
  | cons p a ih => cases x with | nil => exact h.elim | cons v x => simp [ih h.2]
theorem Hs.get {m : Nat} {W : World} {a : List (List Int)} {x : List Value} (h : Hs m W a x) (i : Nat) (p : List Int) (hp : a[i]? = some p) : ∃ v, x[i]? = some v ∧ W.ownsRow m 3 1 v p.length (ints p) := by
  induction a generalizing x i with
  | nil => simp at hp
  | cons q a ih =>
    cases x with
    | nil => exact h.elim
    | cons v x =>
      cases i with
      | zero => simp at hp; subst hp; exact ⟨v, rfl, h.1⟩
      | succ i => obtain ⟨v', hv, ho⟩ := ih h.2 i (by simpa using hp); exact ⟨v', by simpa using hv, ho⟩

/-- between the worlds only the blocks x and y of those that were there may have changed -/
structure FrP (x y : Option Nat) (A B : World) : Prop where
  os : B.os = A.os
  tape : B.tape = A.tape
  output : B.output = A.output
  size : A.heap.size ≤ B.heap.size
  block : ∀ k, k < A.heap.size → some k ≠ x → some k ≠ y → B.heap[k]? = A.heap[k]?
theorem FrP.of_below {x y : Option Nat} {A B : World} (h : Below A.heap.size A B) : FrP x y A B := ⟨h.os, h.tape, h.output, h.size, fun k hk _ _ => h.block k hk⟩
theorem FrP.refl (x y : Option Nat) (A : World) : FrP x y A A := ⟨rfl, rfl, rfl, Nat.le_refl _, fun _ _ _ _ => rfl⟩
/-- then once more, with blocks that are the same or new -/
theorem FrP.trans {x y x' y' : Option Nat} {A B C : World} (h : FrP x y A B) (k : FrP x' y' B C) (hx : x' = x ∨ x' = y ∨ (∀ j, x' = some j → A.heap.size ≤ j)) (hy : y' = y ∨ y' = x ∨ (∀ j, y' = some j → A.heap.size ≤ j)) : FrP x y A C :=
  ⟨k.os.trans h.os, k.tape.trans h.tape, k.output.trans h.output, Nat.le_trans h.size k.size, fun i hi h1 h2 => (k.block i (Nat.lt_of_lt_of_le hi h.size)
    (fun e => by rcases hx with rfl | rfl | hx; exact h1 e; exact h2 e; have := hx i e.symm; omega) (fun e => by rcases hy with rfl | rfl | hy; exact h2 e; exact h1 e; have := hy i e.symm; omega)).trans (h.block i hi h1 h2)⟩
theorem FrP.grown {A B : World} {x : Option Nat} (h : A.grownBy B x) : FrP x none A B := ⟨h.os, h.tape, h.output, h.size, fun k hk h1 _ => h.block k hk h1⟩
theorem FrP.below {x y : Option Nat} {A B : World} {n : Nat} (h : FrP x y A B) (hn : n ≤ A.heap.size) (hx : ∀ j, x = some j → n ≤ j) (hy : ∀ j, y = some j → n ≤ j) : Below n A B :=
  ⟨h.os, h.tape, h.output, h.size, fun k hk => h.block k (by omega) (fun e => by have := hx k e.symm; omega) (fun e => by have := hy k e.symm; omega)⟩
theorem FrP.row {x y : Option Nat} {A B : World} (h : FrP x y A B) {m n : Nat} {e : TypeId} {v : Value} {xs : List Value} (ho : A.ownsRow m e 1 v n xs) (hx : v.ownBlock = none ∨ v.ownBlock ≠ x) (hy : v.ownBlock = none ∨ v.ownBlock ≠ y) : B.ownsRow m e 1 v n xs := by
  refine ⟨ho.1, ?_⟩
  rcases ho.2 with hn | ⟨g, cap, cur, rfl, hb, hg, rest⟩
  · exact .inl hn
  · exact .inr ⟨g, cap, cur, rfl, hb, (h.block g (Array.getElem?_eq_some_iff.1 hg).1 (by simpa [Value.ownBlock] using hx) (by simpa [Value.ownBlock] using hy)).trans hg, rest⟩
theorem Hs.kept {m n : Nat} {W V : World} {a : List (List Int)} {x : List Value} (h : Hs m W a x) (hk : ∀ (v : Value) (p : List Int), W.ownsRow m 3 1 v p.length (ints p) → V.ownsRow n 3 1 v p.length (ints p)) : Hs n V a x := by
  induction a generalizing x with
  | nil => cases x with | nil => trivial | cons _ _ => exact h.elim
  | cons p a ih => cases x with | nil => exact h.elim | cons v x => exact ⟨hk v p h.1, ih h.2⟩
theorem ownsRow_mono {W : World} {m m' n size : Nat} {e : TypeId} {v : Value} {xs : List Value} (h : W.ownsRow m e size v n xs) (hm : m' ≤ m) : W.ownsRow m' e size v n xs := by
  refine ⟨h.1, ?_⟩
  rcases h.2 with hn | ⟨g, cap, cur, hv, hb, rest⟩
  · exact .inl hn
  · exact .inr ⟨g, cap, cur, hv, by omega, rest⟩
/-- rows of different types lie in different blocks -/
theorem ownsRow_apart {W : World} {m m' n n' s s' : Nat} {e e' : TypeId} {v v' : Value} {xs xs' : List Value} (h : W.ownsRow m e s v n xs) (h' : W.ownsRow m' e' s' v' n' xs') (he : e ≠ e') : v.ownBlock = none ∨ v.ownBlock ≠ v'.ownBlock := by
  rcases h.2 with ⟨rfl, _⟩ | ⟨g, cap, cur, rfl, hb, hg, rest⟩
  · exact .inl rfl
  · rcases h'.2 with ⟨rfl, _⟩ | ⟨g', cap', cur', rfl, hb', hg', rest'⟩
    · exact .inr (by simp [Value.ownBlock])
    · refine .inr fun hgg => ?_
      simp only [Value.ownBlock, Option.some.injEq] at hgg
      subst hgg
      rw [hg] at hg'
      simp only [Option.some.injEq, Obj.cells.injEq] at hg'
      exact he hg'.2.1

/-- v' is v and one element more: in v's own room, or in a new block -/
def More (A B : World) (v v' : Value) (n : Nat) : Prop :=
  (∃ g cap, v = .slice (some ⟨g, 0, none⟩) n cap ∧ v' = .slice (some ⟨g, 0, none⟩) (n + 1) cap ∧ A.grownBy B (some g)) ∨ (A.grownBy B none ∧ ∃ k, v'.ownBlock = some k ∧ A.heap.size ≤ k)

/-- what is left of v when v' has been used -/
theorem More.back {A B C : World} {v v' : Value} {n m : Nat} {e : TypeId} {xs : List Value} {y : Value} (h : More A B v v' n) (ho : A.ownsRow m e 1 v n xs) (ho' : C.ownsRow m e 1 v' (n + 1) (xs ++ [y])) {x : Option Nat} (hf : FrP x v'.ownBlock B C)
    (hx : v.ownBlock = none ∨ v.ownBlock ≠ x) : C.ownsRow m e 1 v n xs := by
  rcases h with ⟨g, cap, rfl, rfl, _⟩ | ⟨hg, k, hk, hkn⟩
  · refine ⟨ho.1, ?_⟩
    rcases ho'.2 with ⟨h1, _⟩ | ⟨g', cap', cur, h1, hb, hg', hle, hcm, hcs, ht⟩
    · cases h1
    · simp only [Value.slice.injEq, Option.some.injEq, Addr.mk.injEq] at h1
      obtain ⟨⟨rfl, -⟩, -, rfl⟩ := h1
      refine .inr ⟨g, cap, cur, rfl, hb, hg', by omega, hcm, hcs, ?_⟩
      have hl := ho.1
      have := congrArg (List.take (n * 1)) ht
      rw [List.take_take, Nat.min_eq_left (by omega)] at this
      rw [this, List.take_append_of_le_length (by omega), List.take_of_length_le (by omega)]
  · have h1 : B.ownsRow m e 1 v n xs := ho.kept hg (by cases hv : v.ownBlock <;> simp)
    refine hf.row h1 hx ?_
    cases hv : v.ownBlock with
    | none => exact .inl rfl
    | some j => exact .inr fun he => by rw [hk] at he; cases he; have := (ho.lt _ hv).2; omega
theorem More.own {A B : World} {v v' : Value} {n : Nat} (h : More A B v v' n) : v'.ownBlock = v.ownBlock ∨ ∃ k, v'.ownBlock = some k ∧ A.heap.size ≤ k := by
  rcases h with ⟨g, cap, rfl, rfl, _⟩ | ⟨hg, k, hk, hkn⟩
  · exact .inl rfl
  · exact .inr ⟨k, hk, hkn⟩
theorem More.frame {A B : World} {v v' : Value} {n : Nat} (h : More A B v v' n) : A.grownBy B v.ownBlock := by
  rcases h with ⟨g, cap, rfl, rfl, hg⟩ | ⟨hg, k, hk, hkn⟩
  · exact hg
  · exact ⟨hg.os, hg.tape, hg.output, hg.size, fun k hk _ => hg.block k hk (by simp)⟩

/-- append of one element onto a row of one's own, in a drawn region -/
theorem step_append_more {P : Program} {ops : Array Oper} {o : Oper} {a : Act} {w : World} {K : Act → World → Prop} {Q : Exit → Act → World → Prop} {E : Prop}
    (hg : o.guard = none) (s x : Operand) (t : TypeId) (hop : o.op = Op.call { callee := Callee.builtin Builtin.append, args := #[s, x], argTypes := #[t, t] })
    (e : TypeId) (i : TypeInfo) (z : Value) (bytes : Nat) (h1 : P.underlying t = some (.slice e)) (h2 : P.info? e = some i) (h3 : i.zero = some z) (h4 : i.size = 1) (h5 : i.bytes = bytes) (h6 : z.cells.size = 1)
    (base : Nat) (v : Value) (n : Nat) (xs : List Value) (hs : a.eval s = v) (hown : w.ownsRow base e 1 v n xs)
    (ad : Addr) (c : Nat) (y : Value) (hx : a.eval x = .slice (some ad) 1 c) (hc : w.cell? (ad.add 0) = some y) (h1c : y.oneCell' = true)
    (b1 : n + 1 ≤ maxLen) (b2 : (n + 1) * bytes ≤ 140737488355328) (hbase : base ≤ w.heap.size)
    (hK : ∀ v' w', w'.ownsRow base e 1 v' (n + 1) (xs ++ [y]) → More w w' v v' n → K (a.put o.dst v') w') :
    if Region.wanted o (yielded ops a.tmps) = true then Oper.wp P o a w K Q else E := by
  have hnews : ∀ j u, [y][j]? = some u → w.cell? (ad.add j) = some u := fun j u hj => by
    cases j with
    | zero => simp at hj; subst hj; exact hc
    | succ j => simp at hj
  have h1c' : ∀ u ∈ [y], u.oneCell' = true := fun u hu => by simp at hu; subst hu; exact h1c
  rcases hown.2 with ⟨rfl, rfl⟩ | ⟨g, cap, cur, rfl, hbg, hgc, hle, hcm, hcs, ht⟩
  · obtain rfl : xs = [] := List.eq_nil_of_length_eq_zero (by simpa using hown.1)
    refine step_append_grows hg s x t hop e i z 1 bytes h1 h2 h3 h4 h5 h6 (by omega) none 0 0 [] hs (fun _ => ⟨rfl, rfl⟩) rfl (fun b hb => by cases hb) ad 1 c [y] hx rfl hnews h1c' (by omega) b1 b2 fun v' w' ho hgr => ?_
    refine hK v' w' (by simpa using ownsRow_mono ho hbase) (.inr ⟨hgr, ?_⟩)
    rcases ho.2 with ⟨_, h⟩ | ⟨g', cap', cur', rfl, hb', _⟩
    · omega
    · exact ⟨g', rfl, hb'⟩
  · by_cases hroom : n + 1 ≤ cap
    · have hfit : n * i.size + [y].length ≤ cur.size := by rw [h4, hcs]; simp; omega
      have hr := run_append_room (P := P) w t o.type e i h1 h2 g n cap cur hgc ad 1 c [y] (by simp [h4]) hnews h1c' hroom hfit
      have hl : xs.length = n := by have := hown.1; omega
      have ht' : cur.toList.take n = xs := by rw [← ht, Nat.mul_one]
      rw [h4, Nat.mul_one, ht'] at hr
      have hw : Region.wanted o (yielded ops a.tmps) = true := by simp [Region.wanted, hg]
      have key := hK _ (w.setRow g (xs ++ [y] ++ List.drop (n + [y].length) cur.toList).toArray) ⟨by simp [hl], .inr ⟨g, cap, _, rfl, hbg, setRow_heap w g cur _ e (0, 0) hgc, hroom, hcm, by simp [hl]; omega, ?_⟩⟩
        (.inl ⟨g, cap, rfl, rfl, ⟨rfl, rfl, rfl, by simp [World.setRow], fun k _ hk => setRow_other _ _ _ _ (fun e => hk (by rw [e]))⟩⟩)
      · rw [if_pos hw]
        unfold Oper.wp
        simp only [execOp, hop, resolve, invoke, builtin, Sem.run_bind, Sem.run_pure, Result.andThen_ok, List.map_toArray, List.map_cons, List.map_nil, hs, hx, hr]
        exact key
      · rw [Nat.mul_one]
        exact List.take_left' (by simp [hl])
    · refine step_append_grows hg s x t hop e i z 1 bytes h1 h2 h3 h4 h5 h6 (by omega) (some ⟨g, 0, none⟩) n cap xs hs (fun h => by cases h) hown.1 (fun b hb => by cases hb; exact hown.cells rfl) ad 1 c [y] hx rfl hnews h1c' (by omega) b1 b2 fun v' w' ho hgr => ?_
      refine hK v' w' (ownsRow_mono ho hbase) (.inr ⟨hgr, ?_⟩)
      rcases ho.2 with ⟨_, h⟩ | ⟨g', cap', cur', rfl, hb', _⟩
      · omega
      · exact ⟨g', rfl, hb'⟩
end Go.Proofs.YtamddagmlanijaaGreat
/- The reference's Has, Digits and First. -/
namespace Go.Proofs.YtamddagmlanijaaGreat
open Go.RowKit

/-- the cells of a slice of strings, as an append asks for them -/
theorem StrIs.news {n : Nat} {W : World} {l : List Key} {oa : Option Addr} {cap : Nat} (h : StrIs n W l (.slice oa l.length cap)) : (oa = none → l.length = 0 ∧ cap = 0) ∧ ∀ ad, oa = some ad → ∀ j u, (strs l)[j]? = some u → W.cell? (ad.add j) = some u := by
  obtain ⟨oa', cap', he, -, h2, h3⟩ := h
  simp only [Value.slice.injEq, true_and] at he
  obtain ⟨rfl, rfl⟩ := he
  refine ⟨h2.1, fun ad had j u hj => ?_⟩
  have hlt := (List.getElem?_eq_some_iff.1 hj).1
  rw [strs_length] at hlt
  obtain ⟨b, o, rfl, _, hc⟩ := h3 (by rintro rfl; simp at hlt)
  cases had
  rw [strs, List.getElem?_map, List.getElem?_eq_getElem hlt] at hj
  simp only [Option.map_some, Option.some.injEq] at hj
  subst hj
  have := hc j _ (List.getElem?_eq_getElem hlt)
  have e : (⟨b, o, none⟩ : Addr).add j = ⟨b, o + j, none⟩ := by unfold Addr.add; split <;> simp_all
  rw [e]; exact this

end Go.Proofs.YtamddagmlanijaaGreat
/- The reference's First, whole. -/
namespace Go.Proofs.YtamddagmlanijaaGreat
open Go.RowKit

end Go.Proofs.YtamddagmlanijaaGreat
/- Merged: Cmp, Cmp2, Ins, Ins2, Bind. -/
/- The reference's comparison of terms: zero just where the terms are equal. -/
namespace Go.Proofs.YtamddagmlanijaaGreat
open Go.RowKit

def cmpi (a b : Int) : Int := if a < b then -1 else if b < a then 1 else 0
theorem cmpi_zero (a b : Int) : cmpi a b = 0 ↔ a = b := by unfold cmpi; split <;> (try split) <;> omega

set_option maxHeartbeats 400000 in
theorem cmpInts_any (a b : Int) (w : World) : Calls Tryz.prog 114 #[.int .i64 a, .int .i64 b] w fun e w' => e = .returned (.int .i64 (cmpi a b)) ∧ w = w' := by
  by_cases h1 : a < b
  · have HE := Lib.hid (show cmpi a b = -1 by simp [cmpi, h1])
    go_enter Tryz.func114, Tryz.ntmps114
    go_wp2_with fail
    go_ret
    exact ⟨ret_int HE.out.symm, rfl⟩
  · by_cases h2 : b < a
    · have HE := Lib.hid (show cmpi a b = 1 by simp [cmpi, h1, h2])
      go_enter Tryz.func114, Tryz.ntmps114
      go_wp2_with fail
      go_ret
      exact ⟨ret_int HE.out.symm, rfl⟩
    · have HE := Lib.hid (show cmpi a b = 0 by simp [cmpi, h1, h2])
      go_enter Tryz.func114, Tryz.ntmps114
      go_wp2_with fail
      go_ret
      exact ⟨ret_int HE.out.symm, rfl⟩

/-- where two names first part -/
theorem names_eq {a b : ByteArray} (hs : a.size = b.size) (h : ∀ k, k < a.size → a.data.toList[k]? = b.data.toList[k]?) : a = b := by
  have e : a.data.toList = b.data.toList := by
    apply List.ext_getElem?
    intro k
    by_cases hk : k < a.size
    · exact h k hk
    · rw [List.getElem?_eq_none (by rw [bytes_len]; omega), List.getElem?_eq_none (by rw [bytes_len]; omega)]
  cases a; cases b
  simpa using e

theorem cmpi_neg (a b : Int) : cmpi a b < 0 ↔ a < b := by unfold cmpi; split <;> (try split) <;> omega
theorem lt_split {l r : List UInt8} {k : Nat} {x y : UInt8} (h : ∀ j, j < k → l[j]? = r[j]?) (hx : l[k]? = some x) (hy : r[k]? = some y) (hne : x ≠ y) : l < r ↔ x < y := by
  induction k generalizing l r with
  | zero =>
    cases l with
    | nil => cases hx
    | cons a l =>
      cases r with
      | nil => cases hy
      | cons b r =>
        simp at hx hy; subst hx; subst hy
        rw [List.cons_lt_cons_iff]
        exact ⟨fun h => by rcases h with h | ⟨h, _⟩; exact h; exact absurd h hne, .inl⟩
  | succ k ih =>
    cases l with
    | nil => cases hx
    | cons a l =>
      cases r with
      | nil => cases hy
      | cons b r =>
        have h0 := h 0 (by omega)
        simp at h0; subst h0
        rw [List.cons_lt_cons_iff]
        have h2 := ih (l := l) (r := r) (fun j hj => by simpa using h (j + 1) (by omega)) (by simpa using hx) (by simpa using hy)
        rw [← h2]
        exact ⟨fun h => by rcases h with h | ⟨_, h⟩; exact absurd h (UInt8.lt_irrefl _); exact h, fun h => .inr ⟨rfl, h⟩⟩
theorem lt_end {l r : List UInt8} {k : Nat} (h : ∀ j, j < k → l[j]? = r[j]?) (h1 : k ≤ l.length) (h2 : k ≤ r.length) (hk : k = l.length ∨ k = r.length) : l < r ↔ l.length < r.length := by
  induction k generalizing l r with
  | zero =>
    cases l with
    | nil =>
      cases r with
      | nil => simp
      | cons b r => simp
    | cons a l =>
      cases r with
      | nil => simp
      | cons b r => simp at hk
  | succ k ih =>
    cases l with
    | nil => simp at h1
    | cons a l =>
      cases r with
      | nil => simp at h2
      | cons b r =>
        have h0 := h 0 (by omega)
        simp at h0; subst h0
        rw [List.cons_lt_cons_iff]
        have h3 := ih (l := l) (r := r) (fun j hj => by simpa using h (j + 1) (by omega)) (by simpa using h1) (by simpa using h2) (by simpa using hk)
        rw [List.length_cons, List.length_cons, Nat.add_lt_add_iff_right, ← h3]
        exact ⟨fun h => by rcases h with h | ⟨_, h⟩; exact absurd h (UInt8.lt_irrefl _); exact h, fun h => .inr ⟨rfl, h⟩⟩

set_option maxHeartbeats 1000000 in
theorem cmpNames_full (a b : ByteArray) (w : World) (ha : a.size ≤ 1048576) (hb : b.size ≤ 1048576) :
    Calls Tryz.prog 51 #[.string a, .string b] w fun e w' => (∃ c : Int, e = .returned (.int .i64 c) ∧ (c = 0 ↔ a = b) ∧ (c < 0 ↔ a.data.toList < b.data.toList)) ∧ Below w.heap.size w w' := by
  go_enter Tryz.func51, Tryz.ntmps51
  go_wp2_with fail
  go_loopw [5, 11] (fun _ i wr => ∃ k : Nat, k ≤ a.size ∧ k ≤ b.size ∧ i = .int .i64 k ∧ Hid (∀ j, j < k → a.data.toList[j]? = b.data.toList[j]?) ∧ Below w.heap.size w wr) (fun _ i _ => a.size - (intOf i).toNat)
  case atStart => exact ⟨0, by omega, by omega, rfl, Lib.hid (fun j h => absurd h (by omega)), Below.refl _ _⟩
  case round =>
    obtain ⟨k, hka, hkb, rfl, HE, hbw⟩ := hrel
    by_cases hlt : k < a.size ∧ k < b.size
    · obtain ⟨h1, h2⟩ := hlt
      have GA := Lib.hid (bytes_get h1)
      have GB := Lib.hid (bytes_get h2)
      by_cases hq : a[k].toNat = b[k].toNat
      · have HQ : Hid (a[k] = b[k]) := Lib.hid (UInt8.toNat_inj.1 hq)
        have hbb : (((a[k]'h1).toNat : Int) != ((b[k]'h2).toNat : Int)) = false := by rw [bne_eq_false_iff_eq]; omega
        clear hq
        go_wp2_with fail
        go_quiet (fail)
        go_wp2_with fail
        exact ⟨⟨k + 1, by omega, by omega, by go_num, Lib.hid (fun j hj => by
          by_cases e : j = k
          · subst e; rw [GA.out, GB.out, HQ.out]
          · exact HE.out j (by omega)), below_drewN nq hbw⟩, by simp [intOf]; omega⟩
      · have HQ : Hid (a ≠ b) := Lib.hid (fun e => hq (by subst e; rfl))
        have HLT : Hid (cmpi ((a[k]'h1).toNat : Int) ((b[k]'h2).toNat : Int) < 0 ↔ a.data.toList < b.data.toList) := Lib.hid (by
          rw [cmpi_neg, lt_split HE.out GA.out GB.out (fun e => hq (by rw [e])), UInt8.lt_iff_toNat_lt]; omega)
        have HZ : Hid (cmpi ((a[k]'h1).toNat : Int) ((b[k]'h2).toNat : Int) ≠ 0) := Lib.hid (fun e => hq (by have := (cmpi_zero _ _).1 e; omega))
        have hbb : (((a[k]'h1).toNat : Int) != ((b[k]'h2).toNat : Int)) = true := by rw [bne_iff_ne]; omega
        clear hq
        go_wp2_with fail
        go_quiet (fail)
        go_wp2_with fail
        have hbq := below_drewN nq hbw
        generalize wr.drewN nq = wq at hbq ⊢
        have hla := UInt8.toNat_lt (a[k]'h1)
        have hlb := UInt8.toNat_lt (b[k]'h2)
        have hwa : IntKind.i64.wrap ((a[k]'h1).toNat : Int) = ((a[k]'h1).toNat : Int) := IntWalk.i64_in _ (by omega)
        have hwb : IntKind.i64.wrap ((b[k]'h2).toNat : Int) = ((b[k]'h2).toNat : Int) := IntWalk.i64_in _ (by omega)
        go_quiet ((go_at_call 114; exact Calls.quiet_of_same ((cmpInts_any _ _ _).mono fun _ _ h => ⟨h.1, h.2.symm⟩)))
        go_wp2_with fail
        go_ret
        exact ⟨⟨_, rfl, ⟨fun h => absurd h HZ.out, fun h => absurd h HQ.out⟩, HLT.out⟩, below_drewN _ hbq⟩
    · go_wp2_with fail
      refine (cmpInts_any _ _ _).mono ?_
      rintro e w2 ⟨rfl, rfl⟩
      go_wp2_with fail
      go_ret
      refine ⟨⟨_, rfl, ⟨fun h => ?_, fun h => ?_⟩, ?_⟩, hbw⟩
      · have := (cmpi_zero _ _).1 h
        exact names_eq (by omega) (fun j hj => HE.out j (by omega))
      · subst h; exact (cmpi_zero _ _).2 rfl
      · rw [cmpi_neg, lt_end HE.out (by rw [bytes_len]; omega) (by rw [bytes_len]; omega) (by rw [bytes_len, bytes_len]; omega), bytes_len, bytes_len]; omega
theorem cmpNames_any (a b : ByteArray) (w : World) (ha : a.size ≤ 1048576) (hb : b.size ≤ 1048576) :
    Calls Tryz.prog 51 #[.string a, .string b] w fun e w' => (∃ c : Int, e = .returned (.int .i64 c) ∧ (c = 0 ↔ a = b)) ∧ Below w.heap.size w w' :=
  (cmpNames_full a b w ha hb).mono fun _ _ ⟨⟨c, h, h1, _⟩, hb⟩ => ⟨⟨c, h, h1⟩, hb⟩
end Go.Proofs.YtamddagmlanijaaGreat
/- The reference's Compare and Equal on terms. -/
namespace Go.Proofs.YtamddagmlanijaaGreat
open Go.RowKit

theorem Tm.ext' {a b : Tm} (h1 : a.nm = b.nm) (h2 : a.vr = b.vr) (h3 : a.ts = b.ts) : a = b := by
  cases a; cases b; simp only [Tm.nm, Tm.vr, Tm.ts] at h1 h2 h3; subst h1; subst h2; subst h3; rfl
set_option maxRecDepth 100000 in
set_option maxHeartbeats 4000000 in
theorem rcompare_any (a : Tm) : ∀ (b : Tm) (sa sb : Value) (w : World), a.bulk ≤ 1048576 → b.bulk ≤ 1048576 → SlIs w.heap.size w a.ts sa → SlIs w.heap.size w b.ts sb →
    Calls Tryz.prog 49 #[tmv a sa, tmv b sb] w fun e w' => (∃ c : Int, e = .returned (.int .i64 c) ∧ (c = 0 ↔ a = b)) ∧ Below w.heap.size w w' := by
  induction a using Tm.ind with
  | h a ih =>
    intro b sa sb w hba hbb hsa hsb
    obtain ⟨oa, ca, rfl, -⟩ := hsa.form
    obtain ⟨ob, cb, rfl, -⟩ := hsb.form
    have hea := Tm.bulk_eq a
    have heb := Tm.bulk_eq b
    have hla := Tm.length_sizes a.ts
    have hlb := Tm.length_sizes b.ts
    have hza := Tm.size_bulk a
    have hzb := Tm.size_bulk b
    have hya := Tm.size_eq a
    have hyb := Tm.size_eq b
    have hna : a.nm.size ≤ 1048576 := by omega
    have hnb : b.nm.size ≤ 1048576 := by omega
    have hta : a.ts.length ≤ 1048576 := by omega
    have htb : b.ts.length ≤ 1048576 := by omega
    have HA := Lib.hid hea
    have HB := Lib.hid heb
    have IH := Lib.hid ih
    clear hea heb hya hyb ih hla hlb hza hzb
    by_cases hv : a.vr = b.vr
    · have HV := Lib.hid hv
      have hvv : (!a.vr == b.vr) = false := by rw [hv]; cases b.vr <;> rfl
      clear hv
      go_enter Tryz.func49, Tryz.ntmps49
      go_wp2_with fail
      refine (cmpNames_any _ _ _ hna hnb).mono ?_
      rintro e w1 ⟨⟨c1, rfl, hc1⟩, hb1⟩
      have HC1 := Lib.hid hc1
      have x0 := (hb1.cell (p := ⟨w.heap.size, 2, none⟩) (by simp; omega)).trans ((cell_old _ _ _ 2 (by simp)).trans (cell_at_new w _ _ 2))
      have x1 := (hb1.cell (p := ⟨w.heap.size + 1, 2, none⟩) (by simp)).trans (cell_new_at _ _ _ _ 2 (by simp))
      simp only [List.getElem?_toArray, List.getElem?_cons_zero, List.getElem?_cons_succ] at x0 x1
      have hz1 : w.heap.size + 2 ≤ w1.heap.size := by have := hb1.size; simpa using this
      have HB1 : Hid (Below w.heap.size w w1) := Lib.hid (Below.trans (by go_grown) (hb1.mono (by simp; omega)))
      clear hb1 hc1
      by_cases h1 : c1 = 0
      · subst h1
        go_wp2_with fail
        refine (cmpInts_any _ _ _).mono ?_
        rintro e w2 ⟨rfl, rfl⟩
        by_cases h2 : a.ts.length = b.ts.length
        · have h2' : ((a.ts.length : Int)) = (b.ts.length : Int) := by omega
          rw [show cmpi (a.ts.length : Int) (b.ts.length : Int) = 0 from (cmpi_zero _ _).2 h2']
          clear h2'
          go_wp2_with fail
          have H2 := Lib.hid h2
          go_loopw [7, 8, 37] (fun _ _ i wr => ∃ k : Nat, k ≤ b.ts.length ∧ i = .int .i64 k ∧ Hid (a.ts.take k = b.ts.take k) ∧ Below (w.heap.size + 2) w1 wr) (fun _ _ i _ => b.ts.length - (intOf i).toNat)
          case atStart => exact ⟨0, by omega, rfl, Lib.hid rfl, Below.refl _ _⟩
          case round =>
            obtain ⟨k, hk, rfl, HT, hbw⟩ := hrel
            have hbw2 : Below w.heap.size w wr := HB1.out.trans (hbw.mono (by omega))
            have hzw := hbw.size
            by_cases hlt : k < b.ts.length
            · obtain ⟨b1, o1, u, su, rfl, hbb1, hu, hum, hus, c1, c2, c3⟩ := (hsa.carry hbw2 (Nat.le_refl _)).get (k := k) (by omega)
              obtain ⟨b2, o2, v, sv, rfl, hbb2, hv, hvm, hvs, d1, d2, d3⟩ := (hsb.carry hbw2 (Nat.le_refl _)).get (k := k) (by omega)
              obtain ⟨ou, cu, rfl, -⟩ := hus.form
              obtain ⟨ov, cv, rfl, -⟩ := hvs.form
              have y0 := (hbw.cell (p := ⟨w.heap.size, 2, none⟩) (by simp)).trans x0
              have y1 := (hbw.cell (p := ⟨w.heap.size + 1, 2, none⟩) (by simp)).trans x1
              rw [H2.out] at y0
              have hbu : u.bulk ≤ 1048576 := by have := Tm.bulk_mem hum; have := HA.out; omega
              have hbv : v.bulk ≤ 1048576 := by have := Tm.bulk_mem hvm; have := HB.out; omega
              have HU := Lib.hid hu
              have HVV := Lib.hid hv
              have IHu := fun W1 (hW : Below w.heap.size wr W1) => Lib.hid (IH.out u hum v _ _ W1 hbu hbv (hus.carry (B := W1) hW (by have := hW.size; omega)) (hvs.carry (B := W1) hW (by have := hW.size; omega)))
              clear hu hv h2
              go_wp2_with fail
              go_still_tail 10, (by kernel_rfl)
              go_wp2_with fail
              refine (IHu wr.drew (Below.refl _ wr).drew).out.mono ?_
              rintro e w9 ⟨⟨c9, rfl, hc9⟩, hb9⟩
              have HC9 := Lib.hid hc9
              have hbw9 : Below (w.heap.size + 2) w1 w9 := hbw.trans (((Below.refl _ wr).drew).trans (hb9.mono (by show _ ≤ wr.heap.size; omega)))
              have HB9 := Lib.hid hbw9
              clear hb9 hc9 hbw9 IHu
              by_cases h9 : c9 = 0
              · have HQ := Lib.hid (HC9.out.1 h9)
                subst h9
                go_wp2_with fail
                exact ⟨⟨k + 1, by omega, by go_num, Lib.hid (by rw [Tm.take_snoc HU.out, Tm.take_snoc HVV.out, HT.out, HQ.out]), HB9.out⟩, by simp [intOf]; omega⟩
              · have H9 := Lib.hid h9
                have h9' : (c9 != 0) = true := by rw [bne_iff_ne]; exact h9
                clear h9
                go_wp2_with fail
                go_ret
                refine ⟨⟨_, rfl, fun h => absurd h H9.out, fun h => absurd (HC9.out.2 ?_) H9.out⟩, HB1.out.trans (HB9.out.mono (by omega))⟩
                subst h
                exact Option.some.inj (HU.out.symm.trans HVV.out)
            · obtain rfl : k = b.ts.length := by omega
              go_wp2_with fail
              go_ret
              refine ⟨⟨_, rfl, fun _ => Tm.ext' (HC1.out.1 (by first | trivial | rfl)) HV.out ?_, fun _ => rfl⟩, hbw2⟩
              have h := HT.out
              rwa [List.take_of_length_le (Nat.le_refl _), List.take_of_length_le (by have := H2.out; omega)] at h
        · have h3 : ((cmpi (a.ts.length : Int) (b.ts.length : Int)) != 0) = true := by rw [bne_iff_ne]; intro e; have := (cmpi_zero _ _).1 e; omega
          have H3 : Hid (cmpi (a.ts.length : Int) (b.ts.length : Int) ≠ 0) := Lib.hid (by rw [← bne_iff_ne]; exact h3)
          have H2 := Lib.hid h2
          clear h2
          go_wp2_with fail
          go_ret
          exact ⟨⟨_, rfl, fun h => absurd h H3.out, fun h => absurd (by rw [h]) H2.out⟩, HB1.out⟩
      · have h1' : (c1 != 0) = true := by rw [bne_iff_ne]; exact h1
        have H1 := Lib.hid h1
        clear h1
        go_wp2_with fail
        go_ret
        exact ⟨⟨_, rfl, fun h => absurd h H1.out, fun h => absurd (HC1.out.2 (by rw [h])) H1.out⟩, HB1.out⟩
    · have HV := Lib.hid hv
      have hvv : (!a.vr == b.vr) = true := by revert hv; cases a.vr <;> cases b.vr <;> simp
      have HN : Hid (a ≠ b) := Lib.hid (fun e => hv (by rw [e]))
      clear hv
      go_enter Tryz.func49, Tryz.ntmps49
      go_wp2_with fail
      all_goals
        go_ret
        exact ⟨⟨_, rfl, fun h => by omega, fun h => absurd h HN.out⟩, by go_grown⟩

set_option maxRecDepth 100000 in
set_option maxHeartbeats 1000000 in
theorem requal_any (a b : Tm) (sa sb : Value) (w : World) (hba : a.bulk ≤ 1048576) (hbb : b.bulk ≤ 1048576) (hsa : SlIs w.heap.size w a.ts sa) (hsb : SlIs w.heap.size w b.ts sb) :
    Calls Tryz.prog 14 #[tmv a sa, tmv b sb] w fun e w' => (∃ x : Bool, e = .returned (.bool x) ∧ (x = true ↔ a = b)) ∧ Below w.heap.size w w' := by
  have hG : Below w.heap.size w ((w.alloc (.cells #[.string a.nm, .bool a.vr, sa] 25)).alloc (.cells #[.string b.nm, .bool b.vr, sb] 25)) := by go_grown
  have HC := Lib.hid (rcompare_any a b sa sb _ hba hbb (hsa.carry hG (by simp; omega)) (hsb.carry hG (by simp; omega)))
  have HG := Lib.hid hG
  clear hG
  obtain ⟨oa, ca, rfl, -⟩ := hsa.form
  obtain ⟨ob, cb, rfl, -⟩ := hsb.form
  clear hsa hsb
  go_enter Tryz.func14, Tryz.ntmps14
  go_wp2_with fail
  refine HC.out.mono ?_
  rintro e w1 ⟨⟨c, rfl, hc⟩, hb1⟩
  have HC1 := Lib.hid hc
  have HB := Lib.hid hb1
  clear hc hb1 HC
  go_wp2_with fail
  go_ret
  exact ⟨⟨_, rfl, by rw [beq_iff_eq]; exact HC1.out⟩, HG.out.trans (HB.out.mono (by simp; omega))⟩
end Go.Proofs.YtamddagmlanijaaGreat
/- The reference's Insert. -/
namespace Go.Proofs.YtamddagmlanijaaGreat
open Go.RowKit

/-- k stands in l, or is put before the first name that is not less -/
def InsAt (l : List Key) (k : Key) (r : List Key) : Prop := ∃ j, j ≤ l.length ∧ (∀ x ∈ l.take j, x < k) ∧ ((r = l ∧ k ∈ l) ∨ (r = l.take j ++ [k] ++ l.drop j ∧ ∀ x, l[j]? = some x → x ≠ k ∧ ¬ x < k))
end Go.Proofs.YtamddagmlanijaaGreat
/- The reference's Insert into nothing; Insert, whole; sorted. -/
namespace Go.Proofs.YtamddagmlanijaaGreat
open Go.RowKit

/-- r holds what l holds, and k -/
def InsOf (l : List Key) (k : Key) (r : List Key) : Prop := (∀ x, x ∈ r ↔ x ∈ l ∨ x = k) ∧ r.length ≤ l.length + 1
theorem InsOf.same {l : List Key} {k : Key} (h : k ∈ l) : InsOf l k l := ⟨fun x => ⟨.inl, fun hx => by rcases hx with hx | rfl; exact hx; exact h⟩, by omega⟩
theorem InsOf.at {l : List Key} (k : Key) (j : Nat) : InsOf l k (l.take j ++ [k] ++ l.drop j) := by
  refine ⟨fun x => ?_, ?_⟩
  · have h := List.take_append_drop j l
    constructor
    · intro hx
      simp only [List.mem_append, List.mem_singleton] at hx
      rcases hx with (hx | hx) | hx
      · exact .inl (List.mem_of_mem_take hx)
      · exact .inr hx
      · exact .inl (List.mem_of_mem_drop hx)
    · intro hx
      simp only [List.mem_append, List.mem_singleton]
      rcases hx with hx | hx
      · rw [← h] at hx
        rcases List.mem_append.1 hx with hx | hx
        · exact .inl (.inl hx)
        · exact .inr hx
      · exact .inl (.inr hx)
  · simp; omega
/-- names in order stay in order -/
theorem InsAt.sorted {l r : List Key} {k : Key} (h : InsAt l k r) (hl : l.Pairwise (· < ·)) : r.Pairwise (· < ·) := by
  obtain ⟨j, hj, hless, h⟩ := h
  rcases h with ⟨rfl, _⟩ | ⟨rfl, hn⟩
  · exact hl
  · have hsp : (l.take j ++ l.drop j).Pairwise (· < ·) := by rw [List.take_append_drop]; exact hl
    obtain ⟨h1, h2, h3⟩ := List.pairwise_append.1 hsp
    have hk : ∀ y ∈ l.drop j, k < y := by
      cases hd : l.drop j with
      | nil => intro y hy; cases hy
      | cons x d =>
        have hx : l[j]? = some x := by
          have : (l.drop j)[0]? = some x := by rw [hd]; rfl
          rw [List.getElem?_drop] at this
          simpa using this
        obtain ⟨hne, hnl⟩ := hn x hx
        have hkx : k < x := by
          exact Classical.byContradiction fun h => hne (List.le_antisymm (List.not_lt.1 h) (List.not_lt.1 hnl))
        intro y hy
        rcases List.mem_cons.1 hy with rfl | hy
        · exact hkx
        · rw [hd] at h2; exact List.lt_trans hkx ((List.pairwise_cons.1 h2).1 y hy)
    rw [List.append_assoc]
    refine List.pairwise_append.2 ⟨h1, ?_, ?_⟩
    · exact List.pairwise_cons.2 ⟨hk, h2⟩
    · intro a ha b hb
      rcases List.mem_append.1 hb with hb | hb
      · rw [List.mem_singleton.1 hb]; exact hless a ha
      · exact h3 a ha b hb
end Go.Proofs.YtamddagmlanijaaGreat
/- Slices of bindings; the reference's Image and Renaming. -/
namespace Go.Proofs.YtamddagmlanijaaGreat
open Go.RowKit

abbrev Bd := Key × Tm
/-- the slice value v holds these bindings, in blocks below n -/
def BindsIs (n : Nat) (W : World) (bl : List Bd) (v : Value) : Prop :=
  ∃ oa cap, v = .slice oa bl.length cap ∧ bl.length ≤ cap ∧
    (bl ≠ [] → ∃ b o, oa = some ⟨b, o, none⟩ ∧ b < n ∧ ∀ i p, bl[i]? = some p → ∃ s, W.cell? ⟨b, o + i * 4, none⟩ = some (.string (kb p.1)) ∧ W.cell? ⟨b, o + i * 4 + 1, none⟩ = some (.string p.2.nm) ∧ W.cell? ⟨b, o + i * 4 + 2, none⟩ = some (.bool p.2.vr) ∧ W.cell? ⟨b, o + i * 4 + 3, none⟩ = some s ∧ SlIs n W p.2.ts s)
theorem BindsIs.carry {n m : Nat} {A B : World} {l : List Bd} {v : Value} (h : BindsIs n A l v) (hb : Below n A B) (hn : n ≤ m) : BindsIs m B l v := by
  obtain ⟨oa, cap, rfl, h1, h3⟩ := h
  refine ⟨oa, cap, rfl, h1, fun hne => ?_⟩
  obtain ⟨b, o, rfl, hbn, hc⟩ := h3 hne
  refine ⟨b, o, rfl, by omega, fun i p hk => ?_⟩
  obtain ⟨s, c0, c1, c2, c3, hs⟩ := hc i p hk
  exact ⟨s, (hb.cell (p := ⟨b, _, none⟩) hbn).trans c0, (hb.cell (p := ⟨b, _, none⟩) hbn).trans c1, (hb.cell (p := ⟨b, _, none⟩) hbn).trans c2, (hb.cell (p := ⟨b, _, none⟩) hbn).trans c3, hs.carry hb hn⟩

/-- what a name stands for -/
def imageOf (bl : List Bd) (k : Key) : Tm := match bl.find? (fun p => decide (p.1 = k)) with
  | some p => p.2
  | none => .mk (kb k) true []
theorem imageOf_miss {bl : List Bd} {k : Key} (h : ∀ q ∈ bl, q.1 ≠ k) : imageOf bl k = .mk (kb k) true [] := by
  unfold imageOf
  rw [List.find?_eq_none.2 (fun q hq => by simpa using h q hq)]
theorem box4 {W : World} {b : Nat} {x y z u : Value} {e : TypeId} (h : W.heap[b]? = some (.cells #[x, y, z, u] e (0, 0))) :
    W.cell? ⟨b, 0, none⟩ = some x ∧ W.cell? ⟨b, 1, none⟩ = some y ∧ W.cell? ⟨b, 2, none⟩ = some z ∧ W.cell? ⟨b, 3, none⟩ = some u :=
  ⟨cells_of' h 0, cells_of' h 1, cells_of' h 2, cells_of' h 3⟩

end Go.Proofs.YtamddagmlanijaaGreat
