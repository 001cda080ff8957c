/- Packed: Fst2. -/
import Derived.WalkKit
import Derived.ProofKit
import Derived.OwnWalk
import Derived.Laws.AppendOwnNone
import Derived.Maps.AppendAt
import Derived.Test.YtnomppdmhgefiaaGreatS05
import Derived.Lib.Hide
import Derived.Deep.RegionLawGrows
import Derived.Laws.Tables
import Derived.Test.YtnomppdmhgefiaaGreatS02
import Derived.Test.YtnomppdmhgefiaaGreatS01
import Derived.OpenShut
import Derived.Handy
import Derived.Laws.Cells
import Derived.Laws.BytesString
import Derived.Deep.RegionHeld3
/- Merged: Str, PosM, Fst, Fst2. -/
/- Slices of strings in memory; an append of any slice onto a row of one's own. -/
namespace Go.Proofs.YtnomppdmhgefiaaGreat
open Go.RowKit

theorem kb_toList (a : Key) : (kb a).toList = a := by rw [ByteArray.toList_eq]; rfl
theorem kb_beq_yes {a b : Key} (h : a = b) : ((kb a).toList == (kb b).toList) = true := by rw [h, beq_self_eq_true]
theorem kb_beq_no {a b : Key} (h : a ≠ b) : ((kb a).toList == (kb b).toList) = false := by rw [kb_toList, kb_toList, beq_eq_false_iff_ne]; exact h

theorem ad_add (b o k : Nat) : (⟨b, o, none⟩ : Addr).add k = ⟨b, o + k, none⟩ := by unfold Addr.add; split <;> simp_all
def strs (l : List Key) : List Value := l.map fun k => .string (kb k)
theorem strs_length (l : List Key) : (strs l).length = l.length := by simp [strs]
theorem strs_append (a b : List Key) : strs (a ++ b) = strs a ++ strs b := by simp [strs]
theorem strs_at (l : List Key) (i : Nat) (k : Key) (h : l[i]? = some k) : (strs l)[i]? = some (.string (kb k)) := by simp [strs, h]

/-- the slice value v holds these strings, in a block below n -/
def StrIs (n : Nat) (W : World) (l : List Key) (v : Value) : Prop :=
  ∃ oa cap, v = .slice oa l.length cap ∧ l.length ≤ cap ∧ ((oa = none → l.length = 0 ∧ cap = 0) ∧ ∀ a, oa = some a → a.spot = none) ∧
    (l ≠ [] → ∃ b o, oa = some ⟨b, o, none⟩ ∧ b < n ∧ ∀ i k, l[i]? = some k → W.cell? ⟨b, o + i, none⟩ = some (.string (kb k)))
theorem StrIs.nil (n : Nat) (W : World) : StrIs n W [] (.slice none 0 0) := ⟨_, _, rfl, Nat.le_refl _, ⟨fun _ => ⟨rfl, rfl⟩, fun a h => by cases h⟩, fun h => absurd rfl h⟩
theorem StrIs.carry {n m : Nat} {A B : World} {l : List Key} {v : Value} (h : StrIs n A l v) (hb : Below n A B) (hn : n ≤ m) : StrIs m B l v := by
  obtain ⟨oa, cap, rfl, h1, h2, h3⟩ := h
  refine ⟨oa, cap, rfl, h1, h2, fun hne => ?_⟩
  obtain ⟨b, o, rfl, hbn, hc⟩ := h3 hne
  exact ⟨b, o, rfl, by omega, fun i k hk => (hb.cell (p := ⟨b, _, none⟩) hbn).trans (hc i k hk)⟩
theorem StrIs.ofRow {W : World} {m : Nat} {e : TypeId} {v : Value} {l : List Key} (h : W.ownsRow m e 1 v l.length (strs l)) : StrIs W.heap.size W l v := by
  have h0 := h
  rcases h.2 with ⟨rfl, hl⟩ | ⟨g, cap, cur, rfl, hb, hg, hle, _⟩
  · exact ⟨none, 0, by rw [hl], by omega, ⟨fun _ => ⟨hl, rfl⟩, fun a h => by cases h⟩, fun hne => absurd (List.length_eq_zero_iff.1 hl) hne⟩
  · refine ⟨_, cap, rfl, hle, ⟨fun h => (by cases h), fun a h => by cases h; rfl⟩, fun _ => ⟨g, 0, rfl, (Array.getElem?_eq_some_iff.1 hg).1, fun i x hx => ?_⟩⟩
    have := h0.cells (g := g) rfl i _ (strs_at l i x hx)
    have e : (⟨g, 0, none⟩ : Addr).add i = ⟨g, i, none⟩ := by unfold Addr.add; split <;> simp_all
    rw [Nat.zero_add]
    rwa [e] at this

section
variable {P : Program} {w : World} {ops : Array Oper} {rest : List Oper} {o : Oper} {a : Act} {Q : Exit → Act → World → Prop}
theorem wpList_append_opt (hgd : o.guard = none) (s x : Operand) (t : TypeId)
    (ho : o.op = .call { callee := .builtin .append, args := #[s, x], argTypes := #[t, t] })
    (base : Nat) (e : TypeId) (i : TypeInfo) (z : Value) (size bytes : Nat) (ht : P.underlying t = some (.slice e)) (hi : P.info? e = some i) (hz : i.zero = some z)
    (hsize : i.size = size) (hby : i.bytes = bytes) (hzs : z.cells.size = size) (hsz : 0 < size)
    (v : Value) (n : Nat) (xs : List Value) (hs : a.eval s = v) (hown : w.ownsRow base e size v n xs)
    (oa : Option Addr) (m c : Nat) (news : List Value) (hx : a.eval x = .slice oa m c) (hl : news.length = m * size) (hnone : oa = none → m = 0 ∧ c = 0) (hnews : ∀ ad, oa = some ad → ∀ j u, news[j]? = some u → w.cell? (ad.add j) = some u) (h1 : ∀ u ∈ news, u.oneCell' = true)
    (h63 : n + m ≤ maxLen) (hbytes : (n + m) * bytes ≤ 140737488355328) (hbase : base ≤ w.heap.size)
    (h : ∀ v' w', w'.ownsRow base e size v' (n + m) (xs ++ news) → w.grownBy w' v.ownBlock → (v'.ownBlock = v.ownBlock ∨ v'.ownBlock = some w.heap.size) → wpList P ops Q rest (a.put o.dst v') w') :
    wpList P ops Q (o :: rest) a w := by
  cases oa with
  | some ad => exact wpList_append_own_at _ hgd s x t ho base e i z size bytes ht hi hz hsize hby hzs hsz v n xs hs hown ad m c news hx hl (hnews ad rfl) h1 h63 hbytes hbase fun v' w' k1 k2 _ k4 => h v' w' k1 k2 k4
  | none =>
    obtain ⟨rfl, rfl⟩ := hnone rfl
    obtain rfl : news = [] := List.length_eq_zero_iff.1 (by simpa using hl)
    refine wpList_append_own_none hgd s x t ho base e i size ht hi v n xs hs hown hx ?_
    exact h v w (by simpa using hown) ⟨rfl, rfl, rfl, Nat.le_refl _, fun _ _ _ => rfl⟩ (.inl rfl)
end

/-- append of any slice onto a row of one's own, in a drawn region -/
theorem step_append_opt {P : Program} {ops : Array Oper} {o : Oper} {a : Act} {w : World} {K : Act → World → Prop} {Q : Exit → Act → World → Prop} {E : Prop}
    (hgd : o.guard = none) (s x : Operand) (t : TypeId)
    (ho : o.op = .call { callee := .builtin .append, args := #[s, x], argTypes := #[t, t] })
    (base : Nat) (e : TypeId) (i : TypeInfo) (z : Value) (size bytes : Nat) (ht : P.underlying t = some (.slice e)) (hi : P.info? e = some i) (hz : i.zero = some z)
    (hsize : i.size = size) (hby : i.bytes = bytes) (hzs : z.cells.size = size) (hsz : 0 < size)
    (v : Value) (n : Nat) (xs : List Value) (hs : a.eval s = v) (hown : w.ownsRow base e size v n xs)
    (oa : Option Addr) (m c : Nat) (news : List Value) (hx : a.eval x = .slice oa m c) (hl : news.length = m * size) (hnone : oa = none → m = 0 ∧ c = 0) (hnews : ∀ ad, oa = some ad → ∀ j u, news[j]? = some u → w.cell? (ad.add j) = some u) (h1 : ∀ u ∈ news, u.oneCell' = true)
    (h63 : n + m ≤ maxLen) (hbytes : (n + m) * bytes ≤ 140737488355328) (hbase : base ≤ w.heap.size)
    (h : ∀ v' w', w'.ownsRow base e size v' (n + m) (xs ++ news) → w.grownBy w' v.ownBlock → (v'.ownBlock = v.ownBlock ∨ v'.ownBlock = some w.heap.size) → K (a.put o.dst v') w') :
    if Region.wanted o (yielded ops a.tmps) = true then Oper.wp P o a w K Q else E := by
  have hw : Region.wanted o (yielded ops a.tmps) = true := by simp [Region.wanted, hgd]
  rw [if_pos hw]
  cases oa with
  | some ad =>
    obtain ⟨v', w', hr, h2, h3, h4, h5⟩ := run_append_own_at (P := P) w base t o.type e i z size bytes ht hi hz hsize hby hzs hsz v n xs hown ad m c news hl (hnews ad rfl) h1 h63 hbytes hbase
    unfold Oper.wp execOp
    simp only [ho, resolve, invoke, builtin, Sem.run_bind, Sem.run_pure, Result.andThen_ok, List.map_toArray, List.map_cons, List.map_nil, hs, hx, hr]
    exact h v' w' h2 h3 h5
  | none =>
    obtain ⟨rfl, rfl⟩ := hnone rfl
    obtain rfl : news = [] := List.length_eq_zero_iff.1 (by simpa using hl)
    have hrun := run_append_owned_none (P := P) (w := w) base t o.type e i size ht hi v n xs hown
    unfold Oper.wp
    simp only [execOp, ho, resolve, invoke, builtin, Sem.run_bind, Sem.run_pure, Result.andThen_ok, List.map_toArray, List.map_cons, List.map_nil, hs, hx, hrun]
    exact h v w (by simpa using hown) ⟨rfl, rfl, rfl, Nat.le_refl _, fun _ _ _ => rfl⟩ (.inl rfl)
/-- the row of a slice just built -/
theorem ownsRow_made {W : World} {g n : Nat} {e : TypeId} {c : List Value} (base : Nat) (h : W.heap[g]? = some (.cells c.toArray e (0, 0))) (hb : base ≤ g) (hl : c.length = n) (hm : n ≤ maxLen) : W.ownsRow base e 1 (.slice (some ⟨g, 0, none⟩) n n) n c :=
  ⟨by simp [hl], .inr ⟨g, n, c.toArray, rfl, hb, h, Nat.le_refl _, hm, by simp [hl], by simp [← hl]⟩⟩
end Go.Proofs.YtnomppdmhgefiaaGreat
/- Positions in memory: rows of integers of their own, a list of such rows, and append onto a row whose spare room is shared. -/
namespace Go.Proofs.YtnomppdmhgefiaaGreat
open Go.RowKit

def ints (l : List Int) : List Value := l.map (.int .i64)
mutual
def Tm.positions (l : List Int) : Tm → List (List Int)
  | .mk _ _ ts => l :: Tm.positionsL l 0 ts
def Tm.positionsL (l : List Int) (i : Nat) : List Tm → List (List Int)
  | [] => []
  | t :: r => Tm.positions (l ++ [(i : Int)]) t ++ Tm.positionsL l (i + 1) r
end
theorem Tm.positions_eq (l : List Int) (t : Tm) : t.positions l = l :: Tm.positionsL l 0 t.ts := by cases t; simp [Tm.positions, Tm.ts]
theorem Tm.positionsL_snoc (l : List Int) (ts : List Tm) (u : Tm) (i : Nat) : Tm.positionsL l i (ts ++ [u]) = Tm.positionsL l i ts ++ u.positions (l ++ [((i + ts.length : Nat) : Int)]) := by
  induction ts generalizing i with
  | nil => simp [Tm.positionsL]
  | cons t ts ih => simp only [List.cons_append, Tm.positionsL, ih, List.append_assoc, List.length_cons]; congr 4; simp; omega
/-- rows of integers, each of its own block, all from m on -/
def Hs (m : Nat) (W : World) : List (List Int) → List Value → Prop
  | [], [] => True
  | p :: ps, h :: hs => W.ownsRow m 3 1 h p.length (ints p) ∧ Hs m W ps hs
  | _, _ => False
theorem Hs.append {m : Nat} {W : World} {a b : List (List Int)} {x y : List Value} (h : Hs m W a x) (k : Hs m W b y) : Hs m W (a ++ b) (x ++ y) := by
  induction a generalizing x with
  | nil => cases x with | nil => simpa using k | cons _ _ => exact h.elim
  | cons p a ih => cases x with | nil => exact h.elim | cons v x => exact ⟨h.1, ih h.2⟩
theorem Hs.length {m : Nat} {W : World} {a : List (List Int)} {x : List Value} (h : Hs m W a x) : x.length = a.length := by
  induction a generalizing x with
  | nil => cases x with | nil => rfl | cons _ _ => exact h.elim
  | cons p a ih => cases x with | nil => exact h.elim | cons v x => simp [ih h.2]
theorem Hs.get {m : Nat} {W : World} {a : List (List Int)} {x : List Value} (h : Hs m W a x) (i : Nat) (p : List Int) (hp : a[i]? = some p) : ∃ v, x[i]? = some v ∧ W.ownsRow m 3 1 v p.length (ints p) := by
  induction a generalizing x i with
  | nil => simp at hp
  | cons q a ih =>
    cases x with
    | nil => exact h.elim
    | cons v x =>
      cases i with
      | zero => simp at hp; subst hp; exact ⟨v, rfl, h.1⟩
      | succ i => obtain ⟨v', hv, ho⟩ := ih h.2 i (by simpa using hp); exact ⟨v', by simpa using hv, ho⟩

/-- between the worlds only the blocks x and y of those that were there may have changed -/
structure FrP (x y : Option Nat) (A B : World) : Prop where
  os : B.os = A.os
  tape : B.tape = A.tape
  output : B.output = A.output
  size : A.heap.size ≤ B.heap.size
  block : ∀ k, k < A.heap.size → some k ≠ x → some k ≠ y → B.heap[k]? = A.heap[k]?
theorem FrP.of_below {x y : Option Nat} {A B : World} (h : Below A.heap.size A B) : FrP x y A B := ⟨h.os, h.tape, h.output, h.size, fun k hk _ _ => h.block k hk⟩
theorem FrP.refl (x y : Option Nat) (A : World) : FrP x y A A := ⟨rfl, rfl, rfl, Nat.le_refl _, fun _ _ _ _ => rfl⟩
/-- then once more, with blocks that are the same or new -/
theorem FrP.trans {x y x' y' : Option Nat} {A B C : World} (h : FrP x y A B) (k : FrP x' y' B C) (hx : x' = x ∨ x' = y ∨ (∀ j, x' = some j → A.heap.size ≤ j)) (hy : y' = y ∨ y' = x ∨ (∀ j, y' = some j → A.heap.size ≤ j)) : FrP x y A C :=
  ⟨k.os.trans h.os, k.tape.trans h.tape, k.output.trans h.output, Nat.le_trans h.size k.size, fun i hi h1 h2 => (k.block i (Nat.lt_of_lt_of_le hi h.size)
    (fun e => by rcases hx with rfl | rfl | hx; exact h1 e; exact h2 e; have := hx i e.symm; omega) (fun e => by rcases hy with rfl | rfl | hy; exact h2 e; exact h1 e; have := hy i e.symm; omega)).trans (h.block i hi h1 h2)⟩
theorem FrP.grown {A B : World} {x : Option Nat} (h : A.grownBy B x) : FrP x none A B := ⟨h.os, h.tape, h.output, h.size, fun k hk h1 _ => h.block k hk h1⟩
theorem FrP.below {x y : Option Nat} {A B : World} {n : Nat} (h : FrP x y A B) (hn : n ≤ A.heap.size) (hx : ∀ j, x = some j → n ≤ j) (hy : ∀ j, y = some j → n ≤ j) : Below n A B :=
  ⟨h.os, h.tape, h.output, h.size, fun k hk => h.block k (by omega) (fun e => by have := hx k e.symm; omega) (fun e => by have := hy k e.symm; omega)⟩
theorem FrP.row {x y : Option Nat} {A B : World} (h : FrP x y A B) {m n : Nat} {e : TypeId} {v : Value} {xs : List Value} (ho : A.ownsRow m e 1 v n xs) (hx : v.ownBlock = none ∨ v.ownBlock ≠ x) (hy : v.ownBlock = none ∨ v.ownBlock ≠ y) : B.ownsRow m e 1 v n xs := by
  refine ⟨ho.1, ?_⟩
  rcases ho.2 with hn | ⟨g, cap, cur, rfl, hb, hg, rest⟩
  · exact .inl hn
  · exact .inr ⟨g, cap, cur, rfl, hb, (h.block g (Array.getElem?_eq_some_iff.1 hg).1 (by simpa [Value.ownBlock] using hx) (by simpa [Value.ownBlock] using hy)).trans hg, rest⟩
theorem Hs.kept {m n : Nat} {W V : World} {a : List (List Int)} {x : List Value} (h : Hs m W a x) (hk : ∀ (v : Value) (p : List Int), W.ownsRow m 3 1 v p.length (ints p) → V.ownsRow n 3 1 v p.length (ints p)) : Hs n V a x := by
  induction a generalizing x with
  | nil => cases x with | nil => trivial | cons _ _ => exact h.elim
  | cons p a ih => cases x with | nil => exact h.elim | cons v x => exact ⟨hk v p h.1, ih h.2⟩
theorem ownsRow_mono {W : World} {m m' n size : Nat} {e : TypeId} {v : Value} {xs : List Value} (h : W.ownsRow m e size v n xs) (hm : m' ≤ m) : W.ownsRow m' e size v n xs := by
  refine ⟨h.1, ?_⟩
  rcases h.2 with hn | ⟨g, cap, cur, hv, hb, rest⟩
  · exact .inl hn
  · exact .inr ⟨g, cap, cur, hv, by omega, rest⟩
/-- rows of different types lie in different blocks -/
theorem ownsRow_apart {W : World} {m m' n n' s s' : Nat} {e e' : TypeId} {v v' : Value} {xs xs' : List Value} (h : W.ownsRow m e s v n xs) (h' : W.ownsRow m' e' s' v' n' xs') (he : e ≠ e') : v.ownBlock = none ∨ v.ownBlock ≠ v'.ownBlock := by
  rcases h.2 with ⟨rfl, _⟩ | ⟨g, cap, cur, rfl, hb, hg, rest⟩
  · exact .inl rfl
  · rcases h'.2 with ⟨rfl, _⟩ | ⟨g', cap', cur', rfl, hb', hg', rest'⟩
    · exact .inr (by simp [Value.ownBlock])
    · refine .inr fun hgg => ?_
      simp only [Value.ownBlock, Option.some.injEq] at hgg
      subst hgg
      rw [hg] at hg'
      simp only [Option.some.injEq, Obj.cells.injEq] at hg'
      exact he hg'.2.1

/-- v' is v and one element more: in v's own room, or in a new block -/
def More (A B : World) (v v' : Value) (n : Nat) : Prop :=
  (∃ g cap, v = .slice (some ⟨g, 0, none⟩) n cap ∧ v' = .slice (some ⟨g, 0, none⟩) (n + 1) cap ∧ A.grownBy B (some g)) ∨ (A.grownBy B none ∧ ∃ k, v'.ownBlock = some k ∧ A.heap.size ≤ k)

/-- what is left of v when v' has been used -/
theorem More.back {A B C : World} {v v' : Value} {n m : Nat} {e : TypeId} {xs : List Value} {y : Value} (h : More A B v v' n) (ho : A.ownsRow m e 1 v n xs) (ho' : C.ownsRow m e 1 v' (n + 1) (xs ++ [y])) {x : Option Nat} (hf : FrP x v'.ownBlock B C)
    (hx : v.ownBlock = none ∨ v.ownBlock ≠ x) : C.ownsRow m e 1 v n xs := by
  rcases h with ⟨g, cap, rfl, rfl, _⟩ | ⟨hg, k, hk, hkn⟩
  · refine ⟨ho.1, ?_⟩
    rcases ho'.2 with ⟨h1, _⟩ | ⟨g', cap', cur, h1, hb, hg', hle, hcm, hcs, ht⟩
    · cases h1
    · simp only [Value.slice.injEq, Option.some.injEq, Addr.mk.injEq] at h1
      obtain ⟨⟨rfl, -⟩, -, rfl⟩ := h1
      refine .inr ⟨g, cap, cur, rfl, hb, hg', by omega, hcm, hcs, ?_⟩
      have hl := ho.1
      have := congrArg (List.take (n * 1)) ht
      rw [List.take_take, Nat.min_eq_left (by omega)] at this
      rw [this, List.take_append_of_le_length (by omega), List.take_of_length_le (by omega)]
  · have h1 : B.ownsRow m e 1 v n xs := ho.kept hg (by cases hv : v.ownBlock <;> simp)
    refine hf.row h1 hx ?_
    cases hv : v.ownBlock with
    | none => exact .inl rfl
    | some j => exact .inr fun he => by rw [hk] at he; cases he; have := (ho.lt _ hv).2; omega
theorem More.own {A B : World} {v v' : Value} {n : Nat} (h : More A B v v' n) : v'.ownBlock = v.ownBlock ∨ ∃ k, v'.ownBlock = some k ∧ A.heap.size ≤ k := by
  rcases h with ⟨g, cap, rfl, rfl, _⟩ | ⟨hg, k, hk, hkn⟩
  · exact .inl rfl
  · exact .inr ⟨k, hk, hkn⟩
theorem More.frame {A B : World} {v v' : Value} {n : Nat} (h : More A B v v' n) : A.grownBy B v.ownBlock := by
  rcases h with ⟨g, cap, rfl, rfl, hg⟩ | ⟨hg, k, hk, hkn⟩
  · exact hg
  · exact ⟨hg.os, hg.tape, hg.output, hg.size, fun k hk _ => hg.block k hk (by simp)⟩

/-- append of one element onto a row of one's own, in a drawn region -/
theorem step_append_more {P : Program} {ops : Array Oper} {o : Oper} {a : Act} {w : World} {K : Act → World → Prop} {Q : Exit → Act → World → Prop} {E : Prop}
    (hg : o.guard = none) (s x : Operand) (t : TypeId) (hop : o.op = Op.call { callee := Callee.builtin Builtin.append, args := #[s, x], argTypes := #[t, t] })
    (e : TypeId) (i : TypeInfo) (z : Value) (bytes : Nat) (h1 : P.underlying t = some (.slice e)) (h2 : P.info? e = some i) (h3 : i.zero = some z) (h4 : i.size = 1) (h5 : i.bytes = bytes) (h6 : z.cells.size = 1)
    (base : Nat) (v : Value) (n : Nat) (xs : List Value) (hs : a.eval s = v) (hown : w.ownsRow base e 1 v n xs)
    (ad : Addr) (c : Nat) (y : Value) (hx : a.eval x = .slice (some ad) 1 c) (hc : w.cell? (ad.add 0) = some y) (h1c : y.oneCell' = true)
    (b1 : n + 1 ≤ maxLen) (b2 : (n + 1) * bytes ≤ 140737488355328) (hbase : base ≤ w.heap.size)
    (hK : ∀ v' w', w'.ownsRow base e 1 v' (n + 1) (xs ++ [y]) → More w w' v v' n → K (a.put o.dst v') w') :
    if Region.wanted o (yielded ops a.tmps) = true then Oper.wp P o a w K Q else E := by
  have hnews : ∀ j u, [y][j]? = some u → w.cell? (ad.add j) = some u := fun j u hj => by
    cases j with
    | zero => simp at hj; subst hj; exact hc
    | succ j => simp at hj
  have h1c' : ∀ u ∈ [y], u.oneCell' = true := fun u hu => by simp at hu; subst hu; exact h1c
  rcases hown.2 with ⟨rfl, rfl⟩ | ⟨g, cap, cur, rfl, hbg, hgc, hle, hcm, hcs, ht⟩
  · obtain rfl : xs = [] := List.eq_nil_of_length_eq_zero (by simpa using hown.1)
    refine step_append_grows hg s x t hop e i z 1 bytes h1 h2 h3 h4 h5 h6 (by omega) none 0 0 [] hs (fun _ => ⟨rfl, rfl⟩) rfl (fun b hb => by cases hb) ad 1 c [y] hx rfl hnews h1c' (by omega) b1 b2 fun v' w' ho hgr => ?_
    refine hK v' w' (by simpa using ownsRow_mono ho hbase) (.inr ⟨hgr, ?_⟩)
    rcases ho.2 with ⟨_, h⟩ | ⟨g', cap', cur', rfl, hb', _⟩
    · omega
    · exact ⟨g', rfl, hb'⟩
  · by_cases hroom : n + 1 ≤ cap
    · have hfit : n * i.size + [y].length ≤ cur.size := by rw [h4, hcs]; simp; omega
      have hr := run_append_room (P := P) w t o.type e i h1 h2 g n cap cur hgc ad 1 c [y] (by simp [h4]) hnews h1c' hroom hfit
      have hl : xs.length = n := by have := hown.1; omega
      have ht' : cur.toList.take n = xs := by rw [← ht, Nat.mul_one]
      rw [h4, Nat.mul_one, ht'] at hr
      have hw : Region.wanted o (yielded ops a.tmps) = true := by simp [Region.wanted, hg]
      have key := hK _ (w.setRow g (xs ++ [y] ++ List.drop (n + [y].length) cur.toList).toArray) ⟨by simp [hl], .inr ⟨g, cap, _, rfl, hbg, setRow_heap w g cur _ e (0, 0) hgc, hroom, hcm, by simp [hl]; omega, ?_⟩⟩
        (.inl ⟨g, cap, rfl, rfl, ⟨rfl, rfl, rfl, by simp [World.setRow], fun k _ hk => setRow_other _ _ _ _ (fun e => hk (by rw [e]))⟩⟩)
      · rw [if_pos hw]
        unfold Oper.wp
        simp only [execOp, hop, resolve, invoke, builtin, Sem.run_bind, Sem.run_pure, Result.andThen_ok, List.map_toArray, List.map_cons, List.map_nil, hs, hx, hr]
        exact key
      · rw [Nat.mul_one]
        exact List.take_left' (by simp [hl])
    · refine step_append_grows hg s x t hop e i z 1 bytes h1 h2 h3 h4 h5 h6 (by omega) (some ⟨g, 0, none⟩) n cap xs hs (fun h => by cases h) hown.1 (fun b hb => by cases hb; exact hown.cells rfl) ad 1 c [y] hx rfl hnews h1c' (by omega) b1 b2 fun v' w' ho hgr => ?_
      refine hK v' w' (ownsRow_mono ho hbase) (.inr ⟨hgr, ?_⟩)
      rcases ho.2 with ⟨_, h⟩ | ⟨g', cap', cur', rfl, hb', _⟩
      · omega
      · exact ⟨g', rfl, hb'⟩
end Go.Proofs.YtnomppdmhgefiaaGreat
/- The reference's Has, Digits and First. -/
namespace Go.Proofs.YtnomppdmhgefiaaGreat
open Go.RowKit

theorem infoStr : (Tryz.prog.info? 9).map (fun i => (i.zero, i.size, i.bytes)) = some (some (.string ⟨#[]⟩), 1, 16) := by kernel_rfl
theorem strs_one (l : List Key) : ∀ u ∈ strs l, u.oneCell' = true := by
  intro u hu
  obtain ⟨k, _, rfl⟩ := List.mem_map.1 hu
  rfl
theorem cell_one_at {W : World} {k : Nat} {x : Value} {e : TypeId} (h : W.heap[k]? = some (.cells #[x] e (0, 0))) : ∀ j u, [x][j]? = some u → W.cell? ((⟨k, 0, none⟩ : Addr).add j) = some u := by
  intro j u hj
  match j, hj with
  | 0, hj =>
    simp only [List.getElem?_cons_zero, Option.some.injEq] at hj
    subst hj
    have := cells_of' h 0
    simpa [Addr.add] using this
/-- the cells of a slice of strings, as an append asks for them -/
theorem StrIs.news {n : Nat} {W : World} {l : List Key} {oa : Option Addr} {cap : Nat} (h : StrIs n W l (.slice oa l.length cap)) : (oa = none → l.length = 0 ∧ cap = 0) ∧ ∀ ad, oa = some ad → ∀ j u, (strs l)[j]? = some u → W.cell? (ad.add j) = some u := by
  obtain ⟨oa', cap', he, -, h2, h3⟩ := h
  simp only [Value.slice.injEq, true_and] at he
  obtain ⟨rfl, rfl⟩ := he
  refine ⟨h2.1, fun ad had j u hj => ?_⟩
  have hlt := (List.getElem?_eq_some_iff.1 hj).1
  rw [strs_length] at hlt
  obtain ⟨b, o, rfl, _, hc⟩ := h3 (by rintro rfl; simp at hlt)
  cases had
  rw [strs, List.getElem?_map, List.getElem?_eq_getElem hlt] at hj
  simp only [Option.map_some, Option.some.injEq] at hj
  subst hj
  have := hc j _ (List.getElem?_eq_getElem hlt)
  have e : (⟨b, o, none⟩ : Addr).add j = ⟨b, o + j, none⟩ := by unfold Addr.add; split <;> simp_all
  rw [e]; exact this

end Go.Proofs.YtnomppdmhgefiaaGreat
/- The reference's First, whole. -/
namespace Go.Proofs.YtnomppdmhgefiaaGreat
open Go.RowKit

end Go.Proofs.YtnomppdmhgefiaaGreat
