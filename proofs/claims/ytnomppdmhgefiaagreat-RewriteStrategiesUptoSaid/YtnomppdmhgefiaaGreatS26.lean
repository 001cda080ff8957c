/- Packed: Posn, Ym. -/
import Derived.WalkKit
import Derived.ProofKit
import Derived.OpenShut
import Derived.Handy
import Derived.Lib.Hide
import Derived.Maps.AppendAt
import Derived.Deep.RegionHeld3
import Derived.Test.YtnomppdmhgefiaaGreatS06
import Derived.Test.YtnomppdmhgefiaaGreatS10
import Derived.Test.YtnomppdmhgefiaaGreatS23
/- Positions. -/
namespace Go.Proofs.YtnomppdmhgefiaaGreat
open Go.RowKit

theorem ints_at (l : List Int) (i : Nat) (x : Int) (h : l[i]? = some x) : (ints l)[i]? = some (.int .i64 x) := by simp [ints, h]
/-- a row's cells -/
theorem ownsRow_cell {W : World} {m g n c : Nat} {e : TypeId} {l : List Int} (h : W.ownsRow m e 1 (.slice (some ⟨g, 0, none⟩) n c) n (ints l)) (i : Nat) (x : Int) (hx : l[i]? = some x) : W.cell? ⟨g, i, none⟩ = some (.int .i64 x) := by
  have := h.cells (g := g) rfl i _ (ints_at l i x hx)
  have e : (⟨g, 0, none⟩ : Addr).add i = ⟨g, i, none⟩ := by unfold Addr.add; split <;> simp_all
  rwa [e] at this
theorem ownsRow_form {W : World} {m n : Nat} {e : TypeId} {v : Value} {xs : List Value} (h : W.ownsRow m e 1 v n xs) : ∃ oa cap, v = .slice oa n cap ∧ (oa = none → n = 0) := by
  rcases h.2 with ⟨rfl, rfl⟩ | ⟨g, cap, cur, rfl, _⟩
  · exact ⟨_, _, rfl, fun _ => rfl⟩
  · exact ⟨_, _, rfl, fun h => by cases h⟩
theorem PosIs.ofRow {W : World} {m : Nat} {e : TypeId} {v : Value} {l : List Int} (h : W.ownsRow m e 1 v l.length (ints l)) : PosIs W.heap.size W l v := by
  have h0 := h
  rcases h.2 with ⟨rfl, hl⟩ | ⟨g, cap, cur, rfl, hb, hg, _⟩
  · exact ⟨none, 0, by rw [hl], fun hne => absurd (List.length_eq_zero_iff.1 hl) hne⟩
  · refine ⟨_, cap, rfl, fun _ => ⟨g, 0, rfl, (Array.getElem?_eq_some_iff.1 hg).1, fun i x hx => ?_⟩⟩
    rw [Nat.zero_add]
    exact ownsRow_cell h0 i x hx

theorem clonePos_any (m : Nat) (v : Value) (l : List Int) (w : World) (h : w.ownsRow m 3 1 v l.length (ints l)) (hl : l.length ≤ 1048576) :
    Calls Tryz.prog 121 #[v] w fun e w' => (∃ v', e = .returned v' ∧ w'.ownsRow w.heap.size 3 1 v' l.length (ints l)) ∧ Below w.heap.size w w' := by
  have h0 := h
  rcases h.2 with ⟨rfl, hl0⟩ | ⟨g, cap, cur, rfl, hb, hg, _⟩
  · obtain rfl : l = [] := List.length_eq_zero_iff.1 hl0
    refine (Tryz.slices_Clone_int_nil 0 0 w).mono ?_
    rintro e w' ⟨rfl, rfl⟩
    exact ⟨⟨_, rfl, World.ownsRow_nil _ _ _ _⟩, Below.refl _ _⟩
  · refine (Tryz.slices_Clone_int g 0 l.length cap l w (Nat.le_refl _) (by omega) fun j hj => ?_).mono ?_
    · rw [Nat.zero_add, List.getD_eq_getElem?_getD, List.getElem?_eq_getElem hj]
      exact ownsRow_cell h0 j _ (List.getElem?_eq_getElem hj)
    · rintro e w' ⟨v', rfl, ho, -, hbw⟩
      rw [List.take_length] at ho
      exact ⟨⟨v', rfl, ho⟩, hbw⟩

/-- k arguments being done -/
structure PosSt (n₀ : Nat) (w : World) (all pos : Value) (l : List Int) (hs : List Value) (ts : List Tm) (k : Nat) (W : World) (a : Value) (hk : List Value) : Prop where
  rall : W.ownsRow n₀ 26 1 a (hs.length + hk.length) (hs ++ hk)
  heads : Hs w.heap.size W (l :: Tm.positionsL l 0 (ts.take k)) hk
  same : a.ownBlock = all.ownBlock ∨ ∃ j, a.ownBlock = some j ∧ w.heap.size ≤ j
  fr : FrP all.ownBlock pos.ownBlock w W
  rpos : W.ownsRow n₀ 3 1 pos l.length (ints l)

theorem ints_snoc (l : List Int) (x : Int) : ints (l ++ [x]) = ints l ++ [.int .i64 x] := by simp [ints]
theorem types_apart : 3 ≠ 26 := by decide
theorem PosSt.start {n₀ : Nat} {w w1 w2 : World} {all pos h v2 : Value} {l : List Int} {hs : List Value} {ts : List Tm} (hall : w.ownsRow n₀ 26 1 all hs.length hs) (hpos : w.ownsRow n₀ 3 1 pos l.length (ints l))
    (hb1 : Below w.heap.size w w1) (hh : w1.ownsRow w.heap.size 3 1 h l.length (ints l)) (ho : w2.ownsRow n₀ 26 1 v2 (hs.length + 1) (hs ++ [h])) (hg : w1.grownBy w2 all.ownBlock) (hat : v2.ownBlock = all.ownBlock ∨ v2.ownBlock = some w1.heap.size) :
    PosSt n₀ w all pos l hs ts 0 w2 v2 [h] := by
  have hz := hb1.size
  have hg1 : w.grownBy w1 none := below_grown hb1
  have nn : ∀ v : Value, v.ownBlock = none ∨ v.ownBlock ≠ none := fun v => by cases v.ownBlock <;> simp
  refine ⟨ho, ⟨hh.kept hg ?_, ?_⟩, ?_, ?_, ?_⟩
  · exact ownsRow_apart hh (hall.kept hg1 (nn _)) types_apart
  · simp [Tm.positionsL, Hs]
  · rcases hat with h | h
    · exact .inl h
    · exact .inr ⟨_, h, hz⟩
  · exact (FrP.of_below (x := all.ownBlock) (y := pos.ownBlock) hb1).trans (FrP.grown hg) (.inl rfl) (.inr (.inr (fun j hj => by cases hj)))
  · exact (hpos.kept hg1 (nn _)).kept hg (ownsRow_apart hpos hall types_apart)

theorem PosSt.step {n₀ k : Nat} {w W A B W' : World} {all pos a a' v' : Value} {l : List Int} {hs hk hk2 : List Value} {ts : List Tm} {u : Tm} (st : PosSt n₀ w all pos l hs ts k W a hk) (hpos : w.ownsRow n₀ 3 1 pos l.length (ints l)) (hu : ts[k]? = some u)
    (hA : Below W.heap.size W A) (hm : More A B pos v' l.length) (r : PosSt n₀ B a v' (l ++ [(k : Int)]) (hs ++ hk) u.ts u.ts.length W' a' hk2) :
    PosSt n₀ w all pos l hs ts (k + 1) W' a' (hk ++ hk2) := by
  have hzA := hA.size
  have hzB := hm.frame.size
  have hzW := st.fr.size
  have hkl : k < ts.length := (List.getElem?_eq_some_iff.1 hu).1
  have nn : ∀ v : Value, v.ownBlock = none ∨ v.ownBlock ≠ none := fun v => by cases v.ownBlock <;> simp
  have hgA : W.grownBy A none := below_grown hA
  have hposA := st.rpos.kept hgA (nn _)
  have hallA := st.rall.kept hgA (nn _)
  have hpa := ownsRow_apart hposA hallA types_apart
  have hallB := hallA.kept hm.frame (ownsRow_apart hallA hposA types_apart.symm)
  refine ⟨?_, ?_, ?_, ?_, ?_⟩
  · have := r.rall
    simpa [Nat.add_assoc] using this
  · rw [Tm.take_snoc hu, Tm.positionsL_snoc, List.length_take, Nat.min_eq_left (by omega), Nat.zero_add, ← List.cons_append]
    have h2 := r.heads
    rw [List.take_length, ← Tm.positions_eq] at h2
    refine Hs.append (st.heads.kept fun v p hv => ?_) (h2.kept fun v p hv => ownsRow_mono hv (by omega))
    have hvA := hv.kept hgA (nn _)
    have hvB : B.ownsRow w.heap.size 3 1 v p.length (ints p) := hvA.kept hm.frame (by
      cases hq : v.ownBlock with
      | none => exact .inl rfl
      | some j => exact .inr fun he => by have h1 := (hv.lt _ hq).1; have h3 := (hpos.lt _ he.symm).2; omega)
    refine r.fr.row hvB (ownsRow_apart hvB hallB types_apart) ?_
    cases hq : v.ownBlock with
    | none => exact .inl rfl
    | some j =>
      refine .inr fun he => ?_
      have h1 := hv.lt _ hq
      rcases hm.own with h3 | ⟨j', h3, h4⟩
      · rw [h3] at he; have := (hpos.lt _ he.symm).2; omega
      · rw [h3] at he; cases he; omega
  · rcases r.same with h | ⟨j, h, hj⟩
    · rw [h]; exact st.same
    · exact .inr ⟨j, h, by omega⟩
  · refine ((st.fr.trans (FrP.of_below (x := none) (y := none) hA) (.inr (.inr fun j hj => by cases hj)) (.inr (.inr fun j hj => by cases hj))).trans (FrP.grown hm.frame) (.inr (.inl rfl)) (.inr (.inr fun j hj => by cases hj))).trans r.fr ?_ ?_
    · rcases st.same with h | ⟨j, h, hj⟩
      · exact .inl h
      · exact .inr (.inr fun i hi => by rw [h] at hi; cases hi; exact hj)
    · rcases hm.own with h | ⟨j, h, hj⟩
      · exact .inl h
      · exact .inr (.inr fun i hi => by rw [h] at hi; cases hi; omega)
  · have h3 := r.rpos
    rw [ints_snoc, List.length_append] at h3
    exact hm.back hposA h3 r.fr hpa

end Go.Proofs.YtnomppdmhgefiaaGreat
/- Redexes as they are handed from iterator to iterator; what an iterator over an iterator keeps for itself. -/
namespace Go.Proofs.YtnomppdmhgefiaaGreat
open Go.RowKit Go.Shelf

/-- a position, and the rules that apply there -/
abbrev Rdx := List Int × List Nat
abbrev nats (l : List Nat) : List Value := l.map fun (i : Nat) => .int .i64 (i : Int)
/-- how a redex is handed over: its memory lies in R, where nobody writes any more -/
structure RdIs (n₀ : Nat) (x : Rdx) (pv rv : Value) (R : Bs) (W : World) : Prop where
  pos : W.ownsRow n₀ 3 1 pv x.1.length (ints x.1)
  rules : W.ownsRow n₀ 3 1 rv x.2.length (nats x.2)
  inr : ∀ k, pv.ownBlock = some k ∨ rv.ownBlock = some k → R k
  ne : x.2 ≠ []
  plen : x.1.length ≤ 1048576
  rlen : x.2.length ≤ 1048576
def ElR (n₀ : Nat) (x : Rdx) (vs : Array Value) (R : Bs) (W : World) : Prop := ∃ pv rv, vs = #[.agg #[pv, rv]] ∧ RdIs n₀ x pv rv R W
theorem row_cells {W : World} {m n s : Nat} {e : TypeId} {v : Value} {xs : List Value} (h : W.ownsRow m e s v n xs) {k : Nat} (hk : v.ownBlock = some k) : ∃ o, W.heap[k]? = some o ∧ o.isCells = true := by
  rcases h.2 with ⟨rfl, _⟩ | ⟨g, cap, cur, rfl, _, hg, _⟩
  · cases hk
  · cases hk; exact ⟨_, hg, rfl⟩
/-- where the blocks of R stay, a redex stays -/
theorem RdIs.on {n₀ : Nat} {x : Rdx} {pv rv : Value} {R R' : Bs} {A B : World} (h : RdIs n₀ x pv rv R A) (hr : ∀ k, R k → R' k) (hk : ∀ k, R k → B.heap[k]? = A.heap[k]?) : RdIs n₀ x pv rv R' B :=
  ⟨row_kept h.pos fun k e => hk k (h.inr k (.inl e)), row_kept h.rules fun k e => hk k (h.inr k (.inr e)), fun k e => hr k (h.inr k e), h.ne, h.plen, h.rlen⟩

/-- what an iterator over an iterator keeps for itself: its own blocks Y, those of the other, X, among them; S, where nobody writes, R among it; the box of yield -/
structure YMem (n₀ yb lp : Nat) (W : World) (X R Y S : Bs) : Prop where
  xy : ∀ k, X k → Y k
  rs : ∀ k, R k → S k
  yB : XB n₀ (un Y S) W
  dis : ∀ k, Y k → ¬ S k
  y1 : Y yb
  nx : ¬ X yb
  ybx : W.heap[yb]? = some (.cells #[.func (.yield lp) #[] #[]] 244 (0, 0))
  nz : n₀ ≤ W.heap.size
section
variable {n₀ yb lp : Nat} {A B : World} {X R X' R' Y S : Bs}
def stepY (Y R' : Bs) (A B : World) : Bs := fun k => (Y k ∨ (A.heap.size ≤ k ∧ k < B.heap.size)) ∧ ¬ R' k
/-- a block of one's own that is not the other's stays -/
theorem YMem.own (h : YMem n₀ yb lp A X R Y S) (hf : Fx n₀ X X' A B) (hg : Rg X R X' R' A B) {k : Nat} (hk : Y k) (hx : ¬ X k) : stepY Y R' A B k ∧ ¬ X' k ∧ B.heap[k]? = A.heap[k]? := by
  have hz := (h.yB k (.inl hk)).2
  refine ⟨⟨.inl hk, fun hr => ?_⟩, fun hx' => ?_, hf.block k hz (.inr hx)⟩
  · rcases hg.own k hr with h1 | h1 | h1
    · exact h.dis k hk (h.rs k h1)
    · exact hx h1
    · omega
  · rcases hf.own k hx' with h1 | h1
    · exact hx h1
    · omega
theorem YMem.step (h : YMem n₀ yb lp A X R Y S) (hf : Fx n₀ X X' A B) (hg : Rg X R X' R' A B) :
    Fx n₀ Y (stepY Y R' A B) A B ∧ Rg Y S (stepY Y R' A B) (un S R') A B ∧ YMem n₀ yb lp B X' R' (stepY Y R' A B) (un S R') := by
  have f : Fx n₀ Y (stepY Y R' A B) A B := (hf.wider h.xy).less fun k hk => hk.1
  have g : Rg Y S (stepY Y R' A B) (un S R') A B := by
    refine ⟨fun _ hk => .inl hk, fun k hk => ?_, fun k hk hs => ?_⟩
    · rcases hk with hk | hk
      · exact .inl hk
      · rcases hg.own k hk with h1 | h1 | h1
        · exact .inl (h.rs k h1)
        · exact .inr (.inl (h.xy k h1))
        · exact .inr (.inr h1)
    · rcases hs with hs | hs
      · rcases hk.1 with h1 | h1
        · exact h.dis k h1 hs
        · have := (h.yB k (.inr hs)).2; omega
      · exact hk.2 hs
  obtain ⟨o1, o2, o3⟩ := h.own hf hg h.y1 h.nx
  refine ⟨f, g, ⟨fun k hk => ⟨(hf.own k hk).imp (h.xy k) id, hg.dis k hk⟩, fun _ hk => .inr hk, g.xb f h.nz h.yB, g.dis, o1, o2, o3.trans h.ybx, by have := h.nz; have := hf.size; omega⟩⟩
/-- behind a round of the consumer -/
theorem YMem.kx (h : YMem n₀ yb lp A X R Y S) (hk : Kx n₀ (un Y S) A B) : YMem n₀ yb lp B X R Y S :=
  ⟨h.xy, h.rs, hk.xb h.yB, h.dis, h.y1, h.nx, hk.heap h.ybx (.inl h.y1), by have := h.nz; have := hk.below.size; omega⟩
theorem YMem.unl (h : YMem n₀ yb lp A X R Y S) : ∀ k, un X R k → un Y S k := fun k hk => hk.imp (h.xy k) (h.rs k)
/-- own steps that only make new blocks, with S growing by some of them -/
theorem YMem.grow (h : YMem n₀ yb lp A X R Y S) (hb : Below A.heap.size A B) {T : Bs} (hT : ∀ k, T k → A.heap.size ≤ k ∧ k < B.heap.size) :
    Fx n₀ Y Y A B ∧ Rg Y S Y (un S T) A B ∧ YMem n₀ yb lp B X R Y (un S T) := by
  have f : Fx n₀ Y Y A B := Fx.of_below Y hb
  have g : Rg Y S Y (un S T) A B := ⟨fun _ hk => .inl hk, fun k hk => hk.elim .inl fun e => .inr (.inr (hT k e)), fun k hk hs => hs.elim (h.dis k hk) fun e => by have := hT k e; have := (h.yB k (.inl hk)).2; omega⟩
  exact ⟨f, g, ⟨h.xy, fun k hk => .inl (h.rs k hk), g.xb f h.nz h.yB, g.dis, h.y1, h.nx, (hb.block yb (h.yB yb (.inl h.y1)).2).trans h.ybx, by have := h.nz; have := hb.size; omega⟩⟩
/-- the block of the deferred calls is shut -/
theorem YMem.last {β : Type} {J : Bs → Bs → β → World → Prop} {s : β} {D : Nat} (h : YMem n₀ yb lp A X R Y S) (hJ : Cls n₀ J) (hj : J Y S s A) (hD : Y D) : XB n₀ (un Y S) (A.putObj D (.deferred none)) ∧ J Y S s (A.putObj D (.deferred none)) ∧ True :=
  ⟨fun k hk => by have := h.yB k hk; simp; exact this, hJ.put hj h.dis h.yB hD _, trivial⟩
theorem Rg.own_new {X R : Bs} {A B : World} (hd : ∀ k, X k → ¬ R k) : Rg X R X R A B := ⟨fun _ h => h, fun _ h => .inl h, hd⟩
end
end Go.Proofs.YtnomppdmhgefiaaGreat
