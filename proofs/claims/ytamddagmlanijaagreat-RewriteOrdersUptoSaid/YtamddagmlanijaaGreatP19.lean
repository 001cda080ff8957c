/- Packed: Shp, Rx. -/
import Derived.WalkKit
import Derived.ProofKit
import Derived.OpenShut
import Derived.Handy
import Derived.Lib.Hide
import Derived.Test.YtamddagmlanijaaGreatP11
import Derived.RangeFuncNested
import Derived.RangeFuncBound
import Derived.RangeFuncCalls
import Derived.RangeFuncLeaves
import Derived.OwnWalkIn
import Derived.TacticsInMore
/- hasShape: would t be an instance of the pattern if all variables of the pattern were different? -/
namespace Go.Proofs.YtamddagmlanijaaGreat
open Go.RowKit

mutual
def Tm.shape : Tm → Tm → Bool
  | .mk n v l, u => v || (!u.vr && (decide (n = u.nm) && Tm.shapes l u.ts))
def Tm.shapes : List Tm → List Tm → Bool
  | [], [] => true
  | a :: l, b :: r => Tm.shape a b && Tm.shapes l r
  | _, _ => false
end
theorem Tm.shape_eq (p u : Tm) : p.shape u = (p.vr || (!u.vr && (decide (p.nm = u.nm) && Tm.shapes p.ts u.ts))) := by cases p; rfl
theorem Tm.shapes_length {l r : List Tm} (h : l.length ≠ r.length) : Tm.shapes l r = false := by
  induction l generalizing r with
  | nil => cases r with | nil => exact absurd rfl h | cons b r => rfl
  | cons a l ih =>
    cases r with
    | nil => rfl
    | cons b r => simp only [Tm.shapes]; rw [ih (by simpa using h), Bool.and_false]
theorem Tm.shapes_drop {l r : List Tm} {k : Nat} {a b : Tm} (ha : l[k]? = some a) (hb : r[k]? = some b) : Tm.shapes (l.drop k) (r.drop k) = (a.shape b && Tm.shapes (l.drop (k + 1)) (r.drop (k + 1))) := by
  rw [drop_at ha, drop_at hb]; rfl

set_option maxRecDepth 100000 in
set_option maxHeartbeats 2000000 in
theorem equalShape_any (k : Nat) (hcf : ∀ args w, (callFunc k args).run Tryz.prog w = .ok (.enter k args) w) (L R : List Tm)
    (HC : Hid (∀ t ∈ L, ∀ u ∈ R, ∀ (su sv : Value) (W : World), SlIs W.heap.size W t.ts su → SlIs W.heap.size W u.ts sv → Calls Tryz.prog k #[tmv t su, tmv u sv] W fun e W' => e = .returned (.bool (t.shape u)) ∧ Below W.heap.size W W'))
    (o1 o2 : Option Addr) (k1 k2 : Nat) (w : World) (hl : L.length ≤ 1048576) (h1 : SlIs w.heap.size w L (.slice o1 L.length k1)) (h2 : SlIs w.heap.size w R (.slice o2 R.length k2)) :
    Calls Tryz.prog 225 #[.slice o1 L.length k1, .slice o2 R.length k2, .func (.func k) #[] #[]] w fun e w' => e = .returned (.bool (Tm.shapes L R)) ∧ Below w.heap.size w w' := by
  by_cases hlen : L.length = R.length
  case neg =>
    have hb : ((L.length : Int) != (R.length : Int)) = true := by rw [bne_iff_ne]; omega
    have HS := Lib.hid (Tm.shapes_length hlen)
    clear hlen
    go_enter Tryz.func225, Tryz.ntmps225
    go_wp2_with fail
    go_ret
    rw [HS.out]
    exact ⟨rfl, Below.refl _ _⟩
  have hb : ((L.length : Int) != (R.length : Int)) = false := by rw [bne_eq_false_iff_eq]; omega
  have H1 := Lib.hid h1
  have H2 := Lib.hid h2
  have HL := Lib.hid hlen
  clear h1 h2 hlen
  go_enter Tryz.func225, Tryz.ntmps225
  go_wp2_with fail
  go_loopw [17] (fun i wr => ∃ (j : Nat), j ≤ L.length ∧ i = .int .i64 j ∧ Hid (Tm.shapes L R = Tm.shapes (L.drop j) (R.drop j)) ∧ Hid (Below w.heap.size w wr)) (fun i _ => L.length - (intOf i).toNat)
  case atStart => exact ⟨0, by omega, rfl, Lib.hid (by simp), Lib.hid (Below.refl _ _)⟩
  case round =>
    obtain ⟨j, hj, rfl, HE, HW⟩ := hrel
    have hz := HW.out.size
    by_cases hlt : j < L.length
    · have hlt2 : j < R.length := by have := HL.out; omega
      obtain ⟨b1, p1, u, su, rfl, hbb1, hu, hum, hus, c1, c2, c3⟩ := (H1.out.carry HW.out hz).get hlt
      obtain ⟨b2, p2, v, sv, rfl, hbb2, hv, hvm, hvs, d1, d2, d3⟩ := (H2.out.carry HW.out hz).get hlt2
      obtain ⟨ou, cu, rfl, -⟩ := hus.form
      obtain ⟨ov, cv, rfl, -⟩ := hvs.form
      have e1 := (cell_old wr (.cells #[.string u.nm, .bool u.vr, .slice ou u.ts.length cu] 25) b2 _ (by omega)).trans d1
      have e2 := (cell_old wr (.cells #[.string u.nm, .bool u.vr, .slice ou u.ts.length cu] 25) b2 _ (by omega)).trans d2
      have e3 := (cell_old wr (.cells #[.string u.nm, .bool u.vr, .slice ou u.ts.length cu] 25) b2 _ (by omega)).trans d3
      have HSD := Lib.hid (HE.out.trans (Tm.shapes_drop hu hv))
      have HCU := fun W (hW : Below wr.heap.size wr W) => Lib.hid (HC.out u hum v hvm (.slice ou u.ts.length cu) (.slice ov v.ts.length cv) W (hus.carry hW hW.size) (hvs.carry hW hW.size))
      clear hu hv hus hvs HE
      go_wp2_with fail
      refine (HCU _ (by go_grown)).out.mono ?_
      rintro e w2 ⟨rfl, hk2⟩
      have HK2 : Hid (Below w.heap.size w w2) := Lib.hid (HW.out.trans (Below.trans (show Below w.heap.size wr _ from by go_grown) (hk2.mono (by simp; omega))))
      clear hk2
      cases hsh : u.shape v
      · have HF := Lib.hid (HSD.out.trans (by rw [hsh, Bool.false_and]))
        clear hsh
        go_wp2_with fail
        go_ret
        rw [HF.out]
        exact ⟨rfl, HK2.out⟩
      · have HT := Lib.hid (HSD.out.trans (by rw [hsh, Bool.true_and]))
        clear hsh
        go_wp2_with fail
        exact ⟨⟨j + 1, by omega, by go_num, HT, HK2⟩, by simp [intOf]; omega⟩
    · obtain rfl : j = L.length := by omega
      have HT : Hid (Tm.shapes L R = true) := Lib.hid (by rw [HE.out, List.drop_length, HL.out, List.drop_length]; rfl)
      clear HE
      go_wp2_with fail
      go_ret
      rw [HT.out]
      exact ⟨rfl, HW.out⟩

set_option maxRecDepth 100000 in
set_option maxHeartbeats 2000000 in
theorem hasShape_any (p : Tm) : ∀ (t : Tm) (sp st : Value) (w : World), SlIs w.heap.size w p.ts sp → SlIs w.heap.size w t.ts st → p.bulk ≤ 1048576 → t.bulk ≤ 1048576 →
    Calls Tryz.prog 275 #[tmv p sp, tmv t st] w fun e w' => e = .returned (.bool (p.shape t)) ∧ Below w.heap.size w w' := by
  induction p using Tm.ind with
  | h p ih =>
    intro t sp st w hsp hss hpb htb
    obtain ⟨op, cp, rfl, -⟩ := hsp.form
    obtain ⟨ot, ct, rfl, -⟩ := hss.form
    have hlp : p.ts.length ≤ 1048576 := by have := Tm.length_sizes p.ts; have := Tm.size_bulk p; have := Tm.size_eq p; omega
    have hkids : ∀ u ∈ p.ts, u.bulk ≤ 1048576 := fun u hu => by have := Tm.bulk_mem hu; have := Tm.bulk_eq p; omega
    have hkidt : ∀ u ∈ t.ts, u.bulk ≤ 1048576 := fun u hu => by have := Tm.bulk_mem hu; have := Tm.bulk_eq t; omega
    have HSP := Lib.hid hsp
    have HSS := Lib.hid hss
    have HS := Lib.hid (Tm.shape_eq p t)
    have HC : Hid (∀ a ∈ p.ts, ∀ u ∈ t.ts, ∀ (su sv : Value) (W : World), SlIs W.heap.size W a.ts su → SlIs W.heap.size W u.ts sv → Calls Tryz.prog 275 #[tmv a su, tmv u sv] W fun e W' => e = .returned (.bool (a.shape u)) ∧ Below W.heap.size W W') :=
      Lib.hid fun a ha u hu su sv W h1 h2 => ih a ha u su sv W h1 h2 (hkids a ha) (hkidt u hu)
    have HEF := fun W (hW : Below w.heap.size w W) => Lib.hid (equalShape_any 275 Tryz.call275 p.ts t.ts HC op ot cp ct W hlp (HSP.out.carry hW hW.size) (HSS.out.carry hW hW.size))
    clear ih hkids hkidt hsp hss
    go_enter Tryz.func275, Tryz.ntmps275
    rw [show tmv p (.slice op p.ts.length cp) = .agg #[.string p.nm, .bool p.vr, .slice op p.ts.length cp] from rfl, show tmv t (.slice ot t.ts.length ct) = .agg #[.string t.nm, .bool t.vr, .slice ot t.ts.length ct] from rfl]
    cases hv : p.vr
    · rw [hv, Bool.false_or] at HS
      cases hvt : t.vr
      · rw [hvt, Bool.not_false, Bool.true_and] at HS
        by_cases hnm : p.nm = t.nm
        · have hbb := name_beq hnm
          rw [decide_eq_true hnm, Bool.true_and] at HS
          clear hnm hv hvt
          go_wp2_with fail
          refine (HEF _ (by go_grown)).out.mono ?_
          rintro e w3 ⟨rfl, hb3⟩
          have HB3 : Hid (Below w.heap.size w w3) := Lib.hid ((show Below w.heap.size w _ from by go_grown).trans (hb3.mono (by simp; omega)))
          clear hb3
          go_wp2_with fail
          go_ret
          rw [HS.out]
          exact ⟨rfl, HB3.out⟩
        · have hbb := name_bne hnm
          rw [decide_eq_false hnm, Bool.false_and] at HS
          clear hnm hv hvt
          go_wp2_with fail
          go_ret
          rw [HS.out]
          exact ⟨rfl, by go_grown⟩
      · rw [hvt, Bool.not_true, Bool.false_and] at HS
        clear hv hvt
        go_wp2_with fail
        go_ret
        rw [HS.out]
        exact ⟨rfl, by go_grown⟩
    · rw [hv, Bool.true_or] at HS
      clear hv
      go_wp2_with fail
      go_ret
      rw [HS.out]
      exact ⟨rfl, by go_grown⟩
end Go.Proofs.YtamddagmlanijaaGreat
/- Iterators that write memory of their own between two rounds: a contract that names the blocks which are theirs, and the law for a range over such an iterator, alone and within a round. -/
namespace Go.Proofs.YtamddagmlanijaaGreat
open Go.RowKit

/-- a set of blocks -/
abbrev Bs := Nat → Prop

/-- what an iterator does between two rounds: outside X, and below n₀, all lies as it lay; X' lies in X and the new blocks -/
structure Fx (n₀ : Nat) (X X' : Bs) (A B : World) : Prop where
  os : B.os = A.os
  tape : B.tape = A.tape
  output : B.output = A.output
  size : A.heap.size ≤ B.heap.size
  block : ∀ k, k < A.heap.size → k < n₀ ∨ ¬ X k → B.heap[k]? = A.heap[k]?
  own : ∀ k, X' k → X k ∨ (A.heap.size ≤ k ∧ k < B.heap.size)
/-- what a round keeps -/
structure Kx (n₀ : Nat) (X : Bs) (A B : World) : Prop where
  below : Below n₀ A B
  kept : ∀ k, X k → B.heap[k]? = A.heap[k]?
/-- X lies between n₀ and the heap's end -/
def XB (n₀ : Nat) (X : Bs) (W : World) : Prop := ∀ k, X k → n₀ ≤ k ∧ k < W.heap.size

theorem Fx.refl (n₀ : Nat) (X : Bs) (A : World) : Fx n₀ X X A A := ⟨rfl, rfl, rfl, Nat.le_refl _, fun _ _ _ => rfl, fun _ h => .inl h⟩
theorem Fx.trans {n₀ : Nat} {X Y Z : Bs} {A B C : World} (h : Fx n₀ X Y A B) (k : Fx n₀ Y Z B C) : Fx n₀ X Z A C := by
  have h1 := h.size
  have h2 := k.size
  refine ⟨k.os.trans h.os, k.tape.trans h.tape, k.output.trans h.output, Nat.le_trans h.size k.size, fun i hi hx => ?_, fun i hz => ?_⟩
  · refine (k.block i (by omega) ?_).trans (h.block i hi hx)
    rcases hx with hx | hx
    · exact .inl hx
    · refine .inr fun hy => ?_
      rcases h.own i hy with h3 | h3
      · exact hx h3
      · omega
  · rcases k.own i hz with h3 | h3
    · rcases h.own i h3 with h4 | h4
      · exact .inl h4
      · exact .inr (by omega)
    · exact .inr (by omega)
/-- X' may shrink -/
theorem Fx.less {n₀ : Nat} {X Y Z : Bs} {A B : World} (h : Fx n₀ X Y A B) (hz : ∀ k, Z k → Y k) : Fx n₀ X Z A B := ⟨h.os, h.tape, h.output, h.size, h.block, fun k hk => h.own k (hz k hk)⟩
/-- where more is one's own, as much may happen -/
theorem Fx.wider {n₀ : Nat} {X X' Y : Bs} {A B : World} (h : Fx n₀ X X' A B) (hy : ∀ k, X k → Y k) : Fx n₀ Y (fun k => Y k ∨ (A.heap.size ≤ k ∧ k < B.heap.size)) A B :=
  ⟨h.os, h.tape, h.output, h.size, fun k hk hx => h.block k hk (hx.imp id fun h1 h2 => h1 (hy k h2)), fun _ hk => hk⟩
theorem Fx.of_below {n₀ : Nat} {A B : World} (X : Bs) (h : Below A.heap.size A B) : Fx n₀ X X A B := ⟨h.os, h.tape, h.output, h.size, fun k hk _ => h.block k hk, fun _ hk => .inl hk⟩
/-- a step that turns one block of X at most; the new blocks are X's -/
theorem Fx.grown {n₀ : Nat} {X : Bs} {A B : World} {row : Option Nat} (h : A.grownBy B row) (hr : ∀ r, row = some r → n₀ ≤ r ∧ X r) : Fx n₀ X (fun k => X k ∨ (A.heap.size ≤ k ∧ k < B.heap.size)) A B :=
  ⟨h.os, h.tape, h.output, h.size, fun k hk hx => h.block k hk (fun e => by obtain ⟨h1, h2⟩ := hr k e.symm; rcases hx with hx | hx; omega; exact hx h2), fun _ hk => hk⟩
theorem Fx.below {n₀ : Nat} {X X' : Bs} {A B : World} (h : Fx n₀ X X' A B) (hn : n₀ ≤ A.heap.size) : Below n₀ A B := ⟨h.os, h.tape, h.output, h.size, fun k hk => h.block k (by omega) (.inl hk)⟩
theorem Fx.xb {n₀ : Nat} {X X' : Bs} {A B : World} (h : Fx n₀ X X' A B) (hn : n₀ ≤ A.heap.size) (hx : XB n₀ X A) : XB n₀ X' B := fun k hk => by
  have := h.size
  rcases h.own k hk with h1 | h1
  · have := hx k h1; omega
  · omega
theorem Fx.heap {n₀ : Nat} {X X' : Bs} {A B : World} (h : Fx n₀ X X' A B) {k : Nat} {o : Obj} (ho : A.heap[k]? = some o) (hx : ¬ X k) : B.heap[k]? = some o := (h.block k (Array.getElem?_eq_some_iff.1 ho).1 (.inr hx)).trans ho
theorem Fx.cell {n₀ : Nat} {X X' : Bs} {A B : World} (h : Fx n₀ X X' A B) {a : Addr} {v : Value} (hc : A.cell? a = some v) (hx : ¬ X a.block) : B.cell? a = some v := by
  obtain ⟨o, ho, -⟩ := cells_of_cell hc
  exact (World.cell?_of_block (w := A) ((h.heap ho hx).trans ho.symm)).trans hc
theorem Fx.put {n₀ : Nat} {X : Bs} {W : World} {l : Nat} (o : Obj) (hn : n₀ ≤ l) (hl : X l) : Fx n₀ X X W (W.putObj l o) :=
  ⟨rfl, rfl, rfl, by simp, fun k _ hk => World.putObj_heap_other (fun e => by subst e; rcases hk with hk | hk; omega; exact hk hl), fun _ h => .inl h⟩

theorem Kx.refl (n₀ : Nat) (X : Bs) (A : World) : Kx n₀ X A A := ⟨Below.refl _ _, fun _ _ => rfl⟩
theorem Kx.trans {n₀ : Nat} {X : Bs} {A B C : World} (h : Kx n₀ X A B) (k : Kx n₀ X B C) : Kx n₀ X A C := ⟨h.below.trans k.below, fun i hi => (k.kept i hi).trans (h.kept i hi)⟩
theorem Kx.less {n₀ : Nat} {X Y : Bs} {A B : World} (h : Kx n₀ X A B) (hy : ∀ k, Y k → X k) : Kx n₀ Y A B := ⟨h.below, fun k hk => h.kept k (hy k hk)⟩
theorem Kx.of_below {n₀ : Nat} {X : Bs} {A B : World} (h : Below A.heap.size A B) (hn : n₀ ≤ A.heap.size) (hx : XB n₀ X A) : Kx n₀ X A B := ⟨h.mono hn, fun k hk => h.block k (hx k hk).2⟩
theorem Kx.grown {n₀ : Nat} {X : Bs} {A B : World} {row : Option Nat} (h : A.grownBy B row) (hn : n₀ ≤ A.heap.size) (hx : XB n₀ X A) (hr : ∀ r, row = some r → n₀ ≤ r ∧ ¬ X r) : Kx n₀ X A B :=
  ⟨(Below.refl n₀ A).grown h hn (fun r e => (hr r e).1), fun k hk => h.block k (hx k hk).2 (fun e => (hr k e.symm).2 hk)⟩
theorem Kx.heap {n₀ : Nat} {X : Bs} {A B : World} (h : Kx n₀ X A B) {k : Nat} {o : Obj} (ho : A.heap[k]? = some o) (hx : X k) : B.heap[k]? = some o := (h.kept k hx).trans ho
theorem Kx.cell {n₀ : Nat} {X : Bs} {A B : World} (h : Kx n₀ X A B) {a : Addr} {v : Value} (hc : A.cell? a = some v) (hx : X a.block) : B.cell? a = some v := (World.cell?_of_block (w := A) (h.kept _ hx)).trans hc
theorem Kx.xb {n₀ : Nat} {X : Bs} {A B : World} (h : Kx n₀ X A B) (hx : XB n₀ X A) : XB n₀ X B := fun k hk => by have := hx k hk; have := h.below.size; omega

/-- both -/
abbrev un (X R : Bs) : Bs := fun k => X k ∨ R k
/-- R holds what nobody writes any more: it grows by what was the iterator's, or is new -/
structure Rg (X R X' R' : Bs) (A B : World) : Prop where
  grow : ∀ k, R k → R' k
  own : ∀ k, R' k → R k ∨ X k ∨ (A.heap.size ≤ k ∧ k < B.heap.size)
  dis : ∀ k, X' k → ¬ R' k
theorem Rg.same {n₀ : Nat} {X R X' : Bs} {A B : World} (hd : ∀ k, X k → ¬ R k) (hR : XB n₀ R A) (hX : ∀ k, X' k → X k ∨ (A.heap.size ≤ k ∧ k < B.heap.size)) : Rg X R X' R A B :=
  ⟨fun _ h => h, fun _ h => .inl h, fun k hk hr => by
    rcases hX k hk with h | h
    · exact hd k h hr
    · have := (hR k hr).2; omega⟩
theorem Rg.trans {n₀ : Nat} {X R Y S Z T : Bs} {A B C : World} (h : Rg X R Y S A B) (k : Rg Y S Z T B C) (hf : Fx n₀ X Y A B) (hz : B.heap.size ≤ C.heap.size) : Rg X R Z T A C :=
  ⟨fun i hi => k.grow i (h.grow i hi), fun i hi => by
    have h1 := hf.size
    rcases k.own i hi with h2 | h2 | h2
    · rcases h.own i h2 with h3 | h3 | h3
      · exact .inl h3
      · exact .inr (.inl h3)
      · exact .inr (.inr (by omega))
    · rcases hf.own i h2 with h3 | h3
      · exact .inr (.inl h3)
      · exact .inr (.inr (by omega))
    · exact .inr (.inr (by omega)), k.dis⟩
theorem Rg.xb {n₀ : Nat} {X R X' R' : Bs} {A B : World} (h : Rg X R X' R' A B) (hf : Fx n₀ X X' A B) (hn : n₀ ≤ A.heap.size) (hb : XB n₀ (un X R) A) : XB n₀ (un X' R') B := fun k hk => by
  have h1 := hf.size
  rcases hk with hk | hk
  · rcases hf.own k hk with h2 | h2
    · have := hb k (.inl h2); omega
    · omega
  · rcases h.own k hk with h2 | h2 | h2
    · have := hb k (.inr h2); omega
    · have := hb k (.inl h2); omega
    · omega
/-- the consumer's word holds on through an iterator's steps -/
def Cls {β : Type} (n₀ : Nat) (J : Bs → Bs → β → World → Prop) : Prop := ∀ X R X' R' s A B, J X R s A → Fx n₀ X X' A B → Rg X R X' R' A B → J X' R' s B

/-- THE CONTRACT OF AN ITERATOR that yields the elements L, each as El says of the blocks R; X₀ holds its own blocks at the start -/
def SeqX {α : Type} (F : Fence) (P : Program) (g : Nat) (lb : Array Value) (El : α → Array Value → Bs → World → Prop) (L : List α) (n₀ : Nat) (X₀ : Bs) (w : World) : Prop :=
  ∀ (n l : Nat) (J Jx : Bs → Bs → List α → World → Prop) (R₀ : Bs) (W : World), Below n₀ w W → (∀ k, X₀ k → W.heap[k]? = w.heap[k]?) → XB n₀ R₀ W → (∀ k, X₀ k → ¬ R₀ k) → Cls n₀ J → Cls n₀ Jx →
    (∀ X R pre x vs W1, J X R pre W1 → El x vs R W1 → XB n₀ (un X R) W1 → (∀ k, X k → ¬ R k) → n₀ ≤ W1.heap.size → pre ++ [x] <+: L → YieldAt F (n - 1) P l vs W1 fun e W' =>
      (e = .returned (.bool true) ∧ J X R (pre ++ [x]) W' ∧ Kx n₀ (un X R) W1 W') ∨ (e = .returned (.bool false) ∧ Jx X R (pre ++ [x]) W' ∧ Kx n₀ (un X R) W1 W')) →
    J X₀ R₀ [] W →
    CallsIn F n P g (#[.func (.yield l) #[] #[]] ++ lb) W fun e W' => (∃ v, e = .returned v) ∧ ∃ X R, XB n₀ (un X R) W' ∧ (∀ k, X k → ¬ R k) ∧ (J X R L W' ∨ ∃ pre, pre <+: L ∧ Jx X R pre W')

theorem SeqX.later {α : Type} {F : Fence} {P : Program} {g : Nat} {lb : Array Value} {El : α → Array Value → Bs → World → Prop} {L : List α} {n₀ : Nat} {X₀ : Bs} {w w' : World} (h : SeqX F P g lb El L n₀ X₀ w) (hb : Below n₀ w w') (hx : ∀ k, X₀ k → w'.heap[k]? = w.heap[k]?) :
    SeqX F P g lb El L n₀ X₀ w' := fun n l J Jx R₀ W hW hX => h n l J Jx R₀ W (hb.trans hW) (fun k hk => (hX k hk).trans (hx k hk))
theorem SeqX.inRound {α : Type} {F : Fence} {P : Program} {g : Nat} {lb : Array Value} {El : α → Array Value → Bs → World → Prop} {L : List α} {n₀ : Nat} {X₀ : Bs} {w : World} (l : Nat) (h : SeqX F P g lb El L n₀ X₀ w) : SeqX (F.inRound l) P g lb El L n₀ X₀ w := h

/-- how a round's body may be left -/
def rxPost {α : Type} (n₀ : Nat) (X R : Bs) (W2 : World) (I : Bs → Bs → List α → World → Prop) (Ix : Code → Bs → Bs → List α → World → Prop) (xs : List α) : Exit → Act → World → Prop
  | .normal, _, W3 => Kx n₀ (un X R) W2 W3 ∧ I X R xs W3
  | .ret, _, W3 => Kx n₀ (un X R) W2 W3 ∧ Ix .ret X R xs W3
  | .exit id, _, W3 => Kx n₀ (un X R) W2 W3 ∧ Ix (.exit id) X R xs W3
  | .goto t, _, W3 => Kx n₀ (un X R) W2 W3 ∧ Ix (.goto t) X R xs W3
  | .panic _, _, _ => False
  | .outgrown, _, _ => False

variable {F : Fence} {n : Nat} {P : Program}

/-- what one round owes, the assignment to the loop's variables and the body -/
def RoundX {α : Type} (F : Fence) (n : Nat) (P : Program) (ps : Array Tmp) (tmps : Array Value) (assign body : Code) (El : α → Array Value → Bs → World → Prop) (L : List α) (n₀ m₀ : Nat) (I : Bs → Bs → List α → World → Prop) (Ix : Code → Bs → Bs → List α → World → Prop) : Prop :=
  ∀ (l : Nat) (X R : Bs) (pre : List α) (x : α) (vs : Array Value) (W : World) (r₀ : Loop), I X R pre W → El x vs R W → XB n₀ (un X R) W → (∀ k, X k → ¬ R k) → X l → m₀ ≤ l → W.heap[l]? = some (.loop r₀) → m₀ ≤ W.heap.size → pre ++ [x] <+: L →
    assign.wpIn (F.inRound l) n P (Exit.then (fun a' W' => Kx n₀ (un X R) W W' ∧ ∀ r : Loop, body.wpIn (F.inRound l) n P (rxPost n₀ X R (W'.putObj l (.loop r)) I Ix (pre ++ [x])) a' (W'.putObj l (.loop r))) (fun _ _ _ => False))
      { tmps := (ps.zip vs).foldl (fun t (p, v) => t.setIfInBounds p v) tmps, defers := [] } W

/-- a turn of a block of one's own -/
theorem Cls.put {β : Type} {n₀ : Nat} {J : Bs → Bs → β → World → Prop} (h : Cls n₀ J) {X R : Bs} {s : β} {W : World} {l : Nat} (hj : J X R s W) (hd : ∀ k, X k → ¬ R k) (hb : XB n₀ (un X R) W) (hl : X l) (o : Obj) : J X R s (W.putObj l o) :=
  h _ _ _ _ _ _ _ hj (Fx.put o (hb l (.inl hl)).1 hl) (Rg.same hd (fun k hk => hb k (.inr hk)) fun _ hk => .inl hk)

/-- one round, out of what it owes -/
theorem round_of {α : Type} {l D : Nat} {fn : FuncId} {ps : Array Tmp} {tmps : Array Value} {assign body : Code} {El : α → Array Value → Bs → World → Prop} {L : List α} {n₀ m₀ : Nat} {I : Bs → Bs → List α → World → Prop} {Ix : Code → Bs → Bs → List α → World → Prop}
    {rec : LoopState → Option Code → Loop} {db : Nat} (hrec : rec = fun st pe => { state := st, pending := pe, fn, tmps := tmps, params := ps, assign, body, defers := db }) (hfn : F.fn fn) (hI : Cls n₀ I) (hIx : ∀ c, Cls n₀ (Ix c))
    (hround : RoundX F n P ps tmps assign body El L n₀ m₀ I Ix) {Y R : Bs} {pre : List α} {x : α} {vs : Array Value} {W : World} (hi : I Y R pre W) (hel : El x vs R W) (hxb : XB n₀ (un Y R) W) (hdis : ∀ k, Y k → ¬ R k) (hYl : Y l) (hml : m₀ ≤ l) (hl : W.heap[l]? = some (.loop (rec .ready none))) (hms : m₀ ≤ W.heap.size) (hp : pre ++ [x] <+: L)
    (hvs : vs.size = ps.size) (hYD : Y D) (dv : Option Obj) (hdv : W.heap[D]? = dv) :
    YieldAt F n P l vs W fun e W' => (e = .returned (.bool true) ∧ I Y R (pre ++ [x]) W' ∧ Kx n₀ (fun k => un Y R k ∧ k ≠ l) W W' ∧ W'.heap[l]? = some (.loop (rec .ready none)) ∧ (D ≠ l → W'.heap[D]? = dv)) ∨
      (e = .returned (.bool false) ∧ ∃ c, Ix c Y R (pre ++ [x]) W' ∧ Kx n₀ (fun k => un Y R k ∧ k ≠ l) W W' ∧ W'.heap[l]? = some (.loop (rec .done (some c))) ∧ (D ≠ l → W'.heap[D]? = dv)) := by
  have hnl := (hxb l (.inl hYl)).1
  have hy := run_yield (P := P) (args := vs) hl (by rw [hrec]; exact hvs)
  rw [hrec] at hy
  refine ⟨fn, _, assign, body, hy, roundIn_of_wpIn hfn (wpIn_mono (hround l Y R pre x vs W _ hi hel hxb hdis hYl hml hl hms hp) ?_)⟩
  rintro e a' W' hE
  cases e <;> try exact hE.elim
  obtain ⟨hka, hbody⟩ := hE
  have hl1 := hka.heap hl (.inl hYl)
  have hlt : l < W'.heap.size := (Array.getElem?_eq_some_iff.1 hl1).1
  refine ⟨_, run_beginRound hl1 (by rw [hrec]), ?_⟩
  refine wpIn_mono (hbody _) ?_
  have hl2 : (W'.putObj l (.loop { rec .ready none with state := .busy })).heap[l]? = some (.loop { rec .ready none with state := .busy }) := World.putObj_heap_same hlt
  have hxb1 : XB n₀ (un Y R) (W'.putObj l (.loop { rec .ready none with state := .busy })) := fun k hk => by have := hka.xb hxb k hk; simp; omega
  have fin : ∀ (jump : Option Code) (W3 : World), Kx n₀ (un Y R) (W'.putObj l (.loop { rec .ready none with state := .busy })) W3 →
      (Instr.endRound l jump).run P W3 = .ok (.bool jump.isNone) (W3.putObj l (.loop (rec (if jump.isNone then .ready else .done) jump))) ∧ XB n₀ (un Y R) W3 ∧
      (W3.putObj l (.loop (rec (if jump.isNone then .ready else .done) jump))).heap[l]? = some (.loop (rec (if jump.isNone then .ready else .done) jump)) ∧
      (D ≠ l → (W3.putObj l (.loop (rec (if jump.isNone then .ready else .done) jump))).heap[D]? = dv) ∧
      Kx n₀ (fun k => un Y R k ∧ k ≠ l) W (W3.putObj l (.loop (rec (if jump.isNone then .ready else .done) jump))) := fun jump W3 hk3 => by
    have hl3 := hk3.heap hl2 (.inl hYl)
    have h1 := run_endRound (P := P) jump hl3
    have hz : W'.heap.size ≤ W3.heap.size := by have := hk3.below.size; simpa using this
    have hz1 := hka.below.size
    rw [hrec] at h1 ⊢
    refine ⟨h1, hk3.xb hxb1, World.putObj_heap_same (by omega), fun hne => ?_, ⟨?_, fun k hk => ?_⟩⟩
    · rw [World.putObj_heap_other hne, hk3.kept D (.inl hYD), World.putObj_heap_other hne, hka.kept D (.inl hYD), hdv]
    · have hb1 : Below n₀ W' (W'.putObj l (.loop { rec .ready none with state := .busy })) := (Fx.put (X := Y) _ hnl hYl).below (by omega)
      have hb2 : ∀ o, Below n₀ W3 (W3.putObj l o) := fun o => (Fx.put (X := Y) _ hnl hYl).below (by omega)
      exact ((hka.below.trans hb1).trans hk3.below).trans (hb2 _)
    · rw [World.putObj_heap_other hk.2, hk3.kept k hk.1, World.putObj_heap_other hk.2, hka.kept k hk.1]
  rintro e a3 W3 hp3
  cases e with
  | normal =>
    obtain ⟨hk3, hi3⟩ := hp3
    obtain ⟨hr, hb3, hl4, hd4, hk4⟩ := fin none W3 hk3
    exact ⟨_, _, hr, .inl ⟨rfl, hI.put hi3 hdis hb3 hYl _, hk4, hl4, hd4⟩⟩
  | ret =>
    obtain ⟨hk3, hi3⟩ := hp3
    obtain ⟨hr, hb3, hl4, hd4, hk4⟩ := fin (some .ret) W3 hk3
    exact ⟨_, _, hr, .inr ⟨rfl, .ret, (hIx _).put hi3 hdis hb3 hYl _, hk4, hl4, hd4⟩⟩
  | exit id =>
    obtain ⟨hk3, hi3⟩ := hp3
    obtain ⟨hr, hb3, hl4, hd4, hk4⟩ := fin (some (.exit id)) W3 hk3
    exact ⟨_, _, hr, .inr ⟨rfl, .exit id, (hIx _).put hi3 hdis hb3 hYl _, hk4, hl4, hd4⟩⟩
  | goto t =>
    obtain ⟨hk3, hi3⟩ := hp3
    obtain ⟨hr, hb3, hl4, hd4, hk4⟩ := fin (some (.goto t)) W3 hk3
    exact ⟨_, _, hr, .inr ⟨rfl, .goto t, (hIx _).put hi3 hdis hb3 hYl _, hk4, hl4, hd4⟩⟩
  | panic ch => exact hp3.elim
  | outgrown => exact hp3.elim

/-- A RANGE OVER AN ITERATOR -/
theorem wpIn_rangeX {α : Type} {g : Operand} {ps : Array Tmp} {assign body : Code} {Q : Exit → Act → World → Prop} {a : Act} {w : World}
    (hro : F.round = none) (h1 : 1 ≤ n) {gf : Nat} {lb : Array Value} (hg : a.eval g = .func (.func gf) #[] lb) (hFg : F.fn gf) (eg : ∀ args w, (callFunc gf args).run P w = .ok (.enter gf args) w)
    {El : α → Array Value → Bs → World → Prop} {L : List α} {n₀ : Nat} {X₀ : Bs} (hseq : SeqX F P gf lb El L n₀ X₀ w) (R₀ : Bs) (hn₀ : n₀ ≤ w.heap.size) (hx₀ : XB n₀ (un X₀ R₀) w) (hd₀ : ∀ k, X₀ k → ¬ R₀ k) (hps : ∀ x vs R W, El x vs R W → vs.size = ps.size)
    (I : Bs → Bs → List α → World → Prop) (Ix : Code → Bs → Bs → List α → World → Prop) (hI : Cls n₀ I) (hIx : ∀ c, Cls n₀ (Ix c)) (h0 : I X₀ R₀ [] w)
    (hround : RoundX F (n - 1 - 1) P ps a.tmps assign body El L n₀ w.heap.size I Ix)
    (hdone : ∀ (D : Nat) (X R : Bs) (W : World), w.heap.size ≤ D → X D → I X R L W → XB n₀ (un X R) W → (∀ k, X k → ¬ R k) → W.heap[D]? = some (.deferred (some [])) → Q .normal { a with defers := { target := .collected D, args := #[] } :: a.defers } W)
    (hstop : ∀ (D : Nat) (c : Code) (X R : Bs) (pre : List α) (W : World), w.heap.size ≤ D → X D → pre <+: L → Ix c X R pre W → XB n₀ (un X R) W → (∀ k, X k → ¬ R k) → W.heap[D]? = some (.deferred (some [])) → c.wpIn F n P Q { a with defers := { target := .collected D, args := #[] } :: a.defers } W) :
    (Code.rangeFunc g ps assign body).wpIn F n P Q a w := by
  refine wpIn_rangeFunc ?_
  intro fn hfn
  rw [hro]
  obtain ⟨rec, hrec⟩ : ∃ rec : LoopState → Option Code → Loop, rec = fun st pe => { state := st, pending := pe, fn, tmps := a.tmps, params := ps, assign, body, defers := w.heap.size } := ⟨_, rfl⟩
  obtain ⟨W1, hW1⟩ : ∃ W1, (w.alloc (.deferred (some []))).alloc (.loop (rec .ready none)) = W1 := ⟨_, rfl⟩
  have hz1 : W1.heap.size = w.heap.size + 1 + 1 := by rw [← hW1]; simp
  have hL1 : W1.heap[w.heap.size + 1]? = some (.loop (rec .ready none)) := by
    rw [← hW1]; have := World.alloc_heap_new (w.alloc (.deferred (some []))) (.loop (rec .ready none)); rwa [World.size_alloc] at this
  have hK1 : W1.heap[w.heap.size]? = some (.deferred (some [])) := by
    rw [← hW1]; exact (Below.heap_alloc _ _ _ (by simp)).trans (World.alloc_heap_new w _)
  have hb1 : Below w.heap.size w W1 := by
    rw [← hW1]; exact ((Below.refl _ w).alloc (Nat.le_refl _) _).alloc (by simp) _
  obtain ⟨Z, hZ⟩ : ∃ Z : Bs → Bs, Z = fun X k => X k ∨ k = w.heap.size + 1 ∨ k = w.heap.size := ⟨_, rfl⟩
  have hf1 : Fx n₀ X₀ (Z X₀) w W1 := by
    refine ⟨hb1.os, hb1.tape, hb1.output, hb1.size, fun k hk _ => hb1.block k hk, fun k hk => ?_⟩
    rw [hZ] at hk
    rcases hk with hk | rfl | rfl
    · exact .inl hk
    · exact .inr (by omega)
    · exact .inr (by omega)
  -- the two blocks of the loop belong neither to X nor to R
  have hout : ∀ {X R X' R' : Bs} {A B : World}, Fx n₀ X X' A B → Rg X R X' R' A B → w.heap.size + 1 + 1 ≤ A.heap.size → ¬ un X R (w.heap.size + 1) → ¬ un X R w.heap.size → Fx n₀ (Z X) (Z X') A B ∧ Rg (Z X) R (Z X') R' A B ∧ ¬ un X' R' (w.heap.size + 1) ∧ ¬ un X' R' w.heap.size := by
    intro X R X' R' A B h hg hz h2 h3
    have ho : ∀ k, k < A.heap.size → ¬ un X R k → ¬ un X' R' k := fun k hk hn hk' => by
      rcases hk' with hk' | hk'
      · rcases h.own k hk' with h4 | h4
        · exact hn (.inl h4)
        · omega
      · rcases hg.own k hk' with h4 | h4 | h4
        · exact hn (.inr h4)
        · exact hn (.inl h4)
        · omega
    have o1 := ho _ (by omega) h2
    have o2 := ho _ (by omega) h3
    refine ⟨⟨h.os, h.tape, h.output, h.size, fun k hk hx => h.block k hk (hx.imp id fun h4 h5 => h4 (by rw [hZ]; exact .inl h5)), fun k hk => ?_⟩, ⟨hg.grow, fun k hk => (hg.own k hk).imp id (.imp (fun h4 => by rw [hZ]; exact .inl h4) id), fun k hk hr => ?_⟩, o1, o2⟩
    · rw [hZ] at hk ⊢
      rcases hk with hk | hk
      · exact (h.own k hk).imp .inl id
      · exact .inl (.inr hk)
    · rw [hZ] at hk
      rcases hk with hk | rfl | rfl
      · exact hg.dis k hk hr
      · exact o1 (.inr hr)
      · exact o2 (.inr hr)
  have hzb : ∀ {X R : Bs} {W : World}, XB n₀ (un X R) W → w.heap.size + 1 + 1 ≤ W.heap.size → XB n₀ (un (Z X) R) W := by
    intro X R W h hz k hk
    rcases hk with hk | hk
    · rw [hZ] at hk
      rcases hk with hk | rfl | rfl
      · exact h k (.inl hk)
      · omega
      · omega
    · exact h k (.inr hk)
  have hzd : ∀ {X R : Bs}, (∀ k, X k → ¬ R k) → ¬ un X R (w.heap.size + 1) → ¬ un X R w.heap.size → ∀ k, Z X k → ¬ R k := by
    intro X R hd h2 h3 k hk hr
    rw [hZ] at hk
    rcases hk with hk | rfl | rfl
    · exact hd k hk hr
    · exact h2 (.inr hr)
    · exact h3 (.inr hr)
  refine ⟨w.heap.size + 1, [{ target := .collected w.heap.size, args := #[] }], W1, { target := .fn (.func gf) lb, args := #[.func (.yield (w.heap.size + 1)) #[] #[]] }, W1, gf,
    #[.func (.yield (w.heap.size + 1)) #[] #[]] ++ lb, W1, ?_, ?_, ?_, ?_, fun _ => h1, ?_⟩
  · rw [← hW1, hrec]; exact run_enterLoop_outer _ _ _ _ _
  · simp only [resolve, hg]
    simp [go_sem]
  · intro f' hf'; simp [Target.leads] at hf'; subst hf'; exact hFg
  · simp [invoke, go_sem, eg]
  · have hlZ : ∀ X, Z X (w.heap.size + 1) := fun X => by rw [hZ]; exact .inr (.inl rfl)
    have hDZ : ∀ X, Z X w.heap.size := fun X => by rw [hZ]; exact .inr (.inr rfl)
    have hn1 : ¬ un X₀ R₀ (w.heap.size + 1) := fun h => by have := hx₀ _ h; omega
    have hn2 : ¬ un X₀ R₀ w.heap.size := fun h => by have := hx₀ _ h; omega
    refine (hseq (n - 1) (w.heap.size + 1)
      (fun X R pre W => I (Z X) R pre W ∧ ¬ un X R (w.heap.size + 1) ∧ ¬ un X R w.heap.size ∧ w.heap.size + 1 + 1 ≤ W.heap.size ∧ W.heap[w.heap.size + 1]? = some (.loop (rec .ready none)) ∧ W.heap[w.heap.size]? = some (.deferred (some [])))
      (fun X R pre W => ∃ c, Ix c (Z X) R pre W ∧ ¬ un X R (w.heap.size + 1) ∧ ¬ un X R w.heap.size ∧ w.heap.size + 1 + 1 ≤ W.heap.size ∧ W.heap[w.heap.size + 1]? = some (.loop (rec .done (some c))) ∧ W.heap[w.heap.size]? = some (.deferred (some [])))
      R₀ W1 (hb1.mono hn₀) (fun k hk => hb1.block k (hx₀ k (.inl hk)).2) (fun k hk => by have := hx₀ k (.inr hk); omega) hd₀
      (fun X R X' R' s A B ⟨k1, k2, k3, k4, k5, k6⟩ h hg' => by
        obtain ⟨f1, f2, f3, f4⟩ := hout h hg' k4 k2 k3
        exact ⟨hI _ _ _ _ _ _ _ k1 f1 f2, f3, f4, Nat.le_trans k4 h.size, h.heap k5 fun e => k2 (.inl e), h.heap k6 fun e => k3 (.inl e)⟩)
      (fun X R X' R' s A B ⟨c, k1, k2, k3, k4, k5, k6⟩ h hg' => by
        obtain ⟨f1, f2, f3, f4⟩ := hout h hg' k4 k2 k3
        exact ⟨c, hIx c _ _ _ _ _ _ _ k1 f1 f2, f3, f4, Nat.le_trans k4 h.size, h.heap k5 fun e => k2 (.inl e), h.heap k6 fun e => k3 (.inl e)⟩)
      ?_ ⟨hI _ _ _ _ _ _ _ h0 hf1 (Rg.same hd₀ (fun k hk => hx₀ k (.inr hk)) hf1.own), hn1, hn2, by omega, hL1, hK1⟩).mono ?_
    · rintro X R pre x vs W ⟨k1, k2, k3, k4, k5, k6⟩ hel hxb hdis hnW hp
      obtain ⟨fn', tmps', as', bd', hy, hR⟩ := round_of (Y := Z X) (D := w.heap.size) hrec hfn hI hIx hround k1 hel (hzb hxb k4) (hzd hdis k2 k3) (hlZ X) (by omega) k5 (by omega) hp (hps _ _ _ _ hel) (hDZ X) _ k6
      refine ⟨fn', tmps', as', bd', hy, hR.mono ?_⟩
      have hle : ∀ k, un X R k → un (Z X) R k ∧ k ≠ w.heap.size + 1 := fun k hk => ⟨hk.imp (fun h => by rw [hZ]; exact .inl h) id, fun e => by subst e; exact k2 hk⟩
      rintro e W' (⟨rfl, j1, j2, j3, j4⟩ | ⟨rfl, c, j1, j2, j3, j4⟩)
      · exact .inl ⟨rfl, ⟨j1, k2, k3, by have := j2.below.size; omega, j3, j4 (by omega)⟩, j2.less hle⟩
      · exact .inr ⟨rfl, ⟨c, j1, k2, k3, by have := j2.below.size; omega, j3, j4 (by omega)⟩, j2.less hle⟩
    · rintro e W2 ⟨⟨v, rfl⟩, X, R, hxb, hdis, (⟨k1, k2, k3, k4, k5, k6⟩ | ⟨pre, hp, c, k1, k2, k3, k4, k5, k6⟩)⟩
      · have hb2 := hzb hxb k4
        have hd2 := hzd hdis k2 k3
        refine ⟨none, _, by have := run_endLoop (P := P) k5 (by rw [hrec]; simp); rw [hrec] at this; exact this, hdone _ (Z X) R _ (Nat.le_refl _) (hDZ X) (hI.put k1 hd2 hb2 (hlZ X) _) ?_ hd2 ((World.putObj_heap_other (by omega)).trans k6)⟩
        exact fun k hk => by have := hb2 k hk; simp; exact this
      · have hb2 := hzb hxb k4
        have hd2 := hzd hdis k2 k3
        refine ⟨some c, _, by have := run_endLoop (P := P) k5 (by rw [hrec]; simp); rw [hrec] at this; exact this, hstop _ c (Z X) R pre _ (Nat.le_refl _) (hDZ X) hp ((hIx c).put k1 hd2 hb2 (hlZ X) _) ?_ hd2 ((World.putObj_heap_other (by omega)).trans k6)⟩
        exact fun k hk => by have := hb2 k hk; simp; exact this
end Go.Proofs.YtamddagmlanijaaGreat
