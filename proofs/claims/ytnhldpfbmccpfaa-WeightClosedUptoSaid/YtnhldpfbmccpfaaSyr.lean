/- Symbols being appended: rows of them in memory. -/
import Derived.WalkKit
import Derived.ProofKit
import Derived.OpenShut
import Derived.Handy
import Derived.Lib.Hide
import Derived.Lib.AppendIntMem
import Derived.Test.YtnhldpfbmccpfaaBind
import Derived.Test.YtnhldpfbmccpfaaRnp
namespace Go.Proofs.Ytnhldpfbmccpfaa
open Go.RowKit Go.Maps

/-- a symbol: name, arity -/
abbrev Sy := Key × Int
def syCells (l : List Sy) : List Value := l.flatMap fun p => [.string (kb p.1), .int .i64 p.2]
theorem syCells_append (a b : List Sy) : syCells (a ++ b) = syCells a ++ syCells b := by simp [syCells]
theorem syCells_at (l : List Sy) (i : Nat) (p : Sy) (h : l[i]? = some p) : (syCells l)[i * 2]? = some (.string (kb p.1)) ∧ (syCells l)[i * 2 + 1]? = some (.int .i64 p.2) := by
  induction l generalizing i with
  | nil => simp at h
  | cons q l ih =>
    cases i with
    | zero => simp at h; subst h; simp [syCells]
    | succ i =>
      obtain ⟨h1, h2⟩ := ih i (by simpa using h)
      have e : ∀ r, (i + 1) * 2 + r = i * 2 + r + 2 := fun r => by omega
      refine ⟨?_, ?_⟩
      · have := e 0; simp only [Nat.add_zero] at this; rw [this]; simpa [syCells] using h1
      · rw [e 1]; simpa [syCells] using h2
theorem grown_step {A B C : World} {r r' : Option Nat} (h : A.grownBy B r) (k : B.grownBy C r') (hr : ∀ i, i < A.heap.size → some i ≠ r → some i ≠ r') : A.grownBy C r :=
  ⟨k.os.trans h.os, k.tape.trans h.tape, k.output.trans h.output, Nat.le_trans h.size k.size, fun i hi hne => (k.block i (Nat.lt_of_lt_of_le hi h.size) (hr i hi hne)).trans (h.block i hi hne)⟩
/-- what lies in the call -/
structure FxSt (base : Nat) (w W : World) (mv : Value) (t : Tm) (sl : Value) (ms : List Sy) (v : Value) : Prop where
  box : W.heap[w.heap.size]? = some (.cells #[.string t.nm, .bool t.vr, sl] 26 (0, 0))
  row : W.ownsRow base 80 2 v ms.length (syCells ms)
  gr : w.grownBy W mv.ownBlock
  own : v.ownBlock = mv.ownBlock ∨ ∃ j, v.ownBlock = some j ∧ w.heap.size + 1 ≤ j
theorem FxSt.below {base : Nat} {w A W : World} {mv : Value} {t : Tm} {sl : Value} {ms : List Sy} {v : Value} (h : FxSt base w A mv t sl ms v) (hb : Below A.heap.size A W) : FxSt base w W mv t sl ms v :=
  ⟨(hb.block _ (Array.getElem?_eq_some_iff.1 h.box).1).trans h.box, h.row.kept (below_grown hb) (own_none _), grown_step h.gr (below_grown hb) (fun _ _ _ => by simp), h.own⟩
theorem FxSt.grow {base : Nat} {w A W : World} {mv : Value} {t : Tm} {sl : Value} {ms ms' : List Sy} {v v' : Value} (h : FxSt base w A mv t sl ms v) (hlt : ∀ j, mv.ownBlock = some j → j < w.heap.size) (hg : A.grownBy W v.ownBlock) (ho : W.ownsRow base 80 2 v' ms'.length (syCells ms')) (hat : v'.ownBlock = v.ownBlock ∨ ∃ j, v'.ownBlock = some j ∧ A.heap.size ≤ j) : FxSt base w W mv t sl ms' v' := by
  have hz := (Array.getElem?_eq_some_iff.1 h.box).1
  refine ⟨(hg.block _ hz fun e => ?_).trans h.box, ho, grown_step h.gr hg fun i hi hne e => ?_, ?_⟩
  · rcases h.own with e2 | ⟨j, e2, hj⟩
    · have := hlt _ (e2.symm.trans e.symm); omega
    · rw [e2] at e; cases e; omega
  · rcases h.own with e2 | ⟨j, e2, hj⟩
    · exact hne (e.trans e2)
    · rw [e2] at e; cases e; omega
  · rcases hat with e | ⟨j, e, hj⟩
    · rw [e]; exact h.own
    · exact .inr ⟨j, e, by omega⟩
theorem FxSt.low {base : Nat} {w W : World} {mv : Value} {t : Tm} {sl : Value} {ms : List Sy} {v : Value} (h : FxSt base w W mv t sl ms v) (hb : base ≤ w.heap.size) (hm : ∀ j, mv.ownBlock = some j → base ≤ j) : Below base w W :=
  ⟨h.gr.os, h.gr.tape, h.gr.output, h.gr.size, fun i hi => h.gr.block i (by omega) fun e => by have := hm _ e.symm; omega⟩
/-- an entry of the row -/
theorem syGet {base : Nat} {W : World} {ms : List Sy} {v : Value} (h : W.ownsRow base 80 2 v ms.length (syCells ms)) {k : Nat} (hk : k < ms.length) :
    ∃ gg cap p, v = .slice (some ⟨gg, 0, none⟩) ms.length cap ∧ ms[k]? = some p ∧ W.cell? ⟨gg, k * 2, none⟩ = some (.string (kb p.1)) ∧ W.cell? ⟨gg, k * 2 + 1, none⟩ = some (.int .i64 p.2) := by
  have h0 := h
  rcases h.2 with ⟨rfl, hl⟩ | ⟨gg, cap, cur, rfl, hbg, hg, hle, _⟩
  · omega
  · have hp : ms[k]? = some ms[k] := List.getElem?_eq_getElem hk
    obtain ⟨h1, h2⟩ := syCells_at ms k _ hp
    have key : ∀ j u, (syCells ms)[j]? = some u → W.cell? ⟨gg, 0 + j, none⟩ = some u := fun j u hj => by
      have := h0.cells (g := gg) rfl j u hj
      rwa [ad_add] at this
    refine ⟨gg, cap, ms[k], rfl, hp, ?_, ?_⟩
    · have := key _ _ h1; rwa [Nat.zero_add] at this
    · have := key _ _ h2; rwa [Nat.zero_add] at this
theorem infoSym : (Try.prog.info? 80).map (fun i => (i.zero, i.size, i.bytes)) = some (some (.agg #[.string ⟨#[]⟩, .int .i64 0]), 2, 24) := by kernel_rfl
theorem cells_new2 (W : World) (a b : Value) (e : TypeId) : ∀ j u, [a, b][j]? = some u → (W.alloc (.cells #[a, b] e)).cell? ((⟨W.heap.size, 0, none⟩ : Addr).add j) = some u := by
  intro j u hj
  rw [ad_add, Nat.zero_add]
  have h := cells_of' (heap_new_at W (.cells #[a, b] e) W.heap.size rfl) j
  rw [h, ← Array.getElem?_toList]
  exact hj
end Go.Proofs.Ytnhldpfbmccpfaa
