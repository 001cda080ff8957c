/- Places in a term: locate, and a store at a place of a term of its own. -/
import Derived.WalkKit
import Derived.ProofKit
import Derived.OpenShut
import Derived.Handy
import Derived.Lib.Hide
import Derived.Test.YtnomppdmhgefiaaVarP
namespace Go.Proofs.Ytnomppdmhgefiaa
open Go.RowKit

/-- the argument number i -/
def Tm.kid (t : Tm) (i : Int) : Option Tm := if 0 ≤ i then t.ts[i.toNat]? else none
def Tm.at : Tm → List Int → Option Tm
  | t, [] => some t
  | t, i :: l => match t.kid i with | some u => u.at l | none => none
def Tm.put : Tm → List Int → Tm → Tm
  | _, [], u => u
  | t, i :: l, u => match t.kid i with | some x => .mk t.nm t.vr (t.ts.set i.toNat (x.put l u)) | none => t
theorem Tm.put_names (t : Tm) (i : Int) (l : List Int) (u : Tm) : (t.put (i :: l) u).nm = t.nm ∧ (t.put (i :: l) u).vr = t.vr := by
  unfold Tm.put; split <;> exact ⟨rfl, rfl⟩

/-- the slice value v holds the integers l -/
structure PosIs (n₀ : Nat) (W : World) (l : List Int) (v : Value) : Prop where
  form : ∃ oa cap, v = .slice oa l.length cap ∧ (l ≠ [] → ∃ b o, oa = some ⟨b, o, none⟩ ∧ b < n₀ ∧ ∀ (i : Nat) x, l[i]? = some x → W.cell? ⟨b, o + i, none⟩ = some (.int .i64 x))
theorem PosIs.carry {n₀ n₁ : Nat} {A B : World} (h : Below n₀ A B) (hn : n₀ ≤ n₁) {l : List Int} {s : Value} (hs : PosIs n₀ A l s) : PosIs n₁ B l s := by
  obtain ⟨oa, cap, rfl, hf⟩ := hs.form
  refine ⟨oa, cap, rfl, fun hne => ?_⟩
  obtain ⟨b, o, rfl, hb, hc⟩ := hf hne
  exact ⟨b, o, rfl, by omega, fun i x hx => (h.cell (p := ⟨b, _, none⟩) hb).trans (hc i x hx)⟩

/-- the cells at an address are the term's -/
structure Loc (n₀ : Nat) (W : World) (t : Tm) (b o : Nat) : Prop where
  cells : ∃ s, W.cell? ⟨b, o, none⟩ = some (.string t.nm) ∧ W.cell? ⟨b, o + 1, none⟩ = some (.bool t.vr) ∧ W.cell? ⟨b, o + 2, none⟩ = some s ∧ SlIs n₀ W t.ts s

/-- from address to address, argument by argument -/
inductive Steps (W : World) : Nat → Nat → List Int → Nat → Nat → Prop
  | nil (b o : Nat) : Steps W b o [] b o
  | cons (b o : Nat) (i : Int) (l : List Int) (b1 o1 n cap b' o' : Nat) : 0 ≤ i → W.cell? ⟨b, o + 2, none⟩ = some (.slice (some ⟨b1, o1, none⟩) n cap) → Steps W b1 (o1 + i.toNat * 3) l b' o' → Steps W b o (i :: l) b' o'

end Go.Proofs.Ytnomppdmhgefiaa
