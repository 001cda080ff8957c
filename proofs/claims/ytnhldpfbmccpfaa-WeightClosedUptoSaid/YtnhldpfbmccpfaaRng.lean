/- Ranging over maps: small facts. -/
import Derived.WalkKit
import Derived.ProofKit
import Derived.OpenShut
import Derived.Handy
import Derived.Lib.Hide
import Derived.Maps.RangeWalk
import Derived.Sort.MapsRangeIn
import Derived.Test.YtnhldpfbmccpfaaTlk
namespace Go.Proofs.Ytnhldpfbmccpfaa
open Go.RowKit Go.Maps

section
variable {H : Type} {w w' : World} {P : Program} {k : TypeId} {R : Value → Option (DataW H × List MemPlace)} {b r n : Nat} {D : DataW H} {left : Lit → Bool} {cnt : Nat}
theorem ranges_keep2 (h : w.ranges P k R b r n D left cnt) (h1 : w'.heap[b]? = w.heap[b]?) (h2 : w'.heap[r]? = w.heap[r]?) : w'.ranges P k R b r n D left cnt := by
  obtain ⟨es, clock, since, seen, c0, hb, F, hs, hD, hr, rest⟩ := h
  exact ⟨es, clock, since, seen, c0, h1.trans hb, F, hs, hD, h2.trans hr, rest⟩
theorem ranges_nocell (h : w.ranges P k R b r n D left cnt) : ∀ c t f, w.heap[r]? ≠ some (Obj.cells c t f) := by
  obtain ⟨es, clock, since, seen, c0, hb, F, hs, hD, hr, rest⟩ := h
  intro c t f e
  rw [hr] at e; cases e
end
theorem key_of_str {x : ByteArray} {kl : Lit} (h : keyOf Try.prog 9 (.string x) = some kl) : kl = .string x.data.toList := by
  rw [keyOf_string Try.underlying9] at h
  simp only [mapKey] at h
  first
    | (simp only [Option.some.injEq] at h; exact h.symm)
    | (split at h <;> simp_all)
end Go.Proofs.Ytnhldpfbmccpfaa
