/- alive: the plain facts. -/
import Derived.WalkKit
import Derived.Lib.ItoaNum
import Derived.Test.YtdeaehkdhghfkaaDoorCan2
import Derived.Test.YtdeaehkdhghfkaaDoorSame2
import Derived.Test.YtdeaehkdhghfkaaDoorCmp2
namespace Go.Proofs.YtdeaehkdhghfkaaDoor
open Go.RowKit

def bs (l : List UInt8) : ByteArray := ⟨l.toArray⟩
def aT : Tm := .mk (bs [102]) false [.mk (bs [117]) true [], .mk (bs [103]) false [.mk (bs [118]) true []], .mk (bs [117]) true []]
def aC : Tm := .mk (bs [102]) false [.mk (bs [120, 48]) true [], .mk (bs [103]) false [.mk (bs [120, 49]) true []], .mk (bs [120, 48]) true []]
def dig100 (i : Nat) : ByteArray := if i < 100 then ⟨(Lib.decDigits i).toArray⟩ else ⟨#[]⟩
theorem decDigits_small (i : Nat) (h : i < 10) : Lib.decDigits i = [UInt8.ofNat (48 + i)] := by rw [Lib.decDigits, dif_pos h]
theorem decDigits_len (i : Nat) (h : i < 100) : (Lib.decDigits i).length ≤ 2 := by
  rw [Lib.decDigits]
  split
  · simp
  · rw [decDigits_small _ (by omega)]; simp
theorem dig100_size (i : Nat) : (dig100 i).size ≤ 30 := by
  unfold dig100
  split
  · rename_i h
    have := decDigits_len i h
    show (Lib.decDigits i).toArray.size ≤ 30
    simp; omega
  · decide
theorem dig0 : dig100 0 = bs [48] := by rw [dig100, if_pos (by omega), decDigits_small 0 (by omega)]; rfl
theorem dig1 : dig100 1 = bs [49] := by rw [dig100, if_pos (by omega), decDigits_small 1 (by omega)]; rfl
theorem aT_size : aT.size = 5 := rfl
theorem aT_depth : aT.depth = 3 := rfl
theorem aT_bulk : aT.bulk = 10 := rfl
theorem aT_positions : aT.positions [] = [[], [0], [1], [1, 0], [2]] := rfl
theorem aT_ok : aT.ok := by
  refine ⟨?_, by rw [aT_size]; omega, by rw [aT_depth]; omega⟩
  intro v hv
  have : aT.nodes 1 = [(1, bs [102], false, 3), (2, bs [117], true, 0), (2, bs [103], false, 1), (3, bs [118], true, 0), (2, bs [117], true, 0)] := rfl
  rw [this] at hv
  simp only [List.mem_cons, List.not_mem_nil, or_false] at hv
  rcases hv with rfl | rfl | rfl | rfl | rfl <;> decide
theorem img_new (ss : List Key) (k : List UInt8) (h : k ∉ ss) : canImg dig100 ss (bs k) = (.mk (xname dig100 ss.length) true [], ss ++ [k]) := by
  rw [canImg, if_neg (by simpa [bs] using h)]; simp [bs]
theorem img_old (ss : List Key) (k : List UInt8) (h : k ∈ ss) : canImg dig100 ss (bs k) = (.mk (xname dig100 (ss.idxOf k)) true [], ss) := by
  rw [canImg, if_pos (by simpa [bs] using h)]; simp [bs]
theorem aT_canon : (aT.rep (canImg dig100) []).1 = aC := by
  have h1 := img_new [] [117] (by simp)
  have h2 := img_new [[117]] [118] (by decide)
  have h3 := img_old [[117], [118]] [117] (by decide)
  have e0 : xname dig100 0 = bs [120, 48] := by rw [xname, dig0]; rfl
  have e1 : xname dig100 1 = bs [120, 49] := by rw [xname, dig1]; rfl
  have e2 : ([[117], [118]] : List Key).idxOf [117] = 0 := by decide
  simp only [aT, Tm.rep, Tm.reps, h1, List.nil_append, List.length_nil, h2, List.length_cons, Nat.zero_add, List.cons_append, h3, e0, e1, e2]
  rfl
theorem itoa100 : Hid (∀ (i : Nat) (W : World), i < 100 → True → Calls Tryd.prog 78 #[.int .i64 i] W fun e W' => e = .returned (.string (dig100 i)) ∧ Below W.heap.size W W') :=
  Lib.hid fun i W hi _ => (Tryd.strconv_Itoa_small i hi W).mono (by rintro e w' ⟨rfl, rfl⟩; exact ⟨by rw [dig100, if_pos hi], Below.refl _ _⟩)
end Go.Proofs.YtdeaehkdhghfkaaDoor
