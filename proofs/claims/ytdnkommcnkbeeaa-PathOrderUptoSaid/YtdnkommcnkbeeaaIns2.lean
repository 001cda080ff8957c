/- The reference's Insert into nothing; Insert, whole; sorted. -/
import Derived.WalkKit
import Derived.ProofKit
import Derived.OpenShut
import Derived.Handy
import Derived.Lib.Hide
import Derived.Deep.RegionHeld3
import Derived.Test.YtdnkommcnkbeeaaIns
namespace Go.Proofs.Ytdnkommcnkbeeaa
open Go.RowKit

/-- r holds what l holds, and k -/
def InsOf (l : List Key) (k : Key) (r : List Key) : Prop := (∀ x, x ∈ r ↔ x ∈ l ∨ x = k) ∧ r.length ≤ l.length + 1
theorem InsOf.same {l : List Key} {k : Key} (h : k ∈ l) : InsOf l k l := ⟨fun x => ⟨.inl, fun hx => by rcases hx with hx | rfl; exact hx; exact h⟩, by omega⟩
theorem InsOf.at {l : List Key} (k : Key) (j : Nat) : InsOf l k (l.take j ++ [k] ++ l.drop j) := by
  refine ⟨fun x => ?_, ?_⟩
  · have h := List.take_append_drop j l
    constructor
    · intro hx
      simp only [List.mem_append, List.mem_singleton] at hx
      rcases hx with (hx | hx) | hx
      · exact .inl (List.mem_of_mem_take hx)
      · exact .inr hx
      · exact .inl (List.mem_of_mem_drop hx)
    · intro hx
      simp only [List.mem_append, List.mem_singleton]
      rcases hx with hx | hx
      · rw [← h] at hx
        rcases List.mem_append.1 hx with hx | hx
        · exact .inl (.inl hx)
        · exact .inr hx
      · exact .inl (.inr hx)
  · simp; omega
/-- names in order stay in order -/
theorem InsAt.sorted {l r : List Key} {k : Key} (h : InsAt l k r) (hl : l.Pairwise (· < ·)) : r.Pairwise (· < ·) := by
  obtain ⟨j, hj, hless, h⟩ := h
  rcases h with ⟨rfl, _⟩ | ⟨rfl, hn⟩
  · exact hl
  · have hsp : (l.take j ++ l.drop j).Pairwise (· < ·) := by rw [List.take_append_drop]; exact hl
    obtain ⟨h1, h2, h3⟩ := List.pairwise_append.1 hsp
    have hk : ∀ y ∈ l.drop j, k < y := by
      cases hd : l.drop j with
      | nil => intro y hy; cases hy
      | cons x d =>
        have hx : l[j]? = some x := by
          have : (l.drop j)[0]? = some x := by rw [hd]; rfl
          rw [List.getElem?_drop] at this
          simpa using this
        obtain ⟨hne, hnl⟩ := hn x hx
        have hkx : k < x := by
          exact Classical.byContradiction fun h => hne (List.le_antisymm (List.not_lt.1 h) (List.not_lt.1 hnl))
        intro y hy
        rcases List.mem_cons.1 hy with rfl | hy
        · exact hkx
        · rw [hd] at h2; exact List.lt_trans hkx ((List.pairwise_cons.1 h2).1 y hy)
    rw [List.append_assoc]
    refine List.pairwise_append.2 ⟨h1, ?_, ?_⟩
    · exact List.pairwise_cons.2 ⟨hk, h2⟩
    · intro a ha b hb
      rcases List.mem_append.1 hb with hb | hb
      · rw [List.mem_singleton.1 hb]; exact hless a ha
      · exact h3 a ha b hb
end Go.Proofs.Ytdnkommcnkbeeaa
