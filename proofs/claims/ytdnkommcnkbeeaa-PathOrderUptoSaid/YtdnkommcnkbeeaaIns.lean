/- The reference's Insert. -/
import Derived.WalkKit
import Derived.ProofKit
import Derived.OpenShut
import Derived.Handy
import Derived.Lib.Hide
import Derived.Deep.RegionHeld3
import Derived.Test.YtdnkommcnkbeeaaFst
import Derived.Test.YtdnkommcnkbeeaaCmp
namespace Go.Proofs.Ytdnkommcnkbeeaa
open Go.RowKit

/-- the cells of the first strings of a slice -/
theorem strIs_take {n : Nat} {W : World} {l : List Key} {b o cap : Nat} (h : StrIs n W l (.slice (some ⟨b, o, none⟩) l.length cap)) (j : Nat) : ∀ i u, (strs (l.take j))[i]? = some u → W.cell? ((⟨b, o, none⟩ : Addr).add i) = some u := by
  intro i u hu
  refine h.news.2 _ rfl i u ?_
  have hlt := (List.getElem?_eq_some_iff.1 hu).1
  rw [strs_length, List.length_take] at hlt
  rw [strs, List.getElem?_map] at hu ⊢
  rw [List.getElem?_take, if_pos (by omega)] at hu
  exact hu
/-- and of the others -/
theorem strIs_drop {n : Nat} {W : World} {l : List Key} {b o cap : Nat} (h : StrIs n W l (.slice (some ⟨b, o, none⟩) l.length cap)) (j : Nat) {oa : Option Addr} (hoa : ¬ cap = j → oa = some ⟨b, o + j, none⟩) (hj : j ≤ l.length) (hc : l.length ≤ cap) : ∀ ad, oa = some ad → ∀ i u, (strs (l.drop j))[i]? = some u → W.cell? (ad.add i) = some u := by
  intro ad had i u hu
  have hlt := (List.getElem?_eq_some_iff.1 hu).1
  rw [strs_length, List.length_drop] at hlt
  rw [hoa (by omega)] at had
  cases had
  rw [strs, List.getElem?_map, List.getElem?_drop] at hu
  have := h.news.2 _ rfl (j + i) u (by rw [strs, List.getElem?_map]; exact hu)
  rw [ad_add] at this ⊢
  rw [Nat.add_assoc]; exact this

/-- k stands in l, or is put before the first name that is not less -/
def InsAt (l : List Key) (k : Key) (r : List Key) : Prop := ∃ j, j ≤ l.length ∧ (∀ x ∈ l.take j, x < k) ∧ ((r = l ∧ k ∈ l) ∨ (r = l.take j ++ [k] ++ l.drop j ∧ ∀ x, l[j]? = some x → x ≠ k ∧ ¬ x < k))
theorem take_less {l : List Key} {k x : Key} {j : Nat} (h : ∀ x ∈ l.take j, x < k) (hx : l[j]? = some x) (hl : x < k) : ∀ x ∈ l.take (j + 1), x < k := fun y hy => by
  rw [List.take_add_one, hx] at hy
  rcases List.mem_append.1 hy with hy | hy
  · exact h y hy
  · obtain rfl : y = x := by simpa using hy
    exact hl

end Go.Proofs.Ytdnkommcnkbeeaa
