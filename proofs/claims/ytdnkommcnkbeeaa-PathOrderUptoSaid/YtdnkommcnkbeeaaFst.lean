/- The reference's Has, Digits and First. -/
import Derived.WalkKit
import Derived.ProofKit
import Derived.OpenShut
import Derived.Handy
import Derived.Lib.Hide
import Derived.Laws.Cells
import Derived.Laws.BytesString
import Derived.Deep.RegionHeld3
import Derived.Test.YtdnkommcnkbeeaaStr
import Derived.Test.YtdnkommcnkbeeaaPosM
namespace Go.Proofs.Ytdnkommcnkbeeaa
open Go.RowKit

theorem not_mem_snoc {l : List Key} {j : Nat} {x k : Key} (h : k ∉ l.take j) (hx : l[j]? = some x) (hne : x ≠ k) : k ∉ l.take (j + 1) := by
  rw [List.take_add_one, hx]
  simp only [Option.toList_some, List.mem_append, List.mem_singleton, not_or]
  exact ⟨h, fun e => hne e.symm⟩

theorem infoStr : (Try.prog.info? 9).map (fun i => (i.zero, i.size, i.bytes)) = some (some (.string ⟨#[]⟩), 1, 16) := by kernel_rfl
theorem strs_one (l : List Key) : ∀ u ∈ strs l, u.oneCell' = true := by
  intro u hu
  obtain ⟨k, _, rfl⟩ := List.mem_map.1 hu
  rfl
theorem cell_one_at {W : World} {k : Nat} {x : Value} {e : TypeId} (h : W.heap[k]? = some (.cells #[x] e (0, 0))) : ∀ j u, [x][j]? = some u → W.cell? ((⟨k, 0, none⟩ : Addr).add j) = some u := by
  intro j u hj
  match j, hj with
  | 0, hj =>
    simp only [List.getElem?_cons_zero, Option.some.injEq] at hj
    subst hj
    have := cells_of' h 0
    simpa [Addr.add] using this
/-- the cells of a slice of strings, as an append asks for them -/
theorem StrIs.news {n : Nat} {W : World} {l : List Key} {oa : Option Addr} {cap : Nat} (h : StrIs n W l (.slice oa l.length cap)) : (oa = none → l.length = 0 ∧ cap = 0) ∧ ∀ ad, oa = some ad → ∀ j u, (strs l)[j]? = some u → W.cell? (ad.add j) = some u := by
  obtain ⟨oa', cap', he, -, h2, h3⟩ := h
  simp only [Value.slice.injEq, true_and] at he
  obtain ⟨rfl, rfl⟩ := he
  refine ⟨h2.1, fun ad had j u hj => ?_⟩
  have hlt := (List.getElem?_eq_some_iff.1 hj).1
  rw [strs_length] at hlt
  obtain ⟨b, o, rfl, _, hc⟩ := h3 (by rintro rfl; simp at hlt)
  cases had
  rw [strs, List.getElem?_map, List.getElem?_eq_getElem hlt] at hj
  simp only [Option.map_some, Option.some.injEq] at hj
  subst hj
  have := hc j _ (List.getElem?_eq_getElem hlt)
  have e : (⟨b, o, none⟩ : Addr).add j = ⟨b, o + j, none⟩ := by unfold Addr.add; split <;> simp_all
  rw [e]; exact this

end Go.Proofs.Ytdnkommcnkbeeaa
