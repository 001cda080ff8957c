/- The reference's Renaming. -/
import Derived.WalkKit
import Derived.ProofKit
import Derived.OpenShut
import Derived.Handy
import Derived.Lib.Hide
import Derived.Test.YtdnkommcnkbeeaaBind
namespace Go.Proofs.Ytdnkommcnkbeeaa
open Go.RowKit

theorem infoBind : (Try.prog.info? 77).map (fun i => (i.zero, i.size, i.bytes)) = some (some (.agg #[.string ⟨#[]⟩, .string ⟨#[]⟩, .bool false, .slice none 0 0]), 4, 64) := by kernel_rfl
/-- the cells of bindings to bare terms -/
def bcells (bl : List Bd) : List Value := bl.flatMap fun p => [.string (kb p.1), .string p.2.nm, .bool p.2.vr, .slice none 0 0]
theorem bcells_append (a b : List Bd) : bcells (a ++ b) = bcells a ++ bcells b := by simp [bcells]
theorem bcells_length (a : List Bd) : (bcells a).length = a.length * 4 := by
  induction a with
  | nil => rfl
  | cons p a ih => simp [bcells] at ih ⊢; omega
theorem bcells_at (bl : List Bd) (i : Nat) (p : Bd) (h : bl[i]? = some p) :
    (bcells bl)[i * 4]? = some (.string (kb p.1)) ∧ (bcells bl)[i * 4 + 1]? = some (.string p.2.nm) ∧ (bcells bl)[i * 4 + 2]? = some (.bool p.2.vr) ∧ (bcells bl)[i * 4 + 3]? = some (.slice none 0 0) := by
  induction bl generalizing i with
  | nil => simp at h
  | cons q bl ih =>
    cases i with
    | zero => simp at h; subst h; simp [bcells]
    | succ i =>
      obtain ⟨h1, h2, h3, h4⟩ := ih i (by simpa using h)
      have e : ∀ r, (i + 1) * 4 + r = i * 4 + r + 4 := fun r => by omega
      refine ⟨?_, ?_, ?_, ?_⟩
      · have := e 0; simp only [Nat.add_zero] at this; rw [this]; simpa [bcells] using h1
      · rw [e 1]; simpa [bcells] using h2
      · rw [e 2]; simpa [bcells] using h3
      · rw [e 3]; simpa [bcells] using h4
theorem BindsIs.ofRow {W : World} {m : Nat} {e : TypeId} {v : Value} {bl : List Bd} (h : W.ownsRow m e 4 v bl.length (bcells bl)) (hb : ∀ p ∈ bl, p.2.ts = []) : BindsIs W.heap.size W bl v := by
  have h0 := h
  rcases h.2 with ⟨rfl, hl⟩ | ⟨g, cap, cur, rfl, hbg, hg, hle, _⟩
  · exact ⟨none, 0, by rw [hl], by omega, fun hne => absurd (List.length_eq_zero_iff.1 hl) hne⟩
  · refine ⟨_, cap, rfl, hle, fun _ => ⟨g, 0, rfl, (Array.getElem?_eq_some_iff.1 hg).1, fun i p hp => ?_⟩⟩
    obtain ⟨h1, h2, h3, h4⟩ := bcells_at bl i p hp
    have key : ∀ j u, (bcells bl)[j]? = some u → W.cell? ⟨g, 0 + j, none⟩ = some u := fun j u hj => by
      have := h0.cells (g := g) rfl j u hj
      rwa [ad_add] at this
    exact ⟨.slice none 0 0, key _ _ h1, by rw [Nat.add_assoc]; exact key _ _ h2, by rw [Nat.add_assoc]; exact key _ _ h3, by rw [Nat.add_assoc]; exact key _ _ h4, by rw [hb p (List.mem_of_getElem? hp)]; exact .nil0⟩
theorem cells_new (W : World) (a b c d : Value) (e : TypeId) : ∀ j u, [a, b, c, d][j]? = some u → (W.alloc (.cells #[a, b, c, d] e)).cell? ((⟨W.heap.size, 0, none⟩ : Addr).add j) = some u := by
  intro j u hj
  rw [ad_add, Nat.zero_add]
  have h := cells_of' (heap_new_at W (.cells #[a, b, c, d] e) W.heap.size rfl) j
  rw [h, ← Array.getElem?_toList]
  exact hj

theorem own_none (v : Value) : v.ownBlock = none ∨ v.ownBlock ≠ none := by cases v.ownBlock <;> simp
theorem ownsRow_shape {W : World} {m n size : Nat} {e : TypeId} {v : Value} {xs : List Value} (h : W.ownsRow m e size v n xs) : ∃ oa cap, v = .slice oa n cap := by
  rcases h.2 with ⟨rfl, rfl⟩ | ⟨g, cap, cur, rfl, _⟩
  · exact ⟨_, _, rfl⟩
  · exact ⟨_, _, rfl⟩
/-- what has been collected -/
structure RenSt (l r : List Key) (j i : Nat) (x : Key) (bl : List Bd) : Prop where
  say : ∀ p ∈ bl, ∃ m, l[m]? = some p.1 ∧ p.2 = .mk (xname digN m) true []
  all : ∀ k ∈ r.take j, k ∈ l → ∃ p ∈ bl, p.1 = k
  cur : x ∈ l.take i → ∃ p ∈ bl, p.1 = x
  len : bl.length ≤ j * l.length + i
theorem RenSt.skip {l r : List Key} {j i : Nat} {x y : Key} {bl : List Bd} (h : RenSt l r j i x bl) (hy : l[i]? = some y) (hne : y ≠ x) : RenSt l r j (i + 1) x bl := by
  refine ⟨h.say, h.all, fun hx => ?_, by have := h.len; omega⟩
  rw [List.take_add_one, hy] at hx
  simp only [Option.toList_some, List.mem_append, List.mem_singleton] at hx
  rcases hx with hx | hx
  · exact h.cur hx
  · exact absurd hx.symm hne
theorem RenSt.take {l r : List Key} {j i : Nat} {x : Key} {bl : List Bd} (h : RenSt l r j i x bl) (hy : l[i]? = some x) : RenSt l r j (i + 1) x (bl ++ [(x, .mk (xname digN i) true [])]) := by
  refine ⟨fun p hp => ?_, fun k hk hkl => ?_, fun _ => ⟨_, List.mem_append_right _ (List.mem_singleton.2 rfl), rfl⟩, by have := h.len; simp; omega⟩
  · rcases List.mem_append.1 hp with hp | hp
    · exact h.say p hp
    · obtain rfl := List.mem_singleton.1 hp
      exact ⟨i, hy, rfl⟩
  · obtain ⟨p, hp, e⟩ := h.all k hk hkl
    exact ⟨p, List.mem_append_left _ hp, e⟩
theorem RenSt.next {l r : List Key} {j : Nat} {x : Key} {bl : List Bd} (h : RenSt l r j l.length x bl) (hx : r[j]? = some x) (y : Key) : RenSt l r (j + 1) 0 y bl := by
  refine ⟨h.say, fun k hk hkl => ?_, fun h0 => by simp at h0, by have := h.len; rw [Nat.succ_mul]; omega⟩
  rw [List.take_add_one, hx] at hk
  simp only [Option.toList_some, List.mem_append, List.mem_singleton] at hk
  rcases hk with hk | rfl
  · exact h.all k hk hkl
  · exact h.cur (by rw [List.take_length]; exact hkl)
theorem RenSt.bare {l r : List Key} {j i : Nat} {x : Key} {bl : List Bd} (h : RenSt l r j i x bl) : ∀ p ∈ bl, p.2.ts = [] := fun p hp => by
  obtain ⟨m, _, e⟩ := h.say p hp
  rw [e]; rfl

end Go.Proofs.Ytdnkommcnkbeeaa
