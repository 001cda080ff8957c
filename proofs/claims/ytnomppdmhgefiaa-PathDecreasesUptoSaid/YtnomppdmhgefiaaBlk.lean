/- How many letters a term takes that is formed and small. -/
import Derived.Test.YtnomppdmhgefiaaSub
namespace Go.Proofs.Ytnomppdmhgefiaa
open Go.RowKit

theorem Tm.bulks_by_sizes (l : List Tm) (k : Nat) (h : ∀ u ∈ l, u.bulk ≤ k * u.size) : Tm.bulks l ≤ k * Tm.sizes l := by
  induction l with
  | nil => simp [Tm.bulks]
  | cons x l ih =>
    have h1 := h x (by simp)
    have h2 := ih fun u hu => h u (by simp [hu])
    simp only [Tm.bulks, Tm.sizes, Nat.mul_add]
    omega
theorem isName_le24 {s : ByteArray} {m : Bool} (h : isName s m = true) : s.size ≤ 24 := by
  unfold isName at h
  simp only [Bool.and_eq_true, decide_eq_true_eq] at h
  exact h.1.2
theorem Tm.formed.bulk25 {t : Tm} (h : t.formed) : t.bulk ≤ 25 * t.size := by
  induction t using Tm.ind with
  | h t ih =>
    obtain ⟨h1, h2⟩ := (Tm.formed_iff t).1 h
    have hn : t.nm.size ≤ 24 := by
      unfold nodeOk at h1
      split at h1
      · simp only [Bool.and_eq_true] at h1; exact isName_le24 h1.1
      · simp only [Bool.and_eq_true] at h1; exact isName_le24 h1.1
    have := Tm.bulks_by_sizes t.ts 25 fun u hu => ih u hu (h2 u hu)
    rw [Tm.bulk_eq, Tm.size_eq]
    omega

theorem Tm.ok.bulk {t : Tm} (h : t.ok) : t.bulk ≤ 100000 := by
  have h1 := h.1.bulk25
  have h2 := h.2.1
  omega
theorem SubOk.bulk {bl : List Bd} (h : SubOk bl) (hl : bl.length ≤ 1048576) : bdBulk bl ≤ 1048576 :=
  bdBulk_le hl fun p hp => by
    have h1 := (h.terms p hp).bulk
    have h2 := isName_le24 (h.names p hp)
    have h3 : (kb p.1).size = p.1.length := by show p.1.toArray.size = _; simp
    omega
end Go.Proofs.Ytnomppdmhgefiaa
