/- Depth, by the iterator over nodes. -/
import Derived.Test.YtdnkommcnkbeeaaNodes2
namespace Go.Proofs.Ytdnkommcnkbeeaa
open Go.RowKit Go.Shelf
attribute [local go_sem] Oper.semAt_some

/-- the greatest depth of what has come -/
def dmax (l : List View) : Nat := l.foldl (fun m v => max m v.1) 0
theorem foldl_max (l : List View) (m : Nat) : l.foldl (fun m v => max m v.1) m = max m (dmax l) := by
  induction l generalizing m with
  | nil => simp [dmax]
  | cons v l ih =>
    have e : dmax (v :: l) = l.foldl (fun m v => max m v.1) (max 0 v.1) := rfl
    rw [List.foldl_cons, ih, e, ih]; omega
theorem dmax_snoc (l : List View) (v : View) : dmax (l ++ [v]) = max (dmax l) v.1 := by simp [dmax]
theorem dmax_cons (l : List View) (v : View) : dmax (v :: l) = max v.1 (dmax l) := by
  have e : dmax (v :: l) = l.foldl (fun m v => max m v.1) (max 0 v.1) := rfl
  rw [e, foldl_max]; omega
theorem dmax_append (l r : List View) : dmax (l ++ r) = max (dmax l) (dmax r) := by rw [dmax, List.foldl_append, foldl_max]; rfl
theorem dmax_nodesL (l : List Tm) (h : ∀ u ∈ l, ∀ d, dmax (u.nodes d) + 1 = d + u.depth) (d : Nat) : dmax (Tm.nodesL d l) + 1 = if l = [] then 1 else d + Tm.depths l := by
  induction l with
  | nil => simp [Tm.nodesL, dmax]
  | cons t l ih =>
    have h1 := h t (by simp) d
    have h2 := ih (fun u hu => h u (by simp [hu]))
    have h3 : 1 ≤ t.depth := by rw [Tm.depth_eq]; omega
    rw [Tm.nodesL, dmax_append, Tm.depths, if_neg (by simp)]
    by_cases e : l = []
    · subst e; simp [Tm.depths] at h2 ⊢; omega
    · rw [if_neg e] at h2; omega
theorem dmax_nodes (t : Tm) (d : Nat) : dmax (t.nodes d) + 1 = d + t.depth := by
  induction t using Tm.ind generalizing d with
  | h t ih =>
    have h := dmax_nodesL t.ts ih (d + 1)
    rw [Tm.nodes_eq, dmax_cons, Tm.depth_eq]
    by_cases e : t.ts = []
    · rw [if_pos e] at h; rw [e] at h ⊢; simp [Tm.depths] at h ⊢; omega
    · rw [if_neg e] at h; simp only; omega

end Go.Proofs.Ytdnkommcnkbeeaa
