/- A function on names, applied to a term: plain mathematics. No program stands here. -/
import Derived.Test.YtdnkommcnkbeeaaRnp
namespace Go.Proofs.Ytdnkommcnkbeeaa
open Go.RowKit

mutual
/-- a function on names, applied to a term -/
def apF (f : Key → Tm) : Tm → Tm
  | .mk nm vr l => if vr = true then f nm.data.toList else .mk nm false (apFs f l)
def apFs (f : Key → Tm) : List Tm → List Tm
  | [] => []
  | t :: r => apF f t :: apFs f r
end
theorem apFs_eq (f : Key → Tm) (l : List Tm) : apFs f l = l.map (apF f) := by
  induction l with
  | nil => rfl
  | cons t l ih => rw [apFs, ih, List.map_cons]
theorem apF_var (f : Key → Tm) {t : Tm} (h : t.vr = true) : apF f t = f t.nm.data.toList := by
  cases t; simp only [Tm.vr] at h; subst h; rw [apF, if_pos rfl]; rfl
theorem apF_fun (f : Key → Tm) {t : Tm} (h : t.vr = false) : apF f t = .mk t.nm false (t.ts.map (apF f)) := by
  cases t; simp only [Tm.vr] at h; subst h; rw [apF, if_neg (by simp), apFs_eq]; rfl
theorem apB_apF (bl : List Bd) (t : Tm) : apB bl t = apF (imageOf bl) t := by
  induction t using Tm.ind with
  | h t ih =>
    cases hv : t.vr
    · rw [apB_fun bl hv, apF_fun _ hv, List.map_congr_left ih]
    · rw [apB_var bl hv, apF_var _ hv]
end Go.Proofs.Ytdnkommcnkbeeaa
