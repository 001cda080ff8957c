/- A function on names, applied to a term: plain mathematics. No program stands here. -/
import Derived.Test.YtnomppdmhgefiaaRnp
namespace Go.Proofs.Ytnomppdmhgefiaa
open Go.RowKit

mutual
/-- a function on names, applied to a term -/
def apF (f : Key → Tm) : Tm → Tm
  | .mk nm vr l => if vr = true then f nm.data.toList else .mk nm false (apFs f l)
def apFs (f : Key → Tm) : List Tm → List Tm
  | [] => []
  | t :: r => apF f t :: apFs f r
end
theorem apFs_eq (f : Key → Tm) (l : List Tm) : apFs f l = l.map (apF f) := by
  induction l with
  | nil => rfl
  | cons t l ih => rw [apFs, ih, List.map_cons]
theorem apF_var (f : Key → Tm) {t : Tm} (h : t.vr = true) : apF f t = f t.nm.data.toList := by
  cases t; simp only [Tm.vr] at h; subst h; rw [apF, if_pos rfl]; rfl
theorem apF_fun (f : Key → Tm) {t : Tm} (h : t.vr = false) : apF f t = .mk t.nm false (t.ts.map (apF f)) := by
  cases t; simp only [Tm.vr] at h; subst h; rw [apF, if_neg (by simp), apFs_eq]; rfl
theorem apB_apF (bl : List Bd) (t : Tm) : apB bl t = apF (imageOf bl) t := by
  induction t using Tm.ind with
  | h t ih =>
    cases hv : t.vr
    · rw [apB_fun bl hv, apF_fun _ hv, List.map_congr_left ih]
    · rw [apB_var bl hv, apF_var _ hv]
mutual
/-- the names of a term's variables -/
def Tm.vs : Tm → List Key
  | .mk nm vr l => if vr = true then [nm.data.toList] else Tm.vss l
def Tm.vss : List Tm → List Key
  | [] => []
  | t :: r => t.vs ++ Tm.vss r
end
theorem Tm.vss_mem {l : List Tm} {k : Key} : k ∈ Tm.vss l ↔ ∃ u ∈ l, k ∈ u.vs := by
  induction l with
  | nil => simp [Tm.vss]
  | cons t l ih => rw [Tm.vss, List.mem_append, ih]; simp
theorem Tm.vs_var {t : Tm} (h : t.vr = true) : t.vs = [t.nm.data.toList] := by
  cases t; simp only [Tm.vr] at h; subst h; rw [Tm.vs, if_pos rfl]; rfl
theorem Tm.vs_fun {t : Tm} (h : t.vr = false) : t.vs = Tm.vss t.ts := by
  cases t; simp only [Tm.vr] at h; subst h; rw [Tm.vs, if_neg (by simp)]; rfl
theorem Tm.vs_kid {t u : Tm} (h : t.vr = false) (hu : u ∈ t.ts) {k : Key} (hk : k ∈ u.vs) : k ∈ t.vs := by
  rw [Tm.vs_fun h, Tm.vss_mem]; exact ⟨u, hu, hk⟩
theorem apF_congr {f g : Key → Tm} {t : Tm} (h : ∀ k ∈ t.vs, f k = g k) : apF f t = apF g t := by
  induction t using Tm.ind with
  | h t ih =>
    cases hv : t.vr
    · rw [apF_fun _ hv, apF_fun _ hv, List.map_congr_left fun u hu => ih u hu fun k hk => h k (Tm.vs_kid hv hu hk)]
    · rw [apF_var _ hv, apF_var _ hv]; exact h _ (by rw [Tm.vs_var hv]; simp)
theorem Tm.vs_len (t : Tm) : t.vs.length ≤ t.size := by
  induction t using Tm.ind with
  | h t ih =>
    rw [Tm.size_eq]
    cases hv : t.vr
    · rw [Tm.vs_fun hv]
      have key : ∀ l : List Tm, (∀ u ∈ l, u.vs.length ≤ u.size) → (Tm.vss l).length ≤ Tm.sizes l := by
        intro l
        induction l with
        | nil => intro _; simp [Tm.vss]
        | cons x l ihl => intro h; rw [Tm.vss, List.length_append, Tm.sizes]; have := h x (by simp); have := ihl fun u hu => h u (by simp [hu]); omega
      have := key t.ts ih; omega
    · rw [Tm.vs_var hv]; simp
end Go.Proofs.Ytnomppdmhgefiaa
