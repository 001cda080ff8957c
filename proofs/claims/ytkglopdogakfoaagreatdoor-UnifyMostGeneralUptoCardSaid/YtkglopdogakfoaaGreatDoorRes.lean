/- What a name stands for, all bindings applied. -/
import Derived.Test.YtkglopdogakfoaaGreatDoorHmp
namespace Go.Proofs.YtkglopdogakfoaaGreatDoor
open Go.RowKit Go.Maps

def resN (S : Sv) : Nat → Key → Tm
  | 0, k => vrk (repE S.eq k)
  | n + 1, k => match getA S.bd (repE S.eq k) with
    | none => vrk (repE S.eq k)
    | some t => .mk t.nm false (t.ts.map fun u => resN S n u.nm.data.toList)
theorem resN_var {S : Sv} {k : Key} (h : getA S.bd (repE S.eq k) = none) (n : Nat) : resN S n k = vrk (repE S.eq k) := by
  cases n with
  | zero => rfl
  | succ n => simp only [resN, h]
theorem resN_fun {S : Sv} {k : Key} {t : Tm} (h : getA S.bd (repE S.eq k) = some t) (n : Nat) : resN S (n + 1) k = .mk t.nm false (t.ts.map fun u => resN S n u.nm.data.toList) := by
  simp only [resN, h]
theorem resN_stable {S : Sv} {rk : Key → Nat} (ha : Acy S rk) (hf : ∀ u, repE S.eq (repE S.eq u) = repE S.eq u) : ∀ (n m : Nat) (k : Key), rk (repE S.eq k) < n → rk (repE S.eq k) < m → resN S n k = resN S m k := by
  intro n
  induction n with
  | zero => intro m k h; omega
  | succ n ih =>
    intro m k h1 h2
    cases m with
    | zero => omega
    | succ m =>
      cases hg : getA S.bd (repE S.eq k) with
      | none => rw [resN_var hg, resN_var hg]
      | some t =>
        rw [resN_fun hg, resN_fun hg]
        have : t.ts.map (fun u => resN S n u.nm.data.toList) = t.ts.map (fun u => resN S m u.nm.data.toList) := List.map_congr_left fun u hu => by
          have := ha _ t hg (hf k) u hu
          exact ih m _ (by omega) (by omega)
        rw [this]
def res (S : Sv) (rk : Key → Nat) (k : Key) : Tm := resN S (rk (repE S.eq k) + 1) k
theorem res_var {S : Sv} {rk : Key → Nat} {k : Key} (h : getA S.bd (repE S.eq k) = none) : res S rk k = vrk (repE S.eq k) := resN_var h _
theorem res_fun {S : Sv} {rk : Key → Nat} (ha : Acy S rk) (hf : ∀ u, repE S.eq (repE S.eq u) = repE S.eq u) {k : Key} {t : Tm} (h : getA S.bd (repE S.eq k) = some t) : res S rk k = .mk t.nm false (t.ts.map fun u => res S rk u.nm.data.toList) := by
  unfold res
  rw [resN_fun h]
  have : t.ts.map (fun u => resN S (rk (repE S.eq k)) u.nm.data.toList) = t.ts.map (fun u => resN S (rk (repE S.eq u.nm.data.toList) + 1) u.nm.data.toList) := List.map_congr_left fun u hu => by
    have := ha _ t h (hf k) u hu
    exact resN_stable ha hf _ _ _ (by omega) (by omega)
  rw [this]
theorem res_rep {S : Sv} {rk : Key → Nat} (hf : ∀ u, repE S.eq (repE S.eq u) = repE S.eq u) (k : Key) : res S rk (repE S.eq k) = res S rk k := by
  unfold res
  rw [hf k]
  cases hg : getA S.bd (repE S.eq k) with
  | none => rw [resN_var (k := repE S.eq k) (by rw [hf k]; exact hg), resN_var hg, hf k]
  | some t => rw [resN_fun (k := repE S.eq k) (by rw [hf k]; exact hg), resN_fun hg]
theorem SvIs.free {GW : World → Prop} {sb m1 m2 : Nat} {p : Nat → Prop} {S : Sv} {W : World} (h : SvIs GW sb m1 m2 p S W) (u : Key) : repE S.eq (repE S.eq u) = repE S.eq u := by
  obtain ⟨E, _, he⟩ := h.eql
  exact repE_free (he.free u)
end Go.Proofs.YtkglopdogakfoaaGreatDoor
