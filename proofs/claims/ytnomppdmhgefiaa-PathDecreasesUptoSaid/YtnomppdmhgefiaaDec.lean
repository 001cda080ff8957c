/- Each step of a derivation with an oriented system leads to a smaller term (plain). -/
import Derived.Test.YtnomppdmhgefiaaTms
import Derived.Test.YtnomppdmhgefiaaOri
import Derived.Test.YtnomppdmhgefiaaLpo2
namespace Go.Proofs.Ytnomppdmhgefiaa
open Go.RowKit

theorem Tm.put_own {t x : Tm} {pos : List Int} (h : t.at pos = some x) : t.put pos x = t := by
  induction pos generalizing t with
  | nil => simp only [Tm.at, Option.some.injEq] at h; subst h; rfl
  | cons i l ih =>
    obtain ⟨y, hy, _⟩ := Tm.at_cons_some6 (t := t) (i := i) (l := l) (by rw [h]; rfl)
    rw [Tm.at_cons6 hy] at h
    rw [Tm.put_cons6 hy, ih h]
    have hk : t.ts[i.toNat]? = some y := by
      unfold Tm.kid at hy
      split at hy
      · exact hy
      · cases hy
    have hset : t.ts.set i.toNat y = t.ts := by
      obtain ⟨h1, h2⟩ := List.getElem?_eq_some_iff.1 hk
      rw [← h2]; exact List.set_getElem_self h1
    rw [hset]
    cases t; rfl
theorem StpIs.dec {P : List Rk} {R : List RlV} {t : Tm} {i : Int} {pos : List Int} {X : Tm} (h : StpIs R t i pos X) (ht : t.ok) (hP : PrecOk P) (hS : SysOk R) (hd : ∀ p ∈ R, gpB P p.1.1 p.2.1 = true) : X.ok ∧ gpB P t X = true := by
  have hX : X.ok := h.ok ht.1 fun p hp => (hS.2.1 _ (sidesV_mem hp).2).1
  refine ⟨hX, gpB_yes.2 ⟨hP, ht, hX, ?_⟩⟩
  obtain ⟨k, p, x, S', -, hp, hat, hl, rfl, -⟩ := h.ex
  have h1 := (gpB_yes.1 (hd p (List.mem_of_getElem? hp))).2.2.2
  have h2 := Lpo.put (h1.subst (imageOf S')) ht.1.bare hat
  rw [← apB_apF, ← apB_apF, hl, Tm.put_own hat] at h2
  exact h2
theorem Chn5.dec {P : List Rk} {R : List RlV} {t : Tm} {L : List (Int × List Int)} {ts : List Tm} (h : Chn5 R t L L.length ts) (ht : t.ok) (hP : PrecOk P) (hS : SysOk R) (hd : ∀ p ∈ R, gpB P p.1.1 p.2.1 = true) :
    (∀ (i : Nat) (a : Tm), ts[i]? = some a → a.ok) ∧ ∀ (i : Nat) (a b : Tm), ts[i]? = some a → ts[i + 1]? = some b → gpB P a b = true := by
  obtain ⟨h1, h2, h3⟩ := h
  have key : ∀ (i : Nat) (a : Tm), ts[i]? = some a → a.ok := by
    intro i
    induction i with
    | zero => intro a ha; rw [h2] at ha; cases ha; exact ht
    | succ i ih =>
      intro b hb
      have hlt := (List.getElem?_eq_some_iff.1 hb).1
      have hi : i < L.length := by omega
      have ha : ts[i]? = some ts[i] := List.getElem?_eq_getElem (by omega)
      exact ((h3 i _ _ b hi (List.getElem?_eq_getElem hi) ha hb).dec (ih _ ha) hP hS hd).1
  refine ⟨key, fun i a b ha hb => ?_⟩
  have hlt := (List.getElem?_eq_some_iff.1 hb).1
  have hi : i < L.length := by omega
  exact ((h3 i _ a b hi (List.getElem?_eq_getElem hi) ha hb).dec (key i a ha) hP hS hd).2
end Go.Proofs.Ytnomppdmhgefiaa
