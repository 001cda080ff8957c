/- At. -/
import Derived.WalkKit
import Derived.ProofKit
import Derived.OpenShut
import Derived.Handy
import Derived.Lib.Hide
import Derived.Test.YtnomppdmhgefiaaPutM
import Derived.Test.YtnomppdmhgefiaaVarP
namespace Go.Proofs.Ytnomppdmhgefiaa
open Go.RowKit

theorem Tm.kid_mem {t : Tm} {i : Int} {u : Tm} (h : t.kid i = some u) : u ∈ t.ts := by
  unfold Tm.kid at h; split at h
  · exact List.mem_of_getElem? h
  · cases h
theorem Tm.at_bulk {t u : Tm} {l : List Int} (h : t.at l = some u) : u.bulk ≤ t.bulk := by
  induction l generalizing t with
  | nil => simp only [Tm.at, Option.some.injEq] at h; subst h; exact Nat.le_refl _
  | cons i l ih =>
    simp only [Tm.at] at h
    split at h
    · rename_i x hx
      have h1 := ih h
      have h2 := Tm.bulk_mem (Tm.kid_mem hx)
      have h3 := Tm.bulk_eq t
      omega
    · cases h
theorem Tm.formed.at {t u : Tm} (ht : t.formed) {l : List Int} (h : t.at l = some u) : u.formed := by
  induction l generalizing t with
  | nil => simp only [Tm.at, Option.some.injEq] at h; subst h; exact ht
  | cons i l ih =>
    simp only [Tm.at] at h
    split at h
    · rename_i x hx
      exact ih (((Tm.formed_iff t).1 ht).2 x (Tm.kid_mem hx)) h
    · cases h

end Go.Proofs.Ytnomppdmhgefiaa
