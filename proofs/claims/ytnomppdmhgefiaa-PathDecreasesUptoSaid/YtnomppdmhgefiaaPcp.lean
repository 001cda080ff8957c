/- Plain facts on places, puts and substitutions for the law PathClosed. -/
import Derived.Test.YtnomppdmhgefiaaBlk
import Derived.Test.YtnomppdmhgefiaaLpo2
import Derived.Test.YtnomppdmhgefiaaGrt
import Derived.Test.YtnomppdmhgefiaaTmw
namespace Go.Proofs.Ytnomppdmhgefiaa
open Go.RowKit

theorem gp_proper {L : List Rk} {c x : Tm} {pos : List Int} (hL : PrecOk L) (hc : c.ok) (hp : pos ≠ []) (h : c.at pos = some x) : gpB L c x = true :=
  gpB_yes.2 ⟨hL, hc, hc.at6 h, Lpo.proper hc.1.bare hp h⟩
theorem gp_subst {L : List Rk} {s t : Tm} {bl : List Bd} (h : gpB L s t = true) (hb : SubOk bl) (hs : (apB bl s).size ≤ 4000 ∧ (apB bl s).depth ≤ 200) (ht : (apB bl t).size ≤ 4000 ∧ (apB bl t).depth ≤ 200) : gpB L (apB bl s) (apB bl t) = true := by
  obtain ⟨h1, h2, h3, h4⟩ := gpB_yes.1 h
  refine gpB_yes.2 ⟨h1, ⟨apB_formed6 (fun q hq => (hb.terms q hq).1) h2.1, hs.1, hs.2⟩, ⟨apB_formed6 (fun q hq => (hb.terms q hq).1) h3.1, ht.1, ht.2⟩, ?_⟩
  rw [apB_apF, apB_apF]
  exact h4.subst _
theorem gp_put {L : List Rk} {s t c x : Tm} {pos : List Int} (h : gpB L s t = true) (hc : c.formed) (hx : c.at pos = some x) (h1 : (c.put pos s).ok) (h2 : (c.put pos t).ok) : gpB L (c.put pos s) (c.put pos t) = true :=
  gpB_yes.2 ⟨(gpB_yes.1 h).1, h1, h2, (gpB_yes.1 h).2.2.2.put hc.bare hx⟩
end Go.Proofs.Ytnomppdmhgefiaa
