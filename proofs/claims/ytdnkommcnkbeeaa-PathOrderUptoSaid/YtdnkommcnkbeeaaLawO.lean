/- The law PathOrder. -/
import Derived.WalkKit
import Derived.ProofKit
import Derived.OpenShut
import Derived.Handy
import Derived.Lib.Hide
import Derived.Test.YtdnkommcnkbeeaaAl6
namespace Go.Proofs.Ytdnkommcnkbeeaa
open Go.RowKit

/-- three terms in a box -/
structure Tri (w W : World) (s t u : Tm) (sv tv uv : Value) : Prop where
  box : W.heap[w.heap.size]? = some (.cells #[.string s.nm, .bool s.vr, sv, .string t.nm, .bool t.vr, tv, .string u.nm, .bool u.vr, uv] 35 (0, 0))
  low : Below w.heap.size w W
theorem Tri.carry {w A W : World} {s t u : Tm} {sv tv uv : Value} (h : Tri w A s t u sv tv uv) (hb : Below A.heap.size A W) : Tri w W s t u sv tv uv :=
  ⟨(hb.block _ (Array.getElem?_eq_some_iff.1 h.box).1).trans h.box, h.low.trans (hb.mono h.low.size)⟩
theorem Tri.nine {w W : World} {s t u : Tm} {sv tv uv : Value} (h : Tri w W s t u sv tv uv) : W.cell? ⟨w.heap.size, 0, none⟩ = some (.string s.nm) ∧ W.cell? ⟨w.heap.size, 1, none⟩ = some (.bool s.vr) ∧ W.cell? ⟨w.heap.size, 2, none⟩ = some sv ∧ W.cell? ⟨w.heap.size, 3, none⟩ = some (.string t.nm) ∧ W.cell? ⟨w.heap.size, 4, none⟩ = some (.bool t.vr) ∧ W.cell? ⟨w.heap.size, 5, none⟩ = some tv ∧ W.cell? ⟨w.heap.size, 6, none⟩ = some (.string u.nm) ∧ W.cell? ⟨w.heap.size, 7, none⟩ = some (.bool u.vr) ∧ W.cell? ⟨w.heap.size, 8, none⟩ = some uv :=
  ⟨cells_of' h.box 0, cells_of' h.box 1, cells_of' h.box 2, cells_of' h.box 3, cells_of' h.box 4, cells_of' h.box 5, cells_of' h.box 6, cells_of' h.box 7, cells_of' h.box 8⟩
theorem gpB_irrefl (L : List Rk) (s : Tm) : gpB L s s = false := gpB_no.2 fun h => Lpo.irrefl s h.2.2.2
theorem gpB_trans {L : List Rk} {s t u : Tm} (h : gpB L s t = true) (k : gpB L t u = true) : gpB L s u = true :=
  gpB_yes.2 ⟨(gpB_yes.1 h).1, (gpB_yes.1 h).2.1, (gpB_yes.1 k).2.2.1, (gpB_yes.1 h).2.2.2.trans (gpB_yes.1 k).2.2.2⟩

set_option maxRecDepth 100000 in
set_option maxHeartbeats 8000000 in
theorem pathOrder_any (L : List Rk) (lv : Value) (s t u : Tm) (sv tv uv : Value) (w : World) (hL : RksIs w.heap.size w L lv) (hLb : rkBulk L ≤ 1048576) (hs : SlIs w.heap.size w s.ts sv) (ht : SlIs w.heap.size w t.ts tv) (hu : SlIs w.heap.size w u.ts uv)
    (hbs : s.bulk ≤ 1048576) (hbt : t.bulk ≤ 1048576) (hbu : u.bulk ≤ 1048576) :
    Calls Try.prog 4 #[lv, .agg #[.string s.nm, .bool s.vr, sv, .string t.nm, .bool t.vr, tv, .string u.nm, .bool u.vr, uv]] w fun e w' => e = .returned (.bool true) ∧ Below w.heap.size w w' := by
  obtain ⟨os, cs, rfl, -⟩ := hs.form
  obtain ⟨ot, ct, rfl, -⟩ := ht.form
  obtain ⟨ou, cu, rfl, -⟩ := hu.form
  have hL' := hL
  obtain ⟨ol, cl, rfl, -, -⟩ := hL'
  have HG1 : Hid (∀ W, Below w.heap.size w W → Calls Try.prog 13 #[.slice ol L.length cl, .agg #[.string s.nm, .bool s.vr, .slice os s.ts.length cs], .agg #[.string s.nm, .bool s.vr, .slice os s.ts.length cs]] W fun e w' => e = .returned (.bool (gpB L s s)) ∧ Below W.heap.size W w') := Lib.hid fun W hW => lgreater_any L _ s s _ _ W (hL.carry hW hW.size) hLb (hs.carry hW hW.size) (hs.carry hW hW.size) hbs hbs
  have HG2 : Hid (∀ W, Below w.heap.size w W → Calls Try.prog 13 #[.slice ol L.length cl, .agg #[.string s.nm, .bool s.vr, .slice os s.ts.length cs], .agg #[.string t.nm, .bool t.vr, .slice ot t.ts.length ct]] W fun e w' => e = .returned (.bool (gpB L s t)) ∧ Below W.heap.size W w') := Lib.hid fun W hW => lgreater_any L _ s t _ _ W (hL.carry hW hW.size) hLb (hs.carry hW hW.size) (ht.carry hW hW.size) hbs hbt
  have HG3 : Hid (∀ W, Below w.heap.size w W → Calls Try.prog 13 #[.slice ol L.length cl, .agg #[.string t.nm, .bool t.vr, .slice ot t.ts.length ct], .agg #[.string u.nm, .bool u.vr, .slice ou u.ts.length cu]] W fun e w' => e = .returned (.bool (gpB L t u)) ∧ Below W.heap.size W w') := Lib.hid fun W hW => lgreater_any L _ t u _ _ W (hL.carry hW hW.size) hLb (ht.carry hW hW.size) (hu.carry hW hW.size) hbt hbu
  have HG4 : Hid (∀ W, Below w.heap.size w W → Calls Try.prog 13 #[.slice ol L.length cl, .agg #[.string s.nm, .bool s.vr, .slice os s.ts.length cs], .agg #[.string u.nm, .bool u.vr, .slice ou u.ts.length cu]] W fun e w' => e = .returned (.bool (gpB L s u)) ∧ Below W.heap.size W w') := Lib.hid fun W hW => lgreater_any L _ s u _ _ W (hL.carry hW hW.size) hLb (hs.carry hW hW.size) (hu.carry hW hW.size) hbs hbu
  clear hL hs ht hu
  go_enter Try.func4, Try.ntmps4
  go_wp2_with fail
  have HT0 : Hid (Tri w (w.alloc (.cells #[.string s.nm, .bool s.vr, .slice os s.ts.length cs, .string t.nm, .bool t.vr, .slice ot t.ts.length ct, .string u.nm, .bool u.vr, .slice ou u.ts.length cu] 35)) s t u (.slice os s.ts.length cs) (.slice ot t.ts.length ct) (.slice ou u.ts.length cu)) := Lib.hid ⟨heap_new_at _ _ _ rfl, by go_grown⟩
  refine (HG1.out _ HT0.out.low).mono ?_
  rintro e w1 ⟨rfl, hb⟩
  rw [gpB_irrefl]
  have HT1 := Lib.hid (HT0.out.carry hb)
  obtain ⟨x0, x1, x2, x3, x4, x5, x6, x7, x8⟩ := HT1.out.nine
  clear hb HT0
  go_wp2_with fail
  refine (HG2.out _ HT1.out.low).mono ?_
  rintro e w2 ⟨rfl, hb⟩
  have HT2 := Lib.hid (HT1.out.carry hb)
  clear hb HT1 x0 x1 x2 x3 x4 x5 x6 x7 x8
  obtain ⟨x0, x1, x2, x3, x4, x5, x6, x7, x8⟩ := HT2.out.nine
  cases h1 : gpB L s t with
  | false =>
    go_wp2_with fail
    refine (alive_any _).mono ?_
    rintro e w9 ⟨rfl, hb⟩
    have HB := Lib.hid (HT2.out.low.trans (hb.mono HT2.out.low.size))
    clear hb
    go_wp2_with fail
    go_ret
    exact ⟨rfl, HB.out⟩
  | true =>
    go_wp2_with fail
    refine (HG3.out _ HT2.out.low).mono ?_
    rintro e w3 ⟨rfl, hb⟩
    have HT3 := Lib.hid (HT2.out.carry hb)
    clear hb HT2 x0 x1 x2 x3 x4 x5 x6 x7 x8
    obtain ⟨x0, x1, x2, x3, x4, x5, x6, x7, x8⟩ := HT3.out.nine
    cases h2 : gpB L t u with
    | false =>
      go_wp2_with fail
      refine (alive_any _).mono ?_
      rintro e w9 ⟨rfl, hb⟩
      have HB := Lib.hid (HT3.out.low.trans (hb.mono HT3.out.low.size))
      clear hb
      go_wp2_with fail
      go_ret
      exact ⟨rfl, HB.out⟩
    | true =>
      have HTR := Lib.hid (gpB_trans h1 h2)
      go_wp2_with fail
      refine (HG4.out _ HT3.out.low).mono ?_
      rintro e w4 ⟨rfl, hb⟩
      rw [HTR.out]
      have HT4 := Lib.hid (HT3.out.carry hb)
      clear hb HT3 x0 x1 x2 x3 x4 x5 x6 x7 x8
      go_wp2_with fail
      refine (alive_any _).mono ?_
      rintro e w9 ⟨rfl, hb⟩
      have HB := Lib.hid (HT4.out.low.trans (hb.mono HT4.out.low.size))
      clear hb
      go_wp2_with fail
      go_ret
      exact ⟨rfl, HB.out⟩
end Go.Proofs.Ytdnkommcnkbeeaa
