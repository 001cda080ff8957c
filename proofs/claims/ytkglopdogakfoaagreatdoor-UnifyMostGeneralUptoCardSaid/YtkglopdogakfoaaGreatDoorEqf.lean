/- slices.EqualFunc at terms, with any function value that takes a receiver. -/
import Derived.WalkKit
import Derived.ProofKit
import Derived.OpenShut
import Derived.Handy
import Derived.Lib.Hide
import Derived.Test.YtkglopdogakfoaaGreatDoorKp
namespace Go.Proofs.YtkglopdogakfoaaGreatDoor
open Go.RowKit

theorem drop_at {l : List Tm} {k : Nat} {u : Tm} (h : l[k]? = some u) : l.drop k = u :: l.drop (k + 1) := by
  obtain ⟨hk, rfl⟩ := List.getElem?_eq_some_iff.1 h
  exact List.drop_eq_getElem_cons hk

set_option maxRecDepth 100000 in
set_option maxHeartbeats 2000000 in
theorem equalFunc_not (L R : List Tm) (o1 o2 : Option Addr) (k1 k2 : Nat) (f : Value) (w : World) (hne : L.length ≠ R.length) :
    Calls Tryz.prog 140 #[.slice o1 L.length k1, .slice o2 R.length k2, f] w fun e w' => e = .returned (.bool false) ∧ w = w' := by
  have hb : ((L.length : Int) != (R.length : Int)) = true := by rw [bne_iff_ne]; omega
  clear hne
  go_enter Tryz.func140, Tryz.ntmps140
  go_wp2_with fail
  go_ret
  exact ⟨rfl, rfl⟩

/-- how a call of such a function ends -/
def EqPost {σ : Type} (n₀ : Nat) (I : σ → World → Prop) (r : Bool) (S : σ) (w : World) (e : Ending) (w' : World) : Prop := e = .returned (.bool r) ∧ (r = true → I S w') ∧ KpC n₀ w w'

set_option maxRecDepth 100000 in
set_option maxHeartbeats 2000000 in
theorem equalFunc_any {σ : Type} (k : Nat) (x : Value) (hcf : ∀ args w, (callFunc k args).run Tryz.prog w = .ok (.enter k args) w) (n₀ : Nat) (step : σ → Tm → Tm → Option (Bool × σ)) (I : σ → World → Prop) (hI : ∀ s A B, I s A → Below A.heap.size A B → I s B) (L R : List Tm)
    (HC : Hid (∀ t ∈ L, ∀ u ∈ R, ∀ (S : σ) (su sv : Value) (W : World) (r : Bool) (S' : σ), step S t u = some (r, S') → I S W → n₀ ≤ W.heap.size → SlIs W.heap.size W t.ts su → SlIs W.heap.size W u.ts sv → Calls Tryz.prog k #[x, tmv t su, tmv u sv] W (EqPost n₀ I r S' W)))
    (o1 o2 : Option Addr) (k1 k2 : Nat) (S : σ) (r : Bool) (S' : σ) (w : World) (hlen : L.length = R.length) (hl : L.length ≤ 1048576) (hn : n₀ ≤ w.heap.size) (h1 : SlIs w.heap.size w L (.slice o1 L.length k1)) (h2 : SlIs w.heap.size w R (.slice o2 R.length k2))
    (h : eqf step S L R = some (r, S')) (hS : I S w) :
    Calls Tryz.prog 140 #[.slice o1 L.length k1, .slice o2 R.length k2, .func (.func k) #[x] #[]] w (EqPost n₀ I r S' w) := by
  have hr : R.length ≤ 1048576 := by omega
  have hb : ((L.length : Int) != (R.length : Int)) = false := by rw [bne_eq_false_iff_eq]; omega
  have H1 := Lib.hid h1
  have H2 := Lib.hid h2
  have HL := Lib.hid hlen
  have HH := Lib.hid h
  have HS := Lib.hid hS
  have HI := Lib.hid hI
  clear h1 h2 hlen h hS hI
  go_enter Tryz.func140, Tryz.ntmps140
  go_wp2_with fail
  go_loopw [17] (fun i wr => ∃ (j : Nat) (S1 : σ), j ≤ L.length ∧ i = .int .i64 j ∧ Hid (eqf step S1 (L.drop j) (R.drop j) = some (r, S')) ∧ Hid (I S1 wr) ∧ Hid (KpC n₀ w wr)) (fun i _ => L.length - (intOf i).toNat)
  case atStart => exact ⟨0, S, by omega, rfl, HH, HS, Lib.hid (KpC.refl _ _)⟩
  case round =>
    obtain ⟨j, S1, hj, rfl, HE, HS1, HW⟩ := hrel
    have hz := HW.out.size
    by_cases hlt : j < L.length
    · have hlt2 : j < R.length := by have := HL.out; omega
      obtain ⟨b1, p1, u, su, rfl, hbb1, hu, hum, hus, c1, c2, c3⟩ := (H1.out.kp HW.out hz).get hlt
      obtain ⟨b2, p2, v, sv, rfl, hbb2, hv, hvm, hvs, d1, d2, d3⟩ := (H2.out.kp HW.out hz).get hlt2
      obtain ⟨ou, cu, rfl, -⟩ := hus.form
      obtain ⟨ov, cv, rfl, -⟩ := hvs.form
      have HU := Lib.hid hu
      have HV := Lib.hid hv
      have e1 := (cell_old wr (.cells #[.string u.nm, .bool u.vr, .slice ou u.ts.length cu] 25) b2 _ (by omega)).trans d1
      have e2 := (cell_old wr (.cells #[.string u.nm, .bool u.vr, .slice ou u.ts.length cu] 25) b2 _ (by omega)).trans d2
      have e3 := (cell_old wr (.cells #[.string u.nm, .bool u.vr, .slice ou u.ts.length cu] 25) b2 _ (by omega)).trans d3
      obtain ⟨q, S2, hst⟩ : ∃ q S2, step S1 u v = some (q, S2) := by
        have h := HE.out
        rw [drop_at hu, drop_at hv, eqf] at h
        cases hs : step S1 u v with
        | none => rw [hs] at h; cases h
        | some p => exact ⟨p.1, p.2, rfl⟩
      have HST := Lib.hid hst
      have HCU := fun W (hW : Below wr.heap.size wr W) => Lib.hid (HC.out u hum v hvm S1 (.slice ou u.ts.length cu) (.slice ov v.ts.length cv) W q S2 hst (HI.out _ _ _ HS1.out hW) (Nat.le_trans hn (Nat.le_trans hz hW.size)) (hus.carry hW hW.size) (hvs.carry hW hW.size))
      clear hu hv hus hvs hst
      go_wp2_with fail
      refine (HCU _ (by go_grown)).out.mono ?_
      rintro e w2 ⟨rfl, hi2, hk2⟩
      have HI2 := Lib.hid hi2
      have HK2 : Hid (KpC n₀ w w2) := Lib.hid (HW.out.trans (KpC.trans (KpC.of_below (by go_grown) (Nat.le_trans hn hz)) hk2))
      clear hi2 hk2
      cases q
      · have HRS : Hid (r = false) := Lib.hid (by
          have h := HE.out
          rw [drop_at HU.out, drop_at HV.out, eqf, HST.out] at h
          simp only [Option.some.injEq, Prod.mk.injEq] at h
          exact h.1.symm)
        go_wp2_with fail
        go_ret
        rw [HRS.out]
        exact ⟨rfl, (fun h => by cases h), HK2.out⟩
      · have HE2 : Hid (eqf step S2 (L.drop (j + 1)) (R.drop (j + 1)) = some (r, S')) := Lib.hid (by
          have h := HE.out
          rwa [drop_at HU.out, drop_at HV.out, eqf, HST.out] at h)
        go_wp2_with fail
        exact ⟨⟨j + 1, S2, by omega, by go_num, HE2, Lib.hid (by have h := HI2.out; first | exact h rfl | exact h trivial), HK2⟩, by simp [intOf]; omega⟩
    · obtain rfl : j = L.length := by omega
      have HRS : Hid (r = true ∧ S1 = S') := Lib.hid (by
        have h := HE.out
        rw [List.drop_length, eqf] at h
        simp only [Option.some.injEq, Prod.mk.injEq] at h
        exact ⟨h.1.symm, h.2⟩)
      go_wp2_with fail
      go_ret
      rw [HRS.out.1]
      exact ⟨rfl, fun _ => by rw [← HRS.out.2]; exact HS1.out, HW.out⟩
end Go.Proofs.YtkglopdogakfoaaGreatDoor
