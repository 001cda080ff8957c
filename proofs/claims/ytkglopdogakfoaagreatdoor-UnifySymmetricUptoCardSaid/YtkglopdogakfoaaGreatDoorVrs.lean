/- The reference's Vars. -/
import Derived.WalkKit
import Derived.ProofKit
import Derived.OpenShut
import Derived.Handy
import Derived.Lib.Hide
import Derived.Test.YtkglopdogakfoaaGreatDoorGf
import Derived.Test.YtkglopdogakfoaaGreatDoorGg
import Derived.Test.YtkglopdogakfoaaGreatDoorKp
import Derived.Test.YtkglopdogakfoaaGreatDoorMtw
import Derived.Test.YtkglopdogakfoaaGreatDoorSvP
namespace Go.Proofs.YtkglopdogakfoaaGreatDoor
open Go.RowKit

theorem sorted_nodup {l : List Key} (h : l.Pairwise (· < ·)) : l.Nodup := h.imp (fun h e => by subst e; exact absurd h (List.lt_irrefl _))
theorem sorted_len {l ss : List Key} (h : l.Pairwise (· < ·)) (hm : ∀ x, x ∈ l ↔ x ∈ ss) : l.length ≤ ss.length := nodup_len (sorted_nodup h) fun x hx => (hm x).1 hx
set_option maxRecDepth 100000 in
set_option maxHeartbeats 4000000 in
theorem rcollect_any (t : Tm) : t.bare → ∀ (s v : Value) (ss l : List Key) (w : World), SlIs w.heap.size w t.ts s → StrIs w.heap.size w l v → l.Pairwise (· < ·) → (∀ x, x ∈ l ↔ x ∈ ss) → t.bulk ≤ 1048576 → ss.length + t.size ≤ 1048576 → (∀ x ∈ firsts ss t, x.length ≤ 1048576) →
    Calls Tryz.prog 57 #[tmv t s, v] w fun e w' => (∃ (v' : Value) (r : List Key), e = .returned v' ∧ StrIs w'.heap.size w' r v' ∧ r.Pairwise (· < ·) ∧ ∀ x, x ∈ r ↔ x ∈ firsts ss t) ∧ Below w.heap.size w w' := by
  induction t using Tm.ind with
  | h t ih =>
    intro hbare s v ss l w hs hl hord hmem hb hlen hkl
    obtain ⟨oa, ca, rfl, -⟩ := hs.form
    have hl' := hl
    obtain ⟨ol, cl, rfl, hcap, -, -⟩ := hl'
    have hll := sorted_len hord hmem
    have hse := Tm.size_eq t
    have hlsz := Tm.length_sizes t.ts
    have htl : t.ts.length ≤ 1048576 := by omega
    have hpre := firsts_pre t ss
    have HLS : Hid (∀ x ∈ l, x.length ≤ 1048576) := Lib.hid fun x hx => hkl x (hpre.subset ((hmem x).1 hx))
    have HL := Lib.hid hl
    have HSL := Lib.hid hs
    have HBK := Lib.hid hb
    cases hv : t.vr with
    | true =>
      have h0 : t.ts.length = 0 := by rw [hbare.vr0 hv]; rfl
      have hA : Below w.heap.size w (w.alloc (.cells #[.string t.nm, .bool true, .slice oa 0 ca] 25)) := by go_grown
      have hkn : t.nm.data.toList.length ≤ 1048576 := hkl _ (by rw [firsts_var ss hv]; exact addKey_iff.2 (.inr rfl))
      have HINS := Lib.hid (rinsert_ord l t.nm.data.toList (.slice ol l.length cl) _ (hl.carry hA hA.size) hord (by omega) hkn HLS.out)
      have HA := Lib.hid hA
      have HFV := Lib.hid (firsts_var ss hv)
      have HM := Lib.hid hmem
      clear ih hs hl hord hmem hkl hpre hA hkn hb
      rw [kb_key] at HINS
      go_enter Tryz.func57, Tryz.ntmps57
      rw [show tmv t (.slice oa t.ts.length ca) = .agg #[.string t.nm, .bool true, .slice oa 0 ca] from by rw [tmv, hv, h0]]
      clear h0 hv
      go_wp2_with fail
      refine HINS.out.mono ?_
      rintro e w1 ⟨⟨v1, r1, rfl, h1, h2, h3⟩, hb1⟩
      have hbx := (hb1.block w.heap.size (by simp)).trans (heap_new_at w (.cells #[.string t.nm, .bool true, .slice oa 0 ca] 25) _ rfl)
      obtain ⟨⟨x0, x1, x2⟩, -⟩ := box3 hbx
      have H1 := Lib.hid h1
      have H2 := Lib.hid h2
      have H3 := Lib.hid h3
      have HB1 : Hid (Below w.heap.size w w1) := Lib.hid (HA.out.trans (hb1.mono HA.out.size))
      clear h1 h2 h3 hb1 hbx HINS
      go_wp2_with fail
      go_rounds 1
      go_ret
      refine ⟨⟨v1, r1, rfl, H1.out, H2.out, fun x => ?_⟩, HB1.out⟩
      rw [HFV.out, addKey_iff, ← HM.out]
      exact H3.out.1 x
    | false =>
      have HF : Hid (firsts ss t = firstsL ss t.ts) := Lib.hid (firsts_fun ss hv)
      have HKL : Hid (∀ (k : Nat) (x : Key), x ∈ firstsL ss (t.ts.take k) → x.length ≤ 1048576) := Lib.hid fun k x hx => by
        refine hkl x ?_
        rw [firsts_fun ss hv]
        have h := firstsL_pre (t.ts.drop k) (fun u _ => firsts_pre u) (firstsL ss (t.ts.take k))
        have e : firstsL (firstsL ss (t.ts.take k)) (t.ts.drop k) = firstsL ss t.ts := by
          have key : ∀ (a b : List Tm) (ss : List Key), firstsL (firstsL ss a) b = firstsL ss (a ++ b) := by
            intro a
            induction a with
            | nil => intro b ss; rfl
            | cons x a ih => intro b ss; rw [firstsL_cons, List.cons_append, firstsL_cons, ih]
          rw [key, List.take_append_drop]
        rw [e] at h
        exact h.subset hx
      have HORD := Lib.hid hord
      have HM := Lib.hid hmem
      have IH := Lib.hid ih
      have HBARE := Lib.hid hbare
      have HSE := Lib.hid hse
      clear ih hs hl hord hmem hkl hpre hb hbare hse
      go_enter Tryz.func57, Tryz.ntmps57
      rw [show tmv t (.slice oa t.ts.length ca) = .agg #[.string t.nm, .bool t.vr, .slice oa t.ts.length ca] from rfl, hv]
      clear hv
      go_wp2_with fail
      go_loopw [1, 16] (fun l i wr => ∃ (k : Nat) (r : List Key), k ≤ t.ts.length ∧ i = .int .i64 k ∧ Hid (StrIs wr.heap.size wr r l) ∧ Hid (r.Pairwise (· < ·)) ∧ Hid (∀ x, x ∈ r ↔ x ∈ firstsL ss (t.ts.take k)) ∧ Hid (Below w.heap.size w wr)) (fun _ i _ => t.ts.length - (intOf i).toNat)
      case atStart => exact ⟨0, l, by omega, rfl, Lib.hid (HL.out.carry (by go_grown) (by simp)), HORD, Lib.hid HM.out, Lib.hid (by go_grown)⟩
      case round =>
        obtain ⟨k, r, hk, rfl, HS, HO, HMR, HBW⟩ := hrel
        by_cases hlt : k < t.ts.length
        · have hz := HBW.out.size
          obtain ⟨b, o, u, su, rfl, hbb, hu, hum, hus, c1, c2, c3⟩ := (HSL.out.carry HBW.out hz).get (k := k) hlt
          obtain ⟨ou, cu, rfl, -⟩ := hus.form
          have hs2 := HS.out
          obtain ⟨of, cf, rfl, -, -, -⟩ := hs2
          have hlb := firstsL_length (t.ts.take k) ss
          have hsp := Tm.sizes_append (t.ts.take k) (t.ts.drop k)
          rw [List.take_append_drop] at hsp
          have hsd := Tm.size_mem (show u ∈ t.ts.drop k from List.mem_of_getElem? (i := 0) (by rw [List.getElem?_drop]; simpa using hu))
          have hub : u.bulk ≤ 1048576 := by have := Tm.bulk_mem hum; have := Tm.bulk_eq t; have := HBK.out; omega
          have hus1 : (firstsL ss (t.ts.take k)).length + u.size ≤ 1048576 := by have := HSE.out; omega
          have hfu : firstsL ss (t.ts.take (k + 1)) = firsts (firstsL ss (t.ts.take k)) u := by rw [Tm.take_snoc hu, firstsL_snoc]
          have HFU := Lib.hid hfu
          have IHu : ∀ W1, Below wr.heap.size wr W1 → Hid (Calls Tryz.prog 57 #[tmv u (.slice ou u.ts.length cu), .slice of r.length cf] W1 fun e w' => (∃ (v' : Value) (r : List Key), e = .returned v' ∧ StrIs w'.heap.size w' r v' ∧ r.Pairwise (· < ·) ∧ ∀ x, x ∈ r ↔ x ∈ firstsL ss (t.ts.take (k + 1))) ∧ Below W1.heap.size W1 w') := fun W1 hW => Lib.hid (by
            rw [hfu]
            exact IH.out u hum (HBARE.out.kids u hum) _ _ (firstsL ss (t.ts.take k)) r W1 (hus.carry hW hW.size) (HS.out.carry hW hW.size) HO.out HMR.out hub hus1 (fun x hx => HKL.out (k + 1) x (by rw [hfu]; exact hx)))
          clear hu hlb hsp hsd hus hfu
          go_wp2_with fail
          refine (IHu _ (by go_grown)).out.mono ?_
          rintro e w1 ⟨⟨v1, r1, rfl, h1, h2, h3⟩, hb1⟩
          have HS1 := Lib.hid h1
          have H2 := Lib.hid h2
          have H3 := Lib.hid h3
          have HB1 : Hid (Below w.heap.size w w1) := Lib.hid (HBW.out.trans ((show Below wr.heap.size wr _ from by go_grown).trans (hb1.mono (by simp)) |>.mono hz))
          clear h1 h2 h3 hb1 IHu
          go_wp2_with fail
          exact ⟨⟨k + 1, r1, by omega, by go_num, HS1, H2, H3, HB1⟩, by simp [intOf]; omega⟩
        · obtain rfl : k = t.ts.length := by omega
          have HE : Hid (firsts ss t = firstsL ss (t.ts.take t.ts.length)) := Lib.hid (by rw [HF.out, List.take_length])
          go_wp2_with fail
          go_ret
          exact ⟨⟨_, r, rfl, HS.out, HO.out, fun x => by rw [HE.out]; exact HMR.out x⟩, HBW.out⟩
set_option maxRecDepth 100000 in
set_option maxHeartbeats 4000000 in
theorem rvars_one (t : Tm) (hbare : t.bare) (s : Value) (w : World) (hs : SlIs w.heap.size w [t] s) (hb : t.bulk ≤ 1048576) (hkl : ∀ x ∈ firsts [] t, x.length ≤ 1048576) :
    Calls Tryz.prog 24 #[s] w fun e w' => (∃ (v' : Value) (r : List Key), e = .returned v' ∧ StrIs w'.heap.size w' r v' ∧ r.Pairwise (· < ·) ∧ ∀ x, x ∈ r ↔ x ∈ firsts [] t) ∧ Below w.heap.size w w' := by
  obtain ⟨oa, ca, rfl, -⟩ := hs.form
  have HSL := Lib.hid hs
  have HKL := Lib.hid hkl
  have hsz := Tm.size_bulk t
  clear hs hkl
  go_enter Tryz.func24, Tryz.ntmps24
  go_wp2_with fail
  go_loopw [3, 8] (fun l i wr => ∃ (k : Nat) (r : List Key), k ≤ 1 ∧ i = .int .i64 k ∧ Hid (StrIs wr.heap.size wr r l) ∧ Hid (r.Pairwise (· < ·)) ∧ Hid (∀ x, x ∈ r ↔ x ∈ firstsL [] ([t].take k)) ∧ Hid (Below w.heap.size w wr)) (fun _ i _ => 1 - (intOf i).toNat)
  case atStart => exact ⟨0, [], by omega, rfl, Lib.hid (StrIs.nil _ _), Lib.hid List.Pairwise.nil, Lib.hid (fun x => Iff.rfl), Lib.hid (Below.refl _ _)⟩
  case round =>
    obtain ⟨k, r, hk, rfl, HS, HO, HMR, HBW⟩ := hrel
    by_cases hlt : k < 1
    · obtain rfl : k = 0 := by omega
      have hz := HBW.out.size
      obtain ⟨b, o, u, su, rfl, hbb, hu, hum, hus, c1, c2, c3⟩ := (HSL.out.carry HBW.out hz).get (k := 0) (by simp)
      simp only [Nat.zero_mul, Nat.add_zero] at c1 c2 c3
      obtain rfl : t = u := by simpa using hu
      obtain ⟨ou, cu, rfl, -⟩ := hus.form
      have hs2 := HS.out
      obtain ⟨of, cf, rfl, -, -, -⟩ := hs2
      have IHu : ∀ W1, Below wr.heap.size wr W1 → Hid (Calls Tryz.prog 57 #[tmv t (.slice ou t.ts.length cu), .slice of r.length cf] W1 fun e w' => (∃ (v' : Value) (r : List Key), e = .returned v' ∧ StrIs w'.heap.size w' r v' ∧ r.Pairwise (· < ·) ∧ ∀ x, x ∈ r ↔ x ∈ firsts [] t) ∧ Below W1.heap.size W1 w') := fun W1 hW => Lib.hid
        (rcollect_any t hbare _ _ [] r W1 (hus.carry hW hW.size) (HS.out.carry hW hW.size) HO.out HMR.out hb (by show 0 + t.size ≤ _; omega) HKL.out)
      clear hu hum hus
      go_wp2_with fail
      refine (IHu _ (by go_grown)).out.mono ?_
      rintro e w1 ⟨⟨v1, r1, rfl, h1, h2, h3⟩, hb1⟩
      have HS1 := Lib.hid h1
      have H2 := Lib.hid h2
      have H3 : Hid (∀ x, x ∈ r1 ↔ x ∈ firstsL [] ([t].take 1)) := Lib.hid h3
      have HB1 : Hid (Below w.heap.size w w1) := Lib.hid (HBW.out.trans ((show Below wr.heap.size wr _ from by go_grown).trans (hb1.mono (by simp)) |>.mono hz))
      clear h1 h2 h3 hb1 IHu
      go_wp2_with fail
      exact ⟨⟨1, r1, by omega, by go_num, HS1, H2, H3, HB1⟩, by simp [intOf]⟩
    · obtain rfl : k = 1 := by omega
      go_wp2_with fail
      go_ret
      exact ⟨⟨_, r, rfl, HS.out, HO.out, HMR.out⟩, HBW.out⟩
end Go.Proofs.YtkglopdogakfoaaGreatDoor
