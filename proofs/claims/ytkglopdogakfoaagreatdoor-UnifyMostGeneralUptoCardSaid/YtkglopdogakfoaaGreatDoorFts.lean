/- fits: whether what the names stand for is within the limits. -/
import Derived.WalkKit
import Derived.ProofKit
import Derived.OpenShut
import Derived.Handy
import Derived.Lib.Hide
import Derived.Test.YtkglopdogakfoaaGreatDoorMea
import Derived.Test.YtkglopdogakfoaaGreatDoorChg
namespace Go.Proofs.YtkglopdogakfoaaGreatDoor
open Go.RowKit Go.Maps Go.Sort

theorem StrIs.kpc {n m n₀ : Nat} {A B : World} {l : List Key} {v : Value} (h : StrIs n A l v) (hk : KpC n₀ A B) (hn : n ≤ m) : StrIs m B l v := by
  obtain ⟨oa, cap, rfl, h1, h2, h3⟩ := h
  refine ⟨oa, cap, rfl, h1, h2, fun hne => ?_⟩
  obtain ⟨b, o, rfl, hbn, hc⟩ := h3 hne
  exact ⟨b, o, rfl, by omega, fun i k hik => hk.cell (hc i k hik)⟩
def FitS (S : Sv) (rk : Key → Nat) : Prop := ∀ x, x ∈ S.eq.map (·.1) → x ∉ S.bd.map (·.1) → (res S rk x).size ≤ 4000 ∧ (res S rk x).depth ≤ 200
open Classical in
noncomputable def fitB (S : Sv) (rk : Key → Nat) : Bool := decide (FitS S rk)
theorem fitB_yes {S : Sv} {rk : Key → Nat} (h : FitS S rk) : fitB S rk = true := by unfold fitB; simpa using h
theorem fitB_no {S : Sv} {rk : Key → Nat} (h : ¬ FitS S rk) : fitB S rk = false := by unfold fitB; simpa using h
theorem fitB_of {S : Sv} {rk : Key → Nat} (h : fitB S rk = true) : FitS S rk := by unfold fitB at h; simpa using h
set_option maxRecDepth 100000 in
set_option maxHeartbeats 4000000 in
theorem ufits_any {N : Nat} {GW : World → Prop} (HG : Hid (ItoaOk N GW)) (sb m1 m2 : Nat) (S : Sv) (rk : Key → Nat) (ha : Acy S rk) (hbl : S.bd.length ≤ 1048576) (hel : S.eq.length ≤ 1048576) (p : Nat → Prop) (w : World) (hS : SvIs GW sb m1 m2 p S w) :
    Calls Tryz.prog 114 #[.pointer (some ⟨sb, 0, none⟩)] w fun e w' => e = .returned (.bool (fitB S rk)) ∧ SvIs GW sb m1 m2 p S w' ∧ FrX (· = m2) w w' := by
  have hA : Below w.heap.size w (w.alloc (.map #[] 0)) := by go_grown
  have hSA := hS.below HG.out hA
  have HCHG := Lib.hid (changed_any HG sb m1 m2 S hel p _ hSA)
  have HACY := Lib.hid ha
  have h1 := hS.bnd.lt
  have h2 := hS.m2lt
  have HIA : Hid (MeI GW sb m1 m2 w.heap.size p S rk [] (w.alloc (.map #[] 0))) := Lib.hid ⟨hSA, HMap.made w, (fun k hk => by cases hk), (fun k t h => by cases h), by omega, by omega⟩
  have HA := Lib.hid hA
  have hmm := @run_makeMap Tryz.prog
  clear hA hSA hS ha
  go_enter Tryz.func114, Tryz.ntmps114
  go_wp2_with fail
  refine HCHG.out.mono ?_
  rintro e wb ⟨⟨vL, L, rfl, hL, hchg⟩, hwb⟩
  have hL' := hL
  obtain ⟨oa, cap, rfl, hcap, -, hcell⟩ := hL'
  have hll : L.length ≤ 1048576 := by
    have hn : L.Nodup := hchg.1.imp (fun h e => by subst e; exact absurd h (List.lt_irrefl _))
    have := nodup_len hn (K := S.eq.map (·.1)) fun x hx => ((hchg.2 x).1 hx).1
    simp at this; omega
  have HWB := Lib.hid hwb
  have HL := Lib.hid hL
  have HC := Lib.hid hchg
  have hwz := hwb.size
  have HIB := Lib.hid (HIA.out.below HG.out hwb)
  clear hL hwb hchg hcell HCHG
  go_wp2_with fail
  go_loopw [11] (fun i wr => ∃ (j : Nat) (lj : List (Key × Tm)), j ≤ L.length ∧ i = .int .i64 j ∧ Hid (MeI GW sb m1 m2 w.heap.size p S rk lj wr) ∧ Hid (FrX (ocX m2 w.heap.size) wb wr) ∧ Hid (∀ x ∈ L.take j, (res S rk x).size ≤ 4000 ∧ (res S rk x).depth ≤ 200)) (fun i _ => L.length - (intOf i).toNat)
  case atStart => exact ⟨0, [], by omega, rfl, HIB, Lib.hid (FrX.refl _ _), Lib.hid (by simp)⟩
  case round =>
    obtain ⟨j, lj, hj, rfl, HIJ, HFJ, HOK⟩ := hrel
    by_cases hlt : j < L.length
    · obtain ⟨k, hk⟩ : ∃ k, L[j]? = some k := ⟨_, List.getElem?_eq_getElem hlt⟩
      have hkm := (HC.out.2 k).1 (List.mem_of_getElem? hk)
      obtain ⟨oa2, cap2, e2, -, -, hc2⟩ := HL.out.kpc (HIB.out.kpc HFJ.out) HFJ.out.size
      cases e2
      obtain ⟨b1, p1, rfl, hb1, hc1⟩ := hc2 (by intro e; rw [e] at hlt; simp at hlt)
      have c1 := hc1 j k hk
      have HM := Lib.hid (measure_any HG sb m1 m2 w.heap.size S rk HACY.out hbl hel _ p k lj wr rfl (univ_eq hkm.1) HIJ.out)
      have HKM := Lib.hid hkm
      have HTK : Hid (L.take (j + 1) = L.take j ++ [k]) := Lib.hid (by rw [List.take_add_one, hk]; rfl)
      have HK := Lib.hid hk
      clear hk hkm hc2 hc1
      go_wp2_with fail
      refine HM.out.mono ?_
      rintro e w2 ⟨rfl, ⟨l2, hI2⟩, hf2⟩
      dsimp only [extV]
      have HI2 := Lib.hid hI2
      have HF2 := Lib.hid (HFJ.out.trans hf2)
      clear hI2 hf2 HM
      generalize hts : (min 4001 (res S rk k).size : Nat) = ts
      generalize htd : (min 201 (res S rk k).depth : Nat) = td
      have HBIG : Hid (4000 < ts ∨ 200 < td → fitB S rk = false) := Lib.hid fun h => fitB_no fun hf => by have := hf k HKM.out.1 HKM.out.2; omega
      have HSM : Hid (ts ≤ 4000 → td ≤ 200 → (res S rk k).size ≤ 4000 ∧ (res S rk k).depth ≤ 200) := Lib.hid fun h1 h2 => by omega
      have HTS := Lib.hid hts
      have HTD := Lib.hid htd
      clear hts htd
      have hfin : ∀ B, Below w2.heap.size w2 B → SvIs GW sb m1 m2 p S B ∧ FrX (· = m2) w B := fun B hB => ⟨(HI2.out.below HG.out hB).sv, (((FrX.of_below HA.out).nextB (HWB.out.mono HA.out.size)).next HF2.out (fun i hi he => by unfold ocX at he; omega)).trans (FrX.of_below hB)⟩
      have HFIN := Lib.hid hfin
      clear hfin
      go_wp2_with fail
      · go_ret
        rw [HBIG.out (by omega)]
        exact ⟨rfl, HFIN.out _ (by go_grown)⟩
      · refine ⟨⟨j + 1, l2, by omega, by go_num, Lib.hid (HI2.out.below HG.out (by go_grown)), Lib.hid (HF2.out.trans (FrX.of_below (by go_grown))), Lib.hid fun x hx => ?_⟩, by simp [intOf]; omega⟩
        rw [HTK.out, List.mem_append] at hx
        rcases hx with hx | hx
        · exact HOK.out x hx
        · obtain rfl := List.mem_singleton.1 hx
          exact HSM.out (by omega) (by omega)
      · go_ret
        rw [HBIG.out (by omega)]
        exact ⟨rfl, HFIN.out _ (by go_grown)⟩
    · obtain rfl : j = L.length := by omega
      have HYES : Hid (fitB S rk = true) := Lib.hid (fitB_yes fun x h1 h2 => by have := HOK.out; rw [List.take_length] at this; exact this x ((HC.out.2 x).2 ⟨h1, h2⟩))
      go_wp2_with fail
      go_ret
      rw [HYES.out]
      exact ⟨rfl, HIJ.out.sv, ((FrX.of_below HA.out).nextB (HWB.out.mono HA.out.size)).next HFJ.out (fun i hi he => by unfold ocX at he; omega)⟩
end Go.Proofs.YtkglopdogakfoaaGreatDoor
