/- The occurs check at all names. -/
import Derived.WalkKit
import Derived.ProofKit
import Derived.OpenShut
import Derived.Handy
import Derived.Lib.Hide
import Derived.Maps.RangeWalk
import Derived.Sort.MapsRangeIn
import Derived.Test.YtkglopdogakfoaaGreatDoorOcc
namespace Go.Proofs.YtkglopdogakfoaaGreatDoor
open Go.RowKit Go.Maps

section
variable {H : Type} {w w' : World} {P : Program} {k : TypeId} {R : Value → Option (DataW H × List MemPlace)} {b r n : Nat} {D : DataW H} {left : Lit → Bool} {cnt : Nat}
theorem ranges_keep2 (h : w.ranges P k R b r n D left cnt) (h1 : w'.heap[b]? = w.heap[b]?) (h2 : w'.heap[r]? = w.heap[r]?) : w'.ranges P k R b r n D left cnt := by
  obtain ⟨es, clock, since, seen, c0, hb, F, hs, hD, hr, rest⟩ := h
  exact ⟨es, clock, since, seen, c0, h1.trans hb, F, hs, hD, h2.trans hr, rest⟩
theorem ranges_nocell (h : w.ranges P k R b r n D left cnt) : ∀ c t f, w.heap[r]? ≠ some (Obj.cells c t f) := by
  obtain ⟨es, clock, since, seen, c0, hb, F, hs, hD, hr, rest⟩ := h
  intro c t f e
  rw [hr] at e; cases e
end
theorem FrX.next {X Y : Nat → Prop} {A B C : World} (h : FrX X A B) (k : FrX Y B C) (hy : ∀ i, i < A.heap.size → Y i → X i) : FrX X A C :=
  ⟨k.os.trans h.os, k.tape.trans h.tape, k.output.trans h.output, Nat.le_trans h.size k.size, fun i hi hc => (k.block i (Nat.lt_of_lt_of_le hi h.size) (fun e => hc (hy i hi e))).trans (h.block i hi hc)⟩
theorem OcI.turned {N : Nat} {GW : World → Prop} (hg : ItoaOk N GW) {sb m1 m2 mi : Nat} {p : Nat → Prop} {S : Sv} {l : List (Key × Bool)} {A B : World} (h : OcI GW sb m1 m2 mi p S l A) {r : Nat} (hr : ∀ c t f, A.heap[r]? ≠ some (Obj.cells c t f)) (ht : A.grownBy B (some r)) (h1 : m1 ≠ r) (h2 : m2 ≠ r) (h3 : mi ≠ r) : OcI GW sb m1 m2 mi p S l B := by
  have hfr : FrX (· = r) A B := FrX.grown ht rfl
  have hkp : KpC 0 A B := hfr.kpc (Nat.zero_le _) fun k hk => ⟨Nat.zero_le _, by subst hk; exact hr⟩
  exact ⟨h.sv.kpc (hg.keep _ _ h.sv.gw hkp) hkp (hfr.block m1 h.sv.bnd.lt h1) (hfr.block m2 h.sv.m2lt h2), h.map.kept (hfr.block mi h.map.lt h3), h.keys, h.ne1, h.ne2⟩
theorem key_of_str {x : ByteArray} {kl : Lit} (h : keyOf Tryz.prog 9 (.string x) = some kl) : kl = .string x.data.toList := by
  rw [keyOf_string Tryz.underlying9] at h
  simp only [mapKey] at h
  first
    | (simp only [Option.some.injEq] at h; exact h.symm)
    | (split at h <;> simp_all)
set_option maxRecDepth 100000 in
set_option maxHeartbeats 4000000 in
theorem hasCycle_any {N : Nat} {GW : World → Prop} (HG : Hid (ItoaOk N GW)) (sb m1 m2 : Nat) (S : Sv) (rk : Key → Nat) (ha : Acy S rk) (hbl : S.bd.length ≤ 1048576) (hel : S.eq.length ≤ 1048576) (p : Nat → Prop) (w : World) (hS : SvIs GW sb m1 m2 p S w) :
    Calls Tryz.prog 113 #[.pointer (some ⟨sb, 0, none⟩)] w fun e w' => e = .returned (.bool false) ∧ SvIs GW sb m1 m2 p S w' ∧ FrX (· = m2) w w' := by
  have hA : Below w.heap.size w (w.alloc (.map #[] 0)) := by go_grown
  have hSA := hS.below HG.out hA
  obtain ⟨x0, x1⟩ := box2 hSA.box
  obtain ⟨D, hown, hinv⟩ := id hSA.bnd
  have HOWN := Lib.hid hown
  have HINV := Lib.hid hinv
  have HACY := Lib.hid ha
  have h1 := hS.bnd.lt
  have h2 := hS.m2lt
  have HIA : Hid (OcI GW sb m1 m2 w.heap.size p S [] (w.alloc (.map #[] 0))) := Lib.hid ⟨hSA, HMap.made w, (fun k hk => by cases hk), by omega, by omega⟩
  have HA := Lib.hid hA
  clear hA hSA hown hinv hS ha
  have hmm := @run_makeMap Tryz.prog
  go_enter Tryz.func113, Tryz.ntmps113
  go_wp2_with (first
    | (at_range; refine wpList_range_own _ rfl _ 147 rfl 9 25 strKeyed Tryz.underlying147 imgR m1 S.bd.length D rfl HOWN.out ?_; intro w0 hrg0 hg0 hs0)
    | go_in)
  go_frame
  have hB0 : Below (w.alloc (.map #[] 0)).heap.size (w.alloc (.map #[] 0)) w0 := ⟨hg0.os, hg0.tape, hg0.output, hg0.size, fun k hk => hg0.block k hk (by simp)⟩
  generalize hr : (w.alloc (Obj.map #[] 0)).heap.size = r at hrg0 hs0 ⊢
  have hr1 : w.heap.size < r := by rw [← hr]; simp
  clear hr
  go_loopw [4] (fun _ wr => ∃ (left : Lit → Bool) (cnt : Nat) (l : List (Key × Bool)), Hid (wr.ranges Tryz.prog 9 imgR m1 r S.bd.length D left cnt) ∧ Hid (∀ kl, left kl = true → Maps.has D kl = true) ∧ Hid (OcI GW sb m1 m2 w.heap.size p S l wr) ∧ Hid (∀ k, getA l k ≠ some true) ∧ Hid (FrX (· = m2) w wr))
    (fun _ wr => wr.rangeLeft m1 r)
  case atStart => exact ⟨_, _, [], Lib.hid hrg0, Lib.hid (fun kl h => h), Lib.hid (HIA.out.below HG.out hB0), Lib.hid (fun k h => by cases h), Lib.hid ((FrX.of_below HA.out).trans ((FrX.of_below hB0)))⟩
  case round =>
    obtain ⟨left, cnt, l, HRG, HSUB, HI, HT, HF⟩ := hrel
    go_wp2_with (first
      | (at_next; refine wpList_next_ranges _ rfl _ rfl 9 strKeyed imgR Value.string id (fun key kl hk => Maps.keyOf_string_inv Tryz.underlying9 hk) (fun v y _ => ⟨v, rfl⟩) m1 r S.bd.length D left cnt rfl HRG.out ?_ ?_)
      | go_in)
    · intro _ _
      go_wp2_with fail
      go_ret
      exact ⟨rfl, HI.out.sv, HF.out⟩
    · intro x c kl yd yp w1 cnt1 hkey hlx hR hat hrg1 hlt hg1 hs1 hen
      have hkl := key_of_str hkey
      have hmem : x.data.toList ∈ S.bd.map (·.1) := by
        have := HSUB.out kl hlx
        rw [hkl, HINV.out.has] at this
        simpa using this
      have hI1 := HI.out.turned HG.out (ranges_nocell HRG.out) hg1 (by omega) (by omega) (by omega)
      have hocc := occurs_any HG sb m1 m2 w.heap.size S rk HACY.out hbl hel _ p x.data.toList l w1 rfl (univ_bd hmem) hI1 (fun k hk => absurd hk (HT.out k))
      rw [kb_key] at hocc
      have HOCC := Lib.hid hocc
      have HRG1 := Lib.hid hrg1
      have HF1 : Hid (FrX (· = m2) w w1) := Lib.hid (HF.out.next (FrX.grown (X := (· = r)) hg1 rfl) (fun i hi he => by omega))
      have hlef := HRG.out.left_eq
      have HI1 := Lib.hid hI1
      have hlt1 := hrg1.lt
      clear hocc hrg1 hg1 hmem hkl hkey hlx hR hat hI1
      go_wp2_with fail
      refine HOCC.out.mono ?_
      rintro e w2 ⟨rfl, ⟨l2, hI2, ht2⟩, hf2⟩
      have hrg2 := ranges_keep2 HRG1.out (hf2.block m1 HI1.out.sv.bnd.lt (by unfold ocX; have := HI1.out.ne1; have := HI1.out.sv.ne; omega)) (hf2.block r hlt1 (by unfold ocX; omega))
      have hrel2 := hrg2.left_eq
      have HRG2 := Lib.hid hrg2
      have HI2 := Lib.hid hI2
      have HT2 := Lib.hid ht2
      have HF2 : Hid (FrX (· = m2) w w2) := Lib.hid (HF1.out.next hf2 (fun i hi he => by unfold ocX at he; omega))
      clear hrg2 hI2 ht2 hf2
      go_wp2_with fail
      exact ⟨⟨_, cnt1, l2, HRG2, Lib.hid (fun kl h => HSUB.out kl (by simp only [Bool.and_eq_true] at h; exact h.1)), HI2, Lib.hid (fun k hk => HT.out k (HT2.out k hk)), HF2⟩, by omega⟩
end Go.Proofs.YtkglopdogakfoaaGreatDoor
