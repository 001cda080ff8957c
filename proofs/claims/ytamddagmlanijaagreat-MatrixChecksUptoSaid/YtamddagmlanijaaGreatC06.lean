/- Packed: Mxe, Rnp. -/
import Derived.Test.YtamddagmlanijaaGreatC05
import Derived.StillTailTactics
import Derived.WalkKit
import Derived.ProofKit
import Derived.OpenShut
import Derived.Handy
import Derived.Lib.Hide
import Derived.Test.YtamddagmlanijaaGreatC04
import Derived.Deep.RegionHeld3
/- Package matrix: checkEntry. -/
namespace Go.Proofs.YtamddagmlanijaaGreat
open Go.RowKit

/-- a row has not d elements -/
def wrongB (d : Nat) (r : List Nat) : Bool := decide (r.length ≠ d)
/-- a row has a great element -/
def largeB (r : List Nat) : Bool := r.any fun n => decide (1048576 < n)
def formB (d : Nat) (v : List Nat) (ms : List (List (List Nat))) : Bool := !wrongB d v && decide (ms.length ≤ 8) && ms.all fun m => decide (m.length = d) && !(m.any (wrongB d))
def smallB (v : List Nat) (ms : List (List (List Nat))) : Bool := !largeB v && !(ms.any fun m => m.any largeB)
/-- the first error of an entry -/
def entC (d : Nat) (v : List Nat) (ms : List (List (List Nat))) : Int := if formB d v ms = true then (if smallB v ms = true then 0 else 2) else 4
/-- small enough to be read -/
def mxSm (p : Mx) : Prop := p.1.length ≤ 1048576 ∧ p.2.1.length ≤ 1048576 ∧ p.2.2.length ≤ 1048576 ∧ ∀ m ∈ p.2.2, m.length ≤ 1048576 ∧ ∀ r ∈ m, r.length ≤ 1048576

set_option maxRecDepth 100000 in
theorem wrong_any (d n c : Nat) (ov : Option Addr) (pb : Nat) (W : World) (hd : W.cell? ⟨pb, 0, none⟩ = some (.int .i64 (d : Int))) :
    Calls Tryz.prog 156 #[.slice ov n c, .pointer (some ⟨pb, 0, none⟩)] W fun e w' => e = .returned (.bool (decide (n ≠ d))) ∧ Below W.heap.size W w' := by
  go_enter Tryz.func156, Tryz.ntmps156
  by_cases h : n = d
  · subst h
    go_wp2_with fail
    go_ret
    exact ⟨by simp, Below.refl _ _⟩
  · have hne : ((n : Int) != (d : Int)) = true := by rw [bne_iff_ne]; omega
    rw [decide_eq_true h]
    clear h
    go_wp2_with fail
    go_ret
    exact ⟨by simp, Below.refl _ _⟩
set_option maxRecDepth 100000 in
theorem large1_any (x : Nat) (W : World) :
    Calls Tryz.prog 159 #[.int .u64 (x : Int)] W fun e w' => e = .returned (.bool (decide (1048576 < x))) ∧ Below W.heap.size W w' := by
  go_enter Tryz.func159, Tryz.ntmps159
  have hd : decide ((1048576 : Int) < (x : Int)) = decide (1048576 < x) := decide_eq_decide.2 (by omega)
  go_wp2_with fail
  go_ret
  exact ⟨by rw [← hd]; rfl, Below.refl _ _⟩
set_option maxRecDepth 100000 in
theorem large_any (r : List Nat) (v : Value) (W : World) (hr : U64Is W.heap.size W r v) (hl : r.length ≤ 1048576) :
    Calls Tryz.prog 158 #[v] W fun e w' => e = .returned (.bool (largeB r)) ∧ Below W.heap.size W w' := by
  have HC := Lib.hid (cfU_any 159 #[] (enters_of Tryz.func159 (by kernel_rfl) rfl) (fun n => decide (1048576 < n)) r v W hr hl (Lib.hid fun x _ W' _ => large1_any x W'))
  obtain ⟨ov, cv, rfl⟩ := hr.sh
  clear hr
  go_enter Tryz.func158, Tryz.ntmps158
  go_wp2_with fail
  refine HC.out.mono ?_
  rintro e w1 ⟨rfl, hb⟩
  go_wp2_with fail
  go_ret
  exact ⟨rfl, hb⟩
set_option maxRecDepth 100000 in
theorem large3_any (m : List (List Nat)) (v : Value) (pb : Nat) (W : World) (hd : W.cell? ⟨pb, 0, none⟩ = some (.func (.func 158) #[] #[])) (hr : RowsU W.heap.size W m v) (hl : m.length ≤ 1048576) (hll : ∀ r ∈ m, r.length ≤ 1048576) :
    Calls Tryz.prog 160 #[v, .pointer (some ⟨pb, 0, none⟩)] W fun e w' => e = .returned (.bool (m.any largeB)) ∧ Below W.heap.size W w' := by
  have HC := Lib.hid (cfR_any 158 #[] (enters_of Tryz.func158 (by kernel_rfl) rfl) largeB m v W hr hl (Lib.hid fun x hx W' u _ hu => large_any x u W' hu (hll x hx)))
  obtain ⟨ov, cv, rfl⟩ := hr.shape
  clear hr
  go_enter Tryz.func160, Tryz.ntmps160
  go_wp2_with fail
  refine HC.out.mono ?_
  rintro e w1 ⟨rfl, hb⟩
  go_wp2_with fail
  go_ret
  exact ⟨rfl, hb⟩

/-- the boxes of checkEntry -/
structure EnSt (w W : World) (d : Nat) (nm : ByteArray) (vv mv : Value) : Prop where
  b0 : W.heap[w.heap.size]? = some (.cells #[.int .i64 (d : Int)] 3 (0, 0))
  b1 : W.heap[w.heap.size + 1]? = some (.cells #[.string nm, vv, mv] 142 (0, 0))
  low : Below w.heap.size w W
theorem EnSt.carry {w A W : World} {d : Nat} {nm : ByteArray} {vv mv : Value} (h : EnSt w A d nm vv mv) (hb : Below A.heap.size A W) : EnSt w W d nm vv mv :=
  ⟨(hb.block _ (Array.getElem?_eq_some_iff.1 h.b0).1).trans h.b0, (hb.block _ (Array.getElem?_eq_some_iff.1 h.b1).1).trans h.b1, h.low.trans (hb.mono h.low.size)⟩
theorem EnSt.cs {w W : World} {d : Nat} {nm : ByteArray} {vv mv : Value} (h : EnSt w W d nm vv mv) : W.cell? ⟨w.heap.size, 0, none⟩ = some (.int .i64 (d : Int)) ∧ W.cell? ⟨w.heap.size + 1, 0, none⟩ = some (.string nm) ∧ W.cell? ⟨w.heap.size + 1, 1, none⟩ = some vv ∧ W.cell? ⟨w.heap.size + 1, 2, none⟩ = some mv :=
  ⟨cells_of' h.b0 0, cells_of' h.b1 0, cells_of' h.b1 1, cells_of' h.b1 2⟩
theorem formB_mats {d : Nat} {v : List Nat} {ms : List (List (List Nat))} (h : formB d v ms = true) : ∀ m ∈ ms, m.length = d ∧ m.any (wrongB d) = false := by
  unfold formB at h
  simp only [Bool.and_eq_true, List.all_eq_true, decide_eq_true_eq, Bool.not_eq_true'] at h
  exact h.2
theorem formB_of {d : Nat} {v : List Nat} {ms : List (List (List Nat))} (h1 : v.length = d) (h2 : ms.length ≤ 8) (h3 : ∀ m ∈ ms, m.length = d ∧ m.any (wrongB d) = false) : formB d v ms = true := by
  unfold formB wrongB
  simp only [Bool.and_eq_true, List.all_eq_true, decide_eq_true_eq, Bool.not_eq_true', decide_eq_false_iff_not, Decidable.not_not]
  exact ⟨⟨h1, h2⟩, h3⟩
theorem entC_form {d : Nat} {v : List Nat} {ms : List (List (List Nat))} (h : ¬ formB d v ms = true) : entC d v ms = 4 := by unfold entC; rw [if_neg h]
theorem entC_big {d : Nat} {v : List Nat} {ms : List (List (List Nat))} (h : formB d v ms = true) (k : ¬ smallB v ms = true) : entC d v ms = 2 := by unfold entC; rw [if_pos h, if_neg k]
theorem entC_ok {d : Nat} {v : List Nat} {ms : List (List (List Nat))} (h : formB d v ms = true) (k : smallB v ms = true) : entC d v ms = 0 := by unfold entC; rw [if_pos h, if_pos k]
set_option maxRecDepth 100000 in
set_option maxHeartbeats 8000000 in
theorem checkEntry_any (d : Nat) (p : Mx) (vv mv : Value) (w : World) (hv : U64Is w.heap.size w p.2.1 vv) (hm : MatsU w.heap.size w p.2.2 mv) (hs : mxSm p) :
    Calls Tryz.prog 90 #[.int .i64 (d : Int), .agg #[.string (kb p.1), vv, mv]] w fun e w' => e = .returned (.int .i64 (entC d p.2.1 p.2.2)) ∧ Below w.heap.size w w' := by
  obtain ⟨nm, v, ms⟩ := p
  simp only at hv hm ⊢
  obtain ⟨ov, cv, rfl⟩ := hv.sh
  obtain ⟨om, cm, rfl⟩ := hm.shape
  have HV := Lib.hid hv
  have HMS := Lib.hid hm
  have HSM := Lib.hid hs
  clear hv hm hs
  go_enter Tryz.func90, Tryz.ntmps90
  have HM0 : Hid (EnSt w ((w.alloc (.cells #[.int .i64 (d : Int)] 3)).alloc (.cells #[.string (kb nm), .slice ov v.length cv, .slice om ms.length cm] 142)) d (kb nm) (.slice ov v.length cv) (.slice om ms.length cm)) := Lib.hid ⟨(Below.heap_alloc _ _ _ (by simp)).trans (heap_new_at _ _ _ rfl), heap_new_at _ _ _ (by simp), by go_grown⟩
  go_wp2_with fail
  refine (wrong_any d v.length cv ov w.heap.size _ HM0.out.cs.1).mono ?_
  rintro e w1 ⟨rfl, hb⟩
  have HM1 := Lib.hid (HM0.out.carry hb)
  obtain ⟨c0, c1, c2, c3⟩ := HM1.out.cs
  clear hb HM0
  by_cases hvd : v.length = d
  rotate_left
  · have HE : Hid (entC d v ms = 4) := Lib.hid (entC_form fun h => by
      unfold formB wrongB at h
      simp only [Bool.and_eq_true, Bool.not_eq_true', decide_eq_false_iff_not, Decidable.not_not] at h
      exact hvd h.1.1)
    rw [decide_eq_true hvd]
    clear hvd
    go_wp2_with fail
    go_ret
    exact ⟨by rw [HE.out]; rfl, HM1.out.low⟩
  have HVD := Lib.hid hvd
  rw [show decide (v.length ≠ d) = false from decide_eq_false fun h => h hvd]
  clear hvd
  by_cases h8 : 8 < ms.length
  · have HE : Hid (entC d v ms = 4) := Lib.hid (entC_form fun h => by
      unfold formB at h
      simp only [Bool.and_eq_true, decide_eq_true_eq] at h
      omega)
    have hd8 : decide ((8 : Int) < (ms.length : Int)) = true := decide_eq_true (by omega)
    go_wp2_with fail
    go_ret
    exact ⟨by rw [HE.out]; rfl, HM1.out.low⟩
  have hd8 : decide ((8 : Int) < (ms.length : Int)) = false := decide_eq_false (by omega)
  go_wp2_with fail
  clear c0 c1 c2 c3
  go_loopw [23] (fun i wr => ∃ k : Nat, k ≤ ms.length ∧ i = .int .i64 k ∧ Hid (∀ m ∈ ms.take k, m.length = d ∧ m.any (wrongB d) = false) ∧ Hid (EnSt w wr d (kb nm) (.slice ov v.length cv) (.slice om ms.length cm))) (fun i _ => ms.length - (intOf i).toNat)
  case atStart => exact ⟨0, by omega, rfl, Lib.hid (by simp), HM1⟩
  case round =>
    obtain ⟨k, hk, rfl, HN, HM⟩ := hrel
    clear HM1
    obtain ⟨c0, c1, c2, c3⟩ := HM.out.cs
    by_cases hlt : k < ms.length
    · obtain ⟨b, o, m, or', cr, rfl, hbn, hmk, hrow, e0⟩ := MatsU.at1 (HMS.out.carry keeps_MatsU HM.out.low HM.out.low.size) hlt
      have HMK := Lib.hid hmk
      have HROW := Lib.hid hrow
      have hmm := List.mem_of_getElem? hmk
      have hml := (HSM.out.2.2.2 m hmm).1
      have HRL := Lib.hid (HSM.out.2.2.2 m hmm).2
      clear hmk hrow
      by_cases hmd : m.length = d
      rotate_left
      · have HE : Hid (entC d v ms = 4) := Lib.hid (entC_form fun h => hmd (formB_mats h m hmm).1)
        have hne : ((m.length : Int) != (d : Int)) = true := by rw [bne_iff_ne]; omega
        clear hmd
        go_wp2_with fail
        go_ret
        exact ⟨by rw [HE.out]; rfl, HM.out.low⟩
      have hne : ((m.length : Int) != (d : Int)) = false := by rw [bne_eq_false_iff_eq]; omega
      have HMD := Lib.hid hmd
      clear hmd
      have HCF := Lib.hid (cfR_any 156 #[.pointer (some ⟨w.heap.size, 0, none⟩)] (enters_of Tryz.func156 (by kernel_rfl) rfl) (wrongB d) m (.slice or' m.length cr) wr HROW.out hml (Lib.hid fun x _ W u hW hu => by
        obtain ⟨ox, cx, rfl⟩ := hu.sh
        exact wrong_any d x.length cx ox w.heap.size W ((HM.out.carry hW).cs.1)))
      go_wp2_with fail
      refine HCF.out.mono ?_
      rintro e w2 ⟨rfl, hb2⟩
      have HM2 := Lib.hid (HM.out.carry hb2)
      clear hb2 HCF c0 c1 c2 c3 e0
      cases hw : m.any (wrongB d)
      · have HW := Lib.hid hw
        clear hw
        go_wp2_with fail
        refine ⟨⟨k + 1, by omega, by push_cast; rfl, Lib.hid ?_, HM2⟩, by simp only [intOf]; omega⟩
        intro x hx
        rw [List.take_add_one, HMK.out] at hx
        rcases List.mem_append.1 hx with hx | hx
        · exact HN.out x hx
        · obtain rfl := List.mem_singleton.1 hx
          exact ⟨HMD.out, HW.out⟩
      · have HE : Hid (entC d v ms = 4) := Lib.hid (entC_form fun h => by have := (formB_mats h m hmm).2; rw [hw] at this; cases this)
        clear hw
        go_wp2_with fail
        go_ret
        exact ⟨by rw [HE.out]; rfl, HM2.out.low⟩
    · obtain rfl : k = ms.length := by omega
      have HFB : Hid (formB d v ms = true) := Lib.hid (formB_of HVD.out (by omega) (by have := HN.out; rwa [List.take_length] at this))
      have hbx : Below wr.heap.size wr (wr.alloc (.cells #[.func (.func 158) #[] #[]] 220)) := by go_grown
      have HMX := Lib.hid (HM.out.carry hbx)
      have HFX : Hid ((wr.alloc (.cells #[.func (.func 158) #[] #[]] 220)).cell? ⟨wr.heap.size, 0, none⟩ = some (.func (.func 158) #[] #[])) := Lib.hid (cells_of' (heap_new_at wr (.cells #[.func (.func 158) #[] #[]] 220) _ rfl) 0)
      clear hbx
      have HLA := Lib.hid (large_any v (.slice ov v.length cv) _ (HV.out.carry HMX.out.low HMX.out.low.size) HSM.out.2.1)
      have hst : ∀ (a : Addr) (m : Mode) (W : World), Sem.run Tryz.prog (store a (.func (.func 158) #[] #[]) m) W = stored Tryz.prog W a (.func (.func 158) #[] #[]) m := fun a m W => run_store Tryz.prog W a _ m rfl
      have hfx := HFX.out
      have hz1 := (Array.getElem?_eq_some_iff.1 HM.out.b1).1
      have hz2 : ¬ (w.heap.size + 1 = wr.heap.size) := by omega
      go_wp2_with fail
      clear hst hfx
      refine HLA.out.mono ?_
      rintro e w2 ⟨rfl, hb2⟩
      have HM2 := Lib.hid (HMX.out.carry hb2)
      have HF2 : Hid (w2.cell? ⟨wr.heap.size, 0, none⟩ = some (.func (.func 158) #[] #[])) := Lib.hid ((hb2.cell (p := ⟨wr.heap.size, 0, none⟩) (by simp)).trans HFX.out)
      have hwz : wr.heap.size < w2.heap.size := by have := hb2.size; simp at this; omega
      clear hb2 HLA c0 c1 c2 c3
      obtain ⟨c0, c1, c2, c3⟩ := HM2.out.cs
      cases hlv : largeB v
      rotate_left
      · have HE : Hid (entC d v ms = 2) := Lib.hid (entC_big HFB.out fun h => by unfold smallB at h; rw [hlv] at h; simp at h)
        clear hlv
        go_wp2_with fail
        go_ret
        exact ⟨by rw [HE.out]; rfl, HM2.out.low⟩
      have HLV := Lib.hid hlv
      clear hlv
      have HCM := Lib.hid (cfM_any 160 #[.pointer (some ⟨wr.heap.size, 0, none⟩)] (enters_of Tryz.func160 (by kernel_rfl) rfl) (fun m => m.any largeB) ms (.slice om ms.length cm) w2 (HMS.out.carry keeps_MatsU HM2.out.low HM2.out.low.size) HSM.out.2.2.1 (Lib.hid fun x hx W u hW hu => large3_any x u wr.heap.size W ((hW.cell (p := ⟨wr.heap.size, 0, none⟩) hwz).trans HF2.out) hu (HSM.out.2.2.2 x hx).1 (HSM.out.2.2.2 x hx).2))
      go_wp2_with fail
      refine HCM.out.mono ?_
      rintro e w3 ⟨rfl, hb3⟩
      have HM3 := Lib.hid (HM2.out.carry hb3)
      clear hb3 HCM c0 c1 c2 c3
      cases hla : ms.any fun m => m.any largeB
      · have HE : Hid (entC d v ms = 0) := Lib.hid (entC_ok HFB.out (by unfold smallB; rw [HLV.out, hla]; rfl))
        clear hla
        go_wp2_with fail
        go_ret
        exact ⟨by rw [HE.out]; rfl, HM3.out.low⟩
      · have HE : Hid (entC d v ms = 2) := Lib.hid (entC_big HFB.out fun h => by unfold smallB at h; rw [hla] at h; simp at h)
        clear hla
        go_wp2_with fail
        go_ret
        exact ⟨by rw [HE.out]; rfl, HM3.out.low⟩
end Go.Proofs.YtamddagmlanijaaGreat
/- Merged: Ren, App, App2, Rnp. -/
/- The reference's Renaming. -/
namespace Go.Proofs.YtamddagmlanijaaGreat
open Go.RowKit

/-- the cells of bindings to bare terms -/
def bcells (bl : List Bd) : List Value := bl.flatMap fun p => [.string (kb p.1), .string p.2.nm, .bool p.2.vr, .slice none 0 0]
theorem bcells_at (bl : List Bd) (i : Nat) (p : Bd) (h : bl[i]? = some p) :
    (bcells bl)[i * 4]? = some (.string (kb p.1)) ∧ (bcells bl)[i * 4 + 1]? = some (.string p.2.nm) ∧ (bcells bl)[i * 4 + 2]? = some (.bool p.2.vr) ∧ (bcells bl)[i * 4 + 3]? = some (.slice none 0 0) := by
  induction bl generalizing i with
  | nil => simp at h
  | cons q bl ih =>
    cases i with
    | zero => simp at h; subst h; simp [bcells]
    | succ i =>
      obtain ⟨h1, h2, h3, h4⟩ := ih i (by simpa using h)
      have e : ∀ r, (i + 1) * 4 + r = i * 4 + r + 4 := fun r => by omega
      refine ⟨?_, ?_, ?_, ?_⟩
      · have := e 0; simp only [Nat.add_zero] at this; rw [this]; simpa [bcells] using h1
      · rw [e 1]; simpa [bcells] using h2
      · rw [e 2]; simpa [bcells] using h3
      · rw [e 3]; simpa [bcells] using h4
theorem BindsIs.ofRow {W : World} {m : Nat} {e : TypeId} {v : Value} {bl : List Bd} (h : W.ownsRow m e 4 v bl.length (bcells bl)) (hb : ∀ p ∈ bl, p.2.ts = []) : BindsIs W.heap.size W bl v := by
  have h0 := h
  rcases h.2 with ⟨rfl, hl⟩ | ⟨g, cap, cur, rfl, hbg, hg, hle, _⟩
  · exact ⟨none, 0, by rw [hl], by omega, fun hne => absurd (List.length_eq_zero_iff.1 hl) hne⟩
  · refine ⟨_, cap, rfl, hle, fun _ => ⟨g, 0, rfl, (Array.getElem?_eq_some_iff.1 hg).1, fun i p hp => ?_⟩⟩
    obtain ⟨h1, h2, h3, h4⟩ := bcells_at bl i p hp
    have key : ∀ j u, (bcells bl)[j]? = some u → W.cell? ⟨g, 0 + j, none⟩ = some u := fun j u hj => by
      have := h0.cells (g := g) rfl j u hj
      rwa [ad_add] at this
    exact ⟨.slice none 0 0, key _ _ h1, by rw [Nat.add_assoc]; exact key _ _ h2, by rw [Nat.add_assoc]; exact key _ _ h3, by rw [Nat.add_assoc]; exact key _ _ h4, by rw [hb p (List.mem_of_getElem? hp)]; exact .nil0⟩
theorem own_none (v : Value) : v.ownBlock = none ∨ v.ownBlock ≠ none := by cases v.ownBlock <;> simp
theorem ownsRow_shape {W : World} {m n size : Nat} {e : TypeId} {v : Value} {xs : List Value} (h : W.ownsRow m e size v n xs) : ∃ oa cap, v = .slice oa n cap := by
  rcases h.2 with ⟨rfl, rfl⟩ | ⟨g, cap, cur, rfl, _⟩
  · exact ⟨_, _, rfl⟩
  · exact ⟨_, _, rfl⟩
/-- what has been collected -/
structure RenSt (l r : List Key) (j i : Nat) (x : Key) (bl : List Bd) : Prop where
  say : ∀ p ∈ bl, ∃ m, l[m]? = some p.1 ∧ p.2 = .mk (xname digN m) true []
  all : ∀ k ∈ r.take j, k ∈ l → ∃ p ∈ bl, p.1 = k
  cur : x ∈ l.take i → ∃ p ∈ bl, p.1 = x
  len : bl.length ≤ j * l.length + i
theorem RenSt.take {l r : List Key} {j i : Nat} {x : Key} {bl : List Bd} (h : RenSt l r j i x bl) (hy : l[i]? = some x) : RenSt l r j (i + 1) x (bl ++ [(x, .mk (xname digN i) true [])]) := by
  refine ⟨fun p hp => ?_, fun k hk hkl => ?_, fun _ => ⟨_, List.mem_append_right _ (List.mem_singleton.2 rfl), rfl⟩, by have := h.len; simp; omega⟩
  · rcases List.mem_append.1 hp with hp | hp
    · exact h.say p hp
    · obtain rfl := List.mem_singleton.1 hp
      exact ⟨i, hy, rfl⟩
  · obtain ⟨p, hp, e⟩ := h.all k hk hkl
    exact ⟨p, List.mem_append_left _ hp, e⟩
theorem RenSt.next {l r : List Key} {j : Nat} {x : Key} {bl : List Bd} (h : RenSt l r j l.length x bl) (hx : r[j]? = some x) (y : Key) : RenSt l r (j + 1) 0 y bl := by
  refine ⟨h.say, fun k hk hkl => ?_, fun h0 => by simp at h0, by have := h.len; rw [Nat.succ_mul]; omega⟩
  rw [List.take_add_one, hx] at hk
  simp only [Option.toList_some, List.mem_append, List.mem_singleton] at hk
  rcases hk with hk | rfl
  · exact h.all k hk hkl
  · exact h.cur (by rw [List.take_length]; exact hkl)
theorem RenSt.bare {l r : List Key} {j i : Nat} {x : Key} {bl : List Bd} (h : RenSt l r j i x bl) : ∀ p ∈ bl, p.2.ts = [] := fun p hp => by
  obtain ⟨m, _, e⟩ := h.say p hp
  rw [e]; rfl

end Go.Proofs.YtamddagmlanijaaGreat
/- The reference's Apply. -/
namespace Go.Proofs.YtamddagmlanijaaGreat
open Go.RowKit

/-- The slice value s holds the terms l, in blocks of which p holds. -/
inductive SlP (p : Nat → Prop) (W : World) : List Tm → Value → Prop
  | nil0 : SlP p W [] (.slice none 0 0)
  | nil1 (a : Addr) (cap : Nat) : SlP p W [] (.slice (some a) 0 cap)
  | row (b o cap : Nat) (l : List Tm) (s : Nat → Value) : l ≠ [] → p b → l.length ≤ cap →
      (∀ i t, l[i]? = some t → W.cell? ⟨b, o + i * 3, none⟩ = some (.string t.nm) ∧ W.cell? ⟨b, o + i * 3 + 1, none⟩ = some (.bool t.vr) ∧ W.cell? ⟨b, o + i * 3 + 2, none⟩ = some (s i)) →
      (∀ i t, l[i]? = some t → SlP p W t.ts (s i)) → (∀ i, i < l.length * 3 → W.frozen? ⟨b, o + i, none⟩ = false) → SlP p W l (.slice (some ⟨b, o, none⟩) l.length cap)
theorem frozen_same {A B : World} {b : Nat} (h : B.heap[b]? = A.heap[b]?) (j : Nat) : B.frozen? ⟨b, j, none⟩ = A.frozen? ⟨b, j, none⟩ := by unfold World.frozen?; simp only [h]
theorem SlP.carry {p q : Nat → Prop} {A B : World} (h : ∀ b, p b → B.heap[b]? = A.heap[b]? ∧ q b) {l : List Tm} {s : Value} (hs : SlP p A l s) : SlP q B l s := by
  induction hs with
  | nil0 => exact .nil0
  | nil1 a cap => exact .nil1 a cap
  | row b o cap l s hl hb hc cells _ hf ih =>
    obtain ⟨e, hq⟩ := h b hb
    refine .row b o cap l s hl hq hc (fun i t ht => ?_) ih (fun i hi => (frozen_same e _).trans (hf i hi))
    obtain ⟨h1, h2, h3⟩ := cells i t ht
    exact ⟨(World.cell?_of_block (a := ⟨b, _, none⟩) e).trans h1, (World.cell?_of_block (a := ⟨b, _, none⟩) e).trans h2, (World.cell?_of_block (a := ⟨b, _, none⟩) e).trans h3⟩
theorem SlP.form {p : Nat → Prop} {W : World} {l : List Tm} {s : Value} (h : SlP p W l s) : ∃ oa cap, s = .slice oa l.length cap := by
  cases h with
  | nil0 => exact ⟨_, _, rfl⟩
  | nil1 a cap => exact ⟨_, _, rfl⟩
  | row => exact ⟨_, _, rfl⟩
theorem SlP.lt {p : Nat → Prop} {W : World} {l : List Tm} {s : Value} (h : SlP p W l s) : SlP (fun b => p b ∧ b < W.heap.size) W l s := by
  induction h with
  | nil0 => exact .nil0
  | nil1 a cap => exact .nil1 a cap
  | row b o cap l s hl hb hc cells _ hf ih =>
    refine .row b o cap l s hl ⟨hb, ?_⟩ hc cells ih hf
    obtain ⟨t, r, rfl⟩ : ∃ t r, l = t :: r := by
      cases l with
      | nil => exact absurd rfl hl
      | cons t r => exact ⟨t, r, rfl⟩
    exact World.block_lt_of_cell? W _ (cells 0 t rfl).1

/-- bindings applied to a term -/
def apImg (bl : List Bd) : Unit → ByteArray → Tm × Unit := fun _ nm => (imageOf bl nm.data.toList, ())
def apB (bl : List Bd) (t : Tm) : Tm := (t.rep (apImg bl) ()).1
/-- k arguments being done -/
structure ApSt (n₀ : Nat) (w : World) (bl : List Bd) (nm : ByteArray) (l : List Tm) (k : Nat) (W : World) (v : Value) (ch : List (Tm × Value)) : Prop where
  terms : ch.map (·.1) = (l.take k).map (apB bl)
  row : W.ownsRow (w.heap.size + 3) 25 3 v ch.length (stCells ch)
  kids : ∀ c ∈ ch, SlP (fun b => (b < n₀ ∨ w.heap.size + 3 ≤ b) ∧ b < W.heap.size ∧ some b ≠ v.ownBlock) W c.1.ts c.2
  low : Below w.heap.size w W
  out : W.heap[w.heap.size + 2]? = some (.cells #[.string nm, .bool false, v] 25 (0, 0))
  ret : W.heap[w.heap.size + 1]? = some (.cells #[.string ⟨#[]⟩, .bool false, .slice none 0 0] 25 (0, 0))

theorem stCells_at (st : List (Tm × Value)) (i : Nat) (c : Tm × Value) (h : st[i]? = some c) :
    (stCells st)[i * 3]? = some (.string c.1.nm) ∧ (stCells st)[i * 3 + 1]? = some (.bool c.1.vr) ∧ (stCells st)[i * 3 + 2]? = some c.2 := by
  induction st generalizing i with
  | nil => simp at h
  | cons p ch ih =>
    cases i with
    | zero => simp at h; subst h; simp [stCells]
    | succ i =>
      obtain ⟨h1, h2, h3⟩ := ih i (by simpa using h)
      have e : ∀ r, (i + 1) * 3 + r = i * 3 + r + 3 := fun r => by omega
      refine ⟨?_, ?_, ?_⟩
      · have := e 0; simp only [Nat.add_zero] at this; rw [this]; simpa [stCells] using h1
      · rw [e 1]; simpa [stCells] using h2
      · rw [e 2]; simpa [stCells] using h3
/-- a row of terms that is owned, its terms' own arguments lying elsewhere -/
theorem SlP.ofRow {p : Nat → Prop} {W : World} {m : Nat} {v : Value} {ch : List (Tm × Value)} (h : W.ownsRow m 25 3 v ch.length (stCells ch)) (hp : ∀ b, m ≤ b → p b) (hk : ∀ c ∈ ch, SlP p W c.1.ts c.2) : SlP p W (ch.map (·.1)) v := by
  have h0 := h
  have hlen : (ch.map (·.1)).length = ch.length := by simp
  rcases h.2 with ⟨rfl, hl⟩ | ⟨g, cap, cur, rfl, hbg, hg, hle, _⟩
  · obtain rfl : ch = [] := List.length_eq_zero_iff.1 hl
    exact .nil0
  · by_cases hne : ch = []
    · subst hne; exact .nil1 _ _
    · have key : ∀ j u, (stCells ch)[j]? = some u → W.cell? ⟨g, 0 + j, none⟩ = some u := fun j u hj => by
        have := h0.cells (g := g) rfl j u hj
        rwa [ad_add] at this
      have hch : ∀ i t, (ch.map (·.1))[i]? = some t → ∃ c : Tm × Value, ch[i]? = some c ∧ c.1 = t := fun i t ht => by rw [List.getElem?_map, Option.map_eq_some_iff] at ht; exact ht
      have := SlP.row (p := p) (W := W) g 0 cap (ch.map (·.1)) (fun i => ((ch[i]?).map (·.2)).getD (.bool false)) (by simpa using hne) (hp g hbg) (by rw [hlen]; exact hle)
        (fun i t ht => by
          obtain ⟨c, hci, rfl⟩ := hch i t ht
          obtain ⟨h1, h2, h3⟩ := stCells_at ch i c hci
          simp only [hci, Option.map_some, Option.getD_some]
          exact ⟨key _ _ h1, by rw [Nat.add_assoc]; exact key _ _ h2, by rw [Nat.add_assoc]; exact key _ _ h3⟩)
        (fun i t ht => by
          obtain ⟨c, hci, rfl⟩ := hch i t ht
          simp only [hci, Option.map_some, Option.getD_some]
          exact hk c (List.mem_of_getElem? hci))
        (fun i _ => by unfold World.frozen?; simp [hg])
      rw [hlen] at this
      exact this

/-- one argument more -/
theorem ApSt.step {n₀ k : Nat} {w W A W4 B W5 : World} {bl : List Bd} {nm : ByteArray} {l : List Tm} {v v5 sl : Value} {ch : List (Tm × Value)} {u : Tm} (st : ApSt n₀ w bl nm l k W v ch) (hn : n₀ ≤ w.heap.size) (hu : l[k]? = some u)
    (hA : Below W.heap.size W A) (h4 : Below A.heap.size A W4) (hsl : SlP (fun b => b < n₀ ∨ A.heap.size ≤ b) W4 (apB bl u).ts sl) (hB : Below W4.heap.size W4 B) (h5 : B.grownBy W5 v.ownBlock)
    (ho : W5.ownsRow (w.heap.size + 3) 25 3 v5 (ch.length + 1) (stCells ch ++ [.string (apB bl u).nm, .bool (apB bl u).vr, sl])) (hat : v5.ownBlock = v.ownBlock ∨ v5.ownBlock = some B.heap.size) :
    ApSt n₀ w bl nm l (k + 1) (W5.setCell ⟨w.heap.size + 2, 2, none⟩ v5) v5 (ch ++ [(apB bl u, sl)]) := by
  have zA := hA.size
  have z4 := h4.size
  have zB := hB.size
  have z5 := h5.size
  have zo := (Array.getElem?_eq_some_iff.1 st.out).1
  have zs : (W5.setCell ⟨w.heap.size + 2, 2, none⟩ v5).heap.size = W5.heap.size := by simp [World.setCell]
  have own : ∀ j, v.ownBlock = some j → w.heap.size + 3 ≤ j ∧ j < W.heap.size := fun j hj => st.row.lt j hj
  have old : ∀ b, b < W.heap.size → some b ≠ v.ownBlock → b ≠ w.heap.size + 2 → (W5.setCell ⟨w.heap.size + 2, 2, none⟩ v5).heap[b]? = W.heap[b]? := fun b hb hv h2 => by
    rw [Below.heap_setCell _ _ _ _ h2]
    exact (h5.block b (by omega) hv).trans ((hB.block b (by omega)).trans ((h4.block b (by omega)).trans (hA.block b hb)))
  have hout5 : W5.heap[w.heap.size + 2]? = some (.cells #[.string nm, .bool false, v] 25 (0, 0)) :=
    (h5.block _ (by omega) (fun e => by have := (own _ e.symm).1; omega)).trans ((hB.block _ (by omega)).trans ((h4.block _ (by omega)).trans ((hA.block _ zo).trans st.out)))
  refine ⟨?_, ?_, ?_, ?_, ?_, ?_⟩
  · rw [List.map_append, st.terms, Tm.take_snoc hu, List.map_append]; rfl
  · rw [List.length_append]
    rw [stCells_append]
    have hlt : (⟨w.heap.size + 2, 2, none⟩ : Addr).block < w.heap.size + 3 := Nat.lt_succ_self _
    exact ownsRow_setCell_below ho hlt _
  · intro c hc
    rcases List.mem_append.1 hc with hc | hc
    · refine (st.kids c hc).carry fun b hb => ⟨old b hb.2.1 hb.2.2 (by omega), hb.1, by rw [zs]; omega, ?_⟩
      rcases hat with e | e
      · rw [e]; exact hb.2.2
      · rw [e]; intro h; cases h; omega
    · obtain rfl := List.mem_singleton.1 hc
      refine hsl.lt.carry fun b hb => ⟨?_, by omega, by rw [zs]; omega, ?_⟩
      · rw [Below.heap_setCell _ _ _ _ (by show b ≠ w.heap.size + 2; omega)]
        exact (h5.block b (by omega) (fun e => by have := own _ e.symm; omega)).trans (hB.block b hb.2)
      · rcases hat with e | e
        · rw [e]; intro h; have := own _ h.symm; omega
        · rw [e]; intro h; cases h; omega
  · refine (((st.low.trans (hA.mono (by omega))).trans (h4.mono (by omega))).trans (hB.mono (by omega))).grown h5 (by omega) (fun j hj => by have := own j hj; omega) |>.setCell (p := ⟨w.heap.size + 2, 2, none⟩) (by show w.heap.size ≤ w.heap.size + 2; omega) _
  · have := set1 hout5 2 v5
    simpa using this
  · exact (old _ (by omega) (fun e => by have := (own _ e.symm).1; omega) (by omega)).trans st.ret
end Go.Proofs.YtamddagmlanijaaGreat
/- The reference's Apply: the walk. -/
namespace Go.Proofs.YtamddagmlanijaaGreat
open Go.RowKit

end Go.Proofs.YtamddagmlanijaaGreat
/- Names in their order, renamings, a term in a box. -/
namespace Go.Proofs.YtamddagmlanijaaGreat
open Go.RowKit

theorem addKey_nodup {ss : List Key} (h : ss.Nodup) (k : Key) : (addKey ss k).Nodup := by
  unfold addKey
  split
  · exact h
  · rename_i hk
    rw [List.nodup_append]
    exact ⟨h, by simp, fun a ha b hb e => by simp only [List.mem_singleton] at hb; subst hb; subst e; exact hk ha⟩
/-- a term in a box -/
structure TBx (W : World) (b : Nat) (t : Tm) (s : Value) : Prop where
  box : W.heap[b]? = some (.cells #[.string t.nm, .bool t.vr, s] 25 (0, 0))
  is : SlIs W.heap.size W t.ts s
theorem TBx.carry {A W : World} {b : Nat} {t : Tm} {s : Value} (h : TBx A b t s) (hb : Below A.heap.size A W) : TBx W b t s :=
  ⟨(hb.block b (Array.getElem?_eq_some_iff.1 h.box).1).trans h.box, h.is.carry hb hb.size⟩
theorem TBx.new {A : World} {t : Tm} {s : Value} (h : SlIs A.heap.size A t.ts s) : TBx (A.alloc (.cells #[.string t.nm, .bool t.vr, s] 25)) A.heap.size t s :=
  ⟨heap_new_at _ _ _ rfl, h.carry ((Below.refl _ A).alloc (Nat.le_refl _) _) (by simp)⟩
end Go.Proofs.YtamddagmlanijaaGreat
