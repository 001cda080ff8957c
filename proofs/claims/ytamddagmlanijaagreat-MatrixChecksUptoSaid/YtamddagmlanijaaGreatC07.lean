/- Packed: Mxf, Rks, RChk, Rcs. -/
import Derived.Test.YtamddagmlanijaaGreatC06
import Derived.Maps.AppendAt
import Derived.WalkKit
import Derived.ProofKit
import Derived.OpenShut
import Derived.Handy
import Derived.Lib.Hide
import Derived.Test.YtamddagmlanijaaGreatC05
import Derived.Test.YtamddagmlanijaaGreatC01
import Derived.Deep.RegionHeld3
import Derived.Laws.Cover1
import Derived.Sort.Walk0
import Derived.Laws.Strings
import Derived.Laws.Strings2
import Derived.Test.YtamddagmlanijaaGreatC03
import Derived.Test.YtamddagmlanijaaGreatC04
/- The reference of package matrix: formed, small. -/
namespace Go.Proofs.YtamddagmlanijaaGreat
open Go.RowKit

theorem formB_not {d : Nat} {v : List Nat} {ms : List (List (List Nat))} {m : List (List Nat)} {r : List Nat} (hm : m ∈ ms) (hr : r ∈ m) (h : r.length ≠ d) : formB d v ms = false := by
  cases hf : formB d v ms with
  | false => rfl
  | true =>
    have := (formB_mats hf m hm).2
    rw [List.any_eq_false] at this
    have := this r hr
    unfold wrongB at this
    simp at this
    exact absurd this h
set_option maxRecDepth 100000 in
set_option maxHeartbeats 8000000 in
theorem rformed9_any (d : Nat) (p : Mx) (vv mv : Value) (w : World) (hv : U64Is w.heap.size w p.2.1 vv) (hm : MatsU w.heap.size w p.2.2 mv) (hs : mxSm p) :
    Calls Tryz.prog 83 #[.int .i64 (d : Int), .agg #[.string (kb p.1), vv, mv]] w fun e w' => e = .returned (.bool (formB d p.2.1 p.2.2)) ∧ Below w.heap.size w w' := by
  obtain ⟨nm, v, ms⟩ := p
  simp only at hv hm ⊢
  obtain ⟨ov, cv, rfl⟩ := hv.sh
  obtain ⟨om, cm, rfl⟩ := hm.shape
  have HMS := Lib.hid hm
  have HSM := Lib.hid hs
  have hvl := hs.2.1
  have hml := hs.2.2.1
  clear hv hm hs
  go_enter Tryz.func83, Tryz.ntmps83
  have hb0 : Below w.heap.size w (w.alloc (.cells #[.string (kb nm), .slice ov v.length cv, .slice om ms.length cm] 142)) := by go_grown
  have HB0 := Lib.hid hb0
  clear hb0
  by_cases hvd : v.length = d
  rotate_left
  · have HE : Hid (formB d v ms = false) := Lib.hid (by unfold formB wrongB; rw [decide_eq_true hvd]; rfl)
    have hne : ((v.length : Int) != (d : Int)) = true := by rw [bne_iff_ne]; omega
    clear hvd
    go_wp2_with fail
    go_ret
    exact ⟨by rw [HE.out]; rfl, HB0.out⟩
  have hne : ((v.length : Int) != (d : Int)) = false := by rw [bne_eq_false_iff_eq]; omega
  have HVD := Lib.hid hvd
  clear hvd
  by_cases h8 : 8 < ms.length
  · have HE : Hid (formB d v ms = false) := Lib.hid (by
      unfold formB
      rw [show decide (ms.length ≤ 8) = false from decide_eq_false (by omega)]
      simp)
    have hd8 : decide ((8 : Int) < (ms.length : Int)) = true := decide_eq_true (by omega)
    go_wp2_with fail
    go_ret
    exact ⟨by rw [HE.out]; rfl, HB0.out⟩
  have hd8 : decide ((8 : Int) < (ms.length : Int)) = false := decide_eq_false (by omega)
  go_wp2_with fail
  go_loopw [23] (fun i wr => ∃ k : Nat, k ≤ ms.length ∧ i = .int .i64 k ∧ Hid (∀ m ∈ ms.take k, m.length = d ∧ m.any (wrongB d) = false) ∧ Hid (Below w.heap.size w wr)) (fun i _ => ms.length - (intOf i).toNat)
  case atStart => exact ⟨0, by omega, rfl, Lib.hid (by simp), HB0⟩
  case round =>
    obtain ⟨k, hk, rfl, HN, HB⟩ := hrel
    by_cases hlt : k < ms.length
    · obtain ⟨b, o, m, or', cr, rfl, hbn, hmk, hrow, e0⟩ := MatsU.at1 HMS.out hlt
      have e0 := (HB.out.cell (p := ⟨b, _, none⟩) hbn).trans e0
      have HMK := Lib.hid hmk
      have HROW := Lib.hid hrow
      have hmm := List.mem_of_getElem? hmk
      have hml := (HSM.out.2.2.2 m hmm).1
      have HMM := Lib.hid hmm
      have HRL := Lib.hid (HSM.out.2.2.2 m hmm).2
      clear hmk hrow hmm
      by_cases hmd : m.length = d
      rotate_left
      · have HE : Hid (formB d v ms = false) := Lib.hid (by
          cases hf : formB d v ms with
          | false => rfl
          | true => exact absurd (formB_mats hf m HMM.out).1 hmd)
        have hne : ((m.length : Int) != (d : Int)) = true := by rw [bne_iff_ne]; omega
        clear hmd
        go_wp2_with fail
        go_ret
        exact ⟨by rw [HE.out]; rfl, HB.out⟩
      have hne2 : ((m.length : Int) != (d : Int)) = false := by rw [bne_eq_false_iff_eq]; omega
      have HMD := Lib.hid hmd
      clear hmd
      go_wp2_with fail
      go_loopw [33] (fun i wq => ∃ j : Nat, j ≤ m.length ∧ i = .int .i64 j ∧ Hid (∀ r ∈ m.take j, wrongB d r = false) ∧ Hid (Below w.heap.size w wq)) (fun i _ => m.length - (intOf i).toNat)
      case atStart => exact ⟨0, by omega, rfl, Lib.hid (by simp), HB⟩
      case round =>
        obtain ⟨j, hj, rfl, HR, HBJ⟩ := hrel
        by_cases hjt : j < m.length
        · obtain ⟨b2, o2, r, orr, crr, rfl, hb2, hrj, -, g0⟩ := RowsU.at1 (HROW.out.carry keeps_RowsU HBJ.out HBJ.out.size) hjt
          have HRJ := Lib.hid hrj
          have HRM := Lib.hid (List.mem_of_getElem? hrj)
          clear hrj
          by_cases hrd : r.length = d
          rotate_left
          · have HE : Hid (formB d v ms = false) := Lib.hid (formB_not HMM.out HRM.out hrd)
            have hne3 : ((r.length : Int) != (d : Int)) = true := by rw [bne_iff_ne]; omega
            clear hrd
            go_wp2_with fail
            go_ret
            exact ⟨by rw [HE.out]; rfl, HBJ.out⟩
          have hne3 : ((r.length : Int) != (d : Int)) = false := by rw [bne_eq_false_iff_eq]; omega
          have HRD := Lib.hid hrd
          clear hrd
          go_wp2_with fail
          refine ⟨⟨j + 1, by omega, by push_cast; rfl, Lib.hid ?_, HBJ⟩, by simp only [intOf]; omega⟩
          intro x hx
          rw [List.take_add_one, HRJ.out] at hx
          rcases List.mem_append.1 hx with hx | hx
          · exact HR.out x hx
          · obtain rfl := List.mem_singleton.1 hx
            unfold wrongB
            rw [HRD.out]; simp
        · obtain rfl : j = m.length := by omega
          go_wp2_with fail
          refine ⟨⟨k + 1, by omega, by push_cast; rfl, Lib.hid ?_, HBJ⟩, by simp only [intOf]; omega⟩
          intro x hx
          rw [List.take_add_one, HMK.out] at hx
          rcases List.mem_append.1 hx with hx | hx
          · exact HN.out x hx
          · obtain rfl := List.mem_singleton.1 hx
            refine ⟨HMD.out, List.any_eq_false.2 fun r hr => ?_⟩
            have := HR.out r (by rw [List.take_length]; exact hr)
            rw [this]; decide
    · obtain rfl : k = ms.length := by omega
      have HFB : Hid (formB d v ms = true) := Lib.hid (formB_of HVD.out (by omega) (by have := HN.out; rwa [List.take_length] at this))
      go_wp2_with fail
      go_ret
      exact ⟨by rw [HFB.out]; rfl, HB.out⟩
theorem infoRow : (Tryz.prog.info? 46).map (fun i => (i.zero, i.size, i.bytes)) = some (some (.slice none 0 0), 1, 24) := by kernel_rfl
/-- the rows of a slice of rows, with their values -/
theorem RowsU.vals {n : Nat} {W : World} {l : List (List Nat)} {oa : Option Addr} {cap : Nat} (h : RowsU n W l (.slice oa l.length cap)) :
    ∃ vs : List Value, vs.length = l.length ∧ (∀ (i : Nat) (x : List Nat) (u : Value), l[i]? = some x → vs[i]? = some u → U64Is n W x u) ∧ (∀ u ∈ vs, u.oneCell' = true) ∧ ∀ ad, oa = some ad → ∀ j u, vs[j]? = some u → W.cell? (ad.add j) = some u := by
  have key : ∀ i : Fin l.length, ∃ u, U64Is n W l[i] u ∧ u.oneCell' = true ∧ ∀ ad, oa = some ad → W.cell? (ad.add i.1) = some u := by
    intro i
    obtain ⟨b, o, x, ov, cv, rfl, hb, hx, hq, hc⟩ := h.at1 i.2
    have e : x = l[i] := by rw [List.getElem?_eq_getElem i.2] at hx; exact (Option.some.inj hx).symm
    subst e
    exact ⟨_, hq, rfl, fun ad had => by cases had; rw [ad_add]; exact hc⟩
  refine ⟨List.ofFn fun i => Classical.choose (key i), by simp, ?_, ?_, ?_⟩
  · intro i x u hx hu
    obtain ⟨hi, rfl⟩ := List.getElem?_eq_some_iff.1 hu
    rw [List.getElem_ofFn]
    have := (Classical.choose_spec (key ⟨i, by simpa using hi⟩)).1
    rw [List.getElem?_eq_getElem (by simpa using hi)] at hx
    rw [← Option.some.inj hx]
    exact this
  · intro u hu
    obtain ⟨i, hi, rfl⟩ := List.getElem_of_mem hu
    rw [List.getElem_ofFn]
    exact (Classical.choose_spec (key ⟨i, by simpa using hi⟩)).2.1
  · intro ad had j u hj
    obtain ⟨hi, rfl⟩ := List.getElem?_eq_some_iff.1 hj
    rw [List.getElem_ofFn]
    exact (Classical.choose_spec (key ⟨j, by simpa using hi⟩)).2.2 ad had
/-- rows that were collected: each is a row of numbers -/
def RvOk (w : World) (rs : List (List Nat)) (vs : List Value) : Prop := vs.length = rs.length ∧ ∀ (i : Nat) (x : List Nat) (u : Value), rs[i]? = some x → vs[i]? = some u → U64Is w.heap.size w x u
theorem RvOk.append {w : World} {rs rt : List (List Nat)} {vs vt : List Value} (h : RvOk w rs vs) (k : RvOk w rt vt) : RvOk w (rs ++ rt) (vs ++ vt) := by
  refine ⟨by rw [List.length_append, List.length_append, h.1, k.1], fun i x u hx hu => ?_⟩
  by_cases e : i < rs.length
  · rw [List.getElem?_append_left e] at hx
    rw [List.getElem?_append_left (by rw [h.1]; exact e)] at hu
    exact h.2 i x u hx hu
  · rw [List.getElem?_append_right (by omega)] at hx
    rw [List.getElem?_append_right (by rw [h.1]; omega), h.1] at hu
    exact k.2 _ x u hx hu
theorem smallB_all {v : List Nat} {ms : List (List (List Nat))} : smallB v ms = !(([v] ++ ms.flatten).any largeB) := by
  unfold smallB
  rw [List.any_append, List.any_flatten]
  simp [Bool.not_or]
set_option maxRecDepth 100000 in
set_option maxHeartbeats 8000000 in
theorem rsmall9_any (p : Mx) (vv mv : Value) (w : World) (hv : U64Is w.heap.size w p.2.1 vv) (hm : MatsU w.heap.size w p.2.2 mv) (hs : mxSm p) (hml : p.2.2.length ≤ 8) :
    Calls Tryz.prog 84 #[.agg #[.string (kb p.1), vv, mv]] w fun e w' => e = .returned (.bool (smallB p.2.1 p.2.2)) ∧ Below w.heap.size w w' := by
  obtain ⟨nm, v, ms⟩ := p
  simp only at hv hm hml ⊢
  obtain ⟨ov, cv, rfl⟩ := hv.sh
  obtain ⟨om, cm, rfl⟩ := hm.shape
  have HV := Lib.hid hv
  have HMS := Lib.hid hm
  have HSM := Lib.hid hs
  have hvl := hs.2.1
  clear hv hm hs
  obtain ⟨i0, hi, hz, hs1, hb1⟩ := info_parts infoRow
  have HI := Lib.hid hi
  have HZ := Lib.hid hz
  have HS1 := Lib.hid hs1
  have HB1 := Lib.hid hb1
  clear hi hz hs1 hb1
  go_enter Tryz.func84, Tryz.ntmps84
  go_wp2_with fail
  have HR0 : Hid (((w.alloc (.cells #[.string (kb nm), .slice ov v.length cv, .slice om ms.length cm] 142)).alloc (.cells #[.slice ov v.length cv] 46)).ownsRow w.heap.size 46 1 (.slice (some ⟨w.heap.size + 1, 0, none⟩) 1 1) 1 [.slice ov v.length cv]) := Lib.hid
    ⟨rfl, .inr ⟨w.heap.size + 1, 1, #[.slice ov v.length cv], rfl, by omega, heap_new_at _ _ _ (by simp), Nat.le_refl _, by unfold maxLen; omega, rfl, rfl⟩⟩
  have hB0 : Below w.heap.size w ((w.alloc (.cells #[.string (kb nm), .slice ov v.length cv, .slice om ms.length cm] 142)).alloc (.cells #[.slice ov v.length cv] 46)) := by go_grown
  have HB0 := Lib.hid hB0
  clear hB0
  go_loopw [3, 16] (fun s i wr => ∃ (k N : Nat) (vs : List Value) (or' : Option Addr) (cr : Nat), k ≤ ms.length ∧ i = .int .i64 k ∧ s = .slice or' N cr ∧ N ≤ 1 + 1048576 * k ∧ Hid (vs.length = N ∧ wr.ownsRow w.heap.size 46 1 (.slice or' N cr) N vs) ∧ Hid (RvOk w ([v] ++ (ms.take k).flatten) vs) ∧ Hid (Below w.heap.size w wr)) (fun _ i _ => ms.length - (intOf i).toNat)
  case atStart => exact ⟨0, 1, [.slice ov v.length cv], _, _, by omega, rfl, rfl, by omega, Lib.hid ⟨rfl, HR0.out⟩, Lib.hid ⟨by simp, fun i x u hx hu => by
      cases i with
      | zero => simp at hx hu; subst hx; subst hu; exact HV.out
      | succ i => simp at hx⟩, HB0⟩
  case round =>
    obtain ⟨k, N, vs, or', cr, hk, rfl, rfl, hN, HO, HRV, HB⟩ := hrel
    by_cases hlt : k < ms.length
    · obtain ⟨b, o, m, om2, cm2, rfl, hbn, hmk, hnil, hrow, e0⟩ := MatsU.at2 HMS.out hlt
      have e0 := (HB.out.cell (p := ⟨b, _, none⟩) hbn).trans e0
      obtain ⟨vt, hvl2, hvu, hvo, hvc⟩ := hrow.vals
      have HMK := Lib.hid hmk
      have hmm := List.mem_of_getElem? hmk
      have hmlen := (HSM.out.2.2.2 m hmm).1
      have HNIL := Lib.hid hnil
      have HVL := Lib.hid hvl2
      have HVU := Lib.hid hvu
      have HVO := Lib.hid hvo
      have HVC : Hid (∀ ad, om2 = some ad → ∀ j u, vt[j]? = some u → wr.cell? (ad.add j) = some u) := Lib.hid fun ad had j u hu => by
        subst had
        have h1 := hvc ad rfl j u hu
        have h2 : (ad.add j).block < w.heap.size := World.block_lt_of_cell? w _ h1
        exact (HB.out.cell (p := ad.add j) h2).trans h1
      clear hmk hmm hnil hrow hvl2 hvu hvo hvc
      have hz := HB.out.size
      go_wp2_with (
        at_builtin
        refine wpList_append_opt rfl (.tmp 20) (.tmp 21) 148 rfl w.heap.size 46 i0 (.slice none 0 0) 1 24 Tryz.underlying148 HI.out HZ.out HS1.out HB1.out rfl (by decide) (.slice or' N cr) N vs rfl HO.out.2 om2 m.length cm2 vt rfl (by rw [HVL.out]; omega) HNIL.out HVC.out HVO.out (by unfold maxLen; omega) (by omega) hz ?_
        intro v7 w7 ho7 hg7 hat7
        obtain ⟨o7, c7, rfl⟩ := ownsRow_shape ho7
        have HO7 := Lib.hid ho7
        have HB7 : Hid (Below w.heap.size w w7) := Lib.hid (HB.out.grown hg7 hz (fun j hj => (HO.out.2.lt j hj).1))
        clear ho7 hg7 hat7)
      have hmk2 : [v] ++ (ms.take (k + 1)).flatten = ([v] ++ (ms.take k).flatten) ++ m := by
        rw [List.take_add_one, HMK.out]; simp
      refine ⟨⟨k + 1, N + m.length, vs ++ vt, o7, c7, by omega, by push_cast; rfl, rfl, by omega, Lib.hid ⟨by rw [List.length_append, HVL.out, HO.out.1], HO7.out⟩, Lib.hid ?_, HB7⟩, by simp only [intOf]; omega⟩
      rw [hmk2]
      exact HRV.out.append ⟨HVL.out, HVU.out⟩
    · obtain rfl : k = ms.length := by omega
      have HRA : Hid (RvOk w ([v] ++ ms.flatten) vs) := Lib.hid (by have := HRV.out; rwa [List.take_length] at this)
      have HSB : Hid (smallB v ms = !(([v] ++ ms.flatten).any largeB)) := Lib.hid smallB_all
      have HNL : Hid (([v] ++ ms.flatten).length = N) := Lib.hid (by rw [← HRA.out.1]; exact HO.out.1)
      have HSL : Hid (∀ r ∈ [v] ++ ms.flatten, r.length ≤ 1048576) := Lib.hid fun r hr => by
        rcases List.mem_append.1 hr with hr | hr
        · obtain rfl := List.mem_singleton.1 hr; exact hvl
        · obtain ⟨m, hm, hr⟩ := List.mem_flatten.1 hr
          exact (HSM.out.2.2.2 m hm).2 r hr
      clear HRV
      generalize [v] ++ ms.flatten = rs at *
      obtain ⟨PB, hPB⟩ : ∃ PB : World → Prop, PB = fun W => Below wr.heap.size wr W := ⟨_, rfl⟩
      have HGET : Hid (∀ W, PB W → ∀ j, j < N → ∃ (g : Nat) (x : List Nat) (ox : Option Addr) (cx : Nat), or' = some ⟨g, 0, none⟩ ∧ rs[j]? = some x ∧ U64Is W.heap.size W x (.slice ox x.length cx) ∧ W.cell? ⟨g, j, none⟩ = some (.slice ox x.length cx)) := Lib.hid fun W hW j hj => by
        rw [hPB] at hW
        have hrl : j < rs.length := by rw [HNL.out]; exact hj
        have hvl3 : j < vs.length := by rw [HO.out.1]; exact hj
        obtain ⟨g, hg, hgw⟩ : ∃ g, or' = some ⟨g, 0, none⟩ ∧ g < wr.heap.size := by
          rcases HO.out.2.2 with ⟨_, h0⟩ | ⟨g, cap, cur, hv, _, hg, _⟩
          · omega
          · simp only [Value.slice.injEq] at hv
            exact ⟨g, hv.1, (Array.getElem?_eq_some_iff.1 hg).1⟩
        subst hg
        have hu := HRA.out.2 j rs[j] vs[j] (List.getElem?_eq_getElem hrl) (List.getElem?_eq_getElem hvl3)
        have hc := HO.out.2.cells (g := g) rfl j _ (List.getElem?_eq_getElem hvl3)
        rw [show (⟨g, 0, none⟩ : Addr).add j = ⟨g, j, none⟩ by unfold Addr.add; split <;> simp_all] at hc
        obtain ⟨ox, cx, e⟩ := hu.sh
        rw [e] at hu hc
        exact ⟨g, rs[j], ox, cx, rfl, List.getElem?_eq_getElem hrl, hu.carry (HB.out.trans (hW.mono HB.out.size)) (Nat.le_trans HB.out.size hW.size), (hW.cell (p := ⟨g, j, none⟩) hgw).trans hc⟩
      have HPW : Hid (∀ W, PB W → Below w.heap.size w W) := Lib.hid fun W hW => by rw [hPB] at hW; exact HB.out.trans (hW.mono HB.out.size)
      have HP0 : Hid (PB wr) := Lib.hid (by rw [hPB]; exact Below.refl _ _)
      clear hPB HO HRA HB
      go_wp2_with fail
      go_loopw [26] (fun i wq => ∃ j : Nat, j ≤ N ∧ i = .int .i64 j ∧ Hid ((rs.take j).any largeB = false) ∧ Hid (PB wq)) (fun i _ => N - (intOf i).toNat)
      case atStart => exact ⟨0, by omega, rfl, Lib.hid (by simp), HP0⟩
      case round =>
        obtain ⟨j, hj, rfl, HN2, HBJ⟩ := hrel
        by_cases hjt : j < N
        · obtain ⟨g, x, ox, cx, rfl, hx, hu, c0⟩ := HGET.out wr HBJ.out j hjt
          have HX := Lib.hid hx
          have hxl := HSL.out x (List.mem_of_getElem? hx)
          clear hx hu
          go_wp2_with fail
          go_loopw [32] (fun i wq => ∃ q : Nat, q ≤ x.length ∧ i = .int .i64 q ∧ Hid ((x.take q).any (fun n => decide (1048576 < n)) = false) ∧ Hid (PB wq ∧ U64Is wq.heap.size wq x (.slice ox x.length cx))) (fun i _ => x.length - (intOf i).toNat)
          case atStart => exact ⟨0, by omega, rfl, Lib.hid (by simp), Lib.hid ⟨HBJ.out, by
            obtain ⟨g', x', ox', cx', e1, h1, h2, h3⟩ := HGET.out _ HBJ.out j hjt
            cases e1
            rw [HX.out] at h1; cases h1
            rw [c0] at h3; cases h3
            exact h2⟩⟩
          case round =>
            obtain ⟨q, hq, rfl, HN3, HBQ⟩ := hrel
            by_cases hqt : q < x.length
            · obtain ⟨b3, o3, n, rfl, hb3, hn, d0⟩ := HBQ.out.2.at hqt
              have HNN := Lib.hid hn
              clear hn
              by_cases hbig : 1048576 < n
              · have hd : decide ((1048576 : Int) < (n : Int)) = true := decide_eq_true (by omega)
                have HE : Hid (smallB v ms = false) := Lib.hid (by
                  rw [HSB.out, show rs.any largeB = true from List.any_eq_true.2 ⟨x, List.mem_of_getElem? HX.out, List.any_eq_true.2 ⟨n, List.mem_of_getElem? HNN.out, decide_eq_true hbig⟩⟩]; rfl)
                clear hbig
                go_wp2_with fail
                go_ret
                exact ⟨by rw [HE.out]; rfl, HPW.out _ HBQ.out.1⟩
              · have hd : decide ((1048576 : Int) < (n : Int)) = false := decide_eq_false (by omega)
                have HNB : Hid (decide (1048576 < n) = false) := Lib.hid (decide_eq_false hbig)
                clear hbig
                go_wp2_with fail
                refine ⟨⟨q + 1, by omega, by push_cast; rfl, Lib.hid ?_, HBQ⟩, by simp only [intOf]; omega⟩
                rw [List.take_add_one, HNN.out, List.any_append, HN3.out]
                simp [HNB.out]
            · obtain rfl : q = x.length := by omega
              have HXL : Hid (largeB x = false) := Lib.hid (by have := HN3.out; rwa [List.take_length] at this)
              go_wp2_with fail
              refine ⟨⟨j + 1, by omega, by push_cast; rfl, Lib.hid ?_, Lib.hid HBQ.out.1⟩, by simp only [intOf]; omega⟩
              rw [List.take_add_one, HX.out, List.any_append, HN2.out]
              simp [HXL.out]
        · obtain rfl : j = N := by omega
          have HE : Hid (smallB v ms = true) := Lib.hid (by
            have := HN2.out
            rw [List.take_of_length_le (by rw [HNL.out]; exact Nat.le_refl _)] at this
            rw [HSB.out, this]; rfl)
          go_wp2_with fail
          go_ret
          exact ⟨by rw [HE.out]; rfl, HPW.out _ HBJ.out⟩
end Go.Proofs.YtamddagmlanijaaGreat
/- Merged: Rkw, Rkc, Rks. -/
/- Package path: the small functions on entries. -/
namespace Go.Proofs.YtamddagmlanijaaGreat
open Go.RowKit Go.Shelf

/-- an entry as a value -/
@[reducible] def rkv (p : Rk) : Value := .agg #[.string (kb p.1), .int .i64 p.2.1, .int .i64 p.2.2]
end Go.Proofs.YtamddagmlanijaaGreat
/- Package path: checkList at entries, Check. -/
namespace Go.Proofs.YtamddagmlanijaaGreat
open Go.RowKit Go.Shelf

/-- the cells of an entry -/
def RkAt (W : World) (b o : Nat) (p : Rk) : Prop := W.cell? ⟨b, o, none⟩ = some (.string (kb p.1)) ∧ W.cell? ⟨b, o + 1, none⟩ = some (.int .i64 p.2.1) ∧ W.cell? ⟨b, o + 2, none⟩ = some (.int .i64 p.2.2)
theorem RkAt.carry {n : Nat} {A W : World} {b o : Nat} {p : Rk} (h : RkAt A b o p) (hb : Below n A W) (hn : b < n) : RkAt W b o p :=
  ⟨(hb.cell (p := ⟨b, _, none⟩) hn).trans h.1, (hb.cell (p := ⟨b, _, none⟩) hn).trans h.2.1, (hb.cell (p := ⟨b, _, none⟩) hn).trans h.2.2⟩
theorem RkAt.box {W : World} {b : Nat} {p : Rk} {t : TypeId} {fr : Nat × Nat} (h : W.heap[b]? = some (.cells #[.string (kb p.1), .int .i64 p.2.1, .int .i64 p.2.2] t fr)) : RkAt W b 0 p :=
  ⟨cells_of' h 0, cells_of' h 1, cells_of' h 2⟩
theorem gtB_yes {a b : Key} (h : a < b) : (!Op.bytesLess (kb a).toList (kb b).toList) = false := by rw [kb_toList, kb_toList, bytesLess_eq, decide_eq_true h]; rfl
theorem gtB_no {a b : Key} (h : ¬ a < b) : (!Op.bytesLess (kb a).toList (kb b).toList) = true := by rw [kb_toList, kb_toList, bytesLess_eq, decide_eq_false h]; rfl
/-- the names up to k are in order -/
def NmsTo (l : List Rk) (k : Nat) : Prop := ∀ i p, i < k → l[i]? = some p → isName (kb p.1) true = true ∧ ∀ q, 0 < i → l[i - 1]? = some q → q.1 < p.1
theorem NmsTo.all {l : List Rk} (h : NmsTo l l.length) : NmsOk l := fun i p hp => h i p (List.getElem?_eq_some_iff.1 hp).1 hp
theorem NmsTo.step {l : List Rk} {k : Nat} (h : NmsTo l k) {p : Rk} (hp : l[k]? = some p) (h1 : isName (kb p.1) true = true) (h2 : ∀ q, 0 < k → l[k - 1]? = some q → q.1 < p.1) : NmsTo l (k + 1) := fun i x hi hx => by
  by_cases e : i = k
  · subst e; rw [hp] at hx; cases hx; exact ⟨h1, h2⟩
  · exact h i x (by omega) hx
end Go.Proofs.YtamddagmlanijaaGreat
/- Package path: the rank of a name (a search by halves). -/
namespace Go.Proofs.YtamddagmlanijaaGreat
open Go.RowKit Go.Shelf

theorem cmpB_lt : ∀ (a b : Key), Lib.compareBytes a b < 0 ↔ a < b
  | [], [] => by simp [Lib.compareBytes]
  | [], b :: y => by simp [Lib.compareBytes]
  | a :: x, [] => by simp [Lib.compareBytes]
  | a :: x, b :: y => by
    have ih := cmpB_lt x y
    unfold Lib.compareBytes
    rw [List.cons_lt_cons_iff]
    by_cases h1 : a < b
    · simp [h1]
    · rw [if_neg h1]
      by_cases h2 : b < a
      · have hne : a ≠ b := fun e => by subst e; exact h1 h2
        simp [h1, h2, hne]
      · have he : a = b := UInt8.le_antisymm (UInt8.not_lt.1 h2) (UInt8.not_lt.1 h1)
        rw [if_neg h2, ih]
        simp [he]
theorem cmpB_eq : ∀ (a b : Key), Lib.compareBytes a b = 0 ↔ a = b
  | [], [] => by simp [Lib.compareBytes]
  | [], b :: y => by simp [Lib.compareBytes]
  | a :: x, [] => by simp [Lib.compareBytes]
  | a :: x, b :: y => by
    have ih := cmpB_eq x y
    unfold Lib.compareBytes
    by_cases h1 : a < b
    · have hne : a ≠ b := fun e => by subst e; exact absurd h1 (UInt8.lt_irrefl _)
      simp [h1, hne]
    · rw [if_neg h1]
      by_cases h2 : b < a
      · have hne : a ≠ b := fun e => by subst e; exact absurd h2 (UInt8.lt_irrefl _)
        simp [h2, hne]
      · have he : a = b := UInt8.le_antisymm (UInt8.not_lt.1 h2) (UInt8.not_lt.1 h1)
        rw [if_neg h2, ih]
        simp [he]
/-- what the search by halves knows -/
structure BsSt (l : List Rk) (k : Key) (lo hi : Nat) : Prop where
  le : lo ≤ hi
  top : hi ≤ l.length
  low : ∀ j p, j < lo → l[j]? = some p → p.1 < k
  high : ∀ j p, hi ≤ j → l[j]? = some p → ¬ p.1 < k
end Go.Proofs.YtamddagmlanijaaGreat
/- The reference's tests of names. The reference's Check: what it lets by is a term of the chapter. -/
namespace Go.Proofs.YtamddagmlanijaaGreat
open Go.RowKit

set_option maxHeartbeats 1000000 in
theorem rletter_any (c : UInt8) (w : World) : Calls Tryz.prog 187 #[.int .u8 c.toNat] w fun e w' => e = .returned (.bool (okByte c)) ∧ w = w' := by
  have HY := Lib.hid (@okByte_yes c)
  have HN := Lib.hid (@okByte_no c)
  rcases byte_cases c.toNat with h | h | h | h | h | h | h | h | h | h | h
  all_goals
    have HC := Lib.hid h
    first
      | have e95 : ((c.toNat : Int) == 95) = true := by rw [beq_iff_eq]; omega
      | have e95 : ((c.toNat : Int) == 95) = false := by rw [beq_eq_false_iff_ne]; omega
    first
      | have e39 : ((c.toNat : Int) == 39) = true := by rw [beq_iff_eq]; omega
      | have e39 : ((c.toNat : Int) == 39) = false := by rw [beq_eq_false_iff_ne]; omega
    go_enter Tryz.func187, Tryz.ntmps187
    go_wp2_with fail
    go_ret
    exact ⟨ret_bool (by first | (rw [HY.out (by have := HC.out; omega)]; done) | (rw [HY.out (by have := HC.out; omega)]; simp; omega) | (rw [HN.out (by have := HC.out; omega)]; done) | (rw [HN.out (by have := HC.out; omega)]; simp; omega)), rfl⟩

set_option maxHeartbeats 1000000 in
theorem rletters_any (s : ByteArray) (w : World) (hs : s.size ≤ 1048576) :
    Calls Tryz.prog 116 #[.string s] w fun e w' => e = .returned (.bool (plain s)) ∧ w = w' := by
  go_enter Tryz.func116, Tryz.ntmps116
  go_wp2_with fail
  go_loop [3, 6] (fun _ i => ∃ k : Nat, k ≤ s.size ∧ i = .int .i64 k ∧ Hid ((s.data.toList.take k).all okByte = true)) (fun _ i => s.size - (intOf i).toNat)
  case atStart => exact ⟨0, by omega, rfl, Lib.hid rfl⟩
  case round =>
    obtain ⟨k, hk, rfl, HA⟩ := hrel
    by_cases hlt : k < s.size
    · have HG := Lib.hid (bytes_get hlt)
      cases hc : okByte (s[k]'hlt)
      · have HC := Lib.hid hc
        clear hc
        go_wp2_with (go_at_call 187; refine (rletter_any (s[k]'hlt) _).mono ?_; rintro e w' ⟨rfl, rfl⟩; rw [HC.out])
        go_ret
        exact ⟨ret_bool (by rw [plain, all_not HG.out HC.out]), rfl⟩
      · have HC := Lib.hid hc
        clear hc
        go_wp2_with (go_at_call 187; refine (rletter_any (s[k]'hlt) _).mono ?_; rintro e w' ⟨rfl, rfl⟩; rw [HC.out])
        exact ⟨⟨k + 1, by omega, by go_num, Lib.hid (by rw [all_snoc HG.out, HA.out, HC.out]; rfl)⟩, by simp [intOf]; omega⟩
    · obtain rfl : k = s.size := by omega
      go_wp2_with fail
      go_ret
      exact ⟨ret_bool (by have := HA.out; rw [← bytes_len, List.take_length] at this; rw [plain, this]), rfl⟩

def marked (s : ByteArray) : Bool := Lib.hasSuffix s.data.toList [35]
theorem marked_last {s : ByteArray} {n : Nat} (h : n < s.size) (hn : n = s.size - 1) : ((s[n].toNat : Int) == 35) = marked s := by
  subst hn
  have hl := bytes_len s
  unfold marked
  rw [← Lib.hasSuffix_of_drop]
  have hg := bytes_get h
  have hd : s.data.toList.drop (s.data.toList.length - [(35 : UInt8)].length) = [s[s.size - 1]] := by
    have h1 : s.data.toList.length - [(35 : UInt8)].length = s.size - 1 := by rw [hl]; rfl
    rw [h1, List.drop_eq_getElem_cons (by omega), List.drop_eq_nil_of_le (by omega)]
    rfl
  rw [hd, decide_eq_true (by rw [hl]; show 1 ≤ _; omega), Bool.true_and]
  by_cases e : s[s.size - 1] = 35
  · rw [e]; rfl
  · rw [show ([s[s.size - 1]] == [(35 : UInt8)]) = false by simpa using e, beq_eq_false_iff_ne]
    intro hh
    exact e (UInt8.toNat_inj.1 (by simpa using (show s[s.size - 1].toNat = 35 by omega)))
theorem str_empty {s : ByteArray} (h : 0 < s.size) : (s.toList == []) = false := by
  have hl := bytes_len s
  rw [Lib.toList_data]
  cases hd : s.data.toList with
  | nil => rw [hd] at hl; simp at hl; omega
  | cons a l => rfl
set_option maxHeartbeats 1000000 in
theorem rmarked_any (s : ByteArray) (w : World) (hs : s.size ≤ 1048576) :
    Calls Tryz.prog 115 #[.string s] w fun e w' => e = .returned (.bool (marked s)) ∧ w = w' := by
  by_cases h0 : s.size = 0
  · obtain rfl : s = ⟨#[]⟩ := by
      obtain ⟨d⟩ := s
      have : d = #[] := Array.size_eq_zero_iff.1 h0
      rw [this]
    go_enter Tryz.func115, Tryz.ntmps115
    go_wp2_with fail
    go_ret
    exact ⟨ret_bool (by decide), rfl⟩
  · have hlt : s.size - 1 < s.size := by omega
    have hne := str_empty (s := s) (by omega)
    have HM := Lib.hid (marked_last hlt rfl)
    go_enter Tryz.func115, Tryz.ntmps115
    go_wp2_with fail
    go_ret
    exact ⟨ret_bool HM.out, rfl⟩

set_option maxHeartbeats 1000000 in
theorem risName_not (s : ByteArray) (w : World) (hs : s.size ≤ 1048576) :
    Calls Tryz.prog 50 #[.string s, .bool false] w fun e w' => e = .returned (.bool (isName s false)) ∧ w = w' := by
  by_cases h24 : s.size ≤ 24
  · by_cases h0 : 0 < s.size
    · have HE := Lib.hid (isName_eq (s := s) (m := false) h0 h24 rfl)
      have hne := str_empty h0
      go_enter Tryz.func50, Tryz.ntmps50
      go_wp2_with (go_at_call 116; refine (rletters_any _ _ (by omega)).mono ?_; rintro e w' ⟨rfl, rfl⟩)
      go_ret
      exact ⟨ret_bool HE.out.symm, rfl⟩
    · obtain rfl : s = ⟨#[]⟩ := by
        obtain ⟨d⟩ := s
        have : d = #[] := Array.size_eq_zero_iff.1 (by have : d.size = ByteArray.size ⟨d⟩ := rfl; omega)
        rw [this]
      go_enter Tryz.func50, Tryz.ntmps50
      go_wp2_with fail
      go_ret
      exact ⟨ret_bool (by decide), rfl⟩
  · have HE := Lib.hid (isName_no (s := s) (m := false) (fun h => h24 h.2))
    go_enter Tryz.func50, Tryz.ntmps50
    go_wp2_with fail
    go_ret
    exact ⟨ret_bool HE.out.symm, rfl⟩
theorem base_marked {s : ByteArray} (h : marked s = true) : 0 < s.size ∧ baseOf s true = s.extract 0 (s.size - 1) ∧ (s.extract 0 (s.size - 1)).size = s.size - 1 := by
  have hl := bytes_len s
  have h0 : 0 < s.size := by
    refine Nat.pos_of_ne_zero fun e => ?_
    rw [e] at hl
    have : s.data.toList = [] := List.length_eq_zero_iff.1 hl
    unfold marked at h
    rw [this] at h
    exact absurd h (by decide)
  have hx : (s.extract 0 (s.size - 1)).data.toList = s.data.toList.take (s.size - 1) := by
    rw [← Lib.toList_data, Lib.extract_toList, List.drop_zero, Nat.sub_zero]
  refine ⟨h0, ?_, ?_⟩
  · unfold baseOf Lib.trimSuffix
    rw [if_pos rfl, if_pos (show Lib.hasSuffix s.data.toList [35] = true from h)]
    apply ByteArray.ext
    show (List.take _ _).toArray = _
    rw [← Array.toArray_toList (xs := (s.extract 0 (s.size - 1)).data), hx, hl]
    rfl
  · rw [← bytes_len, hx, List.length_take]; omega
theorem base_plain {s : ByteArray} (h : marked s = false) : baseOf s true = s := by
  unfold baseOf Lib.trimSuffix
  rw [if_pos rfl, if_neg (by unfold marked at h; rw [h]; decide)]
set_option maxHeartbeats 1000000 in
theorem risName_yes (s : ByteArray) (w : World) (hs : s.size ≤ 1048576) :
    Calls Tryz.prog 50 #[.string s, .bool true] w fun e w' => e = .returned (.bool (isName s true)) ∧ w = w' := by
  by_cases h24 : s.size ≤ 24
  · cases hm : marked s
    · have HB := Lib.hid (base_plain hm)
      have HM := Lib.hid hm
      clear hm
      by_cases h0 : 0 < s.size
      · have HE := Lib.hid (isName_eq (s := s) (m := true) (by rw [HB.out]; exact h0) h24 rfl)
        have hne := str_empty h0
        go_enter Tryz.func50, Tryz.ntmps50
        go_wp2_with (first | (go_at_call 116; refine (rletters_any _ _ (by omega)).mono ?_; rintro e w' ⟨rfl, rfl⟩) | (go_at_call 115; refine (rmarked_any _ _ hs).mono ?_; rintro e w' ⟨rfl, rfl⟩; rw [HM.out]))
        go_ret
        exact ⟨ret_bool (by rw [HE.out, HB.out]), rfl⟩
      · obtain rfl : s = ⟨#[]⟩ := by
          obtain ⟨d⟩ := s
          have : d = #[] := Array.size_eq_zero_iff.1 (by have : d.size = ByteArray.size ⟨d⟩ := rfl; omega)
          rw [this]
        go_enter Tryz.func50, Tryz.ntmps50
        go_wp2_with (go_at_call 115; refine (rmarked_any _ _ hs).mono ?_; rintro e w' ⟨rfl, rfl⟩; rw [HM.out])
        go_ret
        exact ⟨ret_bool (by decide), rfl⟩
    · obtain ⟨hp, hb, hz⟩ := base_marked hm
      have HB := Lib.hid hb
      have HM := Lib.hid hm
      have HZ := Lib.hid hz
      clear hm hb hz
      by_cases h0 : 0 < (s.extract 0 (s.size - 1)).size
      · have HE := Lib.hid (isName_eq (s := s) (m := true) (by rw [HB.out]; exact h0) h24 rfl)
        have hne := str_empty h0
        go_enter Tryz.func50, Tryz.ntmps50
        go_wp2_with (first | (go_at_call 116; refine (rletters_any _ _ (by have := HZ.out; omega)).mono ?_; rintro e w' ⟨rfl, rfl⟩) | (go_at_call 115; refine (rmarked_any _ _ hs).mono ?_; rintro e w' ⟨rfl, rfl⟩; rw [HM.out]))
        go_ret
        exact ⟨ret_bool (by rw [HE.out, HB.out]), rfl⟩
      · have HE := Lib.hid (isName_no (s := s) (m := true) (fun h => h0 (by have := h.1; rw [HB.out] at this; exact this)))
        have HX : Hid (s.extract 0 (s.size - 1) = ⟨#[]⟩) := Lib.hid (by
          apply ByteArray.ext
          exact Array.size_eq_zero_iff.1 (by have : (s.extract 0 (s.size - 1)).data.size = (s.extract 0 (s.size - 1)).size := rfl; omega))
        have hxe : (s.extract 0 (s.size - 1)).toList = [] := by rw [HX.out, Lib.toList_data]
        go_enter Tryz.func50, Tryz.ntmps50
        go_wp2_with (go_at_call 115; refine (rmarked_any _ _ hs).mono ?_; rintro e w' ⟨rfl, rfl⟩; rw [HM.out])
        go_ret
        exact ⟨ret_bool HE.out.symm, rfl⟩
  · have HE := Lib.hid (isName_no (s := s) (m := true) (fun h => h24 h.2))
    go_enter Tryz.func50, Tryz.ntmps50
    go_wp2_with fail
    go_ret
    exact ⟨ret_bool HE.out.symm, rfl⟩
theorem risName_any (s : ByteArray) (m : Bool) (w : World) (hs : s.size ≤ 1048576) :
    Calls Tryz.prog 50 #[.string s, .bool m] w fun e w' => e = .returned (.bool (isName s m)) ∧ w = w' := by
  cases m
  · exact risName_not s w hs
  · exact risName_yes s w hs
end Go.Proofs.YtamddagmlanijaaGreat
namespace Go.Proofs.YtamddagmlanijaaGreat
open Go.RowKit

end Go.Proofs.YtamddagmlanijaaGreat
/- The reference's CompareNames draws only; CheckSubst of the reference. -/
namespace Go.Proofs.YtamddagmlanijaaGreat
open Go.RowKit

def cmpN (a b : ByteArray) : Int := if a = b then 0 else if a.data.toList < b.data.toList then -1 else 1
theorem cmpN_is {a b : ByteArray} {x y : Int} (h1 : cmpi x y = 0 ↔ a = b) (h2 : cmpi x y < 0 ↔ a.data.toList < b.data.toList) : cmpi x y = cmpN a b := by
  unfold cmpN
  by_cases e : a = b
  · rw [if_pos e]; exact h1.2 e
  · rw [if_neg e]
    have h0 : cmpi x y ≠ 0 := fun h => e (h1.1 h)
    by_cases l : a.data.toList < b.data.toList
    · rw [if_pos l]; have := h2.2 l; unfold cmpi at *; split <;> simp_all <;> omega
    · rw [if_neg l]; have : ¬ cmpi x y < 0 := fun h => l (h2.1 h); unfold cmpi at *; split <;> simp_all <;> omega
theorem drew_more {w v : World} (h : ∃ m, v = w.drewN m) (n : Nat) : ∃ m, v.drewN n = w.drewN m := by
  obtain ⟨m, rfl⟩ := h
  exact ⟨m + n, by rw [World.drewN_drewN]⟩
set_option maxHeartbeats 1000000 in
theorem cmpNames_quiet (a b : ByteArray) (w : World) (ha : a.size ≤ 1048576) (hb : b.size ≤ 1048576) :
    Calls Tryz.prog 51 #[.string a, .string b] w fun e w' => e = .returned (.int .i64 (cmpN a b)) ∧ ∃ m, w' = w.drewN m := by
  go_enter Tryz.func51, Tryz.ntmps51
  go_wp2_with fail
  go_loopw [5, 11] (fun _ i wr => ∃ k : Nat, k ≤ a.size ∧ k ≤ b.size ∧ i = .int .i64 k ∧ Hid (∀ j, j < k → a.data.toList[j]? = b.data.toList[j]?) ∧ Hid (∃ m, wr = w.drewN m)) (fun _ i _ => a.size - (intOf i).toNat)
  case atStart => exact ⟨0, by omega, by omega, rfl, Lib.hid (fun j h => absurd h (by omega)), Lib.hid ⟨0, rfl⟩⟩
  case round =>
    obtain ⟨k, hka, hkb, rfl, HE, hbw⟩ := hrel
    by_cases hlt : k < a.size ∧ k < b.size
    · obtain ⟨h1, h2⟩ := hlt
      have GA := Lib.hid (bytes_get h1)
      have GB := Lib.hid (bytes_get h2)
      by_cases hq : a[k].toNat = b[k].toNat
      · have HQ : Hid (a[k] = b[k]) := Lib.hid (UInt8.toNat_inj.1 hq)
        have hbb : (((a[k]'h1).toNat : Int) != ((b[k]'h2).toNat : Int)) = false := by rw [bne_eq_false_iff_eq]; omega
        clear hq
        go_wp2_with fail
        go_quiet (fail)
        go_wp2_with fail
        exact ⟨⟨k + 1, by omega, by omega, by go_num, Lib.hid (fun j hj => by
          by_cases e : j = k
          · subst e; rw [GA.out, GB.out, HQ.out]
          · exact HE.out j (by omega)), Lib.hid (drew_more hbw.out nq)⟩, by simp [intOf]; omega⟩
      · have HQ : Hid (a ≠ b) := Lib.hid (fun e => hq (by subst e; rfl))
        have HLT : Hid (cmpi ((a[k]'h1).toNat : Int) ((b[k]'h2).toNat : Int) < 0 ↔ a.data.toList < b.data.toList) := Lib.hid (by
          rw [cmpi_neg, lt_split HE.out GA.out GB.out (fun e => hq (by rw [e])), UInt8.lt_iff_toNat_lt]; omega)
        have HZ : Hid (cmpi ((a[k]'h1).toNat : Int) ((b[k]'h2).toNat : Int) ≠ 0) := Lib.hid (fun e => hq (by have := (cmpi_zero _ _).1 e; omega))
        have hbb : (((a[k]'h1).toNat : Int) != ((b[k]'h2).toNat : Int)) = true := by rw [bne_iff_ne]; omega
        clear hq
        go_wp2_with fail
        go_quiet (fail)
        go_wp2_with fail
        have hbq := Lib.hid (drew_more hbw.out nq)
        generalize wr.drewN nq = wq at hbq ⊢
        have hla := UInt8.toNat_lt (a[k]'h1)
        have hlb := UInt8.toNat_lt (b[k]'h2)
        have hwa : IntKind.i64.wrap ((a[k]'h1).toNat : Int) = ((a[k]'h1).toNat : Int) := IntWalk.i64_in _ (by omega)
        have hwb : IntKind.i64.wrap ((b[k]'h2).toNat : Int) = ((b[k]'h2).toNat : Int) := IntWalk.i64_in _ (by omega)
        go_quiet ((go_at_call 114; exact Calls.quiet_of_same ((cmpInts_any _ _ _).mono fun _ _ h => ⟨h.1, h.2.symm⟩)))
        go_wp2_with fail
        go_ret
        exact ⟨congrArg (fun c => Ending.returned (.int .i64 c)) (cmpN_is ⟨fun h => absurd h HZ.out, fun h => absurd h HQ.out⟩ HLT.out), drew_more hbq.out _⟩
    · go_wp2_with fail
      refine (cmpInts_any _ _ _).mono ?_
      rintro e w2 ⟨rfl, rfl⟩
      go_wp2_with fail
      go_ret
      refine ⟨congrArg (fun c => Ending.returned (.int .i64 c)) (cmpN_is ⟨fun h => ?_, fun h => ?_⟩ ?_), hbw.out⟩
      · have := (cmpi_zero _ _).1 h
        exact names_eq (by omega) (fun j hj => HE.out j (by omega))
      · subst h; exact (cmpi_zero _ _).2 rfl
      · rw [cmpi_neg, lt_end HE.out (by rw [bytes_len]; omega) (by rw [bytes_len]; omega) (by rw [bytes_len, bytes_len]; omega), bytes_len, bytes_len]; omega
end Go.Proofs.YtamddagmlanijaaGreat
