/- Lists of positions compared: same. -/
import Derived.WalkKit
import Derived.ProofKit
import Derived.OpenShut
import Derived.Handy
import Derived.Lib.Hide
import Derived.BigQuiet
import Derived.Test.YtdeaehkdhghfkaaDoorSame
namespace Go.Proofs.YtdeaehkdhghfkaaDoor
open Go.RowKit

/-- the slice value v holds the positions ps -/
structure RowsIs (n₀ : Nat) (W : World) (ps : List (List Int)) (v : Value) : Prop where
  form : ∃ oa cap, v = .slice oa ps.length cap ∧ (ps ≠ [] → ∃ b o, oa = some ⟨b, o, none⟩ ∧ b < n₀ ∧ ∀ (i : Nat) p, ps[i]? = some p → ∃ h, W.cell? ⟨b, o + i, none⟩ = some h ∧ PosIs n₀ W p h)
theorem RowsIs.carry {n₀ n₁ : Nat} {A B : World} (h : Below n₀ A B) (hn : n₀ ≤ n₁) {l : List (List Int)} {s : Value} (hs : RowsIs n₀ A l s) : RowsIs n₁ B l s := by
  obtain ⟨oa, cap, rfl, hf⟩ := hs.form
  refine ⟨oa, cap, rfl, fun hne => ?_⟩
  obtain ⟨b, o, rfl, hb, hc⟩ := hf hne
  refine ⟨b, o, rfl, by omega, fun i p hp => ?_⟩
  obtain ⟨v, h1, h2⟩ := hc i p hp
  exact ⟨v, (h.cell (p := ⟨b, _, none⟩) hb).trans h1, h2.carry h hn⟩
theorem RowsIs.ofHs {W : World} {m : Nat} {v : Value} {ps : List (List Int)} {l : List Value} (h : W.ownsRow m 51 1 v l.length l) (hh : Hs m W ps l) : RowsIs W.heap.size W ps v := by
  have h0 := h
  have hl := hh.length
  rcases h.2 with ⟨rfl, hz⟩ | ⟨g, cap, cur, rfl, hb, hg, _⟩
  · exact ⟨none, 0, by rw [← hl, hz], fun hne => absurd (List.length_eq_zero_iff.1 (by omega : ps.length = 0)) hne⟩
  · refine ⟨_, cap, by rw [hl], fun _ => ⟨g, 0, rfl, (Array.getElem?_eq_some_iff.1 hg).1, fun i p hp => ?_⟩⟩
    obtain ⟨x, hx, ho⟩ := hh.get i p hp
    refine ⟨x, ?_, PosIs.ofRow ho⟩
    have := h0.cells (g := g) rfl i x hx
    have e : (⟨g, 0, none⟩ : Addr).add i = ⟨g, i, none⟩ := by unfold Addr.add; split <;> simp_all
    rw [e] at this
    rw [Nat.zero_add]
    exact this

set_option maxRecDepth 100000 in
set_option maxHeartbeats 1000000 in
theorem same_any (a b : List (List Int)) (va vb : Value) (w : World) (n₀ : Nat) (ha : RowsIs n₀ w a va) (hb : RowsIs n₀ w b vb) (hla : a.length ≤ 1048576) (hlb : b.length ≤ 1048576) (hpa : ∀ p ∈ a, p.length ≤ 1048576) (hpb : ∀ p ∈ b, p.length ≤ 1048576) :
    Calls Tryd.prog 39 #[va, vb] w fun e w' => e = .returned (.bool (decide (a = b))) ∧ ∃ m, w' = w.drewN m := by
  obtain ⟨oa, ca, rfl, hfa⟩ := ha.form
  obtain ⟨ob, cb, rfl, hfb⟩ := hb.form
  have HA := Lib.hid hfa
  have HB := Lib.hid hfb
  have HPA := Lib.hid hpa
  have HPB := Lib.hid hpb
  clear ha hb hfa hfb hpa hpb
  by_cases hlen : a.length = b.length
  · have hne : ((a.length : Int) != (b.length : Int)) = false := by rw [bne_eq_false_iff_eq]; omega
    have HLEN := Lib.hid hlen
    go_enter Tryd.func39, Tryd.ntmps39
    go_wp2_with fail
    go_loopw [13] (fun i wr => ∃ (j m : Nat), j ≤ a.length ∧ i = .int .i64 j ∧ wr = w.drewN m ∧ Hid (∀ k, k < j → a[k]? = b[k]?)) (fun i _ => a.length - (intOf i).toNat)
    case atStart => exact ⟨0, 0, by omega, rfl, rfl, Lib.hid (fun k h => absurd h (by omega))⟩
    case round =>
      obtain ⟨j, m, hj, rfl, hwr, HE⟩ := hrel
      have HW := Lib.hid hwr
      by_cases hlt : j < a.length
      · have hltb : j < b.length := by omega
        obtain ⟨x, hx⟩ : ∃ x, a[j]? = some x := ⟨_, List.getElem?_eq_getElem hlt⟩
        obtain ⟨y, hy⟩ : ∃ y, b[j]? = some y := ⟨_, List.getElem?_eq_getElem hltb⟩
        obtain ⟨b1, o1, rfl, _, hc1⟩ := HA.out (by rintro rfl; simp at hlt)
        obtain ⟨b2, o2, rfl, _, hc2⟩ := HB.out (by rintro rfl; simp at hltb)
        obtain ⟨v1, h1, hv1⟩ := hc1 j x hx
        obtain ⟨v2, h2, hv2⟩ := hc2 j y hy
        have h1 : wr.cell? ⟨b1, o1 + j, none⟩ = some v1 := by rw [hwr]; exact h1
        have h2 : wr.cell? ⟨b2, o2 + j, none⟩ = some v2 := by rw [hwr]; exact h2
        have hbw : Below n₀ w wr := by rw [hwr]; exact below_drewN m (Below.refl _ _)
        have HSP : Hid (∀ (r : Bool) n, r = decide (x = y) → Calls Tryd.prog 86 #[v1, v2] (wr.drewN n) fun e w' => e = .returned (.bool r) ∧ ∃ k, w' = (wr.drewN n).drewN k) := Lib.hid (by
          rintro r n rfl
          exact samePos_any x y v1 v2 _ n₀ (hv1.carry (below_drewN n hbw) (Nat.le_refl _)) (hv2.carry (below_drewN n hbw) (Nat.le_refl _)) (HPA.out x (List.mem_of_getElem? hx)) (HPB.out y (List.mem_of_getElem? hy)))
        have HX := Lib.hid hx
        have HY := Lib.hid hy
        clear hc1 hc2 hx hy hv1 hv2 hwr hbw
        by_cases hxy : x = y
        · have HXY := Lib.hid hxy
          have HDEC : Hid (true = decide (x = y)) := Lib.hid (by rw [eq_comm, decide_eq_true_iff]; exact hxy)
          clear hxy
          go_wp2_with fail
          go_quiet ((go_at_call 86; exact Calls.quiet_of (HSP.out true _ HDEC.out)))
          go_wp2_with fail
          exact ⟨⟨j + 1, _, by omega, by go_num, by rw [HW.out, World.drewN_drewN], Lib.hid (fun k hk => by
            by_cases e : k = j
            · subst e; rw [HX.out, HY.out, HXY.out]
            · exact HE.out k (by omega))⟩, by simp [intOf]; omega⟩
        · have HDEC : Hid (false = decide (x = y)) := Lib.hid (by rw [eq_comm, decide_eq_false_iff_not]; exact hxy)
          have HAB : Hid (decide (a = b) = false) := Lib.hid (by rw [decide_eq_false_iff_not]; rintro rfl; have h3 := HX.out; rw [HY.out] at h3; cases h3; exact hxy rfl)
          clear hxy
          go_wp2_with fail
          go_quiet ((go_at_call 86; exact Calls.quiet_of (HSP.out false _ HDEC.out)))
          go_wp2_with fail
          go_ret
          refine ⟨by rw [HAB.out]; rfl, ?_⟩
          exact ⟨m + nq, by rw [HW.out, World.drewN_drewN]⟩
      · have HAB : Hid (decide (a = b) = true) := Lib.hid (by
          rw [decide_eq_true_iff]
          apply List.ext_getElem?
          intro k
          by_cases hk : k < a.length
          · exact HE.out k (by omega)
          · rw [List.getElem?_eq_none (by omega), List.getElem?_eq_none (by omega)])
        clear hwr
        go_wp2_with fail
        go_ret
        refine ⟨by rw [HAB.out]; rfl, ?_⟩
        exact ⟨m, HW.out⟩
  · have hne : ((a.length : Int) != (b.length : Int)) = true := by rw [bne_iff_ne]; omega
    have HAB : Hid (decide (a = b) = false) := Lib.hid (by rw [decide_eq_false_iff_not]; rintro rfl; exact hlen rfl)
    go_enter Tryd.func39, Tryd.ntmps39
    go_wp2_with fail
    go_ret
    exact ⟨by rw [HAB.out]; rfl, 0, rfl⟩
end Go.Proofs.YtdeaehkdhghfkaaDoor
