/- For every weight order, every system and every derivation the law WeightDecreases returns true and leaves its arguments as they were.
   CONDITIONS: what comes in holds together at most 1048576 values and letters. -/
import Derived.JoinedCond
import Derived.OpenShut
import Derived.ChangeSlices
import Derived.Test.YtnomppdmhgefiaaGreatF01
import Derived.Test.YtnomppdmhgefiaaGreatF04
import Derived.Test.YtnomppdmhgefiaaGreatF13
import Derived.Test.YtnomppdmhgefiaaGreatF26
namespace Go.Proofs.YtnomppdmhgefiaaGreat
open Go.RowKit Go.ChangeShapes Go.WideShapes Go.ChangeAt Go.Deep

set_option maxRecDepth 100000 in
set_option maxHeartbeats 1000000 in
theorem contractF (H : Type) (enc : TypeId × Value → H) (W : World) (base : Nat) (args : Array Value) (ds gs : List (DataW H)) (before : List MemPlace)
    (hval : ∀ (j : Nat) t v, Tryz.f5.params[j]? = some t → args[j]? = some v → Value.okWide Tryz.prog W .any base t v)
    (hW : DataW.Whole enc Tryz.prog Tryz.f5.params.toList Rows.weightDecreasesSpec.vars false W args.toList ds gs before) (hk : Rows.uptoSmall H (ds ++ gs) = true) :
    Calls Tryz.prog 5 args W fun e W' => ∃ v, e = .returned v ∧ Rows.weightDecreasesSpec.post enc Tryz.prog Tryz.f5 false true false false W args v W' := by
  have hW' := hW
  obtain ⟨p, q, hA0, hV, rfl, hfz, hnd⟩ := hW
  have hA : DataW.TrodAll enc Tryz.prog W 0 (fun _ => true) true Tryz.f5.params.toList args.toList ds p := hA0
  rw [Tryz.params5] at hA hval
  obtain ⟨v0, vs0, d0, ds0, p0, q0, hargs, rfl, rfl, h0, r0⟩ := trodAll_cons hA
  obtain ⟨v1, vs1, d1, ds1, p1, q1, hargs1, rfl, rfl, h1, r1⟩ := trodAll_cons r0
  obtain ⟨v2, vs2, d2, ds2, p2, q2, hargs2, rfl, rfl, h2, r2⟩ := trodAll_cons r1
  obtain ⟨rfl, rfl, rfl⟩ := trodAll_nil r2
  subst hargs2
  subst hargs1
  obtain rfl : args = #[v0, v1, v2] := by cases args; simp_all
  obtain ⟨rfl, rfl⟩ := trodVars_none hV
  clear hA0
  simp only [List.append_nil] at hW' hk hfz
  have hv0 := hval 0 _ v0 rfl rfl
  have hv1 := hval 1 _ v1 rfl rfl
  have hv2 := hval 2 _ v2 rfl rfl
  simp only [Value.okWide] at hv0 hv2
  obtain ⟨c0, rfl, -, -⟩ := hv0
  obtain ⟨oy, ny, ky, rfl⟩ := okWide_slice Tryz.underlying22 hv1
  obtain ⟨c2, rfl, -, -⟩ := hv2
  have H0 := h0
  have H1 := h1
  have H2 := h2
  obtain ⟨n0, k0⟩ := h0
  obtain ⟨n1, k1⟩ := h1
  obtain ⟨n2, k2⟩ := h2
  simp only [Value.cells] at k0 k1 k2
  obtain ⟨P, lv, u, e0, hP, hPb⟩ := order_open enc W n0 _ _ k0
  obtain ⟨R, hR, hRl, hRb⟩ := rules_open enc W n1 _ _ k1 (fun b off hp => hfz b off (by simp [hp]))
  obtain ⟨t, s, L, sv, e2, hs, hst, hb2, hLl, hLp⟩ := chain_open enc W n2 _ _ k2 (fun b off hp => hfz b off (by simp [hp]))
  obtain rfl : c0 = #[lv, .int .i64 u] := by cases c0; simp_all
  obtain rfl : c2 = #[.string t.nm, .bool t.vr, s, sv] := by cases c2; simp_all
  have hbound : Rows.uptoBulkAll [d0, d1, d2] ≤ 1048576 := of_decide_eq_true hk
  simp only [Rows.uptoBulkAll] at hbound
  have hPb' : rkBulk P ≤ Rows.uptoBulk d0 := hPb
  have hRl' : R.length < Rows.uptoBulk d1 := hRl
  have hRb' : ∀ x ∈ sidesV R, x.1.bulk < Rows.uptoBulk d1 := hRb
  have hb2' : t.bulk < Rows.uptoBulk d2 := hb2
  have hLl' : L.length < Rows.uptoBulk d2 := hLl
  have hLp' : ∀ p ∈ L, p.2.length < Rows.uptoBulk d2 := hLp
  refine (weightDecreases_any P u lv R _ t s L sv W hP (by omega) hR (by omega) (fun x hx => by have := hRb' x hx; omega) hs hst (by omega) (fun p hp => by have := hLp' p hp; omega) (by omega)).mono ?_
  rintro e W' ⟨rfl, hb⟩
  have hsame : ∀ b : MemPlace, b.block < W.heap.size → W.sameAt W' b := fun b hbl => by
    cases b with
    | cell b off => exact hb.cell (p := ⟨b, off, none⟩) hbl
    | map b => exact hb.block b hbl
  have hlt := hW'.lt
  refine ⟨_, rfl, _, _, _, [], p0 ++ (p1 ++ (p2 ++ [])), [], hW', ?_, ?_, ?_, hb.frame _, fun h => by cases h⟩
  · exact trodAll_cons_mk (shut_bool Tryz.underlying4 _) trodAll_mk0
  · exact trodAll_cons_mk (trod_again _ (sp_order _) H0 (fun p hp => by have := hlt p (by simp [hp]); simpa using this) (fun p hp => hsame p (hlt p (by simp [hp]))))
        (trodAll_cons_mk (trod_again _ (sp_rules _) H1 (fun p hp => by have := hlt p (by simp [hp]); simpa using this) (fun p hp => hsame p (hlt p (by simp [hp]))))
          (trodAll_cons_mk (trod_again _ (sp_chain _) H2 (fun p hp => by have := hlt p (by simp [hp]); simpa using this) (fun p hp => hsame p (hlt p (by simp [hp])))) trodAll_mk0))
  · exact rfl

theorem ownGodebug : ownKnob Tryz.prog.godebug = none := by kernel_rfl
set_option maxRecDepth 100000 in
theorem liftedF (os : Os) (started : os.Started) (H : Type) (enc : TypeId × Value → H) (F : Stop.Interp) :
    ReturnsInHanded {} Tryz.checked os 5 .any ((Rows.OpenSpec.upto Rows.weightDecreasesSpec).pre6 enc Tryz.prog Tryz.f5 Rows.weightDecreasesUptoRow.domain false) (((Rows.OpenSpec.upto Rows.weightDecreasesSpec).at F).post enc Tryz.prog Tryz.f5 false true false false) := by
  refine returnsInHanded_of_cond (C := Tryz.checked) (s := Rows.OpenSpec.upto Rows.weightDecreasesSpec) (k := Rows.uptoSmall) rfl ownGodebug started (by kernel_rfl) Tryz.func5
    (OpenSpec.witness (enc := enc) (C := Tryz.checked) (s := Rows.OpenSpec.upto Rows.weightDecreasesSpec) (k := Rows.uptoSmall) rfl false ⟨#[], #[.agg #[.slice none 0 0, .int .i64 0], .slice none 0 0, .agg #[.string .empty, .bool false, .slice none 0 0, .slice none 0 0]], []⟩ 9 (by kernel_rfl) (by kernel_rfl) (by kernel_rfl)
      (x := ([.agg [.nil, .lit (.int .i64 0)], .nil, .agg [.agg [.lit (.string []), .lit (.bool false), .nil], .nil]], [], [])) (by kernel_rfl) rfl (by kernel_rfl)) ?_
  intro W base args ds gs before hval hW _ hk _
  exact contractF H enc W base args ds gs before hval hW hk

/-- The law. -/
theorem weightDecreases_holds : Rows.WeightDecreasesUptoSaid :=
  OpenClaim.holds_of_cond 5 Tryz.f5 rfl rfl rfl rfl rfl rfl rfl ⟨rfl, rfl, rfl, rfl, rfl⟩ rfl rfl rfl rfl rfl (by kernel_rfl) Tryz.func5 (by kernel_rfl)
    (of_decide_eq_true (by kernel_rfl)) (by unfold Func.isWrapper; first | (rw [if_pos (by decide +kernel)]; kernel_rfl) | (rw [if_neg (by decide +kernel)]; exact ⟨rfl, rfl⟩))
    (fun os started H enc _ F => liftedF os started H enc F)
end Go.Proofs.YtnomppdmhgefiaaGreat
