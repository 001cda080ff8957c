/- For every two terms and every substitution the law UnifyMostGeneral returns true and leaves its arguments as they were.
   CONDITIONS: what comes in holds together at most 1048576 values and letters; the listed package-level tables hold what the text of the program lays (the card ties them). -/
import Derived.Deep.DeepHandedRow
import Derived.Lib.LaidTab
import Derived.LaidSub
import Derived.MakeChecks
import Derived.OpenShut
import Derived.ChangeSlices
import Derived.Test.YtkglopdogakfoaaGreatDoorCards
import Derived.Test.YtkglopdogakfoaaGreatDoorTie
import Derived.Test.YtkglopdogakfoaaGreatDoorSp
import Derived.Test.YtkglopdogakfoaaGreatDoorRdB
import Derived.Test.YtkglopdogakfoaaGreatDoorLawG
namespace Go.Proofs.YtkglopdogakfoaaGreatDoor
open Go.RowKit Go.ChangeShapes Go.WideShapes Go.ChangeAt Go.Deep

theorem pow10Here : Tryz.prog.globalNamed "internal/strconv.uint64pow10" = some 0 := by kernel_rfl
theorem pow10Type : (Tryz.prog.globals[0]?).map (·.type) = some 204 := by kernel_rfl
/-- the table, from what the row lists -/
theorem tab_of_laid {W : World} (h : laidMetH Tryz.prog Rows.unifyMostGeneralUptoRow.laid W) : Lib.TabIs Tryz.prog W "internal/strconv.uint64pow10" .u64 Lib.pow10Tab := by
  have h3 := laidMetH.filter (fun x => x.1 == "internal/strconv.uint64pow10") h
  have e : Rows.unifyMostGeneralUptoRow.laid.filter (fun x => x.1 == "internal/strconv.uint64pow10") = [("internal/strconv.uint64pow10", Rows.laid_internal_strconv_uint64pow10)] := by rfl
  rw [e, MakeChecks.laidMetH_plain _ _ _ (by kernel_rfl)] at h3
  exact Lib.tabIs_of_head (rest := []) pow10Here pow10Type Tryz.underlying204 Tryz.underlying186 (by kernel_rfl) (by kernel_rfl) h3

set_option maxRecDepth 100000 in
set_option maxHeartbeats 1000000 in
theorem contract9 (H : Type) (enc : TypeId × Value → H) (W : World) (base : Nat) (args : Array Value) (ds gs : List (DataW H)) (before : List MemPlace)
    (hval : ∀ (j : Nat) t v, Tryz.f8.params[j]? = some t → args[j]? = some v → Value.okWide Tryz.prog W .any base t v)
    (hW : DataW.Whole enc Tryz.prog Tryz.f8.params.toList Rows.unifyMostGeneralSpec.vars false W args.toList ds gs before) (hk : Rows.uptoSmall H (ds ++ gs) = true) (hL : laidMetH Tryz.prog Rows.unifyMostGeneralUptoRow.laid W) :
    Calls Tryz.prog 8 args W fun e W' => ∃ v, e = .returned v ∧ Rows.unifyMostGeneralSpec.post enc Tryz.prog Tryz.f8 false true false false W args v W' := by
  have hW' := hW
  obtain ⟨p, q, hA0, hV, rfl, hfz, hnd⟩ := hW
  have hA : DataW.TrodAll enc Tryz.prog W 0 (fun _ => true) true Tryz.f8.params.toList args.toList ds p := hA0
  rw [Tryz.params8] at hA hval
  obtain ⟨v0, vs0, d0, ds0, p0, q0, hargs, rfl, rfl, h0, r0⟩ := trodAll_cons hA
  obtain ⟨v1, vs1, d1, ds1, p1, q1, hargs1, rfl, rfl, h1, r1⟩ := trodAll_cons r0
  obtain ⟨v2, vs2, d2, ds2, p2, q2, hargs2, rfl, rfl, h2, r2⟩ := trodAll_cons r1
  obtain ⟨rfl, rfl, rfl⟩ := trodAll_nil r2
  subst hargs2
  subst hargs1
  obtain rfl : args = #[v0, v1, v2] := by cases args; simp_all
  obtain ⟨rfl, rfl⟩ := trodVars_none hV
  clear hA0
  simp only [List.append_nil] at hW' hk hfz
  have hv0 := hval 0 _ v0 rfl rfl
  have hv1 := hval 1 _ v1 rfl rfl
  have hv2 := hval 2 _ v2 rfl rfl
  simp only [Value.okWide] at hv0
  simp only [Value.okWide] at hv1
  obtain ⟨c0, rfl, -, -⟩ := hv0
  obtain ⟨c1, rfl, -, -⟩ := hv1
  obtain ⟨ox, nx, kx, rfl⟩ := okWide_slice Tryz.underlying53 hv2
  have H0 := h0
  have H1 := h1
  have H2 := h2
  obtain ⟨n0, k0⟩ := h0
  obtain ⟨n1, k1⟩ := h1
  obtain ⟨n2, k2⟩ := h2
  simp only [Value.cells] at k0 k1 k2
  obtain ⟨t, st, e0, ht, hbt⟩ := term_open enc W n0 _ _ k0 (fun b off hp => hfz b off (by simp [hp]))
  obtain ⟨u, su, e1, hu, hbu⟩ := term_open enc W n1 _ _ k1 (fun b off hp => hfz b off (by simp [hp]))
  obtain ⟨bl, hbl, hbb, -⟩ := binds_open enc W n2 _ _ k2 (fun b off hp => hfz b off (by simp [hp]))
  obtain rfl : c0 = #[.string t.nm, .bool t.vr, st] := by cases c0; simp_all
  obtain rfl : c1 = #[.string u.nm, .bool u.vr, su] := by cases c1; simp_all
  have hbound : Rows.uptoBulkAll [d0, d1, d2] ≤ 1048576 := of_decide_eq_true hk
  simp only [Rows.uptoBulkAll] at hbound
  have hbt' : t.bulk ≤ Rows.uptoBulk d0 := hbt
  have hbu' : u.bulk ≤ Rows.uptoBulk d1 := hbu
  have hbb' : bdBulk bl ≤ Rows.uptoBulk d2 := hbb
  refine (mostGeneral_any t u bl st su _ W (tab_of_laid hL) ht hu hbl (by omega) (by omega)).mono ?_
  rintro e W' ⟨rfl, hb⟩
  have hsame : ∀ b : MemPlace, b.block < W.heap.size → W.sameAt W' b := fun b hbl => by
    cases b with
    | cell b off => exact hb.cell (p := ⟨b, off, none⟩) hbl
    | map b => exact hb.block b hbl
  have hlt := hW'.lt
  refine ⟨_, rfl, _, _, _, [], p0 ++ (p1 ++ (p2 ++ [])), [], hW', ?_, ?_, ?_, hb.frame _, fun h => by cases h⟩
  · exact trodAll_cons_mk (shut_bool Tryz.underlying4 _) trodAll_mk0
  · exact trodAll_cons_mk (trod_again _ (sp_term _) H0 (fun p hp => by have := hlt p (by simp [hp]); simpa using this) (fun p hp => hsame p (hlt p (by simp [hp]))))
        (trodAll_cons_mk (trod_again _ (sp_term _) H1 (fun p hp => by have := hlt p (by simp [hp]); simpa using this) (fun p hp => hsame p (hlt p (by simp [hp]))))
          (trodAll_cons_mk (trod_again _ (sp_binds _) H2 (fun p hp => by have := hlt p (by simp [hp]); simpa using this) (fun p hp => hsame p (hlt p (by simp [hp])))) trodAll_mk0))
  · exact rfl

theorem ownGodebug : ownKnob Tryz.prog.godebug = none := by kernel_rfl
/-- a world for the witness: the tables hold what their initialisers lay -/
def laidObj (cs : Array Value) (o : Obj) : Obj :=
  match o with
  | .cells _ t frozen => .cells cs t frozen
  | o => o
noncomputable def laidWorld (os : Os) : World :=
  { World.holding Tryz.prog os ⟨#[], #[], []⟩ with heap := (((World.holding Tryz.prog os ⟨#[], #[], []⟩).heap.modify 0 (laidObj #[.int .u64 1, .int .u64 10, .int .u64 100, .int .u64 1000, .int .u64 10000, .int .u64 100000, .int .u64 1000000, .int .u64 10000000, .int .u64 100000000, .int .u64 1000000000, .int .u64 10000000000, .int .u64 100000000000, .int .u64 1000000000000, .int .u64 10000000000000, .int .u64 100000000000000, .int .u64 1000000000000000, .int .u64 10000000000000000, .int .u64 100000000000000000, .int .u64 1000000000000000000, .int .u64 10000000000000000000])).modify 4 (laidObj #[.int .u8 0, .int .u8 1, .int .u8 28, .int .u8 2, .int .u8 29, .int .u8 14, .int .u8 24, .int .u8 3, .int .u8 30, .int .u8 22, .int .u8 20, .int .u8 15, .int .u8 25, .int .u8 17, .int .u8 4, .int .u8 8, .int .u8 31, .int .u8 27, .int .u8 13, .int .u8 23, .int .u8 21, .int .u8 19, .int .u8 16, .int .u8 7, .int .u8 26, .int .u8 12, .int .u8 18, .int .u8 6, .int .u8 11, .int .u8 5, .int .u8 10, .int .u8 9])).modify 5 (laidObj #[.int .u8 0, .int .u8 1, .int .u8 56, .int .u8 2, .int .u8 57, .int .u8 49, .int .u8 28, .int .u8 3, .int .u8 61, .int .u8 58, .int .u8 42, .int .u8 50, .int .u8 38, .int .u8 29, .int .u8 17, .int .u8 4, .int .u8 62, .int .u8 47, .int .u8 59, .int .u8 36, .int .u8 45, .int .u8 43, .int .u8 51, .int .u8 22, .int .u8 53, .int .u8 39, .int .u8 33, .int .u8 30, .int .u8 24, .int .u8 18, .int .u8 12, .int .u8 5, .int .u8 63, .int .u8 55, .int .u8 48, .int .u8 27, .int .u8 60, .int .u8 41, .int .u8 37, .int .u8 16, .int .u8 46, .int .u8 35, .int .u8 44, .int .u8 21, .int .u8 52, .int .u8 32, .int .u8 23, .int .u8 11, .int .u8 54, .int .u8 26, .int .u8 40, .int .u8 15, .int .u8 34, .int .u8 20, .int .u8 31, .int .u8 10, .int .u8 25, .int .u8 14, .int .u8 19, .int .u8 9, .int .u8 13, .int .u8 8, .int .u8 7, .int .u8 6]) }
def args9 : Array Value := #[.agg #[.string .empty, .bool false, .slice none 0 0], .agg #[.string .empty, .bool false, .slice none 0 0], .slice none 0 0]
theorem laid_met9 (os : Os) : laidMet Tryz.prog Rows.unifyMostGeneralRow.laid ((laidWorld os).forCall (fun _ _ => 0) ⟨#[], args9, []⟩).memory :=
  laidMet_of_run' 9 (by kernel_rfl) (by kernel_rfl)
theorem reads9 (os : Os) {H : Type} (enc : TypeId × Value → H) : ∃ places, DataW.whole enc Tryz.prog ((laidWorld os).forCall (fun _ _ => 0) ⟨#[], args9, []⟩).memory Tryz.f8.params.toList Rows.unifyMostGeneralSpec.vars false args9.toList 9 =
    some ([.agg [.lit (.string []), .lit (.bool false), .nil], .agg [.lit (.string []), .lit (.bool false), .nil], .nil], [], places) :=
  ⟨[], by kernel_rfl⟩

set_option maxRecDepth 100000 in
theorem liftedUpto9 (os : Os) (started : os.Started) (H : Type) (enc : TypeId × Value → H) (F : Stop.Interp) :
    ReturnsInHanded {} Tryz.checked os 8 .any ((Rows.OpenSpec.upto Rows.unifyMostGeneralSpec).preRow enc Tryz.prog Tryz.f8 Rows.unifyMostGeneralUptoRow.domain false Rows.unifyMostGeneralUptoRow.laid) (((Rows.OpenSpec.upto Rows.unifyMostGeneralSpec).at F).post enc Tryz.prog Tryz.f8 false true false false) := by
  obtain ⟨places, hx⟩ := reads9 os enc
  refine returnsInHanded_of_row (C := Tryz.checked) (s := Rows.OpenSpec.upto Rows.unifyMostGeneralSpec) ownGodebug started (by kernel_rfl) Tryz.func8
    (witness_row_at (enc := enc) (C := Tryz.checked) false (laidWorld os) args9 rfl (by kernel_rfl) (by kernel_rfl) (by kernel_rfl)
      (OpenSpec.preRow_of_cond 9 hx (by kernel_rfl) (fun k hk => by cases hk; kernel_rfl) (by kernel_rfl) (laid_met9 os))) ?_
  intro W base args ds gs before hval hW _ hcond _ hL _ _
  exact contract9 H enc W base args ds gs before hval hW (hcond _ rfl) hL

theorem saidUpto9 : Rows.UnifyMostGeneralUptoSaid :=
  OpenClaim.holds_of_cond 8 Tryz.f8 rfl rfl rfl rfl rfl rfl rfl ⟨rfl, rfl, rfl, rfl, rfl⟩ rfl rfl rfl rfl rfl (by kernel_rfl) Tryz.func8 (by kernel_rfl)
    (of_decide_eq_true (by kernel_rfl)) (by unfold Func.isWrapper; first | (rw [if_pos (by decide +kernel)]; kernel_rfl) | (rw [if_neg (by decide +kernel)]; exact ⟨rfl, rfl⟩))
    (fun os started H enc _ F => by rw [OpenClaim.pre_eq_preRow]; exact liftedUpto9 os started H enc F)

theorem plain9 (f : FuncId) (fn : Func) (hf : Tryz.pinned.checked.prog.funcNamed "dwindle/dwindlelaw03.UnifyMostGeneral" = some f) (hfn : Tryz.pinned.checked.prog.funcs[f]? = some fn) :
    true = Tryz.pinned.checked.prog.looks [] ∧ ∀ (j : Nat) t, fn.params[j]? = some t → Tryz.pinned.checked.prog.wantsStandIn t = false := by
  obtain rfl : f = 8 := Option.some.inj ((show Tryz.prog.funcNamed "dwindle/dwindlelaw03.UnifyMostGeneral" = some 8 by kernel_rfl).symm.trans hf) |>.symm
  obtain rfl : fn = Tryz.f8 := (Option.some.inj (Tryz.func8.symm.trans hfn)).symm
  refine ⟨by kernel_rfl, fun j t ht => ?_⟩
  rw [Tryz.params8] at ht
  have hm := Array.mem_of_getElem? ht
  simp only [List.mem_toArray, List.mem_cons, List.not_mem_nil, or_false] at hm
  rcases hm with rfl | rfl | rfl
  · exact (show Tryz.prog.wantsStandIn 25 = false by kernel_rfl)
  · exact (show Tryz.prog.wantsStandIn 25 = false by kernel_rfl)
  · exact (show Tryz.prog.wantsStandIn 53 = false by kernel_rfl)

/-- The card. -/
theorem unifyMostGeneral_holds : Rows.UnifyMostGeneralUptoCardSaid :=
  Claim7.holds_tied_plain_at .later [] _ _ _ _ saidUpto9 (fun _ h => by cases h) (by kernel_rfl) (fun _ h => by cases h) unifyMostGeneralUpto_row_tie rfl ⟨rfl, rfl⟩ (by kernel_rfl) rfl plain9 (by kernel_rfl)
end Go.Proofs.YtkglopdogakfoaaGreatDoor
