/- For every term, pair of positions and pair of terms the law TermReplacement returns true and leaves its arguments as they were.
   CONDITIONS: what comes in holds together at most 1048576 values and letters; the listed package-level tables hold what the text of the program lays (the card ties them). -/
import Derived.Deep.DeepHandedRow
import Derived.Lib.LaidTab
import Derived.OpenShut
import Derived.ChangeSlices
import Derived.Test.YthefphfgcpihjaaDoorCards
import Derived.Test.YthefphfgcpihjaaDoorTie
import Derived.Test.YthefphfgcpihjaaDoorSp
import Derived.Test.YthefphfgcpihjaaDoorLawR
namespace Go.Proofs.YthefphfgcpihjaaDoor
open Go.RowKit Go.ChangeShapes Go.WideShapes Go.ChangeAt Go.Deep

theorem bulk_pos {H : Type} (d : DataW H) : 1 ≤ Rows.uptoBulk d := by
  cases d with
  | lit l => cases l <;> simp [Rows.uptoBulk]
  | nil => simp [Rows.uptoBulk]
  | ptr d => simp [Rows.uptoBulk]
  | slice elems spare => simp [Rows.uptoBulk]
  | agg parts => simp [Rows.uptoBulk]
  | iface t d => simp [Rows.uptoBulk]
  | map entries => simp [Rows.uptoBulk]
  | held h => simp [Rows.uptoBulk]
theorem bulk_length {H : Type} (l : List (DataW H)) : l.length ≤ Rows.uptoBulkAll l := by
  induction l with
  | nil => simp [Rows.uptoBulkAll]
  | cons x r ih => have := bulk_pos x; simp only [Rows.uptoBulkAll, List.length_cons]; omega

theorem pos_open {H : Type} (enc : TypeId × Value → H) (W : World) (n : Nat) (cs : List Value) (x : DataW H × List MemPlace) (h : DataW.trod enc Tryd.prog W 0 (fun _ => true) true n 51 cs = some x) :
    ∃ (l : List Int) (v : Value), cs = [v] ∧ PosIs W.heap.size W l v ∧ l.length ≤ Rows.uptoBulk x.1 := by
  rcases open_ints Tryd.underlying51 Tryd.underlying3 cellsInt h with ⟨rfl, rfl⟩ | ⟨a, len, cap, zs, rfl, hba, hlc, hcm, hzl, rfl, hcell, -⟩
  · exact ⟨[], _, rfl, ⟨_, _, rfl, fun h => absurd rfl h⟩, by simp⟩
  · simp only [if_true] at hzl
    have hll : (zs.take len).length = len := by simp; omega
    refine ⟨zs.take len, _, rfl, ⟨some a, cap, by rw [hll], fun hne => ?_⟩, ?_⟩
    · have hpos : 0 < len := by
        cases len with
        | zero => exact absurd rfl hne
        | succ n => omega
      have h0 := hcell 0 (by omega)
      have e0 : a.add 0 = a := by simp [Addr.add]
      rw [e0] at h0
      have hsp := World.cell?_spot h0
      obtain ⟨ab, ao, asp⟩ := a
      simp only at hsp; subst hsp
      refine ⟨ab, ao, rfl, World.block_lt_of_cell? W _ h0, fun i x hx => ?_⟩
      have hi : i < len := by have := (List.getElem?_eq_some_iff.1 hx).1; omega
      have hc := hcell i (by omega)
      rw [addr_add] at hc
      rw [hc]
      rw [List.getElem?_take, if_pos hi] at hx
      rw [List.getD_eq_getElem?_getD, hx]; rfl
    · rw [hll]
      simp only [Rows.uptoBulk]
      have := bulk_length (H := H) (lits .i64 (zs.take len))
      rw [show (lits (H := H) IntKind.i64 (zs.take len)).length = len by rw [lits, List.length_map]; exact hll] at this
      omega
theorem cells82 : Tryd.prog.cellsOf 82 = 2 := by kernel_rfl
theorem cells83 : Tryd.prog.cellsOf 83 = 6 := by kernel_rfl
theorem cells51 : Tryd.prog.cellsOf 51 = 1 := by kernel_rfl

set_option maxRecDepth 100000 in
set_option maxHeartbeats 1000000 in
theorem contract8 (H : Type) (enc : TypeId × Value → H) (W : World) (base : Nat) (args : Array Value) (ds gs : List (DataW H)) (before : List MemPlace)
    (hval : ∀ (j : Nat) t v, Tryd.f8.params[j]? = some t → args[j]? = some v → Value.okWide Tryd.prog W .any base t v)
    (hW : DataW.Whole enc Tryd.prog Tryd.f8.params.toList Rows.termReplacementSpec.vars false W args.toList ds gs before) (hk : Rows.uptoSmall H (ds ++ gs) = true) :
    Calls Tryd.prog 8 args W fun e W' => ∃ v, e = .returned v ∧ Rows.termReplacementSpec.post enc Tryd.prog Tryd.f8 false true false false W args v W' := by
  have hW' := hW
  obtain ⟨p, q, hA0, hV, rfl, hfz, hnd⟩ := hW
  have hA : DataW.TrodAll enc Tryd.prog W 0 (fun _ => true) true Tryd.f8.params.toList args.toList ds p := hA0
  rw [Tryd.params8] at hA hval
  obtain ⟨v0, vs0, d0, ds0, p0, q0, hargs, rfl, rfl, h0, r0⟩ := trodAll_cons hA
  obtain ⟨v1, vs1, d1, ds1, p1, q1, hargs1, rfl, rfl, h1, r1⟩ := trodAll_cons r0
  obtain ⟨v2, vs2, d2, ds2, p2, q2, hargs2, rfl, rfl, h2, r2⟩ := trodAll_cons r1
  obtain ⟨rfl, rfl, rfl⟩ := trodAll_nil r2
  subst hargs1
  subst hargs2
  obtain rfl : args = #[v0, v1, v2] := by cases args; simp_all
  obtain ⟨rfl, rfl⟩ := trodVars_none hV
  clear hA0
  simp only [List.append_nil] at hW' hk hfz
  have hv0 := hval 0 _ v0 rfl rfl
  have hv1 := hval 1 _ v1 rfl rfl
  have hv2 := hval 2 _ v2 rfl rfl
  simp only [Value.okWide] at hv0
  simp only [Value.okWide] at hv1
  simp only [Value.okWide] at hv2
  obtain ⟨c0, rfl, -, -⟩ := hv0
  obtain ⟨c1, rfl, -, -⟩ := hv1
  obtain ⟨c2, rfl, -, -⟩ := hv2
  have H0 := h0
  have H1 := h1
  have H2 := h2
  obtain ⟨n0, k0⟩ := h0
  obtain ⟨n1, k1⟩ := h1
  obtain ⟨n2, k2⟩ := h2
  simp only [Value.cells] at k0 k1 k2
  obtain ⟨t, st, e0, ht, hbt⟩ := term_open enc W n0 _ _ k0 (fun b off hp => hfz b off (by simp [hp]))
  obtain ⟨xs, m, -, hx, hl, hlen, hf⟩ := DataW.trod_array Tryd.underlying82 k1
  obtain ⟨ys, m', -, hy, hl', hlen', hf'⟩ := DataW.trod_array Tryd.underlying83 k2
  match xs, hlen with
  | [x0, x1], _ =>
    match ys, hlen' with
    | [y0, y1], _ =>
      obtain ⟨pv', qv', rfl⟩ : ∃ a b, c1 = #[a, b] := by
        rw [cells82] at hl
        obtain ⟨c1⟩ := c1
        match c1, hl with
        | [a, b], _ => exact ⟨a, b, rfl⟩
      obtain ⟨b0, b1, b2, b3, b4, b5, rfl⟩ : ∃ a b c d e f, c2 = #[a, b, c, d, e, f] := by
        rw [cells83] at hl'
        obtain ⟨c2⟩ := c2
        match c2, hl' with
        | [a, b, c, d, e, f], _ => exact ⟨a, b, c, d, e, f, rfl⟩
      obtain rfl : c0 = #[.string t.nm, .bool t.vr, st] := by cases c0; simp_all
      have f0 := hf 0 (by omega)
      have f1 := hf 1 (by omega)
      have g0 := hf' 0 (by omega)
      have g1 := hf' 1 (by omega)
      rw [cells51] at f0 f1
      rw [cellsTerm] at g0 g1
      simp only [Nat.zero_mul, Nat.one_mul, List.drop_zero, List.drop_succ_cons, List.take_succ_cons, List.take_zero, List.getElem?_cons_zero, List.getElem?_cons_succ] at f0 f1 g0 g1
      simp only [Prod.mk.injEq] at hx hy
      obtain ⟨rfl, rfl⟩ := hx
      obtain ⟨rfl, rfl⟩ := hy
      obtain ⟨pl, pv, ep, hp, hpb⟩ := pos_open enc W _ _ _ f0
      obtain ⟨ql, qv, eq, hq, hqb⟩ := pos_open enc W _ _ _ f1
      obtain ⟨u, su, eu, hu, hub⟩ := term_open enc W _ _ _ g0 (fun b off hp => hfz b off (by simp [hp]))
      obtain ⟨v, sv, ev, hv, hvb⟩ := term_open enc W _ _ _ g1 (fun b off hp => hfz b off (by simp [hp]))
      cases ep
      cases eq
      cases eu
      cases ev
      have hbound : Rows.uptoBulkAll [d0, .agg ([x0, x1].map (·.1)), .agg ([y0, y1].map (·.1))] ≤ 1048576 := of_decide_eq_true hk
      simp only [List.map_cons, List.map_nil, Rows.uptoBulkAll, Rows.uptoBulk] at hbound
      have hbt' : t.bulk ≤ Rows.uptoBulk d0 := hbt
      refine (replacement_any t u v pl ql st b2 b5 pv' qv' W ht hu hv hp hq (by omega) (by omega) (by omega)).mono ?_
      rintro e W' ⟨rfl, hb⟩
      have hsame : ∀ b : MemPlace, b.block < W.heap.size → W.sameAt W' b := fun b hbl => by
        cases b with
        | cell b off => exact hb.cell (p := ⟨b, off, none⟩) hbl
        | map b => exact hb.block b hbl
      have hlt := hW'.lt
      refine ⟨_, rfl, _, _, _, [], p0 ++ ([x0, x1].flatMap (·.2) ++ ([y0, y1].flatMap (·.2) ++ [])), [], hW', ?_, ?_, ?_, hb.frame _, fun h => by cases h⟩
      · exact trodAll_cons_mk (shut_bool Tryd.underlying4 _) trodAll_mk0
      · exact trodAll_cons_mk (trod_again _ (sp_term _) H0 (fun p hp => by have := hlt p (by simp [hp]); simpa using this) (fun p hp => hsame p (hlt p (by simp [hp]))))
          (trodAll_cons_mk (trod_again _ (sp_twoInts _) H1 (fun p hp => by have := hlt p (by simp only [List.mem_append]; exact .inr (.inl hp)); simpa using this) (fun p hp => hsame p (hlt p (by simp only [List.mem_append]; exact .inr (.inl hp)))))
            (trodAll_cons_mk (trod_again _ (sp_twoTerms _) H2 (fun p hp => by have := hlt p (by simp only [List.mem_append]; exact .inr (.inr hp)); simpa using this) (fun p hp => hsame p (hlt p (by simp only [List.mem_append]; exact .inr (.inr hp))))) trodAll_mk0))
      · exact rfl

theorem ownGodebug : ownKnob Tryd.prog.godebug = none := by kernel_rfl
/-- a world for the witness: the tables hold what their initialisers lay -/
def laidObj (cs : Array Value) (o : Obj) : Obj :=
  match o with
  | .cells _ t frozen => .cells cs t frozen
  | o => o
noncomputable def laidWorld (os : Os) : World :=
  { World.holding Tryd.prog os ⟨#[], #[], []⟩ with heap := (((World.holding Tryd.prog os ⟨#[], #[], []⟩).heap.modify 1 (laidObj #[.int .u64 1, .int .u64 10, .int .u64 100, .int .u64 1000, .int .u64 10000, .int .u64 100000, .int .u64 1000000, .int .u64 10000000, .int .u64 100000000, .int .u64 1000000000, .int .u64 10000000000, .int .u64 100000000000, .int .u64 1000000000000, .int .u64 10000000000000, .int .u64 100000000000000, .int .u64 1000000000000000, .int .u64 10000000000000000, .int .u64 100000000000000000, .int .u64 1000000000000000000, .int .u64 10000000000000000000])).modify 2 (laidObj #[.int .u8 0, .int .u8 1, .int .u8 28, .int .u8 2, .int .u8 29, .int .u8 14, .int .u8 24, .int .u8 3, .int .u8 30, .int .u8 22, .int .u8 20, .int .u8 15, .int .u8 25, .int .u8 17, .int .u8 4, .int .u8 8, .int .u8 31, .int .u8 27, .int .u8 13, .int .u8 23, .int .u8 21, .int .u8 19, .int .u8 16, .int .u8 7, .int .u8 26, .int .u8 12, .int .u8 18, .int .u8 6, .int .u8 11, .int .u8 5, .int .u8 10, .int .u8 9])).modify 3 (laidObj #[.int .u8 0, .int .u8 1, .int .u8 56, .int .u8 2, .int .u8 57, .int .u8 49, .int .u8 28, .int .u8 3, .int .u8 61, .int .u8 58, .int .u8 42, .int .u8 50, .int .u8 38, .int .u8 29, .int .u8 17, .int .u8 4, .int .u8 62, .int .u8 47, .int .u8 59, .int .u8 36, .int .u8 45, .int .u8 43, .int .u8 51, .int .u8 22, .int .u8 53, .int .u8 39, .int .u8 33, .int .u8 30, .int .u8 24, .int .u8 18, .int .u8 12, .int .u8 5, .int .u8 63, .int .u8 55, .int .u8 48, .int .u8 27, .int .u8 60, .int .u8 41, .int .u8 37, .int .u8 16, .int .u8 46, .int .u8 35, .int .u8 44, .int .u8 21, .int .u8 52, .int .u8 32, .int .u8 23, .int .u8 11, .int .u8 54, .int .u8 26, .int .u8 40, .int .u8 15, .int .u8 34, .int .u8 20, .int .u8 31, .int .u8 10, .int .u8 25, .int .u8 14, .int .u8 19, .int .u8 9, .int .u8 13, .int .u8 8, .int .u8 7, .int .u8 6]) }
def args8 : Array Value := #[.agg #[.string .empty, .bool false, .slice none 0 0], .agg #[.slice none 0 0, .slice none 0 0], .agg #[.string .empty, .bool false, .slice none 0 0, .string .empty, .bool false, .slice none 0 0]]
theorem laid_met8 (os : Os) : laidMet Tryd.prog Rows.termReplacementRow.laid ((laidWorld os).forCall (fun _ _ => 0) ⟨#[], args8, []⟩).memory :=
  laidMet_of_run' 8 (by kernel_rfl) (by kernel_rfl)
theorem reads8 (os : Os) {H : Type} (enc : TypeId × Value → H) : ∃ places, DataW.whole enc Tryd.prog ((laidWorld os).forCall (fun _ _ => 0) ⟨#[], args8, []⟩).memory Tryd.f8.params.toList Rows.termReplacementSpec.vars false args8.toList 8 =
    some ([.agg [.lit (.string []), .lit (.bool false), .nil], .agg [.nil, .nil], .agg [.agg [.lit (.string []), .lit (.bool false), .nil], .agg [.lit (.string []), .lit (.bool false), .nil]]], [], places) :=
  ⟨[], by kernel_rfl⟩

set_option maxRecDepth 100000 in
theorem liftedUpto8 (os : Os) (started : os.Started) (H : Type) (enc : TypeId × Value → H) (F : Stop.Interp) :
    ReturnsInHanded {} Tryd.checked os 8 .any ((Rows.OpenSpec.upto Rows.termReplacementSpec).preRow enc Tryd.prog Tryd.f8 Rows.termReplacementUptoRow.domain false Rows.termReplacementUptoRow.laid) (((Rows.OpenSpec.upto Rows.termReplacementSpec).at F).post enc Tryd.prog Tryd.f8 false true false false) := by
  obtain ⟨places, hx⟩ := reads8 os enc
  refine returnsInHanded_of_row (C := Tryd.checked) (s := Rows.OpenSpec.upto Rows.termReplacementSpec) ownGodebug started (by kernel_rfl) Tryd.func8
    (witness_row_at (enc := enc) (C := Tryd.checked) false (laidWorld os) args8 rfl (by kernel_rfl) (by kernel_rfl) (by kernel_rfl)
      (OpenSpec.preRow_of_cond 8 hx (by kernel_rfl) (fun k hk => by cases hk; kernel_rfl) (by kernel_rfl) (laid_met8 os))) ?_
  intro W base args ds gs before hval hW _ hcond _ hL _ _
  exact contract8 H enc W base args ds gs before hval hW (hcond _ rfl)

theorem saidUpto8 : Rows.TermReplacementUptoSaid :=
  OpenClaim.holds_of_cond 8 Tryd.f8 rfl rfl rfl rfl rfl rfl rfl ⟨rfl, rfl, rfl, rfl, rfl⟩ rfl rfl rfl rfl rfl (by kernel_rfl) Tryd.func8 (by kernel_rfl)
    (of_decide_eq_true (by kernel_rfl)) (by unfold Func.isWrapper; first | (rw [if_pos (by decide +kernel)]; kernel_rfl) | (rw [if_neg (by decide +kernel)]; exact ⟨rfl, rfl⟩))
    (fun os started H enc _ F => by rw [OpenClaim.pre_eq_preRow]; exact liftedUpto8 os started H enc F)

theorem plain8 (f : FuncId) (fn : Func) (hf : Tryd.pinned.checked.prog.funcNamed "dwindle/dwindlelaw01.TermReplacement" = some f) (hfn : Tryd.pinned.checked.prog.funcs[f]? = some fn) :
    false = Tryd.pinned.checked.prog.looks [] ∧ ∀ (j : Nat) t, fn.params[j]? = some t → Tryd.pinned.checked.prog.wantsStandIn t = false := by
  obtain rfl : f = 8 := Option.some.inj ((show Tryd.prog.funcNamed "dwindle/dwindlelaw01.TermReplacement" = some 8 by kernel_rfl).symm.trans hf) |>.symm
  obtain rfl : fn = Tryd.f8 := (Option.some.inj (Tryd.func8.symm.trans hfn)).symm
  refine ⟨by kernel_rfl, fun j t ht => ?_⟩
  rw [Tryd.params8] at ht
  have hm := Array.mem_of_getElem? ht
  simp only [List.mem_toArray, List.mem_cons, List.not_mem_nil, or_false] at hm
  rcases hm with rfl | rfl | rfl
  · exact (show Tryd.prog.wantsStandIn 24 = false by kernel_rfl)
  · exact (show Tryd.prog.wantsStandIn 82 = false by kernel_rfl)
  · exact (show Tryd.prog.wantsStandIn 83 = false by kernel_rfl)

/-- The card. -/
theorem termReplacement_holds : Rows.TermReplacementUptoCardSaid :=
  Claim7.holds_tied_plain_at .later [] _ _ _ _ saidUpto8 (fun _ h => by cases h) (by kernel_rfl) (fun _ h => by cases h) termReplacementUpto_row_tie rfl ⟨rfl, rfl⟩ (by kernel_rfl) rfl plain8 (by kernel_rfl)
end Go.Proofs.YthefphfgcpihjaaDoor
