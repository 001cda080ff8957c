/- Packed: RdP, ShelfT, Atn, Rst, Put2, Posn, Same. -/
import Derived.Lib.SmallJoins
import Derived.Test.YtamddagmlanijaaGreatP07
import Derived.Test.YtamddagmlanijaaGreatP15
import Derived.Shelf.SlGeneric
import Derived.Shelf.SlSortCmp.Whole1
import Derived.Ground.SlsfProg
import Derived.Test.YtamddagmlanijaaGreatProg
import Derived.Test.YtamddagmlanijaaGreatP11
import Derived.WalkKit
import Derived.ProofKit
import Derived.OpenShut
import Derived.Handy
import Derived.Lib.Hide
import Derived.Maps.AppendAt
import Derived.Deep.RegionHeld3
import Derived.Test.YtamddagmlanijaaGreatP05
import Derived.BigQuiet
/- What an argument reads as: a row of steps with a number. -/
namespace Go.Proofs.YtamddagmlanijaaGreat
open Go.RowKit Go.ChangeShapes Go.WideShapes Go.ChangeAt Go.Deep Go.Joins

theorem cellsSome : Tryz.prog.cellsOf 28 = 2 := by kernel_rfl
set_option maxRecDepth 100000 in
set_option maxHeartbeats 1000000 in
theorem stepP_open {H : Type} (enc : TypeId × Value → H) (W : World) (n : Nat) (cs : List Value) (x : DataW H × List MemPlace) (h : DataW.trod enc Tryz.prog W 0 (fun _ => true) true n 36 cs = some x) :
    ∃ p : Int × List Int, (∃ op cp, cs = [.int .i64 p.1, .slice op p.2.length cp] ∧ PosC W.heap.size W p.2 (.slice op p.2.length cp)) ∧ 1 + p.2.length ≤ Rows.uptoBulk x.1 := by
  obtain ⟨xs, m, rfl, rfl, hl, hlen, hf⟩ := DataW.trod_struct Tryz.underlying36 h
  rw [cellsStep] at hl
  match cs, hl with
  | [a0, a1], _ =>
    match xs, hlen with
    | [y0, y1], _ =>
      have h0 := hf 0 _ rfl
      have h1 := hf 1 _ rfl
      simp only [List.getElem?_cons_zero, List.getElem?_cons_succ] at h0 h1
      obtain ⟨a, ha, rfl, -⟩ := DataW.trod_int Tryz.underlying3 h0
      cases ha
      obtain ⟨pos, pv, e2, hp, kp, hcap⟩ := pos_openX enc W m _ _ h1
      cases e2
      have hp' := hp
      obtain ⟨op, cp, rfl, -⟩ := hp'
      refine ⟨(a, pos), ⟨op, cp, rfl, hp, hcap⟩, ?_⟩
      have kp' : pos.length ≤ Rows.uptoBulk y1.1 := kp
      simp only [List.map_cons, List.map_nil, Rows.uptoBulk, Rows.uptoBulkAll]
      omega
set_option maxRecDepth 100000 in
set_option maxHeartbeats 1000000 in
theorem stepsP_open {H : Type} (enc : TypeId × Value → H) (W : World) (n : Nat) (v : Value) (x : DataW H × List MemPlace) (h : DataW.trod enc Tryz.prog W 0 (fun _ => true) true n 26 [v] = some x) (hfz : W.noneFrozen x.2) (hb : Rows.uptoBulk x.1 ≤ 1048576) :
    ∃ (L : List (Int × List Int)), StpsIs W.heap.size W L v ∧ L.length < Rows.uptoBulk x.1 := by
  obtain ⟨l, oa, cap, rfl, hlc, hlb, hbd, hrow⟩ := row_open (α := Int × List Int) enc W Tryz.underlying26 cellsStep (by omega) (fun p cs => ∃ op cp, cs = [.int .i64 p.1, .slice op p.2.length cp] ∧ PosC W.heap.size W p.2 (.slice op p.2.length cp)) (fun p => p.2.length) (fun n cs x h _ => stepP_open enc W n cs x h) n v x h hfz
  refine ⟨l, ⟨oa, cap, rfl, hlc, fun hne => ?_⟩, hlb⟩
  obtain ⟨b, o, rfl, hb', -, hcs⟩ := hrow hne
  refine ⟨b, o, rfl, hb', fun i p hp => ?_⟩
  obtain ⟨cs, ⟨op, cp, rfl, h1⟩, -, hj⟩ := hcs i p hp
  have hpl := hbd p (List.mem_of_getElem? hp)
  exact ⟨.slice op p.2.length cp, hj 0 (by omega), hj 1 (by omega), h1, by omega⟩
set_option maxRecDepth 100000 in
set_option maxHeartbeats 1000000 in
theorem some_open {H : Type} (enc : TypeId × Value → H) (W : World) (n : Nat) (cs : List Value) (x : DataW H × List MemPlace) (h : DataW.trod enc Tryz.prog W 0 (fun _ => true) true n 28 cs = some x) (hfz : W.noneFrozen x.2) (hb : Rows.uptoBulk x.1 ≤ 1048576) :
    ∃ (L : List (Int × List Int)) (lv : Value) (F : Nat), cs = [lv, .int .u8 F] ∧ StpsIs W.heap.size W L lv ∧ L.length < Rows.uptoBulk x.1 ∧ F < 256 := by
  obtain ⟨xs, m, rfl, rfl, hl, hlen, hf⟩ := DataW.trod_struct Tryz.underlying28 h
  rw [cellsSome] at hl
  match cs, hl with
  | [a0, a1], _ =>
    match xs, hlen with
    | [y0, y1], _ =>
      have h0 := hf 0 _ rfl
      have h1 := hf 1 _ rfl
      simp only [List.getElem?_cons_zero, List.getElem?_cons_succ] at h0 h1
      obtain ⟨a, ha, rfl, hwf⟩ := DataW.trod_int Tryz.underlying5 h1
      cases ha
      have e : Rows.uptoBulk (DataW.agg ([y0, (DataW.lit (H := H) (.int .u8 a), [])].map (·.1))) = Rows.uptoBulk y0.1 + (1 + 0) + 1 := by simp only [List.map_cons, List.map_nil, Rows.uptoBulk, Rows.uptoBulkAll]
      have hb0 : Rows.uptoBulk y0.1 ≤ 1048576 := by
        have hb' : Rows.uptoBulk (DataW.agg ([y0, (DataW.lit (H := H) (.int .u8 a), [])].map (·.1))) ≤ 1048576 := hb
        rw [e] at hb'; omega
      obtain ⟨L, hL, k1⟩ := stepsP_open enc W m _ _ h0 (fun b off hp => hfz b off (by simp only [List.flatMap_cons, List.flatMap_nil, List.mem_append]; exact .inl hp)) hb0
      have hr : 0 ≤ a ∧ a < 256 := by
        have hm : IntKind.u8.min = 0 := by decide
        have hM : IntKind.u8.max = 255 := by decide
        simp [Lit.wf, hm, hM] at hwf
        omega
      have k1' : L.length < Rows.uptoBulk y0.1 := k1
      refine ⟨L, _, a.toNat, by rw [Int.toNat_of_nonneg hr.1], hL, ?_, by omega⟩
      show _ < Rows.uptoBulk (DataW.agg ([y0, (DataW.lit (H := H) (.int .u8 a), [])].map (·.1)))
      rw [e]; omega
section
variable {H : Type} {enc : TypeId × Value → H} {w : World} (sp : Nat → Bool)
theorem sp_some (k : Nat) : SpAt enc Tryz.prog w sp k 28 := by
  match k with
  | 0 => exact sp_zero sp _
  | k + 1 => exact sp_struct2 sp Tryz.underlying28 (sp_steps sp _) (sp_int sp Tryz.underlying5 _)
end
end Go.Proofs.YtamddagmlanijaaGreat
/-
  DERIVED: THE SHELF's CONTRACTS AT THIS DUMP, IN PLAIN WORDS (tools/lay-plain.mjs out of 'TryzSort.lean', which tools/lay-shelf.mjs wrote): THE SAME DECLARATIONS UNDER THE SAME NAMES: 'import', 'namespace', 'open', 'def', 'theorem' AND NOTHING ELSE: no command of the shelf's: FOR A HAND-IN. Each laying: the table of numbers ('.._ren') and one theorem, a field a fact of the dump's own or the kernel's comparison; each contract: ONE APPLICATION.
-/
namespace Go.Proofs
open Go.Shelf
def Tryz.laysSort_ren : Go.Shelf.Ren := ⟨fun | 6 => 100 | 15 => 173 | 14 => 172 | 28 => 236 | 29 => 237 | 20 => 228 | 21 => 229 | 22 => 230 | 23 => 231 | 24 => 232 | 25 => 233 | 26 => 234 | 27 => 235 | 46 => 268 | 47 => 269 | 48 => 270 | 49 => 271 | 50 => 272 | 57 => 286 | n => n, fun | 22 => 165 | 24 => 34 | 25 => 167 | 3 => 3 | 39 => 236 | 0 => 0 | 53 => 296 | 55 => 47 | 4 => 4 | 46 => 290 | 45 => 289 | 50 => 202 | 5 => 5 | 9 => 9 | 66 => 315 | 70 => 319 | 76 => 334 | 77 => 136 | n => n, fun | n => n⟩
theorem Tryz.laysSort : Go.Proofs.SlLaysF.n6 Tryz.prog Tryz.laysSort_ren := {
  mixed := by kernel_rfl
  f6 := ⟨Tryz.f100.name, by decide, Tryz.func100.trans (congrArg some (by kernel_rfl))⟩
  f14 := ⟨Tryz.f172.name, by decide, Tryz.func172.trans (congrArg some (by kernel_rfl))⟩
  f15 := Tryz.func173.trans (congrArg some (by kernel_rfl))
  f20 := ⟨Tryz.f228.name, by decide, Tryz.func228.trans (congrArg some (by kernel_rfl))⟩
  f21 := ⟨Tryz.f229.name, by decide, Tryz.func229.trans (congrArg some (by kernel_rfl))⟩
  f22 := ⟨Tryz.f230.name, by decide, Tryz.func230.trans (congrArg some (by kernel_rfl))⟩
  f23 := ⟨Tryz.f231.name, by decide, Tryz.func231.trans (congrArg some (by kernel_rfl))⟩
  f24 := ⟨Tryz.f232.name, by decide, Tryz.func232.trans (congrArg some (by kernel_rfl))⟩
  f25 := ⟨Tryz.f233.name, by decide, Tryz.func233.trans (congrArg some (by kernel_rfl))⟩
  f26 := ⟨Tryz.f234.name, by decide, Tryz.func234.trans (congrArg some (by kernel_rfl))⟩
  f27 := ⟨Tryz.f235.name, by decide, Tryz.func235.trans (congrArg some (by kernel_rfl))⟩
  f28 := Tryz.func236.trans (congrArg some (by kernel_rfl))
  f29 := Tryz.func237.trans (congrArg some (by kernel_rfl))
  f46 := ⟨Tryz.f268.name, by decide, Tryz.func268.trans (congrArg some (by kernel_rfl))⟩
  f47 := Tryz.func269.trans (congrArg some (by kernel_rfl))
  f48 := Tryz.func270.trans (congrArg some (by kernel_rfl))
  f49 := ⟨Tryz.f271.name, by decide, Tryz.func271.trans (congrArg some (by kernel_rfl))⟩
  f50 := ⟨Tryz.f272.name, by decide, Tryz.func272.trans (congrArg some (by kernel_rfl))⟩
  f57 := ⟨Tryz.f286.name, by decide, Tryz.func286.trans (congrArg some (by kernel_rfl))⟩
  t0 := Tryz.underlying0
  a0 := Tryz.isAgg0
  z0 := Tryz.sizeOf0
  v0 := Tryz.zeroValue0
  t3 := Tryz.underlying3
  a3 := Tryz.isAgg3
  z3 := Tryz.sizeOf3
  v3 := Tryz.zeroValue3
  t4 := Tryz.underlying4
  a4 := Tryz.isAgg4
  z4 := Tryz.sizeOf4
  v4 := Tryz.zeroValue4
  t5 := Tryz.underlying5
  a5 := Tryz.isAgg5
  z5 := Tryz.sizeOf5
  v5 := Tryz.zeroValue5
  t9 := Tryz.underlying9
  a9 := Tryz.isAgg9
  z9 := Tryz.sizeOf9
  v9 := Tryz.zeroValue9
  t22 := Tryz.underlying165
  a22 := Tryz.isAgg165
  z22 := Tryz.sizeOf165
  v22 := Tryz.zeroValue165
  a24 := Tryz.isAgg34
  z24 := Tryz.sizeOf34
  t25 := Tryz.underlying167
  a25 := Tryz.isAgg167
  z25 := Tryz.sizeOf167
  v25 := Tryz.zeroValue167
  t39 := Tryz.underlying236
  a39 := Tryz.isAgg236
  z39 := Tryz.sizeOf236
  v39 := Tryz.zeroValue236
  t45 := Tryz.underlying289
  a45 := Tryz.isAgg289
  z45 := Tryz.sizeOf289
  v45 := Tryz.zeroValue289
  t46 := Tryz.underlying290
  a46 := Tryz.isAgg290
  z46 := Tryz.sizeOf290
  v46 := Tryz.zeroValue290
  t50 := Tryz.underlying202
  a50 := Tryz.isAgg202
  z50 := Tryz.sizeOf202
  v50 := Tryz.zeroValue202
  t53 := Tryz.underlying296
  a53 := Tryz.isAgg296
  z53 := Tryz.sizeOf296
  v53 := Tryz.zeroValue296
  t55 := Tryz.underlying47
  a55 := Tryz.isAgg47
  z55 := Tryz.sizeOf47
  v55 := Tryz.zeroValue47
  t66 := Tryz.underlying315
  a66 := Tryz.isAgg315
  z66 := Tryz.sizeOf315
  v66 := Tryz.zeroValue315
  t70 := Tryz.underlying319
  a70 := Tryz.isAgg319
  z70 := Tryz.sizeOf319
  v70 := Tryz.zeroValue319
  t76 := Tryz.underlying334
  a76 := Tryz.isAgg334
  z76 := Tryz.sizeOf334
  v76 := Tryz.zeroValue334
  t77 := Tryz.underlying136
  a77 := Tryz.isAgg136
  z77 := Tryz.sizeOf136
  v77 := Tryz.zeroValue136 }
end Go.Proofs
/- At of package term: what it hands back lies in new memory. -/
namespace Go.Proofs.YtamddagmlanijaaGreat
open Go.RowKit

set_option maxRecDepth 100000 in
set_option maxHeartbeats 1000000 in
theorem at_new (t : Tm) (s : Value) (l : List Int) (v : Value) (w : World) (hs : SlIs w.heap.size w t.ts s) (hl : PosIs w.heap.size w l v) (hll : l.length ≤ 1048576) (hb : t.bulk ≤ 1048576) :
    Calls Tryz.prog 107 #[tmv t s, v] w fun e w' => ∃ u c, TmNew w w' e u c ∧ ((c = 0 ∧ t.ok ∧ t.at l = some u) ∨ (c ≠ 0 ∧ ¬ (t.ok ∧ (t.at l).isSome) ∧ u = Tm.zero)) := by
  obtain ⟨oa, cap, rfl, -⟩ := hs.form
  obtain ⟨oa2, cap2, rfl, -⟩ := hl.form
  have HB := Lib.hid hb
  clear hb
  go_enter Tryz.func107, Tryz.ntmps107
  rw [show tmv t (.slice oa t.ts.length cap) = .agg #[.string t.nm, .bool t.vr, .slice oa t.ts.length cap] from rfl]
  go_wp2_with (
    go_at_call 97
    refine (check_any t _ _ (hs.carry (by go_grown) (by simp; omega)) HB.out).mono ?_
    rintro e w1 ⟨⟨c, rfl, hc⟩, hb1⟩
    have hr := (hb1.block (w.heap.size + 1) (by simp)).trans (heap_new_at _ _ _ (by simp))
    have ht := (hb1.block w.heap.size (by simp; omega)).trans ((Below.heap_alloc _ _ _ (by simp)).trans (heap_new_at _ _ _ rfl))
    have hbw := (show Below w.heap.size w ((w.alloc (.cells #[.string t.nm, .bool t.vr, .slice oa t.ts.length cap] 25)).alloc (.cells #[.string ⟨#[]⟩, .bool false, .slice none 0 0] 25)) from by go_grown).trans (hb1.mono (by simp; omega))
    have hz1 := hb1.size
    simp only [World.size_alloc] at hz1
    obtain ⟨⟨r0, r1, r2⟩, f0, f1, f2⟩ := box3 hr
    obtain ⟨⟨t0, t1, t2⟩, -⟩ := box3 ht
    have HR := Lib.hid hr
    have HC := Lib.hid hc
    have HB1 := Lib.hid hb1
    have HBW := Lib.hid hbw
    clear hr ht hc hb1 hbw)
  · have hq := box3_set HR.out (.string ⟨#[]⟩) (.bool false) (.slice none 0 0)
    obtain ⟨⟨q0, q1, q2⟩, -⟩ := box3 hq
    refine bodyPost_ret (v := .tuple #[tmv Tm.zero (.slice none 0 0), .int .i64 c]) (by simp [results, Tryz.f107, go_sem, q0, q1, q2, tmv, Tm.nm, Tm.vr]) rfl ?_
    have hc0 : c ≠ 0 := by simpa using (show (c != 0) = true by assumption)
    exact ⟨_, c, ⟨⟨_, rfl, .nil0⟩, below_set3 HBW.out (by omega) _ _ _⟩, .inr ⟨hc0, fun h => hc0 (HC.out.2 h.1), rfl⟩⟩
  · have hc0 : c = 0 := by simpa using (show (c != 0) = false by assumption)
    subst hc0
    have HOK := Lib.hid (HC.out.1 rfl)
    have HL := Lib.hid (hl.carry HBW.out HBW.out.size)
    have HS := Lib.hid (hs.carry HBW.out HBW.out.size)
    cases hat : t.at l with
    | none =>
      have HAT := Lib.hid hat
      clear hat
      go_wp2_with (
        go_at_call 179
        refine (locate_any t w.heap.size 0 w1.heap.size l _ w1 ⟨⟨_, t0, t1, t2, HS.out⟩⟩ HL.out hll HB.out).mono ?_
        rintro e w2 ⟨hcase, rfl⟩
        obtain rfl : e = .returned (.pointer none) := by
          rcases hcase with ⟨u, b', o', -, hu, -⟩ | ⟨h, -⟩
          · rw [HAT.out] at hu; cases hu
          · exact h
        clear hcase)
      have hq := box3_set HR.out (.string ⟨#[]⟩) (.bool false) (.slice none 0 0)
      obtain ⟨⟨q0, q1, q2⟩, -⟩ := box3 hq
      refine bodyPost_ret (v := .tuple #[tmv Tm.zero (.slice none 0 0), .int .i64 8]) (by simp [results, Tryz.f107, go_sem, q0, q1, q2, tmv, Tm.nm, Tm.vr]) rfl ?_
      exact ⟨_, 8, ⟨⟨_, rfl, .nil0⟩, below_set3 HBW.out (by omega) _ _ _⟩, .inr ⟨by decide, fun h => by rw [HAT.out] at h; exact absurd h.2 (by simp), rfl⟩⟩
    | some u =>
      have HAT := Lib.hid hat
      have HUB := Lib.hid (Nat.le_trans (Tm.at_bulk hat) HB.out)
      clear hat
      go_wp2_with (
        go_at_call 179
        refine (locate_any t w.heap.size 0 w1.heap.size l _ w1 ⟨⟨_, t0, t1, t2, HS.out⟩⟩ HL.out hll HB.out).mono ?_
        rintro e w2 ⟨hcase, rfl⟩
        obtain ⟨b', o', rfl, HLOC⟩ : ∃ b' o', e = .returned (.pointer (some ⟨b', o', none⟩)) ∧ Hid (Loc w2.heap.size w2 u b' o') := by
          rcases hcase with ⟨u', b', o', he, hu, hloc, -⟩ | ⟨-, h⟩
          · rw [HAT.out] at hu; cases hu; exact ⟨b', o', he, Lib.hid hloc⟩
          · rw [HAT.out] at h; cases h
        clear hcase
        obtain ⟨s2, d0, d1, d2, hs2⟩ := HLOC.out.cells
        obtain ⟨oa3, cap3, rfl, -⟩ := hs2.form
        have HS2 := Lib.hid hs2
        clear hs2)
      refine (clone_any u _ _ HS2.out HUB.out (HOK.out.1.at HAT.out).bare).mono ?_
      rintro e w3 ⟨⟨sl, fp, rfl, ho, -, hf⟩, hb3⟩
      obtain ⟨oa4, n4, c4, rfl⟩ := ho.form
      have hr3 := (hb3.block (w.heap.size + 1) (by omega)).trans HR.out
      obtain ⟨⟨r0, r1, r2⟩, f0, f1, f2⟩ := box3 hr3
      have HR3 := Lib.hid hr3
      have HO := Lib.hid ho
      have HF := Lib.hid hf
      have HB3 := Lib.hid hb3
      clear hr3 ho hf hb3 t0 t1 t2 d0 d1 d2
      dsimp only [tmv]
      go_wp2_with fail
      have hq := box3_set HR3.out (.string u.nm) (.bool u.vr) (.slice oa4 n4 c4)
      obtain ⟨⟨q0, q1, q2⟩, -⟩ := box3 hq
      refine bodyPost_ret (v := .tuple #[tmv u (.slice oa4 n4 c4), .int .i64 0]) (by simp [results, Tryz.f107, go_sem, q0, q1, q2, tmv]) rfl ?_
      have hz3 := HB3.out.size
      refine ⟨_, 0, ⟨⟨_, rfl, ?_⟩, below_set3 (HBW.out.trans (HB3.out.mono (by omega))) (by omega) _ _ _⟩, .inl ⟨rfl, HOK.out, HAT.out⟩⟩
      have ho' := HO.out.carry (B := ((w3.setCell ⟨w.heap.size + 1, 0, none⟩ (.string u.nm)).setCell ⟨w.heap.size + 1, 1, none⟩ (.bool u.vr)).setCell ⟨w.heap.size + 1, 2, none⟩ (.slice oa4 n4 c4)) fun k hk => heap_set3 _ _ _ _ _ _ (by have := HF.out k hk; omega)
      exact ho'.isP fun k hk => ⟨by have := HF.out k hk; have := HBW.out.size; omega, ho'.lt k hk⟩
end Go.Proofs.YtamddagmlanijaaGreat
/- rewrite's clone, check and Step. -/
namespace Go.Proofs.YtamddagmlanijaaGreat
open Go.RowKit Go.Shelf Go.Maps

set_option maxRecDepth 100000 in
set_option maxHeartbeats 1000000 in
theorem rwclone_any (t : Tm) (s : Value) (w : World) (hs : SlIs w.heap.size w t.ts s) (hb : t.bulk ≤ 1048576) :
    Calls Tryz.prog 43 #[tmv t s] w fun e w' => (∃ u su, e = .returned (tmv u su) ∧ SlP (fun b => w.heap.size ≤ b ∧ b < w'.heap.size) w' u.ts su ∧ (t.ok → u = t) ∧ (¬ t.ok → u = Tm.zero)) ∧ Below w.heap.size w w' := by
  obtain ⟨oa, cap, rfl, -⟩ := hs.form
  have hba : Below w.heap.size w ((w.alloc (.cells #[.string t.nm, .bool t.vr, .slice oa t.ts.length cap] 25)).alloc (.cells #[.string ⟨#[]⟩, .bool false, .slice none 0 0] 25)) := by go_grown
  have HAT := Lib.hid (at_new t (.slice oa t.ts.length cap) [] (.slice none 0 0) _ (hs.carry hba hba.size) ⟨⟨none, 0, rfl, fun h => absurd rfl h⟩⟩ (by simp) hb)
  have HBA := Lib.hid hba
  clear hs hba
  rw [show tmv t (.slice oa t.ts.length cap) = .agg #[.string t.nm, .bool t.vr, .slice oa t.ts.length cap] from rfl] at HAT ⊢
  go_enter Tryz.func43, Tryz.ntmps43
  go_wp2_with fail
  refine HAT.out.mono ?_
  rintro e w1 ⟨u, c, ⟨⟨su, rfl, hsu⟩, hb1⟩, hc⟩
  obtain ⟨ou, cu, rfl⟩ := hsu.form
  dsimp only [tmv]
  have hr := (hb1.block (w.heap.size + 1) (by simp)).trans (heap_new_at _ (.cells #[.string ⟨#[]⟩, .bool false, .slice none 0 0] 25) _ (by simp))
  have hr2 := (Below.heap_alloc w1 (.cells #[.string u.nm, .bool u.vr, .slice ou u.ts.length cu] 25) (w.heap.size + 1) (Array.getElem?_eq_some_iff.1 hr).1).trans hr
  obtain ⟨⟨r0, r1, r2⟩, f0, f1, f2⟩ := box3 hr2
  have HR := Lib.hid hr2
  have HSU := Lib.hid hsu
  have HB1 := Lib.hid (HBA.out.trans (hb1.mono (by simp; omega)))
  have HC := Lib.hid hc
  have hz1 := hb1.size
  clear hr hr2 hsu hb1 hc HAT
  go_wp2_with fail
  obtain ⟨⟨q0, q1, q2⟩, -⟩ := box3 (box3_set HR.out (.string u.nm) (.bool u.vr) (.slice ou u.ts.length cu))
  refine bodyPost_ret (v := .agg #[.string u.nm, .bool u.vr, .slice ou u.ts.length cu]) (by simp [results, Tryz.f43, go_sem, q0, q1, q2]) rfl ?_
  refine ⟨⟨u, .slice ou u.ts.length cu, rfl, ?_, ?_, ?_⟩, below_set3 (HB1.out.trans (show Below w.heap.size w1 _ from by have := HB1.out.size; go_grown)) (by omega) _ _ _⟩
  · exact HSU.out.carry fun b hb => ⟨(heap_set3 _ _ _ _ _ _ (by have := hb.1; simp at this; omega)).trans (Below.heap_alloc _ _ _ hb.2), by have := hb.1; simp at this; omega, by have := hb.2; simp [World.setCell]; omega⟩
  · intro hok
    rcases HC.out with ⟨-, -, h⟩ | ⟨-, h, -⟩
    · exact (Option.some.inj h).symm
    · exact absurd ⟨hok, rfl⟩ h
  · intro hok
    rcases HC.out with ⟨-, h, -⟩ | ⟨-, -, h⟩
    · exact absurd h hok
    · exact h
set_option maxRecDepth 100000 in
set_option maxHeartbeats 1000000 in
theorem rwcheck_any (L : List RlV) (rv : Value) (t : Tm) (s : Value) (w : World) (hr : RulV w.heap.size w L rv) (hs : SlIs w.heap.size w t.ts s) (hl : L.length ≤ 1048576) (hlb : ∀ x ∈ sidesV L, x.1.bulk ≤ 1048576) (hb : t.bulk ≤ 1048576) :
    Calls Tryz.prog 39 #[rv, tmv t s] w fun e w' => (∃ c : Int, e = .returned (.int .i64 c) ∧ (c = 0 ↔ SysOk L ∧ t.ok)) ∧ Below w.heap.size w w' := by
  obtain ⟨oa, cap, rfl, -⟩ := hs.form
  obtain ⟨ol, cl, rfl⟩ := hr.shape
  have HS := Lib.hid hs
  have hba : Below w.heap.size w (w.alloc (.cells #[.string t.nm, .bool t.vr, .slice oa t.ts.length cap] 25)) := by go_grown
  have HCS := Lib.hid (tcheckSystem_any L (.slice ol L.length cl) _ (hr.carry hba hba.size) hl hlb)
  have HBA := Lib.hid hba
  clear hs hr hlb hba
  rw [show tmv t (.slice oa t.ts.length cap) = .agg #[.string t.nm, .bool t.vr, .slice oa t.ts.length cap] from rfl]
  go_enter Tryz.func39, Tryz.ntmps39
  go_wp2_with fail
  refine HCS.out.mono ?_
  rintro e w1 ⟨⟨c, rfl, hc⟩, hb1⟩
  have htb := (hb1.block w.heap.size (by simp)).trans (heap_new_at w (.cells #[.string t.nm, .bool t.vr, .slice oa t.ts.length cap] 25) _ rfl)
  obtain ⟨⟨t0, t1, t2⟩, -⟩ := box3 htb
  have HB1 := Lib.hid (HBA.out.trans (hb1.mono (by simp)))
  have HC := Lib.hid hc
  clear htb hb1 hc HCS
  by_cases hc0 : c = 0
  · subst hc0
    have HSY := Lib.hid (HC.out.1 rfl)
    have HCK := Lib.hid (check_any t (.slice oa t.ts.length cap) w1 (HS.out.carry HB1.out HB1.out.size) hb)
    go_wp2_with fail
    refine HCK.out.mono ?_
    rintro e w2 ⟨⟨c2, rfl, hc2⟩, hb2⟩
    have HC2 := Lib.hid hc2
    have HB2 := Lib.hid (HB1.out.trans (hb2.mono HB1.out.size))
    clear hc2 hb2
    go_wp2_with fail
    go_ret
    exact ⟨⟨c2, rfl, fun h => ⟨HSY.out, HC2.out.1 h⟩, fun h => HC2.out.2 h.2⟩, HB2.out⟩
  · have hcb : (c != 0) = true := by simpa using hc0
    have HC0 := Lib.hid hc0
    clear hc0
    go_wp2_with fail
    go_ret
    exact ⟨⟨c, rfl, fun h => absurd h HC0.out, fun h => absurd (HC.out.2 h.1) HC0.out⟩, HB1.out⟩
theorem Tm.put_get {t : Tm} {l : List Int} (h : (t.at l).isSome) (u : Tm) : (t.put l u).at l = some u := by
  induction l generalizing t with
  | nil => rfl
  | cons i l ih =>
    simp only [Tm.at] at h
    split at h
    · rename_i x hx
      simp only [Tm.put, hx, Tm.at]
      have hk : (Tm.mk t.nm t.vr (t.ts.set i.toNat (x.put l u))).kid i = some (x.put l u) := by
        unfold Tm.kid at hx ⊢
        split at hx
        · rename_i h0
          rw [if_pos h0]
          exact List.getElem?_set_self (List.getElem?_eq_some_iff.1 hx).1
        · cases hx
      rw [hk]
      exact ih h
    · cases h
/-- the result of a step, whatever its size -/
noncomputable def stepR (L : List RlV) (t : Tm) (rule : Int) (pos : List Int) : Option Tm := (stepM L t rule pos).map fun q => t.put pos (apB q.1 q.2.2.1)
/-- how Step answers -/
structure StepPost (L : List RlV) (t : Tm) (rule : Int) (pos : List Int) (u : Tm) (c : Int) : Prop where
  zero : c = 0 → SysOk L ∧ t.ok ∧ u.ok ∧ stepR L t rule pos = some u
  none_ : c ≠ 0 → u = Tm.zero
  yes : SysOk L → t.ok → ∀ r, stepR L t rule pos = some r → r.size ≤ 4000 → r.depth ≤ 200 → c = 0
  big : SysOk L → t.ok → ∀ r, stepR L t rule pos = some r → ¬ (r.size ≤ 4000 ∧ r.depth ≤ 200) → c = 3
theorem stepR_formed {L : List RlV} {t : Tm} {rule : Int} {pos : List Int} {r : Tm} (h : stepR L t rule pos = some r) (hL : SysOk L) (ht : t.ok) : r.formed := by
  unfold stepR at h
  obtain ⟨⟨b, p⟩, hs, rfl⟩ := Option.map_eq_some_iff.1 h
  obtain ⟨h1, h2, -⟩ := stepM_sub hs hL ht
  exact Tm.put_formed ht.1 (apB_formed (fun q hq => (h1.terms q hq).1) (hL.2.1 _ (sidesV_mem h2).2).1) pos
/-- from perform's answer to Step's -/
theorem pf_step {L : List RlV} {t : Tm} {rule : Int} {pos : List Int} (hL : SysOk L) (ht : t.ok) {w : World} {e : Ending} (h : PfPost (pfRun L t t 0 [(rule, pos)]) w e) :
    ∃ u c, (∃ su, e = .returned (.tuple #[tmv u su, .int .i64 c]) ∧ SlIs w.heap.size w u.ts su) ∧ StepPost L t rule pos u c := by
  simp only [pfRun] at h
  cases hs : stepM L t rule pos with
  | none =>
    rw [hs] at h
    obtain ⟨c, hc, he⟩ := h
    have hr : stepR L t rule pos = none := by unfold stepR; rw [hs]; rfl
    exact ⟨Tm.zero, c, ⟨_, he, .nil0⟩, ⟨fun h => absurd h hc, fun _ => rfl, fun _ _ r h => (by rw [hr] at h; cases h), fun _ _ r h => (by rw [hr] at h; cases h)⟩⟩
  | some q =>
    obtain ⟨b, p⟩ := q
    rw [hs] at h
    have hr : stepR L t rule pos = some (t.put pos (apB b p.2.1)) := by unfold stepR; rw [hs]; rfl
    have hf := stepR_formed hr hL ht
    obtain ⟨-, -, x, hx, -⟩ := stepM_sub hs hL ht
    have hat := Tm.put_get (u := apB b p.2.1) (show (t.at pos).isSome by rw [hx]; rfl)
    have hle := Tm.atSize hat
    simp only at h
    by_cases hsm : (apB b p.2.1).small ∧ 0 + (apB b p.2.1).size ≤ 4000
    · rw [if_pos hsm] at h
      rcases h with ⟨hok, sr, he, hsr⟩ | ⟨hno, c, hc, hc3, he⟩
      · exact ⟨_, 0, ⟨sr, he, hsr⟩, ⟨fun _ => ⟨hL, ht, hok, hr⟩, fun h => absurd rfl h, fun _ _ _ _ _ _ => rfl, fun _ _ r h hn => (by rw [hr] at h; cases h; exact absurd hok.2 hn)⟩⟩
      · exact ⟨Tm.zero, c, ⟨_, he, .nil0⟩, ⟨fun h => absurd h hc, fun _ => rfl, fun _ _ r h h1 h2 => (by rw [hr] at h; cases h; exact absurd ⟨hf, h1, h2⟩ hno), fun _ _ r h _ => hc3 hf⟩⟩
    · rw [if_neg hsm] at h
      exact ⟨Tm.zero, 3, ⟨_, h, .nil0⟩, ⟨fun h => by omega, fun _ => rfl, fun _ _ r h h1 h2 => (by
        rw [hr] at h; cases h
        exact absurd ⟨⟨by omega, by omega⟩, by omega⟩ hsm), fun _ _ _ _ _ => rfl⟩⟩

/-- a term in new memory and an error -/
def TmFr (w w' : World) (e : Ending) (u : Tm) (c : Int) : Prop := (∃ sl, e = .returned (.tuple #[tmv u sl, .int .i64 c]) ∧ SlP (fun b => w.heap.size ≤ b ∧ b < w'.heap.size) w' u.ts sl) ∧ Below w.heap.size w w'
set_option maxRecDepth 100000 in
set_option maxHeartbeats 4000000 in
theorem rwstep_new (L : List RlV) (rv : Value) (t : Tm) (s : Value) (rule : Int) (pos : List Int) (pv : Value) (w : World) (hr : RulV w.heap.size w L rv) (hs : SlIs w.heap.size w t.ts s) (hp : PosC w.heap.size w pos pv)
    (hl : L.length ≤ 1048576) (hlb : ∀ x ∈ sidesV L, x.1.bulk ≤ 1048576) (hb : t.bulk ≤ 1048576) (hpl : pos.length ≤ 1048576) :
    Calls Tryz.prog 13 #[rv, tmv t s, .agg #[.int .i64 rule, pv]] w fun e w' => ∃ u c, TmFr w w' e u c ∧ StepPost L t rule pos u c := by
  obtain ⟨oa, cap, rfl, -⟩ := hs.form
  obtain ⟨ol, cl, rfl⟩ := hr.shape
  obtain ⟨op, cp, rfl, -⟩ := hp.1.form
  have HR := Lib.hid hr
  have HS := Lib.hid hs
  have HP := Lib.hid hp
  have HLB := Lib.hid hlb
  clear hr hs hp hlb
  rw [show tmv t (.slice oa t.ts.length cap) = .agg #[.string t.nm, .bool t.vr, .slice oa t.ts.length cap] from rfl]
  have hba : Below w.heap.size w (((w.alloc (.cells #[.string t.nm, .bool t.vr, .slice oa t.ts.length cap] 25)).alloc (.cells #[.int .i64 rule, .slice op pos.length cp] 36)).alloc (.cells #[.string ⟨#[]⟩, .bool false, .slice none 0 0] 25)) := by go_grown
  have HCK := Lib.hid (rwcheck_any L (.slice ol L.length cl) t (.slice oa t.ts.length cap) _ (HR.out.carry hba hba.size) (HS.out.carry hba hba.size) hl HLB.out hb)
  have HBA := Lib.hid hba
  clear hba
  go_enter Tryz.func13, Tryz.ntmps13
  go_wp2_with fail
  refine HCK.out.mono ?_
  rintro e w1 ⟨⟨c, rfl, hc⟩, hb1⟩
  have hr1 := (hb1.block (w.heap.size + 1 + 1) (by simp)).trans (heap_new_at _ (.cells #[.string ⟨#[]⟩, .bool false, .slice none 0 0] 25) _ (by simp))
  have hs1 := (hb1.block (w.heap.size + 1) (by simp <;> omega)).trans ((Below.heap_alloc _ _ _ (by simp <;> omega)).trans (heap_new_at _ (.cells #[.int .i64 rule, .slice op pos.length cp] 36) _ (by simp)))
  have ht1 := (hb1.block w.heap.size (by simp <;> omega)).trans ((Below.heap_alloc _ _ _ (by simp <;> omega)).trans ((Below.heap_alloc _ _ _ (by simp <;> omega)).trans (heap_new_at w (.cells #[.string t.nm, .bool t.vr, .slice oa t.ts.length cap] 25) _ rfl)))
  have HR1 := Lib.hid hr1
  have HB1 := Lib.hid (HBA.out.trans (hb1.mono (by simp; omega)))
  have hz1 := hb1.size
  simp only [World.size_alloc] at hz1
  obtain ⟨⟨r0, r1, r2⟩, f0, f1, f2⟩ := box3 hr1
  obtain ⟨⟨s0, s1⟩, -⟩ := box2g hs1
  obtain ⟨⟨t0, t1, t2⟩, -⟩ := box3 ht1
  have HS1 := Lib.hid hs1
  have HT1 := Lib.hid ht1
  have HC := Lib.hid hc
  clear hr1 hs1 ht1 hb1 hc HCK
  by_cases hc0 : c = 0
  · subst hc0
    have HOK := Lib.hid (HC.out.1 rfl)
    clear r0 r1 r2 f0 f1 f2
    have hbx : Below w1.heap.size w1 (w1.alloc (.cells #[.int .i64 rule, .slice op pos.length cp] 36)) := by go_grown
    have hbw := HB1.out.trans (hbx.mono HB1.out.size)
    have hnew := heap_new_at w1 (.cells #[.int .i64 rule, .slice op pos.length cp] 36) w1.heap.size rfl
    have HPF := Lib.hid (perform_any L (.slice ol L.length cl) t (.slice oa t.ts.length cap) [(rule, pos)] (.slice (some ⟨w1.heap.size, 0, none⟩) 1 1) _ (HR.out.carry hbw hbw.size) (HS.out.carry hbw hbw.size)
      ⟨some ⟨w1.heap.size, 0, none⟩, 1, rfl, by simp, fun _ => ⟨w1.heap.size, 0, rfl, by simp, fun i p hp => by
        cases i with
        | zero =>
          simp only [List.getElem?_cons_zero, Option.some.injEq] at hp
          subst hp
          exact ⟨.slice op pos.length cp, (box2g hnew).1.1, (box2g hnew).1.2, HP.out.carry hbw hbw.size, hpl⟩
        | succ i => simp at hp⟩⟩ HOK.out.1 HOK.out.2 HLB.out (by simp) (fun b p hst => ⟨by obtain ⟨k, x, m, -, -, hx, -, -⟩ := stepM_some hst; simp only at hx; rw [hx]; rfl, trivial⟩))
    have HBX := Lib.hid hbx
    clear hbx hbw hnew
    go_wp2_with fail
    refine HPF.out.mono ?_
    rintro e w2 ⟨hpost, hb2⟩
    obtain ⟨u, c, ⟨su, rfl, hsu⟩, hstep⟩ := pf_step HOK.out.1 HOK.out.2 hpost
    obtain ⟨ou, cu, rfl, -⟩ := hsu.form
    dsimp only [tmv]
    have HB2 := Lib.hid (HBX.out.trans (hb2.mono HBX.out.size))
    have HSU := Lib.hid hsu
    have HST := Lib.hid hstep
    clear hb2 hsu hstep hpost HPF s0 s1 t0 t1 t2
    have hub : u.bulk ≤ 1048576 := by
      by_cases h : c = 0
      · have := (HST.out.zero h).2.2.1.bulk; omega
      · rw [HST.out.none_ h]; decide
    have hbx2 : Below w2.heap.size w2 (w2.alloc (.cells #[.string u.nm, .bool u.vr, .slice ou u.ts.length cu] 25)) := by go_grown
    have HCL := fun W (hW : Below w2.heap.size w2 W) => Lib.hid (rwclone_any u (.slice ou u.ts.length cu) W (HSU.out.carry hW hW.size) hub)
    have HBX2 := Lib.hid hbx2
    have hr2 := (HB2.out.block (w.heap.size + 1 + 1) (Array.getElem?_eq_some_iff.1 HR1.out).1).trans HR1.out
    have HR2 := Lib.hid hr2
    have hlt1 := (Array.getElem?_eq_some_iff.1 HR1.out).1
    have hz2 := HB2.out.size
    clear hbx2 hr2
    go_wp2_with fail
    refine (HCL _ HBX2.out).out.mono ?_
    rintro e w3 ⟨⟨u', su', rfl, hsu', hy, hn⟩, hb3⟩
    obtain rfl : u' = u := by
      by_cases ho : u.ok
      · exact hy ho
      · rw [hn ho, HST.out.none_ fun h => ho (HST.out.zero h).2.2.1]
    obtain ⟨ou', cu', rfl⟩ := hsu'.form
    dsimp only [tmv]
    have hb23 := HBX2.out.trans (hb3.mono HBX2.out.size)
    have hr3 := (hb23.block (w.heap.size + 1 + 1) (by omega)).trans HR2.out
    obtain ⟨⟨r0, r1, r2⟩, f0, f1, f2⟩ := box3 hr3
    have HR3 := Lib.hid hr3
    have HSU3 := Lib.hid hsu'
    have HB3 := Lib.hid (HB1.out.trans ((HB2.out.trans (hb23.mono HB2.out.size)).mono HB1.out.size))
    clear hb23 hr3 hsu' hy hn hb3
    go_wp2_with fail
    obtain ⟨⟨q0, q1, q2⟩, -⟩ := box3 (box3_set HR3.out (.string u'.nm) (.bool u'.vr) (.slice ou' u'.ts.length cu'))
    refine bodyPost_ret (v := .tuple #[.agg #[.string u'.nm, .bool u'.vr, .slice ou' u'.ts.length cu'], .int .i64 c]) (by simp [results, Tryz.f13, go_sem, q0, q1, q2]) rfl ?_
    refine ⟨u', c, ⟨⟨.slice ou' u'.ts.length cu', rfl, ?_⟩, below_set3 HB3.out (by omega) _ _ _⟩, HST.out⟩
    have hz1b := HB1.out.size
    exact HSU3.out.carry fun b hb => ⟨heap_set3 _ _ _ _ _ _ (by have := hb.1; simp at this; omega), by have := hb.1; simp at this; omega, by have := hb.2; simpa [World.setCell] using this⟩
  · have hcb : (c != 0) = true := by simpa using hc0
    have HC0 := Lib.hid hc0
    clear hc0
    go_wp2_with fail
    obtain ⟨⟨q0, q1, q2⟩, -⟩ := box3 (box3_set HR1.out (.string ⟨#[]⟩) (.bool false) (.slice none 0 0))
    refine bodyPost_ret (v := .tuple #[.agg #[.string ⟨#[]⟩, .bool false, .slice none 0 0], .int .i64 c]) (by simp [results, Tryz.f13, go_sem, q0, q1, q2]) rfl ?_
    exact ⟨Tm.zero, c, ⟨⟨_, rfl, .nil0⟩, below_set3 HB1.out (by omega) _ _ _⟩, ⟨fun h => absurd h HC0.out, fun _ => rfl, fun h1 h2 _ _ _ _ => HC.out.2 ⟨h1, h2⟩, fun h1 h2 _ _ _ => absurd (HC.out.2 ⟨h1, h2⟩) HC0.out⟩⟩
end Go.Proofs.YtamddagmlanijaaGreat
/- Put: the walk. -/
namespace Go.Proofs.YtamddagmlanijaaGreat
open Go.RowKit

/-- what Put answers -/
def PutSays (t : Tm) (l : List Int) (u r : Tm) (c : Int) : Prop :=
  (c = 0 ∧ t.ok ∧ (t.at l).isSome ∧ u.ok ∧ (t.put l u).ok ∧ r = t.put l u) ∨ (c ≠ 0 ∧ r = Tm.zero ∧ (t.ok → (t.at l).isSome → u.ok → c = 3 ∧ ¬ (t.put l u).ok))

end Go.Proofs.YtamddagmlanijaaGreat
/- Positions. -/
namespace Go.Proofs.YtamddagmlanijaaGreat
open Go.RowKit

theorem infoInts : (Tryz.prog.info? 34).map (fun i => (i.zero, i.size, i.bytes)) = some (some (.slice none 0 0), 1, 24) := by kernel_rfl
theorem ints_at (l : List Int) (i : Nat) (x : Int) (h : l[i]? = some x) : (ints l)[i]? = some (.int .i64 x) := by simp [ints, h]
/-- a row's cells -/
theorem ownsRow_cell {W : World} {m g n c : Nat} {e : TypeId} {l : List Int} (h : W.ownsRow m e 1 (.slice (some ⟨g, 0, none⟩) n c) n (ints l)) (i : Nat) (x : Int) (hx : l[i]? = some x) : W.cell? ⟨g, i, none⟩ = some (.int .i64 x) := by
  have := h.cells (g := g) rfl i _ (ints_at l i x hx)
  have e : (⟨g, 0, none⟩ : Addr).add i = ⟨g, i, none⟩ := by unfold Addr.add; split <;> simp_all
  rwa [e] at this
theorem ownsRow_form {W : World} {m n : Nat} {e : TypeId} {v : Value} {xs : List Value} (h : W.ownsRow m e 1 v n xs) : ∃ oa cap, v = .slice oa n cap ∧ (oa = none → n = 0) := by
  rcases h.2 with ⟨rfl, rfl⟩ | ⟨g, cap, cur, rfl, _⟩
  · exact ⟨_, _, rfl, fun _ => rfl⟩
  · exact ⟨_, _, rfl, fun h => by cases h⟩
theorem PosIs.ofRow {W : World} {m : Nat} {e : TypeId} {v : Value} {l : List Int} (h : W.ownsRow m e 1 v l.length (ints l)) : PosIs W.heap.size W l v := by
  have h0 := h
  rcases h.2 with ⟨rfl, hl⟩ | ⟨g, cap, cur, rfl, hb, hg, _⟩
  · exact ⟨none, 0, by rw [hl], fun hne => absurd (List.length_eq_zero_iff.1 hl) hne⟩
  · refine ⟨_, cap, rfl, fun _ => ⟨g, 0, rfl, (Array.getElem?_eq_some_iff.1 hg).1, fun i x hx => ?_⟩⟩
    rw [Nat.zero_add]
    exact ownsRow_cell h0 i x hx

theorem clonePos_any (m : Nat) (v : Value) (l : List Int) (w : World) (h : w.ownsRow m 3 1 v l.length (ints l)) (hl : l.length ≤ 1048576) :
    Calls Tryz.prog 186 #[v] w fun e w' => (∃ v', e = .returned v' ∧ w'.ownsRow w.heap.size 3 1 v' l.length (ints l)) ∧ Below w.heap.size w w' := by
  have h0 := h
  rcases h.2 with ⟨rfl, hl0⟩ | ⟨g, cap, cur, rfl, hb, hg, _⟩
  · obtain rfl : l = [] := List.length_eq_zero_iff.1 hl0
    refine (Tryz.slices_Clone_int_nil 0 0 w).mono ?_
    rintro e w' ⟨rfl, rfl⟩
    exact ⟨⟨_, rfl, World.ownsRow_nil _ _ _ _⟩, Below.refl _ _⟩
  · refine (Tryz.slices_Clone_int g 0 l.length cap l w (Nat.le_refl _) (by omega) fun j hj => ?_).mono ?_
    · rw [Nat.zero_add, List.getD_eq_getElem?_getD, List.getElem?_eq_getElem hj]
      exact ownsRow_cell h0 j _ (List.getElem?_eq_getElem hj)
    · rintro e w' ⟨v', rfl, ho, -, hbw⟩
      rw [List.take_length] at ho
      exact ⟨⟨v', rfl, ho⟩, hbw⟩

theorem Tm.depth_mem {t : Tm} {l : List Tm} (h : t ∈ l) : t.depth ≤ Tm.depths l := by
  induction l with
  | nil => cases h
  | cons x l ih =>
    simp only [Tm.depths]
    rcases List.mem_cons.1 h with rfl | h
    · omega
    · have := ih h; omega
/-- k arguments being done -/
structure PosSt (n₀ : Nat) (w : World) (all pos : Value) (l : List Int) (hs : List Value) (ts : List Tm) (k : Nat) (W : World) (a : Value) (hk : List Value) : Prop where
  rall : W.ownsRow n₀ 34 1 a (hs.length + hk.length) (hs ++ hk)
  heads : Hs w.heap.size W (l :: Tm.positionsL l 0 (ts.take k)) hk
  same : a.ownBlock = all.ownBlock ∨ ∃ j, a.ownBlock = some j ∧ w.heap.size ≤ j
  fr : FrP all.ownBlock pos.ownBlock w W
  rpos : W.ownsRow n₀ 3 1 pos l.length (ints l)

theorem ints_snoc (l : List Int) (x : Int) : ints (l ++ [x]) = ints l ++ [.int .i64 x] := by simp [ints]
theorem types_apart : 3 ≠ 34 := by decide
theorem PosSt.start {n₀ : Nat} {w w1 w2 : World} {all pos h v2 : Value} {l : List Int} {hs : List Value} {ts : List Tm} (hall : w.ownsRow n₀ 34 1 all hs.length hs) (hpos : w.ownsRow n₀ 3 1 pos l.length (ints l))
    (hb1 : Below w.heap.size w w1) (hh : w1.ownsRow w.heap.size 3 1 h l.length (ints l)) (ho : w2.ownsRow n₀ 34 1 v2 (hs.length + 1) (hs ++ [h])) (hg : w1.grownBy w2 all.ownBlock) (hat : v2.ownBlock = all.ownBlock ∨ v2.ownBlock = some w1.heap.size) :
    PosSt n₀ w all pos l hs ts 0 w2 v2 [h] := by
  have hz := hb1.size
  have hg1 : w.grownBy w1 none := below_grown hb1
  have nn : ∀ v : Value, v.ownBlock = none ∨ v.ownBlock ≠ none := fun v => by cases v.ownBlock <;> simp
  refine ⟨ho, ⟨hh.kept hg ?_, ?_⟩, ?_, ?_, ?_⟩
  · exact ownsRow_apart hh (hall.kept hg1 (nn _)) types_apart
  · simp [Tm.positionsL, Hs]
  · rcases hat with h | h
    · exact .inl h
    · exact .inr ⟨_, h, hz⟩
  · exact (FrP.of_below (x := all.ownBlock) (y := pos.ownBlock) hb1).trans (FrP.grown hg) (.inl rfl) (.inr (.inr (fun j hj => by cases hj)))
  · exact (hpos.kept hg1 (nn _)).kept hg (ownsRow_apart hpos hall types_apart)

theorem PosSt.step {n₀ k : Nat} {w W A B W' : World} {all pos a a' v' : Value} {l : List Int} {hs hk hk2 : List Value} {ts : List Tm} {u : Tm} (st : PosSt n₀ w all pos l hs ts k W a hk) (hpos : w.ownsRow n₀ 3 1 pos l.length (ints l)) (hu : ts[k]? = some u)
    (hA : Below W.heap.size W A) (hm : More A B pos v' l.length) (r : PosSt n₀ B a v' (l ++ [(k : Int)]) (hs ++ hk) u.ts u.ts.length W' a' hk2) :
    PosSt n₀ w all pos l hs ts (k + 1) W' a' (hk ++ hk2) := by
  have hzA := hA.size
  have hzB := hm.frame.size
  have hzW := st.fr.size
  have hkl : k < ts.length := (List.getElem?_eq_some_iff.1 hu).1
  have nn : ∀ v : Value, v.ownBlock = none ∨ v.ownBlock ≠ none := fun v => by cases v.ownBlock <;> simp
  have hgA : W.grownBy A none := below_grown hA
  have hposA := st.rpos.kept hgA (nn _)
  have hallA := st.rall.kept hgA (nn _)
  have hpa := ownsRow_apart hposA hallA types_apart
  have hallB := hallA.kept hm.frame (ownsRow_apart hallA hposA types_apart.symm)
  refine ⟨?_, ?_, ?_, ?_, ?_⟩
  · have := r.rall
    simpa [Nat.add_assoc] using this
  · rw [Tm.take_snoc hu, Tm.positionsL_snoc, List.length_take, Nat.min_eq_left (by omega), Nat.zero_add, ← List.cons_append]
    have h2 := r.heads
    rw [List.take_length, ← Tm.positions_eq] at h2
    refine Hs.append (st.heads.kept fun v p hv => ?_) (h2.kept fun v p hv => ownsRow_mono hv (by omega))
    have hvA := hv.kept hgA (nn _)
    have hvB : B.ownsRow w.heap.size 3 1 v p.length (ints p) := hvA.kept hm.frame (by
      cases hq : v.ownBlock with
      | none => exact .inl rfl
      | some j => exact .inr fun he => by have h1 := (hv.lt _ hq).1; have h3 := (hpos.lt _ he.symm).2; omega)
    refine r.fr.row hvB (ownsRow_apart hvB hallB types_apart) ?_
    cases hq : v.ownBlock with
    | none => exact .inl rfl
    | some j =>
      refine .inr fun he => ?_
      have h1 := hv.lt _ hq
      rcases hm.own with h3 | ⟨j', h3, h4⟩
      · rw [h3] at he; have := (hpos.lt _ he.symm).2; omega
      · rw [h3] at he; cases he; omega
  · rcases r.same with h | ⟨j, h, hj⟩
    · rw [h]; exact st.same
    · exact .inr ⟨j, h, by omega⟩
  · refine ((st.fr.trans (FrP.of_below (x := none) (y := none) hA) (.inr (.inr fun j hj => by cases hj)) (.inr (.inr fun j hj => by cases hj))).trans (FrP.grown hm.frame) (.inr (.inl rfl)) (.inr (.inr fun j hj => by cases hj))).trans r.fr ?_ ?_
    · rcases st.same with h | ⟨j, h, hj⟩
      · exact .inl h
      · exact .inr (.inr fun i hi => by rw [h] at hi; cases hi; exact hj)
    · rcases hm.own with h | ⟨j, h, hj⟩
      · exact .inl h
      · exact .inr (.inr fun i hi => by rw [h] at hi; cases hi; omega)
  · have h3 := r.rpos
    rw [ints_snoc, List.length_append] at h3
    exact hm.back hposA h3 r.fr hpa

end Go.Proofs.YtamddagmlanijaaGreat
/- Positions compared: SamePos, parallel, same. -/
namespace Go.Proofs.YtamddagmlanijaaGreat
open Go.RowKit

set_option maxRecDepth 100000 in
set_option maxHeartbeats 1000000 in
theorem samePos_any (a b : List Int) (va vb : Value) (w : World) (n₀ : Nat) (ha : PosIs n₀ w a va) (hb : PosIs n₀ w b vb) (hla : a.length ≤ 1048576) (hlb : b.length ≤ 1048576) :
    Calls Tryz.prog 113 #[va, vb] w fun e w' => e = .returned (.bool (decide (a = b))) ∧ ∃ m, w' = w.drewN m := by
  obtain ⟨oa, ca, rfl, hfa⟩ := ha.form
  obtain ⟨ob, cb, rfl, hfb⟩ := hb.form
  have HA := Lib.hid hfa
  have HB := Lib.hid hfb
  clear ha hb hfa hfb
  by_cases hlen : a.length = b.length
  · have hne : ((a.length : Int) != (b.length : Int)) = false := by rw [bne_eq_false_iff_eq]; omega
    have HLEN := Lib.hid hlen
    go_enter Tryz.func113, Tryz.ntmps113
    go_wp2_with fail
    go_loopw [13] (fun i wr => ∃ (j m : Nat), j ≤ a.length ∧ i = .int .i64 j ∧ wr = w.drewN m ∧ Hid (∀ k, k < j → a[k]? = b[k]?)) (fun i _ => a.length - (intOf i).toNat)
    case atStart => exact ⟨0, 0, by omega, rfl, rfl, Lib.hid (fun k h => absurd h (by omega))⟩
    case round =>
      obtain ⟨j, m, hj, rfl, rfl, HE⟩ := hrel
      by_cases hlt : j < a.length
      · have hltb : j < b.length := by omega
        obtain ⟨x, hx⟩ : ∃ x, a[j]? = some x := ⟨_, List.getElem?_eq_getElem hlt⟩
        obtain ⟨y, hy⟩ : ∃ y, b[j]? = some y := ⟨_, List.getElem?_eq_getElem hltb⟩
        obtain ⟨b1, o1, rfl, _, hc1⟩ := HA.out (by rintro rfl; simp at hlt)
        obtain ⟨b2, o2, rfl, _, hc2⟩ := HB.out (by rintro rfl; simp at hltb)
        have h1 := hc1 j x hx
        have h2 := hc2 j y hy
        have HX := Lib.hid hx
        have HY := Lib.hid hy
        clear hc1 hc2 hx hy
        by_cases hxy : x = y
        · have hbb : (x != y) = false := by rw [bne_eq_false_iff_eq]; exact hxy
          have HXY := Lib.hid hxy
          clear hxy
          go_wp2_with fail
          go_quiet (fail)
          go_wp2_with fail
          exact ⟨⟨j + 1, _, by omega, by go_num, rfl, Lib.hid (fun k hk => by
            by_cases e : k = j
            · subst e; rw [HX.out, HY.out, HXY.out]
            · exact HE.out k (by omega))⟩, by simp [intOf]; omega⟩
        · have hbb : (x != y) = true := by rw [bne_iff_ne]; exact hxy
          have HXY : Hid (decide (a = b) = false) := Lib.hid (by rw [decide_eq_false_iff_not]; rintro rfl; have h3 := HX.out; rw [HY.out] at h3; cases h3; exact hxy rfl)
          clear hxy
          go_wp2_with fail
          go_quiet (fail)
          go_wp2_with fail
          go_ret
          refine ⟨by rw [HXY.out]; rfl, ?_⟩
          exact ⟨m + nq, by simp⟩
      · have HAB : Hid (decide (a = b) = true) := Lib.hid (by
          rw [decide_eq_true_iff]
          apply List.ext_getElem?
          intro k
          by_cases hk : k < a.length
          · exact HE.out k (by omega)
          · rw [List.getElem?_eq_none (by omega), List.getElem?_eq_none (by omega)])
        go_wp2_with fail
        go_ret
        refine ⟨by rw [HAB.out]; rfl, ?_⟩
        exact ⟨_, rfl⟩
  · have hne : ((a.length : Int) != (b.length : Int)) = true := by rw [bne_iff_ne]; omega
    have HAB : Hid (decide (a = b) = false) := Lib.hid (by rw [decide_eq_false_iff_not]; rintro rfl; exact hlen rfl)
    go_enter Tryz.func113, Tryz.ntmps113
    go_wp2_with fail
    go_ret
    exact ⟨by rw [HAB.out]; rfl, 0, rfl⟩

/-- do the positions part before either ends? -/
def Parallel (a b : List Int) : Prop := ∃ (k : Nat) (x y : Int), a[k]? = some x ∧ b[k]? = some y ∧ x ≠ y

end Go.Proofs.YtamddagmlanijaaGreat
