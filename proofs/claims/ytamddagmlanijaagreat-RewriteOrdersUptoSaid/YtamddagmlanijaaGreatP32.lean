/- Packed: Alp, Alv, Wks, ApF, Tmw, Inv. -/
import Derived.Test.YtamddagmlanijaaGreatP31
import Derived.Test.YtamddagmlanijaaGreatP13
import Derived.Test.YtamddagmlanijaaGreatP05
import Derived.Test.YtamddagmlanijaaGreatP07
import Derived.WalkKit
import Derived.ProofKit
import Derived.OpenShut
import Derived.Handy
import Derived.Lib.Hide
import Derived.Laws.Strings
import Derived.Laws.Strings2
import Derived.Test.YtamddagmlanijaaGreatP01
import Derived.Test.YtamddagmlanijaaGreatP03
import Derived.Test.YtamddagmlanijaaGreatP04
import Derived.Test.YtamddagmlanijaaGreatP08
import Derived.Test.YtamddagmlanijaaGreatP11
import Derived.Deep.RegionHeld3
import Derived.Test.YtamddagmlanijaaGreatP16
import Derived.Orders
import Derived.RegionTactic
/- alive's system, plain: its redexes and its run. -/
namespace Go.Proofs.YtamddagmlanijaaGreat
open Go.RowKit

def tA : Tm := .mk ⟨#[97]⟩ false []
def tB : Tm := .mk ⟨#[98]⟩ false []
def tX : Tm := .mk ⟨#[120]⟩ true []
def tF (a b : Tm) : Tm := .mk ⟨#[102]⟩ false [a, b]
/-- the system of alive, with the values that hold its sides' arguments -/
def aR (v1 v2 v3 v4 : Value) : List RlV := [((tA, v1), (tB, v2)), ((tF tX tX, v3), (tX, v4))]

theorem appl_aa : appl tA tA = true := by
  have h1 : Tm.shape tA tA = true := rfl
  have h2 : linB tA = true := rfl
  simp [appl, h1, h2]
theorem appl_ab : appl tA tB = false := by
  have h1 : Tm.shape tA tB = false := rfl
  simp [appl, h1]
theorem appl_af (a b : Tm) : appl tA (tF a b) = false := by
  have h1 : Tm.shape tA (tF a b) = false := rfl
  simp [appl, h1]
theorem appl_fa : appl (tF tX tX) tA = false := by
  have h1 : Tm.shape (tF tX tX) tA = false := rfl
  simp [appl, h1]
theorem appl_fb : appl (tF tX tX) tB = false := by
  have h1 : Tm.shape (tF tX tX) tB = false := rfl
  simp [appl, h1]
theorem mtc_x (t : Tm) : mtc tX [] t = some [([120], t)] := by
  have := mtc_new (p := tX) (m := []) (t := t) rfl (by simp)
  exact this
theorem mtc_same (t : Tm) : mtc tX [([120], t)] t = some [([120], t)] := mtc_old (p := tX) rfl (by simp [tX, Tm.nm]) rfl
theorem mtc_other {t u : Tm} (h : t ≠ u) : mtc tX [([120], t)] u = none := mtc_clash (p := tX) rfl (by simp [tX, Tm.nm]) h
theorem mtc_fs (a : Tm) : mtc (tF tX tX) [] (tF a a) = some [([120], a)] := by
  rw [show mtc (tF tX tX) [] (tF a a) = _ from mtc_fun (p := tF tX tX) (t := tF a a) rfl ⟨rfl, rfl, rfl⟩]
  show mtcs [tX, tX] [] [a, a] = _
  simp only [mtcs, mtc_x, mtc_same]
theorem mtc_fo {a b : Tm} (h : a ≠ b) : mtc (tF tX tX) [] (tF a b) = none := by
  rw [show mtc (tF tX tX) [] (tF a b) = _ from mtc_fun (p := tF tX tX) (t := tF a b) rfl ⟨rfl, rfl, rfl⟩]
  show mtcs [tX, tX] [] [a, b] = _
  simp only [mtcs, mtc_x, mtc_other h]
theorem linB_f : linB (tF tX tX) = false := rfl
theorem shape_ff (a b : Tm) : Tm.shape (tF tX tX) (tF a b) = true := rfl
theorem appl_fs (a : Tm) : appl (tF tX tX) (tF a a) = true := by
  simp only [appl, shape_ff, linB_f, mtc_fs, Bool.true_and, Bool.false_or, Option.isSome_some]
theorem appl_fo {a b : Tm} (h : a ≠ b) : appl (tF tX tX) (tF a b) = false := by
  simp only [appl, shape_ff, linB_f, mtc_fo h, Bool.true_and, Bool.false_or, Option.isSome_none]
section
variable (v1 v2 v3 v4 : Value)
theorem rulesAt_eq (u : Tm) : rulesAt (aR v1 v2 v3 v4) u = (if appl tA u then [0] else []) ++ (if appl (tF tX tX) u then [1] else []) := by
  unfold rulesAt
  rw [show (aR v1 v2 v3 v4).length = 0 + 1 + 1 from rfl, rulesUpto_succ (p := ((tF tX tX, v3), (tX, v4))) rfl, rulesUpto_succ (p := ((tA, v1), (tB, v2))) rfl]
  rfl
theorem rdx_f (a b : Tm) (ha : a.ts = []) (hb : b.ts = []) : rdx (aR v1 v2 v3 v4) (tF a b) = ([([], tF a b), ([0], a), ([1], b)] : List Pl).filterMap (selR (aR v1 v2 v3 v4)) := by
  unfold rdx selsR
  congr 1
  cases a; cases b
  simp only [Tm.ts] at ha hb
  subst ha; subst hb
  rfl
theorem rdx_b : rdx (aR v1 v2 v3 v4) tB = [] := by
  unfold rdx selsR
  rw [show tB.places [] = [([], tB)] from rfl]
  simp only [List.filterMap_cons, List.filterMap_nil, selR, rulesAt_eq, appl_ab, appl_fb]
  rfl
theorem tA_ne : tA ≠ tB := by simp [tA, tB]
theorem rdx_aa : rdx (aR v1 v2 v3 v4) (tF tA tA) = [([], [1]), ([0], [0]), ([1], [0])] := by
  rw [rdx_f _ _ _ _ _ _ rfl rfl]
  simp [selR, rulesAt_eq, appl_aa, appl_fa, appl_af, appl_fs]
theorem rdx_ba : rdx (aR v1 v2 v3 v4) (tF tB tA) = [([1], [0])] := by
  rw [rdx_f _ _ _ _ _ _ rfl rfl]
  simp [selR, rulesAt_eq, appl_aa, appl_fa, appl_af, appl_fo tA_ne.symm, appl_ab, appl_fb]
theorem rdx_bb : rdx (aR v1 v2 v3 v4) (tF tB tB) = [([], [1])] := by
  rw [rdx_f _ _ _ _ _ _ rfl rfl]
  simp [selR, rulesAt_eq, appl_af, appl_fs, appl_ab, appl_fb]
theorem stepM_at {l : List RlV} {t : Tm} {i : Nat} {pos : List Int} {p : RlV} {x : Tm} {m : List Bd} (h1 : l[i]? = some p) (h2 : t.at pos = some x) (h3 : mtc p.1.1 [] x = some m) : stepM l t (i : Int) pos = some (subK m, p) := by
  unfold stepM
  rw [if_pos (by omega)]
  simp only [Int.toNat_natCast, h1, h2, h3, Option.map_some]
theorem pf_one {l : List RlV} {t : Tm} {i : Nat} {pos : List Int} {b : List Bd} {p : RlV} (h : stepM l t (i : Int) pos = some (b, p)) (hs : (apB b p.2.1).small) (h2 : (t.at pos).isSome) :
    pfRun l t t 0 [((i : Int), pos)] = .ok (t.put pos (apB b p.2.1)) (0 + (apB b p.2.1).size) ∧ PfGood l t t [((i : Int), pos)] := by
  refine ⟨?_, fun b' p' _ => ⟨h2, trivial⟩⟩
  have h4 := hs.1
  simp only [pfRun, h]
  rw [if_pos ⟨hs, by omega⟩]
theorem tA_ok : tA.ok := by
  refine ⟨?_, by decide, by decide⟩
  intro v hv
  rw [show tA.nodes 1 = [(1, ⟨#[97]⟩, false, 0)] from rfl] at hv
  simp only [List.mem_cons, List.not_mem_nil, or_false] at hv
  subst hv; decide
theorem tB_ok : tB.ok := by
  refine ⟨?_, by decide, by decide⟩
  intro v hv
  rw [show tB.nodes 1 = [(1, ⟨#[98]⟩, false, 0)] from rfl] at hv
  simp only [List.mem_cons, List.not_mem_nil, or_false] at hv
  subst hv; decide
theorem tX_ok : tX.ok := by
  refine ⟨?_, by decide, by decide⟩
  intro v hv
  rw [show tX.nodes 1 = [(1, ⟨#[120]⟩, true, 0)] from rfl] at hv
  simp only [List.mem_cons, List.not_mem_nil, or_false] at hv
  subst hv; decide
theorem fxx_ok : (tF tX tX).ok := by
  refine ⟨?_, by decide, by decide⟩
  intro v hv
  rw [show (tF tX tX).nodes 1 = [(1, ⟨#[102]⟩, false, 2), (2, ⟨#[120]⟩, true, 0), (2, ⟨#[120]⟩, true, 0)] from rfl] at hv
  simp only [List.mem_cons, List.not_mem_nil, or_false] at hv
  rcases hv with rfl | rfl | rfl <;> decide
theorem faa_ok : (tF tA tA).ok := by
  refine ⟨?_, by decide, by decide⟩
  intro v hv
  rw [show (tF tA tA).nodes 1 = [(1, ⟨#[102]⟩, false, 2), (2, ⟨#[97]⟩, false, 0), (2, ⟨#[97]⟩, false, 0)] from rfl] at hv
  simp only [List.mem_cons, List.not_mem_nil, or_false] at hv
  rcases hv with rfl | rfl | rfl <;> decide
theorem fba_ok : (tF tB tA).ok := by
  refine ⟨?_, by decide, by decide⟩
  intro v hv
  rw [show (tF tB tA).nodes 1 = [(1, ⟨#[102]⟩, false, 2), (2, ⟨#[98]⟩, false, 0), (2, ⟨#[97]⟩, false, 0)] from rfl] at hv
  simp only [List.mem_cons, List.not_mem_nil, or_false] at hv
  rcases hv with rfl | rfl | rfl <;> decide
theorem fbb_ok : (tF tB tB).ok := by
  refine ⟨?_, by decide, by decide⟩
  intro v hv
  rw [show (tF tB tB).nodes 1 = [(1, ⟨#[102]⟩, false, 2), (2, ⟨#[98]⟩, false, 0), (2, ⟨#[98]⟩, false, 0)] from rfl] at hv
  simp only [List.mem_cons, List.not_mem_nil, or_false] at hv
  rcases hv with rfl | rfl | rfl <;> decide
theorem aR_ok : SysOk (aR v1 v2 v3 v4) := by
  refine ⟨(show 2 ≤ 64 by decide), ?_, ?_, ?_⟩
  · intro x hx
    simp only [aR, sidesV, List.mem_cons, List.not_mem_nil, or_false] at hx
    rcases hx with rfl | rfl | rfl | rfl
    · exact tA_ok
    · exact tB_ok
    · exact fxx_ok
    · exact tX_ok
  · have : (arRun [] (viewsV (sidesV (aR v1 v2 v3 v4)))).isSome = true := rfl
    intro h
    rw [h] at this; cases this
  · intro p hp
    simp only [aR, List.mem_cons, List.not_mem_nil, or_false] at hp
    rcases hp with rfl | rfl <;> exact ⟨rfl, rfl⟩
theorem aR_bulk : ∀ x ∈ sidesV (aR v1 v2 v3 v4), x.1.bulk ≤ 1048576 := by
  intro x hx
  simp only [aR, sidesV, List.mem_cons, List.not_mem_nil, or_false] at hx
  rcases hx with rfl | rfl | rfl | rfl
  · exact (show tA.bulk ≤ 1048576 by decide)
  · exact (show tB.bulk ≤ 1048576 by decide)
  · exact (show (tF tX tX).bulk ≤ 1048576 by decide)
  · exact (show tX.bulk ≤ 1048576 by decide)
theorem sub_n : apB (subK []) tB = tB := apB_fun _ (t := tB) rfl
theorem apX (b : Tm) (m : List Bd) (h : imageOf m [120] = b) : apB m tX = b := (apB_var m (t := tX) rfl).trans h
theorem step1 : pfRun (aR v1 v2 v3 v4) (tF tA tA) (tF tA tA) 0 [(((0 : Nat) : Int), [0])] = .ok (tF tB tA) 1 ∧ PfGood (aR v1 v2 v3 v4) (tF tA tA) (tF tA tA) [(((0 : Nat) : Int), [0])] :=
  by
    have h := pf_one (l := aR v1 v2 v3 v4) (stepM_at (p := ((tA, v1), (tB, v2))) (x := tA) (t := tF tA tA) (pos := [0]) (i := 0) (m := []) rfl rfl rfl) (by simp only [sub_n]; exact ⟨by decide, by decide⟩) rfl
    simp only [sub_n] at h
    exact h
theorem step2 : pfRun (aR v1 v2 v3 v4) (tF tB tA) (tF tB tA) 0 [(((0 : Nat) : Int), [1])] = .ok (tF tB tB) 1 ∧ PfGood (aR v1 v2 v3 v4) (tF tB tA) (tF tB tA) [(((0 : Nat) : Int), [1])] :=
  by
    have h := pf_one (l := aR v1 v2 v3 v4) (stepM_at (p := ((tA, v1), (tB, v2))) (x := tA) (t := tF tB tA) (pos := [1]) (i := 0) (m := []) rfl rfl rfl) (by simp only [sub_n]; exact ⟨by decide, by decide⟩) rfl
    simp only [sub_n] at h
    exact h
theorem sub_x (b : Tm) : apB (subK [([120], b)]) tX = b := apX b _ ((imageOf_subK _ _).trans rfl)
theorem step3 : pfRun (aR v1 v2 v3 v4) (tF tB tB) (tF tB tB) 0 [(((1 : Nat) : Int), [])] = .ok tB 1 ∧ PfGood (aR v1 v2 v3 v4) (tF tB tB) (tF tB tB) [(((1 : Nat) : Int), [])] := by
  have h := pf_one (l := aR v1 v2 v3 v4) (stepM_at (p := ((tF tX tX, v3), (tX, v4))) (x := tF tB tB) (t := tF tB tB) (pos := []) (i := 1) rfl rfl (mtc_fs tB)) (by rw [sub_x]; exact ⟨by decide, by decide⟩) rfl
  simp only [sub_x] at h
  exact h
theorem cho_inner : flatS (choL 2 (rdx (aR v1 v2 v3 v4) (tF tA tA))) = [(0, [0]), (0, [1])] := by rw [rdx_aa]; rfl
theorem cho_outer : flatS (choL 3 (rdx (aR v1 v2 v3 v4) (tF tA tA))) = [(1, [])] := by rw [rdx_aa]; rfl
theorem cho_l1 : choL 4 (rdx (aR v1 v2 v3 v4) (tF tA tA)) = [([0], [0])] := by rw [rdx_aa]; rfl
theorem cho_l2 : choL 4 (rdx (aR v1 v2 v3 v4) (tF tB tA)) = [([1], [0])] := by rw [rdx_ba]; rfl
theorem cho_l3 : choL 4 (rdx (aR v1 v2 v3 v4) (tF tB tB)) = [([], [1])] := by rw [rdx_bb]; rfl
theorem cho_l4 : choL 4 (rdx (aR v1 v2 v3 v4) tB) = [] := by rw [rdx_b]; rfl
theorem aRun : NRun (aR v1 v2 v3 v4) 4 (tF tA tA) [tF tB tA, tF tB tB, tB] :=
  ⟨⟨([0], [0]), 0, 1, by rw [cho_l1]; rfl, rfl, (step1 v1 v2 v3 v4).1, (step1 v1 v2 v3 v4).2⟩, fba_ok,
    ⟨([1], [0]), 0, 1, by rw [cho_l2]; rfl, rfl, (step2 v1 v2 v3 v4).1, (step2 v1 v2 v3 v4).2⟩, fbb_ok,
    ⟨([], [1]), 1, 1, by rw [cho_l3]; rfl, rfl, (step3 v1 v2 v3 v4).1, (step3 v1 v2 v3 v4).2⟩, tB_ok, cho_l4 v1 v2 v3 v4⟩
end
end Go.Proofs.YtamddagmlanijaaGreat
/- alive of stage 4. -/
namespace Go.Proofs.YtamddagmlanijaaGreat
open Go.RowKit Go.Maps

theorem lvar_mk (nm : ByteArray) (w : World) : Calls Tryz.prog 45 #[.string nm] w fun e w' => e = .returned (.agg #[.string nm, .bool true, .slice none 0 0]) ∧ Below w.heap.size w w' := by
  go_enter Tryz.func45, Tryz.ntmps45
  go_wp2_with fail
  exact bodyPost_ret (v := .agg #[.string nm, .bool true, .slice none 0 0]) (by simp [results, Tryz.f45, go_sem]) rfl ⟨rfl, by go_grown⟩
theorem lsym_mk (nm : ByteArray) (o : Option Addr) (n c : Nat) (w : World) : Calls Tryz.prog 44 #[.string nm, .slice o n c] w fun e w' => e = .returned (.agg #[.string nm, .bool false, .slice o n c]) ∧ Below w.heap.size w w' := by
  go_enter Tryz.func44, Tryz.ntmps44
  go_wp2_with fail
  exact bodyPost_ret (v := .agg #[.string nm, .bool false, .slice o n c]) (by simp [results, Tryz.f44, go_sem]) rfl ⟨rfl, by go_grown⟩
theorem ownsRow_block {W : World} {g n k : Nat} {e : TypeId} {c : List Value} (h : W.heap[g]? = some (.cells c.toArray e (0, 0))) (hl : c.length = n * k) (hm : n ≤ maxLen) : W.ownsRow 0 e k (.slice (some ⟨g, 0, none⟩) n n) n c :=
  ⟨by simp [hl], .inr ⟨g, n, c.toArray, rfl, Nat.zero_le _, h, Nat.le_refl _, hm, by simp [hl], by simp [← hl]⟩⟩
theorem rowIs {W : World} {g : Nat} (ch : List (Tm × Value)) (h : W.heap[g]? = some (.cells (stCells ch).toArray 25 (0, 0))) (hm : ch.length ≤ 8) (hk : ∀ c ∈ ch, SlIs W.heap.size W c.1.ts c.2) : SlIs W.heap.size W (ch.map (·.1)) (.slice (some ⟨g, 0, none⟩) ch.length ch.length) := by
  have hl : (stCells ch).length = ch.length * 3 := by
    clear h hm hk
    induction ch with
    | nil => rfl
    | cons p ch ih => rw [show stCells (p :: ch) = [.string p.1.nm, .bool p.1.vr, p.2] ++ stCells ch from rfl, List.length_append, ih]; simp; omega
  have h1 := SlP.ofRow (p := fun _ => True) (ownsRow_block h hl (by unfold maxLen; omega)) (fun _ _ => trivial) (fun c hc => (hk c hc).toP.carry fun b _ => ⟨rfl, trivial⟩)
  exact h1.lt.toIs fun b hb => hb.2
abbrev nil0 : Value := .slice none 0 0
/-- the two rules, as they lie -/
theorem aRul {W : World} {b b3 : Nat} (h : W.heap[b]? = some (.cells #[.string ⟨#[97]⟩, .bool false, nil0, .string ⟨#[98]⟩, .bool false, nil0, .string ⟨#[102]⟩, .bool false, .slice (some ⟨b3, 0, none⟩) 2 2, .string ⟨#[120]⟩, .bool true, nil0] 75 (0, 0)))
    (h3 : SlIs W.heap.size W [tX, tX] (.slice (some ⟨b3, 0, none⟩) 2 2)) : RulV W.heap.size W (aR nil0 nil0 (.slice (some ⟨b3, 0, none⟩) 2 2) nil0) (.slice (some ⟨b, 0, none⟩) 2 2) := by
  refine ⟨_, 2, rfl, Nat.le_refl _, fun _ => ⟨b, 0, rfl, (Array.getElem?_eq_some_iff.1 h).1, fun i p hp => ?_⟩⟩
  have hc : ∀ j, W.cell? ⟨b, j, none⟩ = #[.string ⟨#[97]⟩, .bool false, nil0, .string ⟨#[98]⟩, .bool false, nil0, .string ⟨#[102]⟩, .bool false, .slice (some ⟨b3, 0, none⟩) 2 2, .string ⟨#[120]⟩, .bool true, nil0][j]? := fun j => cells_of h j
  match i with
  | 0 =>
    cases hp
    exact ⟨⟨(hc 0).trans rfl, (hc 1).trans rfl, (hc 2).trans rfl, (hc 3).trans rfl, (hc 4).trans rfl, (hc 5).trans rfl⟩, .nil0, .nil0⟩
  | 1 =>
    cases hp
    exact ⟨⟨(hc 6).trans rfl, (hc 7).trans rfl, (hc 8).trans rfl, (hc 9).trans rfl, (hc 10).trans rfl, (hc 11).trans rfl⟩, h3, .nil0⟩
  | i + 2 => cases hp
/-- SameSteps at equal steps -/
theorem sameSteps_eq (a : List Stp) (va vb : Value) (w : World) (ha : StpsIs w.heap.size w a va) (hb : StpsIs w.heap.size w a vb) (hl : a.length ≤ 1048576) :
    Calls Tryz.prog 48 #[va, vb] w fun e w' => e = .returned (.bool true) ∧ ∃ m, w' = w.drewN m := by
  refine (sameSteps_any a a va vb w w.heap.size ha hb hl hl).mono ?_
  rintro e w' ⟨h1, h2⟩
  exact ⟨h1.trans (by simp), h2⟩
/-- one position in a block -/
theorem posBlock {W : World} {b : Nat} {x : Int} (h : W.heap[b]? = some (.cells #[.int .i64 x] 3 (0, 0))) : PosC W.heap.size W [x] (.slice (some ⟨b, 0, none⟩) 1 1) :=
  PosC.ofRow (ownsRow_block (c := ints [x]) h rfl (by unfold maxLen; omega))
/-- the steps of the first comparison -/
theorem lit2 {W : World} {b b1 b2 : Nat} (h : W.heap[b]? = some (.cells #[.int .i64 0, .slice (some ⟨b1, 0, none⟩) 1 1, .int .i64 0, .slice (some ⟨b2, 0, none⟩) 1 1] 36 (0, 0))) (h1 : W.heap[b1]? = some (.cells #[.int .i64 0] 3 (0, 0))) (h2 : W.heap[b2]? = some (.cells #[.int .i64 1] 3 (0, 0))) :
    StpsIs W.heap.size W [(0, [0]), (0, [1])] (.slice (some ⟨b, 0, none⟩) 2 2) := by
  refine ⟨_, 2, rfl, Nat.le_refl _, fun _ => ⟨b, 0, rfl, (Array.getElem?_eq_some_iff.1 h).1, fun i p hp => ?_⟩⟩
  match i with
  | 0 => cases hp; exact ⟨_, cells_of h 0, cells_of h 1, posBlock h1, by decide⟩
  | 1 => cases hp; exact ⟨_, cells_of h 2, cells_of h 3, posBlock h2, by decide⟩
  | i + 2 => cases hp
/-- and of the second -/
theorem lit1 {W : World} {b : Nat} (h : W.heap[b]? = some (.cells #[.int .i64 1, nil0] 36 (0, 0))) : StpsIs W.heap.size W [(1, [])] (.slice (some ⟨b, 0, none⟩) 1 1) := by
  refine ⟨_, 1, rfl, Nat.le_refl _, fun _ => ⟨b, 0, rfl, (Array.getElem?_eq_some_iff.1 h).1, fun i p hp => ?_⟩⟩
  match i with
  | 0 => cases hp; exact ⟨_, cells_of h 0, cells_of h 1, PosC.ofRow (World.ownsRow_nil W 0 3 1), by decide⟩
  | i + 1 => cases hp

theorem aKeep {W0 W : World} {K : Nat} {nx : ByteArray} {ny : Bool} {z1 : Option Addr} {z2 z3 : Nat} {no : Option Addr} {nc : Nat} {bo : Option Addr} {bc : Nat} (h7 : W0.heap[K]? = some (.cells #[.string nx, .bool ny, .slice z1 z2 z3, .slice no 3 nc] 68 (0, 0))) (h8 : W0.heap[K + 1]? = some (.cells #[.string ⟨#[98]⟩, .bool false, .slice bo 0 bc] 25 (0, 0))) (hb : Below W0.heap.size W0 W) :
    W.cell? ⟨K, 3, none⟩ = some (.slice no 3 nc) ∧ W.cell? ⟨K + 1, 0, none⟩ = some (.string ⟨#[98]⟩) ∧ W.cell? ⟨K + 1, 1, none⟩ = some (.bool false) ∧ W.cell? ⟨K + 1, 2, none⟩ = some (.slice bo 0 bc) := by
  have w7 := (hb.block _ (Array.getElem?_eq_some_iff.1 h7).1).trans h7
  have w8 := (hb.block _ (Array.getElem?_eq_some_iff.1 h8).1).trans h8
  obtain ⟨⟨q0, q1, q2⟩, -⟩ := box3 w8
  exact ⟨(box4 w7).2.2.2, q0, q1, q2⟩
theorem bel0 (W : World) (a : Obj) : Below W.heap.size W (W.alloc a) := (Below.refl _ W).alloc (Nat.le_refl _) _
theorem bel1 (W : World) (a : Obj) : Below W.heap.size W (W.alloc a).drew := ((Below.refl _ W).alloc (Nat.le_refl _) _).drew
theorem bel2 (W : World) (a b : Obj) : Below W.heap.size W ((W.alloc a).alloc b).drew := (((Below.refl _ W).alloc (Nat.le_refl _) _).alloc (by simp) _).drew
theorem bel3 (W : World) (a b c : Obj) : Below W.heap.size W (((W.alloc a).alloc b).alloc c).drew := ((((Below.refl _ W).alloc (Nat.le_refl _) _).alloc (by simp) _).alloc (by simp; omega) _).drew

abbrev oI (x : Int) : Obj := .cells #[.int .i64 x] 3
abbrev oS (a b : Nat) : Obj := .cells #[.int .i64 0, .slice (some ⟨a, 0, none⟩) 1 1, .int .i64 0, .slice (some ⟨b, 0, none⟩) 1 1] 36
theorem litA (W : World) : StpsIs (((W.alloc (oI 0)).alloc (oI 1)).alloc (oS W.heap.size (W.heap.size + 1))).drew.heap.size (((W.alloc (oI 0)).alloc (oI 1)).alloc (oS W.heap.size (W.heap.size + 1))).drew [(0, [0]), (0, [1])] (.slice (some ⟨W.heap.size + 1 + 1, 0, none⟩) 2 2) :=
  lit2 (heap_new_at _ _ _ (by simp)) ((Below.heap_alloc _ _ _ (by simp; omega)).trans ((Below.heap_alloc _ _ _ (by simp)).trans (World.alloc_heap_new W _))) ((Below.heap_alloc _ _ _ (by simp)).trans (heap_new_at _ _ _ (by simp)))
theorem litB (W : World) : StpsIs (((W.alloc (oI 1)).alloc (oI 0)).alloc (oS (W.heap.size + 1) W.heap.size)).drew.heap.size (((W.alloc (oI 1)).alloc (oI 0)).alloc (oS (W.heap.size + 1) W.heap.size)).drew [(0, [0]), (0, [1])] (.slice (some ⟨W.heap.size + 1 + 1, 0, none⟩) 2 2) :=
  lit2 (heap_new_at _ _ _ (by simp)) ((Below.heap_alloc _ _ _ (by simp)).trans (heap_new_at _ _ _ (by simp))) ((Below.heap_alloc _ _ _ (by simp; omega)).trans ((Below.heap_alloc _ _ _ (by simp)).trans (World.alloc_heap_new W _)))
abbrev oT : Obj := .cells #[.int .i64 1, nil0] 36
theorem litC (W : World) : StpsIs (W.alloc oT).heap.size (W.alloc oT) [(1, [])] (.slice (some ⟨W.heap.size, 0, none⟩) 1 1) := lit1 (heap_new_at W _ _ rfl)

set_option maxRecDepth 100000 in
set_option maxHeartbeats 8000000 in
theorem alive_any (w : World) : Calls Tryz.prog 12 #[] w fun e w' => e = .returned (.bool true) ∧ Below w.heap.size w w' := by
  have HV := Lib.hid lvar_mk
  have HY := Lib.hid lsym_mk
  go_enter Tryz.func12, Tryz.ntmps12
  go_wp2_with fail
  refine (HY.out ⟨#[97]⟩ none 0 0 _).mono ?_
  rintro e w1 ⟨rfl, hb⟩
  have hs : Below w.heap.size w w1 := hb
  have HB1 : Hid (Below w.heap.size w w1) := Lib.hid ((Below.refl w.heap.size w).trans (hs.mono (Below.refl w.heap.size w).size))
  clear hb hs
  go_wp2_with fail
  refine (HY.out ⟨#[98]⟩ none 0 0 _).mono ?_
  rintro e w2 ⟨rfl, hb⟩
  have hs : Below w1.heap.size w1 w2 := hb
  have HB2 : Hid (Below w.heap.size w w2) := Lib.hid (HB1.out.trans (hs.mono HB1.out.size))
  clear hb hs
  go_wp2_with fail
  refine (HV.out ⟨#[120]⟩ _).mono ?_
  rintro e w3 ⟨rfl, hb⟩
  have hs : Below w2.heap.size w2 w3 := hb
  have HB3 : Hid (Below w.heap.size w w3) := Lib.hid (HB2.out.trans (hs.mono HB2.out.size))
  clear hb hs
  go_wp2_with fail
  refine (HV.out ⟨#[120]⟩ _).mono ?_
  rintro e w4 ⟨rfl, hb⟩
  have hs : Below w3.heap.size w3 w4 := hb
  have HB4 : Hid (Below w.heap.size w w4) := Lib.hid (HB3.out.trans (hs.mono HB3.out.size))
  clear hb hs
  go_wp2_with fail
  refine (HY.out ⟨#[102]⟩ (some ⟨w4.heap.size, 0, none⟩) 2 2 _).mono ?_
  rintro e w5 ⟨rfl, hb⟩
  have hn := (hb.block w4.heap.size (by simp)).trans (heap_new_at w4 (.cells #[.string ⟨#[120]⟩, .bool true, .slice none 0 0, .string ⟨#[120]⟩, .bool true, .slice none 0 0] 25) _ rfl)
  have hs : Below w4.heap.size w4 w5 := (show Below w4.heap.size w4 (w4.alloc (.cells #[.string ⟨#[120]⟩, .bool true, .slice none 0 0, .string ⟨#[120]⟩, .bool true, .slice none 0 0] 25)) from by go_grown).trans (hb.mono (by simp))
  have HXR : Hid (SlIs w5.heap.size w5 [tX, tX] (.slice (some ⟨w4.heap.size, 0, none⟩) 2 2)) := Lib.hid (rowIs [(tX, nil0), (tX, nil0)] hn (by simp) (by simp only [List.mem_cons, List.not_mem_nil, or_false]; rintro c (rfl | rfl) <;> exact .nil0))
  have HB5 : Hid (Below w.heap.size w w5) := Lib.hid (HB4.out.trans (hs.mono HB4.out.size))
  clear hb hs hn
  go_wp2_with fail
  refine (HV.out ⟨#[120]⟩ _).mono ?_
  rintro e w6 ⟨rfl, hb⟩
  have hs : Below w5.heap.size w5 w6 := hb
  have HXR := Lib.hid (HXR.out.carry hs hs.size)
  have HB6 : Hid (Below w.heap.size w w6) := Lib.hid (HB5.out.trans (hs.mono HB5.out.size))
  clear hb hs
  go_wp2_with fail
  refine (HY.out ⟨#[97]⟩ none 0 0 _).mono ?_
  rintro e w7 ⟨rfl, hb⟩
  have hn := (hb.block w6.heap.size (by simp)).trans (heap_new_at w6 (.cells #[.string ⟨#[97]⟩, .bool false, .slice none 0 0, .string ⟨#[98]⟩, .bool false, .slice none 0 0, .string ⟨#[102]⟩, .bool false, .slice (some ⟨w4.heap.size, 0, none⟩) 2 2, .string ⟨#[120]⟩, .bool true, .slice none 0 0] 75) _ rfl)
  have hs : Below w6.heap.size w6 w7 := (show Below w6.heap.size w6 (w6.alloc (.cells #[.string ⟨#[97]⟩, .bool false, .slice none 0 0, .string ⟨#[98]⟩, .bool false, .slice none 0 0, .string ⟨#[102]⟩, .bool false, .slice (some ⟨w4.heap.size, 0, none⟩) 2 2, .string ⟨#[120]⟩, .bool true, .slice none 0 0] 75)) from by go_grown).trans (hb.mono (by simp))
  have HXR := Lib.hid (HXR.out.carry hs hs.size)
  have HRV : Hid (RulV w7.heap.size w7 (aR nil0 nil0 (.slice (some ⟨w4.heap.size, 0, none⟩) 2 2) nil0) (.slice (some ⟨w6.heap.size, 0, none⟩) 2 2)) := Lib.hid (aRul hn HXR.out)
  have HB7 : Hid (Below w.heap.size w w7) := Lib.hid (HB6.out.trans (hs.mono HB6.out.size))
  clear hb hs hn
  go_wp2_with fail
  refine (HY.out ⟨#[97]⟩ none 0 0 _).mono ?_
  rintro e w8 ⟨rfl, hb⟩
  have hs : Below w7.heap.size w7 w8 := hb
  have HXR := Lib.hid (HXR.out.carry hs hs.size)
  have HRV := Lib.hid (HRV.out.carry hs hs.size)
  have HB8 : Hid (Below w.heap.size w w8) := Lib.hid (HB7.out.trans (hs.mono HB7.out.size))
  clear hb hs
  go_wp2_with fail
  refine (HY.out ⟨#[102]⟩ (some ⟨w8.heap.size, 0, none⟩) 2 2 _).mono ?_
  rintro e w9 ⟨rfl, hb⟩
  have hn := (hb.block w8.heap.size (by simp)).trans (heap_new_at w8 (.cells #[.string ⟨#[97]⟩, .bool false, .slice none 0 0, .string ⟨#[97]⟩, .bool false, .slice none 0 0] 25) _ rfl)
  have hs : Below w8.heap.size w8 w9 := (show Below w8.heap.size w8 (w8.alloc (.cells #[.string ⟨#[97]⟩, .bool false, .slice none 0 0, .string ⟨#[97]⟩, .bool false, .slice none 0 0] 25)) from by go_grown).trans (hb.mono (by simp))
  have HXR := Lib.hid (HXR.out.carry hs hs.size)
  have HRV := Lib.hid (HRV.out.carry hs hs.size)
  have HTR : Hid (SlIs w9.heap.size w9 [tA, tA] (.slice (some ⟨w8.heap.size, 0, none⟩) 2 2)) := Lib.hid (rowIs [(tA, nil0), (tA, nil0)] hn (by simp) (by simp only [List.mem_cons, List.not_mem_nil, or_false]; rintro c (rfl | rfl) <;> exact .nil0))
  have HB9 : Hid (Below w.heap.size w w9) := Lib.hid (HB8.out.trans (hs.mono HB8.out.size))
  clear hb hs hn
  go_wp2_with fail
  have hg9 : Below w9.heap.size w9 (w9.alloc (.cells #[.string ⟨#[102]⟩, .bool false, (.slice (some ⟨w8.heap.size, 0, none⟩) 2 2)] 25)) := by go_grown
  have HG9 := Lib.hid hg9
  clear hg9
  refine (redexesF_any (aR nil0 nil0 (.slice (some ⟨w4.heap.size, 0, none⟩) 2 2) nil0) (.slice (some ⟨w6.heap.size, 0, none⟩) 2 2) (tF tA tA) (.slice (some ⟨w8.heap.size, 0, none⟩) 2 2) 2 _ (HRV.out.carry HG9.out HG9.out.size) (HTR.out.carry HG9.out HG9.out.size) (show 2 ≤ 1048576 by decide) (aR_bulk _ _ _ _) (by decide)).mono ?_
  rintro e w10 ⟨hp, hb⟩
  rcases hp with ⟨v, rfl, -, -, -, ho⟩ | ⟨c, -, -, hno⟩
  case inr => exact absurd ⟨aR_ok _ _ _ _, faa_ok, by decide, by decide⟩ hno
  rw [cho_inner] at ho
  obtain ⟨oi, ci, rfl⟩ := ho.form
  have HI := Lib.hid ho.is
  have hx := (hb.block w9.heap.size (by simp)).trans (World.alloc_heap_new w9 _)
  have hs : Below w9.heap.size w9 w10 := HG9.out.trans (hb.mono (by simp))
  have HX := Lib.hid hx
  obtain ⟨⟨x0, x1, x2⟩, -⟩ := box3 hx
  have HRV := Lib.hid (HRV.out.carry hs hs.size)
  have HTR := Lib.hid (HTR.out.carry hs hs.size)
  have HB10 : Hid (Below w.heap.size w w10) := Lib.hid (HB9.out.trans (hs.mono HB9.out.size))
  clear hb hx hs ho HG9
  go_wp2_with fail
  refine (redexesF_any (aR nil0 nil0 (.slice (some ⟨w4.heap.size, 0, none⟩) 2 2) nil0) (.slice (some ⟨w6.heap.size, 0, none⟩) 2 2) (tF tA tA) (.slice (some ⟨w8.heap.size, 0, none⟩) 2 2) 3 _ HRV.out HTR.out (show 2 ≤ 1048576 by decide) (aR_bulk _ _ _ _) (by decide)).mono ?_
  rintro e w11 ⟨hp, hb⟩
  rcases hp with ⟨v, rfl, -, -, -, ho⟩ | ⟨c, -, -, hno⟩
  case inr => exact absurd ⟨aR_ok _ _ _ _, faa_ok, by decide, by decide⟩ hno
  rw [cho_outer] at ho
  obtain ⟨oo, co, rfl⟩ := ho.form
  have HO := Lib.hid ho.is
  have HI := Lib.hid (HI.out.carry hb hb.size)
  have hx := (hb.block w9.heap.size (Array.getElem?_eq_some_iff.1 HX.out).1).trans HX.out
  have HX := Lib.hid hx
  clear x0 x1 x2
  obtain ⟨⟨x0, x1, x2⟩, -⟩ := box3 hx
  have HRV := Lib.hid (HRV.out.carry hb hb.size)
  have HTR := Lib.hid (HTR.out.carry hb hb.size)
  have HB11 : Hid (Below w.heap.size w w11) := Lib.hid (HB10.out.trans (hb.mono HB10.out.size))
  clear hb hx ho
  go_wp2_with fail
  refine (normalize_run (aR nil0 nil0 (.slice (some ⟨w4.heap.size, 0, none⟩) 2 2) nil0) (.slice (some ⟨w6.heap.size, 0, none⟩) 2 2) (tF tA tA) (.slice (some ⟨w8.heap.size, 0, none⟩) 2 2) 4 10 [tF tB tA, tF tB tB, tB] _ HRV.out HTR.out (show 2 ≤ 1048576 by decide) (aR_bulk _ _ _ _) (by decide) (aR_ok _ _ _ _) faa_ok ⟨by decide, by decide⟩ (by decide) (by decide) (aRun _ _ _ _) (by decide)).mono ?_
  rintro e w12 ⟨⟨nx, ny, nz1, nz2, nz3, no, nc, sr, rfl, hsr⟩, hb⟩
  obtain ⟨bo, bc, rfl, -⟩ := hsr.form
  have HO := Lib.hid (HO.out.carry hb hb.size)
  have HI := Lib.hid (HI.out.carry hb hb.size)
  have HSR := Lib.hid hsr
  have HB12 : Hid (Below w.heap.size w w12) := Lib.hid (HB11.out.trans (hb.mono HB11.out.size))
  clear hb hsr x0 x1 x2 HX HRV HTR HXR
  simp only [tmv, lastT, tB, Tm.nm, Tm.vr, Tm.ts, List.length_nil, List.length_cons, Nat.reduceAdd]
  go_wp2_with fail
  obtain ⟨W0, hW0⟩ : ∃ W0, W0 = (w12.alloc (.cells #[.string nx, .bool ny, .slice nz1 nz2 nz3, .slice no 3 nc] 68)).alloc (.cells #[.string ⟨#[98]⟩, .bool false, .slice bo 0 bc] 25) := ⟨_, rfl⟩
  have hbW : Below w12.heap.size w12 W0 := by rw [hW0]; go_grown
  have h7 : W0.heap[w12.heap.size]? = some (.cells #[.string nx, .bool ny, .slice nz1 nz2 nz3, .slice no 3 nc] 68 (0, 0)) := by rw [hW0]; exact (Below.heap_alloc _ _ _ (by simp)).trans (World.alloc_heap_new w12 _)
  have h8 : W0.heap[w12.heap.size + 1]? = some (.cells #[.string ⟨#[98]⟩, .bool false, .slice bo 0 bc] 25 (0, 0)) := by rw [hW0]; exact heap_new_at _ _ _ (by simp)
  have hsz0 : W0.heap.size = w12.heap.size + 2 := by rw [hW0]; simp
  have HI := Lib.hid (HI.out.carry hbW hbW.size)
  have HO := Lib.hid (HO.out.carry hbW hbW.size)
  have HSR := Lib.hid (HSR.out.carry hbW hbW.size)
  have HBW := Lib.hid (HB12.out.trans (hbW.mono HB12.out.size))
  have H7 := Lib.hid h7
  have H8 := Lib.hid h8
  obtain ⟨p0, p1, p2, p3⟩ := box4 h7
  obtain ⟨⟨q0, q1, q2⟩, -⟩ := box3 h8
  have hwz := HB12.out.size
  rw [← hW0]
  have hk := aKeep (W := W0.drew) H7.out H8.out (Below.refl _ W0).drew
  clear hW0 hbW h7 h8 p0 p1 p2 p3 q0 q1 q2 hsz0
  go_region_held3 (fun w' => w'.cell? ⟨w12.heap.size, 3, none⟩ = some (.slice no 3 nc) ∧ w'.cell? ⟨w12.heap.size + 1, 0, none⟩ = some (.string ⟨#[98]⟩) ∧ w'.cell? ⟨w12.heap.size + 1, 1, none⟩ = some (.bool false) ∧ w'.cell? ⟨w12.heap.size + 1, 2, none⟩ = some (.slice bo 0 bc)) (first | with_reducible exact hk | with_reducible exact aKeep H7.out H8.out (HBA.out.trans ((bel0 _ _).mono HBA.out.size)) | exact aKeep H7.out H8.out (bel1 _ _) | exact aKeep H7.out H8.out (bel2 _ _ _) | exact aKeep H7.out H8.out (bel3 _ _ _ _) | go_keep) ((first
    | (go_at_call 14
       refine (requal_any tB tB (.slice bo 0 bc) nil0 _ (by decide) (by decide) (HSR.out.carry HBC.out HBC.out.size) .nil0).mono ?_
       rintro e wD ⟨⟨x, rfl, hx⟩, hD⟩
       obtain rfl : x = true := hx.2 rfl
       have HBD := Lib.hid (HBC.out.trans (hD.mono HBC.out.size))
       have hk := aKeep H7.out H8.out HBD.out
       clear hx hD)
    | (go_at_call 44
       refine (HY.out ⟨#[98]⟩ none 0 0 _).mono ?_
       rintro e wC ⟨rfl, hC⟩
       have HBC := Lib.hid (show Below W0.heap.size W0 wC from HBB.out.trans (Below.mono hC HBB.out.size))
       have hk := aKeep H7.out H8.out HBC.out
       clear hC)
    | (go_at_call 48
       refine (sameSteps_eq [(1, [])] (.slice oo 1 co) _ _ (HO.out.carry (HBA.out.trans ((bel0 wA oT).mono HBA.out.size)) (by have := HBA.out.size; simp; omega)) (litC wA) (by decide)).mono ?_
       rintro e wB ⟨rfl, mB, hB⟩
       have HBB := Lib.hid (show Below W0.heap.size W0 wB by rw [hB]; exact below_drewN mB (HBA.out.trans ((bel0 wA oT).mono HBA.out.size)))
       have hk := aKeep H7.out H8.out HBB.out
       clear hB)
    | (go_at_call 48
       first
         | refine (sameSteps_eq [(0, [0]), (0, [1])] (.slice oi 2 ci) _ _ (HI.out.carry (bel3 _ _ _ _) (by simp; omega)) (litA W0) (by decide)).mono ?_
         | refine (sameSteps_eq [(0, [0]), (0, [1])] (.slice oi 2 ci) _ _ (HI.out.carry (bel3 _ _ _ _) (by simp; omega)) (litB W0) (by decide)).mono ?_
       rintro e wA ⟨rfl, mA, hA⟩
       have HBA := Lib.hid (show Below W0.heap.size W0 wA by rw [hA]; exact below_drewN mA (bel3 _ _ _ _))
       have hk := aKeep H7.out H8.out HBA.out
       clear hA)))
  all_goals
    (go_wp2_with fail
     refine bodyPost_ret (v := .bool true) (by simp [results, Tryz.f12, go_sem]) rfl ⟨rfl, ?_⟩
     first
       | exact HBW.out.trans (HBD.out.mono HBW.out.size)
       | exact (HBW.out.trans (HBD.out.mono HBW.out.size)).drew)
end Go.Proofs.YtamddagmlanijaaGreat
/- The reference's Size, Depth, Compare and Equal, with bounds on the size and on each name. -/
namespace Go.Proofs.YtamddagmlanijaaGreat
open Go.RowKit

/-- each name has at most 1048576 letters -/
inductive Tm.low : Tm → Prop
  | mk (t : Tm) : t.nm.size ≤ 1048576 → (∀ u ∈ t.ts, u.low) → t.low
theorem Tm.low.name {t : Tm} (h : t.low) : t.nm.size ≤ 1048576 := by cases h with | mk _ h1 _ => exact h1
theorem Tm.low.kids {t : Tm} (h : t.low) : ∀ u ∈ t.ts, u.low := by cases h with | mk _ _ h2 => exact h2
end Go.Proofs.YtamddagmlanijaaGreat
/- The reference's Insert. -/
namespace Go.Proofs.YtamddagmlanijaaGreat
open Go.RowKit

end Go.Proofs.YtamddagmlanijaaGreat
/- A function on names, applied to a term: plain mathematics. No program stands here. -/
namespace Go.Proofs.YtamddagmlanijaaGreat
open Go.RowKit

mutual
/-- the names of a term's variables -/
def Tm.vs : Tm → List Key
  | .mk nm vr l => if vr = true then [nm.data.toList] else Tm.vss l
def Tm.vss : List Tm → List Key
  | [] => []
  | t :: r => t.vs ++ Tm.vss r
end
end Go.Proofs.YtamddagmlanijaaGreat
/- Merged: Plc, Tmw. -/
/- Plain facts on places, puts and substitutions. -/
namespace Go.Proofs.YtamddagmlanijaaGreat
open Go.RowKit

end Go.Proofs.YtamddagmlanijaaGreat
/- Terms and rows of terms between the operations of a drawn region. -/
namespace Go.Proofs.YtamddagmlanijaaGreat
open Go.RowKit

/-- a term as a value -/
def TmW (W : World) (t : Tm) (v : Value) : Prop := ∃ o n c, v = .agg #[.string t.nm, .bool t.vr, .slice o n c] ∧ SlIs W.heap.size W t.ts (.slice o n c)
/-- a new row of terms -/
def RowW (W : World) (l : List Tm) (v : Value) : Prop := ∃ b, v = .slice (some ⟨b, 0, none⟩) l.length l.length ∧ SlIs W.heap.size W l v
def zeroBx : Obj := .cells #[.string ⟨#[]⟩, .bool false, .slice none 0 0] 25 (0, 0)
/-- a formed term's arguments do not lie in a zero term's box -/
theorem SlIs.zbox {n c : Nat} {W : World} {l : List Tm} {s : Value} (h : SlIs n W l s) (hc : W.heap[c]? = some zeroBx) (hf : ∀ u ∈ l, u.formed) : SlP (fun b => b < n ∧ b ≠ c) W l s := by
  induction h with
  | nil0 => exact .nil0
  | nil1 a cap => exact .nil1 a cap
  | row b o cap l s hl hb hcap cells hk hfz ih =>
    refine .row b o cap l s hl ⟨hb, ?_⟩ hcap cells (fun i t ht => ih i t ht fun u hu => ((Tm.formed_iff t).1 (hf t (List.mem_of_getElem? ht))).2 u hu) hfz
    rintro rfl
    obtain ⟨t, ht⟩ : ∃ t, l[0]? = some t := by cases l with
      | nil => exact absurd rfl hl
      | cons t l => exact ⟨t, rfl⟩
    have h1 := (cells 0 t ht).1
    rw [cells_of' hc] at h1
    have hn : t.nm ≠ ⟨#[]⟩ := fun e => by
      have h2 := ((Tm.formed_iff t).1 (hf t (List.mem_of_getElem? ht))).1
      rw [e] at h2
      unfold nodeOk at h2
      split at h2
      · rw [show isName ⟨#[]⟩ false = false by decide] at h2; simp at h2
      · rw [show isName ⟨#[]⟩ true = false by decide] at h2; simp at h2
    rcases o with _ | _ | _ | o
    · simp only [Nat.zero_add, Nat.zero_mul, List.getElem?_toArray, List.getElem?_cons_zero, Option.some.injEq, Value.string.injEq] at h1; exact hn h1.symm
    · simp at h1
    · simp at h1
    · simp at h1
theorem TmW.keep {A W : World} {t : Tm} {v : Value} (h : TmW A t v) (hb : Below A.heap.size A W) : TmW W t v := by
  obtain ⟨o, n, c, rfl, h⟩ := h
  exact ⟨o, n, c, rfl, h.carry hb hb.size⟩
theorem RowW.keep {A W : World} {l : List Tm} {v : Value} (h : RowW A l v) (hb : Below A.heap.size A W) : RowW W l v := by
  obtain ⟨b, rfl, h⟩ := h
  exact ⟨b, rfl, h.carry hb hb.size⟩
theorem SlIs.setz {W : World} {l : List Tm} {v : Value} {p : Nat} (h : SlIs W.heap.size W l v) (hc : W.heap[p]? = some zeroBx) (hf : ∀ u ∈ l, u.formed) (x y z : Value) : SlIs (((W.setCell ⟨p, 0, none⟩ x).setCell ⟨p, 1, none⟩ y).setCell ⟨p, 2, none⟩ z).heap.size (((W.setCell ⟨p, 0, none⟩ x).setCell ⟨p, 1, none⟩ y).setCell ⟨p, 2, none⟩ z) l v := by
  refine ((h.zbox hc hf).carry (q := fun b => b < W.heap.size) fun b hb => ⟨heap_set3 _ _ _ _ _ _ hb.2, hb.1⟩).toIs fun b hb => ?_
  simp [World.setCell]; omega
theorem TmW.setz {W : World} {t : Tm} {v : Value} {p : Nat} (h : TmW W t v) (hc : W.heap[p]? = some zeroBx) (hf : ∀ u ∈ t.ts, u.formed) (x y z : Value) : TmW (((W.setCell ⟨p, 0, none⟩ x).setCell ⟨p, 1, none⟩ y).setCell ⟨p, 2, none⟩ z) t v := by
  obtain ⟨o, n, c, rfl, h⟩ := h
  exact ⟨o, n, c, rfl, h.setz hc hf x y z⟩
theorem RowW.setz {W : World} {l : List Tm} {v : Value} {p : Nat} (h : RowW W l v) (hc : W.heap[p]? = some zeroBx) (hf : ∀ u ∈ l, u.formed) (x y z : Value) : RowW (((W.setCell ⟨p, 0, none⟩ x).setCell ⟨p, 1, none⟩ y).setCell ⟨p, 2, none⟩ z) l v := by
  obtain ⟨b, rfl, h⟩ := h
  exact ⟨b, rfl, h.setz hc hf x y z⟩
/-- a row of one term, of two, just built -/
theorem RowW.one {W : World} {t : Tm} {s : Value} (h : SlIs W.heap.size W t.ts s) : RowW (W.alloc (.cells #[.string t.nm, .bool t.vr, s] 25)) [t] (.slice (some ⟨W.heap.size, 0, none⟩) 1 1) :=
  ⟨_, rfl, rowIs [(t, s)] (heap_new_at _ _ _ rfl) (by simp) (by
    intro c hc
    obtain rfl := List.mem_singleton.1 hc
    exact h.carry ((Below.refl _ _).alloc (Nat.le_refl _) _) (by simp))⟩
theorem RowW.two {W : World} {t u : Tm} {s r : Value} (h : SlIs W.heap.size W t.ts s) (k : SlIs W.heap.size W u.ts r) : RowW (W.alloc (.cells #[.string t.nm, .bool t.vr, s, .string u.nm, .bool u.vr, r] 25)) [t, u] (.slice (some ⟨W.heap.size, 0, none⟩) 2 2) :=
  ⟨_, rfl, rowIs [(t, s), (u, r)] (heap_new_at _ _ _ rfl) (by simp) (by
    intro c hc
    simp only [List.mem_cons, List.not_mem_nil, or_false] at hc
    rcases hc with rfl | rfl
    · exact h.carry ((Below.refl _ _).alloc (Nat.le_refl _) _) (by simp)
    · exact k.carry ((Below.refl _ _).alloc (Nat.le_refl _) _) (by simp))⟩
end Go.Proofs.YtamddagmlanijaaGreat
/- A drawn region walked by one condition: each operation is looked at once, whatever the order. No program stands here. -/
namespace Go.Proofs.YtamddagmlanijaaGreat
open Go.RowKit

/-- those that have come up, and i -/
def flag (f : Nat → Bool) (i : Nat) : Nat → Bool := fun k => k == i || f k
theorem count_set {L : Array Bool} {i : Nat} (h : L.getD i true = false) : ((L.setIfInBounds i true).toList.filter (fun b => !b)).length + 1 = (L.toList.filter (fun b => !b)).length := by
  have hi : i < L.size := by
    rcases Nat.lt_or_ge i L.size with h' | h'
    · exact h'
    · rw [Array.getD, dif_neg (by omega)] at h; cases h
  have hv : L.toList[i]? = some false := by
    rw [Array.getD, dif_pos hi] at h
    rw [Array.getElem?_toList, Array.getElem?_eq_getElem hi]
    exact congrArg some h
  rw [Array.toList_setIfInBounds]
  revert hv
  clear h hi
  generalize L.toList = l
  induction l generalizing i with
  | nil => intro hv; simp at hv
  | cons b l ih =>
    intro hv
    cases i with
    | zero => simp at hv; subst hv; simp
    | succ i =>
      have := ih (i := i) (by simpa using hv)
      cases b <;> simp at this ⊢ <;> omega
theorem wpAny_inv {P : Program} {ops : Array Oper} {Q : Exit → Act → World → Prop} (Inv : (Nat → Bool) → Act → World → Prop)
    (hacy : (List.range ops.size).all (fun i => match ops[i]? with | some o => o.after.all (fun e => !Region.binds .any e || decide (e.on < i)) | none => true) = true)
    (hend : ∀ f a w, Inv f a w → (∀ i, i < ops.size → f i = true) → Q .normal a w)
    (hstep : ∀ i o, ops[i]? = some o → ∀ f a w, Inv f a w → f i = false → (∀ e ∈ o.after, Region.binds .any e = true → f e.on = true) →
      ∀ K' : Act → World → Prop, Shut (∀ a' w', Inv (flag f i) a' w' → K' a' w') → if Region.wanted o (yielded ops a.tmps) = true then Oper.wp P o a w K' Q else K' (a.put o.dst undef) w) :
    ∀ (fuel : Nat) (L : Array Bool) (f : Nat → Bool) (a : Act) (w : World), L.size = ops.size → (∀ k, k < ops.size → L.getD k false = f k) → (L.toList.filter (fun b => !b)).length ≤ fuel → Inv f a w → wpAny P .any ops Q fuel L a w := by
  have get : ∀ (L : Array Bool) k, k < L.size → L.getD k true = L.getD k false := fun L k h => by rw [Array.getD, Array.getD, dif_pos h, dif_pos h]
  have full : ∀ (L : Array Bool) (f : Nat → Bool), L.size = ops.size → (∀ k, k < ops.size → L.getD k false = f k) → Region.ready .any ops L = [] → ∀ i, i < ops.size → f i = true := by
    intro L f hL hf hr i
    induction i using Nat.strongRecOn with
    | ind i ih =>
      intro hi
      cases hfi : f i with
      | true => rfl
      | false =>
        exfalso
        have : i ∈ Region.ready .any ops L := by
          rw [mem_ready]
          refine ⟨by rw [get L i (by omega), hf i hi, hfi], ops[i], Array.getElem?_eq_getElem hi, fun e he hbd => ?_⟩
          have h1 := List.all_eq_true.1 hacy i (List.mem_range.2 hi)
          rw [Array.getElem?_eq_getElem hi] at h1
          have h2 := Array.all_eq_true_iff_forall_mem.1 h1 e he
          rw [hbd, Bool.not_true, Bool.false_or] at h2
          have h2 := of_decide_eq_true h2
          rw [hf e.on (by omega)]
          exact ih e.on h2 (by omega)
        rw [hr] at this; cases this
  intro fuel
  induction fuel with
  | zero =>
    intro L f a w hL hf hn hi
    have hr : Region.ready .any ops L = [] := by
      rw [List.eq_nil_iff_forall_not_mem]
      intro j hj
      have h0 := (mem_ready.1 hj).1
      have := count_set h0
      omega
    exact ⟨hr, hend f a w hi (full L f hL hf hr)⟩
  | succ fuel ih =>
    intro L f a w hL hf hn hi
    refine ⟨fun hr => hend f a w hi (full L f hL hf hr), fun j hj => ?_⟩
    obtain ⟨h0, o, ho, hd⟩ := mem_ready.1 hj
    have hjl : j < ops.size := (Array.getElem?_eq_some_iff.1 ho).1
    refine wpOp_step ho fun K' hK => ?_
    refine hstep j o ho f a w hi (by rw [← hf j hjl, ← get L j (by omega)]; exact h0) (fun e he hb => ?_) K' (fun a' w' h' => hK a' w' (ih _ (flag f j) a' w' (by simpa using hL) (fun k hk => ?_) (by have := count_set h0; omega) h'))
    · have h1 := List.all_eq_true.1 hacy j (List.mem_range.2 hjl)
      rw [ho] at h1
      have h2 := Array.all_eq_true_iff_forall_mem.1 h1 e he
      rw [hb, Bool.not_true, Bool.false_or] at h2
      have h2 := of_decide_eq_true h2
      rw [← hf e.on (by omega)]
      exact hd e he hb
    · unfold flag
      by_cases e : k = j
      · subst e
        rw [beq_self_eq_true, Bool.true_or, Array.getD, dif_pos (by simp; omega)]
        simp
      · rw [getD_set_ne false (fun h => e h.symm), hf k hk]
        have : (k == j) = false := by rw [beq_eq_false_iff_ne]; exact e
        rw [this, Bool.false_or]
/-- the region -/
theorem wp_region_inv {P : Program} {ops : Array Oper} {Q : Exit → Act → World → Prop} {id : Nat} {a : Act} {w : World} (Inv : (Nat → Bool) → Act → World → Prop) (hm : P.follows .mixedOrders = true)
    (hacy : (List.range ops.size).all (fun i => match ops[i]? with | some o => o.after.all (fun e => !Region.binds .any e || decide (e.on < i)) | none => true) = true)
    (h0 : Inv (fun _ => false) a w.drew)
    (hend : ∀ f a w, Inv f a w → (∀ i, i < ops.size → f i = true) → Q .normal a w)
    (hstep : ∀ i o, ops[i]? = some o → ∀ f a w, Inv f a w → f i = false → (∀ e ∈ o.after, Region.binds .any e = true → f e.on = true) →
      ∀ K' : Act → World → Prop, Shut (∀ a' w', Inv (flag f i) a' w' → K' a' w') → if Region.wanted o (yielded ops a.tmps) = true then Oper.wp P o a w K' Q else K' (a.put o.dst undef) w) : (Code.region id ops true).wp P Q a w := by
  refine wp_region_any hm (wpAny_inv Inv hacy hend hstep ops.size _ (fun _ => false) a _ (by simp) (fun k hk => by simp [Array.getD, hk]) ?_ h0)
  rw [Array.toList_replicate]
  exact Nat.le_trans (List.length_filter_le _ _) (by simp)
def ptr (b : Nat) : Value := .pointer (some ⟨b, 0, none⟩)
theorem wp_region_invE {P : Program} {ops : Array Oper} {Q : Exit → Act → World → Prop} {id : Nat} {a : Act} {w : World} (Inv : (Nat → Value) → (Nat → Bool) → Act → World → Prop) (hm : P.follows .mixedOrders = true)
    (hacy : (List.range ops.size).all (fun i => match ops[i]? with | some o => o.after.all (fun e => !Region.binds .any e || decide (e.on < i)) | none => true) = true)
    (h0 : Inv (fun k => a.tmps.getD k undef) (fun _ => false) a w.drew)
    (hend : ∀ z f a' w', Hid (z = fun k => a.tmps.getD k undef) → Inv z f a' w' → (∀ i, i < ops.size → f i = true) → Q .normal a' w')
    (hstep : ∀ z i o, ops[i]? = some o → ∀ f a w, Inv z f a w → f i = false → (∀ e ∈ o.after, Region.binds .any e = true → f e.on = true) →
      ∀ K' : Act → World → Prop, Shut (∀ a' w', Inv z (flag f i) a' w' → K' a' w') → if Region.wanted o (yielded ops a.tmps) = true then Oper.wp P o a w K' Q else K' (a.put o.dst undef) w) : (Code.region id ops true).wp P Q a w :=
  wp_region_inv (Inv _) hm hacy h0 (fun f a' w' => hend _ f a' w' (Lib.hid rfl)) (hstep _)
end Go.Proofs.YtamddagmlanijaaGreat
