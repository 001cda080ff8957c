/- For every order by matrices and every list of symbols the law MatrixChecks returns true and leaves its arguments as they were.
   CONDITIONS: what comes in holds together at most 1048576 values and letters. -/
import Derived.Test.YtamddagmlanijaaGreatC16
import Derived.Test.YtamddagmlanijaaGreatC05
import Derived.StillTailTactics
import Derived.Test.YtamddagmlanijaaGreatC13
import Derived.JoinedCond
import Derived.OpenShut
import Derived.ChangeSlices
import Derived.Test.YtamddagmlanijaaGreatC01
import Derived.Test.YtamddagmlanijaaGreatC09
/- Package matrix: the value of a ground term. -/
namespace Go.Proofs.YtamddagmlanijaaGreat
open Go.RowKit Go.Shelf

set_option maxRecDepth 100000 in
set_option maxHeartbeats 4000000 in
theorem valG_any (L : List Mx) (hsm : mxsSm L) (hmc : matC 2 L = 0) {t : Tm} {X : Nat → Nat} (hE : EvG L t X) (hok : t.ok) (hft : fitT L t = true) (hvk : varsK t = []) (hbk : t.bulk ≤ 1048576) (v s : Value) (w : World) (hL : MxsIs w.heap.size w L v) (hs : SlIs w.heap.size w t.ts s) :
    Calls Tryz.prog 38 #[.int .i64 2, v, tmv t s] w fun e w' => (∃ u, e = .returned (.tuple #[u, .int .i64 0]) ∧ U64Is w'.heap.size w' [X 0, X 1] u) ∧ Below w.heap.size w w' := by
  have hmo : MxOk 2 L := by
    obtain ⟨d, hd, h⟩ := matC_zero.1 hmc
    obtain rfl : d = 2 := by omega
    exact h
  obtain ⟨oa, cap, rfl⟩ := hL.shape
  obtain ⟨ot, ct, rfl, -⟩ := hs.form
  change Calls Tryz.prog 38 #[.int .i64 2, .slice oa L.length cap, .agg #[.string t.nm, .bool t.vr, .slice ot t.ts.length ct]] w _
  obtain ⟨W1, hW1⟩ : ∃ W1, W1 = w.alloc (.cells #[.string t.nm, .bool t.vr, .slice ot t.ts.length ct] 25) := ⟨_, rfl⟩
  have hb1 : Below w.heap.size w W1 := by subst hW1; exact (Below.refl _ _).alloc (Nat.le_refl _) _
  have hg1 : W1.heap[w.heap.size]? = some (.cells #[.string t.nm, .bool t.vr, .slice ot t.ts.length ct] 25) := by subst hW1; exact heap_alloc_new' _ _ rfl
  have hz1 : W1.heap.size = w.heap.size + 1 := by subst hW1; rw [size_alloc']
  have HCK := Lib.hid (mCheck_any 2 L (.slice oa L.length cap) W1 (hL.carry keeps_MxsIs hb1 hb1.size) hsm)
  rw [hmc] at HCK
  have HOF : Hid (∀ W, Below w.heap.size w W → Calls Tryz.prog 95 #[.agg #[.int .i64 2, .slice oa L.length cap], .agg #[.string t.nm, .bool t.vr, .slice ot t.ts.length ct]] W fun e w' => (∃ oo cc, e = .returned (.tuple #[linV (X 0) (X 1) (X 2) (X 3), .slice oo 0 cc, .int .i64 0])) ∧ Below W.heap.size W w') := Lib.hid fun W hW =>
by
    have h := ofG_any 2 L (Nat.le_trans hmo.len (by omega)) hmo.nms hE hok hft hvk hbk (.slice oa L.length cap) (.slice ot t.ts.length ct) W (hL.carry keeps_MxsIs hW hW.size) (hs.carry hW hW.size)
    rw [show (((2 : Nat) : Int)) = 2 from rfl] at h
    exact h
  have HB1 := Lib.hid hb1
  have HG1 := Lib.hid hg1
  have HZ1 := Lib.hid hz1
  clear hL hs hE hok hft hvk hsm hmc hmo hb1 hg1 hz1
  go_enter Tryz.func38, Tryz.ntmps38
  go_wp2_with fail
  rw [← hW1]
  refine HCK.out.mono ?_
  rintro e w2 ⟨rfl, hb2⟩
  have HB2 := Lib.hid hb2
  have hg2 := (hb2.block w.heap.size (by rw [HZ1.out]; omega)).trans HG1.out
  have z0 : w2.cell? ⟨w.heap.size, 0, none⟩ = some (.string t.nm) := cells_of' hg2 0
  have z1 : w2.cell? ⟨w.heap.size, 1, none⟩ = some (.bool t.vr) := cells_of' hg2 1
  have z2 : w2.cell? ⟨w.heap.size, 2, none⟩ = some (.slice ot t.ts.length ct) := cells_of' hg2 2
  clear hW1 hb2 hg2 HCK
  go_wp2_with fail
  refine (HOF.out w2 (HB1.out.trans (HB2.out.mono HB1.out.size))).mono ?_
  rintro e w3 ⟨⟨oo, cc, rfl⟩, hb3⟩
  have HB3 := Lib.hid (HB1.out.trans ((HB2.out.trans (hb3.mono HB2.out.size)).mono HB1.out.size))
  have hb4 : Below w3.heap.size w3 (w3.alloc (.cells #[.int .u64 (X 0 : Int), .int .u64 (X 1 : Int), .int .u64 (X 2 : Int), .int .u64 (X 3 : Int), .map none] 157)) := (Below.refl _ _).alloc (Nat.le_refl _) _
  have HB4 := Lib.hid (HB3.out.trans (hb4.mono HB3.out.size))
  clear hb3 hb4 z0 z1 z2
  go_wp2_with fail
  refine (elem2_any X _).mono ?_
  rintro e w5 ⟨⟨u, rfl, hu⟩, hb5⟩
  have HU := Lib.hid hu
  have HB5 := Lib.hid (HB4.out.trans (hb5.mono HB4.out.size))
  clear hu hb5
  go_wp2_with fail
  refine bodyPost_ret (v := .tuple #[u, .int .i64 0]) (by simp [results, Tryz.f38, go_sem]) rfl ?_
  exact ⟨⟨u, rfl, HU.out⟩, HB5.out⟩
end Go.Proofs.YtamddagmlanijaaGreat
/- A store at a place of a term of its own: the slice then holds the term with that place replaced. No program stands here. -/
namespace Go.Proofs.YtamddagmlanijaaGreat
open Go.RowKit

/-- a row of cells, as terms -/
theorem SlIs.ofRow {e : TypeId} {W : World} {n₀ g : Nat} {ch : List Child} {cur : Array Value} (hne : ch ≠ []) (hg : W.heap[g]? = some (.cells cur e (0, 0))) (hgn : g < n₀) (hc : cur.toList = chCells ch)
    (hk : ∀ c ∈ ch, SlIs n₀ W c.1.ts c.2.1) : SlIs n₀ W (ch.map (·.1)) (.slice (some ⟨g, 0, none⟩) ch.length ch.length) := by
  have hlen : (ch.map (·.1)).length = ch.length := by simp
  have hcell : ∀ j, W.cell? ⟨g, j, none⟩ = (chCells ch)[j]? := fun j => by
    unfold World.cell?
    simp only [hg]
    rw [← hc, Array.getElem?_toList]; rfl
  have hch : ∀ i t, (ch.map (·.1))[i]? = some t → ∃ c : Child, ch[i]? = some c ∧ c.1 = t := fun i t ht => by rw [List.getElem?_map, Option.map_eq_some_iff] at ht; exact ht
  have key := SlIs.row (n₀ := n₀) (W := W) g 0 ch.length (ch.map (·.1)) (fun i => ((ch[i]?).map (·.2.1)).getD (.bool false)) (by simpa using hne) hgn (by simp)
    (fun i t ht => by
      obtain ⟨c, hci, rfl⟩ := hch i t ht
      obtain ⟨h1, h2, h3⟩ := chCells_at ch i c hci
      simp only [Nat.zero_add, hcell, hci, Option.map_some, Option.getD_some]
      exact ⟨h1, h2, h3⟩)
    (fun i t ht => by
      obtain ⟨c, hci, rfl⟩ := hch i t ht
      simp only [hci, Option.map_some, Option.getD_some]
      exact hk c (List.mem_of_getElem? hci))
    (fun i _ => by unfold World.frozen?; simp [hg])
  rw [hlen] at key
  exact key

end Go.Proofs.YtamddagmlanijaaGreat
/- The law on matrices: twice, SameRow. -/
namespace Go.Proofs.YtamddagmlanijaaGreat
open Go.RowKit Go.Shelf

set_option maxRecDepth 100000 in
set_option maxHeartbeats 4000000 in
theorem sameRow_any (l : List Nat) (u v : Value) (w : World) (hll : l.length ≤ 1048576) (hu : U64Is w.heap.size w l u) (hv : U64Is w.heap.size w l v) :
    Calls Tryz.prog 92 #[u, v] w fun e w' => e = .returned (.bool true) ∧ Below w.heap.size w w' := by
  obtain ⟨ou, cu, rfl⟩ := hu.sh
  obtain ⟨ov, cv, rfl⟩ := hv.sh
  have HU := Lib.hid hu
  have HV := Lib.hid hv
  clear hu hv
  go_enter Tryz.func92, Tryz.ntmps92
  go_wp2_with fail
  go_loopw [13] (fun i wr => ∃ k : Nat, k ≤ l.length ∧ i = .int .i64 k ∧ Hid (Below w.heap.size w wr)) (fun i _ => l.length - (intOf i).toNat)
  case atStart => exact ⟨0, by omega, rfl, Lib.hid (Below.refl _ _)⟩
  case round =>
    obtain ⟨k, hk, rfl, HB⟩ := hrel
    by_cases hlt : k < l.length
    · obtain ⟨b1, o1, x, rfl, hb1, hx, c0⟩ := (HU.out.carry HB.out HB.out.size).at hlt
      obtain ⟨b2, o2, y, rfl, hb2, hy, c1⟩ := (HV.out.carry HB.out HB.out.size).at hlt
      obtain rfl : y = x := Option.some.inj (hy.symm.trans hx)
      clear hx hy
      go_wp2_with fail
      go_quiet (fail)
      have HB2 : Hid (Below w.heap.size w (wr.drewN nq)) := Lib.hid ⟨HB.out.os, HB.out.tape, HB.out.output, HB.out.size, HB.out.block⟩
      go_wp2_with fail
      exact ⟨⟨k + 1, by omega, by go_num, HB2⟩, by simp only [intOf]; omega⟩
    · obtain rfl : k = l.length := by omega
      go_wp2_with fail
      go_ret
      exact ⟨rfl, HB.out⟩
theorem SlIs.one1 {n : Nat} {W : World} {t : Tm} {s : Value} {b : Nat} {e : TypeId} (hb : b < n) (h : W.heap[b]? = some (.cells #[.string t.nm, .bool t.vr, s] e)) (hs : SlIs n W t.ts s) : SlIs n W [t] (.slice (some ⟨b, 0, none⟩) 1 1) :=
  SlIs.row b 0 1 [t] (fun _ => s) (by simp) hb (Nat.le_refl _) (fun i u hi => by
    match i, hi with
    | 0, hi => cases hi; exact ⟨cells_of' h 0, cells_of' h 1, cells_of' h 2⟩
    | i + 1, hi => simp at hi) (fun i u hi => by
    match i, hi with
    | 0, hi => cases hi; exact hs
    | i + 1, hi => simp at hi) (fun i _ => frozen_of' h _)
/-- f(f(a)) -/
def twT (nm : ByteArray) : Tm := .mk ⟨#[102]⟩ false [.mk ⟨#[102]⟩ false [.mk nm false []]]
set_option maxRecDepth 100000 in
set_option maxHeartbeats 4000000 in
theorem twice_any (nm : ByteArray) (w : World) :
    Calls Tryz.prog 91 #[.string nm] w fun e w' => (∃ s, e = .returned (tmv (twT nm) s) ∧ SlIs w'.heap.size w' (twT nm).ts s) ∧ Below w.heap.size w w' := by
  go_enter Tryz.func91, Tryz.ntmps91
  go_wp2_with fail
  obtain ⟨A, hA⟩ : ∃ A, A = w.alloc (.cells #[.string ⟨#[102]⟩, .bool false, .slice (some ⟨w.heap.size + 1 + 1, 0, none⟩) 1 1] 25) := ⟨_, rfl⟩
  obtain ⟨B, hB⟩ : ∃ B, B = A.alloc (.cells #[.string nm, .bool false, .slice none 0 0] 25) := ⟨_, rfl⟩
  obtain ⟨C, hC⟩ : ∃ C, C = B.alloc (.cells #[.string ⟨#[102]⟩, .bool false, .slice (some ⟨w.heap.size + 1, 0, none⟩) 1 1] 25) := ⟨_, rfl⟩
  have za : A.heap.size = w.heap.size + 1 := by subst hA; exact size_alloc' _ _
  have zb : B.heap.size = w.heap.size + 1 + 1 := by subst hB; rw [size_alloc', za]
  have zc : C.heap.size = w.heap.size + 1 + 1 + 1 := by subst hC; rw [size_alloc', zb]
  have g0 : C.heap[w.heap.size]? = some (.cells #[.string ⟨#[102]⟩, .bool false, .slice (some ⟨w.heap.size + 1 + 1, 0, none⟩) 1 1] 25) := by
    subst hC; rw [heap_alloc_old' _ _ (by omega)]; subst hB; rw [heap_alloc_old' _ _ (by omega)]; subst hA; exact heap_alloc_new' _ _ rfl
  have g1 : C.heap[w.heap.size + 1]? = some (.cells #[.string nm, .bool false, .slice none 0 0] 25) := by
    subst hC; rw [heap_alloc_old' _ _ (by omega)]; subst hB; exact heap_alloc_new' _ _ (by omega)
  have g2 : C.heap[w.heap.size + 1 + 1]? = some (.cells #[.string ⟨#[102]⟩, .bool false, .slice (some ⟨w.heap.size + 1, 0, none⟩) 1 1] 25) := by
    subst hC; exact heap_alloc_new' _ _ (by omega)
  have bl : Below w.heap.size w C := by subst hC hB hA; go_grown
  rw [← hA, ← hB, ← hC]
  clear hA hB hC
  refine bodyPost_ret (v := tmv (twT nm) (.slice (some ⟨w.heap.size + 1 + 1, 0, none⟩) 1 1)) (by simp [results, Tryz.f91, go_sem, cells_of' g0 0, cells_of' g0 1, cells_of' g0 2, tmv, twT, Tm.nm, Tm.vr]) rfl ?_
  refine ⟨⟨_, rfl, ?_⟩, bl⟩
  exact SlIs.one1 (t := .mk ⟨#[102]⟩ false [.mk nm false []]) (by omega) g2 (SlIs.one1 (t := .mk nm false []) (by omega) g1 .nil0)
/-- the chapter's example -/
def exL9 : List Mx := [([97], [1, 0], []), ([98], [0, 0], []), ([102], [0, 1], [[[1, 1], [0, 0]]])]
def leafF (x0 x1 : Nat) : Nat → Nat := pS [x0, x1] [] [] 0
def upF (X : Nat → Nat) : Nat → Nat := pS [0, 1] [[[1, 1], [0, 0]]] [X] 1
theorem ev_leaf {L : List Mx} {nm : ByteArray} {x0 x1 : Nat} (h : findM L nm.data.toList = some (nm.data.toList, [x0, x1], [])) (hx : x0 ≤ 4611686018427387904 ∧ x1 ≤ 4611686018427387904) : EvG L (.mk nm false []) (leafF x0 x1) :=
  EvG.mk nm [] (nm.data.toList, [x0, x1], []) x0 x1 [] h rfl hx rfl (by simp) (by simp) (by simp) (by simp) (by simp)
theorem ev_up {X : Nat → Nat} {u : Tm} (h : EvG exL9 u X) (hm : okM [[1, 1], [0, 0]] X) (hs : okS (pS [0, 1] [[[1, 1], [0, 0]]] [X] 0) (mulF [[1, 1], [0, 0]] X)) : EvG exL9 (.mk ⟨#[102]⟩ false [u]) (upF X) :=
  EvG.mk ⟨#[102]⟩ [u] ([102], [0, 1], [[[1, 1], [0, 0]]]) 0 1 [X] (by decide) rfl (by omega) rfl (by simp) (by
    intro m hm
    simp only [List.mem_cons, List.not_mem_nil, or_false] at hm
    subst hm
    decide) (by
    intro i u' hu
    match i, hu with
    | 0, hu => cases hu; exact h
    | i + 1, hu => simp at hu) (by
    intro i hi
    match i, hi with
    | 0, _ => exact hm
    | i + 1, hi => exact absurd hi (by simp)) (by
    intro i hi
    match i, hi with
    | 0, _ => exact hs
    | i + 1, hi => exact absurd hi (by simp))
theorem okM_lt {rows : List (List Nat)} {X : Nat → Nat} (h : (List.range rows.length).all (fun i => decide (mulF rows X i ≤ 4611686018427387904)) = true) : okM rows X := fun i hi => by
  have := List.all_eq_true.1 h i (List.mem_range.2 hi)
  simpa using this
theorem okS_lt {X Y : Nat → Nat} (h : (List.range 4).all (fun i => decide (X i + Y i ≤ 4611686018427387904)) = true) : okS X Y := fun i hi => by
  have := List.all_eq_true.1 h i (List.mem_range.2 hi)
  simpa using this
theorem ev_a : EvG exL9 (twT ⟨#[97]⟩) (upF (upF (leafF 1 0))) :=
  ev_up (ev_up (ev_leaf (by decide) (by omega)) (okM_lt (by decide)) (okS_lt (by decide))) (okM_lt (by decide)) (okS_lt (by decide))
theorem ev_b : EvG exL9 (twT ⟨#[98]⟩) (upF (upF (leafF 0 0))) :=
  ev_up (ev_up (ev_leaf (by decide) (by omega)) (okM_lt (by decide)) (okS_lt (by decide))) (okM_lt (by decide)) (okS_lt (by decide))
theorem ex_a : [upF (upF (leafF 1 0)) 0, upF (upF (leafF 1 0)) 1] = [2, 1] := by decide
theorem ex_b : [upF (upF (leafF 0 0)) 0, upF (upF (leafF 0 0)) 1] = [1, 1] := by decide
theorem exL9_nms : NmsOk (exL9.map nmx) := by
  intro i p hp
  match i, hp with
  | 0, hp => cases hp; exact ⟨show isName (kb [97]) true = true by decide, fun q h => absurd h (by omega)⟩
  | 1, hp => cases hp; exact ⟨show isName (kb [98]) true = true by decide, fun q _ hq => by cases hq; decide⟩
  | 2, hp => cases hp; exact ⟨show isName (kb [102]) true = true by decide, fun q _ hq => by cases hq; decide⟩
  | i + 3, hp => simp [exL9] at hp
theorem exL9_cs {p : Mx} (h : p ∈ exL9) : p = ([97], [1, 0], []) ∨ p = ([98], [0, 0], []) ∨ p = ([102], [0, 1], [[[1, 1], [0, 0]]]) := by simpa [exL9] using h
theorem exL9_mat : matC 2 exL9 = 0 := matC_zero.2 ⟨2, rfl, ⟨by omega, by decide, exL9_nms, fun p hp => by rcases exL9_cs hp with rfl | rfl | rfl <;> decide⟩⟩
theorem exL9_sm : mxsSm exL9 := ⟨by decide, fun p hp => by
  rcases exL9_cs hp with rfl | rfl | rfl
  · exact ⟨by decide, by decide, by decide, fun m hm => by simp at hm⟩
  · exact ⟨by decide, by decide, by decide, fun m hm => by simp at hm⟩
  · refine ⟨by decide, by decide, by decide, fun m hm => ?_⟩
    simp only [List.mem_cons, List.not_mem_nil, or_false] at hm
    subst hm
    decide⟩
theorem fit_a : fitT exL9 (twT ⟨#[97]⟩) = true := by decide
theorem fit_b : fitT exL9 (twT ⟨#[98]⟩) = true := by decide
theorem vk_tw (nm : ByteArray) : varsK (twT nm) = [] := varsK_ground (by simp [twT, Tm.nodes, Tm.nodesL])
theorem ok_a : (twT ⟨#[97]⟩).ok := ⟨by unfold Tm.formed; decide, by decide, by decide⟩
theorem ok_b : (twT ⟨#[98]⟩).ok := ⟨by unfold Tm.formed; decide, by decide, by decide⟩
end Go.Proofs.YtamddagmlanijaaGreat
/- The law on matrices: the chapter's example. -/
namespace Go.Proofs.YtamddagmlanijaaGreat
open Go.RowKit Go.Shelf

theorem U64Is.two {n : Nat} {W : World} {b : Nat} (hb : b < n) {x y : Nat} {e : TypeId} (h : W.heap[b]? = some (.cells #[.int .u64 (x : Int), .int .u64 (y : Int)] e)) : U64Is n W [x, y] (.slice (some ⟨b, 0, none⟩) 2 2) :=
  ⟨_, 2, rfl, fun _ => ⟨b, 0, rfl, hb, fun i z hz => by
    match i, hz with
    | 0, hz => cases hz; exact cells_of' h 0
    | 1, hz => cases hz; exact cells_of' h 1
    | i + 2, hz => simp at hz⟩⟩
set_option maxRecDepth 100000 in
set_option maxHeartbeats 4000000 in
theorem alive9_any (w : World) : Calls Tryz.prog 35 #[] w fun e w' => e = .returned (.bool true) ∧ Below w.heap.size w w' := by
  obtain ⟨A0, hA0⟩ : ∃ A, A = w.alloc (.cells #[.int .u64 1, .int .u64 0] 47) := ⟨_, rfl⟩
  have z0 : A0.heap.size = w.heap.size + 1 := by rw [hA0, size_alloc']
  obtain ⟨A1, hA1⟩ : ∃ A, A = A0.alloc (.cells #[.int .u64 0, .int .u64 0] 47) := ⟨_, rfl⟩
  have z1 : A1.heap.size = w.heap.size + 1 + 1 := by rw [hA1, size_alloc', z0]
  obtain ⟨A2, hA2⟩ : ∃ A, A = A1.alloc (.cells #[.int .u64 0, .int .u64 1] 47) := ⟨_, rfl⟩
  have z2 : A2.heap.size = w.heap.size + 1 + 1 + 1 := by rw [hA2, size_alloc', z1]
  obtain ⟨A3, hA3⟩ : ∃ A, A = A2.alloc (.cells #[.int .u64 1, .int .u64 1] 47) := ⟨_, rfl⟩
  have z3 : A3.heap.size = w.heap.size + 1 + 1 + 1 + 1 := by rw [hA3, size_alloc', z2]
  obtain ⟨A4, hA4⟩ : ∃ A, A = A3.alloc (.cells #[.int .u64 0, .int .u64 0] 47) := ⟨_, rfl⟩
  have z4 : A4.heap.size = w.heap.size + 1 + 1 + 1 + 1 + 1 := by rw [hA4, size_alloc', z3]
  obtain ⟨A5, hA5⟩ : ∃ A, A = A4.alloc (.cells #[.slice (some ⟨w.heap.size + 1 + 1 + 1, 0, none⟩) 2 2, .slice (some ⟨w.heap.size + 1 + 1 + 1 + 1, 0, none⟩) 2 2] 46) := ⟨_, rfl⟩
  have z5 : A5.heap.size = w.heap.size + 1 + 1 + 1 + 1 + 1 + 1 := by rw [hA5, size_alloc', z4]
  obtain ⟨A6, hA6⟩ : ∃ A, A = A5.alloc (.cells #[.slice (some ⟨w.heap.size + 1 + 1 + 1 + 1 + 1, 0, none⟩) 2 2] 148) := ⟨_, rfl⟩
  have z6 : A6.heap.size = w.heap.size + 1 + 1 + 1 + 1 + 1 + 1 + 1 := by rw [hA6, size_alloc', z5]
  obtain ⟨A7, hA7⟩ : ∃ A, A = A6.alloc (.cells #[.string ⟨#[97]⟩, .slice (some ⟨w.heap.size, 0, none⟩) 2 2, .slice none 0 0, .string ⟨#[98]⟩, .slice (some ⟨w.heap.size + 1, 0, none⟩) 2 2, .slice none 0 0, .string ⟨#[102]⟩, .slice (some ⟨w.heap.size + 1 + 1, 0, none⟩) 2 2, .slice (some ⟨w.heap.size + 1 + 1 + 1 + 1 + 1 + 1, 0, none⟩) 1 1] 142) := ⟨_, rfl⟩
  have z7 : A7.heap.size = w.heap.size + 1 + 1 + 1 + 1 + 1 + 1 + 1 + 1 := by rw [hA7, size_alloc', z6]
  have g0 : A7.heap[w.heap.size]? = some (.cells #[.int .u64 1, .int .u64 0] 47) := by
    rw [hA7, heap_alloc_old' _ _ (by omega)]
    rw [hA6, heap_alloc_old' _ _ (by omega)]
    rw [hA5, heap_alloc_old' _ _ (by omega)]
    rw [hA4, heap_alloc_old' _ _ (by omega)]
    rw [hA3, heap_alloc_old' _ _ (by omega)]
    rw [hA2, heap_alloc_old' _ _ (by omega)]
    rw [hA1, heap_alloc_old' _ _ (by omega)]
    rw [hA0]
    exact heap_alloc_new' _ _ (by omega)
  have g1 : A7.heap[w.heap.size + 1]? = some (.cells #[.int .u64 0, .int .u64 0] 47) := by
    rw [hA7, heap_alloc_old' _ _ (by omega)]
    rw [hA6, heap_alloc_old' _ _ (by omega)]
    rw [hA5, heap_alloc_old' _ _ (by omega)]
    rw [hA4, heap_alloc_old' _ _ (by omega)]
    rw [hA3, heap_alloc_old' _ _ (by omega)]
    rw [hA2, heap_alloc_old' _ _ (by omega)]
    rw [hA1]
    exact heap_alloc_new' _ _ (by omega)
  have g2 : A7.heap[w.heap.size + 1 + 1]? = some (.cells #[.int .u64 0, .int .u64 1] 47) := by
    rw [hA7, heap_alloc_old' _ _ (by omega)]
    rw [hA6, heap_alloc_old' _ _ (by omega)]
    rw [hA5, heap_alloc_old' _ _ (by omega)]
    rw [hA4, heap_alloc_old' _ _ (by omega)]
    rw [hA3, heap_alloc_old' _ _ (by omega)]
    rw [hA2]
    exact heap_alloc_new' _ _ (by omega)
  have g3 : A7.heap[w.heap.size + 1 + 1 + 1]? = some (.cells #[.int .u64 1, .int .u64 1] 47) := by
    rw [hA7, heap_alloc_old' _ _ (by omega)]
    rw [hA6, heap_alloc_old' _ _ (by omega)]
    rw [hA5, heap_alloc_old' _ _ (by omega)]
    rw [hA4, heap_alloc_old' _ _ (by omega)]
    rw [hA3]
    exact heap_alloc_new' _ _ (by omega)
  have g4 : A7.heap[w.heap.size + 1 + 1 + 1 + 1]? = some (.cells #[.int .u64 0, .int .u64 0] 47) := by
    rw [hA7, heap_alloc_old' _ _ (by omega)]
    rw [hA6, heap_alloc_old' _ _ (by omega)]
    rw [hA5, heap_alloc_old' _ _ (by omega)]
    rw [hA4]
    exact heap_alloc_new' _ _ (by omega)
  have g5 : A7.heap[w.heap.size + 1 + 1 + 1 + 1 + 1]? = some (.cells #[.slice (some ⟨w.heap.size + 1 + 1 + 1, 0, none⟩) 2 2, .slice (some ⟨w.heap.size + 1 + 1 + 1 + 1, 0, none⟩) 2 2] 46) := by
    rw [hA7, heap_alloc_old' _ _ (by omega)]
    rw [hA6, heap_alloc_old' _ _ (by omega)]
    rw [hA5]
    exact heap_alloc_new' _ _ (by omega)
  have g6 : A7.heap[w.heap.size + 1 + 1 + 1 + 1 + 1 + 1]? = some (.cells #[.slice (some ⟨w.heap.size + 1 + 1 + 1 + 1 + 1, 0, none⟩) 2 2] 148) := by
    rw [hA7, heap_alloc_old' _ _ (by omega)]
    rw [hA6]
    exact heap_alloc_new' _ _ (by omega)
  have g7 : A7.heap[w.heap.size + 1 + 1 + 1 + 1 + 1 + 1 + 1]? = some (.cells #[.string ⟨#[97]⟩, .slice (some ⟨w.heap.size, 0, none⟩) 2 2, .slice none 0 0, .string ⟨#[98]⟩, .slice (some ⟨w.heap.size + 1, 0, none⟩) 2 2, .slice none 0 0, .string ⟨#[102]⟩, .slice (some ⟨w.heap.size + 1 + 1, 0, none⟩) 2 2, .slice (some ⟨w.heap.size + 1 + 1 + 1 + 1 + 1 + 1, 0, none⟩) 1 1] 142) := by
    rw [hA7]
    exact heap_alloc_new' _ _ (by omega)
  have bl : Below w.heap.size w A7 := by rw [hA7, hA6, hA5, hA4, hA3, hA2, hA1, hA0]; go_grown
  have hL : MxsIs A7.heap.size A7 exL9 (.slice (some ⟨w.heap.size + 1 + 1 + 1 + 1 + 1 + 1 + 1, 0, none⟩) 3 3) := by
    have h0 : U64Is A7.heap.size A7 [1, 0] (.slice (some ⟨w.heap.size, 0, none⟩) 2 2) := U64Is.two (by omega) g0
    have h1 : U64Is A7.heap.size A7 [0, 0] (.slice (some ⟨w.heap.size + 1, 0, none⟩) 2 2) := U64Is.two (by omega) g1
    have h2 : U64Is A7.heap.size A7 [0, 1] (.slice (some ⟨w.heap.size + 1 + 1, 0, none⟩) 2 2) := U64Is.two (by omega) g2
    have h3 : U64Is A7.heap.size A7 [1, 1] (.slice (some ⟨w.heap.size + 1 + 1 + 1, 0, none⟩) 2 2) := U64Is.two (by omega) g3
    have h4 : U64Is A7.heap.size A7 [0, 0] (.slice (some ⟨w.heap.size + 1 + 1 + 1 + 1, 0, none⟩) 2 2) := U64Is.two (by omega) g4
    have h5 : RowsU A7.heap.size A7 [[1, 1], [0, 0]] (.slice (some ⟨w.heap.size + 1 + 1 + 1 + 1 + 1, 0, none⟩) 2 2) := ⟨_, 2, rfl, by simp, fun _ => ⟨w.heap.size + 1 + 1 + 1 + 1 + 1, 0, rfl, by omega, fun i p hp => by
      match i, hp with
      | 0, hp => cases hp; exact ⟨[_], ⟨_, _, rfl, h3⟩, rfl, fun j hj => by
          obtain rfl : j = 0 := by omega
          exact cells_of' g5 0⟩
      | 1, hp => cases hp; exact ⟨[_], ⟨_, _, rfl, h4⟩, rfl, fun j hj => by
          obtain rfl : j = 0 := by omega
          exact cells_of' g5 1⟩
      | i + 2, hp => simp at hp⟩⟩
    have h6 : MatsU A7.heap.size A7 [[[1, 1], [0, 0]]] (.slice (some ⟨w.heap.size + 1 + 1 + 1 + 1 + 1 + 1, 0, none⟩) 1 1) := ⟨_, 1, rfl, by simp, fun _ => ⟨w.heap.size + 1 + 1 + 1 + 1 + 1 + 1, 0, rfl, by omega, fun i p hp => by
      match i, hp with
      | 0, hp => cases hp; exact ⟨[_], ⟨_, _, rfl, (fun h => by cases h), h5⟩, rfl, fun j hj => by
          obtain rfl : j = 0 := by omega
          exact cells_of' g6 0⟩
      | i + 1, hp => simp at hp⟩⟩
    have hn : MatsU A7.heap.size A7 [] (.slice none 0 0) := ⟨_, 0, rfl, by simp, fun h => absurd rfl h⟩
    exact ⟨_, 3, rfl, by decide, fun _ => ⟨w.heap.size + 1 + 1 + 1 + 1 + 1 + 1 + 1, 0, rfl, by omega, fun i p hp => by
      match i, hp with
      | 0, hp => cases hp; exact ⟨[_, _, _], ⟨_, _, _, _, rfl, h0, hn⟩, rfl, fun j hj => by
          obtain rfl | rfl | rfl : j = 0 ∨ j = 1 ∨ j = 2 := by omega
          · exact cells_of' g7 0
          · exact cells_of' g7 1
          · exact cells_of' g7 2⟩
      | 1, hp => cases hp; exact ⟨[_, _, _], ⟨_, _, _, _, rfl, h1, hn⟩, rfl, fun j hj => by
          obtain rfl | rfl | rfl : j = 0 ∨ j = 1 ∨ j = 2 := by omega
          · exact cells_of' g7 3
          · exact cells_of' g7 4
          · exact cells_of' g7 5⟩
      | 2, hp => cases hp; exact ⟨[_, _, _], ⟨_, _, _, _, rfl, h2, h6⟩, rfl, fun j hj => by
          obtain rfl | rfl | rfl : j = 0 ∨ j = 1 ∨ j = 2 := by omega
          · exact cells_of' g7 6
          · exact cells_of' g7 7
          · exact cells_of' g7 8⟩
      | i + 3, hp => simp [exL9] at hp⟩⟩
  have HL := Lib.hid hL
  have HBL := Lib.hid bl
  clear hL bl g0 g1 g2 g3 g4 g5 g6 g7 z0 z1 z2 z3 z4 z5 z6 z7
  go_enter Tryz.func35, Tryz.ntmps35
  go_wp2_with fail
  rw [← hA0, ← hA1, ← hA2, ← hA3, ← hA4, ← hA5, ← hA6, ← hA7]
  clear hA0 hA1 hA2 hA3 hA4 hA5 hA6 hA7
  refine (twice_any ⟨#[97]⟩ A7).mono ?_
  rintro e w2 ⟨⟨s, rfl, hs⟩, hb2⟩
  obtain ⟨os, cs, rfl, -⟩ := hs.form
  have HS := Lib.hid hs
  have HB2 := Lib.hid hb2
  clear hs hb2
  go_wp2_with fail
  refine (valG_any exL9 exL9_sm exL9_mat ev_a ok_a fit_a (vk_tw _) (by decide) _ _ w2 (HL.out.carry keeps_MxsIs HB2.out HB2.out.size) HS.out).mono ?_
  rintro e w3 ⟨⟨u, rfl, hu⟩, hb3⟩
  rw [ex_a] at hu
  obtain ⟨ou, cu, rfl⟩ := hu.sh
  have HU := Lib.hid hu
  have HB3 := Lib.hid (HB2.out.trans (hb3.mono HB2.out.size))
  clear hu hb3 HB2 HS
  go_wp2_with fail
  refine (twice_any ⟨#[98]⟩ w3).mono ?_
  rintro e w4 ⟨⟨s, rfl, hs⟩, hb4⟩
  obtain ⟨os', cs', rfl, -⟩ := hs.form
  have HS := Lib.hid hs
  have HU4 := Lib.hid (HU.out.carry hb4 hb4.size)
  have HB4 := Lib.hid (HB3.out.trans (hb4.mono HB3.out.size))
  clear hs hb4 HU HB3
  go_wp2_with fail
  refine (valG_any exL9 exL9_sm exL9_mat ev_b ok_b fit_b (vk_tw _) (by decide) _ _ w4 (HL.out.carry keeps_MxsIs HB4.out HB4.out.size) HS.out).mono ?_
  rintro e w5 ⟨⟨u, rfl, hu⟩, hb5⟩
  rw [ex_b] at hu
  obtain ⟨ov, cv, rfl⟩ := hu.sh
  have HV := Lib.hid hu
  have HU5 := Lib.hid (HU4.out.carry hb5 hb5.size)
  have HB5 := Lib.hid (HB4.out.trans (hb5.mono HB4.out.size))
  clear hu hb5 HU4 HB4 HS HL
  go_wp2_with fail
  have hb6 : Below w5.heap.size w5 (w5.alloc (.cells #[.int .u64 2, .int .u64 1] 47)) := (Below.refl _ _).alloc (Nat.le_refl _) _
  refine (sameRow_any [2, 1] (.slice ou 2 cu) (.slice (some ⟨w5.heap.size, 0, none⟩) 2 2) (w5.alloc (.cells #[.int .u64 2, .int .u64 1] 47)) (by decide) (HU5.out.carry hb6 hb6.size) (U64Is.two (by rw [size_alloc']; omega) (heap_alloc_new' _ _ rfl))).mono ?_
  rintro e w6 ⟨rfl, hb⟩
  have HV6 := Lib.hid (HV.out.carry (hb6.trans (hb.mono hb6.size)) (Nat.le_trans hb6.size hb.size))
  have HB6 := Lib.hid (HB5.out.trans ((hb6.trans (hb.mono hb6.size)).mono HB5.out.size))
  clear hb hb6 HV HU5 HB5
  go_wp2_with fail
  have hb7 : Below w6.heap.size w6 (w6.alloc (.cells #[.int .u64 1, .int .u64 1] 47)) := (Below.refl _ _).alloc (Nat.le_refl _) _
  refine (sameRow_any [1, 1] (.slice ov 2 cv) (.slice (some ⟨w6.heap.size, 0, none⟩) 2 2) (w6.alloc (.cells #[.int .u64 1, .int .u64 1] 47)) (by decide) (HV6.out.carry hb7 hb7.size) (U64Is.two (by rw [size_alloc']; omega) (heap_alloc_new' _ _ rfl))).mono ?_
  rintro e w7 ⟨rfl, hb⟩
  have HB7 := Lib.hid (HBL.out.trans ((HB6.out.trans ((hb7.trans (hb.mono hb7.size)).mono HB6.out.size)).mono HBL.out.size))
  clear hb hb7
  go_wp2_with fail
  go_ret
  exact ⟨rfl, HB7.out⟩
end Go.Proofs.YtamddagmlanijaaGreat
/- The law MatrixChecks. -/
namespace Go.Proofs.YtamddagmlanijaaGreat
open Go.RowKit Go.Shelf

set_option maxRecDepth 100000 in
set_option maxHeartbeats 4000000 in
theorem lawQ_any (dim : Int) (L : List Mx) (s : List (Key × Int)) (v sv : Value) (w : World) (hl : MxsIs w.heap.size w L v) (hs : mxsSm L) (hv : SymsIs w.heap.size w s sv) (hss : symSm s) :
    Calls Tryz.prog 9 #[.agg #[.int .i64 dim, v], sv] w fun e w' => e = .returned (.bool true) ∧ Below w.heap.size w w' := by
  have HC9 : Hid (∀ W, Below w.heap.size w W → Calls Tryz.prog 32 #[.int .i64 dim, v] W fun e w' => e = .returned (.int .i64 (matC dim L)) ∧ Below W.heap.size W w') := Lib.hid fun W hW => r9Check_any dim L v W (hl.carry keeps_MxsIs hW hW.size) hs
  have HCM : Hid (∀ W, Below w.heap.size w W → Calls Tryz.prog 34 #[.int .i64 dim, v] W fun e w' => e = .returned (.int .i64 (matC dim L)) ∧ Below W.heap.size W w') := Lib.hid fun W hW => mCheck_any dim L v W (hl.carry keeps_MxsIs hW hW.size) hs
  have HMM : Hid (∀ W, Below w.heap.size w W → Calls Tryz.prog 33 #[.int .i64 dim, v, sv] W fun e w' => e = .returned (.tuple #[.bool (monAns dim L s).1, .int .i64 (monAns dim L s).2]) ∧ Below W.heap.size W w') := Lib.hid fun W hW => mMonotone_any dim L s v sv W (hl.carry keeps_MxsIs hW hW.size) hs (hv.carry keeps_SymsIs hW hW.size) hss
  have HM9 : Hid (matC dim L = 0 → ∀ W, Below w.heap.size w W → Calls Tryz.prog 36 #[.int .i64 dim, v, sv] W fun e w' => e = .returned (.tuple #[.bool (monAns dim L s).1, .int .i64 (monAns dim L s).2]) ∧ Below W.heap.size W w') := Lib.hid fun h0 W hW => by
    obtain ⟨d, rfl, hmo⟩ := matC_zero.1 h0
    exact r9Monotone_any d L s v sv W (hl.carry keeps_MxsIs hW hW.size) hs hmo (hv.carry keeps_SymsIs hW hW.size) hss h0
  obtain ⟨oa, cap, rfl⟩ := hl.shape
  obtain ⟨os, cs, rfl⟩ := hv.shape
  have HER : Hid (matC dim L ≠ 0 → (monAns dim L s).1 = false ∧ (monAns dim L s).2 = matC dim L) := Lib.hid fun h => by
    unfold monAns
    rw [if_pos h]
    exact ⟨rfl, rfl⟩
  generalize hc0 : matC dim L = c at *
  clear hc0
  generalize (monAns dim L s).1 = m1 at *
  generalize (monAns dim L s).2 = m2 at *
  obtain ⟨W1, hW1⟩ : ∃ W1, W1 = w.alloc (.cells #[.int .i64 dim, .slice oa L.length cap] 79) := ⟨_, rfl⟩
  have hb1 : Below w.heap.size w W1 := by subst hW1; exact (Below.refl _ _).alloc (Nat.le_refl _) _
  have hg1 : W1.heap[w.heap.size]? = some (.cells #[.int .i64 dim, .slice oa L.length cap] 79) := by subst hW1; exact heap_alloc_new' _ _ rfl
  have hz1 : W1.heap.size = w.heap.size + 1 := by subst hW1; rw [size_alloc']
  have HB1 := Lib.hid hb1
  have HCL : Hid (∀ W, Below W1.heap.size W1 W → W.cell? ⟨w.heap.size, 0, none⟩ = some (.int .i64 dim) ∧ W.cell? ⟨w.heap.size, 1, none⟩ = some (.slice oa L.length cap)) := Lib.hid fun W hW => by
    have e0 := (hW.block w.heap.size (by omega)).trans hg1
    exact ⟨cells_of' e0 0, cells_of' e0 1⟩
  clear hl hs hv hss hb1 hg1 hz1
  go_enter Tryz.func9, Tryz.ntmps9
  go_wp2_with fail
  rw [← hW1]
  clear hW1
  refine (HC9.out W1 HB1.out).mono ?_
  rintro e w2 ⟨rfl, hb2⟩
  have HB2 := Lib.hid hb2
  clear hb2
  obtain ⟨y0, y1⟩ := HCL.out w2 HB2.out
  go_wp2_with fail
  refine (HMM.out w2 (HB1.out.trans (HB2.out.mono HB1.out.size))).mono ?_
  rintro e w3 ⟨rfl, hb3⟩
  have HB3 := Lib.hid (HB2.out.trans (hb3.mono HB2.out.size))
  clear hb3 y0 y1 HB2
  obtain ⟨y0, y1⟩ := HCL.out w3 HB3.out
  go_wp2_with fail
  refine (HCM.out w3 (HB1.out.trans (HB3.out.mono HB1.out.size))).mono ?_
  rintro e w4 ⟨rfl, hb4⟩
  have HB4 := Lib.hid (HB3.out.trans (hb4.mono HB3.out.size))
  clear hb4 y0 y1 HB3
  obtain ⟨y0, y1⟩ := HCL.out w4 HB4.out
  by_cases h0 : c = 0
  · subst h0
    have H9 := Lib.hid (HM9.out rfl w4 (HB1.out.trans (HB4.out.mono HB1.out.size)))
    clear HM9 HER
    go_wp2_with fail
    refine H9.out.mono ?_
    rintro e w5 ⟨rfl, hb5⟩
    have HB5 := Lib.hid (HB4.out.trans (hb5.mono HB4.out.size))
    clear hb5 y0 y1 HB4
    go_wp2_with fail
    refine (alive9_any w5).mono ?_
    rintro e w6 ⟨rfl, hb6⟩
    have HB6 := Lib.hid (HB1.out.trans ((HB5.out.trans (hb6.mono HB5.out.size)).mono HB1.out.size))
    clear hb6
    go_wp2_with fail
    go_ret
    exact ⟨rfl, HB6.out⟩
  · obtain ⟨rfl, rfl⟩ := HER.out h0
    have n1 : (m2 == 0) = false := by rw [beq_eq_false_iff_ne]; exact h0
    have n2 : (m2 != 0) = true := by rw [bne_iff_ne]; exact h0
    clear HER HM9 h0
    go_wp2_with fail
    refine (alive9_any w4).mono ?_
    rintro e w6 ⟨rfl, hb6⟩
    have HB6 := Lib.hid (HB1.out.trans ((HB4.out.trans (hb6.mono HB4.out.size)).mono HB1.out.size))
    clear hb6
    go_wp2_with fail
    go_ret
    exact ⟨rfl, HB6.out⟩
end Go.Proofs.YtamddagmlanijaaGreat
namespace Go.Proofs.YtamddagmlanijaaGreat
open Go.RowKit Go.ChangeShapes Go.WideShapes Go.ChangeAt Go.Deep

set_option maxRecDepth 100000 in
set_option maxHeartbeats 1000000 in
theorem contractQ (H : Type) (enc : TypeId × Value → H) (W : World) (base : Nat) (args : Array Value) (ds gs : List (DataW H)) (before : List MemPlace)
    (hval : ∀ (j : Nat) t v, Tryz.f9.params[j]? = some t → args[j]? = some v → Value.okWide Tryz.prog W .any base t v)
    (hW : DataW.Whole enc Tryz.prog Tryz.f9.params.toList Rows.matrixChecksSpec.vars false W args.toList ds gs before) (hk : Rows.uptoSmall H (ds ++ gs) = true) :
    Calls Tryz.prog 9 args W fun e W' => ∃ v, e = .returned v ∧ Rows.matrixChecksSpec.post enc Tryz.prog Tryz.f9 false true false false W args v W' := by
  have hW' := hW
  obtain ⟨p, q, hA0, hV, rfl, hfz, hnd⟩ := hW
  have hA : DataW.TrodAll enc Tryz.prog W 0 (fun _ => true) true Tryz.f9.params.toList args.toList ds p := hA0
  rw [Tryz.params9] at hA hval
  obtain ⟨v0, vs0, d0, ds0, p0, q0, hargs, rfl, rfl, h0, r0⟩ := trodAll_cons hA
  obtain ⟨v1, vs1, d1, ds1, p1, q1, hargs1, rfl, rfl, h1, r1⟩ := trodAll_cons r0
  obtain ⟨rfl, rfl, rfl⟩ := trodAll_nil r1
  subst hargs1
  obtain rfl : args = #[v0, v1] := by cases args; simp_all
  obtain ⟨rfl, rfl⟩ := trodVars_none hV
  clear hA0
  simp only [List.append_nil] at hW' hk hfz
  have hv0 := hval 0 _ v0 rfl rfl
  have hv1 := hval 1 _ v1 rfl rfl
  simp only [Value.okWide] at hv0
  obtain ⟨ox, nx, kx, rfl⟩ := okWide_slice Tryz.underlying40 hv1
  obtain ⟨c0, rfl, -, -⟩ := hv0
  have H0 := h0
  have H1 := h1
  obtain ⟨n0, k0⟩ := h0
  obtain ⟨n1, k1⟩ := h1
  simp only [Value.cells] at k0 k1
  obtain ⟨dim, L, lv, e0, hL, hLn, hLb⟩ := order_openQ enc W n0 _ _ k0 (fun b off hp => hfz b off (by simp [hp]))
  obtain ⟨S, hS, hSn, hSb⟩ := syms_openQ enc W n1 _ _ k1 (fun b off hp => hfz b off (by simp [hp]))
  obtain rfl : c0 = #[.int .i64 dim, lv] := by cases c0; simp_all
  have hbound : Rows.uptoBulkAll [d0, d1] ≤ 1048576 := of_decide_eq_true hk
  simp only [Rows.uptoBulkAll] at hbound
  have hLn' : L.length < Rows.uptoBulk d0 := hLn
  have hLb' : ∀ p ∈ L, xB p < Rows.uptoBulk d0 := hLb
  have hSn' : S.length < Rows.uptoBulk d1 := hSn
  have hSb' : ∀ p ∈ S, p.1.length < Rows.uptoBulk d1 := hSb
  have hsm : mxsSm L := ⟨by omega, fun p hp => by
    have h := hLb' p hp
    unfold xB at h
    rw [Nat.max_lt, Nat.max_lt, msB_lt] at h
    obtain ⟨h1, h2, h3, h4⟩ := h
    refine ⟨by omega, by omega, by omega, fun m hm => ?_⟩
    have h5 := mB_lt.1 (h4 m hm)
    exact ⟨by omega, fun r hr => by have := h5.2 r hr; omega⟩⟩
  have hss : symSm S := ⟨by omega, fun p hp => by have := hSb' p hp; omega⟩
  refine (lawQ_any dim L S lv _ W hL hsm hS hss).mono ?_
  rintro e W' ⟨rfl, hb⟩
  have hsame : ∀ b : MemPlace, b.block < W.heap.size → W.sameAt W' b := fun b hbl => by
    cases b with
    | cell b off => exact hb.cell (p := ⟨b, off, none⟩) hbl
    | map b => exact hb.block b hbl
  have hlt := hW'.lt
  refine ⟨_, rfl, _, _, _, [], p0 ++ (p1 ++ []), [], hW', ?_, ?_, ?_, hb.frame _, fun h => by cases h⟩
  · exact trodAll_cons_mk (shut_bool Tryz.underlying4 _) trodAll_mk0
  · exact trodAll_cons_mk (trod_again _ (sp_ordQ _) H0 (fun p hp => by have := hlt p (by simp [hp]); simpa using this) (fun p hp => hsame p (hlt p (by simp [hp]))))
        (trodAll_cons_mk (trod_again _ (sp_symsQ _) H1 (fun p hp => by have := hlt p (by simp [hp]); simpa using this) (fun p hp => hsame p (hlt p (by simp [hp])))) trodAll_mk0)
  · exact rfl

theorem ownGodebug : ownKnob Tryz.prog.godebug = none := by kernel_rfl
set_option maxRecDepth 100000 in
theorem liftedQ (os : Os) (started : os.Started) (H : Type) (enc : TypeId × Value → H) (F : Stop.Interp) :
    ReturnsInHanded {} Tryz.checked os 9 .any ((Rows.OpenSpec.upto Rows.matrixChecksSpec).pre6 enc Tryz.prog Tryz.f9 Rows.matrixChecksUptoRow.domain false) (((Rows.OpenSpec.upto Rows.matrixChecksSpec).at F).post enc Tryz.prog Tryz.f9 false true false false) := by
  refine returnsInHanded_of_cond (C := Tryz.checked) (s := Rows.OpenSpec.upto Rows.matrixChecksSpec) (k := Rows.uptoSmall) rfl ownGodebug started (by kernel_rfl) Tryz.func9
    (OpenSpec.witness (enc := enc) (C := Tryz.checked) (s := Rows.OpenSpec.upto Rows.matrixChecksSpec) (k := Rows.uptoSmall) rfl false ⟨#[], #[.agg #[.int .i64 0, .slice none 0 0], .slice none 0 0], []⟩ 9 (by kernel_rfl) (by kernel_rfl) (by kernel_rfl)
      (x := ([.agg [.lit (.int .i64 0), .nil], .nil], [], [])) (by kernel_rfl) rfl (by kernel_rfl)) ?_
  intro W base args ds gs before hval hW _ hk _
  exact contractQ H enc W base args ds gs before hval hW hk

/-- The law. -/
theorem matrixChecks_holds : Rows.MatrixChecksUptoSaid :=
  OpenClaim.holds_of_cond 9 Tryz.f9 rfl rfl rfl rfl rfl rfl rfl ⟨rfl, rfl, rfl, rfl, rfl⟩ rfl rfl rfl rfl rfl (by kernel_rfl) Tryz.func9 (by kernel_rfl)
    (of_decide_eq_true (by kernel_rfl)) (by unfold Func.isWrapper; first | (rw [if_pos (by decide +kernel)]; kernel_rfl) | (rw [if_neg (by decide +kernel)]; exact ⟨rfl, rfl⟩))
    (fun os started H enc _ F => liftedQ os started H enc F)
end Go.Proofs.YtamddagmlanijaaGreat
