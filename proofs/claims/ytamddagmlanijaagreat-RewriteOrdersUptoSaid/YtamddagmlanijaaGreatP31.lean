/- Packed: Nrz, Sms. -/
import Derived.Test.YtamddagmlanijaaGreatP18
import Derived.Test.YtamddagmlanijaaGreatP30
import Derived.WalkKit
import Derived.ProofKit
import Derived.OpenShut
import Derived.Handy
import Derived.Lib.Hide
import Derived.BigQuiet
import Derived.Test.YtamddagmlanijaaGreatP16
import Derived.Test.YtamddagmlanijaaGreatP15
/- Normalize: a run of first steps that ends in a normal form. -/
namespace Go.Proofs.YtamddagmlanijaaGreat
open Go.RowKit Go.Shelf Go.Maps
attribute [local go_sem] Oper.semAt_some

/-- a run of first steps from t through the terms of the list to a normal form -/
def NRun (l : List RlV) (k : Int) : Tm → List Tm → Prop
  | t, [] => choL k (rdx l t) = []
  | t, u :: us => (∃ (x : Rdx) (i n : Nat), (choL k (rdx l t)).head? = some x ∧ x.2.head? = some i ∧ pfRun l t t 0 [((i : Int), x.1)] = .ok u n ∧ PfGood l t t [((i : Int), x.1)]) ∧ u.ok ∧ NRun l k u us
def lastT : Tm → List Tm → Tm
  | t, [] => t
  | _, u :: us => lastT u us
/-- what Normalize has at hand at the head of its loop; B: its first block, E: where its boxes end -/
structure NrM (B E c13 c14 c15 : Nat) (w wr : World) (l : List RlV) (rv lv : Value) (u : Tm) (su : Value) (n : Nat) (st : Value) : Prop where
  b13 : ∃ x y z, wr.heap[c13]? = some (.cells #[.string x, .bool y, z, st] 68 (0, 0)) ∧ ∃ o m c, z = .slice o m c
  b14 : wr.heap[c14]? = some (.cells #[.string u.nm, .bool u.vr, su] 25 (0, 0))
  b15 : wr.heap[c15]? = some (.cells #[rv, lv] 178 (0, 0))
  r1 : wr.heap[B + 1]? = some (.cells #[.string ⟨#[]⟩, .bool false, .slice none 0 0, .slice none 0 0] 68 (0, 0))
  r2 : wr.heap[B + 1 + 1]? = some (.cells #[.string ⟨#[]⟩, .bool false, .slice none 0 0] 25 (0, 0))
  row : ∃ xs, wr.ownsRow E 36 2 st n xs
  is : SlP (fun b => ((b < B ∨ E ≤ b) ∧ st.ownBlock ≠ some b) ∧ b < wr.heap.size) wr u.ts su
  lrow : wr.ownsRow 0 4 1 lv l.length (linVs l)
  bl : Below B w wr
  lz : E ≤ wr.heap.size
theorem NrM.next {B E c13 c14 c15 : Nat} {w wr wr' : World} {l : List RlV} {rv lv : Value} {u : Tm} {su : Value} {n : Nat} {st : Value} (h : NrM B E c13 c14 c15 w wr l rv lv u su n st) (hBE : B ≤ E) (hb : Below wr.heap.size wr wr') : NrM B E c13 c14 c15 w wr' l rv lv u su n st := by
  have hl := h.lz
  have hz := hb.size
  have up : ∀ {k : Nat} {o : Obj}, wr.heap[k]? = some o → wr'.heap[k]? = some o := fun hk => (hb.block _ (Array.getElem?_eq_some_iff.1 hk).1).trans hk
  obtain ⟨x, y, z, h13, hz3⟩ := h.b13
  obtain ⟨xs, hxs⟩ := h.row
  exact ⟨⟨x, y, z, up h13, hz3⟩, up h.b14, up h.b15, up h.r1, up h.r2, ⟨xs, row_keptS hxs fun k e => hb.block k (hxs.lt k e).2⟩, h.is.carry fun b hb' => ⟨hb.block b hb'.2, hb'.1, Nat.lt_of_lt_of_le hb'.2 hb.size⟩, row_kept h.lrow fun k e => hb.block k (h.lrow.lt k e).2, h.bl.trans (hb.mono (by omega)), by omega⟩

theorem cell_set_same {W : World} {b : Nat} {cs : Array Value} {T : TypeId} {fr : Nat × Nat} (hb : W.heap[b]? = some (.cells cs T fr)) (i : Nat) (v : Value) : (W.setCell ⟨b, i, none⟩ v).heap[b]? = some (.cells (cs.setIfInBounds i v) T fr) := by
  simp [World.setCell, Array.getElem?_modify, hb]
abbrev set4 (W : World) (B : Nat) (a b c d : Value) : World := (((W.setCell ⟨B, 0, none⟩ a).setCell ⟨B, 1, none⟩ b).setCell ⟨B, 2, none⟩ c).setCell ⟨B, 3, none⟩ d
theorem box4_set {W : World} {B : Nat} {x y z u : Value} {e : TypeId} (h : W.heap[B]? = some (.cells #[x, y, z, u] e (0, 0))) (a b c d : Value) : (set4 W B a b c d).heap[B]? = some (.cells #[a, b, c, d] e (0, 0)) := by
  have := cell_set_same (cell_set_same (cell_set_same (cell_set_same h 0 a) 1 b) 2 c) 3 d
  simpa using this
theorem cell_four (W : World) (B : Nat) (a b c d : Value) {j o : Nat} (h : ¬ (j = B)) : ((((W.setCell ⟨B, 0, none⟩ a).setCell ⟨B, 1, none⟩ b).setCell ⟨B, 2, none⟩ c).setCell ⟨B, 3, none⟩ d).cell? ⟨j, o, none⟩ = W.cell? ⟨j, o, none⟩ :=
  World.cell?_of_block ((setCell_other _ _ _ h).trans ((setCell_other _ _ _ h).trans ((setCell_other _ _ _ h).trans (setCell_other _ _ _ h))))
theorem cell_three (W : World) (B : Nat) (a b c : Value) {j o : Nat} (h : ¬ (j = B)) : (((W.setCell ⟨B, 0, none⟩ a).setCell ⟨B, 1, none⟩ b).setCell ⟨B, 2, none⟩ c).cell? ⟨j, o, none⟩ = W.cell? ⟨j, o, none⟩ :=
  World.cell?_of_block (heap_set3 _ _ _ _ _ _ h)
/-- the two stores behind the append -/
abbrev stW (W : World) (c13 c14 : Nat) (v : Value) (u : Tm) (su : Value) : World := (((W.setCell ⟨c13, 3, none⟩ v).setCell ⟨c14, 0, none⟩ (.string u.nm)).setCell ⟨c14, 1, none⟩ (.bool u.vr)).setCell ⟨c14, 2, none⟩ su
theorem stW_other (W : World) (c13 c14 : Nat) (v : Value) (u : Tm) (su : Value) {j : Nat} (h : j ≠ c13) (h2 : j ≠ c14) : (stW W c13 c14 v u su).heap[j]? = W.heap[j]? := (heap_set3 _ _ _ _ _ _ h2).trans (setCell_other _ _ _ h)
theorem stW_size (W : World) (c13 c14 : Nat) (v : Value) (u : Tm) (su : Value) : (stW W c13 c14 v u su).heap.size = W.heap.size := by simp [stW, World.setCell]
theorem NrM.turn {B E c13 c14 c15 : Nat} {w A W : World} {l : List RlV} {rv lv : Value} {u u' : Tm} {su su' : Value} {n : Nat} {st v : Value} (h : NrM B E c13 c14 c15 w A l rv lv u su n st)
    (hc : B + 2 < c13 ∧ c13 < c14 ∧ c14 < c15 ∧ c15 < E) (hsu : SlP (fun b => ((b < B ∨ E ≤ b) ∧ st.ownBlock ≠ some b) ∧ b < A.heap.size) A u'.ts su')
    (ho : ∃ xs, W.ownsRow E 36 2 v (n + 1) xs) (hg : A.grownBy W st.ownBlock) (hat : v.ownBlock = st.ownBlock ∨ v.ownBlock = some A.heap.size) :
    NrM B E c13 c14 c15 w (stW W c13 c14 v u' su') l rv lv u' su' (n + 1) v := by
  obtain ⟨x, y, z, h13, hz3⟩ := h.b13
  obtain ⟨xs, hxs⟩ := h.row
  obtain ⟨ys, hys⟩ := ho
  have hlz := h.lz
  have hgs := hg.size
  have hsz := stW_size W c13 c14 v u' su'
  have n13 : st.ownBlock ≠ some c13 := row_not h13 (by decide) hxs
  have n14 : st.ownBlock ≠ some c14 := row_not h.b14 (by decide) hxs
  have n15 : st.ownBlock ≠ some c15 := row_not h.b15 (by decide) hxs
  have nr1 : st.ownBlock ≠ some (B + 1) := row_not h.r1 (by decide) hxs
  have nr2 : st.ownBlock ≠ some (B + 1 + 1) := row_not h.r2 (by decide) hxs
  have up : ∀ {k : Nat} {o : Obj}, A.heap[k]? = some o → st.ownBlock ≠ some k → W.heap[k]? = some o := fun hk hne => (hg.block _ (Array.getElem?_eq_some_iff.1 hk).1 (fun e => hne e.symm)).trans hk
  have w13 := up h13 n13
  have w14 := up h.b14 n14
  have v13 : v.ownBlock ≠ some c13 := row_not w13 (by decide) hys
  have v14 : v.ownBlock ≠ some c14 := row_not w14 (by decide) hys
  have hlr : ∀ k, lv.ownBlock = some k → k ≠ c13 ∧ k ≠ c14 ∧ st.ownBlock ≠ some k := fun k e =>
    ⟨fun e2 => row_not h13 (by decide) h.lrow (e2 ▸ e), fun e2 => row_not h.b14 (by decide) h.lrow (e2 ▸ e), fun e2 => by
      rcases ownsRow_apart h.lrow hxs (by decide) with h3 | h3
      · rw [h3] at e; cases e
      · exact h3 (e.trans e2.symm)⟩
  refine ⟨⟨x, y, z, (heap_set3 _ _ _ _ _ _ (by omega)).trans ?_, hz3⟩, box3_set ((setCell_other _ _ _ (show c14 ≠ c13 by omega)).trans w14) _ _ _, (stW_other _ _ _ _ _ _ (by omega) (by omega)).trans (up h.b15 n15), (stW_other _ _ _ _ _ _ (by omega) (by omega)).trans (up h.r1 nr1), (stW_other _ _ _ _ _ _ (by omega) (by omega)).trans (up h.r2 nr2), ⟨ys, row_keptS hys fun k e => stW_other _ _ _ _ _ _ (fun e2 => v13 (e2 ▸ e)) (fun e2 => v14 (e2 ▸ e))⟩, ?_, ?_, ?_, by omega⟩
  · have := cell_set_same w13 3 v
    simpa using this
  · refine hsu.carry fun b hb => ⟨(stW_other _ _ _ _ _ _ (by rcases hb.1.1 with h1 | h1 <;> omega) (by rcases hb.1.1 with h1 | h1 <;> omega)).trans (hg.block b hb.2 fun e => hb.1.2 e.symm), ⟨hb.1.1, fun e => ?_⟩, by omega⟩
    rcases hat with h1 | h1
    · exact hb.1.2 (h1 ▸ e)
    · rw [h1] at e; have := Option.some.inj e; omega
  · refine row_kept h.lrow fun k e => ?_
    obtain ⟨e1, e2, e3⟩ := hlr k e
    exact (stW_other _ _ _ _ _ _ e1 e2).trans (hg.block k (h.lrow.lt k e).2 fun e => e3 e.symm)
  · refine below_set3 (Below.setCell (p := ⟨c13, 3, none⟩) (h.bl.grown hg (by omega) fun k e => by have := (hxs.lt k e).1; omega) (show B ≤ c13 by omega) _) (by omega) _ _ _
/-- a store into the step's box -/
theorem NrM.box {B E c13 c14 c15 c16 : Nat} {w W : World} {l : List RlV} {rv lv : Value} {u : Tm} {su : Value} {n : Nat} {st : Value} (h : NrM B E c13 c14 c15 w W l rv lv u su n st)
    (hc : B + 2 < c13 ∧ c13 < c14 ∧ c14 < c15 ∧ c15 < E) (hc1 : c15 < c16 ∧ c16 < E) {p q : Value} (hbx : W.heap[c16]? = some (.cells #[p, q] 36 (0, 0))) (a b : Value) :
    NrM B E c13 c14 c15 w ((W.setCell ⟨c16, 0, none⟩ a).setCell ⟨c16, 1, none⟩ b) l rv lv u su n st := by
  obtain ⟨x, y, z, h13, hz3⟩ := h.b13
  obtain ⟨xs, hxs⟩ := h.row
  have ot : ∀ {j : Nat}, j ≠ c16 → ((W.setCell ⟨c16, 0, none⟩ a).setCell ⟨c16, 1, none⟩ b).heap[j]? = W.heap[j]? := fun hj => (setCell_other _ _ _ hj).trans (setCell_other _ _ _ hj)
  have hsz : ((W.setCell ⟨c16, 0, none⟩ a).setCell ⟨c16, 1, none⟩ b).heap.size = W.heap.size := by simp [World.setCell]
  have hlz := h.lz
  exact ⟨⟨x, y, z, (ot (by omega)).trans h13, hz3⟩, (ot (by omega)).trans h.b14, (ot (by omega)).trans h.b15, (ot (by omega)).trans h.r1, (ot (by omega)).trans h.r2, ⟨xs, row_keptS hxs fun k e => ot (by have := (hxs.lt k e).1; omega)⟩,
    h.is.carry fun b' hb => ⟨ot (by rcases hb.1.1 with h1 | h1 <;> omega), hb.1, by omega⟩, row_kept h.lrow fun k e => ot (fun e2 => row_not hbx (by decide) h.lrow (e2 ▸ e)), (h.bl.setCell (p := ⟨c16, 0, none⟩) (show B ≤ c16 by omega) _).setCell (p := ⟨c16, 1, none⟩) (show B ≤ c16 by omega) _, by omega⟩
/-- the step in its box -/
structure NrB (wr : World) (c16 : Nat) (l : List RlV) (k : Int) (u : Tm) (rest : List Tm) (si : Int) (po : Option Addr) (pn pc : Nat) : Prop where
  bx : wr.heap[c16]? = some (.cells #[.int .i64 si, .slice po pn pc] 36 (0, 0))
  hd : rest ≠ [] → ∃ (x : Rdx) (j : Nat), (choL k (rdx l u)).head? = some x ∧ x.2.head? = some j ∧ si = (j : Int) ∧ pn = x.1.length ∧ wr.ownsRow 0 3 1 (.slice po pn pc) x.1.length (ints x.1) ∧ x.1.length ≤ 1048576
theorem NrB.next {wr wr' : World} {c16 : Nat} {l : List RlV} {k : Int} {u : Tm} {rest : List Tm} {si : Int} {po : Option Addr} {pn pc : Nat} (h : NrB wr c16 l k u rest si po pn pc) (hb : Below wr.heap.size wr wr') : NrB wr' c16 l k u rest si po pn pc :=
  ⟨(hb.block _ (Array.getElem?_eq_some_iff.1 h.bx).1).trans h.bx, fun hr => by
    obtain ⟨x, j, h1, h2, h3, h4, h5, h6⟩ := h.hd hr
    exact ⟨x, j, h1, h2, h3, h4, row_kept h5 fun k e => hb.block k (h5.lt k e).2, h6⟩⟩
theorem FirPost.use {n₀ : Nat} {W : World} {i : Int} {po : Option Addr} {pn pc : Nat} {b : Bool} {l : List RlV} {k : Int} {u : Tm} {rest : List Tm} (h : FirPost n₀ (choL k (rdx l u)) (.returned (.tuple #[.agg #[.int .i64 i, .slice po pn pc], .bool b])) W) (hr : NRun l k u rest) :
    b = (!rest.isEmpty) ∧ (rest ≠ [] → ∃ (x : Rdx) (j : Nat), (choL k (rdx l u)).head? = some x ∧ x.2.head? = some j ∧ i = (j : Int) ∧ pn = x.1.length ∧ W.ownsRow 0 3 1 (.slice po pn pc) x.1.length (ints x.1) ∧ x.1.length ≤ 1048576) := by
  rcases h with ⟨h1, h2⟩ | ⟨x, j, pv, h1, h2, h3, h4, h5⟩
  · simp only [Ending.returned.injEq, Value.tuple.injEq, Array.mk.injEq, List.cons.injEq, Value.agg.injEq, Value.bool.injEq, and_true] at h2
    cases rest with
    | nil => exact ⟨h2.2, fun h => absurd rfl h⟩
    | cons v rest =>
      obtain ⟨⟨x, j, n, h3, -⟩, -⟩ := hr
      rw [h1] at h3; cases h3
  · simp only [Ending.returned.injEq, Value.tuple.injEq, Array.mk.injEq, List.cons.injEq, Value.agg.injEq, Value.bool.injEq, and_true, Value.int.injEq, true_and] at h3
    obtain ⟨⟨rfl, rfl⟩, rfl⟩ := h3
    obtain ⟨o, c, he, -⟩ := ownsRow_formP h4
    cases he
    cases rest with
    | nil => rw [show choL k (rdx l u) = [] from hr] at h1; cases h1
    | cons v rest => exact ⟨rfl, fun _ => ⟨x, j, h1, h2, rfl, rfl, ownsRow_mono h4 (Nat.zero_le _), h5⟩⟩

set_option maxRecDepth 100000 in
set_option maxHeartbeats 8000000 in
theorem normalize_run (l : List RlV) (rv : Value) (t : Tm) (s : Value) (k most : Int) (us : List Tm) (w : World) (hr : RulV w.heap.size w l rv) (hs : SlIs w.heap.size w t.ts s) (hl : l.length ≤ 1048576) (hlb : ∀ x ∈ sidesV l, x.1.bulk ≤ 1048576) (hb : t.bulk ≤ 1048576)
    (hok : SysOk l) (hto : t.ok) (hk : 1 ≤ k ∧ k ≤ 5) (hm0 : 0 ≤ most) (hm : most ≤ 4096) (hrun : NRun l k t us) (hus : (us.length : Int) ≤ most) :
    Calls Tryz.prog 47 #[rv, tmv t s, .int .i64 k, .int .i64 most] w fun e w' => (∃ x y z1 z2 z3 oa cap sr, e = .returned (.tuple #[.agg #[.string x, .bool y, .slice z1 z2 z3, .slice oa us.length cap], tmv (lastT t us) sr, .bool true, .int .i64 0]) ∧ SlIs w'.heap.size w' (lastT t us).ts sr) ∧ Below w.heap.size w w' := by
  obtain ⟨oa, cap, rfl, -⟩ := hs.form
  obtain ⟨ra, rc, rfl⟩ := hr.shape
  have hd1 : decide (most < 0) = false := by simpa using hm0
  have hd2 : decide (4096 < most) = false := by simpa using hm
  have hb0 : Below w.heap.size w (((w.alloc (.cells #[.string t.nm, .bool t.vr, .slice oa t.ts.length cap] 25)).alloc (.cells #[.string ⟨#[]⟩, .bool false, .slice none 0 0, .slice none 0 0] 68)).alloc (.cells #[.string ⟨#[]⟩, .bool false, .slice none 0 0] 25)) := by go_grown
  have HCK := Lib.hid (rwcheck_any l (.slice ra l.length rc) t (.slice oa t.ts.length cap) _ (hr.carry hb0 hb0.size) (hs.carry hb0 hb0.size) hl hlb hb)
  have HR := Lib.hid hr
  have HS := Lib.hid hs
  have HB0 := Lib.hid hb0
  have HLB := Lib.hid hlb
  have HOK := Lib.hid hok
  have HTO := Lib.hid hto
  have HK := Lib.hid hk
  have HRUN := Lib.hid hrun
  have HLO := Lib.hid (fun p (hp : p ∈ l) => (⟨hok.2.1 _ (sidesV_mem hp).1, hlb _ (sidesV_mem hp).1⟩ : p.1.1.ok ∧ p.1.1.bulk ≤ 1048576))
  have htd : t.depth ≤ 1048576 := by have := hto.2.2; omega
  clear hr hs hb0 hlb hok hto hk hrun
  go_enter Tryz.func47, Tryz.ntmps47
  rw [show tmv t (.slice oa t.ts.length cap) = .agg #[.string t.nm, .bool t.vr, .slice oa t.ts.length cap] from rfl]
  go_wp2_with ((first
    | (go_at_call 112
       have hbw5 : Below w.heap.size w (w5.alloc (.cells #[.slice ra l.length rc, .slice lo l.length lc] 178)) := HB5.out.alloc HB5.out.size _
       refine (first_any l (.slice ra l.length rc) (.slice lo l.length lc) t (.slice oa t.ts.length cap) k _ (HS.out.carry hbw5 hbw5.size) (HR.out.carry hbw5 hbw5.size) (HLV.out.alloc _) hl HLO.out HTO.out hb htd).mono ?_
       rintro e w6 ⟨hf6, hb6⟩
       obtain ⟨i6, po6, pn6, pc6, b6, rfl, -⟩ := hf6.form
       have HF6 := Lib.hid hf6
       have HB6 := Lib.hid hb6
       clear hf6 hb6 hbw5)
    | (go_at_call 109
       refine (newFinder_from l (.slice ra l.length rc) w _ ((HB3.out.alloc HB3.out.size _).alloc (by have := HB3.out.size; simp; omega) _) HR.out hl fun p hp => ⟨(HLO.out p hp).2, by have := (HLO.out p hp).1.2.2; omega⟩).mono ?_
       rintro e w5 ⟨⟨lv, rfl, hlv⟩, hb5, hb5b⟩
       obtain ⟨lo, lc, rfl, -⟩ := ownsRow_formP hlv
       have h13 := (hb5b.block w3.heap.size (by simp <;> omega)).trans ((Below.heap_alloc _ _ _ (by simp)).trans (World.alloc_heap_new w3 _))
       have h14 := (hb5b.block (w3.heap.size + 1) (by simp)).trans (heap_new_at _ _ _ (by simp))
       have hz35 : w3.heap.size + 1 < w5.heap.size := by have := hb5b.size; simp at this; omega
       have h14' := (Below.heap_alloc w5 (.cells #[.slice ra l.length rc, .slice lo l.length lc] 178) _ (Array.getElem?_eq_some_iff.1 h14).1).trans h14
       obtain ⟨⟨y0, y1, y2⟩, -⟩ := box3 h14'
       have hn5 : ¬ (w3.heap.size + 1 = w5.heap.size) := by omega
       have H13 := Lib.hid h13
       have H14 := Lib.hid h14
       have HLV := Lib.hid (ownsRow_mono hlv (Nat.zero_le _))
       have HB5 := Lib.hid hb5
       have HB5b := Lib.hid hb5b
       clear h13 h14 h14' hlv hb5 hb5b)
    | (go_at_call 43
       refine (rwclone_any t (.slice oa t.ts.length cap) _ (HS.out.carry HB1.out HB1.out.size) hb).mono ?_
       rintro e w3 ⟨⟨u, su, he, hsu, hu, -⟩, hb3⟩
       obtain ⟨uo, uc, rfl⟩ := hsu.form
       rw [hu HTO.out] at he
       subst he
       dsimp only [tmv]
       have h5 := (hb3.block w.heap.size (by have := (Array.getElem?_eq_some_iff.1 H5.out).1; simpa using this)).trans H5.out
       have h5' := (Below.heap_alloc w3 (.cells #[.string t.nm, .bool t.vr, .slice uo t.ts.length uc, .slice none 0 0] 68) w.heap.size (Array.getElem?_eq_some_iff.1 h5).1).trans h5
       obtain ⟨⟨x0, x1, x2⟩, -⟩ := box3 h5
       obtain ⟨⟨z0, z1, z2⟩, -⟩ := box3 h5'
       have hz3 : w.heap.size + 2 < w3.heap.size := by have := hb3.size; have := (Array.getElem?_eq_some_iff.1 H9.out).1; simp at *; omega
       have hn3 : ¬ (w.heap.size = w3.heap.size) := by omega
       have hn3' : ¬ (w.heap.size = w3.heap.size + 1) := by omega
       have HB3 := Lib.hid (HB1.out.trans (hb3.mono HB1.out.size))
       have HB3b := Lib.hid hb3
       clear h5 h5' hb3 hu hsu)
    | (go_at_call 108
       refine (isStrategy_any k _).mono ?_
       rintro e w2 ⟨⟨b, rfl, hbk⟩, rfl⟩
       obtain rfl : b = true := hbk.2 HK.out
       clear hbk)
    | (go_at_call 39
       refine HCK.out.mono ?_
       rintro e w1 ⟨⟨c, rfl, hc⟩, hb1⟩
       obtain rfl : c = 0 := hc.2 ⟨HOK.out, HTO.out⟩
       have h5 := (hb1.block w.heap.size (by simp; omega)).trans ((Below.heap_alloc _ _ _ (by simp; omega)).trans ((Below.heap_alloc _ _ _ (by simp)).trans (World.alloc_heap_new w _)))
       have h8 := (hb1.block (w.heap.size + 1) (by simp)).trans ((Below.heap_alloc _ _ _ (by simp)).trans (heap_new_at _ _ (w.heap.size + 1) (by simp)))
       have h9 := (hb1.block (w.heap.size + 1 + 1) (by simp)).trans (heap_new_at _ _ (w.heap.size + 1 + 1) (by simp))
       obtain ⟨⟨x0, x1, x2⟩, -⟩ := box3 h5
       have HB1 := Lib.hid (HB0.out.trans (hb1.mono (by simp; omega)))
       have H5 := Lib.hid h5
       have H8 := Lib.hid h8
       have H9 := Lib.hid h9
       clear hb1 h5 h8 h9 hc HCK)))
  obtain ⟨w0, hw0⟩ : ∃ w0, w0 = w6.alloc (.cells #[.int .i64 i6, .slice po6 pn6 pc6] 36) := ⟨_, rfl⟩
  have hz6 := HB6.out.size
  simp only [World.size_alloc] at hz6
  have hb60 : Below w5.heap.size w5 w0 := by
    rw [hw0]
    exact (((Below.refl _ w5).alloc (Nat.le_refl _) _).trans (HB6.out.mono (by simp))).alloc (by omega) _
  have hz60 : w0.heap.size = w6.heap.size + 1 := by rw [hw0]; simp
  have hbw0 : Below w.heap.size w w0 := HB5.out.trans (hb60.mono HB5.out.size)
  have h15 : w0.heap[w5.heap.size]? = some (.cells #[.slice ra l.length rc, .slice lo l.length lc] 178 (0, 0)) := by
    rw [hw0]
    exact (Below.heap_alloc _ _ _ (by omega)).trans ((HB6.out.block _ (by simp)).trans (World.alloc_heap_new w5 _))
  have hb35 : Below w3.heap.size w3 w5 := ((((Below.refl _ w3).alloc (Nat.le_refl _) _).alloc (by simp) _).trans (HB5b.out.mono (by simp; omega)))
  have h8 := (hb60.block (w.heap.size + 1) (by omega)).trans ((hb35.block (w.heap.size + 1) (by omega)).trans ((HB3b.out.block _ (Array.getElem?_eq_some_iff.1 H8.out).1).trans H8.out))
  have h9 := (hb60.block (w.heap.size + 1 + 1) (by omega)).trans ((hb35.block (w.heap.size + 1 + 1) (by omega)).trans ((HB3b.out.block _ (Array.getElem?_eq_some_iff.1 H9.out).1).trans H9.out))
  have hM0 : NrM w.heap.size (w6.heap.size + 1) w3.heap.size (w3.heap.size + 1) w5.heap.size w w0 l (.slice ra l.length rc) (.slice lo l.length lc) t (.slice oa t.ts.length cap) 0 (.slice none 0 0) :=
    ⟨⟨_, _, _, (hb60.block _ (by omega)).trans H13.out, _, _, _, rfl⟩, (hb60.block _ (by omega)).trans H14.out, h15, h8, h9, ⟨[], World.ownsRow_nil _ _ _ _⟩, HS.out.toP.carry fun b hb' => ⟨hbw0.block b hb', ⟨.inl hb', fun e => nomatch e⟩, by omega⟩, row_kept HLV.out fun k e => hb60.block k (HLV.out.lt k e).2, hbw0, by omega⟩
  have huse := HF6.out.use HRUN.out
  have hB0 : NrB w0 w6.heap.size l k t us i6 po6 pn6 pc6 := by
    refine ⟨by rw [hw0]; exact World.alloc_heap_new w6 _, fun hr => ?_⟩
    obtain ⟨x, j, h1, h2, h3, h4, h5, h6⟩ := huse.2 hr
    exact ⟨x, j, h1, h2, h3, h4, by rw [hw0]; exact h5.alloc _, h6⟩
  obtain ⟨rfl, -⟩ := huse
  have HM0 := Lib.hid hM0
  have HNB0 := Lib.hid hB0
  have hc : w.heap.size + 2 < w3.heap.size ∧ w3.heap.size < w3.heap.size + 1 ∧ w3.heap.size + 1 < w5.heap.size ∧ w5.heap.size < w6.heap.size + 1 := by omega
  have hc1 : w5.heap.size < w6.heap.size := by omega
  have HBL0 := Lib.hid hbw0
  rw [← hw0]
  clear HF6 HB6 HB5 HB5b HB3 HB3b H13 H14 H5 H8 H9 hb60 h15 hb35 h8 h9 hM0 hB0 hw0 hz60 hbw0 hn3 hn3' hn5 hz35 hz3 hz6 HLV
  obtain ⟨i3, hi2, hi3, hi4, hi5⟩ := info_parts infoStep
  have I2 := Lib.hid hi2
  have I3 := Lib.hid hi3
  have I4 := Lib.hid hi4
  have I5 := Lib.hid hi5
  clear hi2 hi3 hi4 hi5
  clear x0 x1 x2 z0 z1 z2 y0 y1 y2
  go_loopg [17] us.length (fun n fv wr => ∃ (u : Tm) (rest : List Tm) (su st : Value) (si : Int) (po : Option Addr) (pn pc : Nat), n = rest.length ∧ fv = .bool (!rest.isEmpty) ∧ rest.length ≤ us.length ∧ Hid (NrM w.heap.size (w6.heap.size + 1) w3.heap.size (w3.heap.size + 1) w5.heap.size w wr l (.slice ra l.length rc) (.slice lo l.length lc) u su (us.length - rest.length) st) ∧ Hid (NRun l k u rest) ∧ Hid (lastT u rest = lastT t us) ∧ Hid u.ok ∧ Hid (NrB wr w6.heap.size l k u rest si po pn pc))
  case atStart => exact ⟨t, us, _, _, i6, po6, pn6, pc6, rfl, rfl, Nat.le_refl _, by rw [Nat.sub_self]; exact HM0, HRUN, Lib.hid rfl, HTO, HNB0⟩
  case round =>
    obtain ⟨u, rest, su, st, si, po, pn, pc, rfl, rfl, hrl, HM, HRN, HLT, HUO, HNB⟩ := hrel
    obtain ⟨cx, cy, cz, h13, cz1, cz2, cz3, rfl⟩ := HM.out.b13
    obtain ⟨so, sc, rfl⟩ := ownsRow_formS HM.out.row.choose_spec
    obtain ⟨uo, uc, rfl⟩ := HM.out.is.form
    obtain ⟨a0, a1, a2, a3⟩ := box4 h13
    obtain ⟨⟨b0, b1, b2⟩, f0, f1, f2⟩ := box3 HM.out.b14
    obtain ⟨⟨s0, s1⟩, g0, g1⟩ := box2g HNB.out.bx
    have hlz := HM.out.lz
    have hub := HUO.out.bulk
    cases rest with
    | nil =>
      have hlast : u = lastT t us := HLT.out
      have HLA := Lib.hid hlast
      simp only [List.isEmpty_nil, Bool.not_true, List.length_nil, Nat.sub_zero] at HM a3 ⊢
      have hx1 : ¬ (w3.heap.size = w.heap.size + 1) := by omega
      have hx2 : ¬ (w3.heap.size = w.heap.size + 1 + 1) := by omega
      have hx3 : ¬ (w3.heap.size + 1 = w.heap.size + 1) := by omega
      have hx4 : ¬ (w3.heap.size + 1 = w.heap.size + 1 + 1) := by omega
      have H13 := Lib.hid h13
      simp only [List.length_nil, Nat.sub_zero] at H13
      clear hlast h13 HRN HLT HNB s0 s1 g0 g1
      go_wp2_with fail
      go_region_held3 (fun w' => (w'.cell? ⟨w3.heap.size, 0, none⟩ = some (.string cx) ∧ w'.cell? ⟨w3.heap.size, 1, none⟩ = some (.bool cy) ∧ w'.cell? ⟨w3.heap.size, 2, none⟩ = some (.slice cz1 cz2 cz3) ∧ w'.cell? ⟨w3.heap.size, 3, none⟩ = some (.slice so us.length sc)) ∧ w'.cell? ⟨w3.heap.size + 1, 0, none⟩ = some (.string u.nm) ∧ w'.cell? ⟨w3.heap.size + 1, 1, none⟩ = some (.bool u.vr) ∧ w'.cell? ⟨w3.heap.size + 1, 2, none⟩ = some (.slice uo u.ts.length uc)) (first | (simp only [cell_four _ _ _ _ _ _ hx1, cell_four _ _ _ _ _ _ hx3, cell_three _ _ _ _ _ hx2, cell_three _ _ _ _ _ hx4]; refine ⟨⟨?_, ?_, ?_, ?_⟩, ?_, ?_, ?_⟩ <;> with_reducible assumption) | go_keep) ((first
        | (go_at_call 43
           refine (rwclone_any u (.slice uo u.ts.length uc) wr.drew ((HM.out.is.toIs (n := wr.drew.heap.size) fun b hb => hb.2).carry ((Below.refl _ wr).drew) (Nat.le_refl _)) (by omega)).mono ?_
           rintro e w7 ⟨⟨uu, su7, he, hsu7, hu7, -⟩, hb7⟩
           obtain ⟨uo7, uc7, rfl⟩ := hsu7.form
           have hsu8 := hsu7
           rw [hu7 HUO.out] at he hsu8
           subst he
           dsimp only [tmv]
           have hb77 : Below wr.heap.size wr w7 := ((Below.refl _ wr).drew).trans hb7
           have hm7 := HM.out.next (show w.heap.size ≤ w6.heap.size + 1 by omega) hb77
           obtain ⟨cx', cy', cz', h13, -⟩ := hm7.b13
           have h13' := (hb77.block _ (by omega)).trans H13.out
           obtain ⟨a0, a1, a2, a3⟩ := box4 h13'
           obtain ⟨⟨b0, b1, b2⟩, -⟩ := box3 hm7.b14
           obtain ⟨d0, d1, d2, d3⟩ := box4 hm7.r1
           obtain ⟨⟨e0, e1, e2⟩, k0, k1, k2⟩ := box3 hm7.r2
           have l0 : w7.frozen? ⟨w.heap.size + 1, 0, none⟩ = false := by simp [World.frozen?, hm7.r1]
           have l1 : w7.frozen? ⟨w.heap.size + 1, 1, none⟩ = false := by simp [World.frozen?, hm7.r1]
           have l2 : w7.frozen? ⟨w.heap.size + 1, 2, none⟩ = false := by simp [World.frozen?, hm7.r1]
           have l3 : w7.frozen? ⟨w.heap.size + 1, 3, none⟩ = false := by simp [World.frozen?, hm7.r1]
           have HM7 := Lib.hid hm7
           have HS8 := Lib.hid hsu8
           clear hb7 hb77 hm7 h13 h13' hsu7 hsu8 hu7)))
      have hlz7 := HM7.out.lz
      have hbx1 := box4_set HM7.out.r1 (.string cx) (.bool cy) (.slice cz1 cz2 cz3) (.slice so us.length sc)
      have ho2 : ∀ {j : Nat}, j ≠ w.heap.size + 1 → (set4 w7 (w.heap.size + 1) (.string cx) (.bool cy) (.slice cz1 cz2 cz3) (.slice so us.length sc)).heap[j]? = w7.heap[j]? := fun h => (setCell_other _ _ _ h).trans ((setCell_other _ _ _ h).trans ((setCell_other _ _ _ h).trans (setCell_other _ _ _ h)))
      have hbx2 := box3_set ((ho2 (show w.heap.size + 1 + 1 ≠ w.heap.size + 1 by omega)).trans HM7.out.r2) (.string u.nm) (.bool u.vr) (.slice uo7 u.ts.length uc7)
      have hbx3 := (heap_set3 (set4 w7 (w.heap.size + 1) (.string cx) (.bool cy) (.slice cz1 cz2 cz3) (.slice so us.length sc)) (w.heap.size + 1 + 1) (w.heap.size + 1) (.string u.nm) (.bool u.vr) (.slice uo7 u.ts.length uc7) (by omega)).trans hbx1
      obtain ⟨p0, p1, p2, p3⟩ := box4 hbx3
      obtain ⟨⟨q0, q1, q2⟩, -⟩ := box3 hbx2
      unfold set4 at p0 p1 p2 p3 q0 q1 q2
      have hbl := below_set3 ((Below.setCell (p := ⟨w.heap.size + 1, 3, none⟩) (Below.setCell (p := ⟨w.heap.size + 1, 2, none⟩) (Below.setCell (p := ⟨w.heap.size + 1, 1, none⟩) (Below.setCell (p := ⟨w.heap.size + 1, 0, none⟩) HM7.out.bl (show w.heap.size ≤ w.heap.size + 1 by omega) (.string cx)) (show w.heap.size ≤ w.heap.size + 1 by omega) (.bool cy)) (show w.heap.size ≤ w.heap.size + 1 by omega) (.slice cz1 cz2 cz3)) (show w.heap.size ≤ w.heap.size + 1 by omega) (.slice so us.length sc))) (b := w.heap.size + 1 + 1) (by omega) (.string u.nm) (.bool u.vr) (.slice uo7 u.ts.length uc7)
      have HBLE := Lib.hid hbl
      have hbd : ∀ b, (wr.drew.heap.size ≤ b ∧ b < w7.heap.size) → w.heap.size + 1 + 1 < b := fun b hb => by
        have h1 : wr.heap.size ≤ b := hb.1
        omega
      have HSE := Lib.hid ((HS8.out.carry (q := fun b => b < w7.heap.size) fun b hb => ⟨(heap_set3 (set4 w7 (w.heap.size + 1) (.string cx) (.bool cy) (.slice cz1 cz2 cz3) (.slice so us.length sc)) (w.heap.size + 1 + 1) b (.string u.nm) (.bool u.vr) (.slice uo7 u.ts.length uc7) (Nat.ne_of_gt (hbd b hb))).trans (ho2 (Nat.ne_of_gt (Nat.lt_of_succ_lt (hbd b hb)))), hb.2⟩).toIs fun b hb => hb)
      rename_i hheld
      clear hheld hbl ho2 hbd hbx1 hbx2 hbx3 a0 a1 a2 a3 b0 b1 b2 f0 f1 f2 d0 d1 d2 d3 e0 e1 e2 k0 k1 k2 l0 l1 l2 l3 hx1 hx2 hx3 hx4
      go_wp2_with fail
      refine bodyPost_ret (v := .tuple #[.agg #[.string cx, .bool cy, .slice cz1 cz2 cz3, .slice so us.length sc], .agg #[.string u.nm, .bool u.vr, .slice uo7 u.ts.length uc7], .bool true, .int .i64 0]) (by simp [results, Tryz.f47, go_sem, p0, p1, p2, p3, q0, q1, q2]) rfl ⟨⟨cx, cy, cz1, cz2, cz3, so, sc, .slice uo7 u.ts.length uc7, by rw [← HLA.out], ?_⟩, HBLE.out⟩
      rw [← HLA.out]
      have := HSE.out
      simpa [World.setCell] using this
    | cons u' rest =>
      simp only [List.isEmpty_cons, Bool.not_false, List.length_cons] at hrl ⊢
      obtain ⟨n, hn⟩ : ∃ n, n = us.length - (u' :: rest).length := ⟨_, rfl⟩
      rw [← hn] at HM a3
      simp only [List.length_cons] at hn
      have hlt : decide ((n : Int) < most) = true := by rw [decide_eq_true_iff]; omega
      have HN := Lib.hid hn
      have hn4 : n + 1 ≤ 4096 := by omega
      obtain ⟨⟨x, j, m, hx, hj, hpf, hgd⟩, huo', hrn'⟩ := HRN.out
      obtain ⟨x', j', k1, k2, rfl, rfl, k5, k6⟩ := HNB.out.hd (by simp)
      rw [hx] at k1
      obtain rfl := Option.some.inj k1
      rw [hj] at k2
      obtain rfl := Option.some.inj k2
      have hba : Below wr.heap.size wr (wr.alloc (.cells #[.int .i64 (j : Int), .slice po x.1.length pc] 36)) := by go_grown
      have HMa := Lib.hid (HM.out.next (show w.heap.size ≤ (w6.heap.size + 1) by omega) hba)
      have HNa := Lib.hid (HNB.out.next hba)
      have HSTP : Hid (StpsIs (wr.alloc (.cells #[.int .i64 (j : Int), .slice po x.1.length pc] 36)).heap.size (wr.alloc (.cells #[.int .i64 (j : Int), .slice po x.1.length pc] 36)) [((j : Int), x.1)] (.slice (some ⟨wr.heap.size, 0, none⟩) 1 1)) := Lib.hid (by
        refine ⟨_, 1, rfl, Nat.le_refl _, fun _ => ⟨wr.heap.size, 0, rfl, by simp, fun i p hp => ?_⟩⟩
        obtain ⟨⟨q0, q1⟩, -⟩ := box2g (heap_new_at wr (.cells #[.int .i64 (j : Int), .slice po x.1.length pc] 36) _ rfl)
        cases i with
        | succ i => cases hp
        | zero =>
          cases hp
          exact ⟨_, q0, q1, PosC.ofRow (k5.alloc _), k6⟩)
      have HPF := Lib.hid hpf
      have HGD := Lib.hid hgd
      have HUO' := Lib.hid huo'
      have HRN' := Lib.hid hrn'
      have HISA := Lib.hid (HM.out.is.carry (q := fun b => ((b < w.heap.size ∨ (w6.heap.size + 1) ≤ b) ∧ (Value.slice so n sc).ownBlock ≠ some b) ∧ b < wr.heap.size) fun b hb => ⟨hba.block b hb.2, hb⟩)
      have hub' := huo'.bulk
      have hud' : u'.depth ≤ 1048576 := by have := huo'.2.2; omega
      clear hx hj hpf hgd huo' hrn' k1 k2 k5 k6 hba h13 hn
      go_wp2_with ((first
        | (go_at_call 112
           refine (first_any l (.slice ra l.length rc) (.slice lo l.length lc) u' (.slice uo' u'.ts.length uc') k _ (HM9.out.is.toIs fun b hb => hb.2) (HR.out.carry HM9.out.bl HM9.out.bl.size) HM9.out.lrow hl HLO.out HUO'.out (by omega) hud').mono ?_
           rintro e w10 ⟨hf10, hb10⟩
           obtain ⟨i10, po10, pn10, pc10, b10, rfl, -⟩ := hf10.form
           have hbx10 := (hb10.block _ (Array.getElem?_eq_some_iff.1 HBX9.out).1).trans HBX9.out
           obtain ⟨⟨s0, s1⟩, g0, g1⟩ := box2g hbx10
           have HM10 := Lib.hid (HM9.out.next (show w.heap.size ≤ (w6.heap.size + 1) by omega) hb10)
           have HBX10 := Lib.hid hbx10
           have HF10 := Lib.hid hf10
           clear hf10 hb10 hbx10)
        | (at_builtin
           refine wpList_append_own_at _ rfl _ _ 26 rfl (w6.heap.size + 1) 36 i3 (.agg #[.int .i64 0, .slice none 0 0]) 2 32 Tryz.underlying26 I2.out I3.out I4.out I5.out rfl (by decide) _ _ HMA.out.row.choose rfl HMA.out.row.choose_spec ⟨w7.heap.size + 1, 0, none⟩ 1 1 [.int .i64 (j : Int), .slice po x.1.length pc] rfl rfl HCL.out (by simp [Value.oneCell']) (by unfold maxLen; omega) (by omega) HMA.out.lz ?_
           intro v8 w8 ho8 hg8 _ hat8
           obtain ⟨vo, vc, rfl⟩ := ownsRow_formS ho8
           have hg8' : ((w7.alloc (.cells #[.string u'.nm, .bool u'.vr, .slice uo' u'.ts.length uc'] 25)).alloc (.cells #[.int .i64 (j : Int), .slice po x.1.length pc] 36)).grownBy w8 (Value.slice so n sc).ownBlock := hg8
           have hat8' : (Value.slice vo (n + 1) vc).ownBlock = (Value.slice so n sc).ownBlock ∨ (Value.slice vo (n + 1) vc).ownBlock = some ((w7.alloc (.cells #[.string u'.nm, .bool u'.vr, .slice uo' u'.ts.length uc'] 25)).alloc (.cells #[.int .i64 (j : Int), .slice po x.1.length pc] 36)).heap.size := hat8
           have hm9 := NrM.turn HMA.out hc HSA.out ⟨_, ho8⟩ hg8' hat8'
           obtain ⟨cx, cy, cz, h13, czz⟩ := HMA.out.b13
           have hrs := HMA.out.row.choose_spec
           have hlA := HMA.out.lz
           have up : ∀ {k : Nat} {o : Obj}, ((w7.alloc (.cells #[.string u'.nm, .bool u'.vr, .slice uo' u'.ts.length uc'] 25)).alloc (.cells #[.int .i64 (j : Int), .slice po x.1.length pc] 36)).heap[k]? = some o → (Value.slice so n sc).ownBlock ≠ some k → w8.heap[k]? = some o := fun hk hne => (hg8'.block _ (Array.getElem?_eq_some_iff.1 hk).1 (fun e => hne e.symm)).trans hk
           have h13w := up h13 (row_not h13 (by decide) hrs)
           have h14w := up HMA.out.b14 (row_not HMA.out.b14 (by decide) hrs)
           have h18w := up HT18.out (row_not HT18.out (by decide) hrs)
           have h16w := up HNA.out.bx (fun e => by have := (hrs.lt _ e).1; omega)
           obtain ⟨a0, a1, a2, a3⟩ := box4 h13w
           have a4 : w8.frozen? ⟨w3.heap.size, 3, none⟩ = false := by simp [World.frozen?, h13w]
           have h14s := (setCell_other w8 ⟨w3.heap.size, 3, none⟩ (.slice vo (n + 1) vc) (show w3.heap.size + 1 ≠ w3.heap.size by omega)).trans h14w
           have h18s := (setCell_other w8 ⟨w3.heap.size, 3, none⟩ (.slice vo (n + 1) vc) (show w7.heap.size ≠ w3.heap.size by omega)).trans h18w
           obtain ⟨⟨b0, b1, b2⟩, f0, f1, f2⟩ := box3 h14s
           obtain ⟨⟨t0, t1, t2⟩, -⟩ := box3 h18s
           obtain ⟨⟨t3, t4, t5⟩, -⟩ := box3 h18w
           obtain ⟨⟨b3, b4, b5⟩, f3, f4, f5⟩ := box3 h14w
           obtain ⟨⟨e3, e4⟩, -⟩ := box2g (up HMA.out.b15 (row_not HMA.out.b15 (by decide) hrs))
           have HBX9 : Hid ((stW w8 w3.heap.size (w3.heap.size + 1) (.slice vo (n + 1) vc) u' (.slice uo' u'.ts.length uc')).heap[w6.heap.size]? = some (.cells #[.int .i64 (j : Int), .slice po x.1.length pc] 36 (0, 0))) := Lib.hid ((stW_other _ _ _ _ _ _ (by omega) (by omega)).trans h16w)
           obtain ⟨⟨d0, d1, d2⟩, -⟩ := box3 hm9.b14
           obtain ⟨⟨e0, e1⟩, -⟩ := box2g hm9.b15
           have HM9 := Lib.hid hm9
           clear ho8 hg8 hg8' hat8 hat8' hm9 h13 czz hrs up h13w h14w h18w h16w h14s h18s)
        | (go_at_call 42
           refine (perform_p (fun b => ((b < w.heap.size ∨ (w6.heap.size + 1) ≤ b) ∧ (Value.slice so n sc).ownBlock ≠ some b) ∧ b < wr.heap.size) l (.slice ra l.length rc) u (.slice uo u.ts.length uc) [((j : Int), x.1)] (.slice (some ⟨wr.heap.size, 0, none⟩) 1 1) _ (HR.out.carry HMa.out.bl HMa.out.bl.size) (fun b hb => by have := hb.2; simp; omega) HISA.out HSTP.out HOK.out HUO.out HLB.out (by simp) HGD.out).mono ?_
           rintro e w7 ⟨hp7, hb7⟩
           rw [HPF.out] at hp7
           obtain ⟨-, sr, rfl, hsr⟩ := hp7.resolve_right (fun h => h.1 HUO'.out)
           obtain ⟨uo', uc', rfl⟩ := hsr.form
           dsimp only [tmv]
           have hm7 := HMa.out.next (show w.heap.size ≤ (w6.heap.size + 1) by omega) hb7
           have hn7 := HNa.out.next hb7
           have hz7 := hb7.size
           simp only [World.size_alloc] at hz7
           have hbA : Below w7.heap.size w7 ((w7.alloc (.cells #[.string u'.nm, .bool u'.vr, .slice uo' u'.ts.length uc'] 25)).alloc (.cells #[.int .i64 (j : Int), .slice po x.1.length pc] 36)) := by go_grown
           have hbA1 : Below w7.heap.size w7 (w7.alloc (.cells #[.string u'.nm, .bool u'.vr, .slice uo' u'.ts.length uc'] 25)) := by go_grown
           have hm71 := hm7.next (show w.heap.size ≤ (w6.heap.size + 1) by omega) hbA1
           have hn71 := hn7.next hbA1
           obtain ⟨cx, cy, cz, h13, -⟩ := hm71.b13
           obtain ⟨a0, a1, a2, a3⟩ := box4 h13
           obtain ⟨⟨s0, s1⟩, -⟩ := box2g hn71.bx
           have HMA := Lib.hid (hm7.next (show w.heap.size ≤ (w6.heap.size + 1) by omega) hbA)
           have HNA := Lib.hid (hn7.next hbA)
           have HSA := Lib.hid (hsr.carry (q := fun b => ((b < w.heap.size ∨ (w6.heap.size + 1) ≤ b) ∧ (Value.slice so n sc).ownBlock ≠ some b) ∧ b < ((w7.alloc (.cells #[.string u'.nm, .bool u'.vr, .slice uo' u'.ts.length uc'] 25)).alloc (.cells #[.int .i64 (j : Int), .slice po x.1.length pc] 36)).heap.size) fun b hb => ⟨hbA.block b hb.2, by
             have hb2 := hb.2
             rcases hb.1 with h1 | h1
             · exact ⟨h1.1, by simp; omega⟩
             · simp only [World.size_alloc] at h1
               refine ⟨⟨.inr (by omega), fun e => ?_⟩, by simp; omega⟩
               have := (HM.out.row.choose_spec.lt b e).2
               omega⟩)
           have HT18 : Hid (((w7.alloc (.cells #[.string u'.nm, .bool u'.vr, .slice uo' u'.ts.length uc'] 25)).alloc (.cells #[.int .i64 (j : Int), .slice po x.1.length pc] 36)).heap[w7.heap.size]? = some (.cells #[.string u'.nm, .bool u'.vr, .slice uo' u'.ts.length uc'] 25 (0, 0))) := Lib.hid ((Below.heap_alloc _ _ _ (by simp)).trans (World.alloc_heap_new w7 _))
           have HCL : Hid (∀ (i : Nat) v, [Value.int .i64 (j : Int), .slice po x.1.length pc][i]? = some v → ((w7.alloc (.cells #[.string u'.nm, .bool u'.vr, .slice uo' u'.ts.length uc'] 25)).alloc (.cells #[.int .i64 (j : Int), .slice po x.1.length pc] 36)).cell? ((⟨w7.heap.size + 1, 0, none⟩ : Addr).add i) = some v) := Lib.hid (by
             intro i v hv
             obtain ⟨⟨q0, q1⟩, -⟩ := box2g (heap_new_at (w7.alloc (.cells #[.string u'.nm, .bool u'.vr, .slice uo' u'.ts.length uc'] 25)) (.cells #[.int .i64 (j : Int), .slice po x.1.length pc] 36) (w7.heap.size + 1) (by simp))
             match i with
             | 0 => cases hv; exact q0
             | 1 => cases hv; exact q1
             | i + 2 => cases hv)
           clear hp7 hb7 hsr hm7 hn7 hbA hbA1 hm71 hn71 h13)))
      obtain ⟨rfl, hd10⟩ := HF10.out.use HRN'.out
      have hnn : us.length - rest.length = n + 1 := by have := HN.out; omega
      have hb16 := cell_set_same (cell_set_same HBX10.out 0 (.int .i64 i10)) 1 (.slice po10 pn10 pc10)
      have hbx16 : ((w10.setCell ⟨w6.heap.size, 0, none⟩ (.int .i64 i10)).setCell ⟨w6.heap.size, 1, none⟩ (.slice po10 pn10 pc10)).heap[w6.heap.size]? = some (.cells #[.int .i64 i10, .slice po10 pn10 pc10] 36 (0, 0)) := by simpa using hb16
      go_roundg rest.length
      case measure => simp
      case rel =>
        refine ⟨u', rest, _, _, i10, po10, pn10, pc10, rfl, rfl, by omega, by rw [hnn]; exact Lib.hid (HM10.out.box hc ⟨hc1, by omega⟩ HBX10.out _ _), HRN', HLT, HUO', Lib.hid ⟨hbx16, fun hr => ?_⟩⟩
        obtain ⟨x2, j2, q1, q2, q3, q4, q5, q6⟩ := hd10 hr
        exact ⟨x2, j2, q1, q2, q3, q4, row_kept q5 fun k e => (setCell_other _ _ _ (fun e2 => row_not HBX10.out (by decide) q5 (e.trans (congrArg some e2)))).trans (setCell_other _ _ _ (fun e2 => row_not HBX10.out (by decide) q5 (e.trans (congrArg some e2)))), q6⟩
end Go.Proofs.YtamddagmlanijaaGreat
/- SamePos and SameSteps: steps compared. -/
namespace Go.Proofs.YtamddagmlanijaaGreat
open Go.RowKit

set_option maxRecDepth 100000 in
set_option maxHeartbeats 1000000 in
theorem sameSteps_any (a b : List Stp) (va vb : Value) (w : World) (n₀ : Nat) (ha : StpsIs n₀ w a va) (hb : StpsIs n₀ w b vb) (hla : a.length ≤ 1048576) (hlb : b.length ≤ 1048576) :
    Calls Tryz.prog 48 #[va, vb] w fun e w' => e = .returned (.bool (decide (a = b))) ∧ ∃ m, w' = w.drewN m := by
  obtain ⟨oa, ca, rfl, -⟩ := id ha
  obtain ⟨ob, cb, rfl, -⟩ := id hb
  have HA := Lib.hid ha
  have HB := Lib.hid hb
  clear ha hb
  by_cases hlen : a.length = b.length
  · have hne : ((a.length : Int) != (b.length : Int)) = false := by rw [bne_eq_false_iff_eq]; omega
    have HLEN := Lib.hid hlen
    go_enter Tryz.func48, Tryz.ntmps48
    go_wp2_with fail
    go_loopw [13] (fun i wr => ∃ (j m : Nat), j ≤ a.length ∧ i = .int .i64 j ∧ wr = w.drewN m ∧ Hid (∀ k, k < j → a[k]? = b[k]?)) (fun i _ => a.length - (intOf i).toNat)
    case atStart => exact ⟨0, 0, by omega, rfl, rfl, Lib.hid (fun k h => absurd h (by omega))⟩
    case round =>
      obtain ⟨j, m, hj, rfl, hwr, HE⟩ := hrel
      have HW := Lib.hid hwr
      by_cases hlt : j < a.length
      · have hltb : j < b.length := by omega
        have hbw : Below n₀ w wr := by rw [hwr]; exact below_drewN m (Below.refl _ _)
        obtain ⟨b1, o1, x, v1, c1, rfl, hn1, hx, h10, h11, hv1, hl1⟩ := (HA.out.carry hbw (Nat.le_refl _)).get hlt
        obtain ⟨b2, o2, y, v2, c2, rfl, hn2, hy, h20, h21, hv2, hl2⟩ := (HB.out.carry hbw (Nat.le_refl _)).get hltb
        have HSP : Hid (∀ (r : Bool) n, r = decide (x.2 = y.2) → Calls Tryz.prog 113 #[.slice v1 x.2.length c1, .slice v2 y.2.length c2] (wr.drewN n) fun e w' => e = .returned (.bool r) ∧ ∃ k, w' = (wr.drewN n).drewN k) := Lib.hid (by
          rintro r n rfl
          exact samePos_any x.2 y.2 _ _ _ n₀ (hv1.1.carry (below_drewN n (Below.refl n₀ wr)) (Nat.le_refl _)) (hv2.1.carry (below_drewN n (Below.refl n₀ wr)) (Nat.le_refl _)) hl1 hl2)
        have HX := Lib.hid hx
        have HY := Lib.hid hy
        clear hx hy hv1 hv2 hwr hbw
        by_cases hr : x.1 = y.1
        case neg =>
          have hbb : (x.1 != y.1) = true := by rw [bne_iff_ne]; exact hr
          have HAB : Hid (decide (a = b) = false) := Lib.hid (by rw [decide_eq_false_iff_not]; rintro rfl; have h3 := HX.out; rw [HY.out] at h3; cases h3; exact hr rfl)
          clear hr
          go_wp2_with fail
          go_quiet (fail)
          go_wp2_with fail
          go_ret
          refine ⟨by rw [HAB.out]; rfl, ?_⟩
          exact ⟨m + nq, by rw [HW.out, World.drewN_drewN]⟩
        have hbb : (x.1 != y.1) = false := by rw [bne_eq_false_iff_eq]; exact hr
        have HRR := Lib.hid hr
        clear hr
        by_cases hxy : x.2 = y.2
        · have HXY := Lib.hid hxy
          have HDEC : Hid (true = decide (x.2 = y.2)) := Lib.hid (by rw [eq_comm, decide_eq_true_iff]; exact hxy)
          clear hxy
          go_wp2_with fail
          go_quiet ((go_at_call 113; exact Calls.quiet_of (HSP.out true _ HDEC.out)))
          go_wp2_with fail
          exact ⟨⟨j + 1, _, by omega, by go_num, by rw [HW.out, World.drewN_drewN], Lib.hid (fun k hk => by
            by_cases e : k = j
            · subst e; rw [HX.out, HY.out, Prod.ext HRR.out HXY.out]
            · exact HE.out k (by omega))⟩, by simp [intOf]; omega⟩
        · have HDEC : Hid (false = decide (x.2 = y.2)) := Lib.hid (by rw [eq_comm, decide_eq_false_iff_not]; exact hxy)
          have HAB : Hid (decide (a = b) = false) := Lib.hid (by rw [decide_eq_false_iff_not]; rintro rfl; have h3 := HX.out; rw [HY.out] at h3; cases h3; exact hxy rfl)
          clear hxy
          go_wp2_with fail
          go_quiet ((go_at_call 113; exact Calls.quiet_of (HSP.out false _ HDEC.out)))
          go_wp2_with fail
          go_ret
          refine ⟨by rw [HAB.out]; rfl, ?_⟩
          exact ⟨m + nq, by rw [HW.out, World.drewN_drewN]⟩
      · have HAB : Hid (decide (a = b) = true) := Lib.hid (by
          rw [decide_eq_true_iff]
          apply List.ext_getElem?
          intro k
          by_cases hk : k < a.length
          · exact HE.out k (by omega)
          · rw [List.getElem?_eq_none (by omega), List.getElem?_eq_none (by omega)])
        clear hwr
        go_wp2_with fail
        go_ret
        refine ⟨by rw [HAB.out]; rfl, ?_⟩
        exact ⟨m, HW.out⟩
  · have hne : ((a.length : Int) != (b.length : Int)) = true := by rw [bne_iff_ne]; omega
    have HAB : Hid (decide (a = b) = false) := Lib.hid (by rw [decide_eq_false_iff_not]; rintro rfl; exact hlen rfl)
    go_enter Tryz.func48, Tryz.ntmps48
    go_wp2_with fail
    go_ret
    exact ⟨by rw [HAB.out]; rfl, 0, rfl⟩
end Go.Proofs.YtamddagmlanijaaGreat
