/- Packed: Stp. -/
import Derived.WalkKit
import Derived.ProofKit
import Derived.OpenShut
import Derived.Handy
import Derived.Lib.Hide
import Derived.Maps.AppendAt
import Derived.WalkSmall
import Derived.Test.YtamddagmlanijaaGreatP23
import Derived.Test.YtamddagmlanijaaGreatP17
/- redex.steps: the steps of a redex, in new memory. -/
namespace Go.Proofs.YtamddagmlanijaaGreat
open Go.RowKit

def stepsOf (x : Rdx) : List Stp := x.2.map fun (i : Nat) => ((i : Int), x.1)
theorem stepsOf_length (x : Rdx) : (stepsOf x).length = x.2.length := by simp [stepsOf]
/-- the cells of a row of steps -/
def scs : List Stp → List Value → List Value
  | s :: l, h :: hs => .int .i64 s.1 :: h :: scs l hs
  | _, _ => []
theorem scs_append {a b : List Stp} {x y : List Value} (h : x.length = a.length) : scs (a ++ b) (x ++ y) = scs a x ++ scs b y := by
  induction a generalizing x with
  | nil => obtain rfl := List.eq_nil_of_length_eq_zero h; cases b <;> rfl
  | cons s a ih =>
    cases x with
    | nil => cases h
    | cons v x => simp only [List.cons_append, scs, ih (by simpa using h)]
theorem scs_length {a : List Stp} {x : List Value} (h : x.length = a.length) : (scs a x).length = a.length * 2 := by
  induction a generalizing x with
  | nil => cases x <;> rfl
  | cons s a ih =>
    cases x with
    | nil => cases h
    | cons v x => simp only [scs, List.length_cons, ih (by simpa using h)]; omega
theorem scs_at {a : List Stp} {x : List Value} (h : x.length = a.length) {i : Nat} {s : Stp} {v : Value} (hs : a[i]? = some s) (hv : x[i]? = some v) : (scs a x)[i * 2]? = some (.int .i64 s.1) ∧ (scs a x)[i * 2 + 1]? = some v := by
  induction a generalizing x i with
  | nil => simp at hs
  | cons t a ih =>
    cases x with
    | nil => cases h
    | cons u x =>
      cases i with
      | zero => simp at hs hv; subst hs; subst hv; exact ⟨rfl, rfl⟩
      | succ i =>
        obtain ⟨h1, h2⟩ := ih (x := x) (by simpa using h) (i := i) (by simpa using hs) (by simpa using hv)
        refine ⟨?_, ?_⟩
        · rw [show (i + 1) * 2 = i * 2 + 1 + 1 by omega]; simpa [scs] using h1
        · rw [show (i + 1) * 2 + 1 = i * 2 + 1 + 1 + 1 by omega]; simpa [scs] using h2
theorem row_keptS {A B : World} {m n s : Nat} {e : TypeId} {v : Value} {xs : List Value} (ho : A.ownsRow m e s v n xs) (hb : ∀ k, v.ownBlock = some k → B.heap[k]? = A.heap[k]?) : B.ownsRow m e s v n xs := by
  refine ⟨ho.1, ?_⟩
  rcases ho.2 with hn | ⟨g, cap, cur, rfl, hbg, hg, rest⟩
  · exact .inl hn
  · exact .inr ⟨g, cap, cur, rfl, hbg, (hb g rfl).trans hg, rest⟩
theorem row_not {W : World} {b : Nat} {ty : TypeId} {v : Value} {c : Array Value} {fr : Nat × Nat} (h : W.heap[b]? = some (.cells c ty fr)) {e : TypeId} (hty : ty ≠ e) {m n s : Nat} {xs : List Value} (hr : W.ownsRow m e s v n xs) : v.ownBlock ≠ some b := by
  intro h2
  rcases hr.2 with ⟨rfl, _⟩ | ⟨g, cap, cur, rfl, _, hg, _⟩
  · cases h2
  · cases h2
    rw [h] at hg
    simp only [Option.some.injEq, Obj.cells.injEq] at hg
    exact hty hg.2.1
theorem ownsRow_formS {W : World} {m n s : Nat} {e : TypeId} {v : Value} {xs : List Value} (h : W.ownsRow m e s v n xs) : ∃ oa cap, v = .slice oa n cap := by
  rcases h.2 with ⟨rfl, rfl⟩ | ⟨g, cap, cur, rfl, _⟩ <;> exact ⟨_, _, rfl⟩
/-- steps in memory of one's own -/
def StOwn (m : Nat) (W : World) (l : List Stp) (v : Value) : Prop :=
  ∃ hs : List Value, hs.length = l.length ∧ W.ownsRow m 36 2 v l.length (scs l hs) ∧ ∀ (i : Nat) s h, l[i]? = some s → hs[i]? = some h → W.ownsRow m 3 1 h s.2.length (ints s.2) ∧ s.2.length ≤ 1048576
theorem StOwn.nil (m : Nat) (W : World) : StOwn m W [] (.slice none 0 0) := ⟨[], rfl, World.ownsRow_nil _ _ _ _, fun i s h e => by simp at e⟩
theorem StOwn.form {m : Nat} {W : World} {l : List Stp} {v : Value} (h : StOwn m W l v) : ∃ oa cap, v = .slice oa l.length cap := by
  obtain ⟨hs, h1, h2, h3⟩ := h
  exact ownsRow_formS h2
theorem StOwn.below {m : Nat} {A B : World} {l : List Stp} {v : Value} (h : StOwn m A l v) (hb : Below A.heap.size A B) : StOwn m B l v := by
  obtain ⟨hs, h1, h2, h3⟩ := h
  exact ⟨hs, h1, row_keptS h2 fun k e => hb.block k (h2.lt k e).2, fun i s h e1 e2 => ⟨row_kept (h3 i s h e1 e2).1 fun k e => hb.block k ((h3 i s h e1 e2).1.lt k e).2, (h3 i s h e1 e2).2⟩⟩
theorem StOwn.mono {m m' : Nat} {W : World} {l : List Stp} {v : Value} (h : StOwn m W l v) (hm : m' ≤ m) : StOwn m' W l v := by
  obtain ⟨hs, h1, h2, h3⟩ := h
  exact ⟨hs, h1, ownsRow_mono h2 hm, fun i s h e1 e2 => ⟨ownsRow_mono (h3 i s h e1 e2).1 hm, (h3 i s h e1 e2).2⟩⟩
theorem StOwn.is {m : Nat} {W : World} {l : List Stp} {v : Value} (h : StOwn m W l v) : StpsIs W.heap.size W l v := by
  obtain ⟨hs, h1, h2, h3⟩ := h
  rcases h2.2 with ⟨rfl, hl⟩ | ⟨g, cap, cur, rfl, hb, hg, hle, -⟩
  · exact ⟨none, 0, by rw [hl], by omega, fun hne => absurd (List.eq_nil_of_length_eq_zero hl) hne⟩
  · refine ⟨_, cap, rfl, hle, fun _ => ⟨g, 0, rfl, (Array.getElem?_eq_some_iff.1 hg).1, fun i p hp => ?_⟩⟩
    have hil := (List.getElem?_eq_some_iff.1 hp).1
    obtain ⟨h, hh⟩ : ∃ h, hs[i]? = some h := ⟨_, List.getElem?_eq_getElem (by omega)⟩
    obtain ⟨c0, c1⟩ := scs_at h1 hp hh
    have k0 := h2.cells (g := g) rfl _ _ c0
    have k1 := h2.cells (g := g) rfl _ _ c1
    obtain ⟨p1, p2⟩ := h3 i p h hp hh
    refine ⟨h, ?_, ?_, PosC.ofRow p1, p2⟩
    · have e : (⟨g, 0, none⟩ : Addr).add (i * 2) = ⟨g, i * 2, none⟩ := by unfold Addr.add; split <;> simp_all
      rw [e] at k0; simpa using k0
    · have e : (⟨g, 0, none⟩ : Addr).add (i * 2 + 1) = ⟨g, i * 2 + 1, none⟩ := by unfold Addr.add; split <;> simp_all
      rw [e] at k1; simpa using k1
/-- behind an append onto the row -/
theorem StOwn.snoc {m : Nat} {A B : World} {l l2 : List Stp} {v v' : Value} {hs hs2 : List Value} (h1 : hs.length = l.length) (h2 : A.ownsRow m 36 2 v l.length (scs l hs)) (h3 : ∀ (i : Nat) s h, l[i]? = some s → hs[i]? = some h → A.ownsRow m 3 1 h s.2.length (ints s.2) ∧ s.2.length ≤ 1048576)
    (k1 : hs2.length = l2.length) (k3 : ∀ (i : Nat) s h, l2[i]? = some s → hs2[i]? = some h → A.ownsRow m 3 1 h s.2.length (ints s.2) ∧ s.2.length ≤ 1048576)
    (ho : B.ownsRow m 36 2 v' (l.length + l2.length) (scs l hs ++ scs l2 hs2)) (hg : A.grownBy B v.ownBlock) : StOwn m B (l ++ l2) v' := by
  have keep : ∀ (h : Value) (s : Stp), A.ownsRow m 3 1 h s.2.length (ints s.2) → B.ownsRow m 3 1 h s.2.length (ints s.2) := fun h s ho => ho.kept hg (ownsRow_apart ho h2 (by decide))
  refine ⟨hs ++ hs2, by simp [h1, k1], by rw [scs_append h1, List.length_append]; exact ho, fun i s h e1 e2 => ?_⟩
  by_cases hi : i < l.length
  · rw [List.getElem?_append_left hi] at e1
    rw [List.getElem?_append_left (by omega)] at e2
    exact ⟨keep h s (h3 i s h e1 e2).1, (h3 i s h e1 e2).2⟩
  · rw [List.getElem?_append_right (by omega)] at e1 e2
    rw [h1] at e2
    exact ⟨keep h s (k3 _ s h e1 e2).1, (k3 _ s h e1 e2).2⟩
theorem infoStep : (Tryz.prog.info? 36).map (fun i => (i.zero, i.size, i.bytes)) = some (some (.agg #[.int .i64 0, .slice none 0 0]), 2, 32) := by kernel_rfl

set_option maxRecDepth 100000 in
set_option maxHeartbeats 4000000 in
theorem steps_any (m : Nat) (x : Rdx) (pv rv : Value) (w : World) (hp : w.ownsRow m 3 1 pv x.1.length (ints x.1)) (hr : w.ownsRow m 3 1 rv x.2.length (nats x.2)) (hpl : x.1.length ≤ 1048576) (hrl : x.2.length ≤ 1048576) :
    Calls Tryz.prog 111 #[.agg #[pv, rv]] w fun e w' => (∃ v, e = .returned v ∧ StOwn w.heap.size w' (stepsOf x) v) ∧ Below w.heap.size w w' := by
  obtain ⟨po, pc, rfl, -⟩ := ownsRow_formP hp
  obtain ⟨ro, rc, rfl, hro⟩ := ownsRow_formP hr
  obtain ⟨i3, hi2, hz2, hs2, hb2⟩ := info_parts infoStep
  have H2 := Lib.hid hi2
  have H3 := Lib.hid hz2
  have H4 := Lib.hid hs2
  have H5 := Lib.hid hb2
  have HP := Lib.hid hp
  have HR := Lib.hid hr
  clear hi2 hz2 hs2 hb2 hp hr
  go_enter Tryz.func111, Tryz.ntmps111
  go_wp2_with fail
  have hB0 : Below w.heap.size w (w.alloc (.cells #[.slice po x.1.length pc, .slice ro x.2.length rc] 182)) := by go_grown
  have HB0 := Lib.hid hB0
  clear hB0
  go_loopw [3, 9] (fun v i wr => ∃ k : Nat, k ≤ x.2.length ∧ i = .int .i64 k ∧ Hid (StOwn w.heap.size wr ((stepsOf x).take k) v) ∧ Hid (Below w.heap.size w wr) ∧ Hid (wr.heap[w.heap.size]? = some (.cells #[.slice po x.1.length pc, .slice ro x.2.length rc] 182 (0, 0)))) (fun _ i _ => x.2.length - (intOf i).toNat)
  case atStart => exact ⟨0, by omega, rfl, Lib.hid (StOwn.nil _ _), HB0, Lib.hid (World.alloc_heap_new w _)⟩
  case round =>
    obtain ⟨k, hk, rfl, HS, HB, HX⟩ := hrel
    obtain ⟨so, sc, rfl⟩ := HS.out.form
    have htl : ((stepsOf x).take k).length = k := by rw [List.length_take, stepsOf_length]; omega
    rw [htl] at HS
    have HTL := Lib.hid htl
    rw [htl]
    have hbx := HX.out
    have f0 := cells_of hbx 0
    have f1 := cells_of hbx 1
    simp only [List.getElem?_toArray, List.getElem?_cons_zero, List.getElem?_cons_succ] at f0 f1
    have hzr := HB.out.size
    have hlx := (Array.getElem?_eq_some_iff.1 hbx).1
    clear hbx htl
    by_cases hlt : k < x.2.length
    · obtain ⟨gr, hgr⟩ : ∃ g, ro = some ⟨g, 0, none⟩ := by
        rcases HR.out.2 with ⟨h, h2⟩ | ⟨g, cp, cur, h, _⟩
        · omega
        · exact ⟨g, by cases h; rfl⟩
      subst hgr
      have hgl := HR.out.lt gr rfl
      have hrc : wr.cell? ⟨gr, k, none⟩ = some (.int .i64 ((x.2[k] : Nat) : Int)) := by
        have h1 := HR.out.cells (g := gr) rfl k (.int .i64 ((x.2[k] : Nat) : Int)) (by simp [nats, List.getElem?_eq_getElem hlt])
        have e : (⟨gr, 0, none⟩ : Addr).add k = ⟨gr, k, none⟩ := by unfold Addr.add; split <;> simp_all
        rw [e] at h1
        exact (HB.out.cell (p := ⟨gr, k, none⟩) (by show gr < _; omega)).trans h1
      have HK : Hid ((stepsOf x).take (k + 1) = (stepsOf x).take k ++ [(((x.2[k] : Nat) : Int), x.1)]) := Lib.hid (by
        rw [List.take_add_one, show (stepsOf x)[k]? = some (((x.2[k] : Nat) : Int), x.1) by simp [stepsOf, List.getElem?_eq_getElem hlt]]; rfl)
      have hpr : wr.ownsRow m 3 1 (.slice po x.1.length pc) x.1.length (ints x.1) := row_kept HP.out fun j e => by
        exact HB.out.block j (HP.out.lt j e).2
      have HCL := Lib.hid (clonePos_any m (.slice po x.1.length pc) x.1 wr hpr hpl)
      obtain ⟨rk, hrk⟩ : ∃ rk : Nat, rk = x.2[k] := ⟨_, rfl⟩
      rw [← hrk] at hrc HK
      clear hpr hrk
      go_wp2_with (first | (go_at_call 186; refine HCL.out.mono ?_; rintro e w4 ⟨⟨pv4, rfl, hpo4⟩, hb4⟩; obtain ⟨qo, qc, rfl, -⟩ := ownsRow_formP hpo4; have HB4 := Lib.hid hb4; have HPO4 := Lib.hid hpo4; obtain ⟨hs, hs1, hs2, hs3⟩ := HS.out.below hb4; have HS1 := Lib.hid hs1; have HS2 := Lib.hid hs2; have HS3 := Lib.hid hs3; clear hb4 hpo4 hs1 hs2 hs3) | (at_builtin; refine wpList_append_own_at _ rfl _ _ 26 rfl w.heap.size 36 i3 (.agg #[.int .i64 0, .slice none 0 0]) 2 32 Tryz.underlying26 H2.out H3.out H4.out H5.out rfl (by decide) _ k (scs ((stepsOf x).take k) hs) rfl (by have h := HS2.out; rw [HTL.out] at h; exact h.alloc _) ⟨w4.heap.size, 0, none⟩ 1 1 [.int .i64 (rk : Nat), .slice qo x.1.length qc] rfl rfl (cell_two_new _ _ _ _) (by simp [Value.oneCell']) (by unfold maxLen; omega) (by omega) (by have := HB4.out.size; simp; omega) ?_; intro v5 w5 hown5 hgr5 _ _; obtain ⟨vo5, vc5, rfl⟩ := ownsRow_formS hown5; have HO5 := Lib.hid hown5; have HG5 := Lib.hid hgr5; clear hown5 hgr5))
      have hz4 := HB4.out.size
      have hA : Below w4.heap.size w4 (w4.alloc (.cells #[.int .i64 (rk : Nat), .slice qo x.1.length qc] 36)) := by go_grown
      have hst : StOwn w.heap.size w5 ((stepsOf x).take k ++ [(((rk : Nat) : Int), x.1)]) (.slice vo5 (k + 1) vc5) :=
        StOwn.snoc (A := w4.alloc (.cells #[.int .i64 (rk : Nat), .slice qo x.1.length qc] 36)) (hs2 := [.slice qo x.1.length qc]) HS1.out (row_keptS HS2.out fun j e => hA.block j (HS2.out.lt j e).2) (fun i s h e1 e2 => ⟨row_kept (HS3.out i s h e1 e2).1 fun j e => hA.block j ((HS3.out i s h e1 e2).1.lt j e).2, (HS3.out i s h e1 e2).2⟩) rfl
          (fun i s h e1 e2 => by
            cases i with
            | zero => simp at e1 e2; subst e1; subst e2; exact ⟨row_kept (ownsRow_mono HPO4.out (by omega)) fun j e => hA.block j (HPO4.out.lt j e).2, hpl⟩
            | succ i => simp at e1)
          (by rw [HTL.out]; exact HO5.out) HG5.out
      have HST := Lib.hid hst
      have hrow := row_keptS HS2.out fun j e => hA.block j (HS2.out.lt j e).2
      rw [HTL.out] at hrow
      have hx4 := (hA.block w.heap.size (by omega)).trans ((HB4.out.block _ hlx).trans HX.out)
      have hx5 := (HG5.out.block _ (by simp; omega) (fun e => row_not hx4 (by decide) hrow e.symm)).trans hx4
      have HX5 := Lib.hid hx5
      have HB5 := Lib.hid (((HB.out.trans (HB4.out.mono (by omega))).trans (hA.mono (by omega))).grown HG5.out (by simp; omega) (fun j e => (hrow.lt j e).1))
      clear hst hA hrow hx4 hx5
      exact ⟨⟨k + 1, by omega, by push_cast; rfl, Lib.hid (by rw [HK.out]; exact HST.out), HB5, HX5⟩, by simp only [intOf]; omega⟩
    · obtain rfl : k = x.2.length := by omega
      go_wp2_with fail
      go_ret
      have hs := HS.out
      rw [← stepsOf_length, List.take_length, stepsOf_length] at hs
      exact ⟨⟨_, rfl, hs⟩, HB.out⟩
end Go.Proofs.YtamddagmlanijaaGreat
