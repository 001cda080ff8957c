/- Packed: Sid, RdR, Rnp. -/
import Derived.Test.YtamddagmlanijaaGreatP02
import Derived.Test.YtamddagmlanijaaGreatP03
import Derived.Test.YtamddagmlanijaaGreatP06
import Derived.WalkKit
import Derived.ProofKit
import Derived.OpenShut
import Derived.Handy
import Derived.Lib.Hide
import Derived.Test.YtamddagmlanijaaGreatP05
import Derived.Deep.RegionHeld3
/- Rules in memory; sides(r) gives an iterator over the terms of the rules. -/
namespace Go.Proofs.YtamddagmlanijaaGreat
open Go.RowKit Go.Shelf
attribute [local go_sem] Oper.semAt_some

/-- a term with the slice value of its arguments -/
abbrev TmV := Tm × Value
abbrev RlV := TmV × TmV
/-- the slice value v holds these rules, in blocks below n -/
def RulV (n : Nat) (W : World) (l : List RlV) (v : Value) : Prop :=
  ∃ oa cap, v = .slice oa l.length cap ∧ l.length ≤ cap ∧
    (l ≠ [] → ∃ b o, oa = some ⟨b, o, none⟩ ∧ b < n ∧ ∀ i p, l[i]? = some p → (W.cell? ⟨b, o + i * 6, none⟩ = some (.string p.1.1.nm) ∧ W.cell? ⟨b, o + i * 6 + 1, none⟩ = some (.bool p.1.1.vr) ∧ W.cell? ⟨b, o + i * 6 + 2, none⟩ = some p.1.2 ∧
      W.cell? ⟨b, o + i * 6 + 3, none⟩ = some (.string p.2.1.nm) ∧ W.cell? ⟨b, o + i * 6 + 4, none⟩ = some (.bool p.2.1.vr) ∧ W.cell? ⟨b, o + i * 6 + 5, none⟩ = some p.2.2) ∧ SlIs n W p.1.1.ts p.1.2 ∧ SlIs n W p.2.1.ts p.2.2)
theorem RulV.carry {n m : Nat} {A B : World} {l : List RlV} {v : Value} (h : RulV n A l v) (hb : Below n A B) (hn : n ≤ m) : RulV m B l v := by
  obtain ⟨oa, cap, rfl, h1, h3⟩ := h
  refine ⟨oa, cap, rfl, h1, fun hne => ?_⟩
  obtain ⟨b, o, rfl, hbn, hc⟩ := h3 hne
  refine ⟨b, o, rfl, by omega, fun i p hk => ?_⟩
  obtain ⟨⟨c0, c1, c2, c3, c4, c5⟩, hs, ht⟩ := hc i p hk
  exact ⟨⟨(hb.cell (p := ⟨b, _, none⟩) hbn).trans c0, (hb.cell (p := ⟨b, _, none⟩) hbn).trans c1, (hb.cell (p := ⟨b, _, none⟩) hbn).trans c2, (hb.cell (p := ⟨b, _, none⟩) hbn).trans c3, (hb.cell (p := ⟨b, _, none⟩) hbn).trans c4, (hb.cell (p := ⟨b, _, none⟩) hbn).trans c5⟩, hs.carry hb hn, ht.carry hb hn⟩
theorem RulV.shape {n : Nat} {W : World} {l : List RlV} {v : Value} (h : RulV n W l v) : ∃ oa cap, v = .slice oa l.length cap := by obtain ⟨oa, cap, rfl, -⟩ := h; exact ⟨oa, cap, rfl⟩
/-- a rule's cells -/
theorem RulV.get {n : Nat} {W : World} {l : List RlV} {oa : Option Addr} {cap k : Nat} (h : RulV n W l (.slice oa l.length cap)) (hk : k < l.length) :
    ∃ (b o : Nat) (s t : Tm) (os ot : Option Addr) (cs ct : Nat), oa = some ⟨b, o, none⟩ ∧ b < n ∧ l[k]? = some ((s, .slice os s.ts.length cs), (t, .slice ot t.ts.length ct)) ∧ SlIs n W s.ts (.slice os s.ts.length cs) ∧ SlIs n W t.ts (.slice ot t.ts.length ct) ∧
      W.cell? ⟨b, o + k * 6, none⟩ = some (.string s.nm) ∧ W.cell? ⟨b, o + k * 6 + 1, none⟩ = some (.bool s.vr) ∧ W.cell? ⟨b, o + k * 6 + 2, none⟩ = some (.slice os s.ts.length cs) ∧
      W.cell? ⟨b, o + k * 6 + 3, none⟩ = some (.string t.nm) ∧ W.cell? ⟨b, o + k * 6 + 4, none⟩ = some (.bool t.vr) ∧ W.cell? ⟨b, o + k * 6 + 5, none⟩ = some (.slice ot t.ts.length ct) := by
  obtain ⟨oa', cap', he, -, h3⟩ := h
  simp only [Value.slice.injEq, true_and] at he
  obtain ⟨rfl, rfl⟩ := he
  obtain ⟨b, o, rfl, hb, hc⟩ := h3 (by rintro rfl; simp at hk)
  have hp : l[k]? = some l[k] := List.getElem?_eq_getElem hk
  obtain ⟨⟨c0, c1, c2, c3, c4, c5⟩, hs, ht⟩ := hc k _ hp
  obtain ⟨os, cs, e1, -⟩ := hs.form
  obtain ⟨ot, ct, e2, -⟩ := ht.form
  refine ⟨b, o, l[k].1.1, l[k].2.1, os, ot, cs, ct, rfl, hb, ?_, by rw [← e1]; exact hs, by rw [← e2]; exact ht, c0, c1, by rw [← e1]; exact c2, c3, c4, by rw [← e2]; exact c5⟩
  rw [hp, ← e1, ← e2]
def sidesV : List RlV → List TmV
  | [] => []
  | p :: l => p.1 :: p.2 :: sidesV l
theorem sidesV_append (l r : List RlV) : sidesV (l ++ r) = sidesV l ++ sidesV r := by
  induction l with
  | nil => rfl
  | cons p l ih => simp only [List.cons_append, sidesV, ih]
theorem sidesV_length (l : List RlV) : (sidesV l).length = 2 * l.length := by
  induction l with
  | nil => rfl
  | cons p l ih => simp only [sidesV, List.length_cons, ih]; omega
theorem sidesV_take (k : Nat) (l : List RlV) : sidesV (l.take k) <+: sidesV l := ⟨sidesV (l.drop k), by rw [← sidesV_append, List.take_append_drop]⟩
@[reducible] def TmV.encs (x : TmV) : Array Value := #[.agg #[.string x.1.nm, .bool x.1.vr, x.2]]

set_option maxRecDepth 100000 in
set_option maxHeartbeats 1000000 in
theorem sides_in (F : Fence) (n : Nat) (hf : F.fn 145) (hro : F.round = none) (v : Value) (hv : ∃ oa l c, v = .slice oa l c) (w : World) :
    CallsIn F n Tryz.prog 145 #[v] w fun e w' =>
      e = .returned (.func (.func 206) #[] #[.pointer (some ⟨w.heap.size, 0, none⟩)]) ∧ w' = w.alloc (.cells #[v] 22) := by
  obtain ⟨oa, l, c, rfl⟩ := hv
  refine callsIn_of_wp Tryz.func145 rfl hf ?_ hro
  simp only [Tryz.ntmps145, List.size_toArray, List.length_cons, List.length_nil, Nat.reduceAdd, Nat.reduceSub, Array.replicate_succ, Array.replicate_zero, List.push_toArray, List.append_toArray, List.nil_append, List.cons_append]
  gi_wp2
  go_ret
  exact ⟨rfl, rfl⟩

set_option maxRecDepth 100000 in
set_option maxHeartbeats 4000000 in
theorem sides1_in (F : Fence) (hd : F.depth = none) (n : Nat) (hf : F.fn 206) (hro : F.round = none) (lp Bt n₀ m₀ : Nat) (l : List RlV) (s : Value) (J Jx : List TmV → World → Prop) (hJ : ∀ s A o, J s A → J s (World.alloc A o))
    (hnm : n₀ ≤ m₀)
    (hY : ∀ pre (x : TmV) W, J pre W → pre ++ [x] <+: sidesV l → YieldAt F (n - 1) Tryz.prog lp x.encs W fun e W' =>
      (e = .returned (.bool true) ∧ J (pre ++ [x]) W' ∧ Keep n₀ m₀ W W') ∨ (e = .returned (.bool false) ∧ Jx (pre ++ [x]) W'))
    (W : World) (hm : m₀ ≤ W.heap.size) (h0 : W.cell? ⟨Bt, 0, none⟩ = some s) (hs : RulV n₀ W l s) (hl : l.length ≤ 1048576) (hJ0 : J [] W) :
    CallsIn F n Tryz.prog 206 #[.func (.yield lp) #[] #[], .pointer (some ⟨Bt, 0, none⟩)] W fun e W' => (∃ v, e = .returned v) ∧
      (J (sidesV l) W' ∨ (∃ pre : List TmV, pre <+: sidesV l ∧ Jx pre W')) := by
  have hdd : ∀ k : Nat, (F.depth.isSome = true → 1 ≤ k) := fun k h => by rw [hd] at h; cases h
  have hsl := sidesV_length l
  have HY := Lib.hid hY
  have HS := Lib.hid hs
  obtain ⟨oa, cap, rfl, -, -⟩ := hs
  clear hY
  refine callsIn_of_wp Tryz.func206 rfl hf ?_ hro
  simp only [Tryz.ntmps206, List.size_toArray, List.length_cons, List.length_nil, Nat.reduceAdd, Nat.reduceSub, Array.replicate_succ, Array.replicate_zero, List.push_toArray, List.append_toArray, List.nil_append, List.cons_append]
  gi_wp2_with fail
  gi_loopw [7] (fun i wr => ∃ k : Nat, k ≤ l.length ∧ i = .int .i64 k ∧ J (sidesV (l.take k)) wr ∧ Below n₀ W wr ∧ m₀ ≤ wr.heap.size) (fun i _ => l.length - (intOf i).toNat)
  case atStart => exact ⟨0, by omega, rfl, by simpa [sidesV] using hJ0, Below.refl _ _, hm⟩
  case round =>
    obtain ⟨k, hk, rfl, hJw, hbw, hmw⟩ := hrel
    by_cases hlt : k < l.length
    · obtain ⟨b, o, x, y, ox, oy, cx, cy, rfl, hbn, hp, hsx, hsy, c0, c1, c2, c3, c4, c5⟩ := (HS.out.carry hbw (Nat.le_refl _)).get hlt
      have HP := Lib.hid hp
      have hpre : (sidesV (l.take k)).length = 2 * k := by rw [sidesV_length, List.length_take]; omega
      have hz0 := hbw.size
      have HTK : Hid (sidesV (l.take (k + 1)) = (sidesV (l.take k) ++ [(x, .slice ox x.ts.length cx)]) ++ [(y, .slice oy y.ts.length cy)]) := Lib.hid (by
        rw [List.take_add_one, hp, sidesV_append, List.append_assoc]; rfl)
      clear hp
      have HPX : Hid (sidesV (l.take k) ++ [(x, .slice ox x.ts.length cx)] <+: sidesV l ∧ (sidesV (l.take k) ++ [(x, .slice ox x.ts.length cx)]) ++ [(y, .slice oy y.ts.length cy)] <+: sidesV l) := Lib.hid (by
        have h1 := sidesV_take (k + 1) l
        rw [HTK.out] at h1
        exact ⟨(List.prefix_append _ _).trans h1, h1⟩)
      obtain ⟨fn, tmps, assign, body, hy, hR⟩ := HY.out (sidesV (l.take k)) (x, .slice ox x.ts.length cx) _ (hJ _ _ (.cells #[.string x.nm, .bool x.vr, .slice ox x.ts.length cx, .string y.nm, .bool y.vr, .slice oy y.ts.length cy] 75) hJw) HPX.out.1
      gi_wp2_with fail
      refine hR.mono ?_
      clear hR hy
      rintro e W1 (⟨rfl, hJ1, hk1⟩ | ⟨rfl, hJx1⟩)
      · have b3 := hk1.new hmw 3
        have b4 := hk1.new hmw 4
        have b5 := hk1.new hmw 5
        simp only [List.getElem?_toArray, List.getElem?_cons_zero, List.getElem?_cons_succ] at b3 b4 b5
        have hb1 : Below n₀ wr W1 := Below.trans ((Below.refl n₀ wr).alloc (by omega) _) hk1.below
        have hz1 := hk1.below.size
        have HB1 := Lib.hid (hbw.trans hb1)
        obtain ⟨fn2, tmps2, assign2, body2, hy2, hR2⟩ := HY.out _ (y, .slice oy y.ts.length cy) W1 hJ1 HPX.out.2
        clear hJ1 hk1 hb1
        gi_wp2_with fail
        refine hR2.mono ?_
        clear hR2 hy2
        rintro e W2 (⟨rfl, hJ2, hk2⟩ | ⟨rfl, hJx2⟩)
        · rw [← HTK.out] at hJ2
          have hz2 := hk2.below.size
          have HB2 := Lib.hid (HB1.out.trans hk2.below)
          have HJ2 := Lib.hid hJ2
          clear hJ2 hk2
          gi_wp2_with fail
          exact ⟨⟨k + 1, by omega, by go_num, HJ2.out, HB2.out, by simp at hz1; omega⟩, by simp [intOf]; omega⟩
        · have HJ2 := Lib.hid hJx2
          clear hJx2
          gi_wp2_with fail
          refine bodyPost_ret (results_none rfl _ _ _) rfl ?_
          exact ⟨⟨_, rfl⟩, .inr ⟨_, HPX.out.2, HJ2.out⟩⟩
      · have HJ1 := Lib.hid hJx1
        clear hJx1
        gi_wp2_with fail
        refine ⟨fun f h => (by cases h), ?_⟩
        gi_wp2_with fail
        refine bodyPost_ret (results_none rfl _ _ _) rfl ?_
        exact ⟨⟨_, rfl⟩, .inr ⟨_, HPX.out.1, HJ1.out⟩⟩
    · obtain rfl : k = l.length := by omega
      rw [List.take_length] at hJw
      have HJ := Lib.hid hJw
      gi_wp2_with fail
      go_end0
      exact ⟨⟨_, rfl⟩, .inl HJ.out⟩
theorem RulV.mem {n : Nat} {W : World} {l : List RlV} {v : Value} (h : RulV n W l v) {x : TmV} (hx : x ∈ sidesV l) : SlIs n W x.1.ts x.2 := by
  obtain ⟨oa, cap, rfl, -, h3⟩ := h
  by_cases hl : l = []
  · subst hl; cases hx
  obtain ⟨b, o, -, -, hc⟩ := h3 hl
  have key : ∀ l' : List RlV, (∀ p ∈ l', p ∈ l) → x ∈ sidesV l' → ∃ p ∈ l, x = p.1 ∨ x = p.2 := by
    intro l'
    induction l' with
    | nil => intro _ h; cases h
    | cons p l' ih =>
      intro hm h
      simp only [sidesV, List.mem_cons] at h
      rcases h with h | h | h
      · exact ⟨p, hm p (by simp), .inl h⟩
      · exact ⟨p, hm p (by simp), .inr h⟩
      · exact ih (fun q hq => hm q (by simp [hq])) h
  obtain ⟨p, hp, hxp⟩ := key l (fun _ h => h) hx
  obtain ⟨i, hi, rfl⟩ := List.getElem_of_mem hp
  obtain ⟨-, hs, ht⟩ := hc i _ (List.getElem?_eq_getElem hi)
  rcases hxp with rfl | rfl
  · exact hs
  · exact ht
/-- one of the terms of the rules -/
abbrev SdV (l : List RlV) := {x : TmV // x ∈ sidesV l}
/-- THE ITERATOR'S CONTRACT. -/
theorem sides_stops (F : Fence) (hd : F.depth = none) (n : Nat) (hf : F.fn 206) (hro : F.round = none) (Bt n₀ : Nat) (l : List RlV) (s : Value) (w : World) (hBt : Bt < w.heap.size) (hn : n₀ ≤ w.heap.size)
    (h0 : w.cell? ⟨Bt, 0, none⟩ = some s) (hs : RulV n₀ w l s) (hl : l.length ≤ 1048576) :
    SeqStopsK F n Tryz.prog 206 #[.pointer (some ⟨Bt, 0, none⟩)] (fun x : SdV l => x.1.encs) (Keep n₀ w.heap.size) (fun ys => ys.map Subtype.val = sidesV l) (fun pre => pre.map Subtype.val <+: sidesV l) (sidesV l).length w := fun lp J Jx W hW hJ _ hY hJ0 =>
  (sides1_in F hd n hf hro lp Bt n₀ w.heap.size l s (fun pre W => ∃ ys : List (SdV l), ys.map Subtype.val = pre ∧ J ys W) (fun pre W => ∃ ys : List (SdV l), ys.map Subtype.val = pre ∧ Jx ys W)
    (fun s A o ⟨ys, h1, h⟩ => ⟨ys, h1, hJ ys A _ none h (World.grownBy_alloc A o none) (fun r e => by cases e)⟩) hn
    (fun pre x W ⟨ys, h1, h⟩ hp => by
      have hx : x ∈ sidesV l := hp.subset (by simp)
      have hlen : ys.length < (sidesV l).length := by
        have := hp.length_le
        rw [List.length_append, ← h1, List.length_map] at this
        simp at this
        omega
      obtain ⟨fn, tmps, assign, body, hy, hR⟩ := hY ys ⟨x, hx⟩ W h hlen
      refine ⟨fn, tmps, assign, body, hy, hR.mono ?_⟩
      rintro e W' (⟨he, hj, hk⟩ | ⟨he, hj⟩)
      · exact .inl ⟨he, ⟨ys ++ [⟨x, hx⟩], by simp [h1], hj⟩, hk⟩
      · exact .inr ⟨he, ⟨ys ++ [⟨x, hx⟩], by simp [h1], hj⟩⟩)
    W hW.size
    ((hW.cell (p := ⟨Bt, 0, none⟩) hBt).trans h0) (hs.carry (hW.mono hn) (Nat.le_refl _)) hl ⟨[], rfl, hJ0⟩).mono fun e W' ⟨h1, h2⟩ => ⟨h1, h2.imp (fun ⟨ys, h, hj⟩ => ⟨ys, h, hj⟩) (fun ⟨pre, hp, ys, h, hj⟩ => ⟨ys, by show List.map Subtype.val ys <+: _; rw [h]; exact hp, hj⟩)⟩
end Go.Proofs.YtamddagmlanijaaGreat
/- What an argument reads as: rules; rows in general. -/
namespace Go.Proofs.YtamddagmlanijaaGreat
open Go.RowKit Go.ChangeShapes Go.WideShapes Go.ChangeAt Go.Deep

set_option maxRecDepth 100000 in
set_option maxHeartbeats 1000000 in
/-- a slice of elements of c cells each, read as a row -/
theorem row_open {H : Type} (enc : TypeId × Value → H) (W : World) {t e : TypeId} {c : Nat} {α : Type} [Inhabited α] (ht : Tryz.prog.underlying t = some (.slice e)) (hce : Tryz.prog.cellsOf e = c) (hc0 : 0 < c) (Q : α → List Value → Prop) (bd : α → Nat)
    (elem : ∀ n cs x, DataW.trod enc Tryz.prog W 0 (fun _ => true) true n e cs = some x → W.noneFrozen x.2 → ∃ a, Q a cs ∧ 1 + bd a ≤ Rows.uptoBulk x.1)
    (n : Nat) (v : Value) (x : DataW H × List MemPlace) (h : DataW.trod enc Tryz.prog W 0 (fun _ => true) true n t [v] = some x) (hfz : W.noneFrozen x.2) :
    ∃ (l : List α) (oa : Option Addr) (cap : Nat), v = .slice oa l.length cap ∧ l.length ≤ cap ∧ l.length < Rows.uptoBulk x.1 ∧ (∀ a ∈ l, bd a < Rows.uptoBulk x.1) ∧
      (l ≠ [] → ∃ b o, oa = some ⟨b, o, none⟩ ∧ b < W.heap.size ∧ (∀ i, i < l.length * c → W.frozen? ⟨b, o + i, none⟩ = false) ∧ ∀ i a, l[i]? = some a → ∃ cs, Q a cs ∧ cs.length = c ∧ ∀ j, j < c → W.cell? ⟨b, o + i * c + j, none⟩ = cs[j]?) := by
  rcases DataW.trod_slice ht h with ⟨hc, rfl⟩ | ⟨a, len, cap, elems, rest, k, rfl, hc, rfl, hba, hlc, hcm, hel, hall, -, -⟩
  · cases hc
    exact ⟨[], none, 0, rfl, Nat.le_refl _, by simp [Rows.uptoBulk], by simp, fun h => absurd rfl h⟩
  · cases hc
    rw [hce] at hall hfz
    have key : ∀ i, i < len → ∃ ps : α × List Value, W.cells? 0 (a.add (i * c)) c = some ps.2 ∧ Q ps.1 ps.2 ∧ ∃ e, elems[i]? = some e ∧ 1 + bd ps.1 ≤ Rows.uptoBulk e.1 := fun i hi => by
      have hi2 : i < elems.length := by omega
      have hh := hall i hi
      rw [List.getElem?_eq_getElem hi2] at hh
      obtain ⟨cs', g1, g2⟩ := Option.bind_eq_some_iff.1 hh
      obtain ⟨p, hq, hbk⟩ := elem k cs' _ g2 (fun b' off hp => hfz b' off (List.mem_append.2 (.inr (List.mem_flatMap.2 ⟨elems[i], List.mem_append.2 (.inl (List.getElem_mem hi2)), hp⟩))))
      exact ⟨(p, cs'), g1, hq, _, List.getElem?_eq_getElem hi2, hbk⟩
    obtain ⟨TS, hTS⟩ := choose_lt (α := α × List Value) key
    have hlen : ((List.range len).map fun i => (TS i).1).length = len := by simp
    have hle : len ≤ Rows.uptoBulkAll (elems.map (·.1)) := by
      have := bulk_lengthX (elems.map (·.1))
      rw [List.length_map] at this
      omega
    have hup : Rows.uptoBulkAll (elems.map (·.1)) < Rows.uptoBulk (DataW.slice (elems.map (·.1)) (rest.map (·.1))) := by simp only [Rows.uptoBulk]; omega
    refine ⟨(List.range len).map fun i => (TS i).1, some a, cap, by rw [hlen], by rw [hlen]; exact hlc, by rw [hlen]; exact Nat.lt_of_le_of_lt hle hup, fun p hp => ?_, fun hne => ?_⟩
    · obtain ⟨i, hi, rfl⟩ := List.mem_map.1 hp
      have hi := List.mem_range.1 hi
      obtain ⟨_, _, e, he, hb⟩ := hTS i hi
      have := uptoBulk_mem (d := e.1) (l := elems.map (·.1)) (List.mem_map.2 ⟨e, List.mem_of_getElem? he, rfl⟩)
      show bd (TS i).1 < Rows.uptoBulk (DataW.slice (elems.map (·.1)) (rest.map (·.1)))
      omega
    · have hz0 : len ≠ 0 := by rintro rfl; simp at hne
      obtain ⟨c0, _, _⟩ := hTS 0 (by omega)
      have hsp : a.spot = none := by
        have := (World.cells?_some c0).2.2 0 hc0
        simp only [Nat.zero_mul] at this
        have e : (a.add 0).add 0 = a := by simp [Addr.add]
        rw [e] at this
        have hl0 := (World.cells?_some c0).2.1
        rw [List.getElem?_eq_getElem (by omega)] at this
        exact World.cell?_spot this
      obtain ⟨ab, ao, asp⟩ := a
      simp only at hsp; subst hsp
      have hlt : ab < W.heap.size := by
        have := (World.cells?_some c0).2.2 0 hc0
        have hl0 := (World.cells?_some c0).2.1
        rw [List.getElem?_eq_getElem (by omega)] at this
        have := World.block_lt_of_cell? W _ this
        simpa [addr_add] using this
      refine ⟨ab, ao, rfl, hlt, fun i hi => hfz ab (ao + i) (List.mem_append.2 (.inl ?_)), fun i p hp => ?_⟩
      · rw [hlen] at hi
        simp only [MemPlace.row, List.mem_map, List.mem_range]
        exact ⟨i, Nat.lt_of_lt_of_le hi (Nat.mul_le_mul_right c (show len ≤ elems.length + rest.length by omega)), rfl⟩
      · have hi : i < len := by have := (List.getElem?_eq_some_iff.1 hp).1; simpa using this
        rw [List.getElem?_map, List.getElem?_range hi] at hp
        cases hp
        have hc := World.cells?_some (hTS i hi).1
        refine ⟨_, (hTS i hi).2.1, hc.2.1, fun j hj => ?_⟩
        have k0 := hc.2.2 j hj
        simp only [addr_add] at k0
        exact k0

theorem cellsRule : Tryz.prog.cellsOf 75 = 6 := by kernel_rfl
theorem cellsStep : Tryz.prog.cellsOf 36 = 2 := by kernel_rfl
instance : Inhabited RlV := ⟨((.mk ⟨#[]⟩ false [], .bool false), (.mk ⟨#[]⟩ false [], .bool false))⟩
set_option maxRecDepth 100000 in
set_option maxHeartbeats 1000000 in
theorem rule_open {H : Type} (enc : TypeId × Value → H) (W : World) (n : Nat) (cs : List Value) (x : DataW H × List MemPlace) (h : DataW.trod enc Tryz.prog W 0 (fun _ => true) true n 75 cs = some x) (hfz : W.noneFrozen x.2) :
    ∃ p : RlV, (cs = [.string p.1.1.nm, .bool p.1.1.vr, p.1.2, .string p.2.1.nm, .bool p.2.1.vr, p.2.2] ∧ SlIs W.heap.size W p.1.1.ts p.1.2 ∧ SlIs W.heap.size W p.2.1.ts p.2.2) ∧ 1 + (p.1.1.bulk + p.2.1.bulk) ≤ Rows.uptoBulk x.1 := by
  obtain ⟨xs, m, rfl, rfl, hl, hlen, hf⟩ := DataW.trod_struct Tryz.underlying75 h
  rw [cellsRule] at hl
  match cs, hl with
  | [a0, a1, a2, b0, b1, b2], _ =>
    match xs, hlen with
    | [y0, y1], _ =>
      have h0 := hf 0 _ rfl
      have h1 := hf 1 _ rfl
      simp only [List.getElem?_cons_zero, List.getElem?_cons_succ] at h0 h1
      obtain ⟨s, sv, e0, hs, k0⟩ := term_open enc W m _ _ h0 (fun b off hp => hfz b off (by simp only [List.flatMap_cons, List.flatMap_nil, List.mem_append]; exact .inl hp))
      obtain ⟨t, tv, e1, ht, k1⟩ := term_open enc W m _ _ h1 (fun b off hp => hfz b off (by simp only [List.flatMap_cons, List.flatMap_nil, List.mem_append]; exact .inr (.inl hp)))
      cases e0
      cases e1
      have e : Rows.uptoBulk (DataW.agg ([y0, y1].map (·.1))) = Rows.uptoBulk y0.1 + (Rows.uptoBulk y1.1 + 0) + 1 := by simp only [List.map_cons, List.map_nil, Rows.uptoBulk, Rows.uptoBulkAll]
      refine ⟨((s, _), (t, _)), ⟨rfl, hs, ht⟩, ?_⟩
      show _ ≤ Rows.uptoBulk (DataW.agg ([y0, y1].map (·.1)))
      rw [e]
      have k0' : s.bulk ≤ Rows.uptoBulk y0.1 := k0
      have k1' : t.bulk ≤ Rows.uptoBulk y1.1 := k1
      show 1 + (s.bulk + t.bulk) ≤ _
      omega
theorem sides_bulk {R : List RlV} {B : Nat} (h : ∀ p ∈ R, p.1.1.bulk + p.2.1.bulk < B) : ∀ x ∈ sidesV R, x.1.bulk < B := by
  induction R with
  | nil => intro x hx; simp [sidesV] at hx
  | cons p l ih =>
    intro x hx
    have hp := h p (by simp)
    simp only [sidesV, List.mem_cons] at hx
    rcases hx with rfl | rfl | hx
    · omega
    · omega
    · exact ih (fun q hq => h q (by simp [hq])) x hx
set_option maxRecDepth 100000 in
set_option maxHeartbeats 1000000 in
theorem rules_open {H : Type} (enc : TypeId × Value → H) (W : World) (n : Nat) (v : Value) (x : DataW H × List MemPlace) (h : DataW.trod enc Tryz.prog W 0 (fun _ => true) true n 22 [v] = some x) (hfz : W.noneFrozen x.2) :
    ∃ (R : List RlV), RulV W.heap.size W R v ∧ R.length < Rows.uptoBulk x.1 ∧ (∀ x' ∈ sidesV R, x'.1.bulk < Rows.uptoBulk x.1) := by
  obtain ⟨l, oa, cap, rfl, hlc, hlb, hbd, hrow⟩ := row_open (α := RlV) enc W Tryz.underlying22 cellsRule (by omega) (fun p cs => cs = [.string p.1.1.nm, .bool p.1.1.vr, p.1.2, .string p.2.1.nm, .bool p.2.1.vr, p.2.2] ∧ SlIs W.heap.size W p.1.1.ts p.1.2 ∧ SlIs W.heap.size W p.2.1.ts p.2.2) (fun p => p.1.1.bulk + p.2.1.bulk) (fun n cs x h hf => rule_open enc W n cs x h hf) n v x h hfz
  refine ⟨l, ⟨oa, cap, rfl, hlc, fun hne => ?_⟩, hlb, sides_bulk hbd⟩
  obtain ⟨b, o, rfl, hb, -, hcs⟩ := hrow hne
  refine ⟨b, o, rfl, hb, fun i p hp => ?_⟩
  obtain ⟨cs, ⟨rfl, h1, h2⟩, -, hj⟩ := hcs i p hp
  exact ⟨⟨hj 0 (by omega), hj 1 (by omega), hj 2 (by omega), hj 3 (by omega), hj 4 (by omega), hj 5 (by omega)⟩, h1, h2⟩
section
variable {H : Type} {enc : TypeId × Value → H} {w : World} (sp : Nat → Bool)
theorem sp_rule (k : Nat) : SpAt enc Tryz.prog w sp k 75 := by
  match k with
  | 0 => exact sp_zero sp _
  | k + 1 => exact sp_struct2 sp Tryz.underlying75 (sp_term sp _) (sp_term sp _)
theorem sp_rules (k : Nat) : SpAt enc Tryz.prog w sp k 22 := by
  match k with
  | 0 => exact sp_zero sp _
  | k + 1 => exact sp_slice sp Tryz.underlying22 (by rw [cellsRule]; omega) (sp_rule sp k)
theorem sp_step (k : Nat) : SpAt enc Tryz.prog w sp k 36 := by
  match k with
  | 0 => exact sp_zero sp _
  | k + 1 => exact sp_struct2 sp Tryz.underlying36 (sp_int sp Tryz.underlying3 _) (sp_intsX sp _)
theorem sp_steps (k : Nat) : SpAt enc Tryz.prog w sp k 26 := by
  match k with
  | 0 => exact sp_zero sp _
  | k + 1 => exact sp_slice sp Tryz.underlying26 (by rw [cellsStep]; omega) (sp_step sp k)
end
end Go.Proofs.YtamddagmlanijaaGreat
/- Merged: Ren, App, App2, Rnp. -/
/- The reference's Renaming. -/
namespace Go.Proofs.YtamddagmlanijaaGreat
open Go.RowKit

theorem infoBind : (Tryz.prog.info? 134).map (fun i => (i.zero, i.size, i.bytes)) = some (some (.agg #[.string ⟨#[]⟩, .string ⟨#[]⟩, .bool false, .slice none 0 0]), 4, 64) := by kernel_rfl
/-- the cells of bindings to bare terms -/
def bcells (bl : List Bd) : List Value := bl.flatMap fun p => [.string (kb p.1), .string p.2.nm, .bool p.2.vr, .slice none 0 0]
theorem bcells_at (bl : List Bd) (i : Nat) (p : Bd) (h : bl[i]? = some p) :
    (bcells bl)[i * 4]? = some (.string (kb p.1)) ∧ (bcells bl)[i * 4 + 1]? = some (.string p.2.nm) ∧ (bcells bl)[i * 4 + 2]? = some (.bool p.2.vr) ∧ (bcells bl)[i * 4 + 3]? = some (.slice none 0 0) := by
  induction bl generalizing i with
  | nil => simp at h
  | cons q bl ih =>
    cases i with
    | zero => simp at h; subst h; simp [bcells]
    | succ i =>
      obtain ⟨h1, h2, h3, h4⟩ := ih i (by simpa using h)
      have e : ∀ r, (i + 1) * 4 + r = i * 4 + r + 4 := fun r => by omega
      refine ⟨?_, ?_, ?_, ?_⟩
      · have := e 0; simp only [Nat.add_zero] at this; rw [this]; simpa [bcells] using h1
      · rw [e 1]; simpa [bcells] using h2
      · rw [e 2]; simpa [bcells] using h3
      · rw [e 3]; simpa [bcells] using h4
theorem BindsIs.ofRow {W : World} {m : Nat} {e : TypeId} {v : Value} {bl : List Bd} (h : W.ownsRow m e 4 v bl.length (bcells bl)) (hb : ∀ p ∈ bl, p.2.ts = []) : BindsIs W.heap.size W bl v := by
  have h0 := h
  rcases h.2 with ⟨rfl, hl⟩ | ⟨g, cap, cur, rfl, hbg, hg, hle, _⟩
  · exact ⟨none, 0, by rw [hl], by omega, fun hne => absurd (List.length_eq_zero_iff.1 hl) hne⟩
  · refine ⟨_, cap, rfl, hle, fun _ => ⟨g, 0, rfl, (Array.getElem?_eq_some_iff.1 hg).1, fun i p hp => ?_⟩⟩
    obtain ⟨h1, h2, h3, h4⟩ := bcells_at bl i p hp
    have key : ∀ j u, (bcells bl)[j]? = some u → W.cell? ⟨g, 0 + j, none⟩ = some u := fun j u hj => by
      have := h0.cells (g := g) rfl j u hj
      rwa [ad_add] at this
    exact ⟨.slice none 0 0, key _ _ h1, by rw [Nat.add_assoc]; exact key _ _ h2, by rw [Nat.add_assoc]; exact key _ _ h3, by rw [Nat.add_assoc]; exact key _ _ h4, by rw [hb p (List.mem_of_getElem? hp)]; exact .nil0⟩
theorem cells_new (W : World) (a b c d : Value) (e : TypeId) : ∀ j u, [a, b, c, d][j]? = some u → (W.alloc (.cells #[a, b, c, d] e)).cell? ((⟨W.heap.size, 0, none⟩ : Addr).add j) = some u := by
  intro j u hj
  rw [ad_add, Nat.zero_add]
  have h := cells_of' (heap_new_at W (.cells #[a, b, c, d] e) W.heap.size rfl) j
  rw [h, ← Array.getElem?_toList]
  exact hj

theorem own_none (v : Value) : v.ownBlock = none ∨ v.ownBlock ≠ none := by cases v.ownBlock <;> simp
theorem ownsRow_shape {W : World} {m n size : Nat} {e : TypeId} {v : Value} {xs : List Value} (h : W.ownsRow m e size v n xs) : ∃ oa cap, v = .slice oa n cap := by
  rcases h.2 with ⟨rfl, rfl⟩ | ⟨g, cap, cur, rfl, _⟩
  · exact ⟨_, _, rfl⟩
  · exact ⟨_, _, rfl⟩
/-- what has been collected -/
structure RenSt (l r : List Key) (j i : Nat) (x : Key) (bl : List Bd) : Prop where
  say : ∀ p ∈ bl, ∃ m, l[m]? = some p.1 ∧ p.2 = .mk (xname digN m) true []
  all : ∀ k ∈ r.take j, k ∈ l → ∃ p ∈ bl, p.1 = k
  cur : x ∈ l.take i → ∃ p ∈ bl, p.1 = x
  len : bl.length ≤ j * l.length + i
theorem RenSt.skip {l r : List Key} {j i : Nat} {x y : Key} {bl : List Bd} (h : RenSt l r j i x bl) (hy : l[i]? = some y) (hne : y ≠ x) : RenSt l r j (i + 1) x bl := by
  refine ⟨h.say, h.all, fun hx => ?_, by have := h.len; omega⟩
  rw [List.take_add_one, hy] at hx
  simp only [Option.toList_some, List.mem_append, List.mem_singleton] at hx
  rcases hx with hx | hx
  · exact h.cur hx
  · exact absurd hx.symm hne
theorem RenSt.take {l r : List Key} {j i : Nat} {x : Key} {bl : List Bd} (h : RenSt l r j i x bl) (hy : l[i]? = some x) : RenSt l r j (i + 1) x (bl ++ [(x, .mk (xname digN i) true [])]) := by
  refine ⟨fun p hp => ?_, fun k hk hkl => ?_, fun _ => ⟨_, List.mem_append_right _ (List.mem_singleton.2 rfl), rfl⟩, by have := h.len; simp; omega⟩
  · rcases List.mem_append.1 hp with hp | hp
    · exact h.say p hp
    · obtain rfl := List.mem_singleton.1 hp
      exact ⟨i, hy, rfl⟩
  · obtain ⟨p, hp, e⟩ := h.all k hk hkl
    exact ⟨p, List.mem_append_left _ hp, e⟩
theorem RenSt.next {l r : List Key} {j : Nat} {x : Key} {bl : List Bd} (h : RenSt l r j l.length x bl) (hx : r[j]? = some x) (y : Key) : RenSt l r (j + 1) 0 y bl := by
  refine ⟨h.say, fun k hk hkl => ?_, fun h0 => by simp at h0, by have := h.len; rw [Nat.succ_mul]; omega⟩
  rw [List.take_add_one, hx] at hk
  simp only [Option.toList_some, List.mem_append, List.mem_singleton] at hk
  rcases hk with hk | rfl
  · exact h.all k hk hkl
  · exact h.cur (by rw [List.take_length]; exact hkl)
theorem RenSt.bare {l r : List Key} {j i : Nat} {x : Key} {bl : List Bd} (h : RenSt l r j i x bl) : ∀ p ∈ bl, p.2.ts = [] := fun p hp => by
  obtain ⟨m, _, e⟩ := h.say p hp
  rw [e]; rfl

end Go.Proofs.YtamddagmlanijaaGreat
/- The reference's Apply. -/
namespace Go.Proofs.YtamddagmlanijaaGreat
open Go.RowKit

/-- The slice value s holds the terms l, in blocks of which p holds. -/
inductive SlP (p : Nat → Prop) (W : World) : List Tm → Value → Prop
  | nil0 : SlP p W [] (.slice none 0 0)
  | nil1 (a : Addr) (cap : Nat) : SlP p W [] (.slice (some a) 0 cap)
  | row (b o cap : Nat) (l : List Tm) (s : Nat → Value) : l ≠ [] → p b → l.length ≤ cap →
      (∀ i t, l[i]? = some t → W.cell? ⟨b, o + i * 3, none⟩ = some (.string t.nm) ∧ W.cell? ⟨b, o + i * 3 + 1, none⟩ = some (.bool t.vr) ∧ W.cell? ⟨b, o + i * 3 + 2, none⟩ = some (s i)) →
      (∀ i t, l[i]? = some t → SlP p W t.ts (s i)) → (∀ i, i < l.length * 3 → W.frozen? ⟨b, o + i, none⟩ = false) → SlP p W l (.slice (some ⟨b, o, none⟩) l.length cap)
theorem frozen_same {A B : World} {b : Nat} (h : B.heap[b]? = A.heap[b]?) (j : Nat) : B.frozen? ⟨b, j, none⟩ = A.frozen? ⟨b, j, none⟩ := by unfold World.frozen?; simp only [h]
theorem SlP.carry {p q : Nat → Prop} {A B : World} (h : ∀ b, p b → B.heap[b]? = A.heap[b]? ∧ q b) {l : List Tm} {s : Value} (hs : SlP p A l s) : SlP q B l s := by
  induction hs with
  | nil0 => exact .nil0
  | nil1 a cap => exact .nil1 a cap
  | row b o cap l s hl hb hc cells _ hf ih =>
    obtain ⟨e, hq⟩ := h b hb
    refine .row b o cap l s hl hq hc (fun i t ht => ?_) ih (fun i hi => (frozen_same e _).trans (hf i hi))
    obtain ⟨h1, h2, h3⟩ := cells i t ht
    exact ⟨(World.cell?_of_block (a := ⟨b, _, none⟩) e).trans h1, (World.cell?_of_block (a := ⟨b, _, none⟩) e).trans h2, (World.cell?_of_block (a := ⟨b, _, none⟩) e).trans h3⟩
theorem SlIs.toP {n : Nat} {W : World} {l : List Tm} {s : Value} (h : SlIs n W l s) : SlP (· < n) W l s := by
  induction h with
  | nil0 => exact .nil0
  | nil1 a cap => exact .nil1 a cap
  | row b o cap l s hl hb hc cells _ hf ih => exact .row b o cap l s hl hb hc cells ih hf
theorem SlP.toIs {p : Nat → Prop} {n : Nat} {W : World} {l : List Tm} {s : Value} (h : SlP p W l s) (hp : ∀ b, p b → b < n) : SlIs n W l s := by
  induction h with
  | nil0 => exact .nil0
  | nil1 a cap => exact .nil1 a cap
  | row b o cap l s hl hb hc cells _ hf ih => exact .row b o cap l s hl (hp b hb) hc cells ih hf
theorem SlP.form {p : Nat → Prop} {W : World} {l : List Tm} {s : Value} (h : SlP p W l s) : ∃ oa cap, s = .slice oa l.length cap := by
  cases h with
  | nil0 => exact ⟨_, _, rfl⟩
  | nil1 a cap => exact ⟨_, _, rfl⟩
  | row => exact ⟨_, _, rfl⟩
theorem SlP.lt {p : Nat → Prop} {W : World} {l : List Tm} {s : Value} (h : SlP p W l s) : SlP (fun b => p b ∧ b < W.heap.size) W l s := by
  induction h with
  | nil0 => exact .nil0
  | nil1 a cap => exact .nil1 a cap
  | row b o cap l s hl hb hc cells _ hf ih =>
    refine .row b o cap l s hl ⟨hb, ?_⟩ hc cells ih hf
    obtain ⟨t, r, rfl⟩ : ∃ t r, l = t :: r := by
      cases l with
      | nil => exact absurd rfl hl
      | cons t r => exact ⟨t, r, rfl⟩
    exact World.block_lt_of_cell? W _ (cells 0 t rfl).1

/-- bindings applied to a term -/
def apImg (bl : List Bd) : Unit → ByteArray → Tm × Unit := fun _ nm => (imageOf bl nm.data.toList, ())
def apB (bl : List Bd) (t : Tm) : Tm := (t.rep (apImg bl) ()).1
theorem apB_var (bl : List Bd) {t : Tm} (h : t.vr = true) : apB bl t = imageOf bl t.nm.data.toList := by rw [apB, Tm.rep_var _ _ _ h]; rfl
theorem apB_fun (bl : List Bd) {t : Tm} (h : t.vr = false) : apB bl t = .mk t.nm false (t.ts.map (apB bl)) := by
  rw [apB, Tm.rep_fun _ _ _ h]
  have : ∀ l : List Tm, (Tm.reps (apImg bl) () l).1 = l.map (apB bl) := by
    intro l
    induction l with
    | nil => rfl
    | cons x l ih => simp only [Tm.reps, List.map_cons]; rw [show (Tm.rep (apImg bl) () x).2 = () from rfl, ih]; rfl
  rw [this]

/-- k arguments being done -/
structure ApSt (n₀ : Nat) (w : World) (bl : List Bd) (nm : ByteArray) (l : List Tm) (k : Nat) (W : World) (v : Value) (ch : List (Tm × Value)) : Prop where
  terms : ch.map (·.1) = (l.take k).map (apB bl)
  row : W.ownsRow (w.heap.size + 3) 25 3 v ch.length (stCells ch)
  kids : ∀ c ∈ ch, SlP (fun b => (b < n₀ ∨ w.heap.size + 3 ≤ b) ∧ b < W.heap.size ∧ some b ≠ v.ownBlock) W c.1.ts c.2
  low : Below w.heap.size w W
  out : W.heap[w.heap.size + 2]? = some (.cells #[.string nm, .bool false, v] 25 (0, 0))
  ret : W.heap[w.heap.size + 1]? = some (.cells #[.string ⟨#[]⟩, .bool false, .slice none 0 0] 25 (0, 0))

theorem stCells_at (st : List (Tm × Value)) (i : Nat) (c : Tm × Value) (h : st[i]? = some c) :
    (stCells st)[i * 3]? = some (.string c.1.nm) ∧ (stCells st)[i * 3 + 1]? = some (.bool c.1.vr) ∧ (stCells st)[i * 3 + 2]? = some c.2 := by
  induction st generalizing i with
  | nil => simp at h
  | cons p ch ih =>
    cases i with
    | zero => simp at h; subst h; simp [stCells]
    | succ i =>
      obtain ⟨h1, h2, h3⟩ := ih i (by simpa using h)
      have e : ∀ r, (i + 1) * 3 + r = i * 3 + r + 3 := fun r => by omega
      refine ⟨?_, ?_, ?_⟩
      · have := e 0; simp only [Nat.add_zero] at this; rw [this]; simpa [stCells] using h1
      · rw [e 1]; simpa [stCells] using h2
      · rw [e 2]; simpa [stCells] using h3
/-- a row of terms that is owned, its terms' own arguments lying elsewhere -/
theorem SlP.ofRow {p : Nat → Prop} {W : World} {m : Nat} {v : Value} {ch : List (Tm × Value)} (h : W.ownsRow m 25 3 v ch.length (stCells ch)) (hp : ∀ b, m ≤ b → p b) (hk : ∀ c ∈ ch, SlP p W c.1.ts c.2) : SlP p W (ch.map (·.1)) v := by
  have h0 := h
  have hlen : (ch.map (·.1)).length = ch.length := by simp
  rcases h.2 with ⟨rfl, hl⟩ | ⟨g, cap, cur, rfl, hbg, hg, hle, _⟩
  · obtain rfl : ch = [] := List.length_eq_zero_iff.1 hl
    exact .nil0
  · by_cases hne : ch = []
    · subst hne; exact .nil1 _ _
    · have key : ∀ j u, (stCells ch)[j]? = some u → W.cell? ⟨g, 0 + j, none⟩ = some u := fun j u hj => by
        have := h0.cells (g := g) rfl j u hj
        rwa [ad_add] at this
      have hch : ∀ i t, (ch.map (·.1))[i]? = some t → ∃ c : Tm × Value, ch[i]? = some c ∧ c.1 = t := fun i t ht => by rw [List.getElem?_map, Option.map_eq_some_iff] at ht; exact ht
      have := SlP.row (p := p) (W := W) g 0 cap (ch.map (·.1)) (fun i => ((ch[i]?).map (·.2)).getD (.bool false)) (by simpa using hne) (hp g hbg) (by rw [hlen]; exact hle)
        (fun i t ht => by
          obtain ⟨c, hci, rfl⟩ := hch i t ht
          obtain ⟨h1, h2, h3⟩ := stCells_at ch i c hci
          simp only [hci, Option.map_some, Option.getD_some]
          exact ⟨key _ _ h1, by rw [Nat.add_assoc]; exact key _ _ h2, by rw [Nat.add_assoc]; exact key _ _ h3⟩)
        (fun i t ht => by
          obtain ⟨c, hci, rfl⟩ := hch i t ht
          simp only [hci, Option.map_some, Option.getD_some]
          exact hk c (List.mem_of_getElem? hci))
        (fun i _ => by unfold World.frozen?; simp [hg])
      rw [hlen] at this
      exact this

/-- one argument more -/
theorem ApSt.step {n₀ k : Nat} {w W A W4 B W5 : World} {bl : List Bd} {nm : ByteArray} {l : List Tm} {v v5 sl : Value} {ch : List (Tm × Value)} {u : Tm} (st : ApSt n₀ w bl nm l k W v ch) (hn : n₀ ≤ w.heap.size) (hu : l[k]? = some u)
    (hA : Below W.heap.size W A) (h4 : Below A.heap.size A W4) (hsl : SlP (fun b => b < n₀ ∨ A.heap.size ≤ b) W4 (apB bl u).ts sl) (hB : Below W4.heap.size W4 B) (h5 : B.grownBy W5 v.ownBlock)
    (ho : W5.ownsRow (w.heap.size + 3) 25 3 v5 (ch.length + 1) (stCells ch ++ [.string (apB bl u).nm, .bool (apB bl u).vr, sl])) (hat : v5.ownBlock = v.ownBlock ∨ v5.ownBlock = some B.heap.size) :
    ApSt n₀ w bl nm l (k + 1) (W5.setCell ⟨w.heap.size + 2, 2, none⟩ v5) v5 (ch ++ [(apB bl u, sl)]) := by
  have zA := hA.size
  have z4 := h4.size
  have zB := hB.size
  have z5 := h5.size
  have zo := (Array.getElem?_eq_some_iff.1 st.out).1
  have zs : (W5.setCell ⟨w.heap.size + 2, 2, none⟩ v5).heap.size = W5.heap.size := by simp [World.setCell]
  have own : ∀ j, v.ownBlock = some j → w.heap.size + 3 ≤ j ∧ j < W.heap.size := fun j hj => st.row.lt j hj
  have old : ∀ b, b < W.heap.size → some b ≠ v.ownBlock → b ≠ w.heap.size + 2 → (W5.setCell ⟨w.heap.size + 2, 2, none⟩ v5).heap[b]? = W.heap[b]? := fun b hb hv h2 => by
    rw [Below.heap_setCell _ _ _ _ h2]
    exact (h5.block b (by omega) hv).trans ((hB.block b (by omega)).trans ((h4.block b (by omega)).trans (hA.block b hb)))
  have hout5 : W5.heap[w.heap.size + 2]? = some (.cells #[.string nm, .bool false, v] 25 (0, 0)) :=
    (h5.block _ (by omega) (fun e => by have := (own _ e.symm).1; omega)).trans ((hB.block _ (by omega)).trans ((h4.block _ (by omega)).trans ((hA.block _ zo).trans st.out)))
  refine ⟨?_, ?_, ?_, ?_, ?_, ?_⟩
  · rw [List.map_append, st.terms, Tm.take_snoc hu, List.map_append]; rfl
  · rw [List.length_append]
    rw [stCells_append]
    have hlt : (⟨w.heap.size + 2, 2, none⟩ : Addr).block < w.heap.size + 3 := Nat.lt_succ_self _
    exact ownsRow_setCell_below ho hlt _
  · intro c hc
    rcases List.mem_append.1 hc with hc | hc
    · refine (st.kids c hc).carry fun b hb => ⟨old b hb.2.1 hb.2.2 (by omega), hb.1, by rw [zs]; omega, ?_⟩
      rcases hat with e | e
      · rw [e]; exact hb.2.2
      · rw [e]; intro h; cases h; omega
    · obtain rfl := List.mem_singleton.1 hc
      refine hsl.lt.carry fun b hb => ⟨?_, by omega, by rw [zs]; omega, ?_⟩
      · rw [Below.heap_setCell _ _ _ _ (by show b ≠ w.heap.size + 2; omega)]
        exact (h5.block b (by omega) (fun e => by have := own _ e.symm; omega)).trans (hB.block b hb.2)
      · rcases hat with e | e
        · rw [e]; intro h; have := own _ h.symm; omega
        · rw [e]; intro h; cases h; omega
  · refine (((st.low.trans (hA.mono (by omega))).trans (h4.mono (by omega))).trans (hB.mono (by omega))).grown h5 (by omega) (fun j hj => by have := own j hj; omega) |>.setCell (p := ⟨w.heap.size + 2, 2, none⟩) (by show w.heap.size ≤ w.heap.size + 2; omega) _
  · have := set1 hout5 2 v5
    simpa using this
  · exact (old _ (by omega) (fun e => by have := (own _ e.symm).1; omega) (by omega)).trans st.ret
end Go.Proofs.YtamddagmlanijaaGreat
/- The reference's Apply: the walk. -/
namespace Go.Proofs.YtamddagmlanijaaGreat
open Go.RowKit

theorem cells_new3 (W : World) (a b c : Value) (e : TypeId) : ∀ j u, [a, b, c][j]? = some u → (W.alloc (.cells #[a, b, c] e)).cell? ((⟨W.heap.size, 0, none⟩ : Addr).add j) = some u := by
  intro j u hj
  rw [ad_add, Nat.zero_add]
  have h := cells_of' (heap_new_at W (.cells #[a, b, c] e) W.heap.size rfl) j
  rw [h, ← Array.getElem?_toList]
  exact hj
/-- the memory at the loop's start -/
theorem ApSt.start {n₀ : Nat} {w W : World} {bl : List Bd} {nm : ByteArray} {l : List Tm} (hb : Below w.heap.size w W) (ho : W.heap[w.heap.size + 2]? = some (.cells #[.string nm, .bool false, .slice none 0 0] 25 (0, 0)))
    (hr : W.heap[w.heap.size + 1]? = some (.cells #[.string ⟨#[]⟩, .bool false, .slice none 0 0] 25 (0, 0))) : ApSt n₀ w bl nm l 0 W (.slice none 0 0) [] :=
  ⟨by simp, World.ownsRow_nil _ _ _ _, by simp, hb, ho, hr⟩

end Go.Proofs.YtamddagmlanijaaGreat
/- Names in their order, renamings, a term in a box. -/
namespace Go.Proofs.YtamddagmlanijaaGreat
open Go.RowKit

theorem addKey_nodup {ss : List Key} (h : ss.Nodup) (k : Key) : (addKey ss k).Nodup := by
  unfold addKey
  split
  · exact h
  · rename_i hk
    rw [List.nodup_append]
    exact ⟨h, by simp, fun a ha b hb e => by simp only [List.mem_singleton] at hb; subst hb; subst e; exact hk ha⟩
theorem firsts_nodup (t : Tm) : ∀ ss : List Key, ss.Nodup → (firsts ss t).Nodup := by
  induction t using Tm.ind with
  | h t ih =>
    intro ss hs
    cases hv : t.vr
    · rw [firsts_fun ss hv]
      revert ih hs ss
      generalize t.ts = l
      intro ih ss hs
      induction l generalizing ss with
      | nil => exact hs
      | cons x l ihl => rw [firstsL_cons]; exact ihl (fun u hu => ih u (by simp [hu])) _ (ih x (by simp) ss hs)
    · rw [firsts_var ss hv]; exact addKey_nodup hs _
theorem imageOf_of {bl : List Bd} {k : Key} {x : Tm} (h : ∃ p ∈ bl, p.1 = k) (hx : ∀ p ∈ bl, p.1 = k → p.2 = x) : imageOf bl k = x := by
  unfold imageOf
  cases hf : bl.find? (fun p => decide (p.1 = k)) with
  | none =>
    obtain ⟨p, hp, e⟩ := h
    exact absurd e (by simpa using List.find?_eq_none.1 hf p hp)
  | some p => exact hx p (List.mem_of_find?_eq_some hf) (by simpa using List.find?_some hf)
/-- a term in a box -/
structure TBx (W : World) (b : Nat) (t : Tm) (s : Value) : Prop where
  box : W.heap[b]? = some (.cells #[.string t.nm, .bool t.vr, s] 25 (0, 0))
  is : SlIs W.heap.size W t.ts s
theorem TBx.carry {A W : World} {b : Nat} {t : Tm} {s : Value} (h : TBx A b t s) (hb : Below A.heap.size A W) : TBx W b t s :=
  ⟨(hb.block b (Array.getElem?_eq_some_iff.1 h.box).1).trans h.box, h.is.carry hb hb.size⟩
theorem TBx.new {A : World} {t : Tm} {s : Value} (h : SlIs A.heap.size A t.ts s) : TBx (A.alloc (.cells #[.string t.nm, .bool t.vr, s] 25)) A.heap.size t s :=
  ⟨heap_new_at _ _ _ rfl, h.carry ((Below.refl _ A).alloc (Nat.le_refl _) _) (by simp)⟩
theorem firsts_names (t : Tm) : ∀ ss : List Key, (∀ x ∈ ss, x.length ≤ 1048576) → t.bulk ≤ 1048576 → ∀ x ∈ firsts ss t, x.length ≤ 1048576 := by
  induction t using Tm.ind with
  | h t ih =>
    intro ss hs hb
    have hbe := Tm.bulk_eq t
    cases hv : t.vr
    · rw [firsts_fun ss hv]
      have hkid : ∀ u ∈ t.ts, u.bulk ≤ 1048576 := fun u hu => by have := Tm.bulk_mem hu; omega
      revert ih hs ss hkid
      generalize t.ts = l
      intro ih ss hs hkid
      induction l generalizing ss with
      | nil => exact hs
      | cons x l ihl => rw [firstsL_cons]; exact ihl (fun u hu => ih u (by simp [hu])) _ (ih x (by simp) ss hs (hkid x (by simp))) (fun u hu => hkid u (by simp [hu]))
    · rw [firsts_var ss hv]
      intro x hx
      unfold addKey at hx
      split at hx
      · exact hs x hx
      · rcases List.mem_append.1 hx with hx | hx
        · exact hs x hx
        · obtain rfl := List.mem_singleton.1 hx
          rw [bytes_len]; omega

end Go.Proofs.YtamddagmlanijaaGreat
