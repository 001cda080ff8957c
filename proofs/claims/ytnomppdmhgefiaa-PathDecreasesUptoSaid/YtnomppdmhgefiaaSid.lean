/- Rules in memory; sides(r) gives an iterator over the terms of the rules. -/
import Derived.Test.YtnomppdmhgefiaaDp
import Derived.Test.YtnomppdmhgefiaaRck
namespace Go.Proofs.Ytnomppdmhgefiaa
open Go.RowKit Go.Shelf
attribute [local go_sem] Oper.semAt_some

abbrev Rl := Tm × Tm
/-- a term with the slice value of its arguments -/
abbrev TmV := Tm × Value
abbrev RlV := TmV × TmV
/-- the slice value v holds these rules, in blocks below n -/
def RulV (n : Nat) (W : World) (l : List RlV) (v : Value) : Prop :=
  ∃ oa cap, v = .slice oa l.length cap ∧ l.length ≤ cap ∧
    (l ≠ [] → ∃ b o, oa = some ⟨b, o, none⟩ ∧ b < n ∧ ∀ i p, l[i]? = some p → (W.cell? ⟨b, o + i * 6, none⟩ = some (.string p.1.1.nm) ∧ W.cell? ⟨b, o + i * 6 + 1, none⟩ = some (.bool p.1.1.vr) ∧ W.cell? ⟨b, o + i * 6 + 2, none⟩ = some p.1.2 ∧
      W.cell? ⟨b, o + i * 6 + 3, none⟩ = some (.string p.2.1.nm) ∧ W.cell? ⟨b, o + i * 6 + 4, none⟩ = some (.bool p.2.1.vr) ∧ W.cell? ⟨b, o + i * 6 + 5, none⟩ = some p.2.2) ∧ SlIs n W p.1.1.ts p.1.2 ∧ SlIs n W p.2.1.ts p.2.2)
theorem RulV.carry {n m : Nat} {A B : World} {l : List RlV} {v : Value} (h : RulV n A l v) (hb : Below n A B) (hn : n ≤ m) : RulV m B l v := by
  obtain ⟨oa, cap, rfl, h1, h3⟩ := h
  refine ⟨oa, cap, rfl, h1, fun hne => ?_⟩
  obtain ⟨b, o, rfl, hbn, hc⟩ := h3 hne
  refine ⟨b, o, rfl, by omega, fun i p hk => ?_⟩
  obtain ⟨⟨c0, c1, c2, c3, c4, c5⟩, hs, ht⟩ := hc i p hk
  exact ⟨⟨(hb.cell (p := ⟨b, _, none⟩) hbn).trans c0, (hb.cell (p := ⟨b, _, none⟩) hbn).trans c1, (hb.cell (p := ⟨b, _, none⟩) hbn).trans c2, (hb.cell (p := ⟨b, _, none⟩) hbn).trans c3, (hb.cell (p := ⟨b, _, none⟩) hbn).trans c4, (hb.cell (p := ⟨b, _, none⟩) hbn).trans c5⟩, hs.carry hb hn, ht.carry hb hn⟩
theorem RulV.shape {n : Nat} {W : World} {l : List RlV} {v : Value} (h : RulV n W l v) : ∃ oa cap, v = .slice oa l.length cap := by obtain ⟨oa, cap, rfl, -⟩ := h; exact ⟨oa, cap, rfl⟩
/-- a rule's cells -/
theorem RulV.get {n : Nat} {W : World} {l : List RlV} {oa : Option Addr} {cap k : Nat} (h : RulV n W l (.slice oa l.length cap)) (hk : k < l.length) :
    ∃ (b o : Nat) (s t : Tm) (os ot : Option Addr) (cs ct : Nat), oa = some ⟨b, o, none⟩ ∧ b < n ∧ l[k]? = some ((s, .slice os s.ts.length cs), (t, .slice ot t.ts.length ct)) ∧ SlIs n W s.ts (.slice os s.ts.length cs) ∧ SlIs n W t.ts (.slice ot t.ts.length ct) ∧
      W.cell? ⟨b, o + k * 6, none⟩ = some (.string s.nm) ∧ W.cell? ⟨b, o + k * 6 + 1, none⟩ = some (.bool s.vr) ∧ W.cell? ⟨b, o + k * 6 + 2, none⟩ = some (.slice os s.ts.length cs) ∧
      W.cell? ⟨b, o + k * 6 + 3, none⟩ = some (.string t.nm) ∧ W.cell? ⟨b, o + k * 6 + 4, none⟩ = some (.bool t.vr) ∧ W.cell? ⟨b, o + k * 6 + 5, none⟩ = some (.slice ot t.ts.length ct) := by
  obtain ⟨oa', cap', he, -, h3⟩ := h
  simp only [Value.slice.injEq, true_and] at he
  obtain ⟨rfl, rfl⟩ := he
  obtain ⟨b, o, rfl, hb, hc⟩ := h3 (by rintro rfl; simp at hk)
  have hp : l[k]? = some l[k] := List.getElem?_eq_getElem hk
  obtain ⟨⟨c0, c1, c2, c3, c4, c5⟩, hs, ht⟩ := hc k _ hp
  obtain ⟨os, cs, e1, -⟩ := hs.form
  obtain ⟨ot, ct, e2, -⟩ := ht.form
  refine ⟨b, o, l[k].1.1, l[k].2.1, os, ot, cs, ct, rfl, hb, ?_, by rw [← e1]; exact hs, by rw [← e2]; exact ht, c0, c1, by rw [← e1]; exact c2, c3, c4, by rw [← e2]; exact c5⟩
  rw [hp, ← e1, ← e2]
def sidesV : List RlV → List TmV
  | [] => []
  | p :: l => p.1 :: p.2 :: sidesV l
theorem sidesV_append (l r : List RlV) : sidesV (l ++ r) = sidesV l ++ sidesV r := by
  induction l with
  | nil => rfl
  | cons p l ih => simp only [List.cons_append, sidesV, ih]
theorem sidesV_length (l : List RlV) : (sidesV l).length = 2 * l.length := by
  induction l with
  | nil => rfl
  | cons p l ih => simp only [sidesV, List.length_cons, ih]; omega
theorem sidesV_take (k : Nat) (l : List RlV) : sidesV (l.take k) <+: sidesV l := ⟨sidesV (l.drop k), by rw [← sidesV_append, List.take_append_drop]⟩
@[reducible] def TmV.encs (x : TmV) : Array Value := #[.agg #[.string x.1.nm, .bool x.1.vr, x.2]]

set_option maxRecDepth 100000 in
set_option maxHeartbeats 1000000 in
theorem sides_in (F : Fence) (n : Nat) (hf : F.fn 19) (hro : F.round = none) (v : Value) (hv : ∃ oa l c, v = .slice oa l c) (w : World) :
    CallsIn F n Try.prog 19 #[v] w fun e w' =>
      e = .returned (.func (.func 34) #[] #[.pointer (some ⟨w.heap.size, 0, none⟩)]) ∧ w' = w.alloc (.cells #[v] 23) := by
  obtain ⟨oa, l, c, rfl⟩ := hv
  refine callsIn_of_wp Try.func19 rfl hf ?_ hro
  simp only [Try.ntmps19, List.size_toArray, List.length_cons, List.length_nil, Nat.reduceAdd, Nat.reduceSub, Array.replicate_succ, Array.replicate_zero, List.push_toArray, List.append_toArray, List.nil_append, List.cons_append]
  gi_wp2
  go_ret
  exact ⟨rfl, rfl⟩

set_option maxRecDepth 100000 in
set_option maxHeartbeats 4000000 in
theorem sides1_in (F : Fence) (hd : F.depth = none) (n : Nat) (hf : F.fn 34) (hro : F.round = none) (lp Bt n₀ m₀ : Nat) (l : List RlV) (s : Value) (J Jx : List TmV → World → Prop) (hJ : ∀ s A o, J s A → J s (World.alloc A o))
    (hnm : n₀ ≤ m₀)
    (hY : ∀ pre (x : TmV) W, J pre W → pre ++ [x] <+: sidesV l → YieldAt F (n - 1) Try.prog lp x.encs W fun e W' =>
      (e = .returned (.bool true) ∧ J (pre ++ [x]) W' ∧ Keep n₀ m₀ W W') ∨ (e = .returned (.bool false) ∧ Jx (pre ++ [x]) W'))
    (W : World) (hm : m₀ ≤ W.heap.size) (h0 : W.cell? ⟨Bt, 0, none⟩ = some s) (hs : RulV n₀ W l s) (hl : l.length ≤ 1048576) (hJ0 : J [] W) :
    CallsIn F n Try.prog 34 #[.func (.yield lp) #[] #[], .pointer (some ⟨Bt, 0, none⟩)] W fun e W' => (∃ v, e = .returned v) ∧
      (J (sidesV l) W' ∨ (∃ pre : List TmV, pre <+: sidesV l ∧ Jx pre W')) := by
  have hdd : ∀ k : Nat, (F.depth.isSome = true → 1 ≤ k) := fun k h => by rw [hd] at h; cases h
  have hsl := sidesV_length l
  have HY := Lib.hid hY
  have HS := Lib.hid hs
  obtain ⟨oa, cap, rfl, -, -⟩ := hs
  clear hY
  refine callsIn_of_wp Try.func34 rfl hf ?_ hro
  simp only [Try.ntmps34, List.size_toArray, List.length_cons, List.length_nil, Nat.reduceAdd, Nat.reduceSub, Array.replicate_succ, Array.replicate_zero, List.push_toArray, List.append_toArray, List.nil_append, List.cons_append]
  gi_wp2_with fail
  gi_loopw [7] (fun i wr => ∃ k : Nat, k ≤ l.length ∧ i = .int .i64 k ∧ J (sidesV (l.take k)) wr ∧ Below n₀ W wr ∧ m₀ ≤ wr.heap.size) (fun i _ => l.length - (intOf i).toNat)
  case atStart => exact ⟨0, by omega, rfl, by simpa [sidesV] using hJ0, Below.refl _ _, hm⟩
  case round =>
    obtain ⟨k, hk, rfl, hJw, hbw, hmw⟩ := hrel
    by_cases hlt : k < l.length
    · obtain ⟨b, o, x, y, ox, oy, cx, cy, rfl, hbn, hp, hsx, hsy, c0, c1, c2, c3, c4, c5⟩ := (HS.out.carry hbw (Nat.le_refl _)).get hlt
      have HP := Lib.hid hp
      have hpre : (sidesV (l.take k)).length = 2 * k := by rw [sidesV_length, List.length_take]; omega
      have hz0 := hbw.size
      have HTK : Hid (sidesV (l.take (k + 1)) = (sidesV (l.take k) ++ [(x, .slice ox x.ts.length cx)]) ++ [(y, .slice oy y.ts.length cy)]) := Lib.hid (by
        rw [List.take_add_one, hp, sidesV_append, List.append_assoc]; rfl)
      clear hp
      have HPX : Hid (sidesV (l.take k) ++ [(x, .slice ox x.ts.length cx)] <+: sidesV l ∧ (sidesV (l.take k) ++ [(x, .slice ox x.ts.length cx)]) ++ [(y, .slice oy y.ts.length cy)] <+: sidesV l) := Lib.hid (by
        have h1 := sidesV_take (k + 1) l
        rw [HTK.out] at h1
        exact ⟨(List.prefix_append _ _).trans h1, h1⟩)
      obtain ⟨fn, tmps, assign, body, hy, hR⟩ := HY.out (sidesV (l.take k)) (x, .slice ox x.ts.length cx) _ (hJ _ _ (.cells #[.string x.nm, .bool x.vr, .slice ox x.ts.length cx, .string y.nm, .bool y.vr, .slice oy y.ts.length cy] 42) hJw) HPX.out.1
      gi_wp2_with fail
      refine hR.mono ?_
      clear hR hy
      rintro e W1 (⟨rfl, hJ1, hk1⟩ | ⟨rfl, hJx1⟩)
      · have b3 := hk1.new hmw 3
        have b4 := hk1.new hmw 4
        have b5 := hk1.new hmw 5
        simp only [List.getElem?_toArray, List.getElem?_cons_zero, List.getElem?_cons_succ] at b3 b4 b5
        have hb1 : Below n₀ wr W1 := Below.trans ((Below.refl n₀ wr).alloc (by omega) _) hk1.below
        have hz1 := hk1.below.size
        have HB1 := Lib.hid (hbw.trans hb1)
        obtain ⟨fn2, tmps2, assign2, body2, hy2, hR2⟩ := HY.out _ (y, .slice oy y.ts.length cy) W1 hJ1 HPX.out.2
        clear hJ1 hk1 hb1
        gi_wp2_with fail
        refine hR2.mono ?_
        clear hR2 hy2
        rintro e W2 (⟨rfl, hJ2, hk2⟩ | ⟨rfl, hJx2⟩)
        · rw [← HTK.out] at hJ2
          have hz2 := hk2.below.size
          have HB2 := Lib.hid (HB1.out.trans hk2.below)
          have HJ2 := Lib.hid hJ2
          clear hJ2 hk2
          gi_wp2_with fail
          exact ⟨⟨k + 1, by omega, by go_num, HJ2.out, HB2.out, by simp at hz1; omega⟩, by simp [intOf]; omega⟩
        · have HJ2 := Lib.hid hJx2
          clear hJx2
          gi_wp2_with fail
          refine bodyPost_ret (results_none rfl _ _ _) rfl ?_
          exact ⟨⟨_, rfl⟩, .inr ⟨_, HPX.out.2, HJ2.out⟩⟩
      · have HJ1 := Lib.hid hJx1
        clear hJx1
        gi_wp2_with fail
        refine ⟨fun f h => (by cases h), ?_⟩
        gi_wp2_with fail
        refine bodyPost_ret (results_none rfl _ _ _) rfl ?_
        exact ⟨⟨_, rfl⟩, .inr ⟨_, HPX.out.1, HJ1.out⟩⟩
    · obtain rfl : k = l.length := by omega
      rw [List.take_length] at hJw
      have HJ := Lib.hid hJw
      gi_wp2_with fail
      go_end0
      exact ⟨⟨_, rfl⟩, .inl HJ.out⟩
theorem RulV.mem {n : Nat} {W : World} {l : List RlV} {v : Value} (h : RulV n W l v) {x : TmV} (hx : x ∈ sidesV l) : SlIs n W x.1.ts x.2 := by
  obtain ⟨oa, cap, rfl, -, h3⟩ := h
  by_cases hl : l = []
  · subst hl; cases hx
  obtain ⟨b, o, -, -, hc⟩ := h3 hl
  have key : ∀ l' : List RlV, (∀ p ∈ l', p ∈ l) → x ∈ sidesV l' → ∃ p ∈ l, x = p.1 ∨ x = p.2 := by
    intro l'
    induction l' with
    | nil => intro _ h; cases h
    | cons p l' ih =>
      intro hm h
      simp only [sidesV, List.mem_cons] at h
      rcases h with h | h | h
      · exact ⟨p, hm p (by simp), .inl h⟩
      · exact ⟨p, hm p (by simp), .inr h⟩
      · exact ih (fun q hq => hm q (by simp [hq])) h
  obtain ⟨p, hp, hxp⟩ := key l (fun _ h => h) hx
  obtain ⟨i, hi, rfl⟩ := List.getElem_of_mem hp
  obtain ⟨-, hs, ht⟩ := hc i _ (List.getElem?_eq_getElem hi)
  rcases hxp with rfl | rfl
  · exact hs
  · exact ht
/-- one of the terms of the rules -/
abbrev SdV (l : List RlV) := {x : TmV // x ∈ sidesV l}
/-- THE ITERATOR'S CONTRACT. -/
theorem sides_stops (F : Fence) (hd : F.depth = none) (n : Nat) (hf : F.fn 34) (hro : F.round = none) (Bt n₀ : Nat) (l : List RlV) (s : Value) (w : World) (hBt : Bt < w.heap.size) (hn : n₀ ≤ w.heap.size)
    (h0 : w.cell? ⟨Bt, 0, none⟩ = some s) (hs : RulV n₀ w l s) (hl : l.length ≤ 1048576) :
    SeqStopsK F n Try.prog 34 #[.pointer (some ⟨Bt, 0, none⟩)] (fun x : SdV l => x.1.encs) (Keep n₀ w.heap.size) (fun ys => ys.map Subtype.val = sidesV l) (fun pre => pre.map Subtype.val <+: sidesV l) (sidesV l).length w := fun lp J Jx W hW hJ _ hY hJ0 =>
  (sides1_in F hd n hf hro lp Bt n₀ w.heap.size l s (fun pre W => ∃ ys : List (SdV l), ys.map Subtype.val = pre ∧ J ys W) (fun pre W => ∃ ys : List (SdV l), ys.map Subtype.val = pre ∧ Jx ys W)
    (fun s A o ⟨ys, h1, h⟩ => ⟨ys, h1, hJ ys A _ none h (World.grownBy_alloc A o none) (fun r e => by cases e)⟩) hn
    (fun pre x W ⟨ys, h1, h⟩ hp => by
      have hx : x ∈ sidesV l := hp.subset (by simp)
      have hlen : ys.length < (sidesV l).length := by
        have := hp.length_le
        rw [List.length_append, ← h1, List.length_map] at this
        simp at this
        omega
      obtain ⟨fn, tmps, assign, body, hy, hR⟩ := hY ys ⟨x, hx⟩ W h hlen
      refine ⟨fn, tmps, assign, body, hy, hR.mono ?_⟩
      rintro e W' (⟨he, hj, hk⟩ | ⟨he, hj⟩)
      · exact .inl ⟨he, ⟨ys ++ [⟨x, hx⟩], by simp [h1], hj⟩, hk⟩
      · exact .inr ⟨he, ⟨ys ++ [⟨x, hx⟩], by simp [h1], hj⟩⟩)
    W hW.size
    ((hW.cell (p := ⟨Bt, 0, none⟩) hBt).trans h0) (hs.carry (hW.mono hn) (Nat.le_refl _)) hl ⟨[], rfl, hJ0⟩).mono fun e W' ⟨h1, h2⟩ => ⟨h1, h2.imp (fun ⟨ys, h, hj⟩ => ⟨ys, h, hj⟩) (fun ⟨pre, hp, ys, h, hj⟩ => ⟨ys, by show List.map Subtype.val ys <+: _; rw [h]; exact hp, hj⟩)⟩
end Go.Proofs.Ytnomppdmhgefiaa
