/- Packed: Sln. -/
import Derived.Test.YtnomppdmhgefiaaGreatF06
import Derived.Test.YtnomppdmhgefiaaGreatF05
/- Terms in blocks below n other than q, bindings of such terms; the reference's Image and Apply on them. -/
namespace Go.Proofs.YtnomppdmhgefiaaGreat
open Go.RowKit

/-- the slice value s holds the terms l, in blocks below n other than the three of q -/
def SlN (q : Nat × Nat × Nat) (n : Nat) (W : World) (l : List Tm) (s : Value) : Prop := SlP (fun b => b < n ∧ b ≠ q.1 ∧ b ≠ q.2.1 ∧ b ≠ q.2.2) W l s
theorem SlN.nil0 (q : Nat × Nat × Nat) (n : Nat) (W : World) : SlN q n W [] (.slice none 0 0) := SlP.nil0
theorem SlN.toIs {q : Nat × Nat × Nat} {n : Nat} {W : World} {l : List Tm} {s : Value} (h : SlN q n W l s) : SlIs n W l s := SlP.toIs h fun _ hb => hb.1
theorem SlP.toN {p : Nat → Prop} {q : Nat × Nat × Nat} {m : Nat} {W : World} {l : List Tm} {s : Value} (h : SlP p W l s) (hp : ∀ b, p b → b < m ∧ b ≠ q.1 ∧ b ≠ q.2.1 ∧ b ≠ q.2.2) : SlN q m W l s := h.carry fun b hb => ⟨rfl, hp b hb⟩
theorem SlN.toP {q : Nat × Nat × Nat} {n : Nat} {W : World} {l : List Tm} {s : Value} (h : SlN q n W l s) : SlP (fun b => b < n ∧ b ≠ q.1 ∧ b ≠ q.2.1 ∧ b ≠ q.2.2) W l s := h
theorem SlN.form {q : Nat × Nat × Nat} {n : Nat} {W : World} {l : List Tm} {s : Value} (h : SlN q n W l s) : ∃ oa cap, s = .slice oa l.length cap ∧ True := by
  obtain ⟨oa, cap, e⟩ := SlP.form h
  exact ⟨oa, cap, e, trivial⟩
theorem SlN.carry {q : Nat × Nat × Nat} {n m : Nat} {A B : World} {l : List Tm} {s : Value} (h : SlN q n A l s) (hb : Below n A B) (hn : n ≤ m) : SlN q m B l s := SlP.carry (fun b hb' => ⟨hb.block b hb'.1, Nat.lt_of_lt_of_le hb'.1 hn, hb'.2⟩) h
theorem SlN.get {q : Nat × Nat × Nat} {n₀ : Nat} {W : World} {l : List Tm} {oa : Option Addr} {n cap k : Nat} (h : SlN q n₀ W l (.slice oa n cap)) (hk : k < l.length) :
    ∃ (b o : Nat) (u : Tm) (s : Value), oa = some ⟨b, o, none⟩ ∧ b < n₀ ∧ l[k]? = some u ∧ u ∈ l ∧ SlN q n₀ W u.ts s ∧
      W.cell? ⟨b, o + k * 3, none⟩ = some (.string u.nm) ∧ W.cell? ⟨b, o + k * 3 + 1, none⟩ = some (.bool u.vr) ∧ W.cell? ⟨b, o + k * 3 + 2, none⟩ = some s := by
  cases h with
  | nil0 => simp at hk
  | nil1 a cap => simp at hk
  | row b o cap l s hl hb hc cells hs hf =>
    have hu : l[k]? = some l[k] := List.getElem?_eq_getElem hk
    obtain ⟨h1, h2, h3⟩ := cells k _ hu
    exact ⟨b, o, l[k], s k, rfl, hb.1, hu, List.getElem_mem hk, hs k _ hu, h1, h2, h3⟩
/-- bindings of such terms; the row itself lies anywhere below n -/
def BindsN (q : Nat × Nat × Nat) (n : Nat) (W : World) (bl : List Bd) (v : Value) : Prop :=
  ∃ oa cap, v = .slice oa bl.length cap ∧ bl.length ≤ cap ∧
    (bl ≠ [] → ∃ b o, oa = some ⟨b, o, none⟩ ∧ b < n ∧ ∀ i p, bl[i]? = some p → ∃ s, W.cell? ⟨b, o + i * 4, none⟩ = some (.string (kb p.1)) ∧ W.cell? ⟨b, o + i * 4 + 1, none⟩ = some (.string p.2.nm) ∧ W.cell? ⟨b, o + i * 4 + 2, none⟩ = some (.bool p.2.vr) ∧ W.cell? ⟨b, o + i * 4 + 3, none⟩ = some s ∧ SlN q n W p.2.ts s)
theorem BindsN.carry {q : Nat × Nat × Nat} {n m : Nat} {A B : World} {l : List Bd} {v : Value} (h : BindsN q n A l v) (hb : Below n A B) (hn : n ≤ m) : BindsN q m B l v := by
  obtain ⟨oa, cap, rfl, h1, h3⟩ := h
  refine ⟨oa, cap, rfl, h1, fun hne => ?_⟩
  obtain ⟨b, o, rfl, hbn, hc⟩ := h3 hne
  refine ⟨b, o, rfl, by omega, fun i p hk => ?_⟩
  obtain ⟨s, c0, c1, c2, c3, hs⟩ := hc i p hk
  exact ⟨s, (hb.cell (p := ⟨b, _, none⟩) hbn).trans c0, (hb.cell (p := ⟨b, _, none⟩) hbn).trans c1, (hb.cell (p := ⟨b, _, none⟩) hbn).trans c2, (hb.cell (p := ⟨b, _, none⟩) hbn).trans c3, hs.carry hb hn⟩

theorem BindsN.toIs {q : Nat × Nat × Nat} {n : Nat} {W : World} {bl : List Bd} {v : Value} (h : BindsN q n W bl v) : BindsIs n W bl v := by
  obtain ⟨oa, cap, e, h1, h3⟩ := h
  refine ⟨oa, cap, e, h1, fun hne => ?_⟩
  obtain ⟨b, o, e2, hbn, hc⟩ := h3 hne
  refine ⟨b, o, e2, hbn, fun i p hk => ?_⟩
  obtain ⟨s, c0, c1, c2, c3, hs⟩ := hc i p hk
  exact ⟨s, c0, c1, c2, c3, hs.toIs⟩
theorem BindsN.get {q : Nat × Nat × Nat} {n : Nat} {W : World} {bl : List Bd} {oa : Option Addr} {cap k : Nat} (h : BindsN q n W bl (.slice oa bl.length cap)) (hk : k < bl.length) :
    ∃ (b o : Nat) (p : Bd) (s : Value), oa = some ⟨b, o, none⟩ ∧ b < n ∧ bl[k]? = some p ∧ p ∈ bl ∧ SlN q n W p.2.ts s ∧
      W.cell? ⟨b, o + k * 4, none⟩ = some (.string (kb p.1)) ∧ W.cell? ⟨b, o + k * 4 + 1, none⟩ = some (.string p.2.nm) ∧ W.cell? ⟨b, o + k * 4 + 2, none⟩ = some (.bool p.2.vr) ∧ W.cell? ⟨b, o + k * 4 + 3, none⟩ = some s := by
  obtain ⟨oa', cap', he, -, h3⟩ := h
  simp only [Value.slice.injEq, true_and] at he
  obtain ⟨rfl, rfl⟩ := he
  obtain ⟨b, o, rfl, hb, hc⟩ := h3 (by rintro rfl; simp at hk)
  have hp : bl[k]? = some bl[k] := List.getElem?_eq_getElem hk
  obtain ⟨s, c0, c1, c2, c3, hs⟩ := hc k _ hp
  exact ⟨b, o, bl[k], s, rfl, hb, hp, List.getElem_mem hk, hs, c0, c1, c2, c3⟩

set_option maxRecDepth 100000 in
set_option maxHeartbeats 2000000 in
theorem rimage_q (bl : List Bd) (k : Key) (v : Value) (w : World) (q : Nat × Nat × Nat) (n : Nat) (hn : n ≤ w.heap.size) (hl : BindsN q n w bl v) (hlen : bl.length ≤ 100000000) :
    Calls Tryz.prog 54 #[v, .string (kb k)] w fun e w' => (∃ sl, e = .returned (tmv (imageOf bl k) sl) ∧ SlN q n w' (imageOf bl k).ts sl) ∧ Below w.heap.size w w' := by
  obtain ⟨oa, cap, rfl, hcap, hc⟩ := hl
  have HC := Lib.hid hc
  clear hc
  have hr0 : Below w.heap.size w (w.alloc (.cells #[.string ⟨#[]⟩, .bool false, .slice none 0 0] 25)) := by go_grown
  have HR0 := Lib.hid (heap_new_at w (.cells #[.string ⟨#[]⟩, .bool false, .slice none 0 0] 25) w.heap.size rfl)
  have HB0 := Lib.hid hr0
  clear hr0
  go_enter Tryz.func54, Tryz.ntmps54
  go_wp2_with fail
  go_loopw [9] (fun i wr => ∃ j : Nat, j ≤ bl.length ∧ i = .int .i64 j ∧ Hid (∀ q ∈ bl.take j, q.1 ≠ k) ∧ Below (w.heap.size + 1) (w.alloc (.cells #[.string ⟨#[]⟩, .bool false, .slice none 0 0] 25)) wr) (fun i _ => bl.length - (intOf i).toNat)
  case atStart => exact ⟨0, by omega, rfl, Lib.hid (by simp), Below.refl _ _⟩
  case round =>
    obtain ⟨j, hj, rfl, HE, hbw⟩ := hrel
    have hz := hbw.size
    simp only [World.size_alloc] at hz
    have hwr := HB0.out.trans (hbw.mono (by omega))
    have HWR := Lib.hid hwr
    by_cases hlt : j < bl.length
    · obtain ⟨p, hp⟩ : ∃ p, bl[j]? = some p := ⟨_, List.getElem?_eq_getElem hlt⟩
      obtain ⟨b1, o1, rfl, hbn, hc1⟩ := HC.out (by rintro rfl; simp at hlt)
      obtain ⟨s, c0, c1, c2, c3, hs⟩ := hc1 j p hp
      have c0 := (hwr.cell (p := ⟨b1, _, none⟩) (Nat.lt_of_lt_of_le hbn hn)).trans c0
      have c1 := (hwr.cell (p := ⟨b1, _, none⟩) (Nat.lt_of_lt_of_le hbn hn)).trans c1
      have c2 := (hwr.cell (p := ⟨b1, _, none⟩) (Nat.lt_of_lt_of_le hbn hn)).trans c2
      have c3 := (hwr.cell (p := ⟨b1, _, none⟩) (Nat.lt_of_lt_of_le hbn hn)).trans c3
      obtain ⟨os, cs, rfl, -⟩ := hs.form
      have HP := Lib.hid hp
      have HS := Lib.hid hs
      have HBW := Lib.hid hbw
      clear hc1 hp hs hbw hwr
      by_cases hxk : p.1 = k
      · have hbb := kb_beq_yes hxk
        have HI := Lib.hid (imageOf_hit HE.out HP.out hxk)
        clear hxk
        have hr := (Below.heap_alloc wr (.cells #[.string (kb p.1), .string p.2.nm, .bool p.2.vr, .slice os p.2.ts.length cs] 105) w.heap.size (by omega)).trans ((HBW.out.block w.heap.size (by omega)).trans HR0.out)
        obtain ⟨⟨r0, r1, r2⟩, f0, f1, f2⟩ := box3 hr
        have HR := Lib.hid hr
        clear hr
        go_wp2_with fail
        have hq := box3_set HR.out (.string p.2.nm) (.bool p.2.vr) (.slice os p.2.ts.length cs)
        obtain ⟨⟨q0, q1, q2⟩, -⟩ := box3 hq
        have hbf := below_set3 ((HWR.out.alloc (by omega) (.cells #[.string (kb p.1), .string p.2.nm, .bool p.2.vr, .slice os p.2.ts.length cs] 105))) (Nat.le_refl _) (.string p.2.nm) (.bool p.2.vr) (.slice os p.2.ts.length cs)
        refine bodyPost_ret (v := tmv p.2 (.slice os p.2.ts.length cs)) (by simp [results, Tryz.f54, go_sem, q0, q1, q2, tmv]) rfl ?_
        rw [HI.out]
        exact ⟨⟨_, rfl, HS.out.carry (hbf.mono hn) (Nat.le_refl _)⟩, hbf⟩
      · have hbb := kb_beq_no hxk
        have HX := Lib.hid hxk
        clear hxk
        go_wp2_with fail
        exact ⟨⟨j + 1, by omega, by go_num, Lib.hid (fun q hq => by
          rw [List.take_add_one, HP.out] at hq
          simp only [Option.toList_some, List.mem_append, List.mem_singleton] at hq
          rcases hq with hq | rfl
          · exact HE.out q hq
          · exact HX.out), HBW.out.alloc (by omega) _⟩, by simp [intOf]; omega⟩
    · have HI := Lib.hid (imageOf_miss (bl := bl) (k := k) (by have h := HE.out; rwa [List.take_of_length_le (by omega)] at h))
      have hr := (hbw.block w.heap.size (by omega)).trans HR0.out
      obtain ⟨⟨r0, r1, r2⟩, f0, f1, f2⟩ := box3 hr
      have HR := Lib.hid hr
      clear hr
      go_wp2_with fail
      have hq := box3_set HR.out (.string (kb k)) (.bool true) (.slice none 0 0)
      obtain ⟨⟨q0, q1, q2⟩, -⟩ := box3 hq
      have hbf := below_set3 HWR.out (Nat.le_refl _) (.string (kb k)) (.bool true) (.slice none 0 0)
      refine bodyPost_ret (v := tmv (.mk (kb k) true []) (.slice none 0 0)) (by simp [results, Tryz.f54, go_sem, q0, q1, q2, tmv, Tm.nm, Tm.vr]) rfl ?_
      rw [HI.out]
      exact ⟨⟨_, rfl, SlN.nil0 _ _ _⟩, hbf⟩

/-- k arguments being done -/
structure ApSq (q : Nat × Nat × Nat) (n₀ : Nat) (w : World) (bl : List Bd) (nm : ByteArray) (l : List Tm) (k : Nat) (W : World) (v : Value) (ch : List (Tm × Value)) : Prop where
  terms : ch.map (·.1) = (l.take k).map (apB bl)
  row : W.ownsRow (w.heap.size + 3) 25 3 v ch.length (stCells ch)
  kids : ∀ c ∈ ch, SlP (fun b => ((b < n₀ ∧ b ≠ q.1 ∧ b ≠ q.2.1 ∧ b ≠ q.2.2) ∨ w.heap.size + 3 ≤ b) ∧ b < W.heap.size ∧ some b ≠ v.ownBlock) W c.1.ts c.2
  low : Below w.heap.size w W
  out : W.heap[w.heap.size + 2]? = some (.cells #[.string nm, .bool false, v] 25 (0, 0))
  ret : W.heap[w.heap.size + 1]? = some (.cells #[.string ⟨#[]⟩, .bool false, .slice none 0 0] 25 (0, 0))

/-- one argument more -/
theorem ApSq.step {q : Nat × Nat × Nat} {n₀ k : Nat} {w W A W4 B W5 : World} {bl : List Bd} {nm : ByteArray} {l : List Tm} {v v5 sl : Value} {ch : List (Tm × Value)} {u : Tm} (st : ApSq q n₀ w bl nm l k W v ch) (hn : n₀ ≤ w.heap.size) (hu : l[k]? = some u)
    (hA : Below W.heap.size W A) (h4 : Below A.heap.size A W4) (hsl : SlP (fun b => (b < n₀ ∧ b ≠ q.1 ∧ b ≠ q.2.1 ∧ b ≠ q.2.2) ∨ A.heap.size ≤ b) W4 (apB bl u).ts sl) (hB : Below W4.heap.size W4 B) (h5 : B.grownBy W5 v.ownBlock)
    (ho : W5.ownsRow (w.heap.size + 3) 25 3 v5 (ch.length + 1) (stCells ch ++ [.string (apB bl u).nm, .bool (apB bl u).vr, sl])) (hat : v5.ownBlock = v.ownBlock ∨ v5.ownBlock = some B.heap.size) :
    ApSq q n₀ w bl nm l (k + 1) (W5.setCell ⟨w.heap.size + 2, 2, none⟩ v5) v5 (ch ++ [(apB bl u, sl)]) := by
  have zA := hA.size
  have z4 := h4.size
  have zB := hB.size
  have z5 := h5.size
  have zo := (Array.getElem?_eq_some_iff.1 st.out).1
  have zs : (W5.setCell ⟨w.heap.size + 2, 2, none⟩ v5).heap.size = W5.heap.size := by simp [World.setCell]
  have own : ∀ j, v.ownBlock = some j → w.heap.size + 3 ≤ j ∧ j < W.heap.size := fun j hj => st.row.lt j hj
  have old : ∀ b, b < W.heap.size → some b ≠ v.ownBlock → b ≠ w.heap.size + 2 → (W5.setCell ⟨w.heap.size + 2, 2, none⟩ v5).heap[b]? = W.heap[b]? := fun b hb hv h2 => by
    rw [Below.heap_setCell _ _ _ _ h2]
    exact (h5.block b (by omega) hv).trans ((hB.block b (by omega)).trans ((h4.block b (by omega)).trans (hA.block b hb)))
  have hout5 : W5.heap[w.heap.size + 2]? = some (.cells #[.string nm, .bool false, v] 25 (0, 0)) :=
    (h5.block _ (by omega) (fun e => by have := (own _ e.symm).1; omega)).trans ((hB.block _ (by omega)).trans ((h4.block _ (by omega)).trans ((hA.block _ zo).trans st.out)))
  refine ⟨?_, ?_, ?_, ?_, ?_, ?_⟩
  · rw [List.map_append, st.terms, Tm.take_snoc hu, List.map_append]; rfl
  · rw [List.length_append]
    rw [stCells_append]
    have hlt : (⟨w.heap.size + 2, 2, none⟩ : Addr).block < w.heap.size + 3 := Nat.lt_succ_self _
    exact ownsRow_setCell_below ho hlt _
  · intro c hc
    rcases List.mem_append.1 hc with hc | hc
    · refine (st.kids c hc).carry fun b hb => ⟨old b hb.2.1 hb.2.2 (by omega), hb.1, by rw [zs]; omega, ?_⟩
      rcases hat with e | e
      · rw [e]; exact hb.2.2
      · rw [e]; intro h; cases h; omega
    · obtain rfl := List.mem_singleton.1 hc
      refine hsl.lt.carry fun b hb => ⟨?_, by omega, by rw [zs]; omega, ?_⟩
      · rw [Below.heap_setCell _ _ _ _ (by show b ≠ w.heap.size + 2; omega)]
        exact (h5.block b (by omega) (fun e => by have := own _ e.symm; omega)).trans (hB.block b hb.2)
      · rcases hat with e | e
        · rw [e]; intro h; have := own _ h.symm; omega
        · rw [e]; intro h; cases h; omega
  · refine (((st.low.trans (hA.mono (by omega))).trans (h4.mono (by omega))).trans (hB.mono (by omega))).grown h5 (by omega) (fun j hj => by have := own j hj; omega) |>.setCell (p := ⟨w.heap.size + 2, 2, none⟩) (by show w.heap.size ≤ w.heap.size + 2; omega) _
  · have := set1 hout5 2 v5
    simpa using this
  · exact (old _ (by omega) (fun e => by have := (own _ e.symm).1; omega) (by omega)).trans st.ret

set_option maxRecDepth 100000 in
set_option maxHeartbeats 2000000 in
theorem rapply_varq (bl : List Bd) (sv : Value) (q : Nat × Nat × Nat) (n₀ : Nat) (t : Tm) (s : Value) (w : World) (hv : t.vr = true) (hn : n₀ ≤ w.heap.size) (hbl : BindsN q n₀ w bl sv) (hs : SlIs w.heap.size w t.ts s) (hlen : bl.length ≤ 100000000) :
    Calls Tryz.prog 15 #[sv, tmv t s] w fun e w' => (∃ sl, e = .returned (tmv (apB bl t) sl) ∧ SlN q n₀ w' (apB bl t).ts sl) ∧ Below w.heap.size w w' := by
  obtain ⟨oa, ca, rfl, -⟩ := hs.form
  have HBL := Lib.hid hbl
  have hbl' := hbl
  obtain ⟨ob, cb, rfl, -, -⟩ := hbl'
  have HA := Lib.hid (apB_var bl hv)
  have hr := rimage_q bl t.nm.data.toList (.slice ob bl.length cb) ((w.alloc (.cells #[.string t.nm, .bool true, .slice oa t.ts.length ca] 25)).alloc (.cells #[.string ⟨#[]⟩, .bool false, .slice none 0 0] 25)) q n₀ (by simp; omega) (HBL.out.carry (show Below n₀ w _ from (show Below w.heap.size w _ from by go_grown).mono hn) (Nat.le_refl _)) hlen
  rw [kb_key] at hr
  have HR := Lib.hid hr
  have HBX : Hid (Below w.heap.size w ((w.alloc (.cells #[.string t.nm, .bool true, .slice oa t.ts.length ca] 25)).alloc (.cells #[.string ⟨#[]⟩, .bool false, .slice none 0 0] 25))) := Lib.hid (by go_grown)
  clear hbl hr hs
  go_enter Tryz.func15, Tryz.ntmps15
  rw [show tmv t (.slice oa t.ts.length ca) = .agg #[.string t.nm, .bool t.vr, .slice oa t.ts.length ca] from rfl, hv]
  go_wp2_with (
    go_at_call 54
    refine HR.out.mono ?_
    rintro e w1 ⟨⟨sl, rfl, hsl⟩, hb1⟩
    obtain ⟨oi, ci, rfl, -⟩ := hsl.form
    dsimp only [tmv]
    have hrt := (hb1.block (w.heap.size + 1) (by simp)).trans (heap_new_at _ _ _ (by simp))
    obtain ⟨⟨r0, r1, r2⟩, f0, f1, f2⟩ := box3 hrt
    have HSL := Lib.hid hsl
    have HRT := Lib.hid hrt
    have HB1 := Lib.hid hb1
    clear hsl hrt hb1)
  have hq := box3_set HRT.out (.string (imageOf bl t.nm.data.toList).nm) (.bool (imageOf bl t.nm.data.toList).vr) (.slice oi (imageOf bl t.nm.data.toList).ts.length ci)
  obtain ⟨⟨q0, q1, q2⟩, -⟩ := box3 hq
  refine bodyPost_ret (v := tmv (imageOf bl t.nm.data.toList) (.slice oi (imageOf bl t.nm.data.toList).ts.length ci)) (by simp [results, Tryz.f15, go_sem, q0, q1, q2, tmv]) rfl ?_
  have hbf := below_set3 (HBX.out.trans (HB1.out.mono (by simp; omega))) (b := w.heap.size + 1) (by omega) (.string (imageOf bl t.nm.data.toList).nm) (.bool (imageOf bl t.nm.data.toList).vr) (.slice oi (imageOf bl t.nm.data.toList).ts.length ci)
  rw [HA.out]
  exact ⟨⟨_, rfl, HSL.out.carry (below_set3 (Below.refl n₀ w1) (by omega) _ _ _) (Nat.le_refl _)⟩, hbf⟩

theorem ApSq.start {q : Nat × Nat × Nat} {n₀ : Nat} {w W : World} {bl : List Bd} {nm : ByteArray} {l : List Tm} (hb : Below w.heap.size w W) (ho : W.heap[w.heap.size + 2]? = some (.cells #[.string nm, .bool false, .slice none 0 0] 25 (0, 0)))
    (hr : W.heap[w.heap.size + 1]? = some (.cells #[.string ⟨#[]⟩, .bool false, .slice none 0 0] 25 (0, 0))) : ApSq q n₀ w bl nm l 0 W (.slice none 0 0) [] :=
  ⟨by simp, World.ownsRow_nil _ _ _ _, by simp, hb, ho, hr⟩

set_option maxRecDepth 100000 in
set_option maxHeartbeats 4000000 in
theorem rapply_q (bl : List Bd) (sv : Value) (q : Nat × Nat × Nat) (n₀ : Nat) (hlen : bl.length ≤ 100000000) (t : Tm) : ∀ (s : Value) (w : World), n₀ ≤ w.heap.size → BindsN q n₀ w bl sv → SlIs w.heap.size w t.ts s → t.bulk ≤ 1048576 →
    Calls Tryz.prog 15 #[sv, tmv t s] w fun e w' => (∃ sl, e = .returned (tmv (apB bl t) sl) ∧ SlP (fun b => (b < n₀ ∧ b ≠ q.1 ∧ b ≠ q.2.1 ∧ b ≠ q.2.2) ∨ w.heap.size ≤ b) w' (apB bl t).ts sl) ∧ Below w.heap.size w w' := by
  induction t using Tm.ind with
  | h t ih =>
    intro s w hn hbl hs hb
    by_cases hv : t.vr = true
    · refine (rapply_varq bl sv q n₀ t s w hv hn hbl hs hlen).mono ?_
      rintro e w' ⟨⟨sl, rfl, h⟩, hb⟩
      exact ⟨⟨sl, rfl, SlP.carry (fun b hb => ⟨rfl, .inl hb⟩) h⟩, hb⟩
    · have hv : t.vr = false := by simpa using hv
      obtain ⟨oa, ca, rfl, -⟩ := hs.form
      have hbl' := hbl
      obtain ⟨ob, cb, rfl, -, -⟩ := hbl'
      obtain ⟨i0, hi, hz, hs1, hb1⟩ := info_parts infoTerm
      have HI := Lib.hid hi
      have HZ := Lib.hid hz
      have HS1 := Lib.hid hs1
      have HB1 := Lib.hid hb1
      have HA := Lib.hid (apB_fun bl hv)
      have htl : t.ts.length ≤ 1048576 := by have := Tm.length_sizes t.ts; have := Tm.size_bulk t; have := Tm.size_eq t; omega
      have IH := Lib.hid ih
      have HBL := Lib.hid hbl
      have HSL := Lib.hid hs
      have HBK := Lib.hid hb
      clear ih hbl hs hb hi hz hs1 hb1
      go_enter Tryz.func15, Tryz.ntmps15
      rw [show tmv t (.slice oa t.ts.length ca) = .agg #[.string t.nm, .bool t.vr, .slice oa t.ts.length ca] from rfl, hv]
      go_wp2_with fail
      have hb0 : Below w.heap.size w (((w.alloc (.cells #[.string t.nm, .bool false, .slice oa t.ts.length ca] 25)).alloc (.cells #[.string ⟨#[]⟩, .bool false, .slice none 0 0] 25)).alloc (.cells #[.string t.nm, .bool false, .slice none 0 0] 25)) := by go_grown
      have HST0 := Lib.hid (ApSq.start (q := q) (n₀ := n₀) (bl := bl) (nm := t.nm) (l := t.ts) hb0 (heap_new_at _ _ _ (by simp)) ((Below.heap_alloc _ _ _ (by simp)).trans (heap_new_at _ _ _ (by simp))))
      clear hb0
      go_loopw [20] (fun i wr => ∃ (k : Nat) (v : Value) (ch : List (Tm × Value)), k ≤ t.ts.length ∧ i = .int .i64 k ∧ Hid (ApSq q n₀ w bl t.nm t.ts k wr v ch)) (fun i _ => t.ts.length - (intOf i).toNat)
      case atStart => exact ⟨0, _, _, by omega, rfl, HST0⟩
      case round =>
        obtain ⟨k, v, ch, hk, rfl, HST⟩ := hrel
        have hst := HST.out
        have hzo := (Array.getElem?_eq_some_iff.1 hst.out).1
        by_cases hlt : k < t.ts.length
        · obtain ⟨b, o, u, su, rfl, hbb, hu, hum, hus, c1, c2, c3⟩ := (HSL.out.carry hst.low (Nat.le_refl _)).get (k := k) hlt
          obtain ⟨ou, cu, rfl, -⟩ := hus.form
          obtain ⟨ov, cv, rfl⟩ := ownsRow_shape hst.row
          have HCHL : Hid (ch.length = k) := Lib.hid (by have := congrArg List.length hst.terms; simp at this; omega)
          have HLOWA : Hid (Below wr.heap.size wr (wr.alloc (.cells #[.string u.nm, .bool u.vr, .slice ou u.ts.length cu] 25)).drew) := Lib.hid (by go_grown)
          have hub : u.bulk ≤ 1048576 := by have := Tm.bulk_mem hum; have := Tm.bulk_eq t; have := HBK.out; omega
          have hout := (Below.heap_alloc wr (.cells #[.string u.nm, .bool u.vr, .slice ou u.ts.length cu] 25) (w.heap.size + 2) (by omega)).trans hst.out
          obtain ⟨⟨x0, x1, x2⟩, f0, f1, f2⟩ := box3 hout
          have hown : ∀ j, (Value.slice ov ch.length cv).ownBlock = some j → w.heap.size + 3 ≤ j ∧ j < wr.heap.size := fun j hj => hst.row.lt j hj
          have HOWN := Lib.hid hown
          have HOUT := Lib.hid hout
          have HU := Lib.hid hu
          have hz := hst.low.size
          have hlow := hst.low
          have HLOW := Lib.hid hlow
          have IHu := fun W1 (hW : Below wr.heap.size wr W1) => Lib.hid (IH.out u hum _ W1 (by have := hW.size; omega) (HBL.out.carry ((hlow.trans (hW.mono hz)).mono hn) (Nat.le_refl _)) (hus.carry (B := W1) (hW.mono hz) (by have := hW.size; omega)) hub)
          clear hst hu hus hown hout hlow
          go_wp2_with fail
          have hxA := (box3 HOUT.out).1.2.2
          have HYA := Lib.hid (box3 (heap_new_at wr (.cells #[.string u.nm, .bool u.vr, .slice ou u.ts.length cu] 25) _ rfl)).1
          refine wp_region_noPanic ?_
          refine wp_region_held_drew (S := fun w' => w'.cell? ⟨wr.heap.size, 0, none⟩ = some (.string u.nm) ∧ w'.cell? ⟨wr.heap.size, 1, none⟩ = some (.bool u.vr) ∧ w'.cell? ⟨wr.heap.size, 2, none⟩ = some (.slice ou u.ts.length cu)) (by kernel_rfl) HYA.out (fun _ => ?_)
          simp only [List.size_toArray, List.length_cons, List.length_nil, Nat.reduceAdd]
          refine wpAnyH_take (i := 0) (v := ?_) (by simp only [List.getElem?_toArray, List.getElem?_cons_zero]; rfl) (by kernel_rfl) (by kernel_rfl) (by kernel_rfl) (fun _ _ _ h => h) (Or.inl ⟨by rfl, ?_⟩) HYA.out ?_
          case refine_2 => (intro ww hSw; obtain ⟨s1, s2, s3⟩ := hSw; go_simp; try with_reducible rfl)
          try simp only [Act.put, List.setIfInBounds_toArray, List.set_cons_zero, List.set_cons_succ]
          refine wpAnyH_take (i := 2) (v := ?_) (by simp only [List.getElem?_toArray, List.getElem?_cons_zero, List.getElem?_cons_succ]; rfl) (by kernel_rfl) (by kernel_rfl) (by kernel_rfl) (fun _ _ _ h => h) (Or.inl ⟨by rfl, ?_⟩) HYA.out ?_
          case refine_2 => (intro ww hSw; obtain ⟨s1, s2, s3⟩ := hSw; go_simp; try with_reducible rfl)
          try simp only [Act.put, List.setIfInBounds_toArray, List.set_cons_zero, List.set_cons_succ]
          refine wpAnyH_take (i := 3) (v := ?_) (by simp only [List.getElem?_toArray, List.getElem?_cons_zero, List.getElem?_cons_succ]; rfl) (by kernel_rfl) (by kernel_rfl) (by kernel_rfl) (fun _ _ _ h => h) (Or.inl ⟨by rfl, ?_⟩) HYA.out ?_
          case refine_2 => (intro ww hSw; obtain ⟨s1, s2, s3⟩ := hSw; go_simp; try with_reducible rfl)
          try simp only [Act.put, List.setIfInBounds_toArray, List.set_cons_zero, List.set_cons_succ]
          refine wpAnyH_ready (rs := [1, 4]) (by kernel_rfl) (by simp) ?_
          refine AllReadyH.cons (by simp only [List.getElem?_toArray, List.getElem?_cons_zero, List.getElem?_cons_succ]; rfl) (fun K' hK => ?_) ?_
          · go_simp
            refine hK.out _ _ HYA.out (fun _ => ?_)
            clear hK
            try simp only [Act.put, List.setIfInBounds_toArray, List.set_cons_zero, List.set_cons_succ]
            refine wpAnyH_ready (rs := [4]) (by kernel_rfl) (by simp) ?_
            refine AllReadyH.cons (by simp only [List.getElem?_toArray, List.getElem?_cons_zero, List.getElem?_cons_succ]; rfl) (fun K' hK => ?_) AllReadyH.nil
            go_simp
            refine (IHu _ HLOWA.out).out.mono ?_
            rintro e w4 ⟨⟨sl4, rfl, hsl4⟩, hb4⟩
            obtain ⟨o4, c4, rfl⟩ := hsl4.form
            dsimp only [tmv]
            have hout4 := (hb4.block (w.heap.size + 2) (by simp; omega)).trans HOUT.out
            have hbx4 := (hb4.block wr.heap.size (by simp)).trans (heap_new_at wr (.cells #[.string u.nm, .bool u.vr, .slice ou u.ts.length cu] 25) _ rfl)
            obtain ⟨⟨x0, x1, x2⟩, f0, f1, f2⟩ := box3 hout4
            have HY4 := Lib.hid (box3 hbx4).1
            have HSL4 := Lib.hid hsl4
            have HB4 := Lib.hid hb4
            have HOUT4 := Lib.hid hout4
            have HBX4 := Lib.hid hbx4
            have HZ4 := Lib.hid (show wr.heap.size < w4.heap.size from (Array.getElem?_eq_some_iff.1 hbx4).1)
            clear hsl4 hb4 hout4 hbx4
            refine hK.out _ _ HY4.out (fun _ => ?_)
            clear hK
            try simp only [Act.put, List.setIfInBounds_toArray, List.set_cons_zero, List.set_cons_succ]
            refine wpAnyH_ready (rs := [5]) (by kernel_rfl) (by simp) ?_
            refine AllReadyH.cons (by simp only [List.getElem?_toArray, List.getElem?_cons_zero, List.getElem?_cons_succ]; rfl) (fun K' hK => ?_) AllReadyH.nil
            go_simp
            have hy5 := (box3 ((Below.heap_alloc w4 (.cells #[.string (apB bl u).nm, .bool (apB bl u).vr, .slice o4 (apB bl u).ts.length c4] 25) _ HZ4.out).trans HBX4.out)).1
            have hx5 := (box3 ((Below.heap_alloc w4 (.cells #[.string (apB bl u).nm, .bool (apB bl u).vr, .slice o4 (apB bl u).ts.length c4] 25) (w.heap.size + 2) (by have := HZ4.out; omega)).trans HOUT4.out)).1.2.2
            have HY5 := Lib.hid hy5
            clear hy5
            refine hK.out _ _ HY5.out (fun _ => ?_)
            clear hK
            try simp only [Act.put, List.setIfInBounds_toArray, List.set_cons_zero, List.set_cons_succ]
            refine wpAnyH_ready (rs := [6]) (by kernel_rfl) (by simp) ?_
            refine AllReadyH.cons (by simp only [List.getElem?_toArray, List.getElem?_cons_zero, List.getElem?_cons_succ]; rfl) (fun K' hK => ?_) AllReadyH.nil
            refine step_append_opt rfl (.tmp 25) (.tmp 29) 23 rfl (w.heap.size + 3) 25 i0 (.agg #[.string ⟨#[]⟩, .bool false, .slice none 0 0]) 3 48 Tryz.underlying23 HI.out HZ.out HS1.out HB1.out rfl (by decide) (.slice ov ch.length cv) ch.length (stCells ch) rfl (HST.out.row.kept (below_grown (HLOWA.out.trans ((HB4.out.mono (by simp)).alloc (Nat.le_of_lt HZ4.out) _))) (own_none _)) (some ⟨w4.heap.size, 0, none⟩) 1 1 [.string (apB bl u).nm, .bool (apB bl u).vr, .slice o4 (apB bl u).ts.length c4] rfl rfl (fun h => by cases h) (fun ad had => by cases had; exact cells_new3 _ _ _ _ _) (by simp [Value.oneCell']) (by have := HCHL.out; unfold maxLen; omega) (by have := HCHL.out; omega) (by have := HZ4.out; simp; omega) ?_
            intro v5 w5 ho5 hg5 hat5
            obtain ⟨o5, c5, rfl⟩ := ownsRow_shape ho5
            have hout5 := (hg5.block (w.heap.size + 2) (by have := HZ4.out; simp; omega) (fun e => by have := (HOWN.out _ e.symm).1; omega)).trans ((Below.heap_alloc _ _ _ (by have := HZ4.out; omega)).trans HOUT4.out)
            have hbx5 := (hg5.block wr.heap.size (by have := HZ4.out; simp; omega) (fun e => by have := (HOWN.out _ e.symm).2; omega)).trans ((Below.heap_alloc _ _ _ HZ4.out).trans HBX4.out)
            obtain ⟨⟨x0, x1, x2⟩, f0, f1, f2⟩ := box3 hout5
            have HBX5 := Lib.hid hbx5
            have HY6 := Lib.hid (box3 hbx5).1
            have HST5 := Lib.hid (HST.out.step hn HU.out HLOWA.out HB4.out HSL4.out ((Below.refl _ w4).alloc (Nat.le_refl _) _) hg5 ho5 hat5)
            clear ho5 hg5 hat5 hout5 hbx5
            refine hK.out _ _ HY6.out (fun _ => ?_)
            clear hK
            try simp only [Act.put, List.setIfInBounds_toArray, List.set_cons_zero, List.set_cons_succ]
            refine wpAnyH_take (i := 7) (v := ?_) (by simp only [List.getElem?_toArray, List.getElem?_cons_zero, List.getElem?_cons_succ]; rfl) (by kernel_rfl) (by kernel_rfl) (by kernel_rfl) (fun _ _ _ h => h) (Or.inl ⟨by rfl, ?_⟩) HY6.out ?_
            case refine_2 => (intro ww hSw; obtain ⟨s1, s2, s3⟩ := hSw; go_simp; try with_reducible rfl)
            try simp only [Act.put, List.setIfInBounds_toArray, List.set_cons_zero, List.set_cons_succ]
            refine wpAnyH_ready (rs := [8]) (by kernel_rfl) (by simp) ?_
            refine AllReadyH.cons (by simp only [List.getElem?_toArray, List.getElem?_cons_zero, List.getElem?_cons_succ]; rfl) (fun K' hK => ?_) AllReadyH.nil
            go_simp
            have HY7 := Lib.hid (box3 ((Below.heap_setCell w5 ⟨w.heap.size + 2, 2, none⟩ (.slice o5 (ch.length + 1) c5) wr.heap.size (by show wr.heap.size ≠ w.heap.size + 2; omega)).trans HBX5.out)).1
            refine hK.out _ _ HY7.out (fun _ => ?_)
            clear hK
            try simp only [Act.put, List.setIfInBounds_toArray, List.set_cons_zero, List.set_cons_succ]
            refine wpAnyH_done (by kernel_rfl) ?_ _
            refine NoPanic.normal ?_
            go_wp2_with fail
            exact ⟨⟨k + 1, _, _, by omega, by go_num, HST5⟩, by simp [intOf]; omega⟩
          · refine AllReadyH.cons (by simp only [List.getElem?_toArray, List.getElem?_cons_zero, List.getElem?_cons_succ]; rfl) (fun K' hK => ?_) AllReadyH.nil
            go_simp
            refine (IHu _ HLOWA.out).out.mono ?_
            rintro e w4 ⟨⟨sl4, rfl, hsl4⟩, hb4⟩
            obtain ⟨o4, c4, rfl⟩ := hsl4.form
            dsimp only [tmv]
            have hout4 := (hb4.block (w.heap.size + 2) (by simp; omega)).trans HOUT.out
            have hbx4 := (hb4.block wr.heap.size (by simp)).trans (heap_new_at wr (.cells #[.string u.nm, .bool u.vr, .slice ou u.ts.length cu] 25) _ rfl)
            obtain ⟨⟨x0, x1, x2⟩, f0, f1, f2⟩ := box3 hout4
            have HY4 := Lib.hid (box3 hbx4).1
            have HSL4 := Lib.hid hsl4
            have HB4 := Lib.hid hb4
            have HOUT4 := Lib.hid hout4
            have HBX4 := Lib.hid hbx4
            have HZ4 := Lib.hid (show wr.heap.size < w4.heap.size from (Array.getElem?_eq_some_iff.1 hbx4).1)
            clear hsl4 hb4 hout4 hbx4
            refine hK.out _ _ HY4.out (fun _ => ?_)
            clear hK
            try simp only [Act.put, List.setIfInBounds_toArray, List.set_cons_zero, List.set_cons_succ]
            refine wpAnyH_ready (rs := [1, 5]) (by kernel_rfl) (by simp) ?_
            refine AllReadyH.cons (by simp only [List.getElem?_toArray, List.getElem?_cons_zero, List.getElem?_cons_succ]; rfl) (fun K' hK => ?_) ?_
            · go_simp
              refine hK.out _ _ HY4.out (fun _ => ?_)
              clear hK
              try simp only [Act.put, List.setIfInBounds_toArray, List.set_cons_zero, List.set_cons_succ]
              refine wpAnyH_ready (rs := [5]) (by kernel_rfl) (by simp) ?_
              refine AllReadyH.cons (by simp only [List.getElem?_toArray, List.getElem?_cons_zero, List.getElem?_cons_succ]; rfl) (fun K' hK => ?_) AllReadyH.nil
              go_simp
              have hy5 := (box3 ((Below.heap_alloc w4 (.cells #[.string (apB bl u).nm, .bool (apB bl u).vr, .slice o4 (apB bl u).ts.length c4] 25) _ HZ4.out).trans HBX4.out)).1
              have hx5 := (box3 ((Below.heap_alloc w4 (.cells #[.string (apB bl u).nm, .bool (apB bl u).vr, .slice o4 (apB bl u).ts.length c4] 25) (w.heap.size + 2) (by have := HZ4.out; omega)).trans HOUT4.out)).1.2.2
              have HY5 := Lib.hid hy5
              clear hy5
              refine hK.out _ _ HY5.out (fun _ => ?_)
              clear hK
              try simp only [Act.put, List.setIfInBounds_toArray, List.set_cons_zero, List.set_cons_succ]
              refine wpAnyH_ready (rs := [6]) (by kernel_rfl) (by simp) ?_
              refine AllReadyH.cons (by simp only [List.getElem?_toArray, List.getElem?_cons_zero, List.getElem?_cons_succ]; rfl) (fun K' hK => ?_) AllReadyH.nil
              refine step_append_opt rfl (.tmp 25) (.tmp 29) 23 rfl (w.heap.size + 3) 25 i0 (.agg #[.string ⟨#[]⟩, .bool false, .slice none 0 0]) 3 48 Tryz.underlying23 HI.out HZ.out HS1.out HB1.out rfl (by decide) (.slice ov ch.length cv) ch.length (stCells ch) rfl (HST.out.row.kept (below_grown (HLOWA.out.trans ((HB4.out.mono (by simp)).alloc (Nat.le_of_lt HZ4.out) _))) (own_none _)) (some ⟨w4.heap.size, 0, none⟩) 1 1 [.string (apB bl u).nm, .bool (apB bl u).vr, .slice o4 (apB bl u).ts.length c4] rfl rfl (fun h => by cases h) (fun ad had => by cases had; exact cells_new3 _ _ _ _ _) (by simp [Value.oneCell']) (by have := HCHL.out; unfold maxLen; omega) (by have := HCHL.out; omega) (by have := HZ4.out; simp; omega) ?_
              intro v5 w5 ho5 hg5 hat5
              obtain ⟨o5, c5, rfl⟩ := ownsRow_shape ho5
              have hout5 := (hg5.block (w.heap.size + 2) (by have := HZ4.out; simp; omega) (fun e => by have := (HOWN.out _ e.symm).1; omega)).trans ((Below.heap_alloc _ _ _ (by have := HZ4.out; omega)).trans HOUT4.out)
              have hbx5 := (hg5.block wr.heap.size (by have := HZ4.out; simp; omega) (fun e => by have := (HOWN.out _ e.symm).2; omega)).trans ((Below.heap_alloc _ _ _ HZ4.out).trans HBX4.out)
              obtain ⟨⟨x0, x1, x2⟩, f0, f1, f2⟩ := box3 hout5
              have HBX5 := Lib.hid hbx5
              have HY6 := Lib.hid (box3 hbx5).1
              have HST5 := Lib.hid (HST.out.step hn HU.out HLOWA.out HB4.out HSL4.out ((Below.refl _ w4).alloc (Nat.le_refl _) _) hg5 ho5 hat5)
              clear ho5 hg5 hat5 hout5 hbx5
              refine hK.out _ _ HY6.out (fun _ => ?_)
              clear hK
              try simp only [Act.put, List.setIfInBounds_toArray, List.set_cons_zero, List.set_cons_succ]
              refine wpAnyH_take (i := 7) (v := ?_) (by simp only [List.getElem?_toArray, List.getElem?_cons_zero, List.getElem?_cons_succ]; rfl) (by kernel_rfl) (by kernel_rfl) (by kernel_rfl) (fun _ _ _ h => h) (Or.inl ⟨by rfl, ?_⟩) HY6.out ?_
              case refine_2 => (intro ww hSw; obtain ⟨s1, s2, s3⟩ := hSw; go_simp; try with_reducible rfl)
              try simp only [Act.put, List.setIfInBounds_toArray, List.set_cons_zero, List.set_cons_succ]
              refine wpAnyH_ready (rs := [8]) (by kernel_rfl) (by simp) ?_
              refine AllReadyH.cons (by simp only [List.getElem?_toArray, List.getElem?_cons_zero, List.getElem?_cons_succ]; rfl) (fun K' hK => ?_) AllReadyH.nil
              go_simp
              have HY7 := Lib.hid (box3 ((Below.heap_setCell w5 ⟨w.heap.size + 2, 2, none⟩ (.slice o5 (ch.length + 1) c5) wr.heap.size (by show wr.heap.size ≠ w.heap.size + 2; omega)).trans HBX5.out)).1
              refine hK.out _ _ HY7.out (fun _ => ?_)
              clear hK
              try simp only [Act.put, List.setIfInBounds_toArray, List.set_cons_zero, List.set_cons_succ]
              refine wpAnyH_done (by kernel_rfl) ?_ _
              refine NoPanic.normal ?_
              go_wp2_with fail
              exact ⟨⟨k + 1, _, _, by omega, by go_num, HST5⟩, by simp [intOf]; omega⟩
            · refine AllReadyH.cons (by simp only [List.getElem?_toArray, List.getElem?_cons_zero, List.getElem?_cons_succ]; rfl) (fun K' hK => ?_) AllReadyH.nil
              go_simp
              have hy5 := (box3 ((Below.heap_alloc w4 (.cells #[.string (apB bl u).nm, .bool (apB bl u).vr, .slice o4 (apB bl u).ts.length c4] 25) _ HZ4.out).trans HBX4.out)).1
              have hx5 := (box3 ((Below.heap_alloc w4 (.cells #[.string (apB bl u).nm, .bool (apB bl u).vr, .slice o4 (apB bl u).ts.length c4] 25) (w.heap.size + 2) (by have := HZ4.out; omega)).trans HOUT4.out)).1.2.2
              have HY5 := Lib.hid hy5
              clear hy5
              refine hK.out _ _ HY5.out (fun _ => ?_)
              clear hK
              try simp only [Act.put, List.setIfInBounds_toArray, List.set_cons_zero, List.set_cons_succ]
              refine wpAnyH_ready (rs := [1]) (by kernel_rfl) (by simp) ?_
              refine AllReadyH.cons (by simp only [List.getElem?_toArray, List.getElem?_cons_zero, List.getElem?_cons_succ]; rfl) (fun K' hK => ?_) AllReadyH.nil
              go_simp
              refine hK.out _ _ HY5.out (fun _ => ?_)
              clear hK
              try simp only [Act.put, List.setIfInBounds_toArray, List.set_cons_zero, List.set_cons_succ]
              refine wpAnyH_ready (rs := [6]) (by kernel_rfl) (by simp) ?_
              refine AllReadyH.cons (by simp only [List.getElem?_toArray, List.getElem?_cons_zero, List.getElem?_cons_succ]; rfl) (fun K' hK => ?_) AllReadyH.nil
              refine step_append_opt rfl (.tmp 25) (.tmp 29) 23 rfl (w.heap.size + 3) 25 i0 (.agg #[.string ⟨#[]⟩, .bool false, .slice none 0 0]) 3 48 Tryz.underlying23 HI.out HZ.out HS1.out HB1.out rfl (by decide) (.slice ov ch.length cv) ch.length (stCells ch) rfl (HST.out.row.kept (below_grown (HLOWA.out.trans ((HB4.out.mono (by simp)).alloc (Nat.le_of_lt HZ4.out) _))) (own_none _)) (some ⟨w4.heap.size, 0, none⟩) 1 1 [.string (apB bl u).nm, .bool (apB bl u).vr, .slice o4 (apB bl u).ts.length c4] rfl rfl (fun h => by cases h) (fun ad had => by cases had; exact cells_new3 _ _ _ _ _) (by simp [Value.oneCell']) (by have := HCHL.out; unfold maxLen; omega) (by have := HCHL.out; omega) (by have := HZ4.out; simp; omega) ?_
              intro v5 w5 ho5 hg5 hat5
              obtain ⟨o5, c5, rfl⟩ := ownsRow_shape ho5
              have hout5 := (hg5.block (w.heap.size + 2) (by have := HZ4.out; simp; omega) (fun e => by have := (HOWN.out _ e.symm).1; omega)).trans ((Below.heap_alloc _ _ _ (by have := HZ4.out; omega)).trans HOUT4.out)
              have hbx5 := (hg5.block wr.heap.size (by have := HZ4.out; simp; omega) (fun e => by have := (HOWN.out _ e.symm).2; omega)).trans ((Below.heap_alloc _ _ _ HZ4.out).trans HBX4.out)
              obtain ⟨⟨x0, x1, x2⟩, f0, f1, f2⟩ := box3 hout5
              have HBX5 := Lib.hid hbx5
              have HY6 := Lib.hid (box3 hbx5).1
              have HST5 := Lib.hid (HST.out.step hn HU.out HLOWA.out HB4.out HSL4.out ((Below.refl _ w4).alloc (Nat.le_refl _) _) hg5 ho5 hat5)
              clear ho5 hg5 hat5 hout5 hbx5
              refine hK.out _ _ HY6.out (fun _ => ?_)
              clear hK
              try simp only [Act.put, List.setIfInBounds_toArray, List.set_cons_zero, List.set_cons_succ]
              refine wpAnyH_take (i := 7) (v := ?_) (by simp only [List.getElem?_toArray, List.getElem?_cons_zero, List.getElem?_cons_succ]; rfl) (by kernel_rfl) (by kernel_rfl) (by kernel_rfl) (fun _ _ _ h => h) (Or.inl ⟨by rfl, ?_⟩) HY6.out ?_
              case refine_2 => (intro ww hSw; obtain ⟨s1, s2, s3⟩ := hSw; go_simp; try with_reducible rfl)
              try simp only [Act.put, List.setIfInBounds_toArray, List.set_cons_zero, List.set_cons_succ]
              refine wpAnyH_ready (rs := [8]) (by kernel_rfl) (by simp) ?_
              refine AllReadyH.cons (by simp only [List.getElem?_toArray, List.getElem?_cons_zero, List.getElem?_cons_succ]; rfl) (fun K' hK => ?_) AllReadyH.nil
              go_simp
              have HY7 := Lib.hid (box3 ((Below.heap_setCell w5 ⟨w.heap.size + 2, 2, none⟩ (.slice o5 (ch.length + 1) c5) wr.heap.size (by show wr.heap.size ≠ w.heap.size + 2; omega)).trans HBX5.out)).1
              refine hK.out _ _ HY7.out (fun _ => ?_)
              clear hK
              try simp only [Act.put, List.setIfInBounds_toArray, List.set_cons_zero, List.set_cons_succ]
              refine wpAnyH_done (by kernel_rfl) ?_ _
              refine NoPanic.normal ?_
              go_wp2_with fail
              exact ⟨⟨k + 1, _, _, by omega, by go_num, HST5⟩, by simp [intOf]; omega⟩
        · obtain rfl : k = t.ts.length := by omega
          obtain ⟨ov, cv, rfl⟩ := ownsRow_shape hst.row
          obtain ⟨⟨x0, x1, x2⟩, -⟩ := box3 hst.out
          obtain ⟨⟨r0, r1, r2⟩, f0, f1, f2⟩ := box3 hst.ret
          clear hst
          go_wp2_with fail
          have hq := box3_set HST.out.ret (.string t.nm) (.bool false) (.slice ov ch.length cv)
          obtain ⟨⟨q0, q1, q2⟩, -⟩ := box3 hq
          refine bodyPost_ret (v := .agg #[.string t.nm, .bool false, .slice ov ch.length cv]) (by simp [results, Tryz.f15, go_sem, q0, q1, q2]) rfl ?_
          have hbf := below_set3 HST.out.low (b := w.heap.size + 1) (by omega) (.string t.nm) (.bool false) (.slice ov ch.length cv)
          refine ⟨⟨.slice ov ch.length cv, by rw [HA.out]; rfl, ?_⟩, hbf⟩
          have h1 := SlP.ofRow (p := fun b => (b < n₀ ∧ b ≠ q.1 ∧ b ≠ q.2.1 ∧ b ≠ q.2.2) ∨ w.heap.size + 3 ≤ b) HST.out.row (fun b hb => .inr hb) (fun c hc => (HST.out.kids c hc).carry fun b hb => ⟨rfl, hb.1⟩)
          have h2 := HST.out.terms
          rw [List.take_length] at h2
          rw [h2] at h1
          rw [HA.out]
          exact h1.carry fun b hb => ⟨heap_set3 _ _ _ _ _ _ (by omega), by omega⟩
end Go.Proofs.YtnomppdmhgefiaaGreat
