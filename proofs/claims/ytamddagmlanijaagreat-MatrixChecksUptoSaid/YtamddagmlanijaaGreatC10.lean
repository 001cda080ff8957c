/- Packed: Mxm, Mxn. -/
import Derived.Test.YtamddagmlanijaaGreatC08
import Derived.Test.YtamddagmlanijaaGreatC09
import Derived.OwnWalk
/- Package matrix: entry (search by halves), fits, isMonotone, Monotone. -/
namespace Go.Proofs.YtamddagmlanijaaGreat
open Go.RowKit Go.Shelf

/-- the entry of a name -/
def findM (l : List Mx) (k : Key) : Option Mx := l.find? fun p => decide (p.1 = k)
theorem findM_hit {l : List Mx} (h : NmsOk (l.map nmx)) {k : Key} {i : Nat} {p : Mx} (hp : l[i]? = some p) (hk : p.1 = k) : findM l k = some p := by
  unfold findM
  have hlt := (List.getElem?_eq_some_iff.1 hp).1
  have e : l = l.take i ++ p :: l.drop (i + 1) := by
    have h1 := List.take_append_drop i l
    rw [List.drop_eq_getElem_cons hlt, (List.getElem?_eq_some_iff.1 hp).2] at h1
    exact h1.symm
  rw [e, List.find?_append, List.find?_eq_none.2 (fun q hq => by
    obtain ⟨j, hj⟩ := List.getElem?_of_mem hq
    rw [List.getElem?_take] at hj
    split at hj
    · rename_i hji
      have := h.lt hji (nmx_at hj) (nmx_at hp)
      simp only [nmx, hk] at this
      simp only [decide_eq_true_eq]
      rintro rfl
      exact absurd this (List.lt_irrefl _)
    · cases hj)]
  simp [hk]
theorem findM_no {l : List Mx} {k : Key} (h : ∀ p ∈ l, p.1 ≠ k) : findM l k = none := List.find?_eq_none.2 fun q hq => by simpa using h q hq
theorem findM_some {l : List Mx} {k : Key} {p : Mx} (h : findM l k = some p) : p ∈ l ∧ p.1 = k := ⟨List.mem_of_find?_eq_some h, by simpa using List.find?_some h⟩
/-- what the search by halves knows -/
structure BsM (l : List Mx) (k : Key) (lo hi : Nat) : Prop where
  le : lo ≤ hi
  top : hi ≤ l.length
  low : ∀ j p, j < lo → l[j]? = some p → p.1 < k
  high : ∀ j p, hi ≤ j → l[j]? = some p → ¬ p.1 < k
theorem BsM.none {l : List Mx} {k : Key} {i : Nat} (h : NmsOk (l.map nmx)) (hs : BsM l k i i) (hne : ∀ p, l[i]? = some p → p.1 ≠ k) : findM l k = none := by
  refine findM_no fun q hq e => ?_
  obtain ⟨j, hj⟩ := List.getElem?_of_mem hq
  rcases Nat.lt_trichotomy j i with hji | rfl | hji
  · have := hs.low j q hji hj
    rw [e] at this
    exact absurd this (List.lt_irrefl _)
  · exact hne q hj e
  · have hjl := (List.getElem?_eq_some_iff.1 hj).1
    have hm : l[i]? = some l[i] := List.getElem?_eq_getElem (by omega)
    have h1 := h.lt hji (nmx_at hm) (nmx_at hj)
    simp only [nmx, e] at h1
    exact hs.high i _ (Nat.le_refl _) hm h1
set_option maxRecDepth 100000 in
theorem mxCmp_any (nm k : Key) (vv mv : Value) (w : World) :
    Calls Tryz.prog 211 #[.agg #[.string (kb nm), vv, mv], .string (kb k)] w fun e w' => e = .returned (.int .i64 (Lib.compareBytes nm k)) ∧ Below w.heap.size w w' := by
  go_enter Tryz.func211, Tryz.ntmps211
  go_wp2_with fail
  refine (Tryz.strings_Compare _ _ _).mono ?_
  rintro e w' ⟨rfl, rfl⟩
  go_wp2_with fail
  go_ret
  exact ⟨rfl, by go_grown⟩
set_option maxRecDepth 100000 in
set_option maxHeartbeats 8000000 in
theorem mxSearch_any (l : List Mx) (k : Key) (v : Value) (w : World) (hl : MxsIs w.heap.size w l v) (hlen : l.length ≤ 1048576) (hn : NmsOk (l.map nmx)) :
    Calls Tryz.prog 210 #[v, .string (kb k), .func (.func 211) #[] #[]] w fun e w' => (∃ (i : Nat) (f : Bool), e = .returned (.tuple #[.int .i64 i, .bool f]) ∧ ((f = true ∧ ∃ p, l[i]? = some p ∧ p.1 = k) ∨ (f = false ∧ findM l k = none))) ∧ Below w.heap.size w w' := by
  obtain ⟨oa, cap, rfl⟩ := hl.shape
  have HL := Lib.hid hl
  have HN := Lib.hid hn
  clear hl hn
  go_enter Tryz.func210, Tryz.ntmps210
  go_wp2_with fail
  go_loopw [9, 10] (fun i j wr => ∃ lo hi : Nat, i = .int .i64 lo ∧ j = .int .i64 hi ∧ lo ≤ hi ∧ hi ≤ l.length ∧ Hid (BsM l k lo hi) ∧ Hid (Below w.heap.size w wr)) (fun i j _ => (intOf j).toNat - (intOf i).toNat)
  case atStart => exact ⟨0, l.length, rfl, rfl, by omega, by omega, Lib.hid ⟨by omega, Nat.le_refl _, fun j p hj => absurd hj (by omega), fun j p hj hp => by have := (List.getElem?_eq_some_iff.1 hp).1; omega⟩, Lib.hid (Below.refl _ _)⟩
  case round =>
    obtain ⟨lo, hi, rfl, rfl, h1, h2, HS, HBW⟩ := hrel
    by_cases hlt : lo < hi
    · obtain ⟨b1, o1, p, ov, cv, om, cm, rfl, hbn, hp, -, -, c0, c1, c2⟩ := MxsIs.three (HL.out.carry keeps_MxsIs HBW.out HBW.out.size) (k := (lo + hi) / 2) (by omega)
      have HP := Lib.hid hp
      clear hp
      go_wp2_with fail
      refine (mxCmp_any p.1 k _ _ _).mono ?_
      rintro e w1 ⟨rfl, hb1⟩
      have HB1 : Hid (Below w.heap.size w w1) := Lib.hid (HBW.out.trans (hb1.mono HBW.out.size))
      clear hb1
      by_cases hlt2 : p.1 < k
      · have hd : decide (Lib.compareBytes p.1 k < 0) = true := decide_eq_true ((cmpB_lt _ _).2 hlt2)
        have HS2 : Hid (BsM l k ((lo + hi) / 2 + 1) hi) := Lib.hid ⟨by omega, h2, fun j q hj hq => by
          by_cases e : j = (lo + hi) / 2
          · subst e; rw [HP.out] at hq; cases hq; exact hlt2
          · exact List.lt_trans (HN.out.lt (show j < (lo + hi) / 2 by omega) (nmx_at hq) (nmx_at HP.out)) hlt2, HS.out.high⟩
        clear hlt2
        go_wp2_with fail
        exact ⟨⟨(lo + hi) / 2 + 1, hi, by rw [show ((lo : Int) + (hi : Int)) / 2 + 1 = (((lo + hi) / 2 + 1 : Nat) : Int) by omega], rfl, by omega, h2, HS2, HB1⟩, by simp [intOf]; omega⟩
      · have hd : decide (Lib.compareBytes p.1 k < 0) = false := decide_eq_false fun h => hlt2 ((cmpB_lt _ _).1 h)
        have HS2 : Hid (BsM l k lo ((lo + hi) / 2)) := Lib.hid ⟨by omega, by omega, HS.out.low, fun j q hj hq h => by
          by_cases e : j = (lo + hi) / 2
          · subst e; rw [HP.out] at hq; cases hq; exact hlt2 h
          · exact hlt2 (List.lt_trans (HN.out.lt (show (lo + hi) / 2 < j by omega) (nmx_at HP.out) (nmx_at hq)) h)⟩
        clear hlt2
        go_wp2_with fail
        exact ⟨⟨lo, (lo + hi) / 2, rfl, by rw [show ((lo : Int) + (hi : Int)) / 2 = (((lo + hi) / 2 : Nat) : Int) by omega], by omega, by omega, HS2, HB1⟩, by simp [intOf]; omega⟩
    · obtain rfl : hi = lo := by omega
      by_cases hle : hi < l.length
      · obtain ⟨b1, o1, p, ov, cv, om, cm, rfl, hbn, hp, -, -, c0, c1, c2⟩ := MxsIs.three (HL.out.carry keeps_MxsIs HBW.out HBW.out.size) hle
        have HP := Lib.hid hp
        clear hp
        go_wp2_with fail
        refine (mxCmp_any p.1 k _ _ _).mono ?_
        rintro e w1 ⟨rfl, hb1⟩
        have HB1 : Hid (Below w.heap.size w w1) := Lib.hid (HBW.out.trans (hb1.mono HBW.out.size))
        clear hb1
        by_cases he : p.1 = k
        · have hd : (Lib.compareBytes p.1 k == 0) = true := by rw [beq_iff_eq]; exact (cmpB_eq _ _).2 he
          have HE := Lib.hid he
          clear he
          go_wp2_with fail
          go_ret2
          exact ⟨⟨hi, true, rfl, .inl ⟨rfl, p, HP.out, HE.out⟩⟩, HB1.out⟩
        · have hd : (Lib.compareBytes p.1 k == 0) = false := by rw [beq_eq_false_iff_ne]; exact fun h => he ((cmpB_eq _ _).1 h)
          have HE : Hid (findM l k = none) := Lib.hid (HS.out.none HN.out fun q hq => by rw [HP.out] at hq; cases hq; exact he)
          clear he
          go_wp2_with fail
          go_ret2
          exact ⟨⟨hi, false, rfl, .inr ⟨rfl, HE.out⟩⟩, HB1.out⟩
      · have HE : Hid (findM l k = none) := Lib.hid (HS.out.none HN.out fun q hq => by have := (List.getElem?_eq_some_iff.1 hq).1; omega)
        go_wp2_with fail
        go_ret2
        exact ⟨⟨hi, false, rfl, .inr ⟨rfl, HE.out⟩⟩, HBW.out⟩
theorem box3m {W : World} {b : Nat} {x y z : Value} {t : TypeId} (h : W.heap[b]? = some (.cells #[x, y, z] t (0, 0))) (p q r : Value) :
    (((W.setCell ⟨b, 0, none⟩ p).setCell ⟨b, 1, none⟩ q).setCell ⟨b, 2, none⟩ r).cell? ⟨b, 0, none⟩ = some p ∧ (((W.setCell ⟨b, 0, none⟩ p).setCell ⟨b, 1, none⟩ q).setCell ⟨b, 2, none⟩ r).cell? ⟨b, 1, none⟩ = some q ∧ (((W.setCell ⟨b, 0, none⟩ p).setCell ⟨b, 1, none⟩ q).setCell ⟨b, 2, none⟩ r).cell? ⟨b, 2, none⟩ = some r := by
  have hx : (((W.setCell ⟨b, 0, none⟩ p).setCell ⟨b, 1, none⟩ q).setCell ⟨b, 2, none⟩ r).heap[b]? = some (.cells #[p, q, r] t (0, 0)) := by
    simp only [World.setCell, Array.getElem?_modify, if_true, h, Option.map_some]
    rfl
  exact ⟨cells_of' hx 0, cells_of' hx 1, cells_of' hx 2⟩
/-- the answer of entry: the entry as it lies, or nothing -/
def EnPost (l : List Mx) (k : Key) (w' : World) (e : Ending) : Prop :=
  (∃ p ov cv om cm, findM l k = some p ∧ e = .returned (.tuple #[.agg #[.string (kb p.1), .slice ov p.2.1.length cv, .slice om p.2.2.length cm], .bool true]) ∧ U64Is w'.heap.size w' p.2.1 (.slice ov p.2.1.length cv) ∧ MatsU w'.heap.size w' p.2.2 (.slice om p.2.2.length cm)) ∨
  (findM l k = none ∧ e = .returned (.tuple #[.agg #[.string ⟨#[]⟩, .slice none 0 0, .slice none 0 0], .bool false]))
abbrev zeroMx : Obj := .cells #[.string ⟨#[]⟩, .slice none 0 0, .slice none 0 0] 142
set_option maxRecDepth 100000 in
set_option maxHeartbeats 8000000 in
theorem mxEntry_any (d : Nat) (l : List Mx) (k : Key) (v : Value) (w : World) (hl : MxsIs w.heap.size w l v) (hlen : l.length ≤ 1048576) (hn : NmsOk (l.map nmx)) :
    Calls Tryz.prog 153 #[.agg #[.int .i64 (d : Int), v], .string (kb k)] w fun e w' => EnPost l k w' e ∧ Below w.heap.size w w' := by
  have HS : Hid (∀ W, Below w.heap.size w W → Calls Tryz.prog 210 #[v, .string (kb k), .func (.func 211) #[] #[]] W fun e w' => (∃ (i : Nat) (f : Bool), e = .returned (.tuple #[.int .i64 i, .bool f]) ∧ ((f = true ∧ ∃ p, l[i]? = some p ∧ p.1 = k) ∨ (f = false ∧ findM l k = none))) ∧ Below W.heap.size W w') := Lib.hid fun W hW => mxSearch_any l k v W (hl.carry keeps_MxsIs hW hW.size) hlen hn
  obtain ⟨oa, cap, rfl⟩ := hl.shape
  have HL := Lib.hid hl
  have HN := Lib.hid hn
  clear hl hn
  have hb0 : Below w.heap.size w ((w.alloc (.cells #[.int .i64 (d : Int), .slice oa l.length cap] 146)).alloc zeroMx) := by go_grown
  have hx0 : ((w.alloc (.cells #[.int .i64 (d : Int), .slice oa l.length cap] 146)).alloc zeroMx).heap[w.heap.size]? = some (.cells #[.int .i64 (d : Int), .slice oa l.length cap] 146 (0, 0)) := (Below.heap_alloc _ _ _ (by simp)).trans (heap_new_at _ _ _ rfl)
  have hx1 : ((w.alloc (.cells #[.int .i64 (d : Int), .slice oa l.length cap] 146)).alloc zeroMx).heap[w.heap.size + 1]? = some zeroMx := heap_new_at _ _ _ (by simp)
  have HB0 := Lib.hid hb0
  have HX0 := Lib.hid hx0
  have HX1 := Lib.hid hx1
  clear hb0 hx0 hx1
  go_enter Tryz.func153, Tryz.ntmps153
  go_wp2_with fail
  refine (HS.out _ HB0.out).mono ?_
  rintro e w1 ⟨⟨i, f, rfl, hc⟩, hb1⟩
  have HB1 : Hid (Below w.heap.size w w1) := Lib.hid (HB0.out.trans (hb1.mono HB0.out.size))
  have HY0 := Lib.hid ((hb1.block w.heap.size (Array.getElem?_eq_some_iff.1 HX0.out).1).trans HX0.out)
  have HY1 := Lib.hid ((hb1.block (w.heap.size + 1) (Array.getElem?_eq_some_iff.1 HX1.out).1).trans HX1.out)
  clear hb1 HS HX0 HX1 HB0
  have hz1 := (Array.getElem?_eq_some_iff.1 HY1.out).1
  have y0 := cells_of' HY1.out 0
  have y1 := cells_of' HY1.out 1
  have y2 := cells_of' HY1.out 2
  have f0 := frozen_of' HY1.out 0
  have f1 := frozen_of' HY1.out 1
  have f2 := frozen_of' HY1.out 2
  have x1 := cells_of' HY0.out 1
  simp only [List.getElem?_toArray, List.getElem?_cons_zero, List.getElem?_cons_succ] at y0 y1 y2 x1
  cases f
  · obtain ⟨-, h0⟩ := hc.resolve_left (by rintro ⟨h, -⟩; cases h)
    have H0 := Lib.hid h0
    clear h0 hc
    go_wp2_with fail
    have q0 := box3m HY1.out (.string ⟨#[]⟩) (.slice none 0 0) (.slice none 0 0)
    refine bodyPost_ret (v := .tuple #[.agg #[.string ⟨#[]⟩, .slice none 0 0, .slice none 0 0], .bool false]) (by simp [results, Tryz.f153, go_sem, q0.1, q0.2.1, q0.2.2]) rfl ?_
    exact ⟨.inr ⟨H0.out, rfl⟩, below_set3 HB1.out (by omega) _ _ _⟩
  · obtain ⟨-, p, hp, hk⟩ := hc.resolve_right (by rintro ⟨h, -⟩; cases h)
    have hil := (List.getElem?_eq_some_iff.1 hp).1
    obtain ⟨b1, o1, p', ov, cv, om, cm, rfl, hbn, hp', hv, hm, c0, c1, c2⟩ := MxsIs.three HL.out hil
    rw [hp] at hp'; cases hp'
    have c0 := (HB1.out.cell (p := ⟨b1, _, none⟩) hbn).trans c0
    have c1 := (HB1.out.cell (p := ⟨b1, _, none⟩) hbn).trans c1
    have c2 := (HB1.out.cell (p := ⟨b1, _, none⟩) hbn).trans c2
    have HF := Lib.hid (findM_hit HN.out hp hk)
    have HV := Lib.hid hv
    have HM := Lib.hid hm
    have q1 : ¬ (b1 = w.heap.size + 1) := by omega
    have q2 : ¬ (w.heap.size + 1 = b1) := by omega
    clear hp hk hc hv hm
    go_wp2_with fail
    have q0 := box3m HY1.out (.string (kb p.1)) (.slice ov p.2.1.length cv) (.slice om p.2.2.length cm)
    refine bodyPost_ret (v := .tuple #[.agg #[.string (kb p.1), .slice ov p.2.1.length cv, .slice om p.2.2.length cm], .bool true]) (by simp [results, Tryz.f153, go_sem, q0.1, q0.2.1, q0.2.2]) rfl ?_
    have hbf : Below w.heap.size w (((w1.setCell ⟨w.heap.size + 1, 0, none⟩ (.string (kb p.1))).setCell ⟨w.heap.size + 1, 1, none⟩ (.slice ov p.2.1.length cv)).setCell ⟨w.heap.size + 1, 2, none⟩ (.slice om p.2.2.length cm)) := below_set3 HB1.out (by omega) _ _ _
    exact ⟨.inl ⟨p, ov, cv, om, cm, HF.out, rfl, HV.out.carry hbf hbf.size, HM.out.carry keeps_MatsU hbf hbf.size⟩, hbf⟩
/-- a symbol has as many arguments as its interpretation -/
def fitB (l : List Mx) (x : Key × Int) : Bool := match findM l x.1 with
  | some p => decide ((p.2.2.length : Int) = x.2)
  | none => true
/-- the first element of a matrix -/
def hdM (m : List (List Nat)) : Nat := (m.headD []).headD 0
/-- all matrices of a symbol have a positive first element -/
def monB (l : List Mx) (x : Key × Int) : Bool := match findM l x.1 with
  | some p => !(p.2.2.any fun m => decide (hdM m = 0))
  | none => true
set_option maxRecDepth 100000 in
set_option maxHeartbeats 4000000 in
theorem mxFits_any (d : Nat) (l : List Mx) (x : Key × Int) (v : Value) (w : World) (hl : MxsIs w.heap.size w l v) (hlen : l.length ≤ 1048576) (hn : NmsOk (l.map nmx)) :
    Calls Tryz.prog 87 #[.agg #[.int .i64 (d : Int), v], .agg #[.string (kb x.1), .int .i64 x.2]] w fun e w' => e = .returned (.bool (fitB l x)) ∧ Below w.heap.size w w' := by
  have HE : Hid (∀ W, Below w.heap.size w W → Calls Tryz.prog 153 #[.agg #[.int .i64 (d : Int), v], .string (kb x.1)] W fun e w' => EnPost l x.1 w' e ∧ Below W.heap.size W w') := Lib.hid fun W hW => mxEntry_any d l x.1 v W (hl.carry keeps_MxsIs hW hW.size) hlen hn
  obtain ⟨oa, cap, rfl⟩ := hl.shape
  clear hl hn
  have hb0 : Below w.heap.size w ((w.alloc (.cells #[.int .i64 (d : Int), .slice oa l.length cap] 146)).alloc (.cells #[.string (kb x.1), .int .i64 x.2] 110)) := by go_grown
  have hx1 : ((w.alloc (.cells #[.int .i64 (d : Int), .slice oa l.length cap] 146)).alloc (.cells #[.string (kb x.1), .int .i64 x.2] 110)).heap[w.heap.size + 1]? = some (.cells #[.string (kb x.1), .int .i64 x.2] 110 (0, 0)) := heap_new_at _ _ _ (by simp)
  have HB0 := Lib.hid hb0
  have HX1 := Lib.hid hx1
  clear hb0 hx1
  go_enter Tryz.func87, Tryz.ntmps87
  go_wp2_with fail
  refine (HE.out _ HB0.out).mono ?_
  rintro e w1 ⟨hc, hb1⟩
  have HB1 : Hid (Below w.heap.size w w1) := Lib.hid (HB0.out.trans (hb1.mono HB0.out.size))
  have HY1 := Lib.hid ((hb1.block (w.heap.size + 1) (Array.getElem?_eq_some_iff.1 HX1.out).1).trans HX1.out)
  clear hb1 HE HX1 HB0
  have hz1 := (Array.getElem?_eq_some_iff.1 HY1.out).1
  have y1 := cells_of' HY1.out 1
  simp only [List.getElem?_toArray, List.getElem?_cons_zero, List.getElem?_cons_succ] at y1
  rcases hc with ⟨p, ov, cv, om, cm, hf, rfl, -, -⟩ | ⟨hf, rfl⟩
  · have HR : Hid (fitB l x = decide ((p.2.2.length : Int) = x.2)) := Lib.hid (by unfold fitB; rw [hf])
    clear hf
    by_cases he : (p.2.2.length : Int) = x.2
    · have hbe : ((p.2.2.length : Int) == x.2) = true := by rw [beq_iff_eq]; exact he
      have HD : Hid (decide ((p.2.2.length : Int) = x.2) = true) := Lib.hid (decide_eq_true he)
      clear he
      go_wp2_with fail
      go_ret
      exact ⟨by rw [HR.out, HD.out]; rfl, HB1.out.alloc HB1.out.size _⟩
    · have hbe : ((p.2.2.length : Int) == x.2) = false := by rw [beq_eq_false_iff_ne]; exact he
      have HD : Hid (decide ((p.2.2.length : Int) = x.2) = false) := Lib.hid (decide_eq_false he)
      clear he
      go_wp2_with fail
      go_ret
      exact ⟨by rw [HR.out, HD.out]; rfl, HB1.out.alloc HB1.out.size _⟩
  · have HR : Hid (fitB l x = true) := Lib.hid (by unfold fitB; rw [hf])
    clear hf
    go_wp2_with fail
    go_ret
    exact ⟨by rw [HR.out]; rfl, HB1.out.alloc HB1.out.size _⟩
set_option maxRecDepth 100000 in
set_option maxHeartbeats 4000000 in
theorem mono1_any (m : List (List Nat)) (v : Value) (w : World) (hm : RowsU w.heap.size w m v) (d : Nat) (hd : 1 ≤ d) (hl : m.length = d) (hr : ∀ r ∈ m, r.length = d) :
    Calls Tryz.prog 155 #[v] w fun e w' => e = .returned (.bool (decide (hdM m = 0))) ∧ Below w.heap.size w w' := by
  obtain ⟨oa, cap, rfl⟩ := hm.shape
  obtain ⟨b, o, r, ov, cv, rfl, hb, hr0, hu, c0⟩ := RowsU.at1 hm (k := 0) (by omega)
  have hrl := hr r (List.mem_of_getElem? hr0)
  obtain ⟨b2, o2, n, rfl, hb2, hn0, d0⟩ := hu.at (k := 0) (by omega)
  have hh : hdM m = n := by
    unfold hdM
    cases m with
    | nil => simp at hr0
    | cons y m =>
      simp at hr0; subst hr0
      cases y with
      | nil => simp at hn0
      | cons z y => simp at hn0; subst hn0; rfl
  rw [hh]
  have hm0 : (0 : Int) < (m.length : Int) := by omega
  have hr0' : (0 : Int) < (r.length : Int) := by omega
  rw [Nat.add_zero] at c0 d0
  clear hm hr hr0 hu hn0 hh hrl
  by_cases hz : n = 0
  · subst hz
    go_enter Tryz.func155, Tryz.ntmps155
    go_wp2_with fail
    go_ret
    exact ⟨rfl, Below.refl _ _⟩
  · have hbz : ((n : Int) == 0) = false := by rw [beq_eq_false_iff_ne]; omega
    have HD : Hid (decide (n = 0) = false) := Lib.hid (decide_eq_false hz)
    clear hz
    go_enter Tryz.func155, Tryz.ntmps155
    go_wp2_with fail
    go_ret
    exact ⟨by rw [HD.out]; rfl, Below.refl _ _⟩
theorem formB_rows {d : Nat} {v : List Nat} {ms : List (List (List Nat))} (h : formB d v ms = true) {m : List (List Nat)} (hm : m ∈ ms) : m.length = d ∧ ∀ r ∈ m, r.length = d := by
  obtain ⟨h1, h2⟩ := formB_mats h m hm
  refine ⟨h1, fun r hr => ?_⟩
  rw [List.any_eq_false] at h2
  have := h2 r hr
  unfold wrongB at this
  simpa using this
set_option maxRecDepth 100000 in
set_option maxHeartbeats 4000000 in
theorem mxMono_any (d : Nat) (l : List Mx) (x : Key × Int) (v : Value) (w : World) (hl : MxsIs w.heap.size w l v) (hs : mxsSm l) (hok : MxOk d l) :
    Calls Tryz.prog 89 #[.agg #[.int .i64 (d : Int), v], .agg #[.string (kb x.1), .int .i64 x.2]] w fun e w' => e = .returned (.bool (monB l x)) ∧ Below w.heap.size w w' := by
  have HE : Hid (∀ W, Below w.heap.size w W → Calls Tryz.prog 153 #[.agg #[.int .i64 (d : Int), v], .string (kb x.1)] W fun e w' => EnPost l x.1 w' e ∧ Below W.heap.size W w') := Lib.hid fun W hW => mxEntry_any d l x.1 v W (hl.carry keeps_MxsIs hW hW.size) hs.1 hok.nms
  have HOK := Lib.hid hok
  have HSM := Lib.hid hs
  obtain ⟨oa, cap, rfl⟩ := hl.shape
  clear hl hok hs
  have hb0 : Below w.heap.size w ((w.alloc (.cells #[.int .i64 (d : Int), .slice oa l.length cap] 146)).alloc (.cells #[.string (kb x.1), .int .i64 x.2] 110)) := by go_grown
  have HB0 := Lib.hid hb0
  clear hb0
  go_enter Tryz.func89, Tryz.ntmps89
  go_wp2_with fail
  refine (HE.out _ HB0.out).mono ?_
  rintro e w1 ⟨hc, hb1⟩
  have HB1 : Hid (Below w.heap.size w w1) := Lib.hid (HB0.out.trans (hb1.mono HB0.out.size))
  clear hb1 HE HB0
  rcases hc with ⟨p, ov, cv, om, cm, hf, rfl, -, hm⟩ | ⟨hf, rfl⟩
  · have HR : Hid (monB l x = !(p.2.2.any fun m => decide (hdM m = 0))) := Lib.hid (by unfold monB; rw [hf])
    have hpl := (findM_some hf).1
    have hb2 : Below w1.heap.size w1 (w1.alloc (.cells #[.string (kb p.1), .slice ov p.2.1.length cv, .slice om p.2.2.length cm] 142)) := by go_grown
    have HCM := Lib.hid (cfM_any 155 #[] (enters_of Tryz.func155 (by kernel_rfl) rfl) (fun m => decide (hdM m = 0)) p.2.2 (.slice om p.2.2.length cm) _ (hm.carry keeps_MatsU hb2 hb2.size) (HSM.out.2 p hpl).2.2.1 (Lib.hid fun y hy W u _ hu => mono1_any y u W hu d HOK.out.dim.1 (formB_rows (HOK.out.ents p hpl).1 hy).1 (formB_rows (HOK.out.ents p hpl).1 hy).2))
    have HB2 : Hid (Below w.heap.size w (w1.alloc (.cells #[.string (kb p.1), .slice ov p.2.1.length cv, .slice om p.2.2.length cm] 142))) := Lib.hid (HB1.out.trans (hb2.mono HB1.out.size))
    clear hf hm hb2 hpl
    go_wp2_with fail
    refine HCM.out.mono ?_
    rintro e w2 ⟨rfl, hb⟩
    go_wp2_with fail
    go_ret
    exact ⟨by rw [HR.out]; rfl, HB2.out.trans (hb.mono HB2.out.size)⟩
  · have HR : Hid (monB l x = true) := Lib.hid (by unfold monB; rw [hf])
    have HCM := Lib.hid (cfM_any 155 #[] (enters_of Tryz.func155 (by kernel_rfl) rfl) (fun m => decide (hdM m = 0)) [] (.slice none 0 0) (w1.alloc zeroMx) ⟨none, 0, rfl, Nat.le_refl _, fun h => absurd rfl h⟩ (by simp) (Lib.hid fun y hy => by cases hy))
    have HB2 : Hid (Below w.heap.size w (w1.alloc zeroMx)) := Lib.hid (HB1.out.alloc HB1.out.size _)
    clear hf
    go_wp2_with fail
    refine HCM.out.mono ?_
    rintro e w2 ⟨rfl, hb⟩
    go_wp2_with fail
    go_ret
    exact ⟨by rw [HR.out]; rfl, HB2.out.trans (hb.mono HB2.out.size)⟩
set_option maxRecDepth 100000 in
set_option maxHeartbeats 4000000 in
theorem mono_1_any (d : Nat) (l : List Mx) (x : Key × Int) (v : Value) (pb : Nat) (w : World) (hp : w.heap[pb]? = some (.cells #[.int .i64 (d : Int), v] 146 (0, 0))) (hl : MxsIs w.heap.size w l v) (hlen : l.length ≤ 1048576) (hn : NmsOk (l.map nmx)) :
    Calls Tryz.prog 86 #[.agg #[.string (kb x.1), .int .i64 x.2], .pointer (some ⟨pb, 0, none⟩)] w fun e w' => e = .returned (.bool (!fitB l x)) ∧ Below w.heap.size w w' := by
  have hb0 : Below w.heap.size w (w.alloc (.cells #[.string (kb x.1), .int .i64 x.2] 110)) := by go_grown
  have HF := Lib.hid (mxFits_any d l x v _ (hl.carry keeps_MxsIs hb0 hb0.size) hlen hn)
  have HB0 := Lib.hid hb0
  obtain ⟨oa, cap, rfl⟩ := hl.shape
  have p0 := cells_of' hp 0
  have p1 := cells_of' hp 1
  have hpz := (Array.getElem?_eq_some_iff.1 hp).1
  have q1 : ¬ (pb = w.heap.size) := by omega
  simp only [List.getElem?_toArray, List.getElem?_cons_zero, List.getElem?_cons_succ] at p0 p1
  clear hp hl hn hb0
  go_enter Tryz.func86, Tryz.ntmps86
  go_wp2_with fail
  refine HF.out.mono ?_
  rintro e w1 ⟨rfl, hb⟩
  go_wp2_with fail
  go_ret
  exact ⟨rfl, HB0.out.trans (hb.mono HB0.out.size)⟩
set_option maxRecDepth 100000 in
set_option maxHeartbeats 4000000 in
theorem mono_2_any (d : Nat) (l : List Mx) (x : Key × Int) (v : Value) (pb : Nat) (w : World) (hp : w.heap[pb]? = some (.cells #[.int .i64 (d : Int), v] 146 (0, 0))) (hl : MxsIs w.heap.size w l v) (hs : mxsSm l) (hok : MxOk d l) :
    Calls Tryz.prog 88 #[.agg #[.string (kb x.1), .int .i64 x.2], .pointer (some ⟨pb, 0, none⟩)] w fun e w' => e = .returned (.bool (!monB l x)) ∧ Below w.heap.size w w' := by
  have hb0 : Below w.heap.size w (w.alloc (.cells #[.string (kb x.1), .int .i64 x.2] 110)) := by go_grown
  have HF := Lib.hid (mxMono_any d l x v _ (hl.carry keeps_MxsIs hb0 hb0.size) hs hok)
  have HB0 := Lib.hid hb0
  obtain ⟨oa, cap, rfl⟩ := hl.shape
  have p0 := cells_of' hp 0
  have p1 := cells_of' hp 1
  have hpz := (Array.getElem?_eq_some_iff.1 hp).1
  have q1 : ¬ (pb = w.heap.size) := by omega
  simp only [List.getElem?_toArray, List.getElem?_cons_zero, List.getElem?_cons_succ] at p0 p1
  clear hp hl hs hok hb0
  go_enter Tryz.func88, Tryz.ntmps88
  go_wp2_with fail
  refine HF.out.mono ?_
  rintro e w1 ⟨rfl, hb⟩
  go_wp2_with fail
  go_ret
  exact ⟨rfl, HB0.out.trans (hb.mono HB0.out.size)⟩
/-- the answer of Monotone -/
noncomputable def monAns (dim : Int) (l : List Mx) (s : List (Key × Int)) : Bool × Int :=
  if matC dim l ≠ 0 then (false, matC dim l) else if symC s ≠ 0 then (false, symC s) else if s.any (fun x => !fitB l x) = true then (false, 10) else (!(s.any fun x => !monB l x), 0)
set_option maxRecDepth 100000 in
set_option maxHeartbeats 8000000 in
theorem mMonotone_any (dim : Int) (l : List Mx) (s : List (Key × Int)) (v sv : Value) (w : World) (hl : MxsIs w.heap.size w l v) (hs : mxsSm l) (hv : SymsIs w.heap.size w s sv) (hss : symSm s) :
    Calls Tryz.prog 33 #[.int .i64 dim, v, sv] w fun e w' => e = .returned (.tuple #[.bool (monAns dim l s).1, .int .i64 (monAns dim l s).2]) ∧ Below w.heap.size w w' := by
  have HCK := Lib.hid (mCheck_any dim l v w hl hs)
  obtain ⟨oa, cap, rfl⟩ := hl.shape
  obtain ⟨os, cs, rfl⟩ := hv.shape
  have HL := Lib.hid hl
  have HV := Lib.hid hv
  have HSM := Lib.hid hs
  have HSS := Lib.hid hss
  clear hl hv hs hss
  go_enter Tryz.func33, Tryz.ntmps33
  go_wp2_with fail
  refine HCK.out.mono ?_
  rintro e w1 ⟨rfl, hb1⟩
  have HB1 := Lib.hid hb1
  clear hb1 HCK
  by_cases hm : matC dim l = 0
  rotate_left
  · have HA : Hid (monAns dim l s = (false, matC dim l)) := Lib.hid (by unfold monAns; rw [if_pos hm])
    have hd1 : (matC dim l != 0) = true := by rw [bne_iff_ne]; exact hm
    clear hm
    generalize matC dim l = z at *
    go_wp2_with fail
    go_ret2
    exact ⟨by rw [HA.out]; rfl, HB1.out⟩
  obtain ⟨d, rfl, hok⟩ := matC_zero.1 hm
  have HOK := Lib.hid hok
  have HM := Lib.hid hm
  rw [hm]
  clear hm hok
  go_wp2_with fail
  refine (mcheckSymbols_any s _ w1 (HV.out.carry keeps_SymsIs HB1.out HB1.out.size) HSS.out).mono ?_
  rintro e w2 ⟨rfl, hb2⟩
  have HB2 := Lib.hid (HB1.out.trans (hb2.mono HB1.out.size))
  clear hb2 HB1
  by_cases hsc : symC s = 0
  rotate_left
  · have HA : Hid (monAns d l s = (false, symC s)) := Lib.hid (by unfold monAns; rw [if_neg (by rw [HM.out]; simp), if_pos hsc])
    have hd1 : (symC s != 0) = true := by rw [bne_iff_ne]; exact hsc
    clear hsc
    generalize symC s = z at *
    go_wp2_with fail
    go_ret2
    exact ⟨by rw [HA.out]; rfl, HB2.out⟩
  have HSC := Lib.hid hsc
  rw [hsc]
  clear hsc
  have hbx : Below w2.heap.size w2 (w2.alloc (.cells #[.int .i64 (d : Int), .slice oa l.length cap] 146)) := by go_grown
  have HB3 : Hid (Below w.heap.size w (w2.alloc (.cells #[.int .i64 (d : Int), .slice oa l.length cap] 146))) := Lib.hid (HB2.out.trans (hbx.mono HB2.out.size))
  have HX3 : Hid ((w2.alloc (.cells #[.int .i64 (d : Int), .slice oa l.length cap] 146)).heap[w2.heap.size]? = some (.cells #[.int .i64 (d : Int), .slice oa l.length cap] 146 (0, 0))) := Lib.hid (heap_new_at _ _ _ rfl)
  clear hbx
  have HC1 := Lib.hid (cfS_any 86 #[.pointer (some ⟨w2.heap.size, 0, none⟩)] (enters_of Tryz.func86 (by kernel_rfl) rfl) (fun x => !fitB l x) s _ _ (HV.out.carry keeps_SymsIs HB3.out HB3.out.size) HSS.out.1 (Lib.hid fun x _ W hW => mono_1_any d l x _ w2.heap.size W ((hW.block _ (by simp)).trans HX3.out) (HL.out.carry keeps_MxsIs (HB3.out.trans (hW.mono HB3.out.size)) (Nat.le_trans HB3.out.size hW.size)) HSM.out.1 HOK.out.nms))
  go_wp2_with fail
  refine HC1.out.mono ?_
  rintro e w4 ⟨rfl, hb4⟩
  have HB4 := Lib.hid (HB3.out.trans (hb4.mono HB3.out.size))
  have HX4 := Lib.hid ((hb4.block _ (by simp)).trans HX3.out)
  have hz4 : w2.heap.size < w4.heap.size := (Array.getElem?_eq_some_iff.1 HX4.out).1
  clear hb4 HC1 HB3 HX3
  cases hf : s.any (fun x => !fitB l x)
  rotate_left
  · have HA : Hid (monAns d l s = (false, 10)) := Lib.hid (by unfold monAns; rw [if_neg (by rw [HM.out]; simp), if_neg (by rw [HSC.out]; simp), if_pos hf])
    clear hf
    go_wp2_with fail
    go_ret2
    exact ⟨by rw [HA.out]; rfl, HB4.out⟩
  have HA : Hid (monAns d l s = (!(s.any fun x => !monB l x), 0)) := Lib.hid (by unfold monAns; rw [if_neg (by rw [HM.out]; simp), if_neg (by rw [HSC.out]; simp), if_neg (by rw [hf]; simp)])
  clear hf
  have HC2 := Lib.hid (cfS_any 88 #[.pointer (some ⟨w2.heap.size, 0, none⟩)] (enters_of Tryz.func88 (by kernel_rfl) rfl) (fun x => !monB l x) s (.slice os s.length cs) w4 (HV.out.carry keeps_SymsIs HB4.out HB4.out.size) HSS.out.1 (Lib.hid fun x _ W hW => mono_2_any d l x _ w2.heap.size W ((hW.block _ hz4).trans HX4.out) (HL.out.carry keeps_MxsIs (HB4.out.trans (hW.mono HB4.out.size)) (Nat.le_trans HB4.out.size hW.size)) HSM.out HOK.out))
  go_wp2_with fail
  refine HC2.out.mono ?_
  rintro e w5 ⟨rfl, hb5⟩
  go_wp2_with fail
  go_ret2
  exact ⟨by rw [HA.out]; rfl, HB4.out.trans (hb5.mono HB4.out.size)⟩
end Go.Proofs.YtamddagmlanijaaGreat
/- The reference of package matrix: Zero, One, Entry, Monotone. -/
namespace Go.Proofs.YtamddagmlanijaaGreat
open Go.RowKit Go.Shelf

theorem infoU64 : (Tryz.prog.info? 47).map (fun i => (i.zero, i.size, i.bytes)) = some (some (.int .u64 0), 1, 8) := by kernel_rfl
/-- a square of numbers while it is made: k rows are there -/
structure ZrSt (w : World) (d k : Nat) (hs : Nat → Nat) (W : World) (cur : Array Value) : Prop where
  ob : W.heap[w.heap.size]? = some (.cells cur 46 (0, 0))
  size : cur.size = d
  row : ∀ j, j < k → cur[j]? = some (.slice (some ⟨hs j, 0, none⟩) d d)
  rb : ∀ j, j < k → w.heap.size < hs j ∧ ∃ c, W.heap[hs j]? = some (.cells c 47 (0, 0)) ∧ c.size = d
  low : Below w.heap.size w W
theorem ZrSt.lt {w W : World} {d k : Nat} {hs : Nat → Nat} {cur : Array Value} (h : ZrSt w d k hs W cur) : w.heap.size < W.heap.size := (Array.getElem?_eq_some_iff.1 h.ob).1
theorem ZrSt.step {w A W : World} {d k g : Nat} {hs : Nat → Nat} {cur c : Array Value} (h : ZrSt w d k hs A cur) (hb : Below A.heap.size A W) (hg : A.heap.size ≤ g) (hc : W.heap[g]? = some (.cells c 47 (0, 0))) (hcs : c.size = d) (hk : k < d) :
    ZrSt w d (k + 1) (fun j => if j = k then g else hs j) (W.setCell ⟨w.heap.size, k, none⟩ (.slice (some ⟨g, 0, none⟩) d d)) (cur.setIfInBounds k (.slice (some ⟨g, 0, none⟩) d d)) := by
  have hlt := h.lt
  refine ⟨?_, by simp [h.size], ?_, ?_, (h.low.trans (hb.mono h.low.size)).setCell (Nat.le_refl _) _⟩
  · have h1 := (hb.block _ hlt).trans h.ob
    simp only [World.setCell, Array.getElem?_modify, if_true, h1]
    rfl
  · intro j hj
    by_cases e : j = k
    · subst e
      rw [Array.getElem?_setIfInBounds]
      simp [h.size, hk]
    · rw [Array.getElem?_setIfInBounds, if_neg (fun h => e h.symm), if_neg e]
      exact h.row j (by omega)
  · intro j hj
    by_cases e : j = k
    · rw [if_pos e]
      exact ⟨by omega, c, (Below.heap_setCell _ _ _ _ (by show g ≠ w.heap.size; omega)).trans hc, hcs⟩
    · rw [if_neg e]
      obtain ⟨h1, c', h2, h3⟩ := h.rb j (by omega)
      exact ⟨h1, c', (Below.heap_setCell _ _ _ _ (by show hs j ≠ w.heap.size; omega)).trans ((hb.block _ (Array.getElem?_eq_some_iff.1 h2).1).trans h2), h3⟩
set_option maxRecDepth 100000 in
set_option maxHeartbeats 4000000 in
theorem rZero9_any (d : Nat) (hd : d ≤ 1048576) (w : World) :
    Calls Tryz.prog 214 #[.int .i64 (d : Int)] w fun e w' => e = .returned (.slice (some ⟨w.heap.size, 0, none⟩) d d) ∧ ∃ hs cur, ZrSt w d d hs w' cur := by
  obtain ⟨i46, hi, hz0, hz1, hz2⟩ := info_parts infoRow
  obtain ⟨i47, ki, kz0, kz1, kz2⟩ := info_parts infoU64
  have HI0 := Lib.hid hi
  have HZ0 := Lib.hid hz0
  have HZ1 := Lib.hid hz1
  have HZ2 := Lib.hid hz2
  have KI0 := Lib.hid ki
  have KZ0 := Lib.hid kz0
  have KZ1 := Lib.hid kz1
  have KZ2 := Lib.hid kz2
  clear hi hz0 hz1 hz2 ki kz0 kz1 kz2
  go_enter Tryz.func214, Tryz.ntmps214
  go_wp2_with (
    at_make
    refine wpList_make_full _ rfl _ _ 148 rfl w.heap.size 46 i46 (.slice none 0 0) 1 Tryz.underlying148 HI0.out HZ0.out HZ1.out .i64 .i64 _ _ d rfl rfl rfl rfl (by rw [HZ2.out]; omega) (by unfold maxLen; omega) (by simp) ?_
    intro w1 hown1 hgr1
    have HOW1 := Lib.hid hown1
    have HGR1 := Lib.hid hgr1
    clear hown1 hgr1)
  go_loopw [9] (fun i wr => ∃ k : Nat, k ≤ d ∧ i = .int .i64 k ∧ Hid (∃ hs cur, ZrSt w d k hs wr cur)) (fun i _ => d - (intOf i).toNat)
  case atStart =>
    refine ⟨0, by omega, rfl, Lib.hid ?_⟩
    obtain ⟨hol, ho⟩ := HOW1.out
    rcases ho with ⟨h, _⟩ | ⟨g, c, cur, hv, hg, hh, hn, hc, hsz3, htk⟩
    · cases h
    · simp only [Value.slice.injEq, Option.some.injEq, Addr.mk.injEq] at hv
      obtain ⟨⟨rfl, -⟩, -, rfl⟩ := hv
      exact ⟨fun _ => 0, cur, hh, by simpa using hsz3, fun j hj => absurd hj (by omega), fun j hj => absurd hj (by omega), (Below.refl _ w).grown HGR1.out (Nat.le_refl _) (fun k e => by cases e)⟩
  case round =>
    obtain ⟨k, hk, rfl, HH⟩ := hrel
    obtain ⟨hs, cur, hst⟩ := HH.out
    have HST := Lib.hid hst
    have hwz := hst.lt
    clear HH
    by_cases hlt : k < d
    · have hkc : k < cur.size := by rw [hst.size]; exact hlt
      have e0 : wr.cell? ⟨w.heap.size, k, none⟩ = some cur[k] := by rw [cells_of' hst.ob]; exact Array.getElem?_eq_getElem hkc
      have f0 : wr.frozen? ⟨w.heap.size, k, none⟩ = false := frozen_of' hst.ob _
      generalize cur[k] = old at e0
      clear hst hkc
      go_wp2_with (
        at_make
        refine wpList_make_full _ rfl _ _ 46 rfl wr.heap.size 47 i47 (.int .u64 0) 1 Tryz.underlying46 KI0.out KZ0.out KZ1.out .i64 .i64 _ _ d rfl rfl rfl rfl (by rw [KZ2.out]; omega) (by unfold maxLen; omega) (by simp) ?_
        intro w2 hown2 hgr2
        have HOW2 := Lib.hid hown2
        have HBW2 : Hid (Below wr.heap.size wr w2) := Lib.hid ((Below.refl _ wr).grown hgr2 (Nat.le_refl _) (fun k e => by cases e))
        have e0 := (HBW2.out.cell (p := ⟨w.heap.size, k, none⟩) hwz).trans e0
        have f0 := (HBW2.out.frozen (p := ⟨w.heap.size, k, none⟩) hwz).trans f0
        clear hown2 hgr2)
      obtain ⟨c, hc, hcs⟩ : ∃ c, w2.heap[wr.heap.size]? = some (.cells c 47 (0, 0)) ∧ c.size = d := by
        obtain ⟨hol, ho⟩ := HOW2.out
        rcases ho with ⟨h, _⟩ | ⟨g, c, cur, hv, hg, hh, hn, hc, hsz3, htk⟩
        · cases h
        · simp only [Value.slice.injEq, Option.some.injEq, Addr.mk.injEq] at hv
          obtain ⟨⟨rfl, -⟩, -, rfl⟩ := hv
          exact ⟨cur, hh, by simpa using hsz3⟩
      exact ⟨⟨k + 1, by omega, by push_cast; rfl, Lib.hid ⟨_, _, HST.out.step HBW2.out (Nat.le_refl _) hc hcs hlt⟩⟩, by simp only [intOf]; omega⟩
    · obtain rfl : k = d := by omega
      go_wp2_with fail
      go_ret
      exact ⟨rfl, hs, cur, HST.out⟩
/-- the answer of One: the first element of the first row is 1 -/
def OnPost (w : World) (d : Nat) (e : Ending) (w' : World) : Prop :=
  ∃ g h : Nat, e = .returned (.slice (some ⟨g, 0, none⟩) d d) ∧ w'.cell? ⟨g, 0, none⟩ = some (.slice (some ⟨h, 0, none⟩) d d) ∧ w'.cell? ⟨h, 0, none⟩ = some (.int .u64 1) ∧ g < w'.heap.size ∧ h < w'.heap.size ∧ w.heap.size ≤ g ∧ w.heap.size ≤ h ∧ Below w.heap.size w w'
set_option maxRecDepth 100000 in
set_option maxHeartbeats 4000000 in
theorem rOne9_any (d : Nat) (hd0 : 1 ≤ d) (hd : d ≤ 1048576) (w : World) :
    Calls Tryz.prog 161 #[.int .i64 (d : Int)] w fun e w' => OnPost w d e w' := by
  have HZ := Lib.hid (rZero9_any d hd w)
  go_enter Tryz.func161, Tryz.ntmps161
  go_wp2_with fail
  refine HZ.out.mono ?_
  rintro e w1 ⟨rfl, hs, cur, hst⟩
  have HST1 := Lib.hid hst
  clear hst HZ
  go_wp2_with fail
  go_loopw [9] (fun i wr => ∃ k : Nat, k ≤ d ∧ i = .int .i64 k ∧ Hid (ZrSt w d d hs wr cur) ∧ Hid (0 < k → wr.cell? ⟨hs 0, 0, none⟩ = some (.int .u64 1))) (fun i _ => d - (intOf i).toNat)
  case atStart => exact ⟨0, by omega, rfl, HST1, Lib.hid fun h => absurd h (by omega)⟩
  case round =>
    obtain ⟨k, hk, rfl, HST, H1⟩ := hrel
    by_cases hlt : k < d
    · have e0 : wr.cell? ⟨w.heap.size, k, none⟩ = some (.slice (some ⟨hs k, 0, none⟩) d d) := by rw [cells_of' HST.out.ob]; exact HST.out.row k hlt
      obtain ⟨hgt, c, hc, hcs⟩ := HST.out.rb k hlt
      have hkc : k < c.size := by omega
      have e1 : wr.cell? ⟨hs k, k, none⟩ = some c[k] := by rw [cells_of' hc]; exact Array.getElem?_eq_getElem hkc
      have f1 : wr.frozen? ⟨hs k, k, none⟩ = false := frozen_of' hc _
      generalize c[k] = old at e1
      have HC := Lib.hid hc
      have HCS := Lib.hid hcs
      clear hc hcs hkc
      go_wp2_with fail
      refine ⟨⟨k + 1, by omega, by push_cast; rfl, Lib.hid ?_, Lib.hid fun _ => ?_⟩, by simp only [intOf]; omega⟩
      · refine ⟨(Below.heap_setCell _ _ _ _ (by show w.heap.size ≠ hs k; omega)).trans HST.out.ob, HST.out.size, HST.out.row, fun j hj => ?_, HST.out.low.setCell (by show w.heap.size ≤ hs k; omega) _⟩
        obtain ⟨h1, c', h2, h3⟩ := HST.out.rb j hj
        by_cases e : hs j = hs k
        · rw [e] at h2 ⊢
          rw [HC.out] at h2
          cases h2
          refine ⟨by omega, c.setIfInBounds k (.int .u64 1), ?_, by simp [h3]⟩
          simp only [World.setCell, Array.getElem?_modify, if_true, HC.out]
          rfl
        · exact ⟨h1, c', (Below.heap_setCell _ _ _ _ (by show hs j ≠ hs k; exact e)).trans h2, h3⟩
      · by_cases e : k = 0
        · subst e
          have hx : (wr.setCell ⟨hs 0, 0, none⟩ (.int .u64 1)).heap[hs 0]? = some (.cells (c.setIfInBounds 0 (.int .u64 1)) 47 (0, 0)) := by
            simp only [World.setCell, Array.getElem?_modify, if_true, HC.out]
            rfl
          rw [cells_of' hx, Array.getElem?_setIfInBounds]
          simp [HCS.out]; omega
        · have h0 := H1.out (by omega)
          by_cases e2 : hs 0 = hs k
          · have hx : (wr.setCell ⟨hs k, k, none⟩ (.int .u64 1)).heap[hs 0]? = some (.cells (c.setIfInBounds k (.int .u64 1)) 47 (0, 0)) := by
              rw [e2]
              simp only [World.setCell, Array.getElem?_modify, if_true, HC.out]
              rfl
            rw [cells_of' hx, Array.getElem?_setIfInBounds, if_neg (by omega)]
            rw [e2, cells_of' HC.out] at h0
            exact h0
          · rw [World.cell?_of_block (w := wr) (Below.heap_setCell _ _ _ _ (by show hs 0 ≠ hs k; exact e2))]
            exact h0
    · obtain rfl : k = d := by omega
      go_wp2_with fail
      go_ret
      have h0 := HST.out.rb 0 (by omega)
      obtain ⟨hgt, c', h2, -⟩ := h0
      exact ⟨w.heap.size, hs 0, rfl, by rw [cells_of' HST.out.ob]; exact HST.out.row 0 (by omega), H1.out (by omega), HST.out.lt, (Array.getElem?_eq_some_iff.1 h2).1, Nat.le_refl _, by omega, HST.out.low⟩
/-- the slice value v holds matrices with these first elements -/
def HdQ (n : Nat) (W : World) (x : Nat) (cs : List Value) : Prop := ∃ (g o m c h oh r ch : Nat), cs = [.slice (some ⟨g, o, none⟩) m c] ∧ 1 ≤ m ∧ g < n ∧ W.cell? ⟨g, o, none⟩ = some (.slice (some ⟨h, oh, none⟩) r ch) ∧ 1 ≤ r ∧ h < n ∧ W.cell? ⟨h, oh, none⟩ = some (.int .u64 (x : Int))
theorem keeps_HdIs : Keeps HdQ := by
  rintro n m A B p cs ⟨g, o, m', c, h, oh, r, ch, rfl, h1, h2, h3, h4, h5, h6⟩ hb hn
  exact ⟨g, o, m', c, h, oh, r, ch, rfl, h1, by omega, (hb.cell (p := ⟨g, o, none⟩) h2).trans h3, h4, by omega, (hb.cell (p := ⟨h, oh, none⟩) h5).trans h6⟩
abbrev HdIs := RecIs 1 HdQ
theorem HdIs.at1 {n : Nat} {W : World} {l : List Nat} {oa : Option Addr} {cap k : Nat} (h : HdIs n W l (.slice oa l.length cap)) (hk : k < l.length) :
    ∃ (b o x g og m c h oh r ch : Nat), oa = some ⟨b, o, none⟩ ∧ b < n ∧ l[k]? = some x ∧ W.cell? ⟨b, o + k, none⟩ = some (.slice (some ⟨g, og, none⟩) m c) ∧ 1 ≤ m ∧ W.cell? ⟨g, og, none⟩ = some (.slice (some ⟨h, oh, none⟩) r ch) ∧ 1 ≤ r ∧ W.cell? ⟨h, oh, none⟩ = some (.int .u64 (x : Int)) := by
  obtain ⟨b, o, x, cs, rfl, hb, hx, ⟨g, og, m, c, h, oh, r, ch, rfl, h1, h2, h3, h4, h5, h6⟩, -, hj⟩ := h.get hk
  refine ⟨b, o, x, g, og, m, c, h, oh, r, ch, rfl, hb, hx, ?_, h1, h3, h4, h6⟩
  have := hj 0 (by omega)
  simpa using this
theorem MatsU.heads {n : Nat} {W : World} {ms : List (List (List Nat))} {v : Value} (h : MatsU n W ms v) {d : Nat} (hd : 1 ≤ d) (hf : ∀ m ∈ ms, m.length = d ∧ ∀ r ∈ m, r.length = d) : HdIs n W (ms.map hdM) v := by
  obtain ⟨oa, cap, rfl, hc, h3⟩ := h
  refine ⟨oa, cap, by rw [List.length_map], by rw [List.length_map]; exact hc, fun hne => ?_⟩
  obtain ⟨b, o, rfl, hb, hi⟩ := h3 (by rintro rfl; exact hne rfl)
  refine ⟨b, o, rfl, hb, fun i x hx => ?_⟩
  rw [List.getElem?_map, Option.map_eq_some_iff] at hx
  obtain ⟨m, hm, rfl⟩ := hx
  obtain ⟨cs, ⟨op, cp, rfl, -, hq⟩, hl, hj⟩ := hi i m hm
  obtain ⟨hml, hmr⟩ := hf m (List.mem_of_getElem? hm)
  obtain ⟨g, og, r, ov, cv, e1, hg, hr0, hu, c0⟩ := RowsU.at1 hq (k := 0) (by omega)
  have hrl := hmr r (List.mem_of_getElem? hr0)
  obtain ⟨h, oh, x, e2, hh, hx0, d0⟩ := hu.at (k := 0) (by omega)
  subst e1
  subst e2
  rw [Nat.add_zero] at c0 d0
  have hd : hdM m = x := by
    unfold hdM
    cases m with
    | nil => simp at hr0
    | cons y m =>
      simp at hr0; subst hr0
      cases y with
      | nil => simp at hx0
      | cons z y => simp at hx0; subst hx0; rfl
  exact ⟨_, ⟨g, og, m.length, cp, h, oh, r.length, cv, rfl, by omega, hg, c0, by omega, hh, by rw [hd]; exact d0⟩, hl, hj⟩
theorem findM_cons {p : Mx} {l : List Mx} {k : Key} : findM (p :: l) k = if p.1 = k then some p else findM l k := by
  unfold findM
  rw [List.find?_cons]
  by_cases h : p.1 = k
  · simp [h]
  · simp [h]
theorem findM_at {l : List Mx} {k : Key} {i : Nat} {p : Mx} (h : ∀ q ∈ l.take i, q.1 ≠ k) (hp : l[i]? = some p) (hk : p.1 = k) : findM l k = some p := by
  induction l generalizing i with
  | nil => simp at hp
  | cons q l ih =>
    rw [findM_cons]
    cases i with
    | zero => simp at hp; subst hp; rw [if_pos hk]
    | succ i =>
      rw [if_neg (h q (by simp))]
      exact ih (i := i) (fun x hx => h x (by simp [hx])) (by simpa using hp)
/-- the answer of the reference's Entry: whether it fits, and the first elements of its matrices -/
def entAns (l : List Mx) (k : Key) (n : Nat) : Bool × List Nat := match findM l k with
  | some p => (decide (p.2.2.length = n), p.2.2.map hdM)
  | none => (true, List.replicate n 1)
def EyPost (l : List Mx) (k : Key) (n : Nat) (w' : World) (e : Ending) : Prop :=
  ∃ (nm : ByteArray) (ov : Option Addr) (nv cv : Nat) (om : Option Addr) (cm : Nat), e = .returned (.tuple #[.agg #[.string nm, .slice ov nv cv, .slice om (entAns l k n).2.length cm], .bool (entAns l k n).1]) ∧ HdIs w'.heap.size w' (entAns l k n).2 (.slice om (entAns l k n).2.length cm)
end Go.Proofs.YtamddagmlanijaaGreat
