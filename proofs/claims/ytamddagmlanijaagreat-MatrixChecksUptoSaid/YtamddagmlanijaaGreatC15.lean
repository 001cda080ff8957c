/- Packed: Myb, Myc, Myd, Mye. -/
import Derived.Test.YtamddagmlanijaaGreatC14
import Derived.Test.YtamddagmlanijaaGreatC05
import Derived.Laws.IdiomRangeMap
import Derived.StillTailTactics
/- Package matrix: a matrix times a column. -/
namespace Go.Proofs.YtamddagmlanijaaGreat
open Go.RowKit Go.Shelf

/-- the product of the first numbers of a row and of a column -/
def pd (row : List Nat) (X : Nat → Nat) : Nat → Nat
  | 0 => 0
  | j + 1 => pd row X j + row.getD j 0 * X j
theorem pd_mono (row : List Nat) (X : Nat → Nat) : ∀ {i j : Nat}, i ≤ j → pd row X i ≤ pd row X j
  | i, 0, h => by obtain rfl : i = 0 := by omega
                  exact Nat.le_refl _
  | i, j + 1, h => by
    by_cases e : i = j + 1
    · rw [e]; exact Nat.le_refl _
    · exact Nat.le_trans (pd_mono row X (i := i) (j := j) (by omega)) (Nat.le_add_right _ _)
def mulF (rows : List (List Nat)) (X : Nat → Nat) (k : Nat) : Nat := if k < rows.length then pd (rows.getD k []) X (rows.getD k []).length else 0
def resF (rows : List (List Nat)) (X : Nat → Nat) (i j k : Nat) : Nat := if k < i then mulF rows X k else if k = i then pd (rows.getD i []) X j else 0
abbrev colA (R : Nat → Nat) : Array Value := #[.int .u64 (R 0 : Int), .int .u64 (R 1 : Int), .int .u64 (R 2 : Int), .int .u64 (R 3 : Int)]
theorem colA_at (R : Nat → Nat) {k : Nat} (h : k < 4) : (colA R)[k]? = some (.int .u64 (R k : Int)) := by
  match k, h with
  | 0, _ => rfl
  | 1, _ => rfl
  | 2, _ => rfl
  | 3, _ => rfl
theorem colA_set (R : Nat → Nat) {k y : Nat} (h : k < 4) : (colA R).setIfInBounds k (.int .u64 (y : Int)) = colA (fun i => if i = k then y else R i) := by
  match k, h with
  | 0, _ => rfl
  | 1, _ => rfl
  | 2, _ => rfl
  | 3, _ => rfl
/-- a column in memory -/
structure ColAt (W : World) (b o : Nat) (X : Nat → Nat) : Prop where
  c : ∀ k, k < 4 → W.cell? ⟨b, o + k, none⟩ = some (.int .u64 (X k : Int))
  f : ∀ k, k < 4 → W.frozen? ⟨b, o + k, none⟩ = false
theorem ColAt.carry {n b o : Nat} {X : Nat → Nat} {A B : World} (h : ColAt A b o X) (hb : Below n A B) (hn : b < n) : ColAt B b o X :=
  ⟨fun k hk => (hb.cell (p := ⟨b, _, none⟩) hn).trans (h.c k hk), fun k hk => (hb.frozen (p := ⟨b, _, none⟩) hn).trans (h.f k hk)⟩
def setCol (W : World) (b o : Nat) (Y : Nat → Nat) : World :=
  (((W.setCell ⟨b, o, none⟩ (.int .u64 (Y 0 : Int))).setCell ⟨b, o + 1, none⟩ (.int .u64 (Y 1 : Int))).setCell ⟨b, o + 2, none⟩ (.int .u64 (Y 2 : Int))).setCell ⟨b, o + 3, none⟩ (.int .u64 (Y 3 : Int))
def okM (rows : List (List Nat)) (X : Nat → Nat) : Prop := ∀ i, i < rows.length → mulF rows X i ≤ 4611686018427387904
theorem resF_zero (rows : List (List Nat)) (X : Nat → Nat) : resF rows X 0 0 = fun _ => 0 := by
  funext k
  by_cases h : k = 0 <;> simp [resF, h, pd]
theorem resF_next {rows : List (List Nat)} {X : Nat → Nat} {i : Nat} {row : List Nat} (hr : rows[i]? = some row) : resF rows X i row.length = resF rows X (i + 1) 0 := by
  obtain ⟨hi, hg⟩ := List.getElem?_eq_some_iff.1 hr
  have e : rows.getD i [] = row := by simp [List.getD, hr]
  funext k
  unfold resF
  by_cases h1 : k < i
  · rw [if_pos h1, if_pos (by omega)]
  · by_cases h2 : k = i
    · subst h2
      rw [if_neg h1, if_pos rfl, if_pos (by omega), mulF, if_pos hi, e]
    · rw [if_neg h1, if_neg h2, if_neg (by omega)]
      by_cases h3 : k = i + 1
      · rw [if_pos h3]; rfl
      · rw [if_neg h3]
theorem resF_last (rows : List (List Nat)) (X : Nat → Nat) : resF rows X rows.length 0 = mulF rows X := by
  funext k
  unfold resF mulF
  by_cases h1 : k < rows.length
  · rw [if_pos h1]
  · rw [if_neg h1, if_neg h1]
    by_cases h2 : k = rows.length
    · rw [if_pos h2]; rfl
    · rw [if_neg h2]
theorem resF_step {rows : List (List Nat)} {X : Nat → Nat} {i j y : Nat} {row : List Nat} (hr : rows[i]? = some row) (hy : row[j]? = some y) :
    (fun k => if k = i then resF rows X i j i + y * X j else resF rows X i j k) = resF rows X i (j + 1) := by
  have e : rows.getD i [] = row := by simp [List.getD, hr]
  have ey : row.getD j 0 = y := by simp [List.getD, hy]
  funext k
  by_cases h2 : k = i
  · subst h2
    rw [if_pos rfl]
    show resF rows X k j k + y * X j = resF rows X k (j + 1) k
    unfold resF
    rw [if_neg (Nat.lt_irrefl k), if_neg (Nat.lt_irrefl k), if_pos rfl, if_pos rfl]
    show _ = pd (rows.getD k []) X j + (rows.getD k []).getD j 0 * X j
    rw [e, ey]
  · rw [if_neg h2]
    simp [resF, h2]
/-- the end of multiply -/
def MuPost (w : World) (b o : Nat) (rows : List (List Nat)) (X : Nat → Nat) (e : Ending) (w' : World) : Prop :=
  (e = .returned (.bool true) ∧ okM rows X ∧ ∃ W1, Below w.heap.size w W1 ∧ w' = setCol W1 b o (mulF rows X)) ∨ (e = .returned (.bool false) ∧ ¬ okM rows X ∧ Below w.heap.size w w')
structure MuSt (w : World) (rows : List (List Nat)) (X : Nat → Nat) (i j : Nat) (W : World) : Prop where
  bl : Below w.heap.size w W
  ob : W.heap[w.heap.size]? = some (.cells (colA (resF rows X i j)) 154)
  ok : ∀ k, k < i → mulF rows X k ≤ 4611686018427387904
  le : pd (rows.getD i []) X j ≤ 4611686018427387904
set_option maxRecDepth 100000 in
set_option maxHeartbeats 4000000 in
theorem colMul_any (b o : Nat) (rows : List (List Nat)) (X : Nat → Nat) (v : Value) (w : World) (hr : RowsU w.heap.size w rows v) (hl : rows.length ≤ 4) (hrl : ∀ r ∈ rows, r.length ≤ 4 ∧ ∀ n ∈ r, n < 18446744073709551616)
    (hX : ∀ k, k < 4 → X k < 18446744073709551616) (hb : b < w.heap.size) (hc : ColAt w b o X) :
    Calls Tryz.prog 262 #[.pointer (some ⟨b, o, none⟩), v] w fun e w' => MuPost w b o rows X e w' := by
  obtain ⟨ol, cl, rfl⟩ := hr.shape
  have HR := Lib.hid hr
  have HC := Lib.hid hc
  have HRL := Lib.hid hrl
  have HX := Lib.hid hX
  clear hr hc hrl hX
  go_enter Tryz.func262, Tryz.ntmps262
  go_wp2_with fail
  go_loopw [14] (fun i wr => ∃ k : Nat, k ≤ rows.length ∧ i = .int .i64 k ∧ Hid (MuSt w rows X k 0 wr)) (fun i _ => rows.length - (intOf i).toNat)
  case atStart =>
    refine ⟨0, by omega, rfl, Lib.hid ⟨((Below.refl _ _).alloc (Nat.le_refl _) _), ?_, fun k hk => absurd hk (by omega), Nat.zero_le _⟩⟩
    rw [resF_zero]
    exact heap_alloc_new' _ _ rfl
  case round =>
    obtain ⟨i, hi, rfl, HS⟩ := hrel
    by_cases hlt : i < rows.length
    · obtain ⟨b1, o1, row, ov, cv, rfl, hb1, hx, hq, c0⟩ := RowsU.at1 HR.out hlt
      have hrow := HRL.out row (List.mem_of_getElem? hx)
      have hlen := hrow.1
      have HROW := Lib.hid hrow.2
      have HRI := Lib.hid hx
      have HQ := Lib.hid hq
      have c0 := (HS.out.bl.cell (p := ⟨b1, _, none⟩) hb1).trans c0
      clear hx hq hrow
      go_wp2_with fail
      clear c0 hb1
      go_loopw [21] (fun i' wr2 => ∃ j : Nat, j ≤ row.length ∧ i' = .int .i64 j ∧ Hid (MuSt w rows X i j wr2)) (fun i' _ => row.length - (intOf i').toNat)
      case atStart => exact ⟨0, by omega, rfl, HS⟩
      case round =>
        obtain ⟨j, hj, rfl, HT⟩ := hrel
        by_cases hjt : j < row.length
        · obtain ⟨b2, o2, y, rfl, hb2, hy, c1⟩ := (HQ.out.carry HT.out.bl HT.out.bl.size).at hjt
          have hy64 := HROW.out y (List.mem_of_getElem? hy)
          have hx64 := HX.out j (by omega)
          have x0 := (HC.out.carry HT.out.bl hb).c j (by omega)
          have hi4 : i < 4 := by omega
          have r0 : wr.cell? ⟨w.heap.size, i, none⟩ = some (.int .u64 (resF rows X i j i : Int)) := (cells_of' HT.out.ob i).trans (colA_at _ hi4)
          have f0 : wr.frozen? ⟨w.heap.size, i, none⟩ = false := frozen_of' HT.out.ob i
          have hR : resF rows X i j i ≤ 4611686018427387904 := by
            have := HT.out.le
            simpa [resF] using this
          have hF : okM rows X → resF rows X i j i + y * X j ≤ 4611686018427387904 := fun h => by
            have h1 := congrFun (resF_step (X := X) HRI.out hy) i
            simp only [if_true] at h1
            rw [h1]
            have h2 := h i hlt
            have e : rows.getD i [] = row := by simp [List.getD, HRI.out]
            simp only [mulF, if_pos hlt, e] at h2
            simp only [resF, if_neg (Nat.lt_irrefl i), if_true, e]
            exact Nat.le_trans (pd_mono row X (by omega)) h2
          have HN : Hid (resF rows X i j i + y * X j ≤ 4611686018427387904 → ∀ W : World, Below wr.heap.size wr W → False → MuSt w rows X i (j + 1) W) := Lib.hid fun _ _ _ h => h.elim
          have HST : Hid (resF rows X i j i + y * X j ≤ 4611686018427387904 → MuSt w rows X i (j + 1) (wr.setCell ⟨w.heap.size, i, none⟩ (.int .u64 ((resF rows X i j i + y * X j : Nat) : Int)))) := Lib.hid fun hle => by
            refine ⟨HT.out.bl.setCell (Nat.le_refl _) _, ?_, HT.out.ok, ?_⟩
            · rw [boxSet HT.out.ob, colA_set _ hi4, resF_step HRI.out hy]
            · have h1 := congrFun (resF_step (X := X) HRI.out hy) i
              simp only [if_true] at h1
              rw [h1] at hle
              simpa [resF] using hle
          clear HN
          generalize resF rows X i j i = R at *
          have HF := Lib.hid hF
          clear hy hF
          go_wp2_with fail
          refine (Tryz.bits_Mul64 y (X j) hy64 hx64 _).mono ?_
          rintro e w3 ⟨rfl, rfl⟩
          generalize y * X j = p at *
          by_cases hp : p < 18446744073709551616
          · rw [Nat.div_eq_of_lt hp, Nat.mod_eq_of_lt hp]
            by_cases hs : R + p ≤ 4611686018427387904
            · have q1 : decide ((p : Int) > 4611686018427387904 - (R : Int)) = false := decide_eq_false (by omega)
              have q2 : decide (4611686018427387904 - (R : Int) < (p : Int)) = false := decide_eq_false (by omega)
              have HST2 := Lib.hid (HST.out hs)
              clear HST HF
              go_wp2_with fail
              exact ⟨⟨j + 1, by omega, by go_num, by simpa using HST2⟩, by simp only [intOf]; omega⟩
            · have q2 : decide (4611686018427387904 - (R : Int) < (p : Int)) = true := decide_eq_true (by omega)
              go_wp2_with fail
              go_ret
              exact .inr ⟨rfl, fun h => hs (HF.out h), HT.out.bl⟩
          · obtain ⟨H, hH, hH0⟩ : ∃ H, H = p / 18446744073709551616 ∧ 0 < H := ⟨_, rfl, Nat.div_pos (by omega) (by omega)⟩
            rw [← hH]
            go_wp2_with fail
            go_ret
            exact .inr ⟨rfl, fun h => by have := HF.out h; omega, HT.out.bl⟩
        · obtain rfl : j = row.length := by omega
          have HS2 : Hid (MuSt w rows X (i + 1) 0 wr) := Lib.hid (by
            have e : rows.getD i [] = row := by simp [List.getD, HRI.out]
            have hle := HT.out.le
            refine ⟨HT.out.bl, by rw [← resF_next HRI.out]; exact HT.out.ob, fun k hk => ?_, Nat.zero_le _⟩
            by_cases h : k < i
            · exact HT.out.ok k h
            · obtain rfl : k = i := by omega
              rw [mulF, if_pos hlt, e]
              rw [e] at hle
              exact hle)
          go_wp2_with fail
          exact ⟨⟨i + 1, by omega, by go_num, HS2⟩, by simp only [intOf]; omega⟩
    · obtain rfl : i = rows.length := by omega
      have hob := HS.out.ob
      rw [resF_last] at hob
      have r0 : wr.cell? ⟨w.heap.size, 0, none⟩ = some (.int .u64 (mulF rows X 0 : Int)) := cells_of' hob 0
      have r1 : wr.cell? ⟨w.heap.size, 1, none⟩ = some (.int .u64 (mulF rows X 1 : Int)) := cells_of' hob 1
      have r2 : wr.cell? ⟨w.heap.size, 2, none⟩ = some (.int .u64 (mulF rows X 2 : Int)) := cells_of' hob 2
      have r3 : wr.cell? ⟨w.heap.size, 3, none⟩ = some (.int .u64 (mulF rows X 3 : Int)) := cells_of' hob 3
      have hcw := HC.out.carry HS.out.bl hb
      have x0 := hcw.c 0 (by omega)
      have x1 := hcw.c 1 (by omega)
      have x2 := hcw.c 2 (by omega)
      have x3 := hcw.c 3 (by omega)
      have f0 := hcw.f 0 (by omega)
      have f1 := hcw.f 1 (by omega)
      have f2 := hcw.f 2 (by omega)
      have f3 := hcw.f 3 (by omega)
      rw [Nat.add_zero] at x0 f0
      clear hob hcw
      go_wp2_with fail
      go_ret
      exact .inl ⟨rfl, HS.out.ok, wr, HS.out.bl, rfl⟩
end Go.Proofs.YtamddagmlanijaaGreat
/- Package matrix: a matrix times a linear function without variables; sums. -/
namespace Go.Proofs.YtamddagmlanijaaGreat
open Go.RowKit Go.Shelf

/-- all cells but the four from place o of block b on are kept -/
structure ButC (b o : Nat) (A W : World) : Prop extends ButB b A W where
  c : ∀ k, (k < o ∨ o + 4 ≤ k) → W.cell? ⟨b, k, none⟩ = A.cell? ⟨b, k, none⟩
  f : ∀ k, W.frozen? ⟨b, k, none⟩ = A.frozen? ⟨b, k, none⟩
theorem ButC.trans {b o : Nat} {A B C : World} (h : ButC b o A B) (k : ButC b o B C) : ButC b o A C :=
  ⟨h.toButB.trans k.toButB, fun i hi => (k.c i hi).trans (h.c i hi), fun i => (k.f i).trans (h.f i)⟩
theorem ButC.of {b o : Nat} {A W : World} (h : Below A.heap.size A W) (hb : b < A.heap.size) : ButC b o A W :=
  ⟨ButB.of h, fun _ _ => h.cell (p := ⟨b, _, none⟩) hb, fun _ => h.frozen (p := ⟨b, _, none⟩) hb⟩
theorem ButC.set {b o k : Nat} {A W : World} (h : ButC b o A W) (hk : k < 4) (u : Value) : ButC b o A (W.setCell ⟨b, o + k, none⟩ u) :=
  ⟨h.toButB.setCell _ _, fun i hi => (World.cell?_setCell_other _ _ _ _ (fun e => by injection e with e1 e2; omega)).trans (h.c i hi), fun i => by rw [World.frozen?_setCell]; exact h.f i⟩
theorem ColAt.set {W : World} {b o k y : Nat} {X : Nat → Nat} (h : ColAt W b o X) : ColAt (W.setCell ⟨b, o + k, none⟩ (.int .u64 (y : Int))) b o (fun i => if i = k then y else X i) := by
  refine ⟨fun i hi => ?_, fun i hi => by rw [World.frozen?_setCell]; exact h.f i hi⟩
  by_cases e : i = k
  · subst e
    rw [if_pos rfl]
    exact World.cell?_setCell_same _ _ _ (h.c i hi)
  · rw [if_neg e, World.cell?_setCell_other _ _ _ _ (fun h => by injection h with h1 h2; omega)]
    exact h.c i hi
theorem setCol_col {W : World} {b o : Nat} {X Y : Nat → Nat} (h : ColAt W b o X) : ColAt (setCol W b o Y) b o Y := by
  have h4 := (((h.set (k := 0) (y := Y 0)).set (k := 1) (y := Y 1)).set (k := 2) (y := Y 2)).set (k := 3) (y := Y 3)
  refine ⟨fun k hk => (h4.c k hk).trans ?_, h4.f⟩
  match k, hk with
  | 0, _ => rfl
  | 1, _ => rfl
  | 2, _ => rfl
  | 3, _ => rfl
theorem setCol_but {A W : World} {b o : Nat} {Y : Nat → Nat} (h : ButC b o A W) : ButC b o A (setCol W b o Y) :=
  (((h.set (k := 0) (by omega) _).set (k := 1) (by omega) _).set (k := 2) (by omega) _).set (k := 3) (by omega) _
/-- the end of an operation that lays a column anew -/
def ClPost (w : World) (b o : Nat) (ok : Prop) (Y : Nat → Nat) (e : Ending) (w' : World) : Prop :=
  ButC b o w w' ∧ ((e = .returned (.bool true) ∧ ok ∧ ColAt w' b o Y) ∨ (e = .returned (.bool false) ∧ ¬ ok))
theorem colMul2_any (b o : Nat) (rows : List (List Nat)) (X : Nat → Nat) (v : Value) (w : World) (hr : RowsU w.heap.size w rows v) (hl : rows.length ≤ 4) (hrl : ∀ r ∈ rows, r.length ≤ 4 ∧ ∀ n ∈ r, n < 18446744073709551616)
    (hX : ∀ k, k < 4 → X k < 18446744073709551616) (hb : b < w.heap.size) (hc : ColAt w b o X) :
    Calls Tryz.prog 262 #[.pointer (some ⟨b, o, none⟩), v] w fun e w' => ClPost w b o (okM rows X) (mulF rows X) e w' := by
  refine (colMul_any b o rows X v w hr hl hrl hX hb hc).mono ?_
  rintro e w' (⟨rfl, h1, W1, hb1, rfl⟩ | ⟨rfl, h1, hb1⟩)
  · exact ⟨setCol_but (ButC.of hb1 hb), .inl ⟨rfl, h1, setCol_col (hc.carry hb1 hb)⟩⟩
  · exact ⟨ButC.of hb1 hb, .inr ⟨rfl, h1⟩⟩
set_option maxRecDepth 100000 in
set_option maxHeartbeats 4000000 in
theorem linMul_any (b : Nat) (rows : List (List Nat)) (X : Nat → Nat) (v : Value) (w : World) (hr : RowsU w.heap.size w rows v) (hl : rows.length ≤ 4) (hrl : ∀ r ∈ rows, r.length ≤ 4 ∧ ∀ n ∈ r, n < 18446744073709551616)
    (hX : ∀ k, k < 4 → X k < 18446744073709551616) (hb : b < w.heap.size) (hc : ColAt w b 0 X) (hm : w.cell? ⟨b, 4, none⟩ = some (.map none)) :
    Calls Tryz.prog 220 #[.pointer (some ⟨b, 0, none⟩), v] w fun e w' => ClPost w b 0 (okM rows X) (mulF rows X) e w' := by
  have HM := Lib.hid (colMul2_any b 0 rows X v w hr hl hrl hX hb hc)
  obtain ⟨ol, cl, rfl⟩ := hr.shape
  have H4 := Lib.hid hm
  have HL := Lib.hid hb
  clear hr hl hrl hX hb hc hm
  go_enter Tryz.func220, Tryz.ntmps220
  go_wp2_with fail
  refine HM.out.mono ?_
  rintro e w2 ⟨hbut, h⟩
  have HB := Lib.hid hbut
  have m4 : w2.cell? ⟨b, 4, none⟩ = some (.map none) := (hbut.c 4 (by omega)).trans H4.out
  clear hbut
  rcases h with ⟨rfl, hok, hcol⟩ | ⟨rfl, hok⟩
  · have HC := Lib.hid hcol
    have HK := Lib.hid hok
    clear hcol hok
    have hrg := run_range_nilMap (P := Tryz.prog) w2 155 9 275 Tryz.underlying155
    have hnx : ∀ ty, (Instr.next (.pointer (some ⟨w2.heap.size, 0, none⟩)) false ty).run Tryz.prog (w2.alloc (.mapIter none 0 #[] 0)) = _ := fun ty => run_next_nilMap w2 ty 0 0 #[]
    go_wp2_with fail
    refine wp_loop_rounds 1 ?_
    rw [rounds_succ]
    go_wp2_with fail
    go_ret
    have hbl : Below w2.heap.size w2 (w2.alloc (.mapIter none 0 #[] 0)) := (Below.refl _ _).alloc (Nat.le_refl _) _
    have hbw := Nat.lt_of_lt_of_le HL.out HB.out.size
    exact ⟨HB.out.trans (ButC.of hbl hbw), .inl ⟨rfl, HK.out, HC.out.carry hbl hbw⟩⟩
  · have HK := Lib.hid hok
    clear hok m4
    go_wp2_with fail
    go_ret
    exact ⟨HB.out, .inr ⟨rfl, HK.out⟩⟩
end Go.Proofs.YtamddagmlanijaaGreat
/- Package matrix: sums of columns and of linear functions without variables. -/
namespace Go.Proofs.YtamddagmlanijaaGreat
open Go.RowKit Go.Shelf

theorem ButC.drew {b o : Nat} {A W : World} (h : ButC b o A W) : ButC b o A W.drew :=
  ⟨⟨h.os, h.tape, h.output, h.size, h.block⟩, h.c, h.f⟩
/-- column.add between its rounds -/
structure AdC (w : World) (b o : Nat) (X Y : Nat → Nat) (k : Nat) (W : World) : Prop where
  but : ButC b o w W
  col : ColAt W b o (fun i => if i < k then X i + Y i else X i)
  ok : ∀ i, i < k → X i + Y i ≤ 4611686018427387904
abbrev colV (Y : Nat → Nat) : Value := .agg (colA Y)
def sumF (X Y : Nat → Nat) (k : Nat) : Nat := X k + Y k
def okS (X Y : Nat → Nat) : Prop := ∀ i, i < 4 → X i + Y i ≤ 4611686018427387904
theorem index_col (Y : Nat → Nat) {k : Nat} (hk : k < 4) (w : World) : (Instr.index 154 (colV Y) (.int .i64 (k : Int))).run Tryz.prog w = .ok (.int .u64 (Y k : Int)) w := by
  obtain rfl | rfl | rfl | rfl : k = 0 ∨ k = 1 ∨ k = 2 ∨ k = 3 := by omega
  · show (Instr.index 154 (colV Y) (.int .i64 0)).run Tryz.prog w = .ok (.int .u64 (Y 0 : Int)) w
    kernel_rfl
  · show (Instr.index 154 (colV Y) (.int .i64 1)).run Tryz.prog w = .ok (.int .u64 (Y 1 : Int)) w
    kernel_rfl
  · show (Instr.index 154 (colV Y) (.int .i64 2)).run Tryz.prog w = .ok (.int .u64 (Y 2 : Int)) w
    kernel_rfl
  · show (Instr.index 154 (colV Y) (.int .i64 3)).run Tryz.prog w = .ok (.int .u64 (Y 3 : Int)) w
    kernel_rfl
set_option maxRecDepth 100000 in
set_option maxHeartbeats 4000000 in
theorem colAdd_any (b o : Nat) (X Y : Nat → Nat) (w : World) (hX : ∀ k, k < 4 → X k ≤ 4611686018427387904) (hY : ∀ k, k < 4 → Y k ≤ 4611686018427387904) (hb : b < w.heap.size) (hc : ColAt w b o X) :
    Calls Tryz.prog 264 #[.pointer (some ⟨b, o, none⟩), colV Y] w fun e w' => ClPost w b o (okS X Y) (sumF X Y) e w' := by
  have HC := Lib.hid hc
  have HX := Lib.hid hX
  have HY := Lib.hid hY
  clear hc hX hY
  go_enter Tryz.func264, Tryz.ntmps264
  go_wp2_with fail
  go_loopw [8] (fun i wr => ∃ k : Nat, k ≤ 4 ∧ i = .int .i64 k ∧ Hid (AdC w b o X Y k wr)) (fun i _ => 4 - (intOf i).toNat)
  case atStart =>
    have hbl : Below w.heap.size w (w.alloc (.cells #[.int .u64 (Y 0 : Int), .int .u64 (Y 1 : Int), .int .u64 (Y 2 : Int), .int .u64 (Y 3 : Int)] 154)) := (Below.refl _ _).alloc (Nat.le_refl _) _
    exact ⟨0, by omega, rfl, Lib.hid ⟨ButC.of hbl hb, HC.out.carry hbl hb, fun i hi => absurd hi (by omega)⟩⟩
  case round =>
    obtain ⟨k, hk, rfl, HS⟩ := hrel
    by_cases hlt : k < 4
    · have hX := HX.out k hlt
      have hY := HY.out k hlt
      have idx := index_col Y hlt
      have c0 := HS.out.col.c k hlt
      have f0 := HS.out.col.f k hlt
      simp only [Nat.lt_irrefl, if_false] at c0
      go_wp2_with fail
      go_still_tail 9, (by kernel_rfl)
      have hsum : (X k : Int) + (Y k : Int) = ((X k + Y k : Nat) : Int) := by push_cast; rfl
      by_cases hle : X k + Y k ≤ 4611686018427387904
      · have q1 : decide (4611686018427387904 < (X k : Int) + (Y k : Int)) = false := decide_eq_false (by omega)
        have HN : Hid (AdC w b o X Y (k + 1) (wr.setCell ⟨b, o + k, none⟩ (.int .u64 ((X k : Int) + (Y k : Int)))).drew) := Lib.hid (by
          rw [hsum]
          refine ⟨(HS.out.but.set hlt _).drew, ?_, fun i hi => ?_⟩
          · have h1 := HS.out.col.set (k := k) (y := X k + Y k)
            refine ⟨fun i hi => (h1.c i hi).trans ?_, h1.f⟩
            by_cases e : i = k
            · subst e
              rw [if_pos rfl, if_pos (by omega)]
            · rw [if_neg e]
              by_cases e2 : i < k
              · rw [if_pos e2, if_pos (by omega)]
              · rw [if_neg e2, if_neg (by omega)]
          · by_cases e : i = k
            · rw [e]; exact hle
            · exact HS.out.ok i (by omega))
        clear hsum
        go_wp2_with fail
        exact ⟨⟨k + 1, by omega, by go_num, HN⟩, by simp only [intOf]; omega⟩
      · have q1 : decide (4611686018427387904 < (X k : Int) + (Y k : Int)) = true := decide_eq_true (by omega)
        clear hsum
        go_wp2_with fail
        go_ret
        exact ⟨(HS.out.but.set hlt _).drew, .inr ⟨rfl, fun h => hle (h k hlt)⟩⟩
    · obtain rfl : k = 4 := by omega
      go_wp2_with fail
      go_ret
      refine ⟨HS.out.but, .inl ⟨rfl, HS.out.ok, ?_⟩⟩
      exact ⟨fun k hk => by rw [HS.out.col.c k hk, if_pos hk]; rfl, HS.out.col.f⟩
end Go.Proofs.YtamddagmlanijaaGreat
/- Package matrix: the sum of two linear functions without variables. -/
namespace Go.Proofs.YtamddagmlanijaaGreat
open Go.RowKit Go.Shelf

set_option maxRecDepth 100000 in
set_option maxHeartbeats 4000000 in
theorem linAdd_any (b : Nat) (X Y : Nat → Nat) (w : World) (hX : ∀ k, k < 4 → X k ≤ 4611686018427387904) (hY : ∀ k, k < 4 → Y k ≤ 4611686018427387904) (hb : b < w.heap.size) (hc : ColAt w b 0 X) (hm : w.cell? ⟨b, 4, none⟩ = some (.map none)) :
    Calls Tryz.prog 221 #[.pointer (some ⟨b, 0, none⟩), linV (Y 0) (Y 1) (Y 2) (Y 3)] w fun e w' => ClPost w b 0 (okS X Y) (sumF X Y) e w' := by
  obtain ⟨W1, hW1⟩ : ∃ W1, W1 = w.alloc (.cells #[.int .u64 (Y 0 : Int), .int .u64 (Y 1 : Int), .int .u64 (Y 2 : Int), .int .u64 (Y 3 : Int), .map none] 157) := ⟨_, rfl⟩
  have hbl : Below w.heap.size w W1 := by subst hW1; exact (Below.refl _ _).alloc (Nat.le_refl _) _
  have hgo : W1.heap[w.heap.size]? = some (linO (Y 0) (Y 1) (Y 2) (Y 3)) := by subst hW1; exact heap_alloc_new' _ _ rfl
  have hsz : w.heap.size < W1.heap.size := by subst hW1; rw [size_alloc']; omega
  have HA := Lib.hid (colAdd_any b 0 X Y W1.drew hX hY (Nat.lt_of_lt_of_le hb hbl.size) (hc.carry hbl.drew hb))
  have H4 : Hid (W1.cell? ⟨b, 4, none⟩ = some (.map none)) := Lib.hid ((hbl.cell (p := ⟨b, _, none⟩) hb).trans hm)
  have HB := Lib.hid hb
  have HBL := Lib.hid hbl
  have HGO := Lib.hid hgo
  have HSZ := Lib.hid hsz
  obtain ⟨y0, y1, y2, y3, -⟩ := linO_cs hgo
  clear hX hY hb hc hm hbl hgo hsz
  go_enter Tryz.func221, Tryz.ntmps221
  go_wp2_with fail
  rw [← hW1]
  clear hW1
  go_still_tail 5, (by kernel_rfl)
  go_wp2_with fail
  refine HA.out.mono ?_
  rintro e w2 ⟨hbut, h⟩
  have hb2 : ButC b 0 w w2 := ((ButC.of HBL.out HB.out).drew).trans hbut
  have HBU := Lib.hid hb2
  have m4 : w2.cell? ⟨b, 4, none⟩ = some (.map none) := (hbut.c 4 (by omega)).trans H4.out
  have hne : w.heap.size ≠ b := by have := HB.out; omega
  have hg2 : w2.heap[w.heap.size]? = some (linO (Y 0) (Y 1) (Y 2) (Y 3)) := (hbut.block _ HSZ.out hne).trans HGO.out
  have n4 : w2.cell? ⟨w.heap.size, 4, none⟩ = some (.map none) := cells_of' hg2 4
  clear hbut hb2 hne hg2
  rcases h with ⟨rfl, hok, hcol⟩ | ⟨rfl, hok⟩
  · have HC := Lib.hid hcol
    have HK := Lib.hid hok
    clear hcol hok
    go_wp2_with fail
    go_quiet (fail)
    have HBU3 : Hid (ButC b 0 w (w2.drewN nq)) := Lib.hid ⟨⟨HBU.out.os, HBU.out.tape, HBU.out.output, HBU.out.size, HBU.out.block⟩, HBU.out.c, HBU.out.f⟩
    have HC3 : Hid (ColAt (w2.drewN nq) b 0 (sumF X Y)) := Lib.hid ⟨HC.out.c, HC.out.f⟩
    have n4 : (w2.drewN nq).cell? ⟨w.heap.size, 4, none⟩ = some (.map none) := n4
    clear HBU HC m4
    revert n4 HBU3 HC3
    generalize w2.drewN nq = W3
    intro HBU3 HC3 n4
    have hrg := run_range_nilMap (P := Tryz.prog) W3 155 _ _ Tryz.underlying155
    have hnx : ∀ ty, (Instr.next (.pointer (some ⟨W3.heap.size, 0, none⟩)) false ty).run Tryz.prog (W3.alloc (.mapIter none 0 #[] 0)) = _ := fun ty => run_next_nilMap W3 ty 0 0 #[]
    go_wp2_with fail
    refine wp_loop_rounds 1 ?_
    rw [rounds_succ]
    go_wp2_with fail
    go_ret
    have hbl : Below W3.heap.size W3 (W3.alloc (.mapIter none 0 #[] 0)) := (Below.refl _ _).alloc (Nat.le_refl _) _
    have hbw := Nat.lt_of_lt_of_le HB.out HBU3.out.size
    exact ⟨HBU3.out.trans (ButC.of hbl hbw), .inl ⟨rfl, HK.out, HC3.out.carry hbl hbw⟩⟩
  · have HK := Lib.hid hok
    clear hok m4 n4
    go_wp2_with fail
    go_ret
    exact ⟨HBU.out, .inr ⟨rfl, HK.out⟩⟩
end Go.Proofs.YtamddagmlanijaaGreat
