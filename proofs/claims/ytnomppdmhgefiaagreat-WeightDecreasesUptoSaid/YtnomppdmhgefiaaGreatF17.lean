/- Packed: Wen, Wso. -/
import Derived.Test.YtnomppdmhgefiaaGreatF09
import Derived.Test.YtnomppdmhgefiaaGreatF16
import Derived.Test.YtnomppdmhgefiaaGreatF15
import Derived.Deep.RegionHeld3
/- Package weight: the entry of a name (a search by halves). -/
namespace Go.Proofs.YtnomppdmhgefiaaGreat
open Go.RowKit Go.Shelf

theorem wkCmp_any (p : Rk) (k : Key) (w : World) :
    Calls Tryz.prog 189 #[rkv p, .string (kb k)] w fun e w' => e = .returned (.int .i64 (Lib.compareBytes p.1 k)) ∧ Below w.heap.size w w' := by
  go_enter Tryz.func189, Tryz.ntmps189
  rw [show rkv p = .agg #[.string (kb p.1), .int .i64 p.2.1, .int .i64 p.2.2] from rfl]
  go_wp2_with fail
  refine (Tryz.strings_Compare _ _ _).mono ?_
  rintro e w' ⟨rfl, rfl⟩
  go_wp2_with fail
  go_ret
  exact ⟨rfl, by go_grown⟩
set_option maxRecDepth 100000 in
set_option maxHeartbeats 8000000 in
theorem wkSearch_any (l : List Rk) (k : Key) (v : Value) (w : World) (hl : RksIs w.heap.size w l v) (hlen : l.length ≤ 1048576) (hn : NmsOk l) :
    Calls Tryz.prog 191 #[v, .string (kb k), .func (.func 189) #[] #[]] w fun e w' => (∃ (i : Nat) (f : Bool), e = .returned (.tuple #[.int .i64 i, .bool f]) ∧ ((f = true ∧ ∃ p, l[i]? = some p ∧ p.1 = k) ∨ (f = false ∧ entryOf l k = (k, 0, 0)))) ∧ Below w.heap.size w w' := by
  obtain ⟨oa, cap, rfl, hcap, hc⟩ := hl
  have HC := Lib.hid hc
  have HN := Lib.hid hn
  clear hc hn
  go_enter Tryz.func191, Tryz.ntmps191
  go_wp2_with fail
  go_loopw [9, 10] (fun i j wr => ∃ lo hi : Nat, i = .int .i64 lo ∧ j = .int .i64 hi ∧ lo ≤ hi ∧ hi ≤ l.length ∧ Hid (BsSt l k lo hi) ∧ Hid (Below w.heap.size w wr)) (fun i j _ => (intOf j).toNat - (intOf i).toNat)
  case atStart => exact ⟨0, l.length, rfl, rfl, by omega, by omega, Lib.hid ⟨by omega, Nat.le_refl _, fun j p hj => absurd hj (by omega), fun j p hj hp => by have := (List.getElem?_eq_some_iff.1 hp).1; omega⟩, Lib.hid (Below.refl _ _)⟩
  case round =>
    obtain ⟨lo, hi, rfl, rfl, h1, h2, HS, HBW⟩ := hrel
    by_cases hlt : lo < hi
    · obtain ⟨p, hp⟩ : ∃ p, l[(lo + hi) / 2]? = some p := ⟨_, List.getElem?_eq_getElem (by omega)⟩
      obtain ⟨b1, o1, rfl, hbn, hc1⟩ := HC.out (by rintro rfl; simp at h2; omega)
      obtain ⟨c0, c1, c2⟩ := hc1 _ p hp
      have c0 := (HBW.out.cell (p := ⟨b1, _, none⟩) hbn).trans c0
      have c1 := (HBW.out.cell (p := ⟨b1, _, none⟩) hbn).trans c1
      have c2 := (HBW.out.cell (p := ⟨b1, _, none⟩) hbn).trans c2
      have HP := Lib.hid hp
      clear hc1 hp
      go_wp2_with fail
      refine (wkCmp_any p k _).mono ?_
      rintro e w1 ⟨rfl, hb1⟩
      have HB1 : Hid (Below w.heap.size w w1) := Lib.hid (HBW.out.trans (hb1.mono HBW.out.size))
      clear hb1
      by_cases hlt2 : p.1 < k
      · have hd : decide (Lib.compareBytes p.1 k < 0) = true := decide_eq_true ((cmpB_lt _ _).2 hlt2)
        have HS2 : Hid (BsSt l k ((lo + hi) / 2 + 1) hi) := Lib.hid ⟨by omega, h2, fun j q hj hq => by
          by_cases e : j = (lo + hi) / 2
          · subst e; rw [HP.out] at hq; cases hq; exact hlt2
          · exact List.lt_trans (HN.out.lt (by omega) hq HP.out) hlt2, HS.out.high⟩
        clear hlt2
        go_wp2_with fail
        exact ⟨⟨(lo + hi) / 2 + 1, hi, by rw [show ((lo : Int) + (hi : Int)) / 2 + 1 = (((lo + hi) / 2 + 1 : Nat) : Int) by omega], rfl, by omega, h2, HS2, HB1⟩, by simp [intOf]; omega⟩
      · have hd : decide (Lib.compareBytes p.1 k < 0) = false := decide_eq_false fun h => hlt2 ((cmpB_lt _ _).1 h)
        have HS2 : Hid (BsSt l k lo ((lo + hi) / 2)) := Lib.hid ⟨by omega, by omega, HS.out.low, fun j q hj hq h => by
          by_cases e : j = (lo + hi) / 2
          · subst e; rw [HP.out] at hq; cases hq; exact hlt2 h
          · exact hlt2 (List.lt_trans (HN.out.lt (by omega) HP.out hq) h)⟩
        clear hlt2
        go_wp2_with fail
        exact ⟨⟨lo, (lo + hi) / 2, rfl, by rw [show ((lo : Int) + (hi : Int)) / 2 = (((lo + hi) / 2 : Nat) : Int) by omega], by omega, by omega, HS2, HB1⟩, by simp [intOf]; omega⟩
    · obtain rfl : hi = lo := by omega
      by_cases hle : hi < l.length
      · obtain ⟨p, hp⟩ : ∃ p, l[hi]? = some p := ⟨_, List.getElem?_eq_getElem hle⟩
        obtain ⟨b1, o1, rfl, hbn, hc1⟩ := HC.out (by rintro rfl; simp at hle)
        obtain ⟨c0, c1, c2⟩ := hc1 _ p hp
        have c0 := (HBW.out.cell (p := ⟨b1, _, none⟩) hbn).trans c0
        have c1 := (HBW.out.cell (p := ⟨b1, _, none⟩) hbn).trans c1
        have c2 := (HBW.out.cell (p := ⟨b1, _, none⟩) hbn).trans c2
        have HP := Lib.hid hp
        clear hc1 hp
        go_wp2_with fail
        refine (wkCmp_any p k _).mono ?_
        rintro e w1 ⟨rfl, hb1⟩
        have HB1 : Hid (Below w.heap.size w w1) := Lib.hid (HBW.out.trans (hb1.mono HBW.out.size))
        clear hb1
        by_cases he : p.1 = k
        · have hd : (Lib.compareBytes p.1 k == 0) = true := by rw [beq_iff_eq]; exact (cmpB_eq _ _).2 he
          have HE := Lib.hid he
          clear he
          go_wp2_with fail
          go_ret2
          exact ⟨⟨hi, true, rfl, .inl ⟨rfl, p, HP.out, HE.out⟩⟩, HB1.out⟩
        · have hd : (Lib.compareBytes p.1 k == 0) = false := by rw [beq_eq_false_iff_ne]; exact fun h => he ((cmpB_eq _ _).1 h)
          have HE : Hid (entryOf l k = (k, 0, 0)) := Lib.hid (entryOf_no HN.out HS.out.low fun q hq => ⟨HS.out.high hi q (Nat.le_refl _) hq, by rw [HP.out] at hq; cases hq; exact he⟩)
          clear he
          go_wp2_with fail
          go_ret2
          exact ⟨⟨hi, false, rfl, .inr ⟨rfl, HE.out⟩⟩, HB1.out⟩
      · have HE : Hid (entryOf l k = (k, 0, 0)) := Lib.hid (entryOf_no HN.out HS.out.low fun q hq => by have := (List.getElem?_eq_some_iff.1 hq).1; omega)
        go_wp2_with fail
        go_ret2
        exact ⟨⟨hi, false, rfl, .inr ⟨rfl, HE.out⟩⟩, HBW.out⟩
theorem box2w {W : World} {b : Nat} {x y : Value} {e : TypeId} (h : W.heap[b]? = some (.cells #[x, y] e (0, 0))) :
    (W.cell? ⟨b, 0, none⟩ = some x ∧ W.cell? ⟨b, 1, none⟩ = some y) ∧ W.frozen? ⟨b, 0, none⟩ = false ∧ W.frozen? ⟨b, 1, none⟩ = false :=
  ⟨⟨cells_of' h 0, cells_of' h 1⟩, frozen_of' h _, frozen_of' h _⟩
theorem rkFld1 (p : Rk) (w : World) : (Instr.field 137 (rkv p) 1).run Tryz.prog w = .ok (.int .i64 p.2.1) w := by kernel_rfl
theorem rkFld2 (p : Rk) (w : World) : (Instr.field 137 (rkv p) 2).run Tryz.prog w = .ok (.int .i64 p.2.2) w := by kernel_rfl
/-- an order as a value -/
@[reducible] def orv (lv : Value) (u : Int) : Value := .agg #[lv, .int .i64 u]
set_option maxRecDepth 100000 in
set_option maxHeartbeats 4000000 in
theorem entry_any (l : List Rk) (u : Int) (k : Key) (v : Value) (w : World) (hl : RksIs w.heap.size w l v) (hlen : l.length ≤ 1048576) (hn : NmsOk l) :
    Calls Tryz.prog 125 #[orv v u, .string (kb k)] w fun e w' => e = .returned (rkv (entryOf l k)) ∧ Below w.heap.size w w' := by
  have HK : Hid (∀ W, Below w.heap.size w W → Calls Tryz.prog 191 #[v, .string (kb k), .func (.func 189) #[] #[]] W fun e w' => (∃ (i : Nat) (f : Bool), e = .returned (.tuple #[.int .i64 i, .bool f]) ∧ ((f = true ∧ ∃ p, l[i]? = some p ∧ p.1 = k) ∨ (f = false ∧ entryOf l k = (k, 0, 0)))) ∧ Below W.heap.size W w') :=
    Lib.hid fun W hW => wkSearch_any l k v W (hl.carry hW hW.size) hlen hn
  obtain ⟨oa, cap, rfl, hcap, hc⟩ := hl
  have HC := Lib.hid hc
  have HN := Lib.hid hn
  clear hc hn
  have HB0 : Hid (Below w.heap.size w ((w.alloc (.cells #[.slice oa l.length cap, .int .i64 u] 132)).alloc (.cells #[.string ⟨#[]⟩, .int .i64 0, .int .i64 0] 137))) := Lib.hid (by go_grown)
  have HX0 : Hid (((w.alloc (.cells #[.slice oa l.length cap, .int .i64 u] 132)).alloc (.cells #[.string ⟨#[]⟩, .int .i64 0, .int .i64 0] 137)).heap[w.heap.size]? = some (.cells #[.slice oa l.length cap, .int .i64 u] 132 (0, 0))) := Lib.hid ((Below.heap_alloc _ _ _ (by simp)).trans (heap_new_at _ _ _ rfl))
  have HY0 : Hid (((w.alloc (.cells #[.slice oa l.length cap, .int .i64 u] 132)).alloc (.cells #[.string ⟨#[]⟩, .int .i64 0, .int .i64 0] 137)).heap[w.heap.size + 1]? = some (.cells #[.string ⟨#[]⟩, .int .i64 0, .int .i64 0] 137 (0, 0))) := Lib.hid (heap_new_at _ _ _ (by simp))
  go_enter Tryz.func125, Tryz.ntmps125
  rw [show orv (.slice oa l.length cap) u = .agg #[.slice oa l.length cap, .int .i64 u] from rfl]
  go_wp2_with fail
  generalize ((w.alloc (.cells #[.slice oa l.length cap, .int .i64 u] 132)).alloc (.cells #[.string ⟨#[]⟩, .int .i64 0, .int .i64 0] 137)) = W0 at HB0 HX0 HY0 ⊢
  refine (HK.out W0 HB0.out).mono ?_
  rintro e w1 ⟨⟨i, f, rfl, hc⟩, hb1⟩
  have HB := Lib.hid (HB0.out.trans (hb1.mono HB0.out.size))
  have HX := Lib.hid ((hb1.block _ (Array.getElem?_eq_some_iff.1 HX0.out).1).trans HX0.out)
  have HY := Lib.hid ((hb1.block _ (Array.getElem?_eq_some_iff.1 HY0.out).1).trans HY0.out)
  have hx := box2w HX.out
  have hy := box3 HY.out
  clear hb1 HK
  cases f
  · obtain ⟨-, h0⟩ := hc.resolve_left (by rintro ⟨h, -⟩; cases h)
    have H0 := Lib.hid h0
    clear h0 hc
    go_wp2_with fail
    have hq := box3_set HY.out (.string (kb k)) (.int .i64 0) (.int .i64 0)
    obtain ⟨⟨q0, q1, q2⟩, -⟩ := box3 hq
    have hbf := below_set3 HB.out (b := w.heap.size + 1) (by omega) (.string (kb k)) (.int .i64 0) (.int .i64 0)
    refine bodyPost_ret (v := .agg #[.string (kb k), .int .i64 0, .int .i64 0]) (by simp [results, Tryz.f125, go_sem, q0, q1, q2]) rfl ?_
    rw [H0.out]
    exact ⟨rfl, hbf⟩
  · obtain ⟨-, p, hp, hk⟩ := hc.resolve_right (by rintro ⟨h, -⟩; cases h)
    have hi := (List.getElem?_eq_some_iff.1 hp).1
    obtain ⟨b1, o1, rfl, hbn, hc1⟩ := HC.out (by rintro rfl; simp at hi)
    obtain ⟨c0, c1, c2⟩ := hc1 _ p hp
    have c0 := (HB.out.cell (p := ⟨b1, _, none⟩) hbn).trans c0
    have c1 := (HB.out.cell (p := ⟨b1, _, none⟩) hbn).trans c1
    have c2 := (HB.out.cell (p := ⟨b1, _, none⟩) hbn).trans c2
    have HR := Lib.hid (entryOf_at HN.out hp hk)
    clear hc1 hp hk hc
    go_wp2_with fail
    have hq := box3_set HY.out (.string (kb p.1)) (.int .i64 p.2.1) (.int .i64 p.2.2)
    obtain ⟨⟨q0, q1, q2⟩, -⟩ := box3 hq
    have hbf := below_set3 HB.out (b := w.heap.size + 1) (by omega) (.string (kb p.1)) (.int .i64 p.2.1) (.int .i64 p.2.2)
    refine bodyPost_ret (v := .agg #[.string (kb p.1), .int .i64 p.2.1, .int .i64 p.2.2]) (by simp [results, Tryz.f125, go_sem, q0, q1, q2]) rfl ?_
    rw [HR.out]
    exact ⟨rfl, hbf⟩
end Go.Proofs.YtnomppdmhgefiaaGreat
/- Merged: Wsy, Wso. -/
/- Symbols of terms in memory: appendSymbols, the reference's Of. -/
namespace Go.Proofs.YtnomppdmhgefiaaGreat
open Go.RowKit Go.Maps

/-- the slice value v holds these symbols, in blocks below n -/
def SyIs (n : Nat) (W : World) (l : List Sy) (v : Value) : Prop :=
  ∃ oa cap, v = .slice oa l.length cap ∧ l.length ≤ cap ∧
    (l ≠ [] → ∃ b o, oa = some ⟨b, o, none⟩ ∧ b < n ∧ ∀ i p, l[i]? = some p → W.cell? ⟨b, o + i * 2, none⟩ = some (.string (kb p.1)) ∧ W.cell? ⟨b, o + i * 2 + 1, none⟩ = some (.int .i64 p.2))
theorem SyIs.carry {n m : Nat} {A B : World} {l : List Sy} {v : Value} (h : SyIs n A l v) (hb : Below n A B) (hn : n ≤ m) : SyIs m B l v := by
  obtain ⟨oa, cap, rfl, h1, h3⟩ := h
  refine ⟨oa, cap, rfl, h1, fun hne => ?_⟩
  obtain ⟨b, o, rfl, hbn, hc⟩ := h3 hne
  refine ⟨b, o, rfl, by omega, fun i p hk => ?_⟩
  obtain ⟨c0, c1⟩ := hc i p hk
  exact ⟨(hb.cell (p := ⟨b, _, none⟩) hbn).trans c0, (hb.cell (p := ⟨b, _, none⟩) hbn).trans c1⟩
theorem SyIs.ofRow {W : World} {m : Nat} {v : Value} {l : List Sy} (h : W.ownsRow m 141 2 v l.length (syCells l)) : SyIs W.heap.size W l v := by
  have h0 := h
  rcases h.2 with ⟨rfl, hl⟩ | ⟨g, cap, cur, rfl, hb, hg, hle, _⟩
  · exact ⟨none, 0, by rw [hl], by omega, fun hne => absurd (List.length_eq_zero_iff.1 hl) hne⟩
  · refine ⟨_, cap, rfl, hle, fun _ => ⟨g, 0, rfl, (Array.getElem?_eq_some_iff.1 hg).1, fun i p hp => ?_⟩⟩
    obtain ⟨gg, cc, q, e1, e2, e3, e4⟩ := syGet h0 (List.getElem?_eq_some_iff.1 hp).1
    injection e1 with e1 _ _; injection e1 with e1; injection e1 with e1
    subst e1
    rw [hp] at e2; cases e2
    rw [Nat.zero_add]
    exact ⟨e3, e4⟩
theorem syCells_length (l : List Sy) : (syCells l).length = l.length * 2 := by
  induction l with
  | nil => rfl
  | cons p l ih => simp [syCells] at ih ⊢; omega
theorem syCells_one (l : List Sy) : ∀ u ∈ syCells l, u.oneCell' = true := fun u hu => by
  unfold syCells at hu
  obtain ⟨p, -, hp⟩ := List.mem_flatMap.1 hu
  simp at hp
  rcases hp with rfl | rfl <;> rfl
theorem sy_one (t : Tm) : syCells [(t.nm.data.toList, (t.ts.length : Int))] = [.string t.nm, .int .i64 t.ts.length] := by simp [syCells, kb_key]
/-- how a list of symbols grows -/
def SyPost (base : Nat) (ms : List Sy) (mv v : Value) (w w' : World) : Prop :=
  w'.ownsRow base 141 2 v ms.length (syCells ms) ∧ w.grownBy w' mv.ownBlock ∧ (v.ownBlock = mv.ownBlock ∨ ∃ j, v.ownBlock = some j ∧ w.heap.size ≤ j)

set_option maxRecDepth 100000 in
set_option maxHeartbeats 4000000 in
theorem aps_any (base : Nat) (t : Tm) : ∀ (sl mv : Value) (ms : List Sy) (w : World), base ≤ w.heap.size → SlIs base w t.ts sl → t.bulk ≤ 1048576 → w.ownsRow base 141 2 mv ms.length (syCells ms) → ms.length + t.size ≤ 8589934592 →
    Calls Tryz.prog 133 #[mv, tmv t sl] w fun e w' => ∃ v', e = .returned v' ∧ SyPost base (ms ++ t.sy) mv v' w w' := by
  induction t using Tm.ind with
  | h t ih =>
    intro sl mv ms w hbase hs hbt hms hsz
    obtain ⟨oa, ca, rfl, -⟩ := hs.form
    obtain ⟨om, cm, rfl⟩ := ownsRow_shape hms
    have hlt : ∀ j, (Value.slice om ms.length cm).ownBlock = some j → base ≤ j ∧ j < w.heap.size := fun j hj => hms.lt j hj
    have hts : t.ts.length ≤ 1048576 := by have := Tm.length_sizes t.ts; have := Tm.size_eq t; have := Tm.size_bulk t; omega
    obtain ⟨i0, hi0⟩ := Option.map_eq_some_iff.1 infoSym
    simp only [Prod.mk.injEq] at hi0
    have HI := Lib.hid hi0.1
    have HZ := Lib.hid hi0.2.1
    have HS1 := Lib.hid hi0.2.2.1
    have HB1 := Lib.hid hi0.2.2.2
    have HLT := Lib.hid hlt
    have HS := Lib.hid hs
    have IH := Lib.hid ih
    have HSZ := Lib.hid (Tm.size_eq t)
    have h0 : FxSt base w (w.alloc (.cells #[.string t.nm, .bool t.vr, .slice oa t.ts.length ca] 25)) (.slice om ms.length cm) t (.slice oa t.ts.length ca) ms (.slice om ms.length cm) :=
      ⟨heap_new_at _ _ _ rfl, hms.alloc _, World.grownBy_alloc _ _ _, .inl rfl⟩
    have HST := Lib.hid h0
    clear hi0 hlt hs ih h0 hms
    go_enter Tryz.func133, Tryz.ntmps133
    rw [show tmv t (.slice oa t.ts.length ca) = .agg #[.string t.nm, .bool t.vr, .slice oa t.ts.length ca] from rfl]
    cases hv : t.vr with
    | true =>
      have HV := Lib.hid hv
      rw [hv] at HST
      clear hv
      go_wp2_with fail
      go_ret
      exact ⟨_, rfl, by rw [Tm.sy_var HV.out, List.append_nil]; exact HST.out.row, HST.out.gr, .inl rfl⟩
    | false =>
      have HV := Lib.hid hv
      have HST' : Hid (FxSt base w (w.alloc (.cells #[.string t.nm, .bool false, .slice oa t.ts.length ca] 25)) (.slice om ms.length cm) t (.slice oa t.ts.length ca) ms (.slice om ms.length cm)) := by rw [← hv]; exact HST
      clear hv HST
      go_wp2_with ((first
        | (at_builtin
           refine wpList_append_own_at _ rfl _ _ 71 rfl base 141 i0 (.agg #[.string ⟨#[]⟩, .int .i64 0]) 2 24 Tryz.underlying71 HI.out HZ.out HS1.out HB1.out rfl (by decide) (.slice om ms.length cm) ms.length (syCells ms) rfl (HST'.out.row.alloc _) ⟨w.heap.size + 1, 0, none⟩ 1 1 [.string t.nm, .int .i64 t.ts.length] rfl rfl (fun j u hj => by have := cells_new2 (w.alloc (.cells #[.string t.nm, .bool false, .slice oa t.ts.length ca] 25)) (.string t.nm) (.int .i64 t.ts.length) 141 j u hj; simpa using this) (by simp [Value.oneCell']) (by unfold maxLen; omega) (by omega) (by simp; omega) ?_
           intro v2 w2 hown2 hgr2 _ hat2
           obtain ⟨va, vc, rfl⟩ := ownsRow_shape hown2
           have hst2 : FxSt base w w2 (.slice om ms.length cm) t (.slice oa t.ts.length ca) (ms ++ [(t.nm.data.toList, (t.ts.length : Int))]) (.slice va (ms.length + 1) vc) := (HST'.out.below ((Below.refl _ _).alloc (Nat.le_refl _) (.cells #[.string t.nm, .int .i64 t.ts.length] 141))).grow (fun j hj => (HLT.out j hj).2) hgr2 (by rw [List.length_append, syCells_append, sy_one]; exact hown2) (hat2.imp id fun h => ⟨_, h, by simp⟩)
           obtain ⟨⟨x0, x1, x2⟩, -⟩ := box3 hst2.box
           have HSTL := Lib.hid hst2
           clear hown2 hgr2 hat2 hst2)))
      go_loopw [0, 22] (fun m i wr => ∃ (k : Nat) (v2 : Value) (M : List Sy), k ≤ t.ts.length ∧ m = v2 ∧ i = .int .i64 k ∧ Hid (M = ms ++ (t.nm.data.toList, (t.ts.length : Int)) :: Tm.sys (t.ts.take k)) ∧ Hid (FxSt base w wr (.slice om ms.length cm) t (.slice oa t.ts.length ca) M v2)) (fun _ i _ => t.ts.length - (intOf i).toNat)
      case atStart => exact ⟨0, _, _, by omega, rfl, rfl, Lib.hid (by simp [Tm.sys]), HSTL⟩
      case round =>
        clear x0 x1 x2 HSTL HST'
        obtain ⟨k, v2, M, hk, rfl, rfl, HM, HST⟩ := hrel
        by_cases hltk : k < t.ts.length
        · have hlow := HST.out.low hbase (fun j hj => (HLT.out j hj).1)
          obtain ⟨b, o, u, su, rfl, hbb, hu, hum, hus, c1, c2, c3⟩ := (HS.out.carry hlow (Nat.le_refl _)).get (k := k) hltk
          obtain ⟨ou, cu, rfl, -⟩ := hus.form
          obtain ⟨ov, cv, rfl⟩ := ownsRow_shape HST.out.row
          have hub : u.bulk ≤ 1048576 := by have := Tm.bulk_mem hum; have := Tm.bulk_eq t; omega
          have hsz2 : Tm.sizes (t.ts.take (k + 1)) = Tm.sizes (t.ts.take k) + u.size := by rw [Tm.take_snoc hu, Tm.sizes_append]; simp [Tm.sizes]
          have hle : Tm.sizes (t.ts.take (k + 1)) ≤ Tm.sizes t.ts := Tm.sizes_take _ _
          have hll : M.length + u.size ≤ 8589934592 := by
            rw [HM.out]
            have := Tm.sys_len (t.ts.take k)
            have := HSZ.out
            simp only [List.length_append, List.length_cons]; omega
          have HX := Lib.hid (HST.out.below ((Below.refl wr.heap.size wr).alloc (Nat.le_refl _) (.cells #[.string u.nm, .bool u.vr, .slice ou u.ts.length cu] 25)))
          have HC := Lib.hid (IH.out u hum (.slice ou u.ts.length cu) _ _ _ (Nat.le_trans hbase HX.out.gr.size) (hus.carry (((Below.refl wr.heap.size wr).alloc (Nat.le_refl _) _).mono (Nat.le_trans hbase HST.out.gr.size)) (Nat.le_refl _)) hub HX.out.row hll)
          have HSN : Hid (M ++ u.sy = ms ++ (t.nm.data.toList, (t.ts.length : Int)) :: Tm.sys (t.ts.take (k + 1))) := Lib.hid (by rw [HM.out, Tm.take_snoc hu, Tm.sys_append]; simp [Tm.sys])
          clear hlow hu hum hus hsz2 hle hll
          go_wp2_with fail
          refine HC.out.mono ?_
          rintro e w4 ⟨v', rfl, ho4, hg4, hat4⟩
          have hst4 := HX.out.grow (fun j hj => (HLT.out j hj).2) hg4 ho4 hat4
          have HST4 := Lib.hid hst4
          clear ho4 hg4 hat4 hst4 HC
          go_wp2_with fail
          exact ⟨⟨k + 1, _, _, by omega, rfl, by go_num, HSN, HST4⟩, by simp [intOf]; omega⟩
        · obtain rfl : k = t.ts.length := by omega
          have hst := HST.out
          rw [HM.out, List.take_length, ← Tm.sy_fun HV.out] at hst
          have HST5 := Lib.hid hst
          clear hst HST
          go_wp2_with fail
          go_ret
          exact ⟨_, rfl, HST5.out.row, HST5.out.gr, HST5.out.own.imp id fun ⟨j, h1, h2⟩ => ⟨j, h1, by omega⟩⟩

end Go.Proofs.YtnomppdmhgefiaaGreat
/- Symbols of terms in memory: the reference's Of. -/
namespace Go.Proofs.YtnomppdmhgefiaaGreat
open Go.RowKit Go.Maps

/-- the symbols so far -/
structure OfSt (w W : World) (ms : List Sy) (v : Value) : Prop where
  row : W.ownsRow w.heap.size 141 2 v ms.length (syCells ms)
  low : Below w.heap.size w W
theorem OfSt.below {w A W : World} {ms : List Sy} {v : Value} (h : OfSt w A ms v) (hb : Below A.heap.size A W) : OfSt w W ms v :=
  ⟨h.row.kept (below_grown hb) (own_none _), h.low.trans (hb.mono h.low.size)⟩
theorem OfSt.grow {w A W : World} {ms ms' : List Sy} {v v' : Value} (h : OfSt w A ms v) (hg : A.grownBy W v.ownBlock) (ho : W.ownsRow w.heap.size 141 2 v' ms'.length (syCells ms')) : OfSt w W ms' v' :=
  ⟨ho, h.low.grown hg h.low.size fun j hj => (h.row.lt j hj).1⟩
set_option maxRecDepth 100000 in
set_option maxHeartbeats 4000000 in
theorem of_any (N : Nat) : ∀ (l : List Tm) (v : Value) (w : World), Tm.sizes l ≤ N → Tm.sizes l ≤ 8589934592 → (∀ u ∈ l, u.bulk ≤ 1048576) → l.length ≤ 4194304 → SlIs w.heap.size w l v →
    Calls Tryz.prog 44 #[v] w fun e w' => ∃ v', e = .returned v' ∧ OfSt w w' (Tm.ofs l) v' := by
  induction N with
  | zero =>
    intro l v w hN _ _ _ hs
    cases l with
    | cons x l => have := Tm.size_pos x; simp only [Tm.sizes] at hN; omega
    | nil =>
      obtain ⟨oa, ca, rfl, -⟩ := hs.form
      simp only [List.length_nil]
      go_enter Tryz.func44, Tryz.ntmps44
      go_wp2_with fail
      go_loopw [3, 8] (fun m i wr => m = .slice none 0 0 ∧ i = .int .i64 0 ∧ wr = w) (fun _ _ _ => 0)
      case atStart => exact ⟨rfl, rfl, rfl⟩
      case round =>
        obtain ⟨rfl, rfl, rfl⟩ := hrel
        go_wp2_with fail
        go_ret
        exact ⟨_, rfl, World.ownsRow_nil _ _ _ _, Below.refl _ _⟩
  | succ N ihN =>
    intro l v w hN hN2 hbl hll hs
    obtain ⟨oa, ca, rfl, -⟩ := hs.form
    obtain ⟨i0, hi0⟩ := Option.map_eq_some_iff.1 infoSym
    simp only [Prod.mk.injEq] at hi0
    have HI := Lib.hid hi0.1
    have HZ := Lib.hid hi0.2.1
    have HS1 := Lib.hid hi0.2.2.1
    have HB1 := Lib.hid hi0.2.2.2
    have HS := Lib.hid hs
    have HBL := Lib.hid hbl
    have IH := Lib.hid ihN
    clear hi0 hs hbl ihN
    go_enter Tryz.func44, Tryz.ntmps44
    go_wp2_with fail
    go_loopw [3, 8] (fun m i wr => ∃ (k : Nat) (v2 : Value) (M : List Sy), k ≤ l.length ∧ m = v2 ∧ i = .int .i64 k ∧ Hid (M = Tm.ofs (l.take k)) ∧ Hid (OfSt w wr M v2)) (fun _ i _ => l.length - (intOf i).toNat)
    case atStart => exact ⟨0, _, [], by omega, rfl, rfl, Lib.hid rfl, Lib.hid ⟨World.ownsRow_nil _ _ _ _, Below.refl _ _⟩⟩
    case round =>
      obtain ⟨k, v2, M, hk, rfl, rfl, HM, HST⟩ := hrel
      by_cases hltk : k < l.length
      · obtain ⟨b, o, t, st, rfl, hbb, hu, hum, hus, c1, c2, c3⟩ := (HS.out.carry HST.out.low (Nat.le_refl _)).get (k := k) hltk
        obtain ⟨ou, cu, rfl, -⟩ := hus.form
        obtain ⟨ov, cv, rfl⟩ := ownsRow_shape HST.out.row
        have hub := HBL.out t hum
        have hsz2 : Tm.sizes (l.take (k + 1)) = Tm.sizes (l.take k) + t.size := by rw [Tm.take_snoc hu, Tm.sizes_append]; simp [Tm.sizes]
        have hle : Tm.sizes (l.take (k + 1)) ≤ Tm.sizes l := Tm.sizes_take _ _
        have hte := Tm.size_eq t
        have hln := Tm.ofs_len (l.take k)
        rw [← HM.out] at hln
        obtain ⟨R, hR⟩ : ∃ R, R = Tm.ofs t.ts := ⟨_, rfl⟩
        have htn := Tm.ofs_len t.ts
        rw [← hR] at htn
        have htl : t.ts.length ≤ 1048576 := by have := Tm.length_sizes t.ts; have := Tm.size_bulk t; omega
        have HX := Lib.hid (HST.out.below ((Below.refl wr.heap.size wr).alloc (Nat.le_refl _) (.cells #[.string t.nm, .bool t.vr, .slice ou t.ts.length cu] 25)))
        have HBOX := Lib.hid (heap_new_at wr (.cells #[.string t.nm, .bool t.vr, .slice ou t.ts.length cu] 25) _ rfl)
        have HC := Lib.hid (IH.out t.ts (.slice ou t.ts.length cu) (wr.alloc (.cells #[.string t.nm, .bool t.vr, .slice ou t.ts.length cu] 25)) (by omega) (by omega) (fun x hx => by have := Tm.bulk_mem hx; have := Tm.bulk_eq t; omega) (by omega) (hus.carry (((Below.refl wr.heap.size wr).alloc (Nat.le_refl _) _).mono HST.out.low.size) HX.out.low.size))
        rw [← hR] at HC
        have HR := Lib.hid hR
        have HU := Lib.hid hu
        have hVlt : ∀ j, (Value.slice ov M.length cv).ownBlock = some j → w.heap.size ≤ j ∧ j < wr.heap.size := fun j hj => HST.out.row.lt j hj
        have HVLT := Lib.hid hVlt
        clear hu hum hus hVlt hR
        cases hv : t.vr with
        | true =>
          rw [hv] at HX HBOX HC
          go_wp2_with fail
          refine HC.out.mono ?_
          rintro e w4 ⟨v4, rfl, hof⟩
          obtain ⟨o4, c4, rfl⟩ := ownsRow_shape hof.row
          have HX4 := Lib.hid (HX.out.below (hof.low.mono (Nat.le_refl _)))
          have HBX4 := Lib.hid ((hof.low.block _ (by simp)).trans HBOX.out)
          have HNIL : Hid (o4 = none → R.length = 0 ∧ c4 = 0) := Lib.hid fun e => by
            rcases hof.row.2 with ⟨h1, h2⟩ | ⟨g, cap, cur, h1, -⟩
            · injection h1 with _ _ h3; exact ⟨h2, h3⟩
            · injection h1 with h1; rw [e] at h1; cases h1
          have HCL : Hid (∀ ad, o4 = some ad → ∀ j u, (syCells R)[j]? = some u → w4.cell? (ad.add j) = some u) := Lib.hid fun ad e j u hj => by
            rcases hof.row.2 with ⟨h1, -⟩ | ⟨g, cap, cur, h1, -⟩
            · injection h1 with h1; rw [e] at h1; cases h1
            · injection h1 with h1
              rw [e] at h1; cases h1
              exact hof.row.cells (g := g) (by rw [e]; rfl) j u hj
          clear hof HC
          have z4 : w.heap.size ≤ w4.heap.size := HX4.out.low.size
          have HSN : Hid (M ++ R = Tm.ofs (l.take (k + 1))) := Lib.hid (by rw [HM.out, HR.out, Tm.take_snoc HU.out, Tm.ofs_append]; simp [Tm.ofs, Tm.of_var hv])
          clear hv
          go_wp2_with ((first
            | (at_builtin
               refine wpList_append_opt rfl _ _ 71 rfl w.heap.size 141 i0 (.agg #[.string ⟨#[]⟩, .int .i64 0]) 2 24 Tryz.underlying71 HI.out HZ.out HS1.out HB1.out rfl (by decide) (.slice ov M.length cv) M.length (syCells M) rfl HX4.out.row o4 R.length c4 (syCells R) rfl (syCells_length _) HNIL.out HCL.out (syCells_one _) (by unfold maxLen; omega) (by omega) z4 ?_
               intro v5 w5 ho5 hg5 _
               obtain ⟨va, vc, rfl⟩ := ownsRow_shape ho5
               have hst5 := HX4.out.grow hg5 (by rw [List.length_append, syCells_append]; exact ho5)
               have hbx5 := (hg5.block _ (by have := HBX4.out; exact (Array.getElem?_eq_some_iff.1 this).1) (fun e => by have := HVLT.out _ e.symm; omega)).trans HBX4.out
               obtain ⟨⟨x0, x1, x2⟩, -⟩ := box3 hbx5
               have HST5 := Lib.hid hst5
               have z5 : w.heap.size ≤ w5.heap.size := HST5.out.low.size
               clear ho5 hg5 hst5 hbx5)))
          exact ⟨⟨k + 1, _, _, by omega, rfl, by go_num, HSN, HST5⟩, by simp [intOf]; omega⟩
        | false =>
          rw [hv] at HX HBOX HC
          go_wp2_with fail
          refine HC.out.mono ?_
          rintro e w4 ⟨v4, rfl, hof⟩
          obtain ⟨o4, c4, rfl⟩ := ownsRow_shape hof.row
          have HX4 := Lib.hid (HX.out.below (hof.low.mono (Nat.le_refl _)))
          have HBX4 := Lib.hid ((hof.low.block _ (by simp)).trans HBOX.out)
          have HNIL : Hid (o4 = none → R.length = 0 ∧ c4 = 0) := Lib.hid fun e => by
            rcases hof.row.2 with ⟨h1, h2⟩ | ⟨g, cap, cur, h1, -⟩
            · injection h1 with _ _ h3; exact ⟨h2, h3⟩
            · injection h1 with h1; rw [e] at h1; cases h1
          have HCL : Hid (∀ ad, o4 = some ad → ∀ j u, (syCells R)[j]? = some u → w4.cell? (ad.add j) = some u) := Lib.hid fun ad e j u hj => by
            rcases hof.row.2 with ⟨h1, -⟩ | ⟨g, cap, cur, h1, -⟩
            · injection h1 with h1; rw [e] at h1; cases h1
            · injection h1 with h1
              rw [e] at h1; cases h1
              exact hof.row.cells (g := g) (by rw [e]; rfl) j u hj
          clear hof HC
          have z4 : w.heap.size ≤ w4.heap.size := HX4.out.low.size
          have HSN : Hid ((M ++ R) ++ [(t.nm.data.toList, (t.ts.length : Int))] = Tm.ofs (l.take (k + 1))) := Lib.hid (by rw [HM.out, HR.out, Tm.take_snoc HU.out, Tm.ofs_append]; simp [Tm.ofs, Tm.of_fun hv])
          clear hv
          go_wp2_with ((first
            | (at_builtin
               refine wpList_append_own_at _ rfl _ _ 71 rfl w.heap.size 141 i0 (.agg #[.string ⟨#[]⟩, .int .i64 0]) 2 24 Tryz.underlying71 HI.out HZ.out HS1.out HB1.out rfl (by decide) (.slice va (M.length + R.length) vc) (M.length + R.length) (syCells (M ++ R)) rfl ((by have h := HST5.out.row; rw [List.length_append] at h; exact h.alloc _)) ⟨w5.heap.size, 0, none⟩ 1 1 [.string t.nm, .int .i64 t.ts.length] rfl rfl (cells_new2 _ _ _ _) (by simp [Value.oneCell']) (by unfold maxLen; omega) (by omega) (by simp; omega) ?_
               intro v6 w6 ho6 hg6 _ _
               obtain ⟨vb, vd, rfl⟩ := ownsRow_shape ho6
               have HST6 : Hid (OfSt w w6 ((M ++ R) ++ [(t.nm.data.toList, (t.ts.length : Int))]) (.slice vb (M.length + R.length + 1) vd)) := Lib.hid ((HST5.out.below ((Below.refl _ _).alloc (Nat.le_refl _) (.cells #[.string t.nm, .int .i64 t.ts.length] 141))).grow hg6 (by rw [List.length_append, List.length_append, syCells_append, sy_one]; exact ho6))
               clear ho6 hg6)
            | (at_builtin
               refine wpList_append_opt rfl _ _ 71 rfl w.heap.size 141 i0 (.agg #[.string ⟨#[]⟩, .int .i64 0]) 2 24 Tryz.underlying71 HI.out HZ.out HS1.out HB1.out rfl (by decide) (.slice ov M.length cv) M.length (syCells M) rfl HX4.out.row o4 R.length c4 (syCells R) rfl (syCells_length _) HNIL.out HCL.out (syCells_one _) (by unfold maxLen; omega) (by omega) z4 ?_
               intro v5 w5 ho5 hg5 _
               obtain ⟨va, vc, rfl⟩ := ownsRow_shape ho5
               have hst5 := HX4.out.grow hg5 (by rw [List.length_append, syCells_append]; exact ho5)
               have hbx5 := (hg5.block _ (by have := HBX4.out; exact (Array.getElem?_eq_some_iff.1 this).1) (fun e => by have := HVLT.out _ e.symm; omega)).trans HBX4.out
               obtain ⟨⟨x0, x1, x2⟩, -⟩ := box3 hbx5
               have HST5 := Lib.hid hst5
               have z5 : w.heap.size ≤ w5.heap.size := HST5.out.low.size
               clear ho5 hg5 hst5 hbx5)))
          exact ⟨⟨k + 1, _, _, by omega, rfl, by go_num, HSN, HST6⟩, by simp [intOf]; omega⟩
      · obtain rfl : k = l.length := by omega
        have hst := HST.out
        have e0 := HM.out
        rw [List.take_length] at e0
        rw [e0] at hst
        clear e0
        have HST5 := Lib.hid hst
        clear hst HST
        go_wp2_with fail
        go_ret
        exact ⟨_, rfl, HST5.out⟩
end Go.Proofs.YtnomppdmhgefiaaGreat
