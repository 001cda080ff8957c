/- Package weight: Greater; the law's greater. -/
import Derived.Test.YtnhldpfbmccpfaaWae
import Derived.Test.YtnhldpfbmccpfaaWck
import Derived.Test.YtnhldpfbmccpfaaDfk
import Derived.Test.YtnhldpfbmccpfaaWso
import Derived.Deep.RegionHeld3
namespace Go.Proofs.Ytnhldpfbmccpfaa
open Go.RowKit Go.Shelf Go.Maps

/-- the call says that s is greater than t -/
def WG (L : List Rk) (u : Int) (s t : Tm) : Prop := (WtOk L u ∧ s.ok ∧ t.ok ∧ AdmL L u (s.sy ++ t.sy)) ∧ Kbo (wtB L) (rkB L) u s t
open Classical in
noncomputable def wgB (L : List Rk) (u : Int) (s t : Tm) : Bool := decide (WG L u s t)
open Classical in
theorem wgB_yes {L : List Rk} {u : Int} {s t : Tm} : wgB L u s t = true ↔ WG L u s t := by unfold wgB; exact decide_eq_true_iff
open Classical in
theorem wgB_no {L : List Rk} {u : Int} {s t : Tm} : wgB L u s t = false ↔ ¬ WG L u s t := by unfold wgB; exact decide_eq_false_iff_not
/-- how Greater ends -/
def WgPost (L : List Rk) (u : Int) (s t : Tm) (e : Ending) : Prop := ∃ c : Int, e = .returned (.tuple #[.bool (wgB L u s t), .int .i64 c]) ∧ (c = 0 ↔ WtOk L u ∧ s.ok ∧ t.ok ∧ AdmL L u (s.sy ++ t.sy))
theorem WG.rel {L : List Rk} {u : Int} {s t : Tm} (h : WtOk L u ∧ s.ok ∧ t.ok ∧ AdmL L u (s.sy ++ t.sy)) : (krel (wtB L) (rkB L) u s t == 2) = wgB L u s t := by
  cases hb : wgB L u s t with
  | true => have := (wgB_yes.1 hb).2; rw [beq_iff_eq]; exact krel_two.2 this
  | false => rw [beq_eq_false_iff_ne]; exact fun e => wgB_no.1 hb ⟨h, krel_two.1 e⟩
theorem Tm.sy_ks {t : Tm} (hb : t.bulk ≤ 1048576) : SyKs t.sy := by
  induction t using Tm.ind with
  | h t ih =>
    intro x hx
    have h1 := Tm.bulk_eq t
    cases hv : t.vr with
    | true => rw [Tm.sy_var hv] at hx; cases hx
    | false =>
      rw [Tm.sy_fun hv] at hx
      rcases List.mem_cons.1 hx with rfl | hx
      · have h2 := Tm.length_sizes t.ts
        have h3 := Tm.size_bulk t
        have h4 := Tm.size_eq t
        exact ⟨by rw [bytes_len]; omega, by simp, by simp only; omega⟩
      · obtain ⟨u, hu, hx⟩ := Tm.sys_mem.1 hx
        exact ih u hu (by have := Tm.bulk_mem hu; omega) x hx
theorem SyKs.append {S T : List Sy} (h : SyKs S) (k : SyKs T) : SyKs (S ++ T) := fun x hx => by
  rcases List.mem_append.1 hx with hx | hx
  · exact h x hx
  · exact k x hx
/-- what lies within Greater -/
structure WgSt (w W : World) (lv sv tv : Value) (u : Int) (s t : Tm) (ob : Nat) : Prop where
  x : W.heap[w.heap.size]? = some (.cells #[.string s.nm, .bool s.vr, sv] 26 (0, 0))
  y : W.heap[w.heap.size + 1]? = some (.cells #[.string t.nm, .bool t.vr, tv] 26 (0, 0))
  o : W.heap[ob]? = some (.cells #[lv, .int .i64 u] 111 (0, 0))
  low : Below w.heap.size w W
theorem WgSt.carry {w A W : World} {lv sv tv : Value} {u : Int} {s t : Tm} {ob n : Nat} (h : WgSt w A lv sv tv u s t ob) (hb : Below n A W) (hn : ob < n) (hw : w.heap.size + 1 < n) : WgSt w W lv sv tv u s t ob :=
  ⟨(hb.block _ (by omega)).trans h.x, (hb.block _ hw).trans h.y, (hb.block _ hn).trans h.o, h.low.trans (hb.mono (by omega))⟩
theorem WgSt.eight {w W : World} {lv sv tv : Value} {u : Int} {s t : Tm} {ob : Nat} (h : WgSt w W lv sv tv u s t ob) : W.cell? ⟨ob, 0, none⟩ = some lv ∧ W.cell? ⟨ob, 1, none⟩ = some (.int .i64 u) ∧ W.cell? ⟨w.heap.size, 0, none⟩ = some (.string s.nm) ∧ W.cell? ⟨w.heap.size, 1, none⟩ = some (.bool s.vr) ∧ W.cell? ⟨w.heap.size, 2, none⟩ = some sv ∧ W.cell? ⟨w.heap.size + 1, 0, none⟩ = some (.string t.nm) ∧ W.cell? ⟨w.heap.size + 1, 1, none⟩ = some (.bool t.vr) ∧ W.cell? ⟨w.heap.size + 1, 2, none⟩ = some tv :=
  ⟨(box2w h.o).1.1, (box2w h.o).1.2, (box3 h.x).1.1, (box3 h.x).1.2.1, (box3 h.x).1.2.2, (box3 h.y).1.1, (box3 h.y).1.2.1, (box3 h.y).1.2.2⟩
set_option maxRecDepth 100000 in
set_option maxHeartbeats 4000000 in
theorem wgreater_any (L : List Rk) (u : Int) (lv : Value) (s t : Tm) (sv tv : Value) (w : World) (hL : RksIs w.heap.size w L lv) (hLb : rkBulk L ≤ 1048576) (hs : SlIs w.heap.size w s.ts sv) (ht : SlIs w.heap.size w t.ts tv) (hbs : s.bulk ≤ 1048576) (hbt : t.bulk ≤ 1048576) :
    Calls Try.prog 26 #[lv, .int .i64 u, tmv s sv, tmv t tv] w fun e w' => WgPost L u s t e ∧ Below w.heap.size w w' := by
  obtain ⟨os, cs, rfl, -⟩ := hs.form
  obtain ⟨ot, ct, rfl, -⟩ := ht.form
  have hL' := hL
  obtain ⟨ol, cl, rfl, -, -⟩ := hL'
  have hlen := Nat.le_trans (rkBulk_len L) hLb
  have hA : Below w.heap.size w (w.alloc (.cells #[.string s.nm, .bool s.vr, .slice os s.ts.length cs] 26)) := by go_grown
  have hB := (Below.refl _ (w.alloc (.cells #[.string s.nm, .bool s.vr, .slice os s.ts.length cs] 26))).alloc (Nat.le_refl _) (.cells #[.string t.nm, .bool t.vr, .slice ot t.ts.length ct] 26)
  have HW0 : Hid (Below w.heap.size w ((w.alloc (.cells #[.string s.nm, .bool s.vr, .slice os s.ts.length cs] 26)).alloc (.cells #[.string t.nm, .bool t.vr, .slice ot t.ts.length ct] 26))) := Lib.hid (hA.trans (hB.mono hA.size))
  have HX0 : Hid (((w.alloc (.cells #[.string s.nm, .bool s.vr, .slice os s.ts.length cs] 26)).alloc (.cells #[.string t.nm, .bool t.vr, .slice ot t.ts.length ct] 26)).heap[w.heap.size]? = some (.cells #[.string s.nm, .bool s.vr, .slice os s.ts.length cs] 26 (0, 0))) := Lib.hid ((Below.heap_alloc _ _ _ (by simp)).trans (heap_new_at _ _ _ rfl))
  have HY0 : Hid (((w.alloc (.cells #[.string s.nm, .bool s.vr, .slice os s.ts.length cs] 26)).alloc (.cells #[.string t.nm, .bool t.vr, .slice ot t.ts.length ct] 26)).heap[w.heap.size + 1]? = some (.cells #[.string t.nm, .bool t.vr, .slice ot t.ts.length ct] 26 (0, 0))) := Lib.hid (heap_new_at _ _ _ (by simp))
  have HL := Lib.hid hL
  have HS := Lib.hid hs
  have HT := Lib.hid ht
  have HLB := Lib.hid hLb
  clear hL hs ht hA hB hLb
  go_enter Try.func26, Try.ntmps26
  rw [show tmv s (.slice os s.ts.length cs) = .agg #[.string s.nm, .bool s.vr, .slice os s.ts.length cs] from rfl, show tmv t (.slice ot t.ts.length ct) = .agg #[.string t.nm, .bool t.vr, .slice ot t.ts.length ct] from rfl]
  go_wp2_with fail
  generalize ((w.alloc (.cells #[.string s.nm, .bool s.vr, .slice os s.ts.length cs] 26)).alloc (.cells #[.string t.nm, .bool t.vr, .slice ot t.ts.length ct] 26)) = W0 at HW0 HX0 HY0 ⊢
  refine (wCheck_any L u _ W0 (HL.out.carry HW0.out HW0.out.size) HLB.out).mono ?_
  rintro e w1 ⟨⟨c, rfl, hc⟩, hb⟩
  have HW1 := Lib.hid (HW0.out.trans (hb.mono HW0.out.size))
  have HX1 := Lib.hid ((hb.block _ (Array.getElem?_eq_some_iff.1 HX0.out).1).trans HX0.out)
  have HY1 := Lib.hid ((hb.block _ (Array.getElem?_eq_some_iff.1 HY0.out).1).trans HY0.out)
  have HC0 := Lib.hid hc
  clear hb hc
  by_cases hc : c = 0
  case neg =>
    have hd : (c != 0) = true := by rw [bne_iff_ne]; exact hc
    have HNP : Hid (¬ WtOk L u) := Lib.hid fun h => hc (HC0.out.2 h)
    have HG : Hid (wgB L u s t = false) := Lib.hid (wgB_no.2 fun h => HNP.out h.1.1)
    have HC := Lib.hid hc
    clear hc
    go_wp2_with fail
    go_ret2
    exact ⟨⟨_, by rw [HG.out]; rfl, fun h => absurd h HC.out, fun h => absurd h.1 HNP.out⟩, HW1.out⟩
  subst hc
  have HP := Lib.hid (HC0.out.1 rfl)
  clear HC0
  obtain ⟨⟨x0, x1, x2⟩, -⟩ := box3 HX1.out
  go_wp2_with fail
  refine (check_any s _ w1 (HS.out.carry HW1.out HW1.out.size) hbs).mono ?_
  rintro e w2 ⟨⟨c, rfl, hc⟩, hb⟩
  have HW2 := Lib.hid (HW1.out.trans (hb.mono HW1.out.size))
  have HX2 := Lib.hid ((hb.block _ (Array.getElem?_eq_some_iff.1 HX1.out).1).trans HX1.out)
  have HY2 := Lib.hid ((hb.block _ (Array.getElem?_eq_some_iff.1 HY1.out).1).trans HY1.out)
  have HC := Lib.hid hc
  clear hb hc x0 x1 x2
  by_cases hc0 : c = 0
  case neg =>
    have hd : (c != 0) = true := by rw [bne_iff_ne]; exact hc0
    have HNP : Hid (¬ s.ok) := Lib.hid fun h => hc0 (HC.out.2 h)
    have HG : Hid (wgB L u s t = false) := Lib.hid (wgB_no.2 fun h => HNP.out h.1.2.1)
    have HC0 := Lib.hid hc0
    clear hc0
    go_wp2_with fail
    go_ret2
    exact ⟨⟨_, by rw [HG.out]; rfl, fun h => absurd h HC0.out, fun h => absurd h.2.1 HNP.out⟩, HW2.out⟩
  subst hc0
  have HSO := Lib.hid (HC.out.1 rfl)
  obtain ⟨⟨y0, y1, y2⟩, -⟩ := box3 HY2.out
  go_wp2_with fail
  refine (check_any t _ w2 (HT.out.carry HW2.out HW2.out.size) hbt).mono ?_
  rintro e w3 ⟨⟨c, rfl, hc⟩, hb⟩
  have HW3 := Lib.hid (HW2.out.trans (hb.mono HW2.out.size))
  have HX3 := Lib.hid ((hb.block _ (Array.getElem?_eq_some_iff.1 HX2.out).1).trans HX2.out)
  have HY3 := Lib.hid ((hb.block _ (Array.getElem?_eq_some_iff.1 HY2.out).1).trans HY2.out)
  have HC2 := Lib.hid hc
  clear hb hc y0 y1 y2
  by_cases hc0 : c = 0
  case neg =>
    have hd : (c != 0) = true := by rw [bne_iff_ne]; exact hc0
    have HNP : Hid (¬ t.ok) := Lib.hid fun h => hc0 (HC2.out.2 h)
    have HG : Hid (wgB L u s t = false) := Lib.hid (wgB_no.2 fun h => HNP.out h.1.2.2.1)
    have HC0 := Lib.hid hc0
    clear hc0
    go_wp2_with fail
    go_ret2
    exact ⟨⟨_, by rw [HG.out]; rfl, fun h => absurd h HC0.out, fun h => absurd h.2.2.1 HNP.out⟩, HW3.out⟩
  subst hc0
  have HTO := Lib.hid (HC2.out.1 rfl)
  go_wp2_with fail
  have hal : Below w3.heap.size w3 (w3.alloc (.cells #[.slice ol L.length cl, .int .i64 u] 111)) := by go_grown
  have H4 : Hid (WgSt w (w3.alloc (.cells #[.slice ol L.length cl, .int .i64 u] 111)).drew (.slice ol L.length cl) (.slice os s.ts.length cs) (.slice ot t.ts.length ct) u s t w3.heap.size) :=
    Lib.hid ⟨(hal.block _ (Array.getElem?_eq_some_iff.1 HX3.out).1).trans HX3.out, (hal.block _ (Array.getElem?_eq_some_iff.1 HY3.out).1).trans HY3.out, heap_new_at _ _ _ rfl, HW3.out.trans ((hal.mono HW3.out.size).drew)⟩
  have hY3 := (Array.getElem?_eq_some_iff.1 HY3.out).1
  clear hal HX3 HY3
  generalize hob : w3.heap.size = ob at H4 hY3 ⊢
  have hz4 : ob < (w3.alloc (.cells #[.slice ol L.length cl, .int .i64 u] 111)).heap.size := by simp; omega
  clear hob
  generalize (w3.alloc (.cells #[.slice ol L.length cl, .int .i64 u] 111)) = W4 at H4 hz4 ⊢
  refine wp_region_noPanic ?_
  refine wp_region_held_drew (S := fun w' => w'.cell? ⟨ob, 0, none⟩ = some (.slice ol L.length cl) ∧ w'.cell? ⟨ob, 1, none⟩ = some (.int .i64 u) ∧ w'.cell? ⟨w.heap.size, 0, none⟩ = some (.string s.nm) ∧ w'.cell? ⟨w.heap.size, 1, none⟩ = some (.bool s.vr) ∧ w'.cell? ⟨w.heap.size, 2, none⟩ = some (.slice os s.ts.length cs) ∧ w'.cell? ⟨w.heap.size + 1, 0, none⟩ = some (.string t.nm) ∧ w'.cell? ⟨w.heap.size + 1, 1, none⟩ = some (.bool t.vr) ∧ w'.cell? ⟨w.heap.size + 1, 2, none⟩ = some (.slice ot t.ts.length ct)) (by kernel_rfl) H4.out.eight (fun _ => ?_)
  simp only [List.size_toArray, List.length_cons, List.length_nil, Nat.reduceAdd]
  refine wpAnyH_take (i := 0) (v := ?_) (by simp only [List.getElem?_toArray, List.getElem?_cons_zero]; rfl) (by kernel_rfl) (by kernel_rfl) (by kernel_rfl) (fun _ _ _ h => h) (Or.inl ⟨by rfl, ?_⟩) H4.out.eight ?_
  case refine_2 => (intro ww hSw; obtain ⟨s1, s2, s3, s4, s5, s6, s7, s8⟩ := hSw; go_simp; try with_reducible rfl)
  try simp only [Act.put, List.setIfInBounds_toArray, List.set_cons_zero, List.set_cons_succ]
  refine wpAnyH_take (i := 1) (v := ?_) (by simp only [List.getElem?_toArray, List.getElem?_cons_zero, List.getElem?_cons_succ]; rfl) (by kernel_rfl) (by kernel_rfl) (by kernel_rfl) (fun _ _ _ h => h) (Or.inl ⟨by rfl, ?_⟩) H4.out.eight ?_
  case refine_2 => (intro ww hSw; obtain ⟨s1, s2, s3, s4, s5, s6, s7, s8⟩ := hSw; go_simp; try with_reducible rfl)
  try simp only [Act.put, List.setIfInBounds_toArray, List.set_cons_zero, List.set_cons_succ]
  refine wpAnyH_take (i := 3) (v := ?_) (by simp only [List.getElem?_toArray, List.getElem?_cons_zero, List.getElem?_cons_succ]; rfl) (by kernel_rfl) (by kernel_rfl) (by kernel_rfl) (fun _ _ _ h => h) (Or.inl ⟨by rfl, ?_⟩) H4.out.eight ?_
  case refine_2 => (intro ww hSw; obtain ⟨s1, s2, s3, s4, s5, s6, s7, s8⟩ := hSw; go_simp; try with_reducible rfl)
  try simp only [Act.put, List.setIfInBounds_toArray, List.set_cons_zero, List.set_cons_succ]
  refine wpAnyH_ready (rs := [2]) (by kernel_rfl) (by simp) ?_
  refine AllReadyH.cons (by simp only [List.getElem?_toArray, List.getElem?_cons_zero, List.getElem?_cons_succ]; rfl) (fun K' hK => ?_) AllReadyH.nil
  go_simp
  refine (aps_any W4.heap.size s (.slice os s.ts.length cs) (.slice none 0 0) [] W4.drew (Nat.le_refl _) (HS.out.carry H4.out.low H4.out.low.size) hbs (World.ownsRow_nil _ _ _ _) (by have := Tm.size_bulk s; simp; omega)).mono ?_
  rintro e w5 ⟨v5, rfl, ho5, hg5, -⟩
  have hb5 : Below W4.heap.size W4.drew w5 := ⟨hg5.os, hg5.tape, hg5.output, hg5.size, fun k hk => hg5.block k hk (by simp [Value.ownBlock])⟩
  rw [List.nil_append] at ho5
  obtain ⟨o5, c5, rfl⟩ := ownsRow_shape ho5
  have H5 := Lib.hid (H4.out.carry (n := W4.heap.size) hb5 hz4 (by omega))
  have HO5 := Lib.hid ho5
  have HB5 := Lib.hid hb5
  have z5 : W4.heap.size ≤ w5.heap.size := hb5.size
  clear ho5 hg5 hb5
  refine hK.out _ _ H5.out.eight (fun _ => ?_)
  clear hK
  try simp only [Act.put, List.setIfInBounds_toArray, List.set_cons_zero, List.set_cons_succ]
  refine wpAnyH_ready (rs := [4]) (by kernel_rfl) (by simp) ?_
  refine AllReadyH.cons (by simp only [List.getElem?_toArray, List.getElem?_cons_zero, List.getElem?_cons_succ]; rfl) (fun K' hK => ?_) AllReadyH.nil
  go_simp
  refine (aps_any W4.heap.size t (.slice ot t.ts.length ct) (.slice o5 s.sy.length c5) s.sy w5 HB5.out.size (HT.out.carry H5.out.low H4.out.low.size) hbt HO5.out (by have := Tm.size_bulk s; have := Tm.size_bulk t; have := Tm.sy_len s; omega)).mono ?_
  rintro e w6 ⟨v6, rfl, ho6, hg6, -⟩
  have hb6 : Below W4.heap.size w5 w6 := ⟨hg6.os, hg6.tape, hg6.output, hg6.size, fun k hk => hg6.block k (by omega) (fun e => by have := HO5.out.lt _ e.symm; omega)⟩
  obtain ⟨M, hM⟩ : ∃ M, M = s.sy ++ t.sy := ⟨_, rfl⟩
  rw [← hM] at ho6
  have HM := Lib.hid hM
  clear hM
  obtain ⟨o6, c6, rfl⟩ := ownsRow_shape ho6
  have H6 := Lib.hid (H5.out.carry (n := W4.heap.size) hb6 hz4 (by omega))
  have HSY := Lib.hid (SyIs.ofRow ho6)
  have z6 : W4.heap.size ≤ w6.heap.size := Nat.le_trans z5 hb6.size
  clear ho6 hg6 hb6
  refine hK.out _ _ H6.out.eight (fun _ => ?_)
  clear hK
  try simp only [Act.put, List.setIfInBounds_toArray, List.set_cons_zero, List.set_cons_succ]
  refine wpAnyH_ready (rs := [5]) (by kernel_rfl) (by simp) ?_
  refine AllReadyH.cons (by simp only [List.getElem?_toArray, List.getElem?_cons_zero, List.getElem?_cons_succ]; rfl) (fun K' hK => ?_) AllReadyH.nil
  go_simp
  refine (isAdm_any HP M (Lib.hid (by rw [HM.out]; exact (Tm.sy_ks hbs).append (Tm.sy_ks hbt))) (by rw [HM.out]; have := Tm.size_bulk s; have := Tm.size_bulk t; have := Tm.sy_len s; have := Tm.sy_len t; rw [List.length_append]; omega) (.slice ol L.length cl) _ w6 (HL.out.carry H6.out.low H6.out.low.size) HSY.out).mono ?_
  rintro e w7 ⟨rfl, hb7⟩
  have H7 := Lib.hid (H6.out.carry hb7 (by omega) (by omega))
  clear hb7
  refine hK.out _ _ H7.out.eight (fun _ => ?_)
  clear hK
  try simp only [Act.put, List.setIfInBounds_toArray, List.set_cons_zero, List.set_cons_succ]
  refine wpAnyH_take (i := 6) (v := ?_) (by simp only [List.getElem?_toArray, List.getElem?_cons_zero, List.getElem?_cons_succ]; rfl) (by kernel_rfl) (by kernel_rfl) (by kernel_rfl) (fun _ _ _ h => h) (Or.inl ⟨by rfl, ?_⟩) H7.out.eight ?_
  case refine_2 => (intro ww hSw; obtain ⟨s1, s2, s3, s4, s5, s6, s7, s8⟩ := hSw; go_simp; try with_reducible rfl)
  try simp only [Act.put, List.setIfInBounds_toArray, List.set_cons_zero, List.set_cons_succ]
  refine wpAnyH_done (by kernel_rfl) ?_ _
  refine NoPanic.normal ?_
  cases ha : admB L u M with
  | false =>
    have HNP : Hid (¬ AdmL L u (s.sy ++ t.sy)) := Lib.hid (by rw [← HM.out]; exact admB_no.1 ha)
    have HG : Hid (wgB L u s t = false) := Lib.hid (wgB_no.2 fun h => HNP.out h.1.2.2.2)
    clear ha
    go_wp2_with fail
    go_ret2
    exact ⟨⟨_, by rw [HG.out]; rfl, fun h => by omega, fun h => absurd h.2.2.2 HNP.out⟩, H7.out.low⟩
  | true =>
    have HAD : Hid (AdmL L u (s.sy ++ t.sy)) := Lib.hid (by rw [← HM.out]; exact admB_yes.1 ha)
    clear ha
    obtain ⟨z0, z1, x0, x1, x2, y0, y1, y2⟩ := H7.out.eight
    go_wp2_with fail
    refine (wisGreater_any HP (.slice ol L.length cl) s t _ _ w7 (HL.out.carry H7.out.low H7.out.low.size) (HS.out.carry H7.out.low H7.out.low.size) (HT.out.carry H7.out.low H7.out.low.size) HSO.out.1.bare HTO.out.1.bare hbs hbt).mono ?_
    rintro e w8 ⟨rfl, hb⟩
    have HW8 := Lib.hid (H7.out.low.trans (hb.mono H7.out.low.size))
    have HR := Lib.hid (WG.rel ⟨HP.out, HSO.out, HTO.out, HAD.out⟩)
    clear hb
    go_wp2_with fail
    go_ret2
    exact ⟨⟨0, by rw [HR.out]; rfl, fun _ => ⟨HP.out, HSO.out, HTO.out, HAD.out⟩, fun _ => rfl⟩, HW8.out⟩
set_option maxRecDepth 100000 in
set_option maxHeartbeats 4000000 in
theorem l7greater_any (L : List Rk) (u : Int) (lv : Value) (s t : Tm) (sv tv : Value) (w : World) (hL : RksIs w.heap.size w L lv) (hLb : rkBulk L ≤ 1048576) (hs : SlIs w.heap.size w s.ts sv) (ht : SlIs w.heap.size w t.ts tv) (hbs : s.bulk ≤ 1048576) (hbt : t.bulk ≤ 1048576) :
    Calls Try.prog 10 #[.agg #[lv, .int .i64 u], tmv s sv, tmv t tv] w fun e w' => e = .returned (.bool (wgB L u s t)) ∧ Below w.heap.size w w' := by
  obtain ⟨os, cs, rfl, -⟩ := hs.form
  obtain ⟨ot, ct, rfl, -⟩ := ht.form
  have hL' := hL
  obtain ⟨ol, cl, rfl, -, -⟩ := hL'
  have HG : Hid (∀ W, Below w.heap.size w W → Calls Try.prog 26 #[.slice ol L.length cl, .int .i64 u, .agg #[.string s.nm, .bool s.vr, .slice os s.ts.length cs], .agg #[.string t.nm, .bool t.vr, .slice ot t.ts.length ct]] W fun e w' => WgPost L u s t e ∧ Below W.heap.size W w') := Lib.hid fun W hW => wgreater_any L u _ s t _ _ W (hL.carry hW hW.size) hLb (hs.carry hW hW.size) (ht.carry hW hW.size) hbs hbt
  clear hL hs ht
  go_enter Try.func10, Try.ntmps10
  rw [show tmv s (.slice os s.ts.length cs) = .agg #[.string s.nm, .bool s.vr, .slice os s.ts.length cs] from rfl, show tmv t (.slice ot t.ts.length ct) = .agg #[.string t.nm, .bool t.vr, .slice ot t.ts.length ct] from rfl]
  go_wp2_with fail
  have HW0 : Hid (Below w.heap.size w (((w.alloc (.cells #[.slice ol L.length cl, .int .i64 u] 40)).alloc (.cells #[.string s.nm, .bool s.vr, .slice os s.ts.length cs] 26)).alloc (.cells #[.string t.nm, .bool t.vr, .slice ot t.ts.length ct] 26))) := Lib.hid (by go_grown)
  refine (HG.out _ HW0.out).mono ?_
  rintro e w1 ⟨⟨c, rfl, hc⟩, hb⟩
  have HB := Lib.hid (HW0.out.trans (hb.mono HW0.out.size))
  have HC := Lib.hid hc
  clear hb hc HG
  by_cases hc0 : c = 0
  · subst hc0
    go_wp2_with fail
    go_ret
    exact ⟨rfl, HB.out⟩
  · have hd : (c == 0) = false := by rw [beq_eq_false_iff_ne]; exact hc0
    have HG : Hid (wgB L u s t = false) := Lib.hid (wgB_no.2 fun h => hc0 (HC.out.2 h.1))
    clear hc0
    go_wp2_with fail
    go_ret
    exact ⟨by rw [HG.out]; rfl, HB.out⟩
end Go.Proofs.Ytnhldpfbmccpfaa
