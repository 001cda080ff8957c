/- Packed: Wgt, Wor. -/
import Derived.Test.YtnomppdmhgefiaaGreatF18
import Derived.Test.YtnomppdmhgefiaaGreatF20
import Derived.Test.YtnomppdmhgefiaaGreatF21
import Derived.Test.YtnomppdmhgefiaaGreatF17
import Derived.Deep.RegionHeld3
import Derived.Test.YtnomppdmhgefiaaGreatF14
import Derived.Test.YtnomppdmhgefiaaGreatF15
import Derived.Test.YtnomppdmhgefiaaGreatF10
/- Package weight: Greater; the law's greater. -/
namespace Go.Proofs.YtnomppdmhgefiaaGreat
open Go.RowKit Go.Shelf Go.Maps

/-- the call says that s is greater than t -/
def WG (L : List Rk) (u : Int) (s t : Tm) : Prop := (WtOk L u ∧ s.ok ∧ t.ok ∧ AdmL L u (s.sy ++ t.sy)) ∧ Kbo (wtB L) (rkB L) u s t
open Classical in
noncomputable def wgB (L : List Rk) (u : Int) (s t : Tm) : Bool := decide (WG L u s t)
open Classical in
theorem wgB_yes {L : List Rk} {u : Int} {s t : Tm} : wgB L u s t = true ↔ WG L u s t := by unfold wgB; exact decide_eq_true_iff
open Classical in
theorem wgB_no {L : List Rk} {u : Int} {s t : Tm} : wgB L u s t = false ↔ ¬ WG L u s t := by unfold wgB; exact decide_eq_false_iff_not
/-- how Greater ends -/
def WgPost (L : List Rk) (u : Int) (s t : Tm) (e : Ending) : Prop := ∃ c : Int, e = .returned (.tuple #[.bool (wgB L u s t), .int .i64 c]) ∧ (c = 0 ↔ WtOk L u ∧ s.ok ∧ t.ok ∧ AdmL L u (s.sy ++ t.sy))
theorem WG.rel {L : List Rk} {u : Int} {s t : Tm} (h : WtOk L u ∧ s.ok ∧ t.ok ∧ AdmL L u (s.sy ++ t.sy)) : (krel (wtB L) (rkB L) u s t == 2) = wgB L u s t := by
  cases hb : wgB L u s t with
  | true => have := (wgB_yes.1 hb).2; rw [beq_iff_eq]; exact krel_two.2 this
  | false => rw [beq_eq_false_iff_ne]; exact fun e => wgB_no.1 hb ⟨h, krel_two.1 e⟩
theorem Tm.sy_ks {t : Tm} (hb : t.bulk ≤ 1048576) : SyKs t.sy := by
  induction t using Tm.ind with
  | h t ih =>
    intro x hx
    have h1 := Tm.bulk_eq t
    cases hv : t.vr with
    | true => rw [Tm.sy_var hv] at hx; cases hx
    | false =>
      rw [Tm.sy_fun hv] at hx
      rcases List.mem_cons.1 hx with rfl | hx
      · have h2 := Tm.length_sizes t.ts
        have h3 := Tm.size_bulk t
        have h4 := Tm.size_eq t
        exact ⟨by rw [bytes_len]; omega, by simp, by simp only; omega⟩
      · obtain ⟨u, hu, hx⟩ := Tm.sys_mem.1 hx
        exact ih u hu (by have := Tm.bulk_mem hu; omega) x hx
theorem SyKs.append {S T : List Sy} (h : SyKs S) (k : SyKs T) : SyKs (S ++ T) := fun x hx => by
  rcases List.mem_append.1 hx with hx | hx
  · exact h x hx
  · exact k x hx
/-- what lies within Greater -/
structure WgSt (w W : World) (lv sv tv : Value) (u : Int) (s t : Tm) (ob : Nat) : Prop where
  x : W.heap[w.heap.size]? = some (.cells #[.string s.nm, .bool s.vr, sv] 25 (0, 0))
  y : W.heap[w.heap.size + 1]? = some (.cells #[.string t.nm, .bool t.vr, tv] 25 (0, 0))
  o : W.heap[ob]? = some (.cells #[lv, .int .i64 u] 132 (0, 0))
  low : Below w.heap.size w W
theorem WgSt.carry {w A W : World} {lv sv tv : Value} {u : Int} {s t : Tm} {ob n : Nat} (h : WgSt w A lv sv tv u s t ob) (hb : Below n A W) (hn : ob < n) (hw : w.heap.size + 1 < n) : WgSt w W lv sv tv u s t ob :=
  ⟨(hb.block _ (by omega)).trans h.x, (hb.block _ hw).trans h.y, (hb.block _ hn).trans h.o, h.low.trans (hb.mono (by omega))⟩
theorem WgSt.eight {w W : World} {lv sv tv : Value} {u : Int} {s t : Tm} {ob : Nat} (h : WgSt w W lv sv tv u s t ob) : W.cell? ⟨ob, 0, none⟩ = some lv ∧ W.cell? ⟨ob, 1, none⟩ = some (.int .i64 u) ∧ W.cell? ⟨w.heap.size, 0, none⟩ = some (.string s.nm) ∧ W.cell? ⟨w.heap.size, 1, none⟩ = some (.bool s.vr) ∧ W.cell? ⟨w.heap.size, 2, none⟩ = some sv ∧ W.cell? ⟨w.heap.size + 1, 0, none⟩ = some (.string t.nm) ∧ W.cell? ⟨w.heap.size + 1, 1, none⟩ = some (.bool t.vr) ∧ W.cell? ⟨w.heap.size + 1, 2, none⟩ = some tv :=
  ⟨(box2w h.o).1.1, (box2w h.o).1.2, (box3 h.x).1.1, (box3 h.x).1.2.1, (box3 h.x).1.2.2, (box3 h.y).1.1, (box3 h.y).1.2.1, (box3 h.y).1.2.2⟩
set_option maxRecDepth 100000 in
set_option maxHeartbeats 4000000 in
theorem wgreater_any (L : List Rk) (u : Int) (lv : Value) (s t : Tm) (sv tv : Value) (w : World) (hL : RksIs w.heap.size w L lv) (hLb : rkBulk L ≤ 1048576) (hs : SlIs w.heap.size w s.ts sv) (ht : SlIs w.heap.size w t.ts tv) (hbs : s.bulk ≤ 1048576) (hbt : t.bulk ≤ 1048576) :
    Calls Tryz.prog 74 #[lv, .int .i64 u, tmv s sv, tmv t tv] w fun e w' => WgPost L u s t e ∧ Below w.heap.size w w' := by
  obtain ⟨os, cs, rfl, -⟩ := hs.form
  obtain ⟨ot, ct, rfl, -⟩ := ht.form
  have hL' := hL
  obtain ⟨ol, cl, rfl, -, -⟩ := hL'
  have hlen := Nat.le_trans (rkBulk_len L) hLb
  have hA : Below w.heap.size w (w.alloc (.cells #[.string s.nm, .bool s.vr, .slice os s.ts.length cs] 25)) := by go_grown
  have hB := (Below.refl _ (w.alloc (.cells #[.string s.nm, .bool s.vr, .slice os s.ts.length cs] 25))).alloc (Nat.le_refl _) (.cells #[.string t.nm, .bool t.vr, .slice ot t.ts.length ct] 25)
  have HW0 : Hid (Below w.heap.size w ((w.alloc (.cells #[.string s.nm, .bool s.vr, .slice os s.ts.length cs] 25)).alloc (.cells #[.string t.nm, .bool t.vr, .slice ot t.ts.length ct] 25))) := Lib.hid (hA.trans (hB.mono hA.size))
  have HX0 : Hid (((w.alloc (.cells #[.string s.nm, .bool s.vr, .slice os s.ts.length cs] 25)).alloc (.cells #[.string t.nm, .bool t.vr, .slice ot t.ts.length ct] 25)).heap[w.heap.size]? = some (.cells #[.string s.nm, .bool s.vr, .slice os s.ts.length cs] 25 (0, 0))) := Lib.hid ((Below.heap_alloc _ _ _ (by simp)).trans (heap_new_at _ _ _ rfl))
  have HY0 : Hid (((w.alloc (.cells #[.string s.nm, .bool s.vr, .slice os s.ts.length cs] 25)).alloc (.cells #[.string t.nm, .bool t.vr, .slice ot t.ts.length ct] 25)).heap[w.heap.size + 1]? = some (.cells #[.string t.nm, .bool t.vr, .slice ot t.ts.length ct] 25 (0, 0))) := Lib.hid (heap_new_at _ _ _ (by simp))
  have HL := Lib.hid hL
  have HS := Lib.hid hs
  have HT := Lib.hid ht
  have HLB := Lib.hid hLb
  clear hL hs ht hA hB hLb
  go_enter Tryz.func74, Tryz.ntmps74
  rw [show tmv s (.slice os s.ts.length cs) = .agg #[.string s.nm, .bool s.vr, .slice os s.ts.length cs] from rfl, show tmv t (.slice ot t.ts.length ct) = .agg #[.string t.nm, .bool t.vr, .slice ot t.ts.length ct] from rfl]
  go_wp2_with fail
  generalize ((w.alloc (.cells #[.string s.nm, .bool s.vr, .slice os s.ts.length cs] 25)).alloc (.cells #[.string t.nm, .bool t.vr, .slice ot t.ts.length ct] 25)) = W0 at HW0 HX0 HY0 ⊢
  refine (wCheck_any L u _ W0 (HL.out.carry HW0.out HW0.out.size) HLB.out).mono ?_
  rintro e w1 ⟨⟨c, rfl, hc⟩, hb⟩
  have HW1 := Lib.hid (HW0.out.trans (hb.mono HW0.out.size))
  have HX1 := Lib.hid ((hb.block _ (Array.getElem?_eq_some_iff.1 HX0.out).1).trans HX0.out)
  have HY1 := Lib.hid ((hb.block _ (Array.getElem?_eq_some_iff.1 HY0.out).1).trans HY0.out)
  have HC0 := Lib.hid hc
  clear hb hc
  by_cases hc : c = 0
  case neg =>
    have hd : (c != 0) = true := by rw [bne_iff_ne]; exact hc
    have HNP : Hid (¬ WtOk L u) := Lib.hid fun h => hc (HC0.out.2 h)
    have HG : Hid (wgB L u s t = false) := Lib.hid (wgB_no.2 fun h => HNP.out h.1.1)
    have HC := Lib.hid hc
    clear hc
    go_wp2_with fail
    go_ret2
    exact ⟨⟨_, by rw [HG.out]; rfl, fun h => absurd h HC.out, fun h => absurd h.1 HNP.out⟩, HW1.out⟩
  subst hc
  have HP := Lib.hid (HC0.out.1 rfl)
  clear HC0
  obtain ⟨⟨x0, x1, x2⟩, -⟩ := box3 HX1.out
  go_wp2_with fail
  refine (check_any s _ w1 (HS.out.carry HW1.out HW1.out.size) hbs).mono ?_
  rintro e w2 ⟨⟨c, rfl, hc⟩, hb⟩
  have HW2 := Lib.hid (HW1.out.trans (hb.mono HW1.out.size))
  have HX2 := Lib.hid ((hb.block _ (Array.getElem?_eq_some_iff.1 HX1.out).1).trans HX1.out)
  have HY2 := Lib.hid ((hb.block _ (Array.getElem?_eq_some_iff.1 HY1.out).1).trans HY1.out)
  have HC := Lib.hid hc
  clear hb hc x0 x1 x2
  by_cases hc0 : c = 0
  case neg =>
    have hd : (c != 0) = true := by rw [bne_iff_ne]; exact hc0
    have HNP : Hid (¬ s.ok) := Lib.hid fun h => hc0 (HC.out.2 h)
    have HG : Hid (wgB L u s t = false) := Lib.hid (wgB_no.2 fun h => HNP.out h.1.2.1)
    have HC0 := Lib.hid hc0
    clear hc0
    go_wp2_with fail
    go_ret2
    exact ⟨⟨_, by rw [HG.out]; rfl, fun h => absurd h HC0.out, fun h => absurd h.2.1 HNP.out⟩, HW2.out⟩
  subst hc0
  have HSO := Lib.hid (HC.out.1 rfl)
  obtain ⟨⟨y0, y1, y2⟩, -⟩ := box3 HY2.out
  go_wp2_with fail
  refine (check_any t _ w2 (HT.out.carry HW2.out HW2.out.size) hbt).mono ?_
  rintro e w3 ⟨⟨c, rfl, hc⟩, hb⟩
  have HW3 := Lib.hid (HW2.out.trans (hb.mono HW2.out.size))
  have HX3 := Lib.hid ((hb.block _ (Array.getElem?_eq_some_iff.1 HX2.out).1).trans HX2.out)
  have HY3 := Lib.hid ((hb.block _ (Array.getElem?_eq_some_iff.1 HY2.out).1).trans HY2.out)
  have HC2 := Lib.hid hc
  clear hb hc y0 y1 y2
  by_cases hc0 : c = 0
  case neg =>
    have hd : (c != 0) = true := by rw [bne_iff_ne]; exact hc0
    have HNP : Hid (¬ t.ok) := Lib.hid fun h => hc0 (HC2.out.2 h)
    have HG : Hid (wgB L u s t = false) := Lib.hid (wgB_no.2 fun h => HNP.out h.1.2.2.1)
    have HC0 := Lib.hid hc0
    clear hc0
    go_wp2_with fail
    go_ret2
    exact ⟨⟨_, by rw [HG.out]; rfl, fun h => absurd h HC0.out, fun h => absurd h.2.2.1 HNP.out⟩, HW3.out⟩
  subst hc0
  have HTO := Lib.hid (HC2.out.1 rfl)
  go_wp2_with fail
  have hal : Below w3.heap.size w3 (w3.alloc (.cells #[.slice ol L.length cl, .int .i64 u] 132)) := by go_grown
  have H4 : Hid (WgSt w (w3.alloc (.cells #[.slice ol L.length cl, .int .i64 u] 132)).drew (.slice ol L.length cl) (.slice os s.ts.length cs) (.slice ot t.ts.length ct) u s t w3.heap.size) :=
    Lib.hid ⟨(hal.block _ (Array.getElem?_eq_some_iff.1 HX3.out).1).trans HX3.out, (hal.block _ (Array.getElem?_eq_some_iff.1 HY3.out).1).trans HY3.out, heap_new_at _ _ _ rfl, HW3.out.trans ((hal.mono HW3.out.size).drew)⟩
  have hY3 := (Array.getElem?_eq_some_iff.1 HY3.out).1
  clear hal HX3 HY3
  generalize hob : w3.heap.size = ob at H4 hY3 ⊢
  have hz4 : ob < (w3.alloc (.cells #[.slice ol L.length cl, .int .i64 u] 132)).heap.size := by simp; omega
  clear hob
  generalize (w3.alloc (.cells #[.slice ol L.length cl, .int .i64 u] 132)) = W4 at H4 hz4 ⊢
  refine wp_region_noPanic ?_
  refine wp_region_held_drew (S := fun w' => w'.cell? ⟨ob, 0, none⟩ = some (.slice ol L.length cl) ∧ w'.cell? ⟨ob, 1, none⟩ = some (.int .i64 u) ∧ w'.cell? ⟨w.heap.size, 0, none⟩ = some (.string s.nm) ∧ w'.cell? ⟨w.heap.size, 1, none⟩ = some (.bool s.vr) ∧ w'.cell? ⟨w.heap.size, 2, none⟩ = some (.slice os s.ts.length cs) ∧ w'.cell? ⟨w.heap.size + 1, 0, none⟩ = some (.string t.nm) ∧ w'.cell? ⟨w.heap.size + 1, 1, none⟩ = some (.bool t.vr) ∧ w'.cell? ⟨w.heap.size + 1, 2, none⟩ = some (.slice ot t.ts.length ct)) (by kernel_rfl) H4.out.eight (fun _ => ?_)
  simp only [List.size_toArray, List.length_cons, List.length_nil, Nat.reduceAdd]
  refine wpAnyH_take (i := 0) (v := ?_) (by simp only [List.getElem?_toArray, List.getElem?_cons_zero]; rfl) (by kernel_rfl) (by kernel_rfl) (by kernel_rfl) (fun _ _ _ h => h) (Or.inl ⟨by rfl, ?_⟩) H4.out.eight ?_
  case refine_2 => (intro ww hSw; obtain ⟨s1, s2, s3, s4, s5, s6, s7, s8⟩ := hSw; go_simp; try with_reducible rfl)
  try simp only [Act.put, List.setIfInBounds_toArray, List.set_cons_zero, List.set_cons_succ]
  refine wpAnyH_take (i := 1) (v := ?_) (by simp only [List.getElem?_toArray, List.getElem?_cons_zero, List.getElem?_cons_succ]; rfl) (by kernel_rfl) (by kernel_rfl) (by kernel_rfl) (fun _ _ _ h => h) (Or.inl ⟨by rfl, ?_⟩) H4.out.eight ?_
  case refine_2 => (intro ww hSw; obtain ⟨s1, s2, s3, s4, s5, s6, s7, s8⟩ := hSw; go_simp; try with_reducible rfl)
  try simp only [Act.put, List.setIfInBounds_toArray, List.set_cons_zero, List.set_cons_succ]
  refine wpAnyH_take (i := 3) (v := ?_) (by simp only [List.getElem?_toArray, List.getElem?_cons_zero, List.getElem?_cons_succ]; rfl) (by kernel_rfl) (by kernel_rfl) (by kernel_rfl) (fun _ _ _ h => h) (Or.inl ⟨by rfl, ?_⟩) H4.out.eight ?_
  case refine_2 => (intro ww hSw; obtain ⟨s1, s2, s3, s4, s5, s6, s7, s8⟩ := hSw; go_simp; try with_reducible rfl)
  try simp only [Act.put, List.setIfInBounds_toArray, List.set_cons_zero, List.set_cons_succ]
  refine wpAnyH_ready (rs := [2]) (by kernel_rfl) (by simp) ?_
  refine AllReadyH.cons (by simp only [List.getElem?_toArray, List.getElem?_cons_zero, List.getElem?_cons_succ]; rfl) (fun K' hK => ?_) AllReadyH.nil
  go_simp
  refine (aps_any W4.heap.size s (.slice os s.ts.length cs) (.slice none 0 0) [] W4.drew (Nat.le_refl _) (HS.out.carry H4.out.low H4.out.low.size) hbs (World.ownsRow_nil _ _ _ _) (by have := Tm.size_bulk s; simp; omega)).mono ?_
  rintro e w5 ⟨v5, rfl, ho5, hg5, -⟩
  have hb5 : Below W4.heap.size W4.drew w5 := ⟨hg5.os, hg5.tape, hg5.output, hg5.size, fun k hk => hg5.block k hk (by simp [Value.ownBlock])⟩
  rw [List.nil_append] at ho5
  obtain ⟨o5, c5, rfl⟩ := ownsRow_shape ho5
  have H5 := Lib.hid (H4.out.carry (n := W4.heap.size) hb5 hz4 (by omega))
  have HO5 := Lib.hid ho5
  have HB5 := Lib.hid hb5
  have z5 : W4.heap.size ≤ w5.heap.size := hb5.size
  clear ho5 hg5 hb5
  refine hK.out _ _ H5.out.eight (fun _ => ?_)
  clear hK
  try simp only [Act.put, List.setIfInBounds_toArray, List.set_cons_zero, List.set_cons_succ]
  refine wpAnyH_ready (rs := [4]) (by kernel_rfl) (by simp) ?_
  refine AllReadyH.cons (by simp only [List.getElem?_toArray, List.getElem?_cons_zero, List.getElem?_cons_succ]; rfl) (fun K' hK => ?_) AllReadyH.nil
  go_simp
  refine (aps_any W4.heap.size t (.slice ot t.ts.length ct) (.slice o5 s.sy.length c5) s.sy w5 HB5.out.size (HT.out.carry H5.out.low H4.out.low.size) hbt HO5.out (by have := Tm.size_bulk s; have := Tm.size_bulk t; have := Tm.sy_len s; omega)).mono ?_
  rintro e w6 ⟨v6, rfl, ho6, hg6, -⟩
  have hb6 : Below W4.heap.size w5 w6 := ⟨hg6.os, hg6.tape, hg6.output, hg6.size, fun k hk => hg6.block k (by omega) (fun e => by have := HO5.out.lt _ e.symm; omega)⟩
  obtain ⟨M, hM⟩ : ∃ M, M = s.sy ++ t.sy := ⟨_, rfl⟩
  rw [← hM] at ho6
  have HM := Lib.hid hM
  clear hM
  obtain ⟨o6, c6, rfl⟩ := ownsRow_shape ho6
  have H6 := Lib.hid (H5.out.carry (n := W4.heap.size) hb6 hz4 (by omega))
  have HSY := Lib.hid (SyIs.ofRow ho6)
  have z6 : W4.heap.size ≤ w6.heap.size := Nat.le_trans z5 hb6.size
  clear ho6 hg6 hb6
  refine hK.out _ _ H6.out.eight (fun _ => ?_)
  clear hK
  try simp only [Act.put, List.setIfInBounds_toArray, List.set_cons_zero, List.set_cons_succ]
  refine wpAnyH_ready (rs := [5]) (by kernel_rfl) (by simp) ?_
  refine AllReadyH.cons (by simp only [List.getElem?_toArray, List.getElem?_cons_zero, List.getElem?_cons_succ]; rfl) (fun K' hK => ?_) AllReadyH.nil
  go_simp
  refine (isAdm_any HP M (Lib.hid (by rw [HM.out]; exact (Tm.sy_ks hbs).append (Tm.sy_ks hbt))) (by rw [HM.out]; have := Tm.size_bulk s; have := Tm.size_bulk t; have := Tm.sy_len s; have := Tm.sy_len t; rw [List.length_append]; omega) (.slice ol L.length cl) _ w6 (HL.out.carry H6.out.low H6.out.low.size) HSY.out).mono ?_
  rintro e w7 ⟨rfl, hb7⟩
  have H7 := Lib.hid (H6.out.carry hb7 (by omega) (by omega))
  clear hb7
  refine hK.out _ _ H7.out.eight (fun _ => ?_)
  clear hK
  try simp only [Act.put, List.setIfInBounds_toArray, List.set_cons_zero, List.set_cons_succ]
  refine wpAnyH_take (i := 6) (v := ?_) (by simp only [List.getElem?_toArray, List.getElem?_cons_zero, List.getElem?_cons_succ]; rfl) (by kernel_rfl) (by kernel_rfl) (by kernel_rfl) (fun _ _ _ h => h) (Or.inl ⟨by rfl, ?_⟩) H7.out.eight ?_
  case refine_2 => (intro ww hSw; obtain ⟨s1, s2, s3, s4, s5, s6, s7, s8⟩ := hSw; go_simp; try with_reducible rfl)
  try simp only [Act.put, List.setIfInBounds_toArray, List.set_cons_zero, List.set_cons_succ]
  refine wpAnyH_done (by kernel_rfl) ?_ _
  refine NoPanic.normal ?_
  cases ha : admB L u M with
  | false =>
    have HNP : Hid (¬ AdmL L u (s.sy ++ t.sy)) := Lib.hid (by rw [← HM.out]; exact admB_no.1 ha)
    have HG : Hid (wgB L u s t = false) := Lib.hid (wgB_no.2 fun h => HNP.out h.1.2.2.2)
    clear ha
    go_wp2_with fail
    go_ret2
    exact ⟨⟨_, by rw [HG.out]; rfl, fun h => by omega, fun h => absurd h.2.2.2 HNP.out⟩, H7.out.low⟩
  | true =>
    have HAD : Hid (AdmL L u (s.sy ++ t.sy)) := Lib.hid (by rw [← HM.out]; exact admB_yes.1 ha)
    clear ha
    obtain ⟨z0, z1, x0, x1, x2, y0, y1, y2⟩ := H7.out.eight
    go_wp2_with fail
    refine (wisGreater_any HP (.slice ol L.length cl) s t _ _ w7 (HL.out.carry H7.out.low H7.out.low.size) (HS.out.carry H7.out.low H7.out.low.size) (HT.out.carry H7.out.low H7.out.low.size) HSO.out.1.bare HTO.out.1.bare hbs hbt).mono ?_
    rintro e w8 ⟨rfl, hb⟩
    have HW8 := Lib.hid (H7.out.low.trans (hb.mono H7.out.low.size))
    have HR := Lib.hid (WG.rel ⟨HP.out, HSO.out, HTO.out, HAD.out⟩)
    clear hb
    go_wp2_with fail
    go_ret2
    exact ⟨⟨0, by rw [HR.out]; rfl, fun _ => ⟨HP.out, HSO.out, HTO.out, HAD.out⟩, fun _ => rfl⟩, HW8.out⟩
set_option maxRecDepth 100000 in
set_option maxHeartbeats 4000000 in
theorem l7greater_any (L : List Rk) (u : Int) (lv : Value) (s t : Tm) (sv tv : Value) (w : World) (hL : RksIs w.heap.size w L lv) (hLb : rkBulk L ≤ 1048576) (hs : SlIs w.heap.size w s.ts sv) (ht : SlIs w.heap.size w t.ts tv) (hbs : s.bulk ≤ 1048576) (hbt : t.bulk ≤ 1048576) :
    Calls Tryz.prog 31 #[.agg #[lv, .int .i64 u], tmv s sv, tmv t tv] w fun e w' => e = .returned (.bool (wgB L u s t)) ∧ Below w.heap.size w w' := by
  obtain ⟨os, cs, rfl, -⟩ := hs.form
  obtain ⟨ot, ct, rfl, -⟩ := ht.form
  have hL' := hL
  obtain ⟨ol, cl, rfl, -, -⟩ := hL'
  have HG : Hid (∀ W, Below w.heap.size w W → Calls Tryz.prog 74 #[.slice ol L.length cl, .int .i64 u, .agg #[.string s.nm, .bool s.vr, .slice os s.ts.length cs], .agg #[.string t.nm, .bool t.vr, .slice ot t.ts.length ct]] W fun e w' => WgPost L u s t e ∧ Below W.heap.size W w') := Lib.hid fun W hW => wgreater_any L u _ s t _ _ W (hL.carry hW hW.size) hLb (hs.carry hW hW.size) (ht.carry hW hW.size) hbs hbt
  clear hL hs ht
  go_enter Tryz.func31, Tryz.ntmps31
  rw [show tmv s (.slice os s.ts.length cs) = .agg #[.string s.nm, .bool s.vr, .slice os s.ts.length cs] from rfl, show tmv t (.slice ot t.ts.length ct) = .agg #[.string t.nm, .bool t.vr, .slice ot t.ts.length ct] from rfl]
  go_wp2_with fail
  have HW0 : Hid (Below w.heap.size w (((w.alloc (.cells #[.slice ol L.length cl, .int .i64 u] 56)).alloc (.cells #[.string s.nm, .bool s.vr, .slice os s.ts.length cs] 25)).alloc (.cells #[.string t.nm, .bool t.vr, .slice ot t.ts.length ct] 25))) := Lib.hid (by go_grown)
  refine (HG.out _ HW0.out).mono ?_
  rintro e w1 ⟨⟨c, rfl, hc⟩, hb⟩
  have HB := Lib.hid (HW0.out.trans (hb.mono HW0.out.size))
  have HC := Lib.hid hc
  clear hb hc HG
  by_cases hc0 : c = 0
  · subst hc0
    go_wp2_with fail
    go_ret
    exact ⟨rfl, HB.out⟩
  · have hd : (c == 0) = false := by rw [beq_eq_false_iff_ne]; exact hc0
    have HG : Hid (wgB L u s t = false) := Lib.hid (wgB_no.2 fun h => hc0 (HC.out.2 h.1))
    clear hc0
    go_wp2_with fail
    go_ret
    exact ⟨by rw [HG.out]; rfl, HB.out⟩
end Go.Proofs.YtnomppdmhgefiaaGreat
/- Package term: Symbols; package weight: Orients, Weight. -/
namespace Go.Proofs.YtnomppdmhgefiaaGreat
open Go.RowKit Go.Maps Go.Sort

theorem putA_mem' {α : Type} {l : List (Key × α)} {k : Key} {v : α} {q : Key × α} (h : q ∈ putA l k v) : q ∈ l ∨ q = (k, v) := by
  unfold putA at h
  split at h
  · obtain ⟨p, hp, rfl⟩ := List.mem_map.1 h
    split
    · exact .inr rfl
    · exact .inl hp
  · rcases List.mem_append.1 h with h | h
    · exact .inl h
    · exact .inr (by simpa using h)
theorem arRun_all {P : Key → Nat → Prop} : ∀ {l : List View} {m m' : List (Key × Nat)}, arRun m l = some m' → (∀ q ∈ m, P q.1 q.2) → (∀ v ∈ l, P v.2.1.data.toList v.2.2.2) → ∀ q ∈ m', P q.1 q.2 := by
  intro l
  induction l with
  | nil => intro m m' h hm _; cases h; exact hm
  | cons v l ih =>
    intro m m' h hm hv
    simp only [arRun] at h
    obtain ⟨m1, h1, h2⟩ := Option.bind_eq_some_iff.1 h
    have hput : ∀ q ∈ putA m v.2.1.data.toList v.2.2.2, P q.1 q.2 := fun q hq => by
      rcases putA_mem' hq with h | rfl
      · exact hm q h
      · exact hv v (by simp)
    refine ih h2 ?_ fun x hx => hv x (by simp [hx])
    unfold arStep at h1
    split at h1
    · cases h1; exact hm
    · split at h1
      · cases h1
      · split at h1
        · split at h1
          · cases h1; exact hput
          · cases h1
        · cases h1; exact hput
theorem getA_in {α : Type} {l : List (Key × α)} {k : Key} {v : α} (h : getA l k = some v) : (k, v) ∈ l := by
  unfold getA at h
  obtain ⟨p, hp, rfl⟩ := Option.map_eq_some_iff.1 h
  have h1 := List.find?_some hp
  have h2 := List.mem_of_find?_eq_some hp
  have : p.1 = k := by simpa using h1
  subst this
  exact h2
theorem length_bulks' (l : List Tm) : l.length ≤ Tm.bulks l := by
  induction l with
  | nil => simp
  | cons t l ih => cases t; simp only [Tm.bulks, Tm.bulk, List.length_cons]; omega
theorem bulk_eq' (t : Tm) : t.bulk = 1 + t.nm.size + Tm.bulks t.ts := by cases t; simp only [Tm.bulk, Tm.nm, Tm.ts]
theorem nodes_bulk (t : Tm) : ∀ d, ∀ v ∈ t.nodes d, v.2.1.data.toList.length ≤ t.bulk ∧ v.2.2.2 ≤ t.bulk := by
  induction t using Tm.ind with
  | h t ih =>
    intro d v hv
    rw [Tm.nodes_eq] at hv
    rcases List.mem_cons.1 hv with rfl | hv
    · have h1 := bulk_eq' t
      have h2 := length_bulks' t.ts
      have h3 : t.nm.data.toList.length = t.nm.size := bytes_len t.nm
      exact ⟨by show t.nm.data.toList.length ≤ _; omega, by show t.ts.length ≤ _; omega⟩
    · have key : ∀ (l : List Tm) (d : Nat), (∀ u ∈ l, u ∈ t.ts) → v ∈ Tm.nodesL d l → v.2.1.data.toList.length ≤ Tm.bulks l ∧ v.2.2.2 ≤ Tm.bulks l := by
        intro l
        induction l with
        | nil => intro d _ h; simp [Tm.nodesL] at h
        | cons u l ihl =>
          intro d hl h
          rw [Tm.nodesL] at h
          rcases List.mem_append.1 h with h | h
          · have := ih u (hl u (by simp)) _ v h
            simp only [Tm.bulks]; omega
          · have := ihl d (fun y hy => hl y (by simp [hy])) h
            simp only [Tm.bulks]; omega
      have h1 := key t.ts _ (fun _ h => h) hv
      have h2 := bulk_eq' t
      omega
theorem viewsV_mem {l : List TmV} {v : View} (h : v ∈ viewsV l) : ∃ x ∈ l, v ∈ x.1.nodes 1 := by
  unfold viewsV at h
  obtain ⟨r, hr, hv⟩ := List.mem_flatten.1 h
  obtain ⟨x, hx, rfl⟩ := List.mem_map.1 hr
  exact ⟨x, hx, hv⟩
theorem viewsV_len {l : List TmV} {B : Nat} (h : ∀ x ∈ l, x.1.size ≤ B) : (viewsV l).length ≤ l.length * B := by
  induction l with
  | nil => simp [viewsV]
  | cons x l ih =>
    have h1 := ih fun y hy => h y (by simp [hy])
    have h2 := h x (by simp)
    have h3 : (x.1.nodes 1).length = x.1.size := Tm.nodes_length x.1 1
    unfold viewsV at h1 ⊢
    rw [List.map_cons, List.flatten_cons, List.length_append, h3, List.length_cons, Nat.add_mul]
    omega
theorem keysA_any (mb : Nat) (W : World) : Calls Tryz.prog 124 #[.map (some mb)] W fun e w' => e = .returned (.func (.func 188) #[] #[.pointer (some ⟨W.heap.size, 0, none⟩)]) ∧ W.alloc (.cells #[.map (some mb)] 164) = w' :=
  (callsIn_wide.1 (Tryz.maps_Keys_124 (some mb) W)).mono fun _ _ ⟨h1, h2⟩ => ⟨h1, h2.symm⟩
theorem sortedA_any {α : Type} {enc : α → Value} (mb : Nat) (m : List (Key × α)) (W : World) (h : HMap enc W mb m) (hl : m.length ≤ 1048576) :
    Calls Tryz.prog 123 #[.func (.func 188) #[] #[.pointer (some ⟨W.heap.size, 0, none⟩)]] (W.alloc (.cells #[.map (some mb)] 164)) fun e w' => (∃ v, e = .returned v ∧ StrIs w'.heap.size w' (sortK (m.map (·.1))) v) ∧ Below W.heap.size W w' := by
  obtain ⟨D, ho, hi⟩ := h
  refine (callsIn_wide.1 (Tryz.slices_Sorted_keys_123_124 mb _ D imgR W ho (by rw [hi.size]; unfold maxLen; omega) (by rw [hi.size]; omega))).mono ?_
  rintro e w' ⟨v, ss, rfl, hp, hrow, -, hb⟩
  rw [keys_perm ho hi.nodup hi.has hp, strs_enc] at hrow
  have hlen : ss.length = (sortK (m.map (·.1))).length := by rw [← keys_perm ho hi.nodup hi.has hp, List.length_mergeSort]
  rw [hlen] at hrow
  exact ⟨⟨v, rfl, StrIs.ofRow hrow⟩, Below.trans (by go_grown) (hb.mono (by simp))⟩
theorem zeroInt (w : World) : (zeroValue 3).run Tryz.prog w = .ok (.int .i64 0) w := Tryz.zeroValue3 w
theorem arLook {W : World} {m : Nat} {M : List (Key × Nat)} (h : HMap encN W m M) {k : Key} {n : Nat} (hk : k.length ≤ 1048576) (hg : getA M k = some n) :
    (Instr.lookup 164 (.map (some m)) (.string (kb k)) false).run Tryz.prog W = .ok (.int .i64 n) W := by
  obtain ⟨D, hown, hinv⟩ := h
  obtain ⟨v, ps, hrun, hv⟩ := hown.lookup strKeyed Tryz.underlying164 (zeroInt W) (zd := .held (.int .i64 0)) (zp := []) rfl (keyOf_kb hk)
  rw [hrun]
  simp only [imgR, Option.some.injEq, Prod.mk.injEq] at hv
  rw [hinv.at_ _ _ hg] at hv
  rw [DataW.held.inj hv.1]
/-- the symbols of a map of arities, in the order of these names -/
def symsOf (M : List (Key × Nat)) (ks : List Key) : List Sy := ks.map fun k => (k, ((getA M k).getD 0 : Nat))
theorem two_cells_at {W : World} {k : Nat} {x y : Value} {e : TypeId} (h : W.heap[k]? = some (.cells #[x, y] e (0, 0))) : ∀ j u, [x, y][j]? = some u → W.cell? ((⟨k, 0, none⟩ : Addr).add j) = some u := by
  intro j u hj
  rw [ad_add, Nat.zero_add]
  match j, hj with
  | 0, hj => simp at hj; subst hj; exact cells_of' h 0
  | 1, hj => simp at hj; subst hj; exact cells_of' h 1
/-- what Symbols answers -/
def SsPost (R : List RlV) (e : Ending) (w' : World) : Prop :=
  ∃ (c : Int) (v : Value), e = .returned (.tuple #[v, .int .i64 c]) ∧ (c = 0 → SysOk R ∧ ∃ S, SyIs w'.heap.size w' S v ∧ SyKs S ∧ S.length ≤ 600000) ∧ (c ≠ 0 → v = .slice none 0 0)

set_option maxRecDepth 100000 in
set_option maxHeartbeats 2000000 in
theorem symbols_any (R : List RlV) (rv : Value) (w : World) (hR : RulV w.heap.size w R rv) (hRl : R.length ≤ 1048576) (hRb : ∀ x ∈ sidesV R, x.1.bulk ≤ 1048576) :
    Calls Tryz.prog 67 #[rv] w fun e w' => SsPost R e w' ∧ Below w.heap.size w w' := by
  obtain ⟨i0, hi, hz0, hs1, hb1⟩ := info_parts infoSym
  have HI := Lib.hid hi
  have HZ := Lib.hid hz0
  have HS1 := Lib.hid hs1
  have HB1 := Lib.hid hb1
  clear hi hz0 hs1 hb1
  obtain ⟨or', cr, rfl⟩ := hR.shape
  have HR := Lib.hid hR
  have HRB := Lib.hid hRb
  clear hR hRb
  go_enter Tryz.func67, Tryz.ntmps67
  go_wp2_with fail
  refine (tcheckSystem_any R _ w HR.out hRl HRB.out).mono ?_
  rintro e w2 ⟨⟨c, rfl, hc⟩, hb⟩
  have HW2 := Lib.hid hb
  have HC := Lib.hid hc
  clear hb hc
  by_cases hc0 : c = 0
  case neg =>
    have hd : (c != 0) = true := by rw [bne_iff_ne]; exact hc0
    have HC0 := Lib.hid hc0
    clear hc0
    go_wp2_with fail
    refine bodyPost_ret (v := .tuple #[.slice none 0 0, .int .i64 c]) (by simp [results, Tryz.f67, go_sem]) rfl ?_
    exact ⟨⟨_, _, rfl, fun h => absurd h HC0.out, fun _ => rfl⟩, HW2.out⟩
  subst hc0
  have HSY := Lib.hid (HC.out.1 rfl)
  clear HC
  go_wp2_with fail
  refine (arities_any R _ w2 (HR.out.carry HW2.out HW2.out.size) hRl HRB.out).mono ?_
  rintro e w3 ⟨hp, hb⟩
  obtain ⟨M, hM⟩ := Option.ne_none_iff_exists'.1 HSY.out.2.2.1
  obtain ⟨mb, rfl, hmap⟩ := hp.1 M hM
  have HW3 := Lib.hid (HW2.out.trans (hb.mono HW2.out.size))
  have HMP := Lib.hid hmap
  have hall := arRun_all (P := fun k n => k.length ≤ 1048576 ∧ n ≤ 1048576) hM (by simp) (fun v hv => by
    obtain ⟨x, hx, hvx⟩ := viewsV_mem hv
    have h1 := nodes_bulk x.1 1 v hvx
    have h2 := HRB.out x hx
    exact ⟨by omega, by omega⟩)
  have hlen : M.length ≤ 600000 := by
    have h1 := arRun_length hM
    have h2 := viewsV_len (l := sidesV R) (B := 4000) fun x hx => (HSY.out.2.1 x hx).2.1
    have h3 := sidesV_length R
    have h4 := HSY.out.1
    simp only [List.length_nil] at h1
    omega
  have HALL := Lib.hid hall
  clear hp hb hmap hall hM
  go_wp2_with fail
  refine (keysA_any mb _).mono ?_
  rintro e w4 ⟨rfl, rfl⟩
  go_wp2_with fail
  refine (sortedA_any mb M w3 HMP.out (by omega)).mono ?_
  rintro e w5 ⟨⟨v5, rfl, hk5⟩, hb⟩
  have HW5 := Lib.hid (HW3.out.trans (hb.mono HW3.out.size))
  have HM5 : Hid (HMap encN w5 mb M) := Lib.hid (HMP.out.kept (hb.block mb HMP.out.lt))
  have hmem : ∀ k ∈ sortK (M.map (·.1)), ∃ n, getA M k = some n := fun k hk => getA_mem.1 (sortK_mem.1 hk)
  have hkl : ∀ k ∈ sortK (M.map (·.1)), k.length ≤ 1048576 ∧ ∃ n, getA M k = some n ∧ n ≤ 1048576 := fun k hk => by
    obtain ⟨n, hn⟩ := hmem k hk
    have h1 := HALL.out _ (getA_in hn)
    exact ⟨h1.1, n, hn, h1.2⟩
  have hKl : (sortK (M.map (·.1))).length ≤ 600000 := by rw [sortK_len, List.length_map]; exact hlen
  generalize sortK (M.map (·.1)) = K at hk5 hkl hKl
  have HKL := Lib.hid hkl
  have HK5 := Lib.hid hk5
  obtain ⟨ok, ck, rfl, -⟩ := hk5
  have HSS : Hid (∀ i k, K[i]? = some k → (symsOf M K).take (i + 1) = (symsOf M K).take i ++ [((k, (((getA M k).getD 0 : Nat) : Int)) : Sy)]) := Lib.hid (fun i k h => by
    unfold symsOf
    rw [List.take_add_one, List.getElem?_map, h]; rfl)
  have HSL : Hid ((symsOf M K).length = K.length) := Lib.hid (by unfold symsOf; simp)
  have HSK : Hid (SyKs (symsOf M K)) := Lib.hid (fun x hx => by
    unfold symsOf at hx
    obtain ⟨k, hk, rfl⟩ := List.mem_map.1 hx
    obtain ⟨h1, n, h2, h3⟩ := HKL.out k hk
    rw [h2]
    exact ⟨h1, Int.natCast_nonneg _, Int.ofNat_le.2 h3⟩)
  clear hb hmem hkl HMP HALL
  generalize symsOf M K = Z at *
  go_wp2_with fail
  go_loopw [7, 24] (fun o i wr => ∃ (k : Nat) (oo : Option Addr) (oc : Nat), k ≤ K.length ∧ o = .slice oo k oc ∧ i = .int .i64 k ∧ Hid (wr.ownsRow w5.heap.size 141 2 (.slice oo k oc) k (syCells (Z.take k))) ∧ Hid (Below w5.heap.size w5 wr)) (fun _ i _ => K.length - (intOf i).toNat)
  case atStart => exact ⟨0, none, 0, by omega, rfl, rfl, Lib.hid (World.ownsRow_nil _ _ _ _), Lib.hid (Below.refl _ _)⟩
  case round =>
    obtain ⟨k, oo, oc, hk, rfl, rfl, HO, HBW⟩ := hrel
    have hz := HBW.out.size
    by_cases hlt : k < K.length
    · obtain ⟨x, hx⟩ : ∃ x, K[k]? = some x := ⟨_, List.getElem?_eq_getElem hlt⟩
      obtain ⟨hxl, n, hg, hn⟩ := HKL.out x (List.mem_of_getElem? hx)
      obtain ⟨oa', cap', e, -, -, hrow⟩ := HK5.out.carry HBW.out hz
      simp only [Value.slice.injEq, true_and] at e
      obtain ⟨rfl, rfl⟩ := e
      obtain ⟨bk, okk, rfl, hbk, hck⟩ := hrow (by rintro rfl; simp at hlt)
      have c0 := hck k x hx
      have hlook := arLook (HM5.out.kept (HBW.out.block mb HM5.out.lt)) hxl hg
      have HX := Lib.hid hx
      have HG := Lib.hid hg
      have hsx : (kb x).size ≤ 1048576 := by rw [← bytes_len, key_kb]; exact hxl
      clear hrow hck hx hg
      go_wp2_with (first
        | (at_builtin
           refine wpList_append_opt rfl (.tmp 28) (.tmp 34) 71 rfl w5.heap.size 141 i0 (.agg #[.string ⟨#[]⟩, .int .i64 0]) 2 24 Tryz.underlying71 HI.out HZ.out HS1.out HB1.out rfl (by decide) (.slice oo k oc) k (syCells (Z.take k)) rfl (HO.out.alloc _) (some ⟨wr.heap.size, 0, none⟩) 1 1 [.string (kb x), .int .i64 n] rfl rfl (fun h => by cases h) (fun ad had => by cases had; exact two_cells_at (heap_new_at _ _ _ rfl)) (by simp [Value.oneCell']) (by unfold maxLen; omega) (by omega) (by simp; omega) ?_
           intro v7 w7 ho7 hg7 hat7
           obtain ⟨o7, c7, rfl⟩ := ownsRow_shape ho7
           have HO7 : Hid (w7.ownsRow w5.heap.size 141 2 (.slice o7 (k + 1) c7) (k + 1) (syCells (Z.take (k + 1)))) := Lib.hid (by
             rw [HSS.out k x HX.out, syCells_append, HG.out]
             exact ho7)
           have HB7 : Hid (Below w5.heap.size w5 w7) := Lib.hid ((HBW.out.alloc (by omega) _).grown hg7 (by simp; omega) (fun j hj => (HO.out.lt j hj).1))
           clear ho7 hg7 hat7))
      exact ⟨⟨k + 1, o7, c7, by omega, rfl, by go_num, HO7, HB7⟩, by simp [intOf]; omega⟩
    · obtain rfl : k = K.length := by omega
      go_wp2_with fail
      refine bodyPost_ret (v := .tuple #[.slice oo K.length oc, .int .i64 0]) (by simp [results, Tryz.f67, go_sem]) rfl ?_
      refine ⟨⟨0, _, rfl, fun _ => ⟨HSY.out, Z, ?_, HSK.out, by rw [HSL.out]; exact hKl⟩, fun h => absurd rfl h⟩, HW5.out.trans (HBW.out.mono HW5.out.size)⟩
      have h := HO.out
      rw [List.take_of_length_le (by rw [HSL.out]; exact Nat.le_refl _)] at h
      refine SyIs.ofRow (m := w5.heap.size) ?_
      rw [HSL.out]
      exact h
end Go.Proofs.YtnomppdmhgefiaaGreat
