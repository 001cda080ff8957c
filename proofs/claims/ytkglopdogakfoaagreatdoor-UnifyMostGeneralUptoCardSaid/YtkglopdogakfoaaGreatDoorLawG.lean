/- The law UnifyMostGeneral. -/
import Derived.WalkKit
import Derived.ProofKit
import Derived.OpenShut
import Derived.Handy
import Derived.Lib.Hide
import Derived.Lib.SmallJoins
import Derived.Lib.AppendIntMem
import Derived.Deep.RegionHeld3
import Derived.Deep.DeepCutAuto
import Derived.Test.YtkglopdogakfoaaGreatDoorUmg
import Derived.Test.YtkglopdogakfoaaGreatDoorGm
namespace Go.Proofs.YtkglopdogakfoaaGreatDoor
open Go.RowKit

theorem pow10Glob : ∃ g, Tryz.prog.globalNamed "internal/strconv.uint64pow10" = some g := by
  cases h : Tryz.prog.globalNamed "internal/strconv.uint64pow10" with
  | some g => exact ⟨g, rfl⟩
  | none => exact absurd h (by decide +kernel)
/-- the table of powers of ten lies as the program's text lays it -/
def GT (W : World) : Prop := Lib.TabIs Tryz.prog W "internal/strconv.uint64pow10" .u64 Lib.pow10Tab
theorem itoa_tab : ItoaOk 1048576 GT := by
  obtain ⟨g, hg⟩ := pow10Glob
  refine ⟨Nat.le_refl _, fun A B h k => ?_, fun i W hi h => ?_⟩
  · unfold GT Lib.TabIs World.var? at h ⊢
    rw [hg] at h ⊢
    simp only [Option.bind_some] at h ⊢
    split at h
    · rename_i cs e f heq
      rw [k.cells _ _ _ _ heq]; exact h
    · cases h
  · refine (Tryz.strconv_Itoa i (by omega) (by omega) W h).mono ?_
    rintro e w' ⟨rfl, k, os, rfl⟩
    exact ⟨by rw [digN, if_pos hi, kb, Lib.itoa_nonneg], Lib.below_grow _ _ (Nat.le_refl _) _ _⟩
theorem itoa_table : Hid (ItoaOk 1048576 GT) := Lib.hid itoa_tab

theorem nameTm_ok {k : Key} (h : isName (kb k) false = true) : (Tm.mk (kb k) true []).ok := by
  refine ⟨(Tm.formed_iff _).2 ⟨by show nodeOk (kb k) true 0 = true; simp [nodeOk, h], fun u hu => by cases hu⟩, by simp [Tm.size, Tm.sizes], by simp [Tm.depth, Tm.depths]⟩
theorem imageOf_ok {s : List Bd} (hs : SubOk s) {k : Key} (h : isName (kb k) false = true) : (imageOf s k).ok := by
  by_cases hk : ∃ q ∈ s, q.1 = k
  · obtain ⟨q, hq, rfl⟩ := hk
    rw [imageOf_in hs.nodup hq]; exact hs.terms q hq
  · rw [imageOf_miss fun q hq e => hk ⟨q, hq, e⟩]; exact nameTm_ok h
theorem imageOf_bulk {s : List Bd} (hs : SubOk s) {k : Key} (h : isName (kb k) false = true) : (imageOf s k).bulk ≤ 1048576 := by have := (imageOf_ok hs h).bulk; omega
theorem apB_ok {s : List Bd} (hs : SubOk s) {t : Tm} (ht : t.formed) (h : (apB s t).size ≤ 4000 ∧ (apB s t).depth ≤ 200) : (apB s t).ok := ⟨apB_formed (fun q hq => (hs.terms q hq).1) ht, h.1, h.2⟩

theorem LmSt.six {w W : World} {a b : Tm} {sp st : Value} {s : List Bd} {sv : Value} (h : LmSt w W a b sp st s sv) : W.cell? ⟨w.heap.size, 0, none⟩ = some (.string a.nm) ∧ W.cell? ⟨w.heap.size, 1, none⟩ = some (.bool a.vr) ∧ W.cell? ⟨w.heap.size, 2, none⟩ = some sp ∧ W.cell? ⟨w.heap.size + 1, 0, none⟩ = some (.string b.nm) ∧ W.cell? ⟨w.heap.size + 1, 1, none⟩ = some (.bool b.vr) ∧ W.cell? ⟨w.heap.size + 1, 2, none⟩ = some st := by
  obtain ⟨⟨x0, x1, x2⟩, -⟩ := box3 h.a.box
  obtain ⟨⟨y0, y1, y2⟩, -⟩ := box3 h.b.box
  exact ⟨x0, x1, x2, y0, y1, y2⟩
/-- a most general unifier -/
structure UniOk (a b : Tm) (U : List Bd) : Prop where
  ok : SubOk U
  len : U.length ≤ 16000
  uni : apB U a = apB U b
  stay : ∀ q ∈ U, apB U q.2 = q.2
  most : ∀ s : List Bd, apB s a = apB s b → ∀ k ∈ a.vs ++ b.vs, apB s (imageOf U k) = imageOf s k
def UnPost2 (a b : Tm) (e : Ending) (w' : World) : Prop :=
  (∃ c : Int, c ≠ 0 ∧ e = .returned (.tuple #[.slice none 0 0, .bool false, .int .i64 c]) ∧ ¬ (a.ok ∧ b.ok)) ∨
  (a.ok ∧ b.ok ∧ (∀ s : List Bd, apB s a ≠ apB s b) ∧ e = .returned (.tuple #[.slice none 0 0, .bool false, .int .i64 0])) ∨
  (a.ok ∧ b.ok ∧ e = .returned (.tuple #[.slice none 0 0, .bool false, .int .i64 3])) ∨
  (a.ok ∧ b.ok ∧ ∃ (v : Value) (U : List Bd), e = .returned (.tuple #[v, .bool true, .int .i64 0]) ∧ BindsIs w'.heap.size w' U v ∧ UniOk a b U)
theorem UnPost.gen {a b : Tm} {e : Ending} {w' : World} (h : UnPost a b e w') : UnPost2 a b e w' := by
  rcases h with h | ⟨h1, h2, h3, h4⟩ | ⟨h1, h2, S, rk, hm, ⟨-, h3⟩ | ⟨hf, v, L, h3, h4, h5⟩⟩
  · exact .inl h
  · exact .inr (.inl ⟨h1, h2, fun s hs => h3 (imageOf s) (by rw [← apB_apF, ← apB_apF]; exact hs), h4⟩)
  · exact .inr (.inr (.inl ⟨h1, h2, h3⟩))
  · refine .inr (.inr (.inr ⟨h1, h2, v, _, h3, h4, hm.subOk h1.1 h2.1 h5 hf, ?_, hm.unifies h1.1 h2.1 h5, fun q hq => hm.stays h1.1 h2.1 h5 hq, fun s hs k hk => ?_⟩))
    · have hn : L.Nodup := h5.1.imp (fun h e => by subst e; exact absurd h (List.lt_irrefl _))
      have h6 := nodup_len hn (K := S.eq.map (·.1)) fun x hx => ((h5.2 x).1 hx).1
      have := hm.el
      unfold subS
      rw [List.length_map]
      rw [List.length_map] at h6
      omega
    · rw [hm.image h1.1 h2.1 h5 hk, apB_apF]
      exact hm.most h1.1 h2.1 (by rw [← apB_apF, ← apB_apF]; exact hs) hk

set_option maxRecDepth 100000 in
set_option maxHeartbeats 16000000 in
theorem mostGeneral_any (a b : Tm) (s : List Bd) (sa sb sv : Value) (w : World) (hgw : GT w) (ha : SlIs w.heap.size w a.ts sa) (hb : SlIs w.heap.size w b.ts sb) (hs : BindsIs w.heap.size w s sv) (hbab : a.bulk + b.bulk ≤ 1048576) (hbs : bdBulk s ≤ 1048576) :
    Calls Tryz.prog 8 #[tmv a sa, tmv b sb, sv] w fun e w' => e = .returned (.bool true) ∧ Below w.heap.size w w' := by
  obtain ⟨oa, ca, rfl, -⟩ := ha.form
  obtain ⟨ob, cb, rfl, -⟩ := hb.form
  have hs' := hs
  obtain ⟨os, cs, rfl, -, -⟩ := hs'
  have hsl := Nat.le_trans (bdBulk_len s) hbs
  have hba : a.bulk ≤ 1048576 := by omega
  have hbb : b.bulk ≤ 1048576 := by omega
  have hA1 : Below w.heap.size w (w.alloc (.cells #[.string a.nm, .bool a.vr, .slice oa a.ts.length ca] 25)) := by go_grown
  have hA2 := (Below.refl _ (w.alloc (.cells #[.string a.nm, .bool a.vr, .slice oa a.ts.length ca] 25))).alloc (Nat.le_refl _) (.cells #[.string b.nm, .bool b.vr, .slice ob b.ts.length cb] 25)
  have hbx2 := TBx.new (A := w.alloc (.cells #[.string a.nm, .bool a.vr, .slice oa a.ts.length ca] 25)) (t := b) (s := .slice ob b.ts.length cb) (hb.carry hA1 hA1.size)
  rw [show (w.alloc (.cells #[.string a.nm, .bool a.vr, .slice oa a.ts.length ca] 25)).heap.size = w.heap.size + 1 from by simp] at hbx2
  have HM0 : Hid (LmSt w ((w.alloc (.cells #[.string a.nm, .bool a.vr, .slice oa a.ts.length ca] 25)).alloc (.cells #[.string b.nm, .bool b.vr, .slice ob b.ts.length cb] 25)) a b (.slice oa a.ts.length ca) (.slice ob b.ts.length cb) s (.slice os s.length cs)) := Lib.hid
    ⟨(TBx.new (t := a) ha).carry hA2, hbx2, hs.carry (hA1.trans (hA2.mono hA1.size)) (Nat.le_refl _), hA1.trans (hA2.mono hA1.size)⟩
  have HG0 := Lib.hid (itoa_tab.keep _ _ hgw (KpC.of_below (hA1.trans (hA2.mono hA1.size)) (Nat.zero_le _)))
  clear ha hb hs hA1 hA2 hbx2 hgw
  go_enter Tryz.func8, Tryz.ntmps8
  rw [show tmv a (.slice oa a.ts.length ca) = .agg #[.string a.nm, .bool a.vr, .slice oa a.ts.length ca] from rfl, show tmv b (.slice ob b.ts.length cb) = .agg #[.string b.nm, .bool b.vr, .slice ob b.ts.length cb] from rfl]
  go_wp2_with fail
  refine (uunify_full itoa_table (by omega) a b (.slice oa a.ts.length ca) (.slice ob b.ts.length cb) _ HG0.out HM0.out.a.is HM0.out.b.is hba hbb).mono ?_
  rintro e w1 ⟨hp0, hb1⟩
  have hp := hp0.gen
  have HM1 := Lib.hid (HM0.out.carry hb1)
  obtain ⟨⟨x0, x1, x2⟩, -⟩ := box3 HM1.out.a.box; obtain ⟨⟨y0, y1, y2⟩, -⟩ := box3 HM1.out.b.box
  clear hb1 HM0 HG0 hp0
  have hX : Below w1.heap.size w1 (w1.alloc (.cells #[.string a.nm, .bool a.vr, .slice oa a.ts.length ca, .string b.nm, .bool b.vr, .slice ob b.ts.length cb] 25)) := by go_grown
  have HCA := Lib.hid (rcheckAll_any [a, b] (.slice (some ⟨w1.heap.size, 0, none⟩) 2 2) _ (rowIs [(a, (.slice oa a.ts.length ca)), (b, (.slice ob b.ts.length cb))] (heap_new_at w1 (.cells #[.string a.nm, .bool a.vr, .slice oa a.ts.length ca, .string b.nm, .bool b.vr, .slice ob b.ts.length cb] 25) _ rfl) (by simp) (by simp only [List.mem_cons, List.not_mem_nil, or_false]; rintro c (rfl | rfl); exact HM1.out.a.is.carry hX hX.size; exact HM1.out.b.is.carry hX hX.size)) (by simp only [Tm.bulks]; omega))
  have HX := Lib.hid hX
  clear hX
  rcases hp with ⟨c, hc, rfl, hno⟩ | ⟨hA, hB, hno, rfl⟩ | ⟨hA, hB, rfl⟩ | ⟨hA, hB, uv, U, rfl, hv, hU⟩
  · have HNO := Lib.hid hno
    have hcb : (c != 0) = true := by rw [bne_iff_ne]; exact hc
    clear hno hc
    go_wp2_with fail
    refine HCA.out.mono ?_
    rintro e w2 ⟨⟨c2, rfl, hc2⟩, hb2⟩
    have HM2 := Lib.hid ((HM1.out.carry HX.out).carry hb2)
    have hcn : (c2 != 0) = true := by rw [bne_iff_ne]; exact fun h => HNO.out ⟨hc2.1 h a (by simp), hc2.1 h b (by simp)⟩
    clear hc2 hb2
    obtain ⟨⟨x0, x1, x2⟩, -⟩ := box3 HM2.out.a.box; obtain ⟨⟨y0, y1, y2⟩, -⟩ := box3 HM2.out.b.box
    go_wp2_with fail
    refine (alive_any _).mono ?_
    rintro e w9 ⟨rfl, hb9⟩
    have HL9 : Hid (Below w.heap.size w w9) := Lib.hid (HM2.out.low.trans (hb9.mono HM2.out.low.size))
    clear hb9
    go_wp2_with fail
    go_ret
    exact ⟨rfl, HL9.out⟩
  · have HNO := Lib.hid hno
    have HOKA := Lib.hid hA
    have HOKB := Lib.hid hB
    clear hno hA hB
    go_wp2_with fail
    refine HCA.out.mono ?_
    rintro e w2 ⟨⟨c2, rfl, hc2⟩, hb2⟩
    have HM2 := Lib.hid ((HM1.out.carry HX.out).carry hb2)
    obtain rfl : c2 = 0 := hc2.2 (by simp only [List.mem_cons, List.not_mem_nil, or_false]; rintro t (rfl | rfl); exact HOKA.out; exact HOKB.out)
    clear hc2 hb2
    obtain ⟨⟨x0, x1, x2⟩, -⟩ := box3 HM2.out.a.box; obtain ⟨⟨y0, y1, y2⟩, -⟩ := box3 HM2.out.b.box
    by_cases hcs : csC s = 0
    · have HCS := Lib.hid hcs
      have HSK := Lib.hid (csC_zero.1 hcs)
      clear hcs
      by_cases hfa : (apB s a).size ≤ 4000 ∧ (apB s a).depth ≤ 200
      · have HFA : Hid (decide ((apB s a).size ≤ 4000 ∧ (apB s a).depth ≤ 200) = true) := Lib.hid (decide_eq_true hfa)
        have HBA := Lib.hid (show (apB s a).bulk ≤ 1048576 by have := (apB_ok HSK.out HOKA.out.1 hfa).bulk; omega)
        clear hfa
        by_cases hfb : (apB s b).size ≤ 4000 ∧ (apB s b).depth ≤ 200
        · have HFB : Hid (decide ((apB s b).size ≤ 4000 ∧ (apB s b).depth ≤ 200) = true) := Lib.hid (decide_eq_true hfb)
          have HBB := Lib.hid (show (apB s b).bulk ≤ 1048576 by have := (apB_ok HSK.out HOKB.out.1 hfb).bulk; omega)
          clear hfb
          have HM20 := Lib.hid HM2.out.drew
          obtain ⟨⟨x0, x1, x2⟩, -⟩ := box3 HM2.out.a.box; obtain ⟨⟨y0, y1, y2⟩, -⟩ := box3 HM2.out.b.box
          go_wp2_with fail
          go_region_held3 (fun w' => w'.cell? ⟨w.heap.size, 0, none⟩ = some (.string a.nm) ∧ w'.cell? ⟨w.heap.size, 1, none⟩ = some (.bool a.vr) ∧ w'.cell? ⟨w.heap.size, 2, none⟩ = some (.slice oa a.ts.length ca) ∧ w'.cell? ⟨w.heap.size + 1, 0, none⟩ = some (.string b.nm) ∧ w'.cell? ⟨w.heap.size + 1, 1, none⟩ = some (.bool b.vr) ∧ w'.cell? ⟨w.heap.size + 1, 2, none⟩ = some (.slice ob b.ts.length cb)) (go_keep) ((first
            | (go_at_call 12
               refine (requal_any (apB s a) (apB s b) _ _ _ HBA.out HBB.out HXa2.out HXb.out).mono ?_
               rintro e w26 ⟨⟨x26, rfl, h26⟩, hb⟩
               have HEQ := Lib.hid h26
               clear h26
               have HM26 := Lib.hid (HM25.out.carry hb)
               obtain ⟨⟨x0, x1, x2⟩, -⟩ := box3 HM26.out.a.box; obtain ⟨⟨y0, y1, y2⟩, -⟩ := box3 HM26.out.b.box
               clear hb)
            | (go_at_call 32
               refine (rapply_any s (.slice os s.length cs) w.heap.size (by omega) b (.slice ob b.ts.length cb) _ HM24.out.low.size HM24.out.s HM24.out.b.is hbb).mono ?_
               rintro e w25 ⟨⟨sl25, rfl, h25⟩, hb⟩
               have h25 := h25.lt.toIs fun b hb => hb.2
               obtain ⟨o25, c25, rfl, -⟩ := h25.form
               dsimp only [tmv]
               have HXb := Lib.hid h25
               clear h25
               have HXa2 := Lib.hid (HXa.out.carry hb hb.size)
               have HM25 := Lib.hid (HM24.out.carry hb)
               obtain ⟨⟨x0, x1, x2⟩, -⟩ := box3 HM25.out.a.box; obtain ⟨⟨y0, y1, y2⟩, -⟩ := box3 HM25.out.b.box
               clear hb)
            | (go_at_call 32
               refine (rapply_any s (.slice os s.length cs) w.heap.size (by omega) a (.slice oa a.ts.length ca) _ HM23.out.low.size HM23.out.s HM23.out.a.is hba).mono ?_
               rintro e w24 ⟨⟨sl24, rfl, h24⟩, hb⟩
               have h24 := h24.lt.toIs fun b hb => hb.2
               obtain ⟨o24, c24, rfl, -⟩ := h24.form
               dsimp only [tmv]
               have HXa := Lib.hid h24
               clear h24
               have HM24 := Lib.hid (HM23.out.carry hb)
               obtain ⟨⟨x0, x1, x2⟩, -⟩ := box3 HM24.out.a.box; obtain ⟨⟨y0, y1, y2⟩, -⟩ := box3 HM24.out.b.box
               clear hb)
            | (go_at_call 31
               refine (rfits_any s (.slice os s.length cs) w.heap.size (by omega) (fun q hq => ⟨(HSK.out.terms q hq).2.1, by have := (HSK.out.terms q hq).bulk; omega⟩) b (.slice ob b.ts.length cb) _ HM22.out.low.size HM22.out.s HM22.out.b.is hbb HOKB.out.1.bare).mono ?_
               rintro e w23 ⟨rfl, hb⟩
               rw [HFB.out]
               have HM23 := Lib.hid (HM22.out.carry hb)
               obtain ⟨⟨x0, x1, x2⟩, -⟩ := box3 HM23.out.a.box; obtain ⟨⟨y0, y1, y2⟩, -⟩ := box3 HM23.out.b.box
               clear hb)
            | (go_at_call 31
               refine (rfits_any s (.slice os s.length cs) w.heap.size (by omega) (fun q hq => ⟨(HSK.out.terms q hq).2.1, by have := (HSK.out.terms q hq).bulk; omega⟩) a (.slice oa a.ts.length ca) _ HM21.out.low.size HM21.out.s HM21.out.a.is hba HOKA.out.1.bare).mono ?_
               rintro e w22 ⟨rfl, hb⟩
               rw [HFA.out]
               have HM22 := Lib.hid (HM21.out.carry hb)
               obtain ⟨⟨x0, x1, x2⟩, -⟩ := box3 HM22.out.a.box; obtain ⟨⟨y0, y1, y2⟩, -⟩ := box3 HM22.out.b.box
               clear hb)
            | (go_at_call 30
               refine (rcheckSubst_full s (.slice os s.length cs) _ (HM20.out.s.carry (Below.refl _ _) HM20.out.low.size) hbs).mono ?_
               rintro e w21 ⟨rfl, hb⟩
               rw [HCS.out]
               have HM21 := Lib.hid (HM20.out.carry hb)
               obtain ⟨⟨x0, x1, x2⟩, -⟩ := box3 HM21.out.a.box; obtain ⟨⟨y0, y1, y2⟩, -⟩ := box3 HM21.out.b.box
               clear hb)))
          cases x26
          · have HNE := HEQ
            clear HEQ
            go_wp2_with fail
            refine (alive_any _).mono ?_
            rintro e w9 ⟨rfl, hb9⟩
            have HL9 : Hid (Below w.heap.size w w9) := Lib.hid (HM26.out.low.trans (hb9.mono HM26.out.low.size))
            clear hb9
            go_wp2_with fail
            go_ret
            exact ⟨rfl, HL9.out⟩
          · have HEQT := Lib.hid (HEQ.out.1 rfl)
            clear HEQ
            exact absurd HEQT.out (HNO.out s)
        · have HFB : Hid (decide ((apB s b).size ≤ 4000 ∧ (apB s b).depth ≤ 200) = false) := Lib.hid (decide_eq_false hfb)
          clear hfb
          have HM20 := Lib.hid HM2.out.drew
          obtain ⟨⟨x0, x1, x2⟩, -⟩ := box3 HM2.out.a.box; obtain ⟨⟨y0, y1, y2⟩, -⟩ := box3 HM2.out.b.box
          go_wp2_with fail
          refine wp_region_noPanic ?_
          refine wp_region_held_drew (S := fun w' => w'.cell? ⟨w.heap.size, 0, none⟩ = some (.string a.nm) ∧ w'.cell? ⟨w.heap.size, 1, none⟩ = some (.bool a.vr) ∧ w'.cell? ⟨w.heap.size, 2, none⟩ = some (.slice oa a.ts.length ca) ∧ w'.cell? ⟨w.heap.size + 1, 0, none⟩ = some (.string b.nm) ∧ w'.cell? ⟨w.heap.size + 1, 1, none⟩ = some (.bool b.vr) ∧ w'.cell? ⟨w.heap.size + 1, 2, none⟩ = some (.slice ob b.ts.length cb)) (by kernel_rfl) HM20.out.six (fun _ => ?_)
          simp only [List.size_toArray, List.length_cons, List.length_nil, Nat.reduceAdd]
          refine wpAnyH_take (i := 0) (v := ?_) (by simp only [List.getElem?_toArray, List.getElem?_cons_zero]; rfl) (by kernel_rfl) (by kernel_rfl) (by kernel_rfl) (fun _ _ _ h => h) (Or.inl ⟨by rfl, ?_⟩) HM20.out.six ?_
          case refine_2 => (intro ww hSw; obtain ⟨s1, s2, s3, s4, s5, s6⟩ := hSw; go_simp; try with_reducible rfl)
          try simp only [Act.put, List.setIfInBounds_toArray, List.set_cons_zero, List.set_cons_succ]
          refine wpAnyH_ready (rs := [1]) (by kernel_rfl) (by simp) ?_
          refine AllReadyH.cons (by simp only [List.getElem?_toArray, List.getElem?_cons_zero, List.getElem?_cons_succ]; rfl) (fun K' hK => ?_) AllReadyH.nil
          go_simp
          refine (rcheckSubst_full s (.slice os s.length cs) _ (HM20.out.s.carry (Below.refl _ _) HM20.out.low.size) hbs).mono ?_
          rintro e w21 ⟨rfl, hb⟩
          rw [HCS.out]
          have HM21 := Lib.hid (HM20.out.carry hb)
          obtain ⟨⟨x0, x1, x2⟩, -⟩ := box3 HM21.out.a.box; obtain ⟨⟨y0, y1, y2⟩, -⟩ := box3 HM21.out.b.box
          clear hb
          refine hK.out _ _ HM21.out.six (fun _ => ?_)
          clear hK
          try simp only [Act.put, List.setIfInBounds_toArray, List.set_cons_zero, List.set_cons_succ]
          refine wpAnyH_take (i := 2) (v := ?_) (by simp only [List.getElem?_toArray, List.getElem?_cons_zero, List.getElem?_cons_succ]; rfl) (by kernel_rfl) (by kernel_rfl) (by kernel_rfl) (fun _ _ _ h => h) (Or.inl ⟨by rfl, ?_⟩) HM21.out.six ?_
          case refine_2 => (intro ww hSw; obtain ⟨s1, s2, s3, s4, s5, s6⟩ := hSw; go_simp; try with_reducible rfl)
          try simp only [Act.put, List.setIfInBounds_toArray, List.set_cons_zero, List.set_cons_succ]
          refine wpAnyH_take (i := 3) (v := ?_) (by simp only [List.getElem?_toArray, List.getElem?_cons_zero, List.getElem?_cons_succ]; rfl) (by kernel_rfl) (by kernel_rfl) (by kernel_rfl) (fun _ _ _ h => h) (Or.inl ⟨by rfl, ?_⟩) HM21.out.six ?_
          case refine_2 => (intro ww hSw; obtain ⟨s1, s2, s3, s4, s5, s6⟩ := hSw; go_simp; try with_reducible rfl)
          try simp only [Act.put, List.setIfInBounds_toArray, List.set_cons_zero, List.set_cons_succ]
          refine wpAnyH_take (i := 4) (v := ?_) (by simp only [List.getElem?_toArray, List.getElem?_cons_zero, List.getElem?_cons_succ]; rfl) (by kernel_rfl) (by kernel_rfl) (by kernel_rfl) (fun _ _ _ h => h) (Or.inl ⟨by rfl, ?_⟩) HM21.out.six ?_
          case refine_2 => (intro ww hSw; obtain ⟨s1, s2, s3, s4, s5, s6⟩ := hSw; go_simp; try with_reducible rfl)
          try simp only [Act.put, List.setIfInBounds_toArray, List.set_cons_zero, List.set_cons_succ]
          refine wpAnyH_take (i := 5) (v := ?_) (by simp only [List.getElem?_toArray, List.getElem?_cons_zero, List.getElem?_cons_succ]; rfl) (by kernel_rfl) (by kernel_rfl) (by kernel_rfl) (fun _ _ _ h => h) (Or.inl ⟨by rfl, ?_⟩) HM21.out.six ?_
          case refine_2 => (intro ww hSw; obtain ⟨s1, s2, s3, s4, s5, s6⟩ := hSw; go_simp; try with_reducible rfl)
          try simp only [Act.put, List.setIfInBounds_toArray, List.set_cons_zero, List.set_cons_succ]
          refine wpAnyH_ready (rs := [6]) (by kernel_rfl) (by simp) ?_
          refine AllReadyH.cons (by simp only [List.getElem?_toArray, List.getElem?_cons_zero, List.getElem?_cons_succ]; rfl) (fun K' hK => ?_) AllReadyH.nil
          go_simp
          refine (rfits_any s (.slice os s.length cs) w.heap.size (by omega) (fun q hq => ⟨(HSK.out.terms q hq).2.1, by have := (HSK.out.terms q hq).bulk; omega⟩) a (.slice oa a.ts.length ca) _ HM21.out.low.size HM21.out.s HM21.out.a.is hba HOKA.out.1.bare).mono ?_
          rintro e w22 ⟨rfl, hb⟩
          rw [HFA.out]
          have HM22 := Lib.hid (HM21.out.carry hb)
          obtain ⟨⟨x0, x1, x2⟩, -⟩ := box3 HM22.out.a.box; obtain ⟨⟨y0, y1, y2⟩, -⟩ := box3 HM22.out.b.box
          clear hb
          refine hK.out _ _ HM22.out.six (fun _ => ?_)
          clear hK
          try simp only [Act.put, List.setIfInBounds_toArray, List.set_cons_zero, List.set_cons_succ]
          refine wpAnyH_take (i := 7) (v := ?_) (by simp only [List.getElem?_toArray, List.getElem?_cons_zero, List.getElem?_cons_succ]; rfl) (by kernel_rfl) (by kernel_rfl) (by kernel_rfl) (fun _ _ _ h => h) (Or.inl ⟨by rfl, ?_⟩) HM22.out.six ?_
          case refine_2 => (intro ww hSw; obtain ⟨s1, s2, s3, s4, s5, s6⟩ := hSw; go_simp; try with_reducible rfl)
          try simp only [Act.put, List.setIfInBounds_toArray, List.set_cons_zero, List.set_cons_succ]
          refine wpAnyH_take (i := 8) (v := ?_) (by simp only [List.getElem?_toArray, List.getElem?_cons_zero, List.getElem?_cons_succ]; rfl) (by kernel_rfl) (by kernel_rfl) (by kernel_rfl) (fun _ _ _ h => h) (Or.inl ⟨by rfl, ?_⟩) HM22.out.six ?_
          case refine_2 => (intro ww hSw; obtain ⟨s1, s2, s3, s4, s5, s6⟩ := hSw; go_simp; try with_reducible rfl)
          try simp only [Act.put, List.setIfInBounds_toArray, List.set_cons_zero, List.set_cons_succ]
          refine wpAnyH_take (i := 9) (v := ?_) (by simp only [List.getElem?_toArray, List.getElem?_cons_zero, List.getElem?_cons_succ]; rfl) (by kernel_rfl) (by kernel_rfl) (by kernel_rfl) (fun _ _ _ h => h) (Or.inl ⟨by rfl, ?_⟩) HM22.out.six ?_
          case refine_2 => (intro ww hSw; obtain ⟨s1, s2, s3, s4, s5, s6⟩ := hSw; go_simp; try with_reducible rfl)
          try simp only [Act.put, List.setIfInBounds_toArray, List.set_cons_zero, List.set_cons_succ]
          refine wpAnyH_take (i := 10) (v := ?_) (by simp only [List.getElem?_toArray, List.getElem?_cons_zero, List.getElem?_cons_succ]; rfl) (by kernel_rfl) (by kernel_rfl) (by kernel_rfl) (fun _ _ _ h => h) (Or.inl ⟨by rfl, ?_⟩) HM22.out.six ?_
          case refine_2 => (intro ww hSw; obtain ⟨s1, s2, s3, s4, s5, s6⟩ := hSw; go_simp; try with_reducible rfl)
          try simp only [Act.put, List.setIfInBounds_toArray, List.set_cons_zero, List.set_cons_succ]
          refine wpAnyH_take (i := 11) (v := ?_) (by simp only [List.getElem?_toArray, List.getElem?_cons_zero, List.getElem?_cons_succ]; rfl) (by kernel_rfl) (by kernel_rfl) (by kernel_rfl) (fun _ _ _ h => h) (Or.inl ⟨by rfl, ?_⟩) HM22.out.six ?_
          case refine_2 => (intro ww hSw; obtain ⟨s1, s2, s3, s4, s5, s6⟩ := hSw; go_simp; try with_reducible rfl)
          try simp only [Act.put, List.setIfInBounds_toArray, List.set_cons_zero, List.set_cons_succ]
          refine wpAnyH_ready (rs := [12]) (by kernel_rfl) (by simp) ?_
          refine AllReadyH.cons (by simp only [List.getElem?_toArray, List.getElem?_cons_zero, List.getElem?_cons_succ]; rfl) (fun K' hK => ?_) AllReadyH.nil
          go_simp
          refine (rfits_any s (.slice os s.length cs) w.heap.size (by omega) (fun q hq => ⟨(HSK.out.terms q hq).2.1, by have := (HSK.out.terms q hq).bulk; omega⟩) b (.slice ob b.ts.length cb) _ HM22.out.low.size HM22.out.s HM22.out.b.is hbb HOKB.out.1.bare).mono ?_
          rintro e w23 ⟨rfl, hb⟩
          rw [HFB.out]
          have HM23 := Lib.hid (HM22.out.carry hb)
          obtain ⟨⟨x0, x1, x2⟩, -⟩ := box3 HM23.out.a.box; obtain ⟨⟨y0, y1, y2⟩, -⟩ := box3 HM23.out.b.box
          clear hb
          refine hK.out _ _ HM23.out.six (fun _ => ?_)
          clear hK
          try simp only [Act.put, List.setIfInBounds_toArray, List.set_cons_zero, List.set_cons_succ]
          refine wpAnyH_take (i := 13) (v := ?_) (by simp only [List.getElem?_toArray, List.getElem?_cons_zero, List.getElem?_cons_succ]; rfl) (by kernel_rfl) (by kernel_rfl) (by kernel_rfl) (fun _ _ _ h => h) (Or.inl ⟨by rfl, ?_⟩) HM23.out.six ?_
          case refine_2 => (intro ww hSw; obtain ⟨s1, s2, s3, s4, s5, s6⟩ := hSw; go_simp; try with_reducible rfl)
          try simp only [Act.put, List.setIfInBounds_toArray, List.set_cons_zero, List.set_cons_succ]
          refine wpAnyH_take (i := 14) (v := ?_) (by simp only [List.getElem?_toArray, List.getElem?_cons_zero, List.getElem?_cons_succ]; rfl) (by kernel_rfl) (by kernel_rfl) (by kernel_rfl) (fun _ _ _ h => h) (Or.inl ⟨by rfl, ?_⟩) HM23.out.six ?_
          case refine_2 => (intro ww hSw; obtain ⟨s1, s2, s3, s4, s5, s6⟩ := hSw; go_simp; try with_reducible rfl)
          try simp only [Act.put, List.setIfInBounds_toArray, List.set_cons_zero, List.set_cons_succ]
          refine wpAnyH_take (i := 15) (v := ?_) (by simp only [List.getElem?_toArray, List.getElem?_cons_zero, List.getElem?_cons_succ]; rfl) (by kernel_rfl) (by kernel_rfl) (by kernel_rfl) (fun _ _ _ h => h) (Or.inl ⟨by rfl, ?_⟩) HM23.out.six ?_
          case refine_2 => (intro ww hSw; obtain ⟨s1, s2, s3, s4, s5, s6⟩ := hSw; go_simp; try with_reducible rfl)
          try simp only [Act.put, List.setIfInBounds_toArray, List.set_cons_zero, List.set_cons_succ]
          refine wpAnyH_take (i := 16) (v := _) (by simp only [List.getElem?_toArray, List.getElem?_cons_zero, List.getElem?_cons_succ]; rfl) (by kernel_rfl) (by kernel_rfl) (by kernel_rfl) (fun _ _ _ h => h) (Or.inr ⟨by rfl, rfl⟩) HM23.out.six ?_
          try simp only [Act.put, List.setIfInBounds_toArray, List.set_cons_zero, List.set_cons_succ]
          refine wpAnyH_take (i := 17) (v := _) (by simp only [List.getElem?_toArray, List.getElem?_cons_zero, List.getElem?_cons_succ]; rfl) (by kernel_rfl) (by kernel_rfl) (by kernel_rfl) (fun _ _ _ h => h) (Or.inr ⟨by rfl, rfl⟩) HM23.out.six ?_
          try simp only [Act.put, List.setIfInBounds_toArray, List.set_cons_zero, List.set_cons_succ]
          refine wpAnyH_take (i := 19) (v := _) (by simp only [List.getElem?_toArray, List.getElem?_cons_zero, List.getElem?_cons_succ]; rfl) (by kernel_rfl) (by kernel_rfl) (by kernel_rfl) (fun _ _ _ h => h) (Or.inr ⟨by rfl, rfl⟩) HM23.out.six ?_
          try simp only [Act.put, List.setIfInBounds_toArray, List.set_cons_zero, List.set_cons_succ]
          refine wpAnyH_take (i := 20) (v := _) (by simp only [List.getElem?_toArray, List.getElem?_cons_zero, List.getElem?_cons_succ]; rfl) (by kernel_rfl) (by kernel_rfl) (by kernel_rfl) (fun _ _ _ h => h) (Or.inr ⟨by rfl, rfl⟩) HM23.out.six ?_
          try simp only [Act.put, List.setIfInBounds_toArray, List.set_cons_zero, List.set_cons_succ]
          refine wpAnyH_ready (rs := [18]) (by kernel_rfl) (by simp) ?_
          refine AllReadyH.cons (by simp only [List.getElem?_toArray, List.getElem?_cons_zero, List.getElem?_cons_succ]; rfl) (fun K' hK => ?_) AllReadyH.nil
          go_simp
          refine hK.out _ _ HM23.out.six (fun _ => ?_)
          clear hK
          try simp only [Act.put, List.setIfInBounds_toArray, List.set_cons_zero, List.set_cons_succ]
          refine wpAnyH_ready (rs := [21]) (by kernel_rfl) (by simp) ?_
          refine AllReadyH.cons (by simp only [List.getElem?_toArray, List.getElem?_cons_zero, List.getElem?_cons_succ]; rfl) (fun K' hK => ?_) AllReadyH.nil
          go_simp
          refine hK.out _ _ HM23.out.six (fun _ => ?_)
          clear hK
          try simp only [Act.put, List.setIfInBounds_toArray, List.set_cons_zero, List.set_cons_succ]
          refine wpAnyH_ready (rs := [22]) (by kernel_rfl) (by simp) ?_
          refine AllReadyH.cons (by simp only [List.getElem?_toArray, List.getElem?_cons_zero, List.getElem?_cons_succ]; rfl) (fun K' hK => ?_) AllReadyH.nil
          go_simp
          refine hK.out _ _ HM23.out.six (fun _ => ?_)
          clear hK
          try simp only [Act.put, List.setIfInBounds_toArray, List.set_cons_zero, List.set_cons_succ]
          refine wpAnyH_take (i := 23) (v := _) (by simp only [List.getElem?_toArray, List.getElem?_cons_zero, List.getElem?_cons_succ]; rfl) (by kernel_rfl) (by kernel_rfl) (by kernel_rfl) (fun _ _ _ h => h) (Or.inr ⟨by rfl, rfl⟩) HM23.out.six ?_
          try simp only [Act.put, List.setIfInBounds_toArray, List.set_cons_zero, List.set_cons_succ]
          refine wpAnyH_take (i := 24) (v := ?_) (by simp only [List.getElem?_toArray, List.getElem?_cons_zero, List.getElem?_cons_succ]; rfl) (by kernel_rfl) (by kernel_rfl) (by kernel_rfl) (fun _ _ _ h => h) (Or.inl ⟨by rfl, ?_⟩) HM23.out.six ?_
          case refine_2 => (intro ww hSw; obtain ⟨s1, s2, s3, s4, s5, s6⟩ := hSw; go_simp; try with_reducible rfl)
          try simp only [Act.put, List.setIfInBounds_toArray, List.set_cons_zero, List.set_cons_succ]
          refine wpAnyH_done (by kernel_rfl) ?_ _
          refine NoPanic.normal ?_
          go_wp2_with fail
          refine (alive_any _).mono ?_
          rintro e w9 ⟨rfl, hb9⟩
          have HL9 : Hid (Below w.heap.size w w9) := Lib.hid (HM23.out.low.trans (hb9.mono HM23.out.low.size))
          clear hb9
          go_wp2_with fail
          go_ret
          exact ⟨rfl, HL9.out⟩
      · have HFA : Hid (decide ((apB s a).size ≤ 4000 ∧ (apB s a).depth ≤ 200) = false) := Lib.hid (decide_eq_false hfa)
        clear hfa
        have HM20 := Lib.hid HM2.out.drew
        obtain ⟨⟨x0, x1, x2⟩, -⟩ := box3 HM2.out.a.box; obtain ⟨⟨y0, y1, y2⟩, -⟩ := box3 HM2.out.b.box
        go_wp2_with fail
        refine wp_region_noPanic ?_
        refine wp_region_held_drew (S := fun w' => w'.cell? ⟨w.heap.size, 0, none⟩ = some (.string a.nm) ∧ w'.cell? ⟨w.heap.size, 1, none⟩ = some (.bool a.vr) ∧ w'.cell? ⟨w.heap.size, 2, none⟩ = some (.slice oa a.ts.length ca) ∧ w'.cell? ⟨w.heap.size + 1, 0, none⟩ = some (.string b.nm) ∧ w'.cell? ⟨w.heap.size + 1, 1, none⟩ = some (.bool b.vr) ∧ w'.cell? ⟨w.heap.size + 1, 2, none⟩ = some (.slice ob b.ts.length cb)) (by kernel_rfl) HM20.out.six (fun _ => ?_)
        simp only [List.size_toArray, List.length_cons, List.length_nil, Nat.reduceAdd]
        refine wpAnyH_take (i := 0) (v := ?_) (by simp only [List.getElem?_toArray, List.getElem?_cons_zero]; rfl) (by kernel_rfl) (by kernel_rfl) (by kernel_rfl) (fun _ _ _ h => h) (Or.inl ⟨by rfl, ?_⟩) HM20.out.six ?_
        case refine_2 => (intro ww hSw; obtain ⟨s1, s2, s3, s4, s5, s6⟩ := hSw; go_simp; try with_reducible rfl)
        try simp only [Act.put, List.setIfInBounds_toArray, List.set_cons_zero, List.set_cons_succ]
        refine wpAnyH_ready (rs := [1]) (by kernel_rfl) (by simp) ?_
        refine AllReadyH.cons (by simp only [List.getElem?_toArray, List.getElem?_cons_zero, List.getElem?_cons_succ]; rfl) (fun K' hK => ?_) AllReadyH.nil
        go_simp
        refine (rcheckSubst_full s (.slice os s.length cs) _ (HM20.out.s.carry (Below.refl _ _) HM20.out.low.size) hbs).mono ?_
        rintro e w21 ⟨rfl, hb⟩
        rw [HCS.out]
        have HM21 := Lib.hid (HM20.out.carry hb)
        obtain ⟨⟨x0, x1, x2⟩, -⟩ := box3 HM21.out.a.box; obtain ⟨⟨y0, y1, y2⟩, -⟩ := box3 HM21.out.b.box
        clear hb
        refine hK.out _ _ HM21.out.six (fun _ => ?_)
        clear hK
        try simp only [Act.put, List.setIfInBounds_toArray, List.set_cons_zero, List.set_cons_succ]
        refine wpAnyH_take (i := 2) (v := ?_) (by simp only [List.getElem?_toArray, List.getElem?_cons_zero, List.getElem?_cons_succ]; rfl) (by kernel_rfl) (by kernel_rfl) (by kernel_rfl) (fun _ _ _ h => h) (Or.inl ⟨by rfl, ?_⟩) HM21.out.six ?_
        case refine_2 => (intro ww hSw; obtain ⟨s1, s2, s3, s4, s5, s6⟩ := hSw; go_simp; try with_reducible rfl)
        try simp only [Act.put, List.setIfInBounds_toArray, List.set_cons_zero, List.set_cons_succ]
        refine wpAnyH_take (i := 3) (v := ?_) (by simp only [List.getElem?_toArray, List.getElem?_cons_zero, List.getElem?_cons_succ]; rfl) (by kernel_rfl) (by kernel_rfl) (by kernel_rfl) (fun _ _ _ h => h) (Or.inl ⟨by rfl, ?_⟩) HM21.out.six ?_
        case refine_2 => (intro ww hSw; obtain ⟨s1, s2, s3, s4, s5, s6⟩ := hSw; go_simp; try with_reducible rfl)
        try simp only [Act.put, List.setIfInBounds_toArray, List.set_cons_zero, List.set_cons_succ]
        refine wpAnyH_take (i := 4) (v := ?_) (by simp only [List.getElem?_toArray, List.getElem?_cons_zero, List.getElem?_cons_succ]; rfl) (by kernel_rfl) (by kernel_rfl) (by kernel_rfl) (fun _ _ _ h => h) (Or.inl ⟨by rfl, ?_⟩) HM21.out.six ?_
        case refine_2 => (intro ww hSw; obtain ⟨s1, s2, s3, s4, s5, s6⟩ := hSw; go_simp; try with_reducible rfl)
        try simp only [Act.put, List.setIfInBounds_toArray, List.set_cons_zero, List.set_cons_succ]
        refine wpAnyH_take (i := 5) (v := ?_) (by simp only [List.getElem?_toArray, List.getElem?_cons_zero, List.getElem?_cons_succ]; rfl) (by kernel_rfl) (by kernel_rfl) (by kernel_rfl) (fun _ _ _ h => h) (Or.inl ⟨by rfl, ?_⟩) HM21.out.six ?_
        case refine_2 => (intro ww hSw; obtain ⟨s1, s2, s3, s4, s5, s6⟩ := hSw; go_simp; try with_reducible rfl)
        try simp only [Act.put, List.setIfInBounds_toArray, List.set_cons_zero, List.set_cons_succ]
        refine wpAnyH_ready (rs := [6]) (by kernel_rfl) (by simp) ?_
        refine AllReadyH.cons (by simp only [List.getElem?_toArray, List.getElem?_cons_zero, List.getElem?_cons_succ]; rfl) (fun K' hK => ?_) AllReadyH.nil
        go_simp
        refine (rfits_any s (.slice os s.length cs) w.heap.size (by omega) (fun q hq => ⟨(HSK.out.terms q hq).2.1, by have := (HSK.out.terms q hq).bulk; omega⟩) a (.slice oa a.ts.length ca) _ HM21.out.low.size HM21.out.s HM21.out.a.is hba HOKA.out.1.bare).mono ?_
        rintro e w22 ⟨rfl, hb⟩
        rw [HFA.out]
        have HM22 := Lib.hid (HM21.out.carry hb)
        obtain ⟨⟨x0, x1, x2⟩, -⟩ := box3 HM22.out.a.box; obtain ⟨⟨y0, y1, y2⟩, -⟩ := box3 HM22.out.b.box
        clear hb
        refine hK.out _ _ HM22.out.six (fun _ => ?_)
        clear hK
        try simp only [Act.put, List.setIfInBounds_toArray, List.set_cons_zero, List.set_cons_succ]
        refine wpAnyH_take (i := 7) (v := ?_) (by simp only [List.getElem?_toArray, List.getElem?_cons_zero, List.getElem?_cons_succ]; rfl) (by kernel_rfl) (by kernel_rfl) (by kernel_rfl) (fun _ _ _ h => h) (Or.inl ⟨by rfl, ?_⟩) HM22.out.six ?_
        case refine_2 => (intro ww hSw; obtain ⟨s1, s2, s3, s4, s5, s6⟩ := hSw; go_simp; try with_reducible rfl)
        try simp only [Act.put, List.setIfInBounds_toArray, List.set_cons_zero, List.set_cons_succ]
        refine wpAnyH_take (i := 8) (v := ?_) (by simp only [List.getElem?_toArray, List.getElem?_cons_zero, List.getElem?_cons_succ]; rfl) (by kernel_rfl) (by kernel_rfl) (by kernel_rfl) (fun _ _ _ h => h) (Or.inl ⟨by rfl, ?_⟩) HM22.out.six ?_
        case refine_2 => (intro ww hSw; obtain ⟨s1, s2, s3, s4, s5, s6⟩ := hSw; go_simp; try with_reducible rfl)
        try simp only [Act.put, List.setIfInBounds_toArray, List.set_cons_zero, List.set_cons_succ]
        refine wpAnyH_take (i := 9) (v := ?_) (by simp only [List.getElem?_toArray, List.getElem?_cons_zero, List.getElem?_cons_succ]; rfl) (by kernel_rfl) (by kernel_rfl) (by kernel_rfl) (fun _ _ _ h => h) (Or.inl ⟨by rfl, ?_⟩) HM22.out.six ?_
        case refine_2 => (intro ww hSw; obtain ⟨s1, s2, s3, s4, s5, s6⟩ := hSw; go_simp; try with_reducible rfl)
        try simp only [Act.put, List.setIfInBounds_toArray, List.set_cons_zero, List.set_cons_succ]
        refine wpAnyH_take (i := 10) (v := _) (by simp only [List.getElem?_toArray, List.getElem?_cons_zero, List.getElem?_cons_succ]; rfl) (by kernel_rfl) (by kernel_rfl) (by kernel_rfl) (fun _ _ _ h => h) (Or.inr ⟨by rfl, rfl⟩) HM22.out.six ?_
        try simp only [Act.put, List.setIfInBounds_toArray, List.set_cons_zero, List.set_cons_succ]
        refine wpAnyH_take (i := 11) (v := _) (by simp only [List.getElem?_toArray, List.getElem?_cons_zero, List.getElem?_cons_succ]; rfl) (by kernel_rfl) (by kernel_rfl) (by kernel_rfl) (fun _ _ _ h => h) (Or.inr ⟨by rfl, rfl⟩) HM22.out.six ?_
        try simp only [Act.put, List.setIfInBounds_toArray, List.set_cons_zero, List.set_cons_succ]
        refine wpAnyH_ready (rs := [12]) (by kernel_rfl) (by simp) ?_
        refine AllReadyH.cons (by simp only [List.getElem?_toArray, List.getElem?_cons_zero, List.getElem?_cons_succ]; rfl) (fun K' hK => ?_) AllReadyH.nil
        go_simp
        refine hK.out _ _ HM22.out.six (fun _ => ?_)
        clear hK
        try simp only [Act.put, List.setIfInBounds_toArray, List.set_cons_zero, List.set_cons_succ]
        refine wpAnyH_take (i := 13) (v := _) (by simp only [List.getElem?_toArray, List.getElem?_cons_zero, List.getElem?_cons_succ]; rfl) (by kernel_rfl) (by kernel_rfl) (by kernel_rfl) (fun _ _ _ h => h) (Or.inr ⟨by rfl, rfl⟩) HM22.out.six ?_
        try simp only [Act.put, List.setIfInBounds_toArray, List.set_cons_zero, List.set_cons_succ]
        refine wpAnyH_take (i := 14) (v := ?_) (by simp only [List.getElem?_toArray, List.getElem?_cons_zero, List.getElem?_cons_succ]; rfl) (by kernel_rfl) (by kernel_rfl) (by kernel_rfl) (fun _ _ _ h => h) (Or.inl ⟨by rfl, ?_⟩) HM22.out.six ?_
        case refine_2 => (intro ww hSw; obtain ⟨s1, s2, s3, s4, s5, s6⟩ := hSw; go_simp; try with_reducible rfl)
        try simp only [Act.put, List.setIfInBounds_toArray, List.set_cons_zero, List.set_cons_succ]
        refine wpAnyH_take (i := 15) (v := ?_) (by simp only [List.getElem?_toArray, List.getElem?_cons_zero, List.getElem?_cons_succ]; rfl) (by kernel_rfl) (by kernel_rfl) (by kernel_rfl) (fun _ _ _ h => h) (Or.inl ⟨by rfl, ?_⟩) HM22.out.six ?_
        case refine_2 => (intro ww hSw; obtain ⟨s1, s2, s3, s4, s5, s6⟩ := hSw; go_simp; try with_reducible rfl)
        try simp only [Act.put, List.setIfInBounds_toArray, List.set_cons_zero, List.set_cons_succ]
        refine wpAnyH_take (i := 16) (v := _) (by simp only [List.getElem?_toArray, List.getElem?_cons_zero, List.getElem?_cons_succ]; rfl) (by kernel_rfl) (by kernel_rfl) (by kernel_rfl) (fun _ _ _ h => h) (Or.inr ⟨by rfl, rfl⟩) HM22.out.six ?_
        try simp only [Act.put, List.setIfInBounds_toArray, List.set_cons_zero, List.set_cons_succ]
        refine wpAnyH_take (i := 17) (v := _) (by simp only [List.getElem?_toArray, List.getElem?_cons_zero, List.getElem?_cons_succ]; rfl) (by kernel_rfl) (by kernel_rfl) (by kernel_rfl) (fun _ _ _ h => h) (Or.inr ⟨by rfl, rfl⟩) HM22.out.six ?_
        try simp only [Act.put, List.setIfInBounds_toArray, List.set_cons_zero, List.set_cons_succ]
        refine wpAnyH_take (i := 19) (v := _) (by simp only [List.getElem?_toArray, List.getElem?_cons_zero, List.getElem?_cons_succ]; rfl) (by kernel_rfl) (by kernel_rfl) (by kernel_rfl) (fun _ _ _ h => h) (Or.inr ⟨by rfl, rfl⟩) HM22.out.six ?_
        try simp only [Act.put, List.setIfInBounds_toArray, List.set_cons_zero, List.set_cons_succ]
        refine wpAnyH_take (i := 20) (v := _) (by simp only [List.getElem?_toArray, List.getElem?_cons_zero, List.getElem?_cons_succ]; rfl) (by kernel_rfl) (by kernel_rfl) (by kernel_rfl) (fun _ _ _ h => h) (Or.inr ⟨by rfl, rfl⟩) HM22.out.six ?_
        try simp only [Act.put, List.setIfInBounds_toArray, List.set_cons_zero, List.set_cons_succ]
        refine wpAnyH_ready (rs := [18]) (by kernel_rfl) (by simp) ?_
        refine AllReadyH.cons (by simp only [List.getElem?_toArray, List.getElem?_cons_zero, List.getElem?_cons_succ]; rfl) (fun K' hK => ?_) AllReadyH.nil
        go_simp
        refine hK.out _ _ HM22.out.six (fun _ => ?_)
        clear hK
        try simp only [Act.put, List.setIfInBounds_toArray, List.set_cons_zero, List.set_cons_succ]
        refine wpAnyH_ready (rs := [21]) (by kernel_rfl) (by simp) ?_
        refine AllReadyH.cons (by simp only [List.getElem?_toArray, List.getElem?_cons_zero, List.getElem?_cons_succ]; rfl) (fun K' hK => ?_) AllReadyH.nil
        go_simp
        refine hK.out _ _ HM22.out.six (fun _ => ?_)
        clear hK
        try simp only [Act.put, List.setIfInBounds_toArray, List.set_cons_zero, List.set_cons_succ]
        refine wpAnyH_ready (rs := [22]) (by kernel_rfl) (by simp) ?_
        refine AllReadyH.cons (by simp only [List.getElem?_toArray, List.getElem?_cons_zero, List.getElem?_cons_succ]; rfl) (fun K' hK => ?_) AllReadyH.nil
        go_simp
        refine hK.out _ _ HM22.out.six (fun _ => ?_)
        clear hK
        try simp only [Act.put, List.setIfInBounds_toArray, List.set_cons_zero, List.set_cons_succ]
        refine wpAnyH_take (i := 23) (v := _) (by simp only [List.getElem?_toArray, List.getElem?_cons_zero, List.getElem?_cons_succ]; rfl) (by kernel_rfl) (by kernel_rfl) (by kernel_rfl) (fun _ _ _ h => h) (Or.inr ⟨by rfl, rfl⟩) HM22.out.six ?_
        try simp only [Act.put, List.setIfInBounds_toArray, List.set_cons_zero, List.set_cons_succ]
        refine wpAnyH_take (i := 24) (v := ?_) (by simp only [List.getElem?_toArray, List.getElem?_cons_zero, List.getElem?_cons_succ]; rfl) (by kernel_rfl) (by kernel_rfl) (by kernel_rfl) (fun _ _ _ h => h) (Or.inl ⟨by rfl, ?_⟩) HM22.out.six ?_
        case refine_2 => (intro ww hSw; obtain ⟨s1, s2, s3, s4, s5, s6⟩ := hSw; go_simp; try with_reducible rfl)
        try simp only [Act.put, List.setIfInBounds_toArray, List.set_cons_zero, List.set_cons_succ]
        refine wpAnyH_done (by kernel_rfl) ?_ _
        refine NoPanic.normal ?_
        go_wp2_with fail
        refine (alive_any _).mono ?_
        rintro e w9 ⟨rfl, hb9⟩
        have HL9 : Hid (Below w.heap.size w w9) := Lib.hid (HM22.out.low.trans (hb9.mono HM22.out.low.size))
        clear hb9
        go_wp2_with fail
        go_ret
        exact ⟨rfl, HL9.out⟩
    · have hcn : (csC s != 0) = true := by rw [bne_iff_ne]; exact hcs
      clear hcs
      have HM20 := Lib.hid HM2.out.drew
      obtain ⟨⟨x0, x1, x2⟩, -⟩ := box3 HM2.out.a.box; obtain ⟨⟨y0, y1, y2⟩, -⟩ := box3 HM2.out.b.box
      go_wp2_with fail
      refine wp_region_noPanic ?_
      refine wp_region_held_drew (S := fun w' => w'.cell? ⟨w.heap.size, 0, none⟩ = some (.string a.nm) ∧ w'.cell? ⟨w.heap.size, 1, none⟩ = some (.bool a.vr) ∧ w'.cell? ⟨w.heap.size, 2, none⟩ = some (.slice oa a.ts.length ca) ∧ w'.cell? ⟨w.heap.size + 1, 0, none⟩ = some (.string b.nm) ∧ w'.cell? ⟨w.heap.size + 1, 1, none⟩ = some (.bool b.vr) ∧ w'.cell? ⟨w.heap.size + 1, 2, none⟩ = some (.slice ob b.ts.length cb)) (by kernel_rfl) HM20.out.six (fun _ => ?_)
      simp only [List.size_toArray, List.length_cons, List.length_nil, Nat.reduceAdd]
      refine wpAnyH_take (i := 0) (v := ?_) (by simp only [List.getElem?_toArray, List.getElem?_cons_zero]; rfl) (by kernel_rfl) (by kernel_rfl) (by kernel_rfl) (fun _ _ _ h => h) (Or.inl ⟨by rfl, ?_⟩) HM20.out.six ?_
      case refine_2 => (intro ww hSw; obtain ⟨s1, s2, s3, s4, s5, s6⟩ := hSw; go_simp; try with_reducible rfl)
      try simp only [Act.put, List.setIfInBounds_toArray, List.set_cons_zero, List.set_cons_succ]
      refine wpAnyH_ready (rs := [1]) (by kernel_rfl) (by simp) ?_
      refine AllReadyH.cons (by simp only [List.getElem?_toArray, List.getElem?_cons_zero, List.getElem?_cons_succ]; rfl) (fun K' hK => ?_) AllReadyH.nil
      go_simp
      refine (rcheckSubst_full s (.slice os s.length cs) _ (HM20.out.s.carry (Below.refl _ _) HM20.out.low.size) hbs).mono ?_
      rintro e w21 ⟨rfl, hb⟩
      have HM21 := Lib.hid (HM20.out.carry hb)
      obtain ⟨⟨x0, x1, x2⟩, -⟩ := box3 HM21.out.a.box; obtain ⟨⟨y0, y1, y2⟩, -⟩ := box3 HM21.out.b.box
      clear hb
      refine hK.out _ _ HM21.out.six (fun _ => ?_)
      clear hK
      try simp only [Act.put, List.setIfInBounds_toArray, List.set_cons_zero, List.set_cons_succ]
      refine wpAnyH_take (i := 2) (v := ?_) (by simp only [List.getElem?_toArray, List.getElem?_cons_zero, List.getElem?_cons_succ]; rfl) (by kernel_rfl) (by kernel_rfl) (by kernel_rfl) (fun _ _ _ h => h) (Or.inl ⟨by rfl, ?_⟩) HM21.out.six ?_
      case refine_2 => (intro ww hSw; obtain ⟨s1, s2, s3, s4, s5, s6⟩ := hSw; go_simp; try with_reducible rfl)
      try simp only [Act.put, List.setIfInBounds_toArray, List.set_cons_zero, List.set_cons_succ]
      refine wpAnyH_take (i := 3) (v := ?_) (by simp only [List.getElem?_toArray, List.getElem?_cons_zero, List.getElem?_cons_succ]; rfl) (by kernel_rfl) (by kernel_rfl) (by kernel_rfl) (fun _ _ _ h => h) (Or.inl ⟨by rfl, ?_⟩) HM21.out.six ?_
      case refine_2 => (intro ww hSw; obtain ⟨s1, s2, s3, s4, s5, s6⟩ := hSw; go_simp; try with_reducible rfl)
      try simp only [Act.put, List.setIfInBounds_toArray, List.set_cons_zero, List.set_cons_succ]
      refine wpAnyH_take (i := 4) (v := _) (by simp only [List.getElem?_toArray, List.getElem?_cons_zero, List.getElem?_cons_succ]; rfl) (by kernel_rfl) (by kernel_rfl) (by kernel_rfl) (fun _ _ _ h => h) (Or.inr ⟨by rfl, rfl⟩) HM21.out.six ?_
      try simp only [Act.put, List.setIfInBounds_toArray, List.set_cons_zero, List.set_cons_succ]
      refine wpAnyH_take (i := 5) (v := _) (by simp only [List.getElem?_toArray, List.getElem?_cons_zero, List.getElem?_cons_succ]; rfl) (by kernel_rfl) (by kernel_rfl) (by kernel_rfl) (fun _ _ _ h => h) (Or.inr ⟨by rfl, rfl⟩) HM21.out.six ?_
      try simp only [Act.put, List.setIfInBounds_toArray, List.set_cons_zero, List.set_cons_succ]
      refine wpAnyH_ready (rs := [6]) (by kernel_rfl) (by simp) ?_
      refine AllReadyH.cons (by simp only [List.getElem?_toArray, List.getElem?_cons_zero, List.getElem?_cons_succ]; rfl) (fun K' hK => ?_) AllReadyH.nil
      go_simp
      refine hK.out _ _ HM21.out.six (fun _ => ?_)
      clear hK
      try simp only [Act.put, List.setIfInBounds_toArray, List.set_cons_zero, List.set_cons_succ]
      refine wpAnyH_take (i := 7) (v := _) (by simp only [List.getElem?_toArray, List.getElem?_cons_zero, List.getElem?_cons_succ]; rfl) (by kernel_rfl) (by kernel_rfl) (by kernel_rfl) (fun _ _ _ h => h) (Or.inr ⟨by rfl, rfl⟩) HM21.out.six ?_
      try simp only [Act.put, List.setIfInBounds_toArray, List.set_cons_zero, List.set_cons_succ]
      refine wpAnyH_take (i := 8) (v := ?_) (by simp only [List.getElem?_toArray, List.getElem?_cons_zero, List.getElem?_cons_succ]; rfl) (by kernel_rfl) (by kernel_rfl) (by kernel_rfl) (fun _ _ _ h => h) (Or.inl ⟨by rfl, ?_⟩) HM21.out.six ?_
      case refine_2 => (intro ww hSw; obtain ⟨s1, s2, s3, s4, s5, s6⟩ := hSw; go_simp; try with_reducible rfl)
      try simp only [Act.put, List.setIfInBounds_toArray, List.set_cons_zero, List.set_cons_succ]
      refine wpAnyH_take (i := 9) (v := ?_) (by simp only [List.getElem?_toArray, List.getElem?_cons_zero, List.getElem?_cons_succ]; rfl) (by kernel_rfl) (by kernel_rfl) (by kernel_rfl) (fun _ _ _ h => h) (Or.inl ⟨by rfl, ?_⟩) HM21.out.six ?_
      case refine_2 => (intro ww hSw; obtain ⟨s1, s2, s3, s4, s5, s6⟩ := hSw; go_simp; try with_reducible rfl)
      try simp only [Act.put, List.setIfInBounds_toArray, List.set_cons_zero, List.set_cons_succ]
      refine wpAnyH_take (i := 10) (v := _) (by simp only [List.getElem?_toArray, List.getElem?_cons_zero, List.getElem?_cons_succ]; rfl) (by kernel_rfl) (by kernel_rfl) (by kernel_rfl) (fun _ _ _ h => h) (Or.inr ⟨by rfl, rfl⟩) HM21.out.six ?_
      try simp only [Act.put, List.setIfInBounds_toArray, List.set_cons_zero, List.set_cons_succ]
      refine wpAnyH_take (i := 11) (v := _) (by simp only [List.getElem?_toArray, List.getElem?_cons_zero, List.getElem?_cons_succ]; rfl) (by kernel_rfl) (by kernel_rfl) (by kernel_rfl) (fun _ _ _ h => h) (Or.inr ⟨by rfl, rfl⟩) HM21.out.six ?_
      try simp only [Act.put, List.setIfInBounds_toArray, List.set_cons_zero, List.set_cons_succ]
      refine wpAnyH_ready (rs := [12]) (by kernel_rfl) (by simp) ?_
      refine AllReadyH.cons (by simp only [List.getElem?_toArray, List.getElem?_cons_zero, List.getElem?_cons_succ]; rfl) (fun K' hK => ?_) AllReadyH.nil
      go_simp
      refine hK.out _ _ HM21.out.six (fun _ => ?_)
      clear hK
      try simp only [Act.put, List.setIfInBounds_toArray, List.set_cons_zero, List.set_cons_succ]
      refine wpAnyH_take (i := 13) (v := _) (by simp only [List.getElem?_toArray, List.getElem?_cons_zero, List.getElem?_cons_succ]; rfl) (by kernel_rfl) (by kernel_rfl) (by kernel_rfl) (fun _ _ _ h => h) (Or.inr ⟨by rfl, rfl⟩) HM21.out.six ?_
      try simp only [Act.put, List.setIfInBounds_toArray, List.set_cons_zero, List.set_cons_succ]
      refine wpAnyH_take (i := 14) (v := ?_) (by simp only [List.getElem?_toArray, List.getElem?_cons_zero, List.getElem?_cons_succ]; rfl) (by kernel_rfl) (by kernel_rfl) (by kernel_rfl) (fun _ _ _ h => h) (Or.inl ⟨by rfl, ?_⟩) HM21.out.six ?_
      case refine_2 => (intro ww hSw; obtain ⟨s1, s2, s3, s4, s5, s6⟩ := hSw; go_simp; try with_reducible rfl)
      try simp only [Act.put, List.setIfInBounds_toArray, List.set_cons_zero, List.set_cons_succ]
      refine wpAnyH_take (i := 15) (v := ?_) (by simp only [List.getElem?_toArray, List.getElem?_cons_zero, List.getElem?_cons_succ]; rfl) (by kernel_rfl) (by kernel_rfl) (by kernel_rfl) (fun _ _ _ h => h) (Or.inl ⟨by rfl, ?_⟩) HM21.out.six ?_
      case refine_2 => (intro ww hSw; obtain ⟨s1, s2, s3, s4, s5, s6⟩ := hSw; go_simp; try with_reducible rfl)
      try simp only [Act.put, List.setIfInBounds_toArray, List.set_cons_zero, List.set_cons_succ]
      refine wpAnyH_take (i := 16) (v := _) (by simp only [List.getElem?_toArray, List.getElem?_cons_zero, List.getElem?_cons_succ]; rfl) (by kernel_rfl) (by kernel_rfl) (by kernel_rfl) (fun _ _ _ h => h) (Or.inr ⟨by rfl, rfl⟩) HM21.out.six ?_
      try simp only [Act.put, List.setIfInBounds_toArray, List.set_cons_zero, List.set_cons_succ]
      refine wpAnyH_take (i := 17) (v := _) (by simp only [List.getElem?_toArray, List.getElem?_cons_zero, List.getElem?_cons_succ]; rfl) (by kernel_rfl) (by kernel_rfl) (by kernel_rfl) (fun _ _ _ h => h) (Or.inr ⟨by rfl, rfl⟩) HM21.out.six ?_
      try simp only [Act.put, List.setIfInBounds_toArray, List.set_cons_zero, List.set_cons_succ]
      refine wpAnyH_take (i := 19) (v := _) (by simp only [List.getElem?_toArray, List.getElem?_cons_zero, List.getElem?_cons_succ]; rfl) (by kernel_rfl) (by kernel_rfl) (by kernel_rfl) (fun _ _ _ h => h) (Or.inr ⟨by rfl, rfl⟩) HM21.out.six ?_
      try simp only [Act.put, List.setIfInBounds_toArray, List.set_cons_zero, List.set_cons_succ]
      refine wpAnyH_take (i := 20) (v := _) (by simp only [List.getElem?_toArray, List.getElem?_cons_zero, List.getElem?_cons_succ]; rfl) (by kernel_rfl) (by kernel_rfl) (by kernel_rfl) (fun _ _ _ h => h) (Or.inr ⟨by rfl, rfl⟩) HM21.out.six ?_
      try simp only [Act.put, List.setIfInBounds_toArray, List.set_cons_zero, List.set_cons_succ]
      refine wpAnyH_ready (rs := [18]) (by kernel_rfl) (by simp) ?_
      refine AllReadyH.cons (by simp only [List.getElem?_toArray, List.getElem?_cons_zero, List.getElem?_cons_succ]; rfl) (fun K' hK => ?_) AllReadyH.nil
      go_simp
      refine hK.out _ _ HM21.out.six (fun _ => ?_)
      clear hK
      try simp only [Act.put, List.setIfInBounds_toArray, List.set_cons_zero, List.set_cons_succ]
      refine wpAnyH_ready (rs := [21]) (by kernel_rfl) (by simp) ?_
      refine AllReadyH.cons (by simp only [List.getElem?_toArray, List.getElem?_cons_zero, List.getElem?_cons_succ]; rfl) (fun K' hK => ?_) AllReadyH.nil
      go_simp
      refine hK.out _ _ HM21.out.six (fun _ => ?_)
      clear hK
      try simp only [Act.put, List.setIfInBounds_toArray, List.set_cons_zero, List.set_cons_succ]
      refine wpAnyH_ready (rs := [22]) (by kernel_rfl) (by simp) ?_
      refine AllReadyH.cons (by simp only [List.getElem?_toArray, List.getElem?_cons_zero, List.getElem?_cons_succ]; rfl) (fun K' hK => ?_) AllReadyH.nil
      go_simp
      refine hK.out _ _ HM21.out.six (fun _ => ?_)
      clear hK
      try simp only [Act.put, List.setIfInBounds_toArray, List.set_cons_zero, List.set_cons_succ]
      refine wpAnyH_take (i := 23) (v := _) (by simp only [List.getElem?_toArray, List.getElem?_cons_zero, List.getElem?_cons_succ]; rfl) (by kernel_rfl) (by kernel_rfl) (by kernel_rfl) (fun _ _ _ h => h) (Or.inr ⟨by rfl, rfl⟩) HM21.out.six ?_
      try simp only [Act.put, List.setIfInBounds_toArray, List.set_cons_zero, List.set_cons_succ]
      refine wpAnyH_take (i := 24) (v := ?_) (by simp only [List.getElem?_toArray, List.getElem?_cons_zero, List.getElem?_cons_succ]; rfl) (by kernel_rfl) (by kernel_rfl) (by kernel_rfl) (fun _ _ _ h => h) (Or.inl ⟨by rfl, ?_⟩) HM21.out.six ?_
      case refine_2 => (intro ww hSw; obtain ⟨s1, s2, s3, s4, s5, s6⟩ := hSw; go_simp; try with_reducible rfl)
      try simp only [Act.put, List.setIfInBounds_toArray, List.set_cons_zero, List.set_cons_succ]
      refine wpAnyH_done (by kernel_rfl) ?_ _
      refine NoPanic.normal ?_
      go_wp2_with fail
      refine (alive_any _).mono ?_
      rintro e w9 ⟨rfl, hb9⟩
      have HL9 : Hid (Below w.heap.size w w9) := Lib.hid (HM21.out.low.trans (hb9.mono HM21.out.low.size))
      clear hb9
      go_wp2_with fail
      go_ret
      exact ⟨rfl, HL9.out⟩
  · have HOKA := Lib.hid hA
    have HOKB := Lib.hid hB
    clear hA hB
    go_wp2_with fail
    refine HCA.out.mono ?_
    rintro e w2 ⟨⟨c2, rfl, hc2⟩, hb2⟩
    have HM2 := Lib.hid ((HM1.out.carry HX.out).carry hb2)
    obtain rfl : c2 = 0 := hc2.2 (by simp only [List.mem_cons, List.not_mem_nil, or_false]; rintro t (rfl | rfl); exact HOKA.out; exact HOKB.out)
    clear hc2 hb2
    obtain ⟨⟨x0, x1, x2⟩, -⟩ := box3 HM2.out.a.box; obtain ⟨⟨y0, y1, y2⟩, -⟩ := box3 HM2.out.b.box
    go_wp2_with fail
    refine (alive_any _).mono ?_
    rintro e w9 ⟨rfl, hb9⟩
    have HL9 : Hid (Below w.heap.size w w9) := Lib.hid (HM2.out.low.trans (hb9.mono HM2.out.low.size))
    clear hb9
    go_wp2_with fail
    go_ret
    exact ⟨rfl, HL9.out⟩
  · have HOKA := Lib.hid hA
    have HOKB := Lib.hid hB
    have hv' := hv
    obtain ⟨ou, cu, rfl, -, -⟩ := hv'
    have HUO := Lib.hid hU.ok
    have HUS := Lib.hid hU
    have hul := hU.len
    have hub : bdBulk U ≤ 1048576 := hU.ok.bulk (by omega)
    have HU1 := Lib.hid hv
    clear hA hB hv hU
    go_wp2_with fail
    refine HCA.out.mono ?_
    rintro e w2 ⟨⟨c2, rfl, hc2⟩, hb2⟩
    have HM2 := Lib.hid ((HM1.out.carry HX.out).carry hb2)
    obtain rfl : c2 = 0 := hc2.2 (by simp only [List.mem_cons, List.not_mem_nil, or_false]; rintro t (rfl | rfl); exact HOKA.out; exact HOKB.out)
    have HU2 := Lib.hid (HU1.out.carry (HX.out.trans (hb2.mono HX.out.size)) (Nat.le_refl _))
    have HZ2 := Lib.hid (Nat.le_trans HX.out.size hb2.size)
    clear hc2 hb2
    obtain ⟨⟨x0, x1, x2⟩, -⟩ := box3 HM2.out.a.box; obtain ⟨⟨y0, y1, y2⟩, -⟩ := box3 HM2.out.b.box
    go_upto_region 7 with fail
    go_cut [57] (fun s57 wx => s57 = .bool false ∧ Hid (LmSt w wx a b (.slice oa a.ts.length ca) (.slice ob b.ts.length cb) s (.slice os s.length cs)) ∧ Hid (BindsIs w1.heap.size wx U (.slice ou U.length cu)) ∧ Hid (w1.heap.size ≤ wx.heap.size))
    case first =>
      have HCS := Lib.hid (csC_zero.2 HUO.out)
      have HM10 := Lib.hid HM2.out.drew
      have HU10 := Lib.hid (HU2.out.carry ((Below.refl _ _).drew.mono HZ2.out) (Nat.le_refl _))
      have HZ10 : Hid (w1.heap.size ≤ w2.drew.heap.size) := Lib.hid HZ2.out
      by_cases hfa : (apB U a).size ≤ 4000 ∧ (apB U a).depth ≤ 200
      · have HFA : Hid (decide ((apB U a).size ≤ 4000 ∧ (apB U a).depth ≤ 200) = true) := Lib.hid (decide_eq_true hfa)
        have HBA := Lib.hid (show (apB U a).bulk ≤ 1048576 by have := (apB_ok HUO.out HOKA.out.1 hfa).bulk; omega)
        clear hfa
        by_cases hfb : (apB U b).size ≤ 4000 ∧ (apB U b).depth ≤ 200
        · have HFB : Hid (decide ((apB U b).size ≤ 4000 ∧ (apB U b).depth ≤ 200) = true) := Lib.hid (decide_eq_true hfb)
          have HBB := Lib.hid (show (apB U b).bulk ≤ 1048576 by have := (apB_ok HUO.out HOKB.out.1 hfb).bulk; omega)
          clear hfb
          go_region_held3 (fun w' => w'.cell? ⟨w.heap.size, 0, none⟩ = some (.string a.nm) ∧ w'.cell? ⟨w.heap.size, 1, none⟩ = some (.bool a.vr) ∧ w'.cell? ⟨w.heap.size, 2, none⟩ = some (.slice oa a.ts.length ca) ∧ w'.cell? ⟨w.heap.size + 1, 0, none⟩ = some (.string b.nm) ∧ w'.cell? ⟨w.heap.size + 1, 1, none⟩ = some (.bool b.vr) ∧ w'.cell? ⟨w.heap.size + 1, 2, none⟩ = some (.slice ob b.ts.length cb)) (go_keep) ((first
            | (go_at_call 12
               refine (requal_any (apB U a) (apB U b) _ _ _ HBA.out HBB.out HXa2.out HXb.out).mono ?_
               rintro e w16 ⟨⟨x16, rfl, h16⟩, hb⟩
               have HEQ := Lib.hid h16
               clear h16
               have HM16 := Lib.hid (HM15.out.carry hb)
               have HU16 := Lib.hid (HU15.out.carry (hb.mono HZ15.out) (Nat.le_refl _))
               have HZ16 := Lib.hid (Nat.le_trans HZ15.out hb.size)
               obtain ⟨⟨x0, x1, x2⟩, -⟩ := box3 HM16.out.a.box; obtain ⟨⟨y0, y1, y2⟩, -⟩ := box3 HM16.out.b.box
               clear hb)
            | (go_at_call 32
               refine (rapply_any U (.slice ou U.length cu) w1.heap.size (by omega) b (.slice ob b.ts.length cb) _ HZ14.out HU14.out HM14.out.b.is hbb).mono ?_
               rintro e w15 ⟨⟨sl15, rfl, h15⟩, hb⟩
               have h15 := h15.lt.toIs fun b hb => hb.2
               obtain ⟨o15, c15, rfl, -⟩ := h15.form
               dsimp only [tmv]
               have HXb := Lib.hid h15
               clear h15
               have HXa2 := Lib.hid (HXa.out.carry hb hb.size)
               have HM15 := Lib.hid (HM14.out.carry hb)
               have HU15 := Lib.hid (HU14.out.carry (hb.mono HZ14.out) (Nat.le_refl _))
               have HZ15 := Lib.hid (Nat.le_trans HZ14.out hb.size)
               obtain ⟨⟨x0, x1, x2⟩, -⟩ := box3 HM15.out.a.box; obtain ⟨⟨y0, y1, y2⟩, -⟩ := box3 HM15.out.b.box
               clear hb)
            | (go_at_call 32
               refine (rapply_any U (.slice ou U.length cu) w1.heap.size (by omega) a (.slice oa a.ts.length ca) _ HZ13.out HU13.out HM13.out.a.is hba).mono ?_
               rintro e w14 ⟨⟨sl14, rfl, h14⟩, hb⟩
               have h14 := h14.lt.toIs fun b hb => hb.2
               obtain ⟨o14, c14, rfl, -⟩ := h14.form
               dsimp only [tmv]
               have HXa := Lib.hid h14
               clear h14
               have HM14 := Lib.hid (HM13.out.carry hb)
               have HU14 := Lib.hid (HU13.out.carry (hb.mono HZ13.out) (Nat.le_refl _))
               have HZ14 := Lib.hid (Nat.le_trans HZ13.out hb.size)
               obtain ⟨⟨x0, x1, x2⟩, -⟩ := box3 HM14.out.a.box; obtain ⟨⟨y0, y1, y2⟩, -⟩ := box3 HM14.out.b.box
               clear hb)
            | (go_at_call 31
               refine (rfits_any U (.slice ou U.length cu) w1.heap.size (by omega) (fun q hq => ⟨(HUO.out.terms q hq).2.1, by have := (HUO.out.terms q hq).bulk; omega⟩) b (.slice ob b.ts.length cb) _ HZ12.out HU12.out HM12.out.b.is hbb HOKB.out.1.bare).mono ?_
               rintro e w13 ⟨rfl, hb⟩
               rw [HFB.out]
               have HM13 := Lib.hid (HM12.out.carry hb)
               have HU13 := Lib.hid (HU12.out.carry (hb.mono HZ12.out) (Nat.le_refl _))
               have HZ13 := Lib.hid (Nat.le_trans HZ12.out hb.size)
               obtain ⟨⟨x0, x1, x2⟩, -⟩ := box3 HM13.out.a.box; obtain ⟨⟨y0, y1, y2⟩, -⟩ := box3 HM13.out.b.box
               clear hb)
            | (go_at_call 31
               refine (rfits_any U (.slice ou U.length cu) w1.heap.size (by omega) (fun q hq => ⟨(HUO.out.terms q hq).2.1, by have := (HUO.out.terms q hq).bulk; omega⟩) a (.slice oa a.ts.length ca) _ HZ11.out HU11.out HM11.out.a.is hba HOKA.out.1.bare).mono ?_
               rintro e w12 ⟨rfl, hb⟩
               rw [HFA.out]
               have HM12 := Lib.hid (HM11.out.carry hb)
               have HU12 := Lib.hid (HU11.out.carry (hb.mono HZ11.out) (Nat.le_refl _))
               have HZ12 := Lib.hid (Nat.le_trans HZ11.out hb.size)
               obtain ⟨⟨x0, x1, x2⟩, -⟩ := box3 HM12.out.a.box; obtain ⟨⟨y0, y1, y2⟩, -⟩ := box3 HM12.out.b.box
               clear hb)
            | (go_at_call 30
               refine (rcheckSubst_full U (.slice ou U.length cu) _ (HU10.out.carry (Below.refl _ _) HZ10.out) hub).mono ?_
               rintro e w11 ⟨rfl, hb⟩
               rw [HCS.out]
               have HM11 := Lib.hid (HM10.out.carry hb)
               have HU11 := Lib.hid (HU10.out.carry (hb.mono HZ10.out) (Nat.le_refl _))
               have HZ11 := Lib.hid (Nat.le_trans HZ10.out hb.size)
               obtain ⟨⟨x0, x1, x2⟩, -⟩ := box3 HM11.out.a.box; obtain ⟨⟨y0, y1, y2⟩, -⟩ := box3 HM11.out.b.box
               clear hb)))
          obtain rfl : x16 = true := HEQ.out.2 HUS.out.uni
          all_goals (go_wp2_with fail; go_meet; exact ⟨rfl, HM16, HU16, HZ16⟩)
        · have HFB : Hid (decide ((apB U b).size ≤ 4000 ∧ (apB U b).depth ≤ 200) = false) := Lib.hid (decide_eq_false hfb)
          clear hfb
          refine wp_region_noPanic ?_
          refine wp_region_held_drew (S := fun w' => w'.cell? ⟨w.heap.size, 0, none⟩ = some (.string a.nm) ∧ w'.cell? ⟨w.heap.size, 1, none⟩ = some (.bool a.vr) ∧ w'.cell? ⟨w.heap.size, 2, none⟩ = some (.slice oa a.ts.length ca) ∧ w'.cell? ⟨w.heap.size + 1, 0, none⟩ = some (.string b.nm) ∧ w'.cell? ⟨w.heap.size + 1, 1, none⟩ = some (.bool b.vr) ∧ w'.cell? ⟨w.heap.size + 1, 2, none⟩ = some (.slice ob b.ts.length cb)) (by kernel_rfl) HM10.out.six (fun _ => ?_)
          simp only [List.size_toArray, List.length_cons, List.length_nil, Nat.reduceAdd]
          refine wpAnyH_take (i := 0) (v := ?_) (by simp only [List.getElem?_toArray, List.getElem?_cons_zero]; rfl) (by kernel_rfl) (by kernel_rfl) (by kernel_rfl) (fun _ _ _ h => h) (Or.inl ⟨by rfl, ?_⟩) HM10.out.six ?_
          case refine_2 => (intro ww hSw; obtain ⟨s1, s2, s3, s4, s5, s6⟩ := hSw; go_simp; try with_reducible rfl)
          try simp only [Act.put, List.setIfInBounds_toArray, List.set_cons_zero, List.set_cons_succ]
          refine wpAnyH_ready (rs := [1]) (by kernel_rfl) (by simp) ?_
          refine AllReadyH.cons (by simp only [List.getElem?_toArray, List.getElem?_cons_zero, List.getElem?_cons_succ]; rfl) (fun K' hK => ?_) AllReadyH.nil
          go_simp
          refine (rcheckSubst_full U (.slice ou U.length cu) _ (HU10.out.carry (Below.refl _ _) HZ10.out) hub).mono ?_
          rintro e w11 ⟨rfl, hb⟩
          rw [HCS.out]
          have HM11 := Lib.hid (HM10.out.carry hb)
          have HU11 := Lib.hid (HU10.out.carry (hb.mono HZ10.out) (Nat.le_refl _))
          have HZ11 := Lib.hid (Nat.le_trans HZ10.out hb.size)
          obtain ⟨⟨x0, x1, x2⟩, -⟩ := box3 HM11.out.a.box; obtain ⟨⟨y0, y1, y2⟩, -⟩ := box3 HM11.out.b.box
          clear hb
          refine hK.out _ _ HM11.out.six (fun _ => ?_)
          clear hK
          try simp only [Act.put, List.setIfInBounds_toArray, List.set_cons_zero, List.set_cons_succ]
          refine wpAnyH_take (i := 2) (v := ?_) (by simp only [List.getElem?_toArray, List.getElem?_cons_zero, List.getElem?_cons_succ]; rfl) (by kernel_rfl) (by kernel_rfl) (by kernel_rfl) (fun _ _ _ h => h) (Or.inl ⟨by rfl, ?_⟩) HM11.out.six ?_
          case refine_2 => (intro ww hSw; obtain ⟨s1, s2, s3, s4, s5, s6⟩ := hSw; go_simp; try with_reducible rfl)
          try simp only [Act.put, List.setIfInBounds_toArray, List.set_cons_zero, List.set_cons_succ]
          refine wpAnyH_take (i := 3) (v := ?_) (by simp only [List.getElem?_toArray, List.getElem?_cons_zero, List.getElem?_cons_succ]; rfl) (by kernel_rfl) (by kernel_rfl) (by kernel_rfl) (fun _ _ _ h => h) (Or.inl ⟨by rfl, ?_⟩) HM11.out.six ?_
          case refine_2 => (intro ww hSw; obtain ⟨s1, s2, s3, s4, s5, s6⟩ := hSw; go_simp; try with_reducible rfl)
          try simp only [Act.put, List.setIfInBounds_toArray, List.set_cons_zero, List.set_cons_succ]
          refine wpAnyH_take (i := 4) (v := ?_) (by simp only [List.getElem?_toArray, List.getElem?_cons_zero, List.getElem?_cons_succ]; rfl) (by kernel_rfl) (by kernel_rfl) (by kernel_rfl) (fun _ _ _ h => h) (Or.inl ⟨by rfl, ?_⟩) HM11.out.six ?_
          case refine_2 => (intro ww hSw; obtain ⟨s1, s2, s3, s4, s5, s6⟩ := hSw; go_simp; try with_reducible rfl)
          try simp only [Act.put, List.setIfInBounds_toArray, List.set_cons_zero, List.set_cons_succ]
          refine wpAnyH_take (i := 5) (v := ?_) (by simp only [List.getElem?_toArray, List.getElem?_cons_zero, List.getElem?_cons_succ]; rfl) (by kernel_rfl) (by kernel_rfl) (by kernel_rfl) (fun _ _ _ h => h) (Or.inl ⟨by rfl, ?_⟩) HM11.out.six ?_
          case refine_2 => (intro ww hSw; obtain ⟨s1, s2, s3, s4, s5, s6⟩ := hSw; go_simp; try with_reducible rfl)
          try simp only [Act.put, List.setIfInBounds_toArray, List.set_cons_zero, List.set_cons_succ]
          refine wpAnyH_ready (rs := [6]) (by kernel_rfl) (by simp) ?_
          refine AllReadyH.cons (by simp only [List.getElem?_toArray, List.getElem?_cons_zero, List.getElem?_cons_succ]; rfl) (fun K' hK => ?_) AllReadyH.nil
          go_simp
          refine (rfits_any U (.slice ou U.length cu) w1.heap.size (by omega) (fun q hq => ⟨(HUO.out.terms q hq).2.1, by have := (HUO.out.terms q hq).bulk; omega⟩) a (.slice oa a.ts.length ca) _ HZ11.out HU11.out HM11.out.a.is hba HOKA.out.1.bare).mono ?_
          rintro e w12 ⟨rfl, hb⟩
          rw [HFA.out]
          have HM12 := Lib.hid (HM11.out.carry hb)
          have HU12 := Lib.hid (HU11.out.carry (hb.mono HZ11.out) (Nat.le_refl _))
          have HZ12 := Lib.hid (Nat.le_trans HZ11.out hb.size)
          obtain ⟨⟨x0, x1, x2⟩, -⟩ := box3 HM12.out.a.box; obtain ⟨⟨y0, y1, y2⟩, -⟩ := box3 HM12.out.b.box
          clear hb
          refine hK.out _ _ HM12.out.six (fun _ => ?_)
          clear hK
          try simp only [Act.put, List.setIfInBounds_toArray, List.set_cons_zero, List.set_cons_succ]
          refine wpAnyH_take (i := 7) (v := ?_) (by simp only [List.getElem?_toArray, List.getElem?_cons_zero, List.getElem?_cons_succ]; rfl) (by kernel_rfl) (by kernel_rfl) (by kernel_rfl) (fun _ _ _ h => h) (Or.inl ⟨by rfl, ?_⟩) HM12.out.six ?_
          case refine_2 => (intro ww hSw; obtain ⟨s1, s2, s3, s4, s5, s6⟩ := hSw; go_simp; try with_reducible rfl)
          try simp only [Act.put, List.setIfInBounds_toArray, List.set_cons_zero, List.set_cons_succ]
          refine wpAnyH_take (i := 8) (v := ?_) (by simp only [List.getElem?_toArray, List.getElem?_cons_zero, List.getElem?_cons_succ]; rfl) (by kernel_rfl) (by kernel_rfl) (by kernel_rfl) (fun _ _ _ h => h) (Or.inl ⟨by rfl, ?_⟩) HM12.out.six ?_
          case refine_2 => (intro ww hSw; obtain ⟨s1, s2, s3, s4, s5, s6⟩ := hSw; go_simp; try with_reducible rfl)
          try simp only [Act.put, List.setIfInBounds_toArray, List.set_cons_zero, List.set_cons_succ]
          refine wpAnyH_take (i := 9) (v := ?_) (by simp only [List.getElem?_toArray, List.getElem?_cons_zero, List.getElem?_cons_succ]; rfl) (by kernel_rfl) (by kernel_rfl) (by kernel_rfl) (fun _ _ _ h => h) (Or.inl ⟨by rfl, ?_⟩) HM12.out.six ?_
          case refine_2 => (intro ww hSw; obtain ⟨s1, s2, s3, s4, s5, s6⟩ := hSw; go_simp; try with_reducible rfl)
          try simp only [Act.put, List.setIfInBounds_toArray, List.set_cons_zero, List.set_cons_succ]
          refine wpAnyH_ready (rs := [10]) (by kernel_rfl) (by simp) ?_
          refine AllReadyH.cons (by simp only [List.getElem?_toArray, List.getElem?_cons_zero, List.getElem?_cons_succ]; rfl) (fun K' hK => ?_) AllReadyH.nil
          go_simp
          refine (rfits_any U (.slice ou U.length cu) w1.heap.size (by omega) (fun q hq => ⟨(HUO.out.terms q hq).2.1, by have := (HUO.out.terms q hq).bulk; omega⟩) b (.slice ob b.ts.length cb) _ HZ12.out HU12.out HM12.out.b.is hbb HOKB.out.1.bare).mono ?_
          rintro e w13 ⟨rfl, hb⟩
          rw [HFB.out]
          have HM13 := Lib.hid (HM12.out.carry hb)
          have HU13 := Lib.hid (HU12.out.carry (hb.mono HZ12.out) (Nat.le_refl _))
          have HZ13 := Lib.hid (Nat.le_trans HZ12.out hb.size)
          obtain ⟨⟨x0, x1, x2⟩, -⟩ := box3 HM13.out.a.box; obtain ⟨⟨y0, y1, y2⟩, -⟩ := box3 HM13.out.b.box
          clear hb
          refine hK.out _ _ HM13.out.six (fun _ => ?_)
          clear hK
          try simp only [Act.put, List.setIfInBounds_toArray, List.set_cons_zero, List.set_cons_succ]
          refine wpAnyH_take (i := 11) (v := ?_) (by simp only [List.getElem?_toArray, List.getElem?_cons_zero, List.getElem?_cons_succ]; rfl) (by kernel_rfl) (by kernel_rfl) (by kernel_rfl) (fun _ _ _ h => h) (Or.inl ⟨by rfl, ?_⟩) HM13.out.six ?_
          case refine_2 => (intro ww hSw; obtain ⟨s1, s2, s3, s4, s5, s6⟩ := hSw; go_simp; try with_reducible rfl)
          try simp only [Act.put, List.setIfInBounds_toArray, List.set_cons_zero, List.set_cons_succ]
          refine wpAnyH_take (i := 12) (v := ?_) (by simp only [List.getElem?_toArray, List.getElem?_cons_zero, List.getElem?_cons_succ]; rfl) (by kernel_rfl) (by kernel_rfl) (by kernel_rfl) (fun _ _ _ h => h) (Or.inl ⟨by rfl, ?_⟩) HM13.out.six ?_
          case refine_2 => (intro ww hSw; obtain ⟨s1, s2, s3, s4, s5, s6⟩ := hSw; go_simp; try with_reducible rfl)
          try simp only [Act.put, List.setIfInBounds_toArray, List.set_cons_zero, List.set_cons_succ]
          refine wpAnyH_take (i := 13) (v := _) (by simp only [List.getElem?_toArray, List.getElem?_cons_zero, List.getElem?_cons_succ]; rfl) (by kernel_rfl) (by kernel_rfl) (by kernel_rfl) (fun _ _ _ h => h) (Or.inr ⟨by rfl, rfl⟩) HM13.out.six ?_
          try simp only [Act.put, List.setIfInBounds_toArray, List.set_cons_zero, List.set_cons_succ]
          refine wpAnyH_take (i := 14) (v := _) (by simp only [List.getElem?_toArray, List.getElem?_cons_zero, List.getElem?_cons_succ]; rfl) (by kernel_rfl) (by kernel_rfl) (by kernel_rfl) (fun _ _ _ h => h) (Or.inr ⟨by rfl, rfl⟩) HM13.out.six ?_
          try simp only [Act.put, List.setIfInBounds_toArray, List.set_cons_zero, List.set_cons_succ]
          refine wpAnyH_take (i := 16) (v := _) (by simp only [List.getElem?_toArray, List.getElem?_cons_zero, List.getElem?_cons_succ]; rfl) (by kernel_rfl) (by kernel_rfl) (by kernel_rfl) (fun _ _ _ h => h) (Or.inr ⟨by rfl, rfl⟩) HM13.out.six ?_
          try simp only [Act.put, List.setIfInBounds_toArray, List.set_cons_zero, List.set_cons_succ]
          refine wpAnyH_take (i := 17) (v := _) (by simp only [List.getElem?_toArray, List.getElem?_cons_zero, List.getElem?_cons_succ]; rfl) (by kernel_rfl) (by kernel_rfl) (by kernel_rfl) (fun _ _ _ h => h) (Or.inr ⟨by rfl, rfl⟩) HM13.out.six ?_
          try simp only [Act.put, List.setIfInBounds_toArray, List.set_cons_zero, List.set_cons_succ]
          refine wpAnyH_ready (rs := [15]) (by kernel_rfl) (by simp) ?_
          refine AllReadyH.cons (by simp only [List.getElem?_toArray, List.getElem?_cons_zero, List.getElem?_cons_succ]; rfl) (fun K' hK => ?_) AllReadyH.nil
          go_simp
          refine hK.out _ _ HM13.out.six (fun _ => ?_)
          clear hK
          try simp only [Act.put, List.setIfInBounds_toArray, List.set_cons_zero, List.set_cons_succ]
          refine wpAnyH_ready (rs := [18]) (by kernel_rfl) (by simp) ?_
          refine AllReadyH.cons (by simp only [List.getElem?_toArray, List.getElem?_cons_zero, List.getElem?_cons_succ]; rfl) (fun K' hK => ?_) AllReadyH.nil
          go_simp
          refine hK.out _ _ HM13.out.six (fun _ => ?_)
          clear hK
          try simp only [Act.put, List.setIfInBounds_toArray, List.set_cons_zero, List.set_cons_succ]
          refine wpAnyH_ready (rs := [19]) (by kernel_rfl) (by simp) ?_
          refine AllReadyH.cons (by simp only [List.getElem?_toArray, List.getElem?_cons_zero, List.getElem?_cons_succ]; rfl) (fun K' hK => ?_) AllReadyH.nil
          go_simp
          refine hK.out _ _ HM13.out.six (fun _ => ?_)
          clear hK
          try simp only [Act.put, List.setIfInBounds_toArray, List.set_cons_zero, List.set_cons_succ]
          refine wpAnyH_take (i := 20) (v := _) (by simp only [List.getElem?_toArray, List.getElem?_cons_zero, List.getElem?_cons_succ]; rfl) (by kernel_rfl) (by kernel_rfl) (by kernel_rfl) (fun _ _ _ h => h) (Or.inr ⟨by rfl, rfl⟩) HM13.out.six ?_
          try simp only [Act.put, List.setIfInBounds_toArray, List.set_cons_zero, List.set_cons_succ]
          refine wpAnyH_take (i := 21) (v := ?_) (by simp only [List.getElem?_toArray, List.getElem?_cons_zero, List.getElem?_cons_succ]; rfl) (by kernel_rfl) (by kernel_rfl) (by kernel_rfl) (fun _ _ _ h => h) (Or.inl ⟨by rfl, ?_⟩) HM13.out.six ?_
          case refine_2 => (intro ww hSw; obtain ⟨s1, s2, s3, s4, s5, s6⟩ := hSw; go_simp; try with_reducible rfl)
          try simp only [Act.put, List.setIfInBounds_toArray, List.set_cons_zero, List.set_cons_succ]
          refine wpAnyH_take (i := 22) (v := ?_) (by simp only [List.getElem?_toArray, List.getElem?_cons_zero, List.getElem?_cons_succ]; rfl) (by kernel_rfl) (by kernel_rfl) (by kernel_rfl) (fun _ _ _ h => h) (Or.inl ⟨by rfl, ?_⟩) HM13.out.six ?_
          case refine_2 => (intro ww hSw; obtain ⟨s1, s2, s3, s4, s5, s6⟩ := hSw; go_simp; try with_reducible rfl)
          try simp only [Act.put, List.setIfInBounds_toArray, List.set_cons_zero, List.set_cons_succ]
          refine wpAnyH_done (by kernel_rfl) ?_ _
          refine NoPanic.normal ?_
          all_goals (go_wp2_with fail; go_meet; exact ⟨rfl, HM13, HU13, HZ13⟩)
      · have HFA : Hid (decide ((apB U a).size ≤ 4000 ∧ (apB U a).depth ≤ 200) = false) := Lib.hid (decide_eq_false hfa)
        clear hfa
        refine wp_region_noPanic ?_
        refine wp_region_held_drew (S := fun w' => w'.cell? ⟨w.heap.size, 0, none⟩ = some (.string a.nm) ∧ w'.cell? ⟨w.heap.size, 1, none⟩ = some (.bool a.vr) ∧ w'.cell? ⟨w.heap.size, 2, none⟩ = some (.slice oa a.ts.length ca) ∧ w'.cell? ⟨w.heap.size + 1, 0, none⟩ = some (.string b.nm) ∧ w'.cell? ⟨w.heap.size + 1, 1, none⟩ = some (.bool b.vr) ∧ w'.cell? ⟨w.heap.size + 1, 2, none⟩ = some (.slice ob b.ts.length cb)) (by kernel_rfl) HM10.out.six (fun _ => ?_)
        simp only [List.size_toArray, List.length_cons, List.length_nil, Nat.reduceAdd]
        refine wpAnyH_take (i := 0) (v := ?_) (by simp only [List.getElem?_toArray, List.getElem?_cons_zero]; rfl) (by kernel_rfl) (by kernel_rfl) (by kernel_rfl) (fun _ _ _ h => h) (Or.inl ⟨by rfl, ?_⟩) HM10.out.six ?_
        case refine_2 => (intro ww hSw; obtain ⟨s1, s2, s3, s4, s5, s6⟩ := hSw; go_simp; try with_reducible rfl)
        try simp only [Act.put, List.setIfInBounds_toArray, List.set_cons_zero, List.set_cons_succ]
        refine wpAnyH_ready (rs := [1]) (by kernel_rfl) (by simp) ?_
        refine AllReadyH.cons (by simp only [List.getElem?_toArray, List.getElem?_cons_zero, List.getElem?_cons_succ]; rfl) (fun K' hK => ?_) AllReadyH.nil
        go_simp
        refine (rcheckSubst_full U (.slice ou U.length cu) _ (HU10.out.carry (Below.refl _ _) HZ10.out) hub).mono ?_
        rintro e w11 ⟨rfl, hb⟩
        rw [HCS.out]
        have HM11 := Lib.hid (HM10.out.carry hb)
        have HU11 := Lib.hid (HU10.out.carry (hb.mono HZ10.out) (Nat.le_refl _))
        have HZ11 := Lib.hid (Nat.le_trans HZ10.out hb.size)
        obtain ⟨⟨x0, x1, x2⟩, -⟩ := box3 HM11.out.a.box; obtain ⟨⟨y0, y1, y2⟩, -⟩ := box3 HM11.out.b.box
        clear hb
        refine hK.out _ _ HM11.out.six (fun _ => ?_)
        clear hK
        try simp only [Act.put, List.setIfInBounds_toArray, List.set_cons_zero, List.set_cons_succ]
        refine wpAnyH_take (i := 2) (v := ?_) (by simp only [List.getElem?_toArray, List.getElem?_cons_zero, List.getElem?_cons_succ]; rfl) (by kernel_rfl) (by kernel_rfl) (by kernel_rfl) (fun _ _ _ h => h) (Or.inl ⟨by rfl, ?_⟩) HM11.out.six ?_
        case refine_2 => (intro ww hSw; obtain ⟨s1, s2, s3, s4, s5, s6⟩ := hSw; go_simp; try with_reducible rfl)
        try simp only [Act.put, List.setIfInBounds_toArray, List.set_cons_zero, List.set_cons_succ]
        refine wpAnyH_take (i := 3) (v := ?_) (by simp only [List.getElem?_toArray, List.getElem?_cons_zero, List.getElem?_cons_succ]; rfl) (by kernel_rfl) (by kernel_rfl) (by kernel_rfl) (fun _ _ _ h => h) (Or.inl ⟨by rfl, ?_⟩) HM11.out.six ?_
        case refine_2 => (intro ww hSw; obtain ⟨s1, s2, s3, s4, s5, s6⟩ := hSw; go_simp; try with_reducible rfl)
        try simp only [Act.put, List.setIfInBounds_toArray, List.set_cons_zero, List.set_cons_succ]
        refine wpAnyH_take (i := 4) (v := ?_) (by simp only [List.getElem?_toArray, List.getElem?_cons_zero, List.getElem?_cons_succ]; rfl) (by kernel_rfl) (by kernel_rfl) (by kernel_rfl) (fun _ _ _ h => h) (Or.inl ⟨by rfl, ?_⟩) HM11.out.six ?_
        case refine_2 => (intro ww hSw; obtain ⟨s1, s2, s3, s4, s5, s6⟩ := hSw; go_simp; try with_reducible rfl)
        try simp only [Act.put, List.setIfInBounds_toArray, List.set_cons_zero, List.set_cons_succ]
        refine wpAnyH_take (i := 5) (v := ?_) (by simp only [List.getElem?_toArray, List.getElem?_cons_zero, List.getElem?_cons_succ]; rfl) (by kernel_rfl) (by kernel_rfl) (by kernel_rfl) (fun _ _ _ h => h) (Or.inl ⟨by rfl, ?_⟩) HM11.out.six ?_
        case refine_2 => (intro ww hSw; obtain ⟨s1, s2, s3, s4, s5, s6⟩ := hSw; go_simp; try with_reducible rfl)
        try simp only [Act.put, List.setIfInBounds_toArray, List.set_cons_zero, List.set_cons_succ]
        refine wpAnyH_ready (rs := [6]) (by kernel_rfl) (by simp) ?_
        refine AllReadyH.cons (by simp only [List.getElem?_toArray, List.getElem?_cons_zero, List.getElem?_cons_succ]; rfl) (fun K' hK => ?_) AllReadyH.nil
        go_simp
        refine (rfits_any U (.slice ou U.length cu) w1.heap.size (by omega) (fun q hq => ⟨(HUO.out.terms q hq).2.1, by have := (HUO.out.terms q hq).bulk; omega⟩) a (.slice oa a.ts.length ca) _ HZ11.out HU11.out HM11.out.a.is hba HOKA.out.1.bare).mono ?_
        rintro e w12 ⟨rfl, hb⟩
        rw [HFA.out]
        have HM12 := Lib.hid (HM11.out.carry hb)
        have HU12 := Lib.hid (HU11.out.carry (hb.mono HZ11.out) (Nat.le_refl _))
        have HZ12 := Lib.hid (Nat.le_trans HZ11.out hb.size)
        obtain ⟨⟨x0, x1, x2⟩, -⟩ := box3 HM12.out.a.box; obtain ⟨⟨y0, y1, y2⟩, -⟩ := box3 HM12.out.b.box
        clear hb
        refine hK.out _ _ HM12.out.six (fun _ => ?_)
        clear hK
        try simp only [Act.put, List.setIfInBounds_toArray, List.set_cons_zero, List.set_cons_succ]
        refine wpAnyH_take (i := 7) (v := ?_) (by simp only [List.getElem?_toArray, List.getElem?_cons_zero, List.getElem?_cons_succ]; rfl) (by kernel_rfl) (by kernel_rfl) (by kernel_rfl) (fun _ _ _ h => h) (Or.inl ⟨by rfl, ?_⟩) HM12.out.six ?_
        case refine_2 => (intro ww hSw; obtain ⟨s1, s2, s3, s4, s5, s6⟩ := hSw; go_simp; try with_reducible rfl)
        try simp only [Act.put, List.setIfInBounds_toArray, List.set_cons_zero, List.set_cons_succ]
        refine wpAnyH_take (i := 8) (v := _) (by simp only [List.getElem?_toArray, List.getElem?_cons_zero, List.getElem?_cons_succ]; rfl) (by kernel_rfl) (by kernel_rfl) (by kernel_rfl) (fun _ _ _ h => h) (Or.inr ⟨by rfl, rfl⟩) HM12.out.six ?_
        try simp only [Act.put, List.setIfInBounds_toArray, List.set_cons_zero, List.set_cons_succ]
        refine wpAnyH_take (i := 9) (v := _) (by simp only [List.getElem?_toArray, List.getElem?_cons_zero, List.getElem?_cons_succ]; rfl) (by kernel_rfl) (by kernel_rfl) (by kernel_rfl) (fun _ _ _ h => h) (Or.inr ⟨by rfl, rfl⟩) HM12.out.six ?_
        try simp only [Act.put, List.setIfInBounds_toArray, List.set_cons_zero, List.set_cons_succ]
        refine wpAnyH_ready (rs := [10]) (by kernel_rfl) (by simp) ?_
        refine AllReadyH.cons (by simp only [List.getElem?_toArray, List.getElem?_cons_zero, List.getElem?_cons_succ]; rfl) (fun K' hK => ?_) AllReadyH.nil
        go_simp
        refine hK.out _ _ HM12.out.six (fun _ => ?_)
        clear hK
        try simp only [Act.put, List.setIfInBounds_toArray, List.set_cons_zero, List.set_cons_succ]
        refine wpAnyH_take (i := 11) (v := ?_) (by simp only [List.getElem?_toArray, List.getElem?_cons_zero, List.getElem?_cons_succ]; rfl) (by kernel_rfl) (by kernel_rfl) (by kernel_rfl) (fun _ _ _ h => h) (Or.inl ⟨by rfl, ?_⟩) HM12.out.six ?_
        case refine_2 => (intro ww hSw; obtain ⟨s1, s2, s3, s4, s5, s6⟩ := hSw; go_simp; try with_reducible rfl)
        try simp only [Act.put, List.setIfInBounds_toArray, List.set_cons_zero, List.set_cons_succ]
        refine wpAnyH_take (i := 12) (v := ?_) (by simp only [List.getElem?_toArray, List.getElem?_cons_zero, List.getElem?_cons_succ]; rfl) (by kernel_rfl) (by kernel_rfl) (by kernel_rfl) (fun _ _ _ h => h) (Or.inl ⟨by rfl, ?_⟩) HM12.out.six ?_
        case refine_2 => (intro ww hSw; obtain ⟨s1, s2, s3, s4, s5, s6⟩ := hSw; go_simp; try with_reducible rfl)
        try simp only [Act.put, List.setIfInBounds_toArray, List.set_cons_zero, List.set_cons_succ]
        refine wpAnyH_take (i := 13) (v := _) (by simp only [List.getElem?_toArray, List.getElem?_cons_zero, List.getElem?_cons_succ]; rfl) (by kernel_rfl) (by kernel_rfl) (by kernel_rfl) (fun _ _ _ h => h) (Or.inr ⟨by rfl, rfl⟩) HM12.out.six ?_
        try simp only [Act.put, List.setIfInBounds_toArray, List.set_cons_zero, List.set_cons_succ]
        refine wpAnyH_take (i := 14) (v := _) (by simp only [List.getElem?_toArray, List.getElem?_cons_zero, List.getElem?_cons_succ]; rfl) (by kernel_rfl) (by kernel_rfl) (by kernel_rfl) (fun _ _ _ h => h) (Or.inr ⟨by rfl, rfl⟩) HM12.out.six ?_
        try simp only [Act.put, List.setIfInBounds_toArray, List.set_cons_zero, List.set_cons_succ]
        refine wpAnyH_take (i := 16) (v := _) (by simp only [List.getElem?_toArray, List.getElem?_cons_zero, List.getElem?_cons_succ]; rfl) (by kernel_rfl) (by kernel_rfl) (by kernel_rfl) (fun _ _ _ h => h) (Or.inr ⟨by rfl, rfl⟩) HM12.out.six ?_
        try simp only [Act.put, List.setIfInBounds_toArray, List.set_cons_zero, List.set_cons_succ]
        refine wpAnyH_take (i := 17) (v := _) (by simp only [List.getElem?_toArray, List.getElem?_cons_zero, List.getElem?_cons_succ]; rfl) (by kernel_rfl) (by kernel_rfl) (by kernel_rfl) (fun _ _ _ h => h) (Or.inr ⟨by rfl, rfl⟩) HM12.out.six ?_
        try simp only [Act.put, List.setIfInBounds_toArray, List.set_cons_zero, List.set_cons_succ]
        refine wpAnyH_ready (rs := [15]) (by kernel_rfl) (by simp) ?_
        refine AllReadyH.cons (by simp only [List.getElem?_toArray, List.getElem?_cons_zero, List.getElem?_cons_succ]; rfl) (fun K' hK => ?_) AllReadyH.nil
        go_simp
        refine hK.out _ _ HM12.out.six (fun _ => ?_)
        clear hK
        try simp only [Act.put, List.setIfInBounds_toArray, List.set_cons_zero, List.set_cons_succ]
        refine wpAnyH_ready (rs := [18]) (by kernel_rfl) (by simp) ?_
        refine AllReadyH.cons (by simp only [List.getElem?_toArray, List.getElem?_cons_zero, List.getElem?_cons_succ]; rfl) (fun K' hK => ?_) AllReadyH.nil
        go_simp
        refine hK.out _ _ HM12.out.six (fun _ => ?_)
        clear hK
        try simp only [Act.put, List.setIfInBounds_toArray, List.set_cons_zero, List.set_cons_succ]
        refine wpAnyH_ready (rs := [19]) (by kernel_rfl) (by simp) ?_
        refine AllReadyH.cons (by simp only [List.getElem?_toArray, List.getElem?_cons_zero, List.getElem?_cons_succ]; rfl) (fun K' hK => ?_) AllReadyH.nil
        go_simp
        refine hK.out _ _ HM12.out.six (fun _ => ?_)
        clear hK
        try simp only [Act.put, List.setIfInBounds_toArray, List.set_cons_zero, List.set_cons_succ]
        refine wpAnyH_take (i := 20) (v := _) (by simp only [List.getElem?_toArray, List.getElem?_cons_zero, List.getElem?_cons_succ]; rfl) (by kernel_rfl) (by kernel_rfl) (by kernel_rfl) (fun _ _ _ h => h) (Or.inr ⟨by rfl, rfl⟩) HM12.out.six ?_
        try simp only [Act.put, List.setIfInBounds_toArray, List.set_cons_zero, List.set_cons_succ]
        refine wpAnyH_take (i := 21) (v := ?_) (by simp only [List.getElem?_toArray, List.getElem?_cons_zero, List.getElem?_cons_succ]; rfl) (by kernel_rfl) (by kernel_rfl) (by kernel_rfl) (fun _ _ _ h => h) (Or.inl ⟨by rfl, ?_⟩) HM12.out.six ?_
        case refine_2 => (intro ww hSw; obtain ⟨s1, s2, s3, s4, s5, s6⟩ := hSw; go_simp; try with_reducible rfl)
        try simp only [Act.put, List.setIfInBounds_toArray, List.set_cons_zero, List.set_cons_succ]
        refine wpAnyH_take (i := 22) (v := ?_) (by simp only [List.getElem?_toArray, List.getElem?_cons_zero, List.getElem?_cons_succ]; rfl) (by kernel_rfl) (by kernel_rfl) (by kernel_rfl) (fun _ _ _ h => h) (Or.inl ⟨by rfl, ?_⟩) HM12.out.six ?_
        case refine_2 => (intro ww hSw; obtain ⟨s1, s2, s3, s4, s5, s6⟩ := hSw; go_simp; try with_reducible rfl)
        try simp only [Act.put, List.setIfInBounds_toArray, List.set_cons_zero, List.set_cons_succ]
        refine wpAnyH_done (by kernel_rfl) ?_ _
        refine NoPanic.normal ?_
        all_goals (go_wp2_with fail; go_meet; exact ⟨rfl, HM12, HU12, HZ12⟩)
    case rest =>
      obtain ⟨rfl, HM3, HU3, HZ3⟩ := hcut
      rename_i w3
      obtain ⟨⟨x0, x1, x2⟩, -⟩ := box3 HM3.out.a.box; obtain ⟨⟨y0, y1, y2⟩, -⟩ := box3 HM3.out.b.box
      go_wp2_with fail
      go_loopw [60] (fun i wr => ∃ j : Nat, j ≤ U.length ∧ i = .int .i64 j ∧ Hid (LmSt w wr a b (.slice oa a.ts.length ca) (.slice ob b.ts.length cb) s (.slice os s.length cs)) ∧ Hid (BindsIs w1.heap.size wr U (.slice ou U.length cu)) ∧ Hid (w1.heap.size ≤ wr.heap.size)) (fun i _ => U.length - (intOf i).toNat)
      case atStart => exact ⟨0, by omega, rfl, HM3, HU3, HZ3⟩
      case round =>
        obtain ⟨j, hj, rfl, HMR, HUR, HZR⟩ := hrel
        by_cases hlt : j < U.length
        · obtain ⟨b1, o1, q, sq, rfl, hbn1, hq, hqm, hsq, c0, c1, c2, c3⟩ := HUR.out.get hlt
          obtain ⟨oq, cq, rfl, -⟩ := hsq.form
          have hqo := HUO.out.terms q hqm
          have hqb : q.2.bulk ≤ 1048576 := by have := hqo.bulk; omega
          have HQO := Lib.hid hqo
          have HQS := Lib.hid (HUS.out.stay q hqm)
          have HFQ : Hid (decide ((apB U q.2).size ≤ 4000 ∧ (apB U q.2).depth ≤ 200) = true) := Lib.hid (decide_eq_true (by rw [HQS.out]; exact ⟨hqo.2.1, hqo.2.2⟩))
          have hB0 : Below wr.heap.size wr (wr.alloc (.cells #[.string (kb q.1), .string q.2.nm, .bool q.2.vr, .slice oq q.2.ts.length cq] 61)).drew := by go_grown
          have hbx0 := ((Below.refl (wr.alloc (.cells #[.string (kb q.1), .string q.2.nm, .bool q.2.vr, .slice oq q.2.ts.length cq] 61)).heap.size (wr.alloc (.cells #[.string (kb q.1), .string q.2.nm, .bool q.2.vr, .slice oq q.2.ts.length cq] 61))).drew.block wr.heap.size (by simp)).trans (heap_new_at wr (.cells #[.string (kb q.1), .string q.2.nm, .bool q.2.vr, .slice oq q.2.ts.length cq] 61) _ rfl)
          have HBX0 := Lib.hid hbx0
          have HM40 := Lib.hid (HMR.out.carry hB0)
          have HU40 := Lib.hid (HUR.out.carry (hB0.mono HZR.out) (Nat.le_refl _))
          have HZ40 := Lib.hid (Nat.le_trans HZR.out hB0.size)
          have HQ40 := Lib.hid (hsq.carry (hB0.mono HZR.out) (Nat.le_trans HZR.out hB0.size))
          obtain ⟨d0, d1, d2, d3⟩ := box4 (heap_new_at wr (.cells #[.string (kb q.1), .string q.2.nm, .bool q.2.vr, .slice oq q.2.ts.length cq] 61) _ rfl)
          have hz0 : wr.heap.size < (wr.alloc (.cells #[.string (kb q.1), .string q.2.nm, .bool q.2.vr, .slice oq q.2.ts.length cq] 61)).drew.heap.size := (Array.getElem?_eq_some_iff.1 hbx0).1
          clear hq hqm hsq hB0 hbx0 hqo
          go_wp2_with fail
          go_region_held3 (fun w' => w'.cell? ⟨wr.heap.size, 0, none⟩ = some (.string (kb q.1)) ∧ w'.cell? ⟨wr.heap.size, 1, none⟩ = some (.string q.2.nm) ∧ w'.cell? ⟨wr.heap.size, 2, none⟩ = some (.bool q.2.vr) ∧ w'.cell? ⟨wr.heap.size, 3, none⟩ = some (.slice oq q.2.ts.length cq)) (go_keep) ((first
            | (go_at_call 12
               refine (requal_any q.2 q.2 _ _ _ hqb hqb HXQ.out HQ42.out).mono ?_
               rintro e w43 ⟨⟨x3, rfl, h3⟩, hb⟩
               obtain rfl : x3 = true := h3.2 (by first | rfl | trivial)
               have HM43 := Lib.hid (HM42.out.carry hb)
               have HU43 := Lib.hid (HU42.out.carry (hb.mono HZ42.out) (Nat.le_refl _))
               have HZ43 := Lib.hid (Nat.le_trans HZ42.out hb.size)
               obtain ⟨d0, d1, d2, d3⟩ := box4 ((hb.block _ (Array.getElem?_eq_some_iff.1 HBX2.out).1).trans HBX2.out)
               clear h3 hb)
            | (go_at_call 32
               refine (rapply_any U (.slice (some ⟨b1, o1, none⟩) U.length cu) w1.heap.size (by omega) q.2 (.slice oq q.2.ts.length cq) _ HZ41.out HU41.out HQ41.out hqb).mono ?_
               rintro e w42 ⟨⟨sl2, rfl, h2⟩, hb⟩
               rw [HQS.out] at h2 ⊢
               have h2 := h2.lt.toIs fun b hb => hb.2
               obtain ⟨o2, k2, rfl, -⟩ := h2.form
               dsimp only [tmv]
               have HXQ := Lib.hid h2
               have HQ42 := Lib.hid (HQ41.out.carry hb hb.size)
               have HM42 := Lib.hid (HM41.out.carry hb)
               have HU42 := Lib.hid (HU41.out.carry (hb.mono HZ41.out) (Nat.le_refl _))
               have HZ42 := Lib.hid (Nat.le_trans HZ41.out hb.size)
               have HBX2 := Lib.hid ((hb.block _ (Array.getElem?_eq_some_iff.1 HBX1.out).1).trans HBX1.out)
               obtain ⟨d0, d1, d2, d3⟩ := box4 HBX2.out
               clear h2 hb)
            | (go_at_call 31
               refine (rfits_any U (.slice (some ⟨b1, o1, none⟩) U.length cu) w1.heap.size (by omega) (fun q hq => ⟨(HUO.out.terms q hq).2.1, by have := (HUO.out.terms q hq).bulk; omega⟩) q.2 (.slice oq q.2.ts.length cq) _ HZ40.out HU40.out HQ40.out hqb HQO.out.1.bare).mono ?_
               rintro e w41 ⟨rfl, hb⟩
               rw [HFQ.out]
               have HQ41 := Lib.hid (HQ40.out.carry hb hb.size)
               have HM41 := Lib.hid (HM40.out.carry hb)
               have HU41 := Lib.hid (HU40.out.carry (hb.mono HZ40.out) (Nat.le_refl _))
               have HZ41 := Lib.hid (Nat.le_trans HZ40.out hb.size)
               have HBX1 := Lib.hid ((hb.block _ hz0).trans HBX0.out)
               obtain ⟨d0, d1, d2, d3⟩ := box4 HBX1.out
               clear hb)))
          go_wp2_with fail
          exact ⟨⟨j + 1, by omega, by go_num, HM43, HU43, HZ43⟩, by simp [intOf]; omega⟩
        · obtain rfl : j = U.length := by omega
          have HM4 := HMR
          have HU4 := HUR
          have HZ4 := HZR
          generalize wr = w4 at HM4 HU4 HZ4 ⊢
          clear HMR HUR HZR
          by_cases hcs : csC s = 0
          · have HCS := Lib.hid hcs
            have HSK := Lib.hid (csC_zero.1 hcs)
            clear hcs
            by_cases hfa : (apB s a).size ≤ 4000 ∧ (apB s a).depth ≤ 200
            · have HFA : Hid (decide ((apB s a).size ≤ 4000 ∧ (apB s a).depth ≤ 200) = true) := Lib.hid (decide_eq_true hfa)
              have HBA := Lib.hid (show (apB s a).bulk ≤ 1048576 by have := (apB_ok HSK.out HOKA.out.1 hfa).bulk; omega)
              clear hfa
              by_cases hfb : (apB s b).size ≤ 4000 ∧ (apB s b).depth ≤ 200
              · have HFB : Hid (decide ((apB s b).size ≤ 4000 ∧ (apB s b).depth ≤ 200) = true) := Lib.hid (decide_eq_true hfb)
                have HBB := Lib.hid (show (apB s b).bulk ≤ 1048576 by have := (apB_ok HSK.out HOKB.out.1 hfb).bulk; omega)
                clear hfb
                have HM20 := Lib.hid HM4.out.drew
                have HU20 := Lib.hid (HU4.out.carry ((Below.refl _ _).drew.mono HZ4.out) (Nat.le_refl _))
                have HZ20 : Hid (w1.heap.size ≤ w4.drew.heap.size) := Lib.hid HZ4.out
                obtain ⟨⟨x0, x1, x2⟩, -⟩ := box3 HM4.out.a.box; obtain ⟨⟨y0, y1, y2⟩, -⟩ := box3 HM4.out.b.box
                go_wp2_with fail
                go_region_held3 (fun w' => w'.cell? ⟨w.heap.size, 0, none⟩ = some (.string a.nm) ∧ w'.cell? ⟨w.heap.size, 1, none⟩ = some (.bool a.vr) ∧ w'.cell? ⟨w.heap.size, 2, none⟩ = some (.slice oa a.ts.length ca) ∧ w'.cell? ⟨w.heap.size + 1, 0, none⟩ = some (.string b.nm) ∧ w'.cell? ⟨w.heap.size + 1, 1, none⟩ = some (.bool b.vr) ∧ w'.cell? ⟨w.heap.size + 1, 2, none⟩ = some (.slice ob b.ts.length cb)) (go_keep) ((first
                  | (go_at_call 12
                     refine (requal_any (apB s a) (apB s b) _ _ _ HBA.out HBB.out HXa2.out HXb.out).mono ?_
                     rintro e w26 ⟨⟨x26, rfl, h26⟩, hb⟩
                     have HEQ := Lib.hid h26
                     clear h26
                     have HM26 := Lib.hid (HM25.out.carry hb)
                     have HU26 := Lib.hid (HU25.out.carry (hb.mono HZ25.out) (Nat.le_refl _))
                     have HZ26 := Lib.hid (Nat.le_trans HZ25.out hb.size)
                     obtain ⟨⟨x0, x1, x2⟩, -⟩ := box3 HM26.out.a.box; obtain ⟨⟨y0, y1, y2⟩, -⟩ := box3 HM26.out.b.box
                     clear hb)
                  | (go_at_call 32
                     refine (rapply_any s (.slice os s.length cs) w.heap.size (by omega) b (.slice ob b.ts.length cb) _ HM24.out.low.size HM24.out.s HM24.out.b.is hbb).mono ?_
                     rintro e w25 ⟨⟨sl25, rfl, h25⟩, hb⟩
                     have h25 := h25.lt.toIs fun b hb => hb.2
                     obtain ⟨o25, c25, rfl, -⟩ := h25.form
                     dsimp only [tmv]
                     have HXb := Lib.hid h25
                     clear h25
                     have HXa2 := Lib.hid (HXa.out.carry hb hb.size)
                     have HM25 := Lib.hid (HM24.out.carry hb)
                     have HU25 := Lib.hid (HU24.out.carry (hb.mono HZ24.out) (Nat.le_refl _))
                     have HZ25 := Lib.hid (Nat.le_trans HZ24.out hb.size)
                     obtain ⟨⟨x0, x1, x2⟩, -⟩ := box3 HM25.out.a.box; obtain ⟨⟨y0, y1, y2⟩, -⟩ := box3 HM25.out.b.box
                     clear hb)
                  | (go_at_call 32
                     refine (rapply_any s (.slice os s.length cs) w.heap.size (by omega) a (.slice oa a.ts.length ca) _ HM23.out.low.size HM23.out.s HM23.out.a.is hba).mono ?_
                     rintro e w24 ⟨⟨sl24, rfl, h24⟩, hb⟩
                     have h24 := h24.lt.toIs fun b hb => hb.2
                     obtain ⟨o24, c24, rfl, -⟩ := h24.form
                     dsimp only [tmv]
                     have HXa := Lib.hid h24
                     clear h24
                     have HM24 := Lib.hid (HM23.out.carry hb)
                     have HU24 := Lib.hid (HU23.out.carry (hb.mono HZ23.out) (Nat.le_refl _))
                     have HZ24 := Lib.hid (Nat.le_trans HZ23.out hb.size)
                     obtain ⟨⟨x0, x1, x2⟩, -⟩ := box3 HM24.out.a.box; obtain ⟨⟨y0, y1, y2⟩, -⟩ := box3 HM24.out.b.box
                     clear hb)
                  | (go_at_call 31
                     refine (rfits_any s (.slice os s.length cs) w.heap.size (by omega) (fun q hq => ⟨(HSK.out.terms q hq).2.1, by have := (HSK.out.terms q hq).bulk; omega⟩) b (.slice ob b.ts.length cb) _ HM22.out.low.size HM22.out.s HM22.out.b.is hbb HOKB.out.1.bare).mono ?_
                     rintro e w23 ⟨rfl, hb⟩
                     rw [HFB.out]
                     have HM23 := Lib.hid (HM22.out.carry hb)
                     have HU23 := Lib.hid (HU22.out.carry (hb.mono HZ22.out) (Nat.le_refl _))
                     have HZ23 := Lib.hid (Nat.le_trans HZ22.out hb.size)
                     obtain ⟨⟨x0, x1, x2⟩, -⟩ := box3 HM23.out.a.box; obtain ⟨⟨y0, y1, y2⟩, -⟩ := box3 HM23.out.b.box
                     clear hb)
                  | (go_at_call 31
                     refine (rfits_any s (.slice os s.length cs) w.heap.size (by omega) (fun q hq => ⟨(HSK.out.terms q hq).2.1, by have := (HSK.out.terms q hq).bulk; omega⟩) a (.slice oa a.ts.length ca) _ HM21.out.low.size HM21.out.s HM21.out.a.is hba HOKA.out.1.bare).mono ?_
                     rintro e w22 ⟨rfl, hb⟩
                     rw [HFA.out]
                     have HM22 := Lib.hid (HM21.out.carry hb)
                     have HU22 := Lib.hid (HU21.out.carry (hb.mono HZ21.out) (Nat.le_refl _))
                     have HZ22 := Lib.hid (Nat.le_trans HZ21.out hb.size)
                     obtain ⟨⟨x0, x1, x2⟩, -⟩ := box3 HM22.out.a.box; obtain ⟨⟨y0, y1, y2⟩, -⟩ := box3 HM22.out.b.box
                     clear hb)
                  | (go_at_call 30
                     refine (rcheckSubst_full s (.slice os s.length cs) _ (HM20.out.s.carry (Below.refl _ _) HM20.out.low.size) hbs).mono ?_
                     rintro e w21 ⟨rfl, hb⟩
                     rw [HCS.out]
                     have HM21 := Lib.hid (HM20.out.carry hb)
                     have HU21 := Lib.hid (HU20.out.carry (hb.mono HZ20.out) (Nat.le_refl _))
                     have HZ21 := Lib.hid (Nat.le_trans HZ20.out hb.size)
                     obtain ⟨⟨x0, x1, x2⟩, -⟩ := box3 HM21.out.a.box; obtain ⟨⟨y0, y1, y2⟩, -⟩ := box3 HM21.out.b.box
                     clear hb)))
                cases x26
                · have HNE := HEQ
                  clear HEQ
                  go_wp2_with fail
                  refine (alive_any _).mono ?_
                  rintro e w9 ⟨rfl, hb9⟩
                  have HL9 : Hid (Below w.heap.size w w9) := Lib.hid (HM26.out.low.trans (hb9.mono HM26.out.low.size))
                  clear hb9
                  go_wp2_with fail
                  go_ret
                  exact ⟨rfl, HL9.out⟩
                · have HEQT := Lib.hid (HEQ.out.1 rfl)
                  clear HEQ
                  have hX2 : Below w26.heap.size w26 (w26.alloc (.cells #[.string a.nm, .bool a.vr, .slice oa a.ts.length ca, .string b.nm, .bool b.vr, .slice ob b.ts.length cb] 25)) := by go_grown
                  have HVR := Lib.hid (rvars_any [a, b] (by simp only [List.mem_cons, List.not_mem_nil, or_false]; rintro t (rfl | rfl); exact HOKA.out.1.bare; exact HOKB.out.1.bare) (.slice (some ⟨w26.heap.size, 0, none⟩) 2 2) _ (rowIs [(a, (.slice oa a.ts.length ca)), (b, (.slice ob b.ts.length cb))] (heap_new_at w26 (.cells #[.string a.nm, .bool a.vr, .slice oa a.ts.length ca, .string b.nm, .bool b.vr, .slice ob b.ts.length cb] 25) _ rfl) (by simp) (by simp only [List.mem_cons, List.not_mem_nil, or_false]; rintro c (rfl | rfl); exact HM26.out.a.is.carry hX2 hX2.size; exact HM26.out.b.is.carry hX2 hX2.size)) (by simp only [Tm.bulks]; omega))
                  have HX2 := Lib.hid hX2
                  clear hX2
                  go_wp2_with fail
                  refine HVR.out.mono ?_
                  rintro e w30 ⟨⟨v30, r30, rfl, h1, h2, h3⟩, hb30⟩
                  have hstr := h1
                  obtain ⟨o30, k30, rfl, -, -, -⟩ := hstr
                  have HST := Lib.hid h1
                  have HVS : Hid (∀ x ∈ r30, x ∈ a.vs ++ b.vs) := Lib.hid fun x hx => by have := (h3 x).1 hx; simpa [Tm.vss] using this
                  have hrl : r30.length ≤ 1048576 := by have e1 := sorted_len h2 h3; have e2 := a.vs_len; have e3 := b.vs_len; have e4 := a.size_bulk; have e5 := b.size_bulk; simp only [Tm.vss, List.length_append, List.length_nil] at e1; omega
                  have HM30 := Lib.hid ((HM26.out.carry HX2.out).carry hb30)
                  have HU30 := Lib.hid ((HU26.out.carry (HX2.out.mono HZ26.out) (Nat.le_refl _)).carry (hb30.mono (Nat.le_trans HZ26.out HX2.out.size)) (Nat.le_refl _))
                  have HZ30 := Lib.hid (Nat.le_trans (Nat.le_trans HZ26.out HX2.out.size) hb30.size)
                  clear h1 h2 h3 hb30 HVR
                  go_wp2_with fail
                  go_loopw [113] (fun i wr => ∃ j : Nat, j ≤ r30.length ∧ i = .int .i64 j ∧ Hid (LmSt w wr a b (.slice oa a.ts.length ca) (.slice ob b.ts.length cb) s (.slice os s.length cs)) ∧ Hid (BindsIs w1.heap.size wr U (.slice ou U.length cu)) ∧ Hid (Below w30.heap.size w30 wr)) (fun i _ => r30.length - (intOf i).toNat)
                  case atStart => exact ⟨0, by omega, rfl, HM30, HU30, Lib.hid (Below.refl _ _)⟩
                  case round =>
                    obtain ⟨j, hj, rfl, HMR, HUR, HBR⟩ := hrel
                    have hzr := HBR.out.size
                    have hz1 := HZ30.out
                    by_cases hlt : j < r30.length
                    · obtain ⟨k, hk⟩ : ∃ k, r30[j]? = some k := ⟨_, List.getElem?_eq_getElem hlt⟩
                      obtain ⟨oa2, cap2, e2, -, -, hc2⟩ := HST.out.carry HBR.out hzr
                      cases e2
                      obtain ⟨b1, p1, rfl, hb1, hc1⟩ := hc2 (by intro e; rw [e] at hlt; simp at hlt)
                      have c1 := hc1 j k hk
                      have hkv := HVS.out k (List.mem_of_getElem? hk)
                      have hkn : isName (kb k) false = true := by rcases List.mem_append.1 hkv with h | h; exact HOKA.out.1.names k h; exact HOKB.out.1.names k h
                      have HMO := Lib.hid (HUS.out.most s HEQT.out k hkv)
                      have HT1 := Lib.hid (imageOf_ok HUO.out hkn)
                      have HT2 := Lib.hid (imageOf_ok HSK.out hkn)
                      have HIMG := Lib.hid (rimage_any U k (.slice ou U.length cu) wr w1.heap.size (by omega) HUR.out (by omega))
                      have HIMS : Hid (∀ W : World, BindsIs w.heap.size W s (.slice os s.length cs) → w.heap.size ≤ W.heap.size → Calls Tryz.prog 33 #[(.slice os s.length cs), .string (kb k)] W fun e w' => (∃ sl, e = .returned (tmv (imageOf s k) sl) ∧ SlIs w.heap.size w' (imageOf s k).ts sl) ∧ Below W.heap.size W w') := Lib.hid fun W h1 h2 => rimage_any s k (.slice os s.length cs) W w.heap.size h2 h1 (by omega)
                      generalize imageOf U k = t1 at HMO HT1 HIMG
                      generalize imageOf s k = t2 at HMO HT2 HIMS
                      have HFQ : Hid (decide ((apB s t1).size ≤ 4000 ∧ (apB s t1).depth ≤ 200) = true) := Lib.hid (decide_eq_true (by rw [HMO.out]; exact ⟨HT2.out.2.1, HT2.out.2.2⟩))
                      have hb1k : t1.bulk ≤ 1048576 := by have := HT1.out.bulk; omega
                      have hb2k : t2.bulk ≤ 1048576 := by have := HT2.out.bulk; omega
                      clear hk hkv hkn hc2 hc1
                      go_wp2_with fail
                      refine HIMG.out.mono ?_
                      rintro e w31 ⟨⟨sl, rfl, h31⟩, hb31⟩
                      obtain ⟨o31, k31, rfl, -⟩ := h31.form
                      dsimp only [tmv]
                      have hB0 : Below w31.heap.size w31 (w31.alloc (.cells #[.string t1.nm, .bool t1.vr, .slice o31 t1.ts.length k31] 25)) := by go_grown
                      have HB31 : Hid (Below w30.heap.size w30 w31) := Lib.hid (HBR.out.trans (hb31.mono hzr))
                      have HX40 := Lib.hid (h31.carry ((hB0.mono (Nat.le_trans (by omega) hb31.size))) (Nat.le_trans (Nat.le_trans (by omega) hb31.size) hB0.size) : SlIs _ _ t1.ts (.slice o31 t1.ts.length k31))
                      have HM40 := Lib.hid ((HMR.out.carry hb31).carry hB0)
                      have HU40 := Lib.hid ((HUR.out.carry (hb31.mono (by omega)) (Nat.le_refl _)).carry (hB0.mono (Nat.le_trans (by omega) hb31.size)) (Nat.le_refl _))
                      have HB40 := Lib.hid (HB31.out.trans (hB0.mono HB31.out.size))
                      have HBX0 := Lib.hid (heap_new_at w31 (.cells #[.string t1.nm, .bool t1.vr, .slice o31 t1.ts.length k31] 25) _ rfl)
                      obtain ⟨⟨d0, d1, d2⟩, -⟩ := box3 HBX0.out
                      clear h31 hb31 hB0 HIMG
                      go_wp2_with fail
                      refine (rfits_any s (.slice os s.length cs) w.heap.size (by omega) (fun q hq => ⟨(HSK.out.terms q hq).2.1, by have := (HSK.out.terms q hq).bulk; omega⟩) t1 (.slice o31 t1.ts.length k31) _ HM40.out.low.size HM40.out.s HX40.out hb1k HT1.out.1.bare).mono ?_
                      rintro e w41 ⟨rfl, hb⟩
                      rw [HFQ.out]
                      have HX41 := Lib.hid (HX40.out.carry hb hb.size)
                      have HM41 := Lib.hid (HM40.out.carry hb)
                      have HU41 := Lib.hid (HU40.out.carry (hb.mono (Nat.le_trans hz1 HB40.out.size)) (Nat.le_refl _))
                      have HB41 := Lib.hid (HB40.out.trans (hb.mono HB40.out.size))
                      have HBX1 := Lib.hid ((hb.block _ (Array.getElem?_eq_some_iff.1 HBX0.out).1).trans HBX0.out)
                      obtain ⟨⟨d0, d1, d2⟩, -⟩ := box3 HBX1.out
                      clear hb HBX0 HX40 HM40 HU40
                      go_wp2_with fail
                      refine (rapply_any s (.slice os s.length cs) w.heap.size (by omega) t1 (.slice o31 t1.ts.length k31) _ HM41.out.low.size HM41.out.s HX41.out hb1k).mono ?_
                      rintro e w42 ⟨⟨sl2, rfl, h2⟩, hb⟩
                      rw [HMO.out] at h2 ⊢
                      have h2 := h2.lt.toIs fun b hb => hb.2
                      obtain ⟨o2, k2, rfl, -⟩ := h2.form
                      dsimp only [tmv]
                      have HXA := Lib.hid h2
                      have HM42 := Lib.hid (HM41.out.carry hb)
                      have HU42 := Lib.hid (HU41.out.carry (hb.mono (Nat.le_trans hz1 HB41.out.size)) (Nat.le_refl _))
                      have HB42 := Lib.hid (HB41.out.trans (hb.mono HB41.out.size))
                      clear hb h2
                      go_wp2_with fail
                      refine (HIMS.out _ HM42.out.s HM42.out.low.size).mono ?_
                      rintro e w43 ⟨⟨sl3, rfl, h3⟩, hb⟩
                      obtain ⟨o3, k3, rfl, -⟩ := h3.form
                      dsimp only [tmv]
                      have HXB := Lib.hid (h3.carry (Below.refl _ _) (Nat.le_trans HM42.out.low.size hb.size) : SlIs w43.heap.size w43 t2.ts (.slice o3 t2.ts.length k3))
                      have HXA3 := Lib.hid (HXA.out.carry hb hb.size)
                      have HM43 := Lib.hid (HM42.out.carry hb)
                      have HU43 := Lib.hid (HU42.out.carry (hb.mono (Nat.le_trans hz1 HB42.out.size)) (Nat.le_refl _))
                      have HB43 := Lib.hid (HB42.out.trans (hb.mono HB42.out.size))
                      clear hb h3
                      go_wp2_with fail
                      refine (requal_any t2 t2 _ _ _ hb2k hb2k HXA3.out HXB.out).mono ?_
                      rintro e w44 ⟨⟨x3, rfl, h3⟩, hb⟩
                      obtain rfl : x3 = true := h3.2 (by first | rfl | trivial)
                      have HM44 := Lib.hid (HM43.out.carry hb)
                      have HU44 := Lib.hid (HU43.out.carry (hb.mono (Nat.le_trans hz1 HB43.out.size)) (Nat.le_refl _))
                      have HB44 := Lib.hid (HB43.out.trans (hb.mono HB43.out.size))
                      clear hb h3
                      go_wp2_with fail
                      exact ⟨⟨j + 1, by omega, by go_num, HM44, HU44, HB44⟩, by simp [intOf]; omega⟩
                    · obtain rfl : j = r30.length := by omega
                      have HM45 := HMR
                      go_wp2_with fail
                      refine (alive_any _).mono ?_
                      rintro e w9 ⟨rfl, hb9⟩
                      have HL9 : Hid (Below w.heap.size w w9) := Lib.hid (HM45.out.low.trans (hb9.mono HM45.out.low.size))
                      clear hb9
                      go_wp2_with fail
                      go_ret
                      exact ⟨rfl, HL9.out⟩
              · have HFB : Hid (decide ((apB s b).size ≤ 4000 ∧ (apB s b).depth ≤ 200) = false) := Lib.hid (decide_eq_false hfb)
                clear hfb
                have HM20 := Lib.hid HM4.out.drew
                have HU20 := Lib.hid (HU4.out.carry ((Below.refl _ _).drew.mono HZ4.out) (Nat.le_refl _))
                have HZ20 : Hid (w1.heap.size ≤ w4.drew.heap.size) := Lib.hid HZ4.out
                obtain ⟨⟨x0, x1, x2⟩, -⟩ := box3 HM4.out.a.box; obtain ⟨⟨y0, y1, y2⟩, -⟩ := box3 HM4.out.b.box
                go_wp2_with fail
                refine wp_region_noPanic ?_
                refine wp_region_held_drew (S := fun w' => w'.cell? ⟨w.heap.size, 0, none⟩ = some (.string a.nm) ∧ w'.cell? ⟨w.heap.size, 1, none⟩ = some (.bool a.vr) ∧ w'.cell? ⟨w.heap.size, 2, none⟩ = some (.slice oa a.ts.length ca) ∧ w'.cell? ⟨w.heap.size + 1, 0, none⟩ = some (.string b.nm) ∧ w'.cell? ⟨w.heap.size + 1, 1, none⟩ = some (.bool b.vr) ∧ w'.cell? ⟨w.heap.size + 1, 2, none⟩ = some (.slice ob b.ts.length cb)) (by kernel_rfl) HM20.out.six (fun _ => ?_)
                simp only [List.size_toArray, List.length_cons, List.length_nil, Nat.reduceAdd]
                refine wpAnyH_take (i := 0) (v := ?_) (by simp only [List.getElem?_toArray, List.getElem?_cons_zero]; rfl) (by kernel_rfl) (by kernel_rfl) (by kernel_rfl) (fun _ _ _ h => h) (Or.inl ⟨by rfl, ?_⟩) HM20.out.six ?_
                case refine_2 => (intro ww hSw; obtain ⟨s1, s2, s3, s4, s5, s6⟩ := hSw; go_simp; try with_reducible rfl)
                try simp only [Act.put, List.setIfInBounds_toArray, List.set_cons_zero, List.set_cons_succ]
                refine wpAnyH_ready (rs := [1]) (by kernel_rfl) (by simp) ?_
                refine AllReadyH.cons (by simp only [List.getElem?_toArray, List.getElem?_cons_zero, List.getElem?_cons_succ]; rfl) (fun K' hK => ?_) AllReadyH.nil
                go_simp
                refine (rcheckSubst_full s (.slice os s.length cs) _ (HM20.out.s.carry (Below.refl _ _) HM20.out.low.size) hbs).mono ?_
                rintro e w21 ⟨rfl, hb⟩
                rw [HCS.out]
                have HM21 := Lib.hid (HM20.out.carry hb)
                have HU21 := Lib.hid (HU20.out.carry (hb.mono HZ20.out) (Nat.le_refl _))
                have HZ21 := Lib.hid (Nat.le_trans HZ20.out hb.size)
                obtain ⟨⟨x0, x1, x2⟩, -⟩ := box3 HM21.out.a.box; obtain ⟨⟨y0, y1, y2⟩, -⟩ := box3 HM21.out.b.box
                clear hb
                refine hK.out _ _ HM21.out.six (fun _ => ?_)
                clear hK
                try simp only [Act.put, List.setIfInBounds_toArray, List.set_cons_zero, List.set_cons_succ]
                refine wpAnyH_take (i := 2) (v := ?_) (by simp only [List.getElem?_toArray, List.getElem?_cons_zero, List.getElem?_cons_succ]; rfl) (by kernel_rfl) (by kernel_rfl) (by kernel_rfl) (fun _ _ _ h => h) (Or.inl ⟨by rfl, ?_⟩) HM21.out.six ?_
                case refine_2 => (intro ww hSw; obtain ⟨s1, s2, s3, s4, s5, s6⟩ := hSw; go_simp; try with_reducible rfl)
                try simp only [Act.put, List.setIfInBounds_toArray, List.set_cons_zero, List.set_cons_succ]
                refine wpAnyH_take (i := 3) (v := ?_) (by simp only [List.getElem?_toArray, List.getElem?_cons_zero, List.getElem?_cons_succ]; rfl) (by kernel_rfl) (by kernel_rfl) (by kernel_rfl) (fun _ _ _ h => h) (Or.inl ⟨by rfl, ?_⟩) HM21.out.six ?_
                case refine_2 => (intro ww hSw; obtain ⟨s1, s2, s3, s4, s5, s6⟩ := hSw; go_simp; try with_reducible rfl)
                try simp only [Act.put, List.setIfInBounds_toArray, List.set_cons_zero, List.set_cons_succ]
                refine wpAnyH_take (i := 4) (v := ?_) (by simp only [List.getElem?_toArray, List.getElem?_cons_zero, List.getElem?_cons_succ]; rfl) (by kernel_rfl) (by kernel_rfl) (by kernel_rfl) (fun _ _ _ h => h) (Or.inl ⟨by rfl, ?_⟩) HM21.out.six ?_
                case refine_2 => (intro ww hSw; obtain ⟨s1, s2, s3, s4, s5, s6⟩ := hSw; go_simp; try with_reducible rfl)
                try simp only [Act.put, List.setIfInBounds_toArray, List.set_cons_zero, List.set_cons_succ]
                refine wpAnyH_take (i := 5) (v := ?_) (by simp only [List.getElem?_toArray, List.getElem?_cons_zero, List.getElem?_cons_succ]; rfl) (by kernel_rfl) (by kernel_rfl) (by kernel_rfl) (fun _ _ _ h => h) (Or.inl ⟨by rfl, ?_⟩) HM21.out.six ?_
                case refine_2 => (intro ww hSw; obtain ⟨s1, s2, s3, s4, s5, s6⟩ := hSw; go_simp; try with_reducible rfl)
                try simp only [Act.put, List.setIfInBounds_toArray, List.set_cons_zero, List.set_cons_succ]
                refine wpAnyH_ready (rs := [6]) (by kernel_rfl) (by simp) ?_
                refine AllReadyH.cons (by simp only [List.getElem?_toArray, List.getElem?_cons_zero, List.getElem?_cons_succ]; rfl) (fun K' hK => ?_) AllReadyH.nil
                go_simp
                refine (rfits_any s (.slice os s.length cs) w.heap.size (by omega) (fun q hq => ⟨(HSK.out.terms q hq).2.1, by have := (HSK.out.terms q hq).bulk; omega⟩) a (.slice oa a.ts.length ca) _ HM21.out.low.size HM21.out.s HM21.out.a.is hba HOKA.out.1.bare).mono ?_
                rintro e w22 ⟨rfl, hb⟩
                rw [HFA.out]
                have HM22 := Lib.hid (HM21.out.carry hb)
                have HU22 := Lib.hid (HU21.out.carry (hb.mono HZ21.out) (Nat.le_refl _))
                have HZ22 := Lib.hid (Nat.le_trans HZ21.out hb.size)
                obtain ⟨⟨x0, x1, x2⟩, -⟩ := box3 HM22.out.a.box; obtain ⟨⟨y0, y1, y2⟩, -⟩ := box3 HM22.out.b.box
                clear hb
                refine hK.out _ _ HM22.out.six (fun _ => ?_)
                clear hK
                try simp only [Act.put, List.setIfInBounds_toArray, List.set_cons_zero, List.set_cons_succ]
                refine wpAnyH_take (i := 7) (v := ?_) (by simp only [List.getElem?_toArray, List.getElem?_cons_zero, List.getElem?_cons_succ]; rfl) (by kernel_rfl) (by kernel_rfl) (by kernel_rfl) (fun _ _ _ h => h) (Or.inl ⟨by rfl, ?_⟩) HM22.out.six ?_
                case refine_2 => (intro ww hSw; obtain ⟨s1, s2, s3, s4, s5, s6⟩ := hSw; go_simp; try with_reducible rfl)
                try simp only [Act.put, List.setIfInBounds_toArray, List.set_cons_zero, List.set_cons_succ]
                refine wpAnyH_take (i := 8) (v := ?_) (by simp only [List.getElem?_toArray, List.getElem?_cons_zero, List.getElem?_cons_succ]; rfl) (by kernel_rfl) (by kernel_rfl) (by kernel_rfl) (fun _ _ _ h => h) (Or.inl ⟨by rfl, ?_⟩) HM22.out.six ?_
                case refine_2 => (intro ww hSw; obtain ⟨s1, s2, s3, s4, s5, s6⟩ := hSw; go_simp; try with_reducible rfl)
                try simp only [Act.put, List.setIfInBounds_toArray, List.set_cons_zero, List.set_cons_succ]
                refine wpAnyH_take (i := 9) (v := ?_) (by simp only [List.getElem?_toArray, List.getElem?_cons_zero, List.getElem?_cons_succ]; rfl) (by kernel_rfl) (by kernel_rfl) (by kernel_rfl) (fun _ _ _ h => h) (Or.inl ⟨by rfl, ?_⟩) HM22.out.six ?_
                case refine_2 => (intro ww hSw; obtain ⟨s1, s2, s3, s4, s5, s6⟩ := hSw; go_simp; try with_reducible rfl)
                try simp only [Act.put, List.setIfInBounds_toArray, List.set_cons_zero, List.set_cons_succ]
                refine wpAnyH_take (i := 10) (v := ?_) (by simp only [List.getElem?_toArray, List.getElem?_cons_zero, List.getElem?_cons_succ]; rfl) (by kernel_rfl) (by kernel_rfl) (by kernel_rfl) (fun _ _ _ h => h) (Or.inl ⟨by rfl, ?_⟩) HM22.out.six ?_
                case refine_2 => (intro ww hSw; obtain ⟨s1, s2, s3, s4, s5, s6⟩ := hSw; go_simp; try with_reducible rfl)
                try simp only [Act.put, List.setIfInBounds_toArray, List.set_cons_zero, List.set_cons_succ]
                refine wpAnyH_take (i := 11) (v := ?_) (by simp only [List.getElem?_toArray, List.getElem?_cons_zero, List.getElem?_cons_succ]; rfl) (by kernel_rfl) (by kernel_rfl) (by kernel_rfl) (fun _ _ _ h => h) (Or.inl ⟨by rfl, ?_⟩) HM22.out.six ?_
                case refine_2 => (intro ww hSw; obtain ⟨s1, s2, s3, s4, s5, s6⟩ := hSw; go_simp; try with_reducible rfl)
                try simp only [Act.put, List.setIfInBounds_toArray, List.set_cons_zero, List.set_cons_succ]
                refine wpAnyH_ready (rs := [12]) (by kernel_rfl) (by simp) ?_
                refine AllReadyH.cons (by simp only [List.getElem?_toArray, List.getElem?_cons_zero, List.getElem?_cons_succ]; rfl) (fun K' hK => ?_) AllReadyH.nil
                go_simp
                refine (rfits_any s (.slice os s.length cs) w.heap.size (by omega) (fun q hq => ⟨(HSK.out.terms q hq).2.1, by have := (HSK.out.terms q hq).bulk; omega⟩) b (.slice ob b.ts.length cb) _ HM22.out.low.size HM22.out.s HM22.out.b.is hbb HOKB.out.1.bare).mono ?_
                rintro e w23 ⟨rfl, hb⟩
                rw [HFB.out]
                have HM23 := Lib.hid (HM22.out.carry hb)
                have HU23 := Lib.hid (HU22.out.carry (hb.mono HZ22.out) (Nat.le_refl _))
                have HZ23 := Lib.hid (Nat.le_trans HZ22.out hb.size)
                obtain ⟨⟨x0, x1, x2⟩, -⟩ := box3 HM23.out.a.box; obtain ⟨⟨y0, y1, y2⟩, -⟩ := box3 HM23.out.b.box
                clear hb
                refine hK.out _ _ HM23.out.six (fun _ => ?_)
                clear hK
                try simp only [Act.put, List.setIfInBounds_toArray, List.set_cons_zero, List.set_cons_succ]
                refine wpAnyH_take (i := 13) (v := ?_) (by simp only [List.getElem?_toArray, List.getElem?_cons_zero, List.getElem?_cons_succ]; rfl) (by kernel_rfl) (by kernel_rfl) (by kernel_rfl) (fun _ _ _ h => h) (Or.inl ⟨by rfl, ?_⟩) HM23.out.six ?_
                case refine_2 => (intro ww hSw; obtain ⟨s1, s2, s3, s4, s5, s6⟩ := hSw; go_simp; try with_reducible rfl)
                try simp only [Act.put, List.setIfInBounds_toArray, List.set_cons_zero, List.set_cons_succ]
                refine wpAnyH_take (i := 14) (v := ?_) (by simp only [List.getElem?_toArray, List.getElem?_cons_zero, List.getElem?_cons_succ]; rfl) (by kernel_rfl) (by kernel_rfl) (by kernel_rfl) (fun _ _ _ h => h) (Or.inl ⟨by rfl, ?_⟩) HM23.out.six ?_
                case refine_2 => (intro ww hSw; obtain ⟨s1, s2, s3, s4, s5, s6⟩ := hSw; go_simp; try with_reducible rfl)
                try simp only [Act.put, List.setIfInBounds_toArray, List.set_cons_zero, List.set_cons_succ]
                refine wpAnyH_take (i := 15) (v := ?_) (by simp only [List.getElem?_toArray, List.getElem?_cons_zero, List.getElem?_cons_succ]; rfl) (by kernel_rfl) (by kernel_rfl) (by kernel_rfl) (fun _ _ _ h => h) (Or.inl ⟨by rfl, ?_⟩) HM23.out.six ?_
                case refine_2 => (intro ww hSw; obtain ⟨s1, s2, s3, s4, s5, s6⟩ := hSw; go_simp; try with_reducible rfl)
                try simp only [Act.put, List.setIfInBounds_toArray, List.set_cons_zero, List.set_cons_succ]
                refine wpAnyH_take (i := 16) (v := _) (by simp only [List.getElem?_toArray, List.getElem?_cons_zero, List.getElem?_cons_succ]; rfl) (by kernel_rfl) (by kernel_rfl) (by kernel_rfl) (fun _ _ _ h => h) (Or.inr ⟨by rfl, rfl⟩) HM23.out.six ?_
                try simp only [Act.put, List.setIfInBounds_toArray, List.set_cons_zero, List.set_cons_succ]
                refine wpAnyH_take (i := 17) (v := _) (by simp only [List.getElem?_toArray, List.getElem?_cons_zero, List.getElem?_cons_succ]; rfl) (by kernel_rfl) (by kernel_rfl) (by kernel_rfl) (fun _ _ _ h => h) (Or.inr ⟨by rfl, rfl⟩) HM23.out.six ?_
                try simp only [Act.put, List.setIfInBounds_toArray, List.set_cons_zero, List.set_cons_succ]
                refine wpAnyH_take (i := 19) (v := _) (by simp only [List.getElem?_toArray, List.getElem?_cons_zero, List.getElem?_cons_succ]; rfl) (by kernel_rfl) (by kernel_rfl) (by kernel_rfl) (fun _ _ _ h => h) (Or.inr ⟨by rfl, rfl⟩) HM23.out.six ?_
                try simp only [Act.put, List.setIfInBounds_toArray, List.set_cons_zero, List.set_cons_succ]
                refine wpAnyH_take (i := 20) (v := _) (by simp only [List.getElem?_toArray, List.getElem?_cons_zero, List.getElem?_cons_succ]; rfl) (by kernel_rfl) (by kernel_rfl) (by kernel_rfl) (fun _ _ _ h => h) (Or.inr ⟨by rfl, rfl⟩) HM23.out.six ?_
                try simp only [Act.put, List.setIfInBounds_toArray, List.set_cons_zero, List.set_cons_succ]
                refine wpAnyH_ready (rs := [18]) (by kernel_rfl) (by simp) ?_
                refine AllReadyH.cons (by simp only [List.getElem?_toArray, List.getElem?_cons_zero, List.getElem?_cons_succ]; rfl) (fun K' hK => ?_) AllReadyH.nil
                go_simp
                refine hK.out _ _ HM23.out.six (fun _ => ?_)
                clear hK
                try simp only [Act.put, List.setIfInBounds_toArray, List.set_cons_zero, List.set_cons_succ]
                refine wpAnyH_ready (rs := [21]) (by kernel_rfl) (by simp) ?_
                refine AllReadyH.cons (by simp only [List.getElem?_toArray, List.getElem?_cons_zero, List.getElem?_cons_succ]; rfl) (fun K' hK => ?_) AllReadyH.nil
                go_simp
                refine hK.out _ _ HM23.out.six (fun _ => ?_)
                clear hK
                try simp only [Act.put, List.setIfInBounds_toArray, List.set_cons_zero, List.set_cons_succ]
                refine wpAnyH_ready (rs := [22]) (by kernel_rfl) (by simp) ?_
                refine AllReadyH.cons (by simp only [List.getElem?_toArray, List.getElem?_cons_zero, List.getElem?_cons_succ]; rfl) (fun K' hK => ?_) AllReadyH.nil
                go_simp
                refine hK.out _ _ HM23.out.six (fun _ => ?_)
                clear hK
                try simp only [Act.put, List.setIfInBounds_toArray, List.set_cons_zero, List.set_cons_succ]
                refine wpAnyH_take (i := 23) (v := _) (by simp only [List.getElem?_toArray, List.getElem?_cons_zero, List.getElem?_cons_succ]; rfl) (by kernel_rfl) (by kernel_rfl) (by kernel_rfl) (fun _ _ _ h => h) (Or.inr ⟨by rfl, rfl⟩) HM23.out.six ?_
                try simp only [Act.put, List.setIfInBounds_toArray, List.set_cons_zero, List.set_cons_succ]
                refine wpAnyH_take (i := 24) (v := ?_) (by simp only [List.getElem?_toArray, List.getElem?_cons_zero, List.getElem?_cons_succ]; rfl) (by kernel_rfl) (by kernel_rfl) (by kernel_rfl) (fun _ _ _ h => h) (Or.inl ⟨by rfl, ?_⟩) HM23.out.six ?_
                case refine_2 => (intro ww hSw; obtain ⟨s1, s2, s3, s4, s5, s6⟩ := hSw; go_simp; try with_reducible rfl)
                try simp only [Act.put, List.setIfInBounds_toArray, List.set_cons_zero, List.set_cons_succ]
                refine wpAnyH_done (by kernel_rfl) ?_ _
                refine NoPanic.normal ?_
                go_wp2_with fail
                refine (alive_any _).mono ?_
                rintro e w9 ⟨rfl, hb9⟩
                have HL9 : Hid (Below w.heap.size w w9) := Lib.hid (HM23.out.low.trans (hb9.mono HM23.out.low.size))
                clear hb9
                go_wp2_with fail
                go_ret
                exact ⟨rfl, HL9.out⟩
            · have HFA : Hid (decide ((apB s a).size ≤ 4000 ∧ (apB s a).depth ≤ 200) = false) := Lib.hid (decide_eq_false hfa)
              clear hfa
              have HM20 := Lib.hid HM4.out.drew
              have HU20 := Lib.hid (HU4.out.carry ((Below.refl _ _).drew.mono HZ4.out) (Nat.le_refl _))
              have HZ20 : Hid (w1.heap.size ≤ w4.drew.heap.size) := Lib.hid HZ4.out
              obtain ⟨⟨x0, x1, x2⟩, -⟩ := box3 HM4.out.a.box; obtain ⟨⟨y0, y1, y2⟩, -⟩ := box3 HM4.out.b.box
              go_wp2_with fail
              refine wp_region_noPanic ?_
              refine wp_region_held_drew (S := fun w' => w'.cell? ⟨w.heap.size, 0, none⟩ = some (.string a.nm) ∧ w'.cell? ⟨w.heap.size, 1, none⟩ = some (.bool a.vr) ∧ w'.cell? ⟨w.heap.size, 2, none⟩ = some (.slice oa a.ts.length ca) ∧ w'.cell? ⟨w.heap.size + 1, 0, none⟩ = some (.string b.nm) ∧ w'.cell? ⟨w.heap.size + 1, 1, none⟩ = some (.bool b.vr) ∧ w'.cell? ⟨w.heap.size + 1, 2, none⟩ = some (.slice ob b.ts.length cb)) (by kernel_rfl) HM20.out.six (fun _ => ?_)
              simp only [List.size_toArray, List.length_cons, List.length_nil, Nat.reduceAdd]
              refine wpAnyH_take (i := 0) (v := ?_) (by simp only [List.getElem?_toArray, List.getElem?_cons_zero]; rfl) (by kernel_rfl) (by kernel_rfl) (by kernel_rfl) (fun _ _ _ h => h) (Or.inl ⟨by rfl, ?_⟩) HM20.out.six ?_
              case refine_2 => (intro ww hSw; obtain ⟨s1, s2, s3, s4, s5, s6⟩ := hSw; go_simp; try with_reducible rfl)
              try simp only [Act.put, List.setIfInBounds_toArray, List.set_cons_zero, List.set_cons_succ]
              refine wpAnyH_ready (rs := [1]) (by kernel_rfl) (by simp) ?_
              refine AllReadyH.cons (by simp only [List.getElem?_toArray, List.getElem?_cons_zero, List.getElem?_cons_succ]; rfl) (fun K' hK => ?_) AllReadyH.nil
              go_simp
              refine (rcheckSubst_full s (.slice os s.length cs) _ (HM20.out.s.carry (Below.refl _ _) HM20.out.low.size) hbs).mono ?_
              rintro e w21 ⟨rfl, hb⟩
              rw [HCS.out]
              have HM21 := Lib.hid (HM20.out.carry hb)
              have HU21 := Lib.hid (HU20.out.carry (hb.mono HZ20.out) (Nat.le_refl _))
              have HZ21 := Lib.hid (Nat.le_trans HZ20.out hb.size)
              obtain ⟨⟨x0, x1, x2⟩, -⟩ := box3 HM21.out.a.box; obtain ⟨⟨y0, y1, y2⟩, -⟩ := box3 HM21.out.b.box
              clear hb
              refine hK.out _ _ HM21.out.six (fun _ => ?_)
              clear hK
              try simp only [Act.put, List.setIfInBounds_toArray, List.set_cons_zero, List.set_cons_succ]
              refine wpAnyH_take (i := 2) (v := ?_) (by simp only [List.getElem?_toArray, List.getElem?_cons_zero, List.getElem?_cons_succ]; rfl) (by kernel_rfl) (by kernel_rfl) (by kernel_rfl) (fun _ _ _ h => h) (Or.inl ⟨by rfl, ?_⟩) HM21.out.six ?_
              case refine_2 => (intro ww hSw; obtain ⟨s1, s2, s3, s4, s5, s6⟩ := hSw; go_simp; try with_reducible rfl)
              try simp only [Act.put, List.setIfInBounds_toArray, List.set_cons_zero, List.set_cons_succ]
              refine wpAnyH_take (i := 3) (v := ?_) (by simp only [List.getElem?_toArray, List.getElem?_cons_zero, List.getElem?_cons_succ]; rfl) (by kernel_rfl) (by kernel_rfl) (by kernel_rfl) (fun _ _ _ h => h) (Or.inl ⟨by rfl, ?_⟩) HM21.out.six ?_
              case refine_2 => (intro ww hSw; obtain ⟨s1, s2, s3, s4, s5, s6⟩ := hSw; go_simp; try with_reducible rfl)
              try simp only [Act.put, List.setIfInBounds_toArray, List.set_cons_zero, List.set_cons_succ]
              refine wpAnyH_take (i := 4) (v := ?_) (by simp only [List.getElem?_toArray, List.getElem?_cons_zero, List.getElem?_cons_succ]; rfl) (by kernel_rfl) (by kernel_rfl) (by kernel_rfl) (fun _ _ _ h => h) (Or.inl ⟨by rfl, ?_⟩) HM21.out.six ?_
              case refine_2 => (intro ww hSw; obtain ⟨s1, s2, s3, s4, s5, s6⟩ := hSw; go_simp; try with_reducible rfl)
              try simp only [Act.put, List.setIfInBounds_toArray, List.set_cons_zero, List.set_cons_succ]
              refine wpAnyH_take (i := 5) (v := ?_) (by simp only [List.getElem?_toArray, List.getElem?_cons_zero, List.getElem?_cons_succ]; rfl) (by kernel_rfl) (by kernel_rfl) (by kernel_rfl) (fun _ _ _ h => h) (Or.inl ⟨by rfl, ?_⟩) HM21.out.six ?_
              case refine_2 => (intro ww hSw; obtain ⟨s1, s2, s3, s4, s5, s6⟩ := hSw; go_simp; try with_reducible rfl)
              try simp only [Act.put, List.setIfInBounds_toArray, List.set_cons_zero, List.set_cons_succ]
              refine wpAnyH_ready (rs := [6]) (by kernel_rfl) (by simp) ?_
              refine AllReadyH.cons (by simp only [List.getElem?_toArray, List.getElem?_cons_zero, List.getElem?_cons_succ]; rfl) (fun K' hK => ?_) AllReadyH.nil
              go_simp
              refine (rfits_any s (.slice os s.length cs) w.heap.size (by omega) (fun q hq => ⟨(HSK.out.terms q hq).2.1, by have := (HSK.out.terms q hq).bulk; omega⟩) a (.slice oa a.ts.length ca) _ HM21.out.low.size HM21.out.s HM21.out.a.is hba HOKA.out.1.bare).mono ?_
              rintro e w22 ⟨rfl, hb⟩
              rw [HFA.out]
              have HM22 := Lib.hid (HM21.out.carry hb)
              have HU22 := Lib.hid (HU21.out.carry (hb.mono HZ21.out) (Nat.le_refl _))
              have HZ22 := Lib.hid (Nat.le_trans HZ21.out hb.size)
              obtain ⟨⟨x0, x1, x2⟩, -⟩ := box3 HM22.out.a.box; obtain ⟨⟨y0, y1, y2⟩, -⟩ := box3 HM22.out.b.box
              clear hb
              refine hK.out _ _ HM22.out.six (fun _ => ?_)
              clear hK
              try simp only [Act.put, List.setIfInBounds_toArray, List.set_cons_zero, List.set_cons_succ]
              refine wpAnyH_take (i := 7) (v := ?_) (by simp only [List.getElem?_toArray, List.getElem?_cons_zero, List.getElem?_cons_succ]; rfl) (by kernel_rfl) (by kernel_rfl) (by kernel_rfl) (fun _ _ _ h => h) (Or.inl ⟨by rfl, ?_⟩) HM22.out.six ?_
              case refine_2 => (intro ww hSw; obtain ⟨s1, s2, s3, s4, s5, s6⟩ := hSw; go_simp; try with_reducible rfl)
              try simp only [Act.put, List.setIfInBounds_toArray, List.set_cons_zero, List.set_cons_succ]
              refine wpAnyH_take (i := 8) (v := ?_) (by simp only [List.getElem?_toArray, List.getElem?_cons_zero, List.getElem?_cons_succ]; rfl) (by kernel_rfl) (by kernel_rfl) (by kernel_rfl) (fun _ _ _ h => h) (Or.inl ⟨by rfl, ?_⟩) HM22.out.six ?_
              case refine_2 => (intro ww hSw; obtain ⟨s1, s2, s3, s4, s5, s6⟩ := hSw; go_simp; try with_reducible rfl)
              try simp only [Act.put, List.setIfInBounds_toArray, List.set_cons_zero, List.set_cons_succ]
              refine wpAnyH_take (i := 9) (v := ?_) (by simp only [List.getElem?_toArray, List.getElem?_cons_zero, List.getElem?_cons_succ]; rfl) (by kernel_rfl) (by kernel_rfl) (by kernel_rfl) (fun _ _ _ h => h) (Or.inl ⟨by rfl, ?_⟩) HM22.out.six ?_
              case refine_2 => (intro ww hSw; obtain ⟨s1, s2, s3, s4, s5, s6⟩ := hSw; go_simp; try with_reducible rfl)
              try simp only [Act.put, List.setIfInBounds_toArray, List.set_cons_zero, List.set_cons_succ]
              refine wpAnyH_take (i := 10) (v := _) (by simp only [List.getElem?_toArray, List.getElem?_cons_zero, List.getElem?_cons_succ]; rfl) (by kernel_rfl) (by kernel_rfl) (by kernel_rfl) (fun _ _ _ h => h) (Or.inr ⟨by rfl, rfl⟩) HM22.out.six ?_
              try simp only [Act.put, List.setIfInBounds_toArray, List.set_cons_zero, List.set_cons_succ]
              refine wpAnyH_take (i := 11) (v := _) (by simp only [List.getElem?_toArray, List.getElem?_cons_zero, List.getElem?_cons_succ]; rfl) (by kernel_rfl) (by kernel_rfl) (by kernel_rfl) (fun _ _ _ h => h) (Or.inr ⟨by rfl, rfl⟩) HM22.out.six ?_
              try simp only [Act.put, List.setIfInBounds_toArray, List.set_cons_zero, List.set_cons_succ]
              refine wpAnyH_ready (rs := [12]) (by kernel_rfl) (by simp) ?_
              refine AllReadyH.cons (by simp only [List.getElem?_toArray, List.getElem?_cons_zero, List.getElem?_cons_succ]; rfl) (fun K' hK => ?_) AllReadyH.nil
              go_simp
              refine hK.out _ _ HM22.out.six (fun _ => ?_)
              clear hK
              try simp only [Act.put, List.setIfInBounds_toArray, List.set_cons_zero, List.set_cons_succ]
              refine wpAnyH_take (i := 13) (v := _) (by simp only [List.getElem?_toArray, List.getElem?_cons_zero, List.getElem?_cons_succ]; rfl) (by kernel_rfl) (by kernel_rfl) (by kernel_rfl) (fun _ _ _ h => h) (Or.inr ⟨by rfl, rfl⟩) HM22.out.six ?_
              try simp only [Act.put, List.setIfInBounds_toArray, List.set_cons_zero, List.set_cons_succ]
              refine wpAnyH_take (i := 14) (v := ?_) (by simp only [List.getElem?_toArray, List.getElem?_cons_zero, List.getElem?_cons_succ]; rfl) (by kernel_rfl) (by kernel_rfl) (by kernel_rfl) (fun _ _ _ h => h) (Or.inl ⟨by rfl, ?_⟩) HM22.out.six ?_
              case refine_2 => (intro ww hSw; obtain ⟨s1, s2, s3, s4, s5, s6⟩ := hSw; go_simp; try with_reducible rfl)
              try simp only [Act.put, List.setIfInBounds_toArray, List.set_cons_zero, List.set_cons_succ]
              refine wpAnyH_take (i := 15) (v := ?_) (by simp only [List.getElem?_toArray, List.getElem?_cons_zero, List.getElem?_cons_succ]; rfl) (by kernel_rfl) (by kernel_rfl) (by kernel_rfl) (fun _ _ _ h => h) (Or.inl ⟨by rfl, ?_⟩) HM22.out.six ?_
              case refine_2 => (intro ww hSw; obtain ⟨s1, s2, s3, s4, s5, s6⟩ := hSw; go_simp; try with_reducible rfl)
              try simp only [Act.put, List.setIfInBounds_toArray, List.set_cons_zero, List.set_cons_succ]
              refine wpAnyH_take (i := 16) (v := _) (by simp only [List.getElem?_toArray, List.getElem?_cons_zero, List.getElem?_cons_succ]; rfl) (by kernel_rfl) (by kernel_rfl) (by kernel_rfl) (fun _ _ _ h => h) (Or.inr ⟨by rfl, rfl⟩) HM22.out.six ?_
              try simp only [Act.put, List.setIfInBounds_toArray, List.set_cons_zero, List.set_cons_succ]
              refine wpAnyH_take (i := 17) (v := _) (by simp only [List.getElem?_toArray, List.getElem?_cons_zero, List.getElem?_cons_succ]; rfl) (by kernel_rfl) (by kernel_rfl) (by kernel_rfl) (fun _ _ _ h => h) (Or.inr ⟨by rfl, rfl⟩) HM22.out.six ?_
              try simp only [Act.put, List.setIfInBounds_toArray, List.set_cons_zero, List.set_cons_succ]
              refine wpAnyH_take (i := 19) (v := _) (by simp only [List.getElem?_toArray, List.getElem?_cons_zero, List.getElem?_cons_succ]; rfl) (by kernel_rfl) (by kernel_rfl) (by kernel_rfl) (fun _ _ _ h => h) (Or.inr ⟨by rfl, rfl⟩) HM22.out.six ?_
              try simp only [Act.put, List.setIfInBounds_toArray, List.set_cons_zero, List.set_cons_succ]
              refine wpAnyH_take (i := 20) (v := _) (by simp only [List.getElem?_toArray, List.getElem?_cons_zero, List.getElem?_cons_succ]; rfl) (by kernel_rfl) (by kernel_rfl) (by kernel_rfl) (fun _ _ _ h => h) (Or.inr ⟨by rfl, rfl⟩) HM22.out.six ?_
              try simp only [Act.put, List.setIfInBounds_toArray, List.set_cons_zero, List.set_cons_succ]
              refine wpAnyH_ready (rs := [18]) (by kernel_rfl) (by simp) ?_
              refine AllReadyH.cons (by simp only [List.getElem?_toArray, List.getElem?_cons_zero, List.getElem?_cons_succ]; rfl) (fun K' hK => ?_) AllReadyH.nil
              go_simp
              refine hK.out _ _ HM22.out.six (fun _ => ?_)
              clear hK
              try simp only [Act.put, List.setIfInBounds_toArray, List.set_cons_zero, List.set_cons_succ]
              refine wpAnyH_ready (rs := [21]) (by kernel_rfl) (by simp) ?_
              refine AllReadyH.cons (by simp only [List.getElem?_toArray, List.getElem?_cons_zero, List.getElem?_cons_succ]; rfl) (fun K' hK => ?_) AllReadyH.nil
              go_simp
              refine hK.out _ _ HM22.out.six (fun _ => ?_)
              clear hK
              try simp only [Act.put, List.setIfInBounds_toArray, List.set_cons_zero, List.set_cons_succ]
              refine wpAnyH_ready (rs := [22]) (by kernel_rfl) (by simp) ?_
              refine AllReadyH.cons (by simp only [List.getElem?_toArray, List.getElem?_cons_zero, List.getElem?_cons_succ]; rfl) (fun K' hK => ?_) AllReadyH.nil
              go_simp
              refine hK.out _ _ HM22.out.six (fun _ => ?_)
              clear hK
              try simp only [Act.put, List.setIfInBounds_toArray, List.set_cons_zero, List.set_cons_succ]
              refine wpAnyH_take (i := 23) (v := _) (by simp only [List.getElem?_toArray, List.getElem?_cons_zero, List.getElem?_cons_succ]; rfl) (by kernel_rfl) (by kernel_rfl) (by kernel_rfl) (fun _ _ _ h => h) (Or.inr ⟨by rfl, rfl⟩) HM22.out.six ?_
              try simp only [Act.put, List.setIfInBounds_toArray, List.set_cons_zero, List.set_cons_succ]
              refine wpAnyH_take (i := 24) (v := ?_) (by simp only [List.getElem?_toArray, List.getElem?_cons_zero, List.getElem?_cons_succ]; rfl) (by kernel_rfl) (by kernel_rfl) (by kernel_rfl) (fun _ _ _ h => h) (Or.inl ⟨by rfl, ?_⟩) HM22.out.six ?_
              case refine_2 => (intro ww hSw; obtain ⟨s1, s2, s3, s4, s5, s6⟩ := hSw; go_simp; try with_reducible rfl)
              try simp only [Act.put, List.setIfInBounds_toArray, List.set_cons_zero, List.set_cons_succ]
              refine wpAnyH_done (by kernel_rfl) ?_ _
              refine NoPanic.normal ?_
              go_wp2_with fail
              refine (alive_any _).mono ?_
              rintro e w9 ⟨rfl, hb9⟩
              have HL9 : Hid (Below w.heap.size w w9) := Lib.hid (HM22.out.low.trans (hb9.mono HM22.out.low.size))
              clear hb9
              go_wp2_with fail
              go_ret
              exact ⟨rfl, HL9.out⟩
          · have hcn : (csC s != 0) = true := by rw [bne_iff_ne]; exact hcs
            clear hcs
            have HM20 := Lib.hid HM4.out.drew
            have HU20 := Lib.hid (HU4.out.carry ((Below.refl _ _).drew.mono HZ4.out) (Nat.le_refl _))
            have HZ20 : Hid (w1.heap.size ≤ w4.drew.heap.size) := Lib.hid HZ4.out
            obtain ⟨⟨x0, x1, x2⟩, -⟩ := box3 HM4.out.a.box; obtain ⟨⟨y0, y1, y2⟩, -⟩ := box3 HM4.out.b.box
            go_wp2_with fail
            refine wp_region_noPanic ?_
            refine wp_region_held_drew (S := fun w' => w'.cell? ⟨w.heap.size, 0, none⟩ = some (.string a.nm) ∧ w'.cell? ⟨w.heap.size, 1, none⟩ = some (.bool a.vr) ∧ w'.cell? ⟨w.heap.size, 2, none⟩ = some (.slice oa a.ts.length ca) ∧ w'.cell? ⟨w.heap.size + 1, 0, none⟩ = some (.string b.nm) ∧ w'.cell? ⟨w.heap.size + 1, 1, none⟩ = some (.bool b.vr) ∧ w'.cell? ⟨w.heap.size + 1, 2, none⟩ = some (.slice ob b.ts.length cb)) (by kernel_rfl) HM20.out.six (fun _ => ?_)
            simp only [List.size_toArray, List.length_cons, List.length_nil, Nat.reduceAdd]
            refine wpAnyH_take (i := 0) (v := ?_) (by simp only [List.getElem?_toArray, List.getElem?_cons_zero]; rfl) (by kernel_rfl) (by kernel_rfl) (by kernel_rfl) (fun _ _ _ h => h) (Or.inl ⟨by rfl, ?_⟩) HM20.out.six ?_
            case refine_2 => (intro ww hSw; obtain ⟨s1, s2, s3, s4, s5, s6⟩ := hSw; go_simp; try with_reducible rfl)
            try simp only [Act.put, List.setIfInBounds_toArray, List.set_cons_zero, List.set_cons_succ]
            refine wpAnyH_ready (rs := [1]) (by kernel_rfl) (by simp) ?_
            refine AllReadyH.cons (by simp only [List.getElem?_toArray, List.getElem?_cons_zero, List.getElem?_cons_succ]; rfl) (fun K' hK => ?_) AllReadyH.nil
            go_simp
            refine (rcheckSubst_full s (.slice os s.length cs) _ (HM20.out.s.carry (Below.refl _ _) HM20.out.low.size) hbs).mono ?_
            rintro e w21 ⟨rfl, hb⟩
            have HM21 := Lib.hid (HM20.out.carry hb)
            have HU21 := Lib.hid (HU20.out.carry (hb.mono HZ20.out) (Nat.le_refl _))
            have HZ21 := Lib.hid (Nat.le_trans HZ20.out hb.size)
            obtain ⟨⟨x0, x1, x2⟩, -⟩ := box3 HM21.out.a.box; obtain ⟨⟨y0, y1, y2⟩, -⟩ := box3 HM21.out.b.box
            clear hb
            refine hK.out _ _ HM21.out.six (fun _ => ?_)
            clear hK
            try simp only [Act.put, List.setIfInBounds_toArray, List.set_cons_zero, List.set_cons_succ]
            refine wpAnyH_take (i := 2) (v := ?_) (by simp only [List.getElem?_toArray, List.getElem?_cons_zero, List.getElem?_cons_succ]; rfl) (by kernel_rfl) (by kernel_rfl) (by kernel_rfl) (fun _ _ _ h => h) (Or.inl ⟨by rfl, ?_⟩) HM21.out.six ?_
            case refine_2 => (intro ww hSw; obtain ⟨s1, s2, s3, s4, s5, s6⟩ := hSw; go_simp; try with_reducible rfl)
            try simp only [Act.put, List.setIfInBounds_toArray, List.set_cons_zero, List.set_cons_succ]
            refine wpAnyH_take (i := 3) (v := ?_) (by simp only [List.getElem?_toArray, List.getElem?_cons_zero, List.getElem?_cons_succ]; rfl) (by kernel_rfl) (by kernel_rfl) (by kernel_rfl) (fun _ _ _ h => h) (Or.inl ⟨by rfl, ?_⟩) HM21.out.six ?_
            case refine_2 => (intro ww hSw; obtain ⟨s1, s2, s3, s4, s5, s6⟩ := hSw; go_simp; try with_reducible rfl)
            try simp only [Act.put, List.setIfInBounds_toArray, List.set_cons_zero, List.set_cons_succ]
            refine wpAnyH_take (i := 4) (v := _) (by simp only [List.getElem?_toArray, List.getElem?_cons_zero, List.getElem?_cons_succ]; rfl) (by kernel_rfl) (by kernel_rfl) (by kernel_rfl) (fun _ _ _ h => h) (Or.inr ⟨by rfl, rfl⟩) HM21.out.six ?_
            try simp only [Act.put, List.setIfInBounds_toArray, List.set_cons_zero, List.set_cons_succ]
            refine wpAnyH_take (i := 5) (v := _) (by simp only [List.getElem?_toArray, List.getElem?_cons_zero, List.getElem?_cons_succ]; rfl) (by kernel_rfl) (by kernel_rfl) (by kernel_rfl) (fun _ _ _ h => h) (Or.inr ⟨by rfl, rfl⟩) HM21.out.six ?_
            try simp only [Act.put, List.setIfInBounds_toArray, List.set_cons_zero, List.set_cons_succ]
            refine wpAnyH_ready (rs := [6]) (by kernel_rfl) (by simp) ?_
            refine AllReadyH.cons (by simp only [List.getElem?_toArray, List.getElem?_cons_zero, List.getElem?_cons_succ]; rfl) (fun K' hK => ?_) AllReadyH.nil
            go_simp
            refine hK.out _ _ HM21.out.six (fun _ => ?_)
            clear hK
            try simp only [Act.put, List.setIfInBounds_toArray, List.set_cons_zero, List.set_cons_succ]
            refine wpAnyH_take (i := 7) (v := _) (by simp only [List.getElem?_toArray, List.getElem?_cons_zero, List.getElem?_cons_succ]; rfl) (by kernel_rfl) (by kernel_rfl) (by kernel_rfl) (fun _ _ _ h => h) (Or.inr ⟨by rfl, rfl⟩) HM21.out.six ?_
            try simp only [Act.put, List.setIfInBounds_toArray, List.set_cons_zero, List.set_cons_succ]
            refine wpAnyH_take (i := 8) (v := ?_) (by simp only [List.getElem?_toArray, List.getElem?_cons_zero, List.getElem?_cons_succ]; rfl) (by kernel_rfl) (by kernel_rfl) (by kernel_rfl) (fun _ _ _ h => h) (Or.inl ⟨by rfl, ?_⟩) HM21.out.six ?_
            case refine_2 => (intro ww hSw; obtain ⟨s1, s2, s3, s4, s5, s6⟩ := hSw; go_simp; try with_reducible rfl)
            try simp only [Act.put, List.setIfInBounds_toArray, List.set_cons_zero, List.set_cons_succ]
            refine wpAnyH_take (i := 9) (v := ?_) (by simp only [List.getElem?_toArray, List.getElem?_cons_zero, List.getElem?_cons_succ]; rfl) (by kernel_rfl) (by kernel_rfl) (by kernel_rfl) (fun _ _ _ h => h) (Or.inl ⟨by rfl, ?_⟩) HM21.out.six ?_
            case refine_2 => (intro ww hSw; obtain ⟨s1, s2, s3, s4, s5, s6⟩ := hSw; go_simp; try with_reducible rfl)
            try simp only [Act.put, List.setIfInBounds_toArray, List.set_cons_zero, List.set_cons_succ]
            refine wpAnyH_take (i := 10) (v := _) (by simp only [List.getElem?_toArray, List.getElem?_cons_zero, List.getElem?_cons_succ]; rfl) (by kernel_rfl) (by kernel_rfl) (by kernel_rfl) (fun _ _ _ h => h) (Or.inr ⟨by rfl, rfl⟩) HM21.out.six ?_
            try simp only [Act.put, List.setIfInBounds_toArray, List.set_cons_zero, List.set_cons_succ]
            refine wpAnyH_take (i := 11) (v := _) (by simp only [List.getElem?_toArray, List.getElem?_cons_zero, List.getElem?_cons_succ]; rfl) (by kernel_rfl) (by kernel_rfl) (by kernel_rfl) (fun _ _ _ h => h) (Or.inr ⟨by rfl, rfl⟩) HM21.out.six ?_
            try simp only [Act.put, List.setIfInBounds_toArray, List.set_cons_zero, List.set_cons_succ]
            refine wpAnyH_ready (rs := [12]) (by kernel_rfl) (by simp) ?_
            refine AllReadyH.cons (by simp only [List.getElem?_toArray, List.getElem?_cons_zero, List.getElem?_cons_succ]; rfl) (fun K' hK => ?_) AllReadyH.nil
            go_simp
            refine hK.out _ _ HM21.out.six (fun _ => ?_)
            clear hK
            try simp only [Act.put, List.setIfInBounds_toArray, List.set_cons_zero, List.set_cons_succ]
            refine wpAnyH_take (i := 13) (v := _) (by simp only [List.getElem?_toArray, List.getElem?_cons_zero, List.getElem?_cons_succ]; rfl) (by kernel_rfl) (by kernel_rfl) (by kernel_rfl) (fun _ _ _ h => h) (Or.inr ⟨by rfl, rfl⟩) HM21.out.six ?_
            try simp only [Act.put, List.setIfInBounds_toArray, List.set_cons_zero, List.set_cons_succ]
            refine wpAnyH_take (i := 14) (v := ?_) (by simp only [List.getElem?_toArray, List.getElem?_cons_zero, List.getElem?_cons_succ]; rfl) (by kernel_rfl) (by kernel_rfl) (by kernel_rfl) (fun _ _ _ h => h) (Or.inl ⟨by rfl, ?_⟩) HM21.out.six ?_
            case refine_2 => (intro ww hSw; obtain ⟨s1, s2, s3, s4, s5, s6⟩ := hSw; go_simp; try with_reducible rfl)
            try simp only [Act.put, List.setIfInBounds_toArray, List.set_cons_zero, List.set_cons_succ]
            refine wpAnyH_take (i := 15) (v := ?_) (by simp only [List.getElem?_toArray, List.getElem?_cons_zero, List.getElem?_cons_succ]; rfl) (by kernel_rfl) (by kernel_rfl) (by kernel_rfl) (fun _ _ _ h => h) (Or.inl ⟨by rfl, ?_⟩) HM21.out.six ?_
            case refine_2 => (intro ww hSw; obtain ⟨s1, s2, s3, s4, s5, s6⟩ := hSw; go_simp; try with_reducible rfl)
            try simp only [Act.put, List.setIfInBounds_toArray, List.set_cons_zero, List.set_cons_succ]
            refine wpAnyH_take (i := 16) (v := _) (by simp only [List.getElem?_toArray, List.getElem?_cons_zero, List.getElem?_cons_succ]; rfl) (by kernel_rfl) (by kernel_rfl) (by kernel_rfl) (fun _ _ _ h => h) (Or.inr ⟨by rfl, rfl⟩) HM21.out.six ?_
            try simp only [Act.put, List.setIfInBounds_toArray, List.set_cons_zero, List.set_cons_succ]
            refine wpAnyH_take (i := 17) (v := _) (by simp only [List.getElem?_toArray, List.getElem?_cons_zero, List.getElem?_cons_succ]; rfl) (by kernel_rfl) (by kernel_rfl) (by kernel_rfl) (fun _ _ _ h => h) (Or.inr ⟨by rfl, rfl⟩) HM21.out.six ?_
            try simp only [Act.put, List.setIfInBounds_toArray, List.set_cons_zero, List.set_cons_succ]
            refine wpAnyH_take (i := 19) (v := _) (by simp only [List.getElem?_toArray, List.getElem?_cons_zero, List.getElem?_cons_succ]; rfl) (by kernel_rfl) (by kernel_rfl) (by kernel_rfl) (fun _ _ _ h => h) (Or.inr ⟨by rfl, rfl⟩) HM21.out.six ?_
            try simp only [Act.put, List.setIfInBounds_toArray, List.set_cons_zero, List.set_cons_succ]
            refine wpAnyH_take (i := 20) (v := _) (by simp only [List.getElem?_toArray, List.getElem?_cons_zero, List.getElem?_cons_succ]; rfl) (by kernel_rfl) (by kernel_rfl) (by kernel_rfl) (fun _ _ _ h => h) (Or.inr ⟨by rfl, rfl⟩) HM21.out.six ?_
            try simp only [Act.put, List.setIfInBounds_toArray, List.set_cons_zero, List.set_cons_succ]
            refine wpAnyH_ready (rs := [18]) (by kernel_rfl) (by simp) ?_
            refine AllReadyH.cons (by simp only [List.getElem?_toArray, List.getElem?_cons_zero, List.getElem?_cons_succ]; rfl) (fun K' hK => ?_) AllReadyH.nil
            go_simp
            refine hK.out _ _ HM21.out.six (fun _ => ?_)
            clear hK
            try simp only [Act.put, List.setIfInBounds_toArray, List.set_cons_zero, List.set_cons_succ]
            refine wpAnyH_ready (rs := [21]) (by kernel_rfl) (by simp) ?_
            refine AllReadyH.cons (by simp only [List.getElem?_toArray, List.getElem?_cons_zero, List.getElem?_cons_succ]; rfl) (fun K' hK => ?_) AllReadyH.nil
            go_simp
            refine hK.out _ _ HM21.out.six (fun _ => ?_)
            clear hK
            try simp only [Act.put, List.setIfInBounds_toArray, List.set_cons_zero, List.set_cons_succ]
            refine wpAnyH_ready (rs := [22]) (by kernel_rfl) (by simp) ?_
            refine AllReadyH.cons (by simp only [List.getElem?_toArray, List.getElem?_cons_zero, List.getElem?_cons_succ]; rfl) (fun K' hK => ?_) AllReadyH.nil
            go_simp
            refine hK.out _ _ HM21.out.six (fun _ => ?_)
            clear hK
            try simp only [Act.put, List.setIfInBounds_toArray, List.set_cons_zero, List.set_cons_succ]
            refine wpAnyH_take (i := 23) (v := _) (by simp only [List.getElem?_toArray, List.getElem?_cons_zero, List.getElem?_cons_succ]; rfl) (by kernel_rfl) (by kernel_rfl) (by kernel_rfl) (fun _ _ _ h => h) (Or.inr ⟨by rfl, rfl⟩) HM21.out.six ?_
            try simp only [Act.put, List.setIfInBounds_toArray, List.set_cons_zero, List.set_cons_succ]
            refine wpAnyH_take (i := 24) (v := ?_) (by simp only [List.getElem?_toArray, List.getElem?_cons_zero, List.getElem?_cons_succ]; rfl) (by kernel_rfl) (by kernel_rfl) (by kernel_rfl) (fun _ _ _ h => h) (Or.inl ⟨by rfl, ?_⟩) HM21.out.six ?_
            case refine_2 => (intro ww hSw; obtain ⟨s1, s2, s3, s4, s5, s6⟩ := hSw; go_simp; try with_reducible rfl)
            try simp only [Act.put, List.setIfInBounds_toArray, List.set_cons_zero, List.set_cons_succ]
            refine wpAnyH_done (by kernel_rfl) ?_ _
            refine NoPanic.normal ?_
            go_wp2_with fail
            refine (alive_any _).mono ?_
            rintro e w9 ⟨rfl, hb9⟩
            have HL9 : Hid (Below w.heap.size w w9) := Lib.hid (HM21.out.low.trans (hb9.mono HM21.out.low.size))
            clear hb9
            go_wp2_with fail
            go_ret
            exact ⟨rfl, HL9.out⟩
end Go.Proofs.YtkglopdogakfoaaGreatDoor
