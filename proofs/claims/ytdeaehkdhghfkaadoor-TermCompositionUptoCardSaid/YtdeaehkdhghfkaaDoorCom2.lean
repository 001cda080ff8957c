/- Compose: the walk. The composition as a function on terms. -/
import Derived.WalkKit
import Derived.ProofKit
import Derived.OpenShut
import Derived.Handy
import Derived.Lib.Hide
import Derived.Deep.RegionHeld3
import Derived.Test.YtdeaehkdhghfkaaDoorCom
namespace Go.Proofs.YtdeaehkdhghfkaaDoor
open Go.RowKit Go.Sort Go.Maps

theorem cells_new4 (W : World) (x : Elem) (e : TypeId) : ∀ j u, (encE x)[j]? = some u → (W.alloc (.cells #[.string (kb x.1.1), .string x.1.2.nm, .bool x.1.2.vr, .slice x.2.1 x.2.2.1 x.2.2.2] e)).cell? ((⟨W.heap.size, 0, none⟩ : Addr).add j) = some u := cells_new W _ _ _ _ e
theorem encE_one (x : Elem) : ∀ v ∈ encE x, v.oneCell' = true := fun v hv => by simp [encE] at hv; rcases hv with rfl | rfl | rfl | rfl <;> rfl

/-- what has been made when l of the second's bindings are done -/
def comJ (s u l : List Bd) : List Bd := s.map (fun p => (p.1, apB u p.2)) ++ l.filter (fun p => decide (p.1 ∉ s.map (·.1)))
theorem comJ_nil (s u : List Bd) : comJ s u [] = s.map (fun p => (p.1, apB u p.2)) := by simp [comJ]
theorem comJ_in {s u l : List Bd} {p : Bd} (h : p.1 ∈ s.map (·.1)) : comJ s u (l ++ [p]) = comJ s u l := by
  unfold comJ
  rw [List.filter_append, show List.filter (fun p : Bd => decide (p.1 ∉ s.map (·.1))) [p] = [] by rw [List.filter_cons, if_neg (by simpa using h)]; rfl, List.append_nil]
theorem comJ_out {s u l : List Bd} {p : Bd} (h : p.1 ∉ s.map (·.1)) : comJ s u (l ++ [p]) = comJ s u l ++ [p] := by
  unfold comJ
  rw [List.filter_append, show List.filter (fun p : Bd => decide (p.1 ∉ s.map (·.1))) [p] = [p] by rw [List.filter_cons, if_pos (by simpa using h)]; rfl, List.append_assoc]
theorem comJ_len (s u l : List Bd) : (comJ s u l).length ≤ s.length + l.length := by
  have := List.length_filter_le (fun p : Bd => decide (p.1 ∉ s.map (·.1))) l
  unfold comJ
  rw [List.length_append, List.length_map]
  omega

set_option maxRecDepth 100000 in
set_option maxHeartbeats 8000000 in
theorem compose_any (s u : List Bd) (v1 v2 : Value) (w : World) (h1 : BindsIs w.heap.size w s v1) (h2 : BindsIs w.heap.size w u v2) (hb1 : bdBulk s ≤ 1048576) (hb2 : bdBulk u ≤ 1048576) :
    Calls Tryd.prog 46 #[v1, v2] w fun e w' => (∃ (c : Int) (sl : Value), e = .returned (.tuple #[sl, .int .i64 c]) ∧
      ((c = 0 ∧ SubOk s ∧ SubOk u ∧ (∀ p ∈ s, (apB u p.2).small) ∧ ∃ ys, BindsIs w'.heap.size w' ys sl ∧ SubOk ys ∧ ys.Perm (comB s u)) ∨ (c ≠ 0 ∧ sl = .slice none 0 0))) ∧ Below w.heap.size w w' := by
  have h1' := h1
  have h2' := h2
  obtain ⟨o1, k1, rfl, hk1, -⟩ := h1'
  obtain ⟨o2, k2, rfl, hk2, -⟩ := h2'
  obtain ⟨i0, hi, hz, hs1, hbb1⟩ := info_parts infoBind
  have HI := Lib.hid hi
  have HZ := Lib.hid hz
  have HS1 := Lib.hid hs1
  have HBB := Lib.hid hbb1
  have HL1 := Lib.hid h1
  have HL2 := Lib.hid h2
  have HB1 := Lib.hid hb1
  have HB2 := Lib.hid hb2
  have hl1 := Nat.le_trans (bdBulk_len s) hb1
  have hl2 := Nat.le_trans (bdBulk_len u) hb2
  clear hi hz hs1 hbb1 h1 h2
  go_enter Tryd.func46, Tryd.ntmps46
  go_wp2_with fail
  refine (checkSubst_any s _ _ HL1.out hb1).mono ?_
  rintro e w1 ⟨⟨c1, rfl, hc1⟩, hw1⟩
  have HC1 := Lib.hid hc1
  have HW1 := Lib.hid hw1
  clear hc1 hw1
  by_cases hc10 : c1 = 0
  · subst hc10
    have HS := Lib.hid (HC1.out.1 rfl)
    go_wp2_with fail
    refine (checkSubst_any u _ _ (HL2.out.carry HW1.out HW1.out.size) hb2).mono ?_
    rintro e w2 ⟨⟨c2, rfl, hc2⟩, hw2⟩
    have HC2 := Lib.hid hc2
    have HW2 := Lib.hid (HW1.out.trans (hw2.mono HW1.out.size))
    clear hc2 hw2
    by_cases hc20 : c2 = 0
    · subst hc20
      have HU := Lib.hid (HC2.out.1 rfl)
      go_wp2_with fail
      refine (images_any s _ _ (HL1.out.carry HW2.out HW2.out.size) hb1 HS.out.nodup).mono ?_
      rintro e w3 ⟨⟨rfl, him1⟩, hw3⟩
      have hz3 : w2.heap.size < w3.heap.size := by obtain ⟨D, ⟨es, cl, hes, _⟩, _⟩ := him1; exact (Array.getElem?_eq_some_iff.1 hes).1
      have HW3 := Lib.hid (HW2.out.trans (hw3.mono HW2.out.size))
      have HIM1 := Lib.hid him1
      clear him1 hw3
      go_wp2_with fail
      refine (images_any u _ _ (HL2.out.carry HW3.out HW3.out.size) hb2 HU.out.nodup).mono ?_
      rintro e wb ⟨⟨rfl, him2⟩, hw4⟩
      have hz4 : w3.heap.size < wb.heap.size := by obtain ⟨D, ⟨es, cl, hes, _⟩, _⟩ := him2; exact (Array.getElem?_eq_some_iff.1 hes).1
      have HWB := Lib.hid (HW3.out.trans (hw4.mono HW3.out.size))
      have HIM2 := Lib.hid him2
      have HIMS := Lib.hid (HIM1.out.carry (hw4.mono (by omega)) (Nat.le_refl _) (hw4.block w2.heap.size hz3))
      clear him2 hw4 HIM1
      have hwz := HW2.out.size
      go_wp2_with fail
      go_loopw [10, 14, 35] (fun v _ i wr => ∃ (j : Nat) (es : List Elem), j ≤ s.length ∧ i = .int .i64 j ∧ Hid (CmpSt wb wr v es) ∧ Hid (es.map (·.1) = (s.take j).map (fun p => (p.1, apB u p.2))) ∧ Hid (∀ p ∈ s.take j, (apB u p.2).small)) (fun _ _ i _ => s.length - (intOf i).toNat)
      case atStart => exact ⟨0, [], by omega, rfl, Lib.hid (CmpSt.start wb), Lib.hid (by simp), Lib.hid (by simp)⟩
      case round =>
        obtain ⟨j, es, hj, rfl, HST, HES, HSM⟩ := hrel
        obtain ⟨or, cr, rfl⟩ := ownsRow_shape HST.out.row
        by_cases hlt : j < s.length
        · obtain ⟨b, o, p, sp, rfl, hbn, hp, hpm, hs, d0, d1, d2, d3⟩ := (HL1.out.carry (HWB.out.trans (HST.out.low.mono HWB.out.size)) (Nat.le_refl _)).get hlt
          obtain ⟨os, cs, rfl, -⟩ := hs.form
          have HP := Lib.hid hp
          have HPM := Lib.hid hpm
          have hpb : p.2.bulk ≤ 1048576 := by have := bdBulk_mem hpm; omega
          have hlow := HST.out.low
          have hlz := hlow.size
          have hbz := HWB.out.size
          have hbx := box4 (heap_new_at wr (.cells #[.string (kb p.1), .string p.2.nm, .bool p.2.vr, .slice os p.2.ts.length cs] 48) wr.heap.size rfl)
          obtain ⟨e0, e1, e2, e3⟩ := hbx
          have HBX := Lib.hid (heap_new_at wr (.cells #[.string (kb p.1), .string p.2.nm, .bool p.2.vr, .slice os p.2.ts.length cs] 48) wr.heap.size rfl)
          have HWA : Hid (Below wr.heap.size wr (wr.alloc (.cells #[.string (kb p.1), .string p.2.nm, .bool p.2.vr, .slice os p.2.ts.length cs] 48))) := Lib.hid (by go_grown)
          have HAP := Lib.hid (apply_any u HU.out hb2 w3.heap.size w3.heap.size p.2 (.slice os p.2.ts.length cs) (wr.alloc (.cells #[.string (kb p.1), .string p.2.nm, .bool p.2.vr, .slice os p.2.ts.length cs] 48)) (by have := HWA.out.size; omega) (by have := HWA.out.size; omega)
            (HIM2.out.carry ((hlow.trans (HWA.out.mono hlz)).mono (by omega)) (Nat.le_refl _) ((hlow.trans (HWA.out.mono hlz)).block _ hz4)) (hs.carry (HWA.out.mono (by omega)) (by have := HWA.out.size; omega)) hpb (HS.out.terms p hpm))
          clear hp hpm hs hlow
          go_wp2_with fail
          refine HAP.out.mono ?_
          rintro e w5 ⟨⟨t5, c5, sl5, rfl, h5, hc5⟩, hw5⟩
          obtain ⟨o5, k5, rfl⟩ := h5.form
          dsimp only [tmv]
          have hbx5 := (hw5.block wr.heap.size (by simp)).trans HBX.out
          have HBX5 := Lib.hid hbx5
          have H5 := Lib.hid h5
          have HC5 := Lib.hid hc5
          have HW5 := Lib.hid (HWA.out.trans (hw5.mono HWA.out.size))
          have HZ5 := Lib.hid (show wr.heap.size < w5.heap.size by have := hw5.size; simp at this; omega)
          clear h5 hc5 hw5 hbx5 HAP e0 e1 e2 e3
          by_cases hc50 : c5 = 0
          · have HT5 : Hid ((apB u p.2).small ∧ t5 = apB u p.2) := Lib.hid (by rcases HC5.out with ⟨_, q1, q2, q3⟩ | ⟨q, _⟩; exact ⟨⟨q1, q2⟩, q3⟩; omega)
            subst hc50
            obtain rfl : t5 = apB u p.2 := HT5.out.2
            have hbx6 := (Below.heap_alloc w5 (.cells #[.string (apB u p.2).nm, .bool (apB u p.2).vr, .slice o5 (apB u p.2).ts.length k5] 24) wr.heap.size HZ5.out).trans HBX5.out
            obtain ⟨e0, e1, e2, e3⟩ := box4 hbx6
            have HESL : Hid (es.length ≤ 1048576) := Lib.hid (by have := congrArg List.length HES.out; simp at this; omega)
            go_wp2_with (at_builtin; refine wpList_append_own_at _ rfl (.tmp 49) (.tmp 54) 45 rfl wb.heap.size 48 i0 (.agg #[.string ⟨#[]⟩, .string ⟨#[]⟩, .bool false, .slice none 0 0]) 4 64 Tryd.underlying45 HI.out HZ.out HS1.out HBB.out rfl (by decide) _ _ (ecells es) rfl (((HST.out.row.kept (below_grown HW5.out) (own_none _)).alloc _).alloc _) ⟨w5.heap.size + 1, 0, none⟩ 1 1 (encE ((p.1, apB u p.2), (o5, (apB u p.2).ts.length, k5))) rfl rfl (by have := cells_new4 (w5.alloc (.cells #[.string (apB u p.2).nm, .bool (apB u p.2).vr, .slice o5 (apB u p.2).ts.length k5] 24)) ((p.1, apB u p.2), (o5, (apB u p.2).ts.length, k5)) 48; simpa using this) (encE_one _) (by have := HESL.out; unfold maxLen; omega) (by have := HESL.out; omega) (by have := HZ5.out; simp; omega) ?_; intro v6 w6 ho6 hg6 _ hat6; have HST6 := Lib.hid (HST.out.step (B := ((w5.alloc (.cells #[.string (apB u p.2).nm, .bool (apB u p.2).vr, .slice o5 (apB u p.2).ts.length k5] 24)).alloc (.cells (encE ((p.1, apB u p.2), (o5, (apB u p.2).ts.length, k5))).toArray 48))) (x := ((p.1, apB u p.2), (o5, (apB u p.2).ts.length, k5))) ((HW5.out.alloc (Nat.le_of_lt HZ5.out) _).alloc (by have := HZ5.out; simp; omega) _) (H5.out.lt.carry fun b hb => ⟨(Below.heap_alloc _ _ _ (by have := hb.2; simp; omega)).trans (Below.heap_alloc _ _ _ hb.2), by have := hb.1; simp at this; omega, by have := hb.2; simp; omega⟩) hg6 ho6 hat6); clear ho6 hg6 hat6)
            refine ⟨⟨j + 1, _, by omega, by go_num, HST6, Lib.hid (by rw [List.map_append, HES.out, take_one_more HP.out, List.map_append]; rfl), Lib.hid (fun q hq => by
              rw [take_one_more HP.out] at hq
              rcases List.mem_append.1 hq with hq | hq
              · exact HSM.out q hq
              · simp only [List.mem_singleton] at hq; subst hq; exact HT5.out.1)⟩, by simp [intOf]; omega⟩
          · have hcn : (c5 != 0) = true := by rw [bne_iff_ne]; exact hc50
            have HC50 := Lib.hid hc50
            clear hc50
            go_wp2_with fail
            refine bodyPost_ret (v := .tuple #[.slice none 0 0, .int .i64 c5]) (by simp [results, Tryd.f46, go_sem]) rfl ?_
            exact ⟨⟨c5, _, rfl, .inr ⟨HC50.out, rfl⟩⟩, (HWB.out.trans ((HST.out.low.trans (HW5.out.mono hlz)).mono hbz)).alloc (by have := HZ5.out; omega) _⟩
        · obtain rfl : j = s.length := by omega
          rw [List.take_length] at HES HSM
          have HES0 := HES
          clear HES hj
          go_wp2_with fail
          go_loopw [10, 18, 59] (fun v _ i wr => ∃ (j : Nat) (es : List Elem), j ≤ u.length ∧ i = .int .i64 j ∧ Hid (CmpSt wb wr v es) ∧ Hid (es.map (·.1) = comJ s u (u.take j))) (fun _ _ i _ => u.length - (intOf i).toNat)
          case atStart => exact ⟨0, _, by omega, rfl, HST, Lib.hid (by rw [HES0.out, List.take_zero, comJ_nil])⟩
          case round =>
            clear HST HES0
            obtain ⟨j, es, hj, rfl, HST, HES⟩ := hrel
            obtain ⟨or, cr, rfl⟩ := ownsRow_shape HST.out.row
            have HESL : Hid (es.length ≤ 2097152) := Lib.hid (by
              have h := congrArg List.length HES.out
              have h2 := comJ_len s u (u.take j)
              rw [List.length_map] at h
              rw [List.length_take] at h2
              omega)
            by_cases hlt : j < u.length
            · obtain ⟨b, o, p, sp, rfl, hbn, hp, hpm, hs, d0, d1, d2, d3⟩ := (HL2.out.carry (HWB.out.trans (HST.out.low.mono HWB.out.size)) (Nat.le_refl _)).get hlt
              obtain ⟨os, cs, rfl, -⟩ := hs.form
              have HP := Lib.hid hp
              have HPM := Lib.hid hpm
              have HS5 := Lib.hid hs
              have hpb : p.2.bulk ≤ 1048576 ∧ p.1.length ≤ 1048576 := by have := bdBulk_mem hpm; omega
              have hlow := HST.out.low
              have hlz := hlow.size
              have hbz := HWB.out.size
              have HLZ := Lib.hid hlz
              have HBX := Lib.hid (heap_new_at wr (.cells #[.string (kb p.1), .string p.2.nm, .bool p.2.vr, .slice os p.2.ts.length cs] 48) wr.heap.size rfl)
              have HWA : Hid (Below wr.heap.size wr (wr.alloc (.cells #[.string (kb p.1), .string p.2.nm, .bool p.2.vr, .slice os p.2.ts.length cs] 48))) := Lib.hid (by go_grown)
              have him := HIMS.out.carry ((hlow.trans (HWA.out.mono hlz)).mono (by omega)) (Nat.le_refl _) ((hlow.trans (HWA.out.mono hlz)).block w2.heap.size (by omega))
              obtain ⟨D, hown, hinv⟩ := him
              have HOWN := Lib.hid hown
              have HKEY := Lib.hid (keyOf_kb hpb.2)
              have hbox := box4 (HBX.out)
              obtain ⟨e0, e1, e2, e3⟩ := hbox
              clear hown hs hp hpm hlow
              by_cases hin : p.1 ∈ s.map (·.1)
              · obtain ⟨q, hq, hqe⟩ := List.mem_map.1 hin
                obtain ⟨sq, hat, hsq⟩ := hinv.at_ q hq
                rw [hqe] at hat
                obtain ⟨oq, cq, rfl, -⟩ := hsq.form
                have HAT := Lib.hid hat
                have HHAS : Hid (Maps.has D (.string p.1) = true) := Lib.hid (by rw [hinv.has]; simpa using hin)
                have HIN := Lib.hid hin
                clear hin hq hqe hat hsq hinv
                go_wp2_with (refine look_hit rfl (.tmp 64) (.tmp 66) rfl w2.heap.size s.length D rfl HOWN.out (.string (kb p.1)) (.string p.1) rfl HKEY.out (.agg #[.string q.2.nm, .bool q.2.vr, .slice oq q.2.ts.length cq, .int .i64 q.2.size, .int .i64 q.2.depth]) HAT.out HHAS.out ?_)
                refine ⟨⟨j + 1, es, by omega, by go_num, Lib.hid (HST.out.below ((HWA.out).alloc (by simp) _)), Lib.hid (by rw [HES.out, take_one_more HP.out, comJ_in HIN.out])⟩, by simp [intOf]; omega⟩
              · have HHAS : Hid (Maps.has D (.string p.1) = false) := Lib.hid (by rw [hinv.has]; simpa using hin)
                have HIN := Lib.hid hin
                have HPB := Lib.hid hpb
                have HTB := Lib.hid (HU.out.terms p HPM.out).1.bare
                have hbx2 := (Below.heap_alloc (wr.alloc (.cells #[.string (kb p.1), .string p.2.nm, .bool p.2.vr, .slice os p.2.ts.length cs] 48)) (.cells #[.string ⟨#[]⟩, .bool false, .slice none 0 0, .int .i64 0, .int .i64 0] 119) wr.heap.size (by simp)).trans HBX.out
                obtain ⟨e0, e1, e2, e3⟩ := box4 hbx2
                have HBX2 := Lib.hid hbx2
                have HWA2 : Hid (Below wr.heap.size wr (((wr.alloc (.cells #[.string (kb p.1), .string p.2.nm, .bool p.2.vr, .slice os p.2.ts.length cs] 48)).alloc (.cells #[.string ⟨#[]⟩, .bool false, .slice none 0 0, .int .i64 0, .int .i64 0] 119)).drew)) := Lib.hid (by go_grown)
                clear hin hinv hpb hbx2
                go_wp2_with (refine look_miss rfl (.tmp 64) (.tmp 66) rfl w2.heap.size s.length D rfl HOWN.out (.string (kb p.1)) (.string p.1) rfl HKEY.out HHAS.out ?_)
                go_region_held3 (fun w' => w'.cell? ⟨wr.heap.size, 0, none⟩ = some (.string (kb p.1)) ∧ w'.cell? ⟨wr.heap.size, 1, none⟩ = some (.string p.2.nm) ∧ w'.cell? ⟨wr.heap.size, 2, none⟩ = some (.bool p.2.vr) ∧ w'.cell? ⟨wr.heap.size, 3, none⟩ = some (.slice os p.2.ts.length cs)) (go_keep) ((first
                  | (refine step_append_opt rfl (.tmp 72) (.tmp 79) 45 rfl wb.heap.size 48 i0 (.agg #[.string ⟨#[]⟩, .string ⟨#[]⟩, .bool false, .slice none 0 0]) 4 64 Tryd.underlying45 HI.out HZ.out HS1.out HBB.out rfl (by decide) (.slice or es.length cr) es.length (ecells es) rfl ((HST.out.row.kept (below_grown HW5.out) (own_none _)).alloc _) (some ⟨w5.heap.size, 0, none⟩) 1 1 (encE ((p.1, p.2), (o5, p.2.ts.length, k5))) rfl rfl (fun h => by cases h) (fun ad had => by cases had; exact cells_new4 w5 ((p.1, p.2), (o5, p.2.ts.length, k5)) 48) (encE_one _) (by have := HESL.out; unfold maxLen; omega) (by have := HESL.out; omega) (by have := HZ5.out; have := HLZ.out; simp; omega) ?_
                     intro v6 w6 ho6 hg6 hat6
                     have HST6 := Lib.hid (HST.out.step (B := w5.alloc (.cells (encE ((p.1, p.2), (o5, p.2.ts.length, k5))).toArray 48)) (x := ((p.1, p.2), (o5, p.2.ts.length, k5))) (HW5.out.alloc (Nat.le_of_lt HZ5.out) _) (HSL5.out.carry fun b hb => ⟨Below.heap_alloc _ _ _ hb.2, hb.1, by have := hb.2; simp; omega⟩) hg6 ho6 hat6)
                     have hbx6 := (hg6.block wr.heap.size (by have := HZ5.out; simp; omega) (fun e => by have := (HST.out.row.lt _ e.symm).2; omega)).trans ((Below.heap_alloc _ _ _ HZ5.out).trans HBX5.out)
                     obtain ⟨x0, x1, x2, x3⟩ := box4 hbx6
                     clear ho6 hg6 hat6 hbx6)
                  | (refine (clone_any p.2 (.slice os p.2.ts.length cs) _ ((HS5.out.carry (Below.refl _ _) (by have := HLZ.out; omega)).carry HWA2.out HWA2.out.size) HPB.out.1 HTB.out).mono ?_
                     rintro e w5 ⟨⟨sl5, fp5, rfl, hso, -, hge⟩, hw5⟩
                     have hsl5 := hso.isP (p := fun b => wr.heap.size ≤ b ∧ b < w5.heap.size) (fun k hk => ⟨by have := hge k hk; simp at this; omega, hso.lt k hk⟩)
                     have hbx5 := (hw5.block wr.heap.size (by simp; omega)).trans HBX2.out
                     obtain ⟨x0, x1, x2, x3⟩ := box4 hbx5
                     have HBX5 := Lib.hid hbx5
                     have HW5 := Lib.hid (HWA2.out.trans (hw5.mono HWA2.out.size))
                     have HZ5 := Lib.hid (show wr.heap.size < w5.heap.size from (Array.getElem?_eq_some_iff.1 hbx5).1)
                     obtain ⟨o5, k5, rfl⟩ := hsl5.form
                     have HSL5 := Lib.hid hsl5
                     clear hso hge hw5 hsl5 hbx5)))
                go_wp2_with fail
                refine ⟨⟨j + 1, _, by omega, by go_num, HST6, Lib.hid (by rw [List.map_append, HES.out, take_one_more HP.out, comJ_out HIN.out]; rfl)⟩, by simp [intOf]; omega⟩
            · obtain rfl : j = u.length := by omega
              rw [List.take_length] at HES
              have HRW := Lib.hid (HST.out.row)
              have HLOW := Lib.hid (HWB.out.trans (HST.out.low.mono HWB.out.size))
              have HOW : Hid (∀ k, (Value.slice or es.length cr).ownBlock = some k → wb.heap.size ≤ k) := Lib.hid fun k hk => (HST.out.row.lt k hk).1
              have hbz := HWB.out.size
              have hlz := HST.out.low.size
              go_wp2_with fail
              refine (sortC_any es _ or cr _ _ HRW.out HESL.out (fun x hx => (HST.out.kids x hx).carry fun b hb => ⟨rfl, hb.2.1, hb.2.2⟩)).mono ?_
              rintro e w7 ⟨rfl, hg7, ys, hys, hso, hbs⟩
              have HG7 := Lib.hid hg7
              have HYS := Lib.hid hys
              have HSO := Lib.hid hso
              have HBS := Lib.hid hbs
              clear hg7 hys hso hbs
              go_wp2_with fail
              refine bodyPost_ret (v := .tuple #[.slice or es.length cr, .int .i64 0]) (by simp [results, Tryd.f46, go_sem]) rfl ?_
              have hpm : ys.Perm (comB s u) := by have := HYS.out; rw [HES.out] at this; exact this
              exact ⟨⟨0, _, rfl, .inl ⟨rfl, HS.out, HU.out, HSM.out, ys, HBS.out, comB_ok HS.out HU.out HSM.out hpm HSO.out, hpm⟩⟩, HLOW.out.grown HG7.out (by omega) (fun k hk => by have := HOW.out k hk; omega)⟩
    · have hcn : (c2 != 0) = true := by rw [bne_iff_ne]; exact hc20
      have HC20 := Lib.hid hc20
      clear hc20
      go_wp2_with fail
      refine bodyPost_ret (v := .tuple #[.slice none 0 0, .int .i64 c2]) (by simp [results, Tryd.f46, go_sem]) rfl ?_
      exact ⟨⟨c2, _, rfl, .inr ⟨HC20.out, rfl⟩⟩, HW2.out⟩
  · have hcn : (c1 != 0) = true := by rw [bne_iff_ne]; exact hc10
    have HC10 := Lib.hid hc10
    clear hc10
    go_wp2_with fail
    refine bodyPost_ret (v := .tuple #[.slice none 0 0, .int .i64 c1]) (by simp [results, Tryd.f46, go_sem]) rfl ?_
    exact ⟨⟨c1, _, rfl, .inr ⟨HC10.out, rfl⟩⟩, HW1.out⟩
end Go.Proofs.YtdeaehkdhghfkaaDoor
namespace Go.Proofs.YtdeaehkdhghfkaaDoor
open Go.RowKit

theorem imageOf_comp {s u ys : List Bd} (hs : SubOk s) (hu : SubOk u) (hy : SubOk ys) (hp : ys.Perm (comB s u)) (k : Key) : imageOf ys k = apB u (imageOf s k) := by
  by_cases h : k ∈ s.map (·.1)
  · obtain ⟨p, hpm, rfl⟩ := List.mem_map.1 h
    rw [imageOf_in hs.nodup hpm]
    have hm : (p.1, apB u p.2) ∈ ys := hp.mem_iff.2 (List.mem_append.2 (.inl (List.mem_map.2 ⟨p, hpm, rfl⟩)))
    exact imageOf_in hy.nodup hm
  · rw [imageOf_out h, apB_var u (t := .mk (kb k) true []) rfl, show (Tm.mk (kb k) true []).nm.data.toList = k from key_kb k]
    by_cases h2 : k ∈ u.map (·.1)
    · obtain ⟨p, hpm, rfl⟩ := List.mem_map.1 h2
      rw [imageOf_in hu.nodup hpm]
      exact imageOf_in hy.nodup (hp.mem_iff.2 (List.mem_append.2 (.inr (List.mem_filter.2 ⟨hpm, decide_eq_true h⟩))))
    · rw [imageOf_out h2]
      refine imageOf_out fun hh => ?_
      obtain ⟨q, hq, hqe⟩ := List.mem_map.1 hh
      rcases List.mem_append.1 (hp.mem_iff.1 hq) with hq | hq
      · obtain ⟨p, hpm, rfl⟩ := List.mem_map.1 hq
        exact h (List.mem_map.2 ⟨p, hpm, hqe⟩)
      · exact h2 (List.mem_map.2 ⟨q, (List.mem_filter.1 hq).1, hqe⟩)
theorem apB_comp {s u ys : List Bd} (hs : SubOk s) (hu : SubOk u) (hy : SubOk ys) (hp : ys.Perm (comB s u)) (t : Tm) : apB ys t = apB u (apB s t) := by
  induction t using Tm.ind with
  | h t ih =>
    cases hv : t.vr
    · rw [apB_fun ys hv, apB_fun s hv, apB_fun u (t := .mk t.nm false (t.ts.map (apB s))) rfl]
      show Tm.mk t.nm false _ = Tm.mk t.nm false ((t.ts.map (apB s)).map (apB u))
      rw [List.map_map]
      congr 1
      exact List.map_congr_left fun x hx => ih x hx
    · rw [apB_var ys hv, apB_var s hv]
      exact imageOf_comp hs hu hy hp _
theorem Tm.bulks_by_sizes (l : List Tm) (k : Nat) (h : ∀ u ∈ l, u.bulk ≤ k * u.size) : Tm.bulks l ≤ k * Tm.sizes l := by
  induction l with
  | nil => simp [Tm.bulks]
  | cons x l ih =>
    have h1 := h x (by simp)
    have h2 := ih fun u hu => h u (by simp [hu])
    simp only [Tm.bulks, Tm.sizes, Nat.mul_add]
    omega
theorem isName_le24 {s : ByteArray} {m : Bool} (h : isName s m = true) : s.size ≤ 24 := by
  unfold isName at h
  simp only [Bool.and_eq_true, decide_eq_true_eq] at h
  exact h.1.2
theorem Tm.formed.bulk25 {t : Tm} (h : t.formed) : t.bulk ≤ 25 * t.size := by
  induction t using Tm.ind with
  | h t ih =>
    obtain ⟨h1, h2⟩ := (Tm.formed_iff t).1 h
    have hn : t.nm.size ≤ 24 := by
      unfold nodeOk at h1
      split at h1
      · simp only [Bool.and_eq_true] at h1; exact isName_le24 h1.1
      · simp only [Bool.and_eq_true] at h1; exact isName_le24 h1.1
    have := Tm.bulks_by_sizes t.ts 25 fun u hu => ih u hu (h2 u hu)
    rw [Tm.bulk_eq, Tm.size_eq]
    omega

theorem Tm.ok.bulk {t : Tm} (h : t.ok) : t.bulk ≤ 100000 := by
  have h1 := h.1.bulk25
  have h2 := h.2.1
  omega
theorem none_bulk : Tm.none.bulk ≤ 1048576 := by decide
theorem SubOk.bulk {bl : List Bd} (h : SubOk bl) (hl : bl.length ≤ 1048576) : bdBulk bl ≤ 1048576 :=
  bdBulk_le hl fun p hp => by
    have h1 := (h.terms p hp).bulk
    have h2 := isName_le24 (h.names p hp)
    have h3 : (kb p.1).size = p.1.length := by show p.1.toArray.size = _; simp
    omega
theorem comB_len (s u : List Bd) : (comB s u).length ≤ s.length + u.length := comJ_len s u u
/-- what a composition gives -/
def CompIs (w' : World) (s u : List Bd) (c : Int) (sl : Value) : Prop :=
  (c = 0 ∧ SubOk s ∧ SubOk u ∧ ∃ ys, BindsIs w'.heap.size w' ys sl ∧ SubOk ys ∧ ys.length ≤ s.length + u.length ∧ ∀ t, apB ys t = apB u (apB s t)) ∨ (c ≠ 0 ∧ sl = .slice none 0 0)
theorem compose_law (s u : List Bd) (v1 v2 : Value) (w : World) (h1 : BindsIs w.heap.size w s v1) (h2 : BindsIs w.heap.size w u v2) (hb1 : bdBulk s ≤ 1048576) (hb2 : bdBulk u ≤ 1048576) :
    Calls Tryd.prog 46 #[v1, v2] w fun e w' => (∃ (c : Int) (sl : Value), e = .returned (.tuple #[sl, .int .i64 c]) ∧ CompIs w' s u c sl) ∧ Below w.heap.size w w' := by
  refine (compose_any s u v1 v2 w h1 h2 hb1 hb2).mono ?_
  rintro e w' ⟨⟨c, sl, rfl, h⟩, hb⟩
  refine ⟨⟨c, sl, rfl, ?_⟩, hb⟩
  rcases h with ⟨h0, h1, h2, _, ys, h4, h5, h6⟩ | h
  · exact .inl ⟨h0, h1, h2, ys, h4, h5, by have := h6.length_eq; have := comB_len s u; omega, fun t => apB_comp h1 h2 h5 h6 t⟩
  · exact .inr h
/-- the law's three substitutions in their box -/
structure QBx (W : World) (b : Nat) (q0 q1 q2 : List Bd) (v0 v1 v2 : Value) : Prop where
  box : W.heap[b]? = some (.cells #[v0, v1, v2] 86 (0, 0))
  h0 : BindsIs W.heap.size W q0 v0
  h1 : BindsIs W.heap.size W q1 v1
  h2 : BindsIs W.heap.size W q2 v2
theorem QBx.carry {A W : World} {b : Nat} {q0 q1 q2 : List Bd} {v0 v1 v2 : Value} (h : QBx A b q0 q1 q2 v0 v1 v2) (hb : Below A.heap.size A W) : QBx W b q0 q1 q2 v0 v1 v2 :=
  ⟨(hb.block b (Array.getElem?_eq_some_iff.1 h.box).1).trans h.box, h.h0.carry hb hb.size, h.h1.carry hb hb.size, h.h2.carry hb hb.size⟩
end Go.Proofs.YtdeaehkdhghfkaaDoor
