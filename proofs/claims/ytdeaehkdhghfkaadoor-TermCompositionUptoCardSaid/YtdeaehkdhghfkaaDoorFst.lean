/- The reference's Has, Digits and First. -/
import Derived.WalkKit
import Derived.ProofKit
import Derived.OpenShut
import Derived.Handy
import Derived.Lib.Hide
import Derived.Laws.Cells
import Derived.Laws.BytesString
import Derived.Deep.RegionHeld3
import Derived.Test.YtdeaehkdhghfkaaDoorStr
import Derived.Test.YtdeaehkdhghfkaaDoorPosM
namespace Go.Proofs.YtdeaehkdhghfkaaDoor
open Go.RowKit

theorem not_mem_snoc {l : List Key} {j : Nat} {x k : Key} (h : k ∉ l.take j) (hx : l[j]? = some x) (hne : x ≠ k) : k ∉ l.take (j + 1) := by
  rw [List.take_add_one, hx]
  simp only [Option.toList_some, List.mem_append, List.mem_singleton, not_or]
  exact ⟨h, fun e => hne e.symm⟩

set_option maxHeartbeats 1000000 in
theorem rhas_any (l : List Key) (k : Key) (v : Value) (w : World) (n : Nat) (hl : StrIs n w l v) (hlen : l.length ≤ 1048576) :
    Calls Tryd.prog 111 #[v, .string (kb k)] w fun e w' => e = .returned (.bool (decide (k ∈ l))) ∧ w = w' := by
  obtain ⟨oa, cap, rfl, -, -, hc⟩ := hl
  have HC := Lib.hid hc
  clear hc
  go_enter Tryd.func111, Tryd.ntmps111
  go_wp2_with fail
  go_loop [6, 9] (fun _ i => ∃ j : Nat, j ≤ l.length ∧ i = .int .i64 j ∧ Hid (k ∉ l.take j)) (fun _ i => l.length - (intOf i).toNat)
  case atStart => exact ⟨0, by omega, rfl, Lib.hid (by simp)⟩
  case round =>
    obtain ⟨j, hj, rfl, HE⟩ := hrel
    by_cases hlt : j < l.length
    · obtain ⟨x, hx⟩ : ∃ x, l[j]? = some x := ⟨_, List.getElem?_eq_getElem hlt⟩
      obtain ⟨b1, o1, rfl, _, hc1⟩ := HC.out (by rintro rfl; simp at hlt)
      have h1 := hc1 j x hx
      have HX := Lib.hid hx
      clear hc1 hx
      by_cases hxk : x = k
      · subst hxk
        have HR : Hid (decide (x ∈ l) = true) := Lib.hid (decide_eq_true (List.mem_of_getElem? HX.out))
        go_wp2_with fail
        go_ret
        exact ⟨by rw [HR.out]; rfl, rfl⟩
      · have hbb := kb_beq_no hxk
        have HXK := Lib.hid hxk
        clear hxk
        go_wp2_with fail
        exact ⟨⟨j + 1, by omega, by go_num, Lib.hid (not_mem_snoc HE.out HX.out HXK.out)⟩, by simp [intOf]; omega⟩
    · have HR : Hid (decide (k ∈ l) = false) := Lib.hid (by have h := HE.out; rw [List.take_of_length_le (by omega)] at h; simpa using h)
      go_wp2_with fail
      go_ret
      exact ⟨by rw [HR.out]; rfl, rfl⟩

theorem conv_one (w : World) (b : Nat) (n : Int) (e : TypeId) (h : w.heap[b]? = some (.cells #[.int .u8 n] e (0, 0))) : (convert 155 9 (.slice (some ⟨b, 0, none⟩) 1 1)).run Tryd.prog w = .ok (.string ⟨#[UInt8.ofNat n.toNat]⟩) w := by
  rw [run_convert_bytes_string w _ _ 5 _ _ _ Tryd.underlying155 Tryd.underlying5 Tryd.underlying9]
  rw [run_bytesToString w ⟨b, 0, none⟩ 1 1 [n]]
  · rfl
  · refine run_loadCells_list w _ [.int .u8 n] fun j v hj => ?_
    match j, hj with
    | 0, hj =>
      simp only [List.getElem?_cons_zero, Option.some.injEq] at hj
      subst hj
      have := cells_of' h 0
      simpa [Addr.add] using this

set_option maxRecDepth 100000 in
set_option maxHeartbeats 1000000 in
theorem rdigits_any (i : Nat) : i < 1048576 → ∀ w : World, Calls Tryd.prog 110 #[.int .i64 i] w fun e w' => e = .returned (.string (digN i)) ∧ Below w.heap.size w w' := by
  induction i using Nat.strongRecOn with
  | ind i ih =>
    intro hi w
    by_cases h10 : i < 10
    · have HD : Hid (digN i = kb [UInt8.ofNat (48 + i)]) := Lib.hid (by rw [digN, if_pos hi, Lib.decDigits_one h10])
      have hcv : ∀ n : Int, (convert 155 9 (.slice (some ⟨w.heap.size, 0, none⟩) 1 1)).run Tryd.prog (w.alloc (.cells #[.int .u8 n] 5)) = .ok (.string ⟨#[UInt8.ofNat n.toNat]⟩) (w.alloc (.cells #[.int .u8 n] 5)) := fun n => conv_one _ _ _ _ (heap_new_at _ _ _ rfl)
      have hcs : i = 0 ∨ i = 1 ∨ i = 2 ∨ i = 3 ∨ i = 4 ∨ i = 5 ∨ i = 6 ∨ i = 7 ∨ i = 8 ∨ i = 9 := by omega
      clear ih hi h10
      rcases hcs with rfl | rfl | rfl | rfl | rfl | rfl | rfl | rfl | rfl | rfl
      all_goals
        go_enter Tryd.func110, Tryd.ntmps110
        go_wp2_with fail
        go_ret
        exact ⟨by rw [HD.out]; rfl, by go_grown⟩
    · have IH1 := Lib.hid (ih (i / 10) (by omega) (by omega))
      have IH2 := Lib.hid (ih (i % 10) (by omega) (by omega))
      have HD : Hid (digN i = digN (i / 10) ++ digN (i % 10)) := Lib.hid (by
        rw [digN, if_pos hi, digN, if_pos (by omega), digN, if_pos (by omega), dec_step h10, Lib.decDigits_one (show i % 10 < 10 by omega)]
        apply bytes_ext
        rw [ByteArray.toList_data_append]
        simp [kb])
      have z1 := digN_size (i / 10)
      have z2 := digN_size (i % 10)
      clear ih
      go_enter Tryd.func110, Tryd.ntmps110
      go_wp2_with fail
      refine (IH1.out w).mono ?_
      rintro e w1 ⟨rfl, hb1⟩
      have HB1 := Lib.hid hb1
      clear hb1
      go_wp2_with fail
      refine (IH2.out w1).mono ?_
      rintro e w2 ⟨rfl, hb2⟩
      have HB2 := Lib.hid hb2
      clear hb2
      go_wp2_with fail
      go_ret
      exact ⟨by rw [HD.out]; rfl, HB1.out.trans (HB2.out.mono HB1.out.size)⟩

theorem infoStr : (Tryd.prog.info? 9).map (fun i => (i.zero, i.size, i.bytes)) = some (some (.string ⟨#[]⟩), 1, 16) := by kernel_rfl
theorem strs_one (l : List Key) : ∀ u ∈ strs l, u.oneCell' = true := by
  intro u hu
  obtain ⟨k, _, rfl⟩ := List.mem_map.1 hu
  rfl
theorem cell_one_at {W : World} {k : Nat} {x : Value} {e : TypeId} (h : W.heap[k]? = some (.cells #[x] e (0, 0))) : ∀ j u, [x][j]? = some u → W.cell? ((⟨k, 0, none⟩ : Addr).add j) = some u := by
  intro j u hj
  match j, hj with
  | 0, hj =>
    simp only [List.getElem?_cons_zero, Option.some.injEq] at hj
    subst hj
    have := cells_of' h 0
    simpa [Addr.add] using this
/-- the cells of a slice of strings, as an append asks for them -/
theorem StrIs.news {n : Nat} {W : World} {l : List Key} {oa : Option Addr} {cap : Nat} (h : StrIs n W l (.slice oa l.length cap)) : (oa = none → l.length = 0 ∧ cap = 0) ∧ ∀ ad, oa = some ad → ∀ j u, (strs l)[j]? = some u → W.cell? (ad.add j) = some u := by
  obtain ⟨oa', cap', he, -, h2, h3⟩ := h
  simp only [Value.slice.injEq, true_and] at he
  obtain ⟨rfl, rfl⟩ := he
  refine ⟨h2.1, fun ad had j u hj => ?_⟩
  have hlt := (List.getElem?_eq_some_iff.1 hj).1
  rw [strs_length] at hlt
  obtain ⟨b, o, rfl, _, hc⟩ := h3 (by rintro rfl; simp at hlt)
  cases had
  rw [strs, List.getElem?_map, List.getElem?_eq_getElem hlt] at hj
  simp only [Option.map_some, Option.some.injEq] at hj
  subst hj
  have := hc j _ (List.getElem?_eq_getElem hlt)
  have e : (⟨b, o, none⟩ : Addr).add j = ⟨b, o + j, none⟩ := by unfold Addr.add; split <;> simp_all
  rw [e]; exact this

set_option maxRecDepth 100000 in
set_option maxHeartbeats 2000000 in
theorem rfirst_var (t : Tm) (s v : Value) (ss : List Key) (w : World) (hv : t.vr = true) (hs : SlIs w.heap.size w t.ts s) (hl : StrIs w.heap.size w ss v) (hlen : ss.length ≤ 1048576) :
    Calls Tryd.prog 80 #[tmv t s, v] w fun e w' => (∃ v', e = .returned v' ∧ StrIs w'.heap.size w' (firsts ss t) v') ∧ Below w.heap.size w w' := by
  obtain ⟨oa, ca, rfl, -⟩ := hs.form
  have hl' := hl
  obtain ⟨ol, cl, rfl, hcap, -, -⟩ := hl'
  obtain ⟨i0, hi, hz, hs1, hb1⟩ := info_parts infoStr
  have HI := Lib.hid hi
  have HZ := Lib.hid hz
  have HS1 := Lib.hid hs1
  have HB1 := Lib.hid hb1
  have HL := Lib.hid hl
  have HF : Hid (firsts ss t = addKey ss t.nm.data.toList) := Lib.hid (firsts_var ss hv)
  have HN : Hid (kb t.nm.data.toList = t.nm) := Lib.hid (kb_key _)
  clear hi hz hs1 hb1 hl hs
  go_enter Tryd.func80, Tryd.ntmps80
  rw [show tmv t (.slice oa t.ts.length ca) = .agg #[.string t.nm, .bool t.vr, .slice oa t.ts.length ca] from rfl, hv]
  go_wp2_with fail
  have hbx : Below w.heap.size w (w.alloc (.cells #[.string t.nm, .bool true, .slice oa t.ts.length ca] 24)) := by go_grown
  have HBX := Lib.hid hbx
  have hr := rhas_any ss t.nm.data.toList (.slice ol ss.length cl) (w.alloc (.cells #[.string t.nm, .bool true, .slice oa t.ts.length ca] 24)) w.heap.size (HL.out.carry HBX.out (Nat.le_refl _)) hlen
  rw [kb_key] at hr
  refine hr.mono ?_
  rintro e w1 ⟨rfl, rfl⟩
  clear hr hbx
  by_cases hin : t.nm.data.toList ∈ ss
  · have HA : Hid (addKey ss t.nm.data.toList = ss) := Lib.hid (by unfold addKey; rw [if_pos hin])
    rw [decide_eq_true hin]
    go_wp2_with fail
    go_ret
    exact ⟨⟨_, rfl, by rw [HF.out, HA.out]; exact HL.out.carry HBX.out HBX.out.size⟩, HBX.out⟩
  · have HA : Hid (addKey ss t.nm.data.toList = ss ++ [t.nm.data.toList]) := Lib.hid (by unfold addKey; rw [if_neg hin])
    rw [decide_eq_false hin]
    have hx := heap_new_at w (.cells #[.string t.nm, .bool true, .slice oa t.ts.length ca] 24) w.heap.size rfl
    obtain ⟨⟨x0, x1, x2⟩, -⟩ := box3 hx
    have HX := Lib.hid hx
    clear hx
    go_wp2_with fail
    go_region_held3 (fun w' => w'.cell? ⟨w.heap.size, 0, none⟩ = some (.string t.nm)) (go_keep) ((first
      | (refine step_append_opt rfl (.tmp 14) (.tmp 15) 31 rfl (w.heap.size + 1) 9 i0 (.string ⟨#[]⟩) 1 16 Tryd.underlying31 HI.out HZ.out HS1.out HB1.out rfl (by decide) (.slice (some ⟨w.heap.size + 1, 0, none⟩) 0 0) 0 [] rfl ?own ol ss.length cl (strs ss) rfl (by rw [strs_length, Nat.mul_one]) ((StrIs.news HL.out).1) ((StrIs.news (HL.out.carry (B := _) ?bel (Nat.le_refl _))).2) (strs_one ss) (by unfold maxLen; omega) (by omega) (by simp) ?_
         case bel => go_grown
         case own => first
           | exact ownsRow_made _ (heap_new_at _ _ _ (by simp)) (by simp) rfl (by decide)
           | exact ownsRow_made _ ((Below.heap_alloc _ _ _ (by simp)).trans (heap_new_at _ _ _ (by simp))) (by simp) rfl (by decide)
         intro v1 w1 ho1 hg1 hat1
         have hb1 := (show Below w.heap.size w _ from by go_grown).grown hg1 (by simp; omega) (by simp [Value.ownBlock])
         have hx1 := (hg1.block w.heap.size (by simp; omega) (by simp [Value.ownBlock])).trans ((show Below (w.heap.size + 1) (w.alloc (.cells #[.string t.nm, .bool true, .slice oa t.ts.length ca] 24)) _ from by go_grown).block _ (by omega) |>.trans HX.out)
         obtain ⟨⟨x0, x1, x2⟩, -⟩ := box3 hx1
         first
         | (have HK := Lib.hid ((hg1.block (w.heap.size + 1 + 1) (by simp) (by simp [Value.ownBlock])).trans (heap_new_at _ (.cells #[.string t.nm] 9) _ (by simp))))
         | skip
         have HZ1 := Lib.hid (Array.getElem?_eq_some_iff.1 hx1).1
         have HO1 := Lib.hid ho1
         have HBL1 := Lib.hid hb1
         have HX1 := Lib.hid hx1
         clear ho1 hg1 hat1 hb1 hx1)
      | (refine step_append_opt rfl (.tmp 14) (.tmp 15) 31 rfl (w.heap.size + 1) 9 i0 (.string ⟨#[]⟩) 1 16 Tryd.underlying31 HI.out HZ.out HS1.out HB1.out rfl (by decide) (.slice (some ⟨w.heap.size + 1 + 1, 0, none⟩) 0 0) 0 [] rfl ?own ol ss.length cl (strs ss) rfl (by rw [strs_length, Nat.mul_one]) ((StrIs.news HL.out).1) ((StrIs.news (HL.out.carry (B := _) ?bel (Nat.le_refl _))).2) (strs_one ss) (by unfold maxLen; omega) (by omega) (by simp) ?_
         case bel => go_grown
         case own => exact ownsRow_made _ (heap_new_at _ _ _ (by simp)) (by simp) rfl (by decide)
         intro v1 w1 ho1 hg1 hat1
         have hb1 := (show Below w.heap.size w _ from by go_grown).grown hg1 (by simp; omega) (by simp [Value.ownBlock]; omega)
         have hx1 := (hg1.block w.heap.size (by simp; omega) (by simp [Value.ownBlock]; omega)).trans ((show Below (w.heap.size + 1) (w.alloc (.cells #[.string t.nm, .bool true, .slice oa t.ts.length ca] 24)) _ from by go_grown).block _ (by omega) |>.trans HX.out)
         obtain ⟨⟨x0, x1, x2⟩, -⟩ := box3 hx1
         have HK := Lib.hid ((hg1.block (w.heap.size + 1) (by simp) (by simp [Value.ownBlock])).trans ((Below.heap_alloc _ _ _ (by simp)).trans (heap_new_at _ (.cells #[.string t.nm] 9) _ (by simp))))
         have HZ1 := Lib.hid (Array.getElem?_eq_some_iff.1 hx1).1
         have HO1 := Lib.hid ho1
         have HBL1 := Lib.hid hb1
         have HX1 := Lib.hid hx1
         clear ho1 hg1 hat1 hb1 hx1)
      | (refine step_append_opt rfl (.tmp 16) (.tmp 19) 31 rfl (w.heap.size + 1) 9 i0 (.string ⟨#[]⟩) 1 16 Tryd.underlying31 HI.out HZ.out HS1.out HB1.out rfl (by decide) v1 (0 + ss.length) ([] ++ strs ss) rfl (HO1.out.alloc _) (some ⟨w1.heap.size, 0, none⟩) 1 1 [.string t.nm] rfl rfl (fun h => by cases h) (fun ad had => by cases had; exact cell_one_new _ _ _) (by simp [Value.oneCell']) (by unfold maxLen; omega) (by omega) (by have := HZ1.out; simp; omega) ?_
         intro v2 w2 ho2 hg2 hat2
         have hz1 := HZ1.out
         have hb2 := (show Below w.heap.size w _ from HBL1.out.alloc (by omega) _).grown hg2 (by simp; omega) (fun k hk => by have := (HO1.out.lt k hk).1; omega)
         have hx2 := (hg2.block w.heap.size (by simp; omega) (fun h => by have := (HO1.out.lt _ h.symm).1; omega)).trans ((Below.heap_alloc _ _ _ hz1).trans HX1.out)
         obtain ⟨⟨x0, x1, x2⟩, -⟩ := box3 hx2
         have HO2 := Lib.hid ho2
         have HBL2 := Lib.hid hb2
         clear ho2 hg2 hat2 hb2 hx2 hz1)
      | (refine step_append_opt rfl (.tmp 16) (.tmp 19) 31 rfl (w.heap.size + 1) 9 i0 (.string ⟨#[]⟩) 1 16 Tryd.underlying31 HI.out HZ.out HS1.out HB1.out rfl (by decide) v1 (0 + ss.length) ([] ++ strs ss) rfl HO1.out (some ⟨_, 0, none⟩) 1 1 [.string t.nm] rfl rfl (fun h => by cases h) (fun ad had => by cases had; exact cell_one_at HK.out) (by simp [Value.oneCell']) (by unfold maxLen; omega) (by omega) (by have := HZ1.out; omega) ?_
         intro v2 w2 ho2 hg2 hat2
         have hz1 := HZ1.out
         have hb2 := (show Below w.heap.size w _ from HBL1.out).grown hg2 (by omega) (fun k hk => by have := (HO1.out.lt k hk).1; omega)
         have hx2 := (hg2.block w.heap.size (by omega) (fun h => by have := (HO1.out.lt _ h.symm).1; omega)).trans (HX1.out)
         obtain ⟨⟨x0, x1, x2⟩, -⟩ := box3 hx2
         have HO2 := Lib.hid ho2
         have HBL2 := Lib.hid hb2
         clear ho2 hg2 hat2 hb2 hx2 hz1)
      ))
    all_goals
      go_wp2_with fail
      go_ret
      refine ⟨⟨_, rfl, ?_⟩, HBL2.out⟩
      rw [HF.out, HA.out]
      refine StrIs.ofRow (m := w.heap.size + 1) (e := 9) ?_
      have := HO2.out
      simpa [strs, HN.out] using this
end Go.Proofs.YtdeaehkdhghfkaaDoor
