/- The reference's Insert. -/
import Derived.WalkKit
import Derived.ProofKit
import Derived.OpenShut
import Derived.Handy
import Derived.Lib.Hide
import Derived.Deep.RegionHeld3
import Derived.Test.YtdeaehkdhghfkaaDoorFst
import Derived.Test.YtdeaehkdhghfkaaDoorCmp
namespace Go.Proofs.YtdeaehkdhghfkaaDoor
open Go.RowKit

/-- the cells of the first strings of a slice -/
theorem strIs_take {n : Nat} {W : World} {l : List Key} {b o cap : Nat} (h : StrIs n W l (.slice (some ⟨b, o, none⟩) l.length cap)) (j : Nat) : ∀ i u, (strs (l.take j))[i]? = some u → W.cell? ((⟨b, o, none⟩ : Addr).add i) = some u := by
  intro i u hu
  refine h.news.2 _ rfl i u ?_
  have hlt := (List.getElem?_eq_some_iff.1 hu).1
  rw [strs_length, List.length_take] at hlt
  rw [strs, List.getElem?_map] at hu ⊢
  rw [List.getElem?_take, if_pos (by omega)] at hu
  exact hu
/-- and of the others -/
theorem strIs_drop {n : Nat} {W : World} {l : List Key} {b o cap : Nat} (h : StrIs n W l (.slice (some ⟨b, o, none⟩) l.length cap)) (j : Nat) {oa : Option Addr} (hoa : ¬ cap = j → oa = some ⟨b, o + j, none⟩) (hj : j ≤ l.length) (hc : l.length ≤ cap) : ∀ ad, oa = some ad → ∀ i u, (strs (l.drop j))[i]? = some u → W.cell? (ad.add i) = some u := by
  intro ad had i u hu
  have hlt := (List.getElem?_eq_some_iff.1 hu).1
  rw [strs_length, List.length_drop] at hlt
  rw [hoa (by omega)] at had
  cases had
  rw [strs, List.getElem?_map, List.getElem?_drop] at hu
  have := h.news.2 _ rfl (j + i) u (by rw [strs, List.getElem?_map]; exact hu)
  rw [ad_add] at this ⊢
  rw [Nat.add_assoc]; exact this

set_option maxRecDepth 100000 in
set_option maxHeartbeats 2000000 in
theorem rinsert_some (l : List Key) (k : Key) (b1 o1 cl : Nat) (w : World) (hl : StrIs w.heap.size w l (.slice (some ⟨b1, o1, none⟩) l.length cl)) (hlen : l.length ≤ 1048576) (hk : k.length ≤ 1048576) (hls : ∀ x ∈ l, x.length ≤ 1048576) :
    Calls Tryd.prog 92 #[.slice (some ⟨b1, o1, none⟩) l.length cl, .string (kb k)] w fun e w' => (∃ v' r, e = .returned v' ∧ StrIs w'.heap.size w' r v' ∧ (r = l ∧ k ∈ l ∨ ∃ j, j ≤ l.length ∧ r = l.take j ++ [k] ++ l.drop j)) ∧ Below w.heap.size w w' := by
  have hl' := hl
  obtain ⟨ol, cl', he, hcap, -, hc⟩ := hl'
  simp only [Value.slice.injEq, true_and] at he
  obtain ⟨rfl, rfl⟩ := he
  obtain ⟨i0, hi, hz, hs1, hb1⟩ := info_parts infoStr
  have HI := Lib.hid hi
  have HZ := Lib.hid hz
  have HS1 := Lib.hid hs1
  have HB1 := Lib.hid hb1
  have HL := Lib.hid hl
  have HC := Lib.hid hc
  have HLS := Lib.hid hls
  clear hi hz hs1 hb1 hl hc hls
  go_enter Tryd.func92, Tryd.ntmps92
  go_wp2_with fail
  go_loopw [5] (fun i wr => ∃ j : Nat, j ≤ l.length ∧ i = .int .i64 j ∧ Below w.heap.size w wr) (fun i _ => l.length - (intOf i).toNat)
  case atStart => exact ⟨0, by omega, rfl, Below.refl _ _⟩
  case round =>
    obtain ⟨j, hj, rfl, hbw⟩ := hrel
    have hjc : j ≤ cl := by omega
    by_cases hlt : j < l.length
    · obtain ⟨x, hx⟩ : ∃ x, l[j]? = some x := ⟨_, List.getElem?_eq_getElem hlt⟩
      obtain ⟨b2, o2, hbo, hbn, hc1⟩ := HC.out (by rintro rfl; simp at hlt)
      simp only [Option.some.injEq, Addr.mk.injEq, and_true] at hbo
      obtain ⟨rfl, rfl⟩ := hbo
      have h1 := (hbw.cell (p := ⟨b1, o1 + j, none⟩) hbn).trans (hc1 j x hx)
      have hxl := HLS.out x (List.mem_of_getElem? hx)
      have HX := Lib.hid hx
      have HBW := Lib.hid hbw
      have hz := hbw.size
      clear hc1 hx hbw
      go_wp2_with fail
      refine (cmpNames_any (kb x) (kb k) _ (by show x.toArray.size ≤ _; simpa using hxl) (by show k.toArray.size ≤ _; simpa using hk)).mono ?_
      rintro e wr1 ⟨⟨c1, rfl, -⟩, hb1⟩
      have hbx := HBW.out.trans (hb1.mono hz)
      have h1 := (hb1.cell (p := ⟨b1, o1 + j, none⟩) (Nat.lt_of_lt_of_le hbn hz)).trans h1
      have HBX := Lib.hid hbx
      have hzx := hbx.size
      clear hb1 hbx HBW hz
      by_cases hc0 : c1 < 0
      · go_wp2_with fail
        exact ⟨⟨j + 1, by omega, by go_num, HBX.out⟩, by simp [intOf]; omega⟩
      · by_cases hxk : x = k
        · have hbb := kb_beq_yes hxk
          have HXK := Lib.hid hxk
          clear hxk
          go_wp2_with fail
          go_ret
          exact ⟨⟨_, l, rfl, HL.out.carry HBX.out hzx, .inl ⟨rfl, by rw [← HXK.out]; exact List.mem_of_getElem? HX.out⟩⟩, HBX.out⟩
        · have hbb := kb_beq_no hxk
          clear hxk
          have HN := Lib.hid (HL.out.carry HBX.out hzx)
          go_wp2_with fail
          have hcj : ¬ cl = j := by omega
          go_region_held3 (fun w' => wr1.heap.size ≤ w'.heap.size) (first | exact HZ3.out | exact HZ2.out | exact Nat.le_of_lt HZ1.out | (simp; done) | (have := HZ2.out; simp; omega) | (have := HZ1.out; simp; omega) | (simp; omega)) ((first
      | (refine step_append_opt rfl (.tmp 34) (.tmp 37) 31 rfl wr1.heap.size 9 i0 (.string ⟨#[]⟩) 1 16 Tryd.underlying31 HI.out HZ.out HS1.out HB1.out rfl (by decide) (.slice (some ⟨wr1.heap.size, 0, none⟩) 0 0) 0 [] rfl ?own (some ⟨b1, o1, none⟩) j _ (strs (l.take j)) rfl (by rw [strs_length, List.length_take]; omega) (fun h => by cases h) (fun ad had => by cases had; exact strIs_take (HN.out.carry (by go_grown) (Nat.le_refl _)) j) (strs_one _) (by unfold maxLen; omega) (by omega) (by first | (simp; done) | (simp; omega)) ?_
         case own => first
           | exact ownsRow_made _ (heap_new_at _ _ _ (by simp)) (by simp) rfl (by decide)
           | exact ownsRow_made _ ((Below.heap_alloc _ _ _ (by simp)).trans (heap_new_at _ _ _ (by simp))) (by simp) rfl (by decide)
         intro v1 w1 ho1 hg1 hat1
         have hb1 := (show Below wr1.heap.size wr1 _ from by go_grown).grown hg1 (by first | (simp; done) | (simp; omega)) (by simp [Value.ownBlock])
         first
         | (have HK := Lib.hid ((hg1.block (wr1.heap.size + 1) (by simp) (by simp [Value.ownBlock])).trans (heap_new_at _ (.cells #[.string (kb k)] 9) _ (by simp))))
         | skip
         have HZ1 := Lib.hid (show wr1.heap.size < w1.heap.size from by have := hg1.size; simp at this; omega)
         have HO1 := Lib.hid ho1
         have HBL1 := Lib.hid hb1
         clear ho1 hg1 hat1 hb1)
      | (refine step_append_opt rfl (.tmp 34) (.tmp 37) 31 rfl wr1.heap.size 9 i0 (.string ⟨#[]⟩) 1 16 Tryd.underlying31 HI.out HZ.out HS1.out HB1.out rfl (by decide) (.slice (some ⟨wr1.heap.size + 1, 0, none⟩) 0 0) 0 [] rfl ?own (some ⟨b1, o1, none⟩) j _ (strs (l.take j)) rfl (by rw [strs_length, List.length_take]; omega) (fun h => by cases h) (fun ad had => by cases had; exact strIs_take (HN.out.carry (by go_grown) (Nat.le_refl _)) j) (strs_one _) (by unfold maxLen; omega) (by omega) (by first | (simp; done) | (simp; omega)) ?_
         case own => exact ownsRow_made _ (heap_new_at _ _ _ (by simp)) (by simp) rfl (by decide)
         intro v1 w1 ho1 hg1 hat1
         have hb1 := (show Below wr1.heap.size wr1 _ from by go_grown).grown hg1 (by first | (simp; done) | (simp; omega)) (by first | (simp [Value.ownBlock]; done) | (simp [Value.ownBlock]; omega))
         have HK := Lib.hid ((hg1.block wr1.heap.size (by first | (simp; done) | (simp; omega)) (by simp [Value.ownBlock])).trans ((Below.heap_alloc _ _ _ (by simp)).trans (heap_new_at _ (.cells #[.string (kb k)] 9) _ (by simp))))
         have HZ1 := Lib.hid (show wr1.heap.size < w1.heap.size from by have := hg1.size; simp at this; omega)
         have HO1 := Lib.hid ho1
         have HBL1 := Lib.hid hb1
         clear ho1 hg1 hat1 hb1)
      | (refine step_append_opt rfl (.tmp 38) (.tmp 40) 31 rfl wr1.heap.size 9 i0 (.string ⟨#[]⟩) 1 16 Tryd.underlying31 HI.out HZ.out HS1.out HB1.out rfl (by decide) v1 (0 + j) ([] ++ strs (l.take j)) rfl (HO1.out.alloc _) (some ⟨_, 0, none⟩) 1 1 [.string (kb k)] rfl rfl (fun h => by cases h) (fun ad had => by cases had; exact cell_one_new _ _ _) (by simp [Value.oneCell']) (by unfold maxLen; omega) (by omega) (by have := HZ1.out; first | (simp; done) | (simp; omega)) ?_
         intro v2 w2 ho2 hg2 hat2
         have hz1 := HZ1.out
         have hb2 := (show Below wr1.heap.size wr1 _ from HBL1.out.alloc (by omega) _).grown hg2 (by first | (simp; done) | (simp; omega)) (fun k hk => (HO1.out.lt k hk).1)
         have HO2 := Lib.hid ho2
         have HBL2 := Lib.hid hb2
         have HZ2 := Lib.hid hb2.size
         clear ho2 hg2 hat2 hb2 hz1)
      | (refine step_append_opt rfl (.tmp 38) (.tmp 40) 31 rfl wr1.heap.size 9 i0 (.string ⟨#[]⟩) 1 16 Tryd.underlying31 HI.out HZ.out HS1.out HB1.out rfl (by decide) v1 (0 + j) ([] ++ strs (l.take j)) rfl HO1.out (some ⟨_, 0, none⟩) 1 1 [.string (kb k)] rfl rfl (fun h => by cases h) (fun ad had => by cases had; exact cell_one_at HK.out) (by simp [Value.oneCell']) (by unfold maxLen; omega) (by omega) (by have := HZ1.out; omega) ?_
         intro v2 w2 ho2 hg2 hat2
         have hz1 := HZ1.out
         have hb2 := (show Below wr1.heap.size wr1 _ from HBL1.out).grown hg2 (by omega) (fun k hk => (HO1.out.lt k hk).1)
         have HO2 := Lib.hid ho2
         have HBL2 := Lib.hid hb2
         have HZ2 := Lib.hid hb2.size
         clear ho2 hg2 hat2 hb2 hz1)
      | (refine step_append_opt rfl (.tmp 41) (.tmp 44) 31 rfl wr1.heap.size 9 i0 (.string ⟨#[]⟩) 1 16 Tryd.underlying31 HI.out HZ.out HS1.out HB1.out rfl (by decide) v2 (0 + j + 1) ([] ++ strs (l.take j) ++ [.string (kb k)]) rfl HO2.out _ (l.length - j) _ (strs (l.drop j)) rfl (by rw [strs_length, List.length_drop]; omega) (fun h => by cases h) (strIs_drop (HN.out.carry HBL2.out (Nat.le_refl _)) j (fun h => by first | rfl | exact absurd hcj h) hj hcap) (strs_one _) (by unfold maxLen; omega) (by omega) HZ2.out ?_
         intro v3 w3 ho3 hg3 hat3
         have HO3 := Lib.hid ho3
         have HBL3 := Lib.hid (HBL2.out.grown hg3 HZ2.out (fun k hk => (HO2.out.lt k hk).1))
         have HZ3 := Lib.hid HBL3.out.size
         clear ho3 hg3 hat3)
      ))
          all_goals
            go_wp2_with fail
            go_ret
            refine ⟨⟨_, l.take j ++ [k] ++ l.drop j, rfl, ?_, .inr ⟨j, hj, rfl⟩⟩, HBX.out.trans (HBL3.out.mono hzx)⟩
            refine StrIs.ofRow (m := wr1.heap.size) (e := 9) ?_
            have h3 := HO3.out
            rw [List.nil_append] at h3
            have hl3 : (l.take j ++ [k] ++ l.drop j).length = 0 + j + 1 + (l.length - j) := by simp; omega
            rw [hl3, strs_append, strs_append]
            exact h3

    · have HBX := Lib.hid hbw
      have hzx := hbw.size
      have HN := Lib.hid (HL.out.carry HBX.out hzx)
      clear hbw
      obtain ⟨wr1, rfl⟩ : ∃ W, W = wr := ⟨wr, rfl⟩
      go_wp2_with fail
      by_cases hcj : cl = j
      all_goals go_region_held3 (fun w' => wr1.heap.size ≤ w'.heap.size) (first | exact HZ3.out | exact HZ2.out | exact Nat.le_of_lt HZ1.out | (simp; done) | (have := HZ2.out; simp; omega) | (have := HZ1.out; simp; omega) | (simp; omega)) ((first
      | (refine step_append_opt rfl (.tmp 34) (.tmp 37) 31 rfl wr1.heap.size 9 i0 (.string ⟨#[]⟩) 1 16 Tryd.underlying31 HI.out HZ.out HS1.out HB1.out rfl (by decide) (.slice (some ⟨wr1.heap.size, 0, none⟩) 0 0) 0 [] rfl ?own (some ⟨b1, o1, none⟩) j _ (strs (l.take j)) rfl (by rw [strs_length, List.length_take]; omega) (fun h => by cases h) (fun ad had => by cases had; exact strIs_take (HN.out.carry (by go_grown) (Nat.le_refl _)) j) (strs_one _) (by unfold maxLen; omega) (by omega) (by first | (simp; done) | (simp; omega)) ?_
         case own => first
           | exact ownsRow_made _ (heap_new_at _ _ _ (by simp)) (by simp) rfl (by decide)
           | exact ownsRow_made _ ((Below.heap_alloc _ _ _ (by simp)).trans (heap_new_at _ _ _ (by simp))) (by simp) rfl (by decide)
         intro v1 w1 ho1 hg1 hat1
         have hb1 := (show Below wr1.heap.size wr1 _ from by go_grown).grown hg1 (by first | (simp; done) | (simp; omega)) (by simp [Value.ownBlock])
         first
         | (have HK := Lib.hid ((hg1.block (wr1.heap.size + 1) (by simp) (by simp [Value.ownBlock])).trans (heap_new_at _ (.cells #[.string (kb k)] 9) _ (by simp))))
         | skip
         have HZ1 := Lib.hid (show wr1.heap.size < w1.heap.size from by have := hg1.size; simp at this; omega)
         have HO1 := Lib.hid ho1
         have HBL1 := Lib.hid hb1
         clear ho1 hg1 hat1 hb1)
      | (refine step_append_opt rfl (.tmp 34) (.tmp 37) 31 rfl wr1.heap.size 9 i0 (.string ⟨#[]⟩) 1 16 Tryd.underlying31 HI.out HZ.out HS1.out HB1.out rfl (by decide) (.slice (some ⟨wr1.heap.size + 1, 0, none⟩) 0 0) 0 [] rfl ?own (some ⟨b1, o1, none⟩) j _ (strs (l.take j)) rfl (by rw [strs_length, List.length_take]; omega) (fun h => by cases h) (fun ad had => by cases had; exact strIs_take (HN.out.carry (by go_grown) (Nat.le_refl _)) j) (strs_one _) (by unfold maxLen; omega) (by omega) (by first | (simp; done) | (simp; omega)) ?_
         case own => exact ownsRow_made _ (heap_new_at _ _ _ (by simp)) (by simp) rfl (by decide)
         intro v1 w1 ho1 hg1 hat1
         have hb1 := (show Below wr1.heap.size wr1 _ from by go_grown).grown hg1 (by first | (simp; done) | (simp; omega)) (by first | (simp [Value.ownBlock]; done) | (simp [Value.ownBlock]; omega))
         have HK := Lib.hid ((hg1.block wr1.heap.size (by first | (simp; done) | (simp; omega)) (by simp [Value.ownBlock])).trans ((Below.heap_alloc _ _ _ (by simp)).trans (heap_new_at _ (.cells #[.string (kb k)] 9) _ (by simp))))
         have HZ1 := Lib.hid (show wr1.heap.size < w1.heap.size from by have := hg1.size; simp at this; omega)
         have HO1 := Lib.hid ho1
         have HBL1 := Lib.hid hb1
         clear ho1 hg1 hat1 hb1)
      | (refine step_append_opt rfl (.tmp 38) (.tmp 40) 31 rfl wr1.heap.size 9 i0 (.string ⟨#[]⟩) 1 16 Tryd.underlying31 HI.out HZ.out HS1.out HB1.out rfl (by decide) v1 (0 + j) ([] ++ strs (l.take j)) rfl (HO1.out.alloc _) (some ⟨_, 0, none⟩) 1 1 [.string (kb k)] rfl rfl (fun h => by cases h) (fun ad had => by cases had; exact cell_one_new _ _ _) (by simp [Value.oneCell']) (by unfold maxLen; omega) (by omega) (by have := HZ1.out; first | (simp; done) | (simp; omega)) ?_
         intro v2 w2 ho2 hg2 hat2
         have hz1 := HZ1.out
         have hb2 := (show Below wr1.heap.size wr1 _ from HBL1.out.alloc (by omega) _).grown hg2 (by first | (simp; done) | (simp; omega)) (fun k hk => (HO1.out.lt k hk).1)
         have HO2 := Lib.hid ho2
         have HBL2 := Lib.hid hb2
         have HZ2 := Lib.hid hb2.size
         clear ho2 hg2 hat2 hb2 hz1)
      | (refine step_append_opt rfl (.tmp 38) (.tmp 40) 31 rfl wr1.heap.size 9 i0 (.string ⟨#[]⟩) 1 16 Tryd.underlying31 HI.out HZ.out HS1.out HB1.out rfl (by decide) v1 (0 + j) ([] ++ strs (l.take j)) rfl HO1.out (some ⟨_, 0, none⟩) 1 1 [.string (kb k)] rfl rfl (fun h => by cases h) (fun ad had => by cases had; exact cell_one_at HK.out) (by simp [Value.oneCell']) (by unfold maxLen; omega) (by omega) (by have := HZ1.out; omega) ?_
         intro v2 w2 ho2 hg2 hat2
         have hz1 := HZ1.out
         have hb2 := (show Below wr1.heap.size wr1 _ from HBL1.out).grown hg2 (by omega) (fun k hk => (HO1.out.lt k hk).1)
         have HO2 := Lib.hid ho2
         have HBL2 := Lib.hid hb2
         have HZ2 := Lib.hid hb2.size
         clear ho2 hg2 hat2 hb2 hz1)
      | (refine step_append_opt rfl (.tmp 41) (.tmp 44) 31 rfl wr1.heap.size 9 i0 (.string ⟨#[]⟩) 1 16 Tryd.underlying31 HI.out HZ.out HS1.out HB1.out rfl (by decide) v2 (0 + j + 1) ([] ++ strs (l.take j) ++ [.string (kb k)]) rfl HO2.out _ (l.length - j) _ (strs (l.drop j)) rfl (by rw [strs_length, List.length_drop]; omega) (fun h => by cases h) (strIs_drop (HN.out.carry HBL2.out (Nat.le_refl _)) j (fun h => by first | rfl | exact absurd hcj h) hj hcap) (strs_one _) (by unfold maxLen; omega) (by omega) HZ2.out ?_
         intro v3 w3 ho3 hg3 hat3
         have HO3 := Lib.hid ho3
         have HBL3 := Lib.hid (HBL2.out.grown hg3 HZ2.out (fun k hk => (HO2.out.lt k hk).1))
         have HZ3 := Lib.hid HBL3.out.size
         clear ho3 hg3 hat3)
      ))
      all_goals
        go_wp2_with fail
        go_ret
        refine ⟨⟨_, l.take j ++ [k] ++ l.drop j, rfl, ?_, .inr ⟨j, hj, rfl⟩⟩, HBX.out.trans (HBL3.out.mono hzx)⟩
        refine StrIs.ofRow (m := wr1.heap.size) (e := 9) ?_
        have h3 := HO3.out
        rw [List.nil_append] at h3
        have hl3 : (l.take j ++ [k] ++ l.drop j).length = 0 + j + 1 + (l.length - j) := by simp; omega
        rw [hl3, strs_append, strs_append]
        exact h3
end Go.Proofs.YtdeaehkdhghfkaaDoor
