/- The reference's Insert into nothing; Insert, whole; sorted. -/
import Derived.WalkKit
import Derived.ProofKit
import Derived.OpenShut
import Derived.Handy
import Derived.Lib.Hide
import Derived.Deep.RegionHeld3
import Derived.Test.YtdeaehkdhghfkaaDoorIns
namespace Go.Proofs.YtdeaehkdhghfkaaDoor
open Go.RowKit

set_option maxRecDepth 100000 in
set_option maxHeartbeats 2000000 in
theorem rinsert_nil (k : Key) (wr1 : World) :
    Calls Tryd.prog 92 #[.slice none 0 0, .string (kb k)] wr1 fun e w' => (∃ v', e = .returned v' ∧ StrIs w'.heap.size w' [k] v') ∧ Below wr1.heap.size wr1 w' := by
  obtain ⟨i0, hi, hz, hs1, hb1⟩ := info_parts infoStr
  have HI := Lib.hid hi
  have HZ := Lib.hid hz
  have HS1 := Lib.hid hs1
  have HB1 := Lib.hid hb1
  clear hi hz hs1 hb1
  go_enter Tryd.func92, Tryd.ntmps92
  go_wp2_with fail
  go_loop [5] (fun i => i = .int .i64 0) (fun _ => 0)
  case atStart => rfl
  case round =>
    subst hrel
    go_wp2_with fail
    go_region_held3 (fun w' => wr1.heap.size ≤ w'.heap.size) (first | exact HZ3.out | exact HZ2.out | exact Nat.le_of_lt HZ1.out | (simp; done) | (have := HZ2.out; simp; omega) | (have := HZ1.out; simp; omega) | (simp; omega)) ((first
      | (refine step_append_opt rfl (.tmp 34) (.tmp 37) 31 rfl wr1.heap.size 9 i0 (.string ⟨#[]⟩) 1 16 Tryd.underlying31 HI.out HZ.out HS1.out HB1.out rfl (by decide) (.slice (some ⟨wr1.heap.size, 0, none⟩) 0 0) 0 [] rfl ?own none 0 0 [] rfl rfl (fun _ => ⟨rfl, rfl⟩) (fun ad had => by cases had) (by simp) (by unfold maxLen; omega) (by omega) (by first | (simp; done) | (simp; omega)) ?_
         case own => first
           | exact ownsRow_made _ (heap_new_at _ _ _ (by simp)) (by simp) rfl (by decide)
           | exact ownsRow_made _ ((Below.heap_alloc _ _ _ (by simp)).trans (heap_new_at _ _ _ (by simp))) (by simp) rfl (by decide)
         intro v1 w1 ho1 hg1 hat1
         have hb1 := (show Below wr1.heap.size wr1 _ from by go_grown).grown hg1 (by first | (simp; done) | (simp; omega)) (by simp [Value.ownBlock])
         first
         | (have HK := Lib.hid ((hg1.block (wr1.heap.size + 1) (by simp) (by simp [Value.ownBlock])).trans (heap_new_at _ (.cells #[.string (kb k)] 9) _ (by simp))))
         | skip
         have HZ1 := Lib.hid (show wr1.heap.size < w1.heap.size from by have := hg1.size; simp at this; omega)
         have HO1 := Lib.hid ho1
         have HBL1 := Lib.hid hb1
         clear ho1 hg1 hat1 hb1)
      | (refine step_append_opt rfl (.tmp 34) (.tmp 37) 31 rfl wr1.heap.size 9 i0 (.string ⟨#[]⟩) 1 16 Tryd.underlying31 HI.out HZ.out HS1.out HB1.out rfl (by decide) (.slice (some ⟨wr1.heap.size + 1, 0, none⟩) 0 0) 0 [] rfl ?own none 0 0 [] rfl rfl (fun _ => ⟨rfl, rfl⟩) (fun ad had => by cases had) (by simp) (by unfold maxLen; omega) (by omega) (by first | (simp; done) | (simp; omega)) ?_
         case own => exact ownsRow_made _ (heap_new_at _ _ _ (by simp)) (by simp) rfl (by decide)
         intro v1 w1 ho1 hg1 hat1
         have hb1 := (show Below wr1.heap.size wr1 _ from by go_grown).grown hg1 (by first | (simp; done) | (simp; omega)) (by first | (simp [Value.ownBlock]; done) | (simp [Value.ownBlock]; omega))
         have HK := Lib.hid ((hg1.block wr1.heap.size (by first | (simp; done) | (simp; omega)) (by simp [Value.ownBlock])).trans ((Below.heap_alloc _ _ _ (by simp)).trans (heap_new_at _ (.cells #[.string (kb k)] 9) _ (by simp))))
         have HZ1 := Lib.hid (show wr1.heap.size < w1.heap.size from by have := hg1.size; simp at this; omega)
         have HO1 := Lib.hid ho1
         have HBL1 := Lib.hid hb1
         clear ho1 hg1 hat1 hb1)
      | (refine step_append_opt rfl (.tmp 38) (.tmp 40) 31 rfl wr1.heap.size 9 i0 (.string ⟨#[]⟩) 1 16 Tryd.underlying31 HI.out HZ.out HS1.out HB1.out rfl (by decide) v1 (0 + 0) ([] ++ []) rfl (HO1.out.alloc _) (some ⟨_, 0, none⟩) 1 1 [.string (kb k)] rfl rfl (fun h => by cases h) (fun ad had => by cases had; exact cell_one_new _ _ _) (by simp [Value.oneCell']) (by unfold maxLen; omega) (by omega) (by have := HZ1.out; first | (simp; done) | (simp; omega)) ?_
         intro v2 w2 ho2 hg2 hat2
         have hz1 := HZ1.out
         have hb2 := (show Below wr1.heap.size wr1 _ from HBL1.out.alloc (by omega) _).grown hg2 (by first | (simp; done) | (simp; omega)) (fun k hk => (HO1.out.lt k hk).1)
         have HO2 := Lib.hid ho2
         have HBL2 := Lib.hid hb2
         have HZ2 := Lib.hid hb2.size
         clear ho2 hg2 hat2 hb2 hz1)
      | (refine step_append_opt rfl (.tmp 38) (.tmp 40) 31 rfl wr1.heap.size 9 i0 (.string ⟨#[]⟩) 1 16 Tryd.underlying31 HI.out HZ.out HS1.out HB1.out rfl (by decide) v1 (0 + 0) ([] ++ []) rfl HO1.out (some ⟨_, 0, none⟩) 1 1 [.string (kb k)] rfl rfl (fun h => by cases h) (fun ad had => by cases had; exact cell_one_at HK.out) (by simp [Value.oneCell']) (by unfold maxLen; omega) (by omega) (by have := HZ1.out; omega) ?_
         intro v2 w2 ho2 hg2 hat2
         have hz1 := HZ1.out
         have hb2 := (show Below wr1.heap.size wr1 _ from HBL1.out).grown hg2 (by omega) (fun k hk => (HO1.out.lt k hk).1)
         have HO2 := Lib.hid ho2
         have HBL2 := Lib.hid hb2
         have HZ2 := Lib.hid hb2.size
         clear ho2 hg2 hat2 hb2 hz1)
      | (refine step_append_opt rfl (.tmp 41) (.tmp 44) 31 rfl wr1.heap.size 9 i0 (.string ⟨#[]⟩) 1 16 Tryd.underlying31 HI.out HZ.out HS1.out HB1.out rfl (by decide) v2 (0 + 0 + 1) ([] ++ [] ++ [.string (kb k)]) rfl HO2.out none 0 0 [] rfl rfl (fun _ => ⟨rfl, rfl⟩) (fun ad had => by cases had) (by simp) (by unfold maxLen; omega) (by omega) HZ2.out ?_
         intro v3 w3 ho3 hg3 hat3
         have HO3 := Lib.hid ho3
         have HBL3 := Lib.hid (HBL2.out.grown hg3 HZ2.out (fun k hk => (HO2.out.lt k hk).1))
         have HZ3 := Lib.hid HBL3.out.size
         clear ho3 hg3 hat3)
      ))
    all_goals
      go_wp2_with fail
      go_ret
      refine ⟨⟨_, rfl, ?_⟩, HBL3.out⟩
      exact StrIs.ofRow (m := wr1.heap.size) (e := 9) (l := [k]) HO3.out

/-- r holds what l holds, and k -/
def InsOf (l : List Key) (k : Key) (r : List Key) : Prop := (∀ x, x ∈ r ↔ x ∈ l ∨ x = k) ∧ r.length ≤ l.length + 1
theorem InsOf.same {l : List Key} {k : Key} (h : k ∈ l) : InsOf l k l := ⟨fun x => ⟨.inl, fun hx => by rcases hx with hx | rfl; exact hx; exact h⟩, by omega⟩
theorem InsOf.at {l : List Key} (k : Key) (j : Nat) : InsOf l k (l.take j ++ [k] ++ l.drop j) := by
  refine ⟨fun x => ?_, ?_⟩
  · have h := List.take_append_drop j l
    constructor
    · intro hx
      simp only [List.mem_append, List.mem_singleton] at hx
      rcases hx with (hx | hx) | hx
      · exact .inl (List.mem_of_mem_take hx)
      · exact .inr hx
      · exact .inl (List.mem_of_mem_drop hx)
    · intro hx
      simp only [List.mem_append, List.mem_singleton]
      rcases hx with hx | hx
      · rw [← h] at hx
        rcases List.mem_append.1 hx with hx | hx
        · exact .inl (.inl hx)
        · exact .inr hx
      · exact .inl (.inr hx)
  · simp; omega
theorem rinsert_any (l : List Key) (k : Key) (v : Value) (w : World) (hl : StrIs w.heap.size w l v) (hlen : l.length ≤ 1048576) (hk : k.length ≤ 1048576) (hls : ∀ x ∈ l, x.length ≤ 1048576) :
    Calls Tryd.prog 92 #[v, .string (kb k)] w fun e w' => (∃ v' r, e = .returned v' ∧ StrIs w'.heap.size w' r v' ∧ InsOf l k r) ∧ Below w.heap.size w w' := by
  have hl' := hl
  obtain ⟨ol, cl, rfl, hcap, ⟨hnone, hsp⟩, hc⟩ := hl'
  cases ol with
  | none =>
    obtain ⟨h0, rfl⟩ := hnone rfl
    obtain rfl : l = [] := List.length_eq_zero_iff.1 h0
    refine (rinsert_nil k w).mono ?_
    rintro e w' ⟨⟨v', rfl, h⟩, hb⟩
    exact ⟨⟨v', [k], rfl, h, InsOf.at (l := []) k 0⟩, hb⟩
  | some a =>
    obtain ⟨b, o, sp⟩ := a
    obtain rfl : sp = none := hsp _ rfl
    refine (rinsert_some l k b o cl w hl hlen hk hls).mono ?_
    rintro e w' ⟨⟨v', r, rfl, h, hr⟩, hb⟩
    refine ⟨⟨v', r, rfl, h, ?_⟩, hb⟩
    rcases hr with ⟨rfl, hm⟩ | ⟨j, _, rfl⟩
    · exact InsOf.same hm
    · exact InsOf.at k j

set_option maxRecDepth 100000 in
set_option maxHeartbeats 1000000 in
theorem rsorted_any (l : List Key) (v : Value) (w : World) (hl : StrIs w.heap.size w l v) (hlen : l.length ≤ 1048576) (hls : ∀ x ∈ l, x.length ≤ 1048576) :
    Calls Tryd.prog 109 #[v] w fun e w' => (∃ v' r, e = .returned v' ∧ StrIs w'.heap.size w' r v' ∧ (∀ x, x ∈ r ↔ x ∈ l) ∧ r.length ≤ l.length) ∧ Below w.heap.size w w' := by
  have hl' := hl
  obtain ⟨ol, cl, rfl, hcap, -, hc⟩ := hl'
  have HL := Lib.hid hl
  have HC := Lib.hid hc
  have HLS := Lib.hid hls
  clear hl hc hls
  go_enter Tryd.func109, Tryd.ntmps109
  go_wp2_with fail
  go_loopw [3, 5, 8] (fun u _ i wr => ∃ (j : Nat) (r : List Key), j ≤ l.length ∧ i = .int .i64 j ∧ Hid (StrIs wr.heap.size wr r u) ∧ Hid ((∀ x, x ∈ r ↔ x ∈ l.take j) ∧ r.length ≤ j) ∧ Below w.heap.size w wr) (fun _ _ i _ => l.length - (intOf i).toNat)
  case atStart => exact ⟨0, [], by omega, rfl, Lib.hid (StrIs.nil _ _), Lib.hid ⟨by simp, by simp⟩, Below.refl _ _⟩
  case round =>
    obtain ⟨j, r, hj, rfl, HS, HR, hbw⟩ := hrel
    by_cases hlt : j < l.length
    · obtain ⟨x, hx⟩ : ∃ x, l[j]? = some x := ⟨_, List.getElem?_eq_getElem hlt⟩
      obtain ⟨b2, o2, rfl, hbn, hc1⟩ := HC.out (by rintro rfl; simp at hlt)
      have h1 := (hbw.cell (p := ⟨b2, o2 + j, none⟩) hbn).trans (hc1 j x hx)
      have hxl := HLS.out x (List.mem_of_getElem? hx)
      have hrl := HR.out.2
      have HX := Lib.hid hx
      have HBW := Lib.hid hbw
      have hs2 := HS.out
      obtain ⟨ou, cu, rfl, -, -, -⟩ := hs2
      clear hc1 hx hbw
      go_wp2_with fail
      refine (rinsert_any r x _ _ HS.out (by omega) hxl (fun y hy => HLS.out y (List.mem_of_mem_take ((HR.out.1 y).1 hy)))).mono ?_
      rintro e w1 ⟨⟨v', r', rfl, h, hr⟩, hb⟩
      have HS1 := Lib.hid h
      have HR1 := Lib.hid hr
      have HB1 := Lib.hid hb
      clear h hr hb
      go_wp2_with fail
      refine ⟨⟨j + 1, r', by omega, by go_num, HS1, Lib.hid ⟨fun y => ?_, ?_⟩, HBW.out.trans (HB1.out.mono HBW.out.size)⟩, by simp [intOf]; omega⟩
      · rw [HR1.out.1, HR.out.1, List.take_add_one, HX.out]; simp
      · have := HR1.out.2; omega
    · have HE : Hid (l.take j = l) := Lib.hid (List.take_of_length_le (by omega))
      go_wp2_with fail
      go_ret
      refine ⟨⟨_, r, rfl, HS.out, ?_, ?_⟩, hbw⟩
      · have := HR.out.1; rw [HE.out] at this; exact this
      · have := HR.out.2; omega
end Go.Proofs.YtdeaehkdhghfkaaDoor
