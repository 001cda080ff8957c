/- The matcher's bindings in the order of their names. -/
import Derived.WalkKit
import Derived.ProofKit
import Derived.OpenShut
import Derived.Handy
import Derived.Lib.Hide
import Derived.Test.YtkglopdogakfoaaGreatDoorMtw
import Derived.Test.YtkglopdogakfoaaGreatDoorItr
import Derived.Test.YtkglopdogakfoaaGreatDoorElm
import Derived.Test.YtkglopdogakfoaaGreatDoorUcl
namespace Go.Proofs.YtkglopdogakfoaaGreatDoor
open Go.RowKit Go.Maps

/-- the bindings that are listed -/
def subK (m : List Bd) : List Bd := (sortK (m.map (·.1))).map fun k => (k, imageOf m k)
theorem getA_image {m : List Bd} {k : Key} (hk : k ∈ m.map (·.1)) : getA m k = some (imageOf m k) := by
  obtain ⟨v, hv⟩ := getA_mem.1 hk
  rw [hv, imageOf_get hv]

set_option maxRecDepth 100000 in
set_option maxHeartbeats 4000000 in
theorem msubst_any (m : List Bd) (mb : Nat) (w : World) (h : TMap w.heap.size w mb m) (hl : m.length ≤ 1048576) (hb : ∀ q ∈ m, q.2.bulk ≤ 1048576 ∧ q.2.bare ∧ q.1.length ≤ 1048576) :
    Calls Tryz.prog 117 #[.map (some mb)] w fun e w' => (∃ v, e = .returned v ∧ BindsIs w'.heap.size w' (subK m) v) ∧ Below w.heap.size w w' := by
  obtain ⟨i0, hi, hz, hs1, hbb1⟩ := info_parts infoBind
  have HI := Lib.hid hi
  have HZ := Lib.hid hz
  have HS1 := Lib.hid hs1
  have HBB := Lib.hid hbb1
  have HM := Lib.hid h
  have HB := Lib.hid hb
  have hlen : (sortK (m.map (·.1))).length ≤ 1048576 := by rw [sortK_len, List.length_map]; exact hl
  have HSRT := Lib.hid (sortedM_any mb m w h hl)
  clear hi hz hs1 hbb1 h hb
  go_enter Tryz.func117, Tryz.ntmps117
  go_wp2_with (go_at_call 148; refine (keysM_any mb _).mono ?_; rintro e w' ⟨rfl, rfl⟩)
  refine HSRT.out.mono ?_
  rintro e wb ⟨⟨sv, rfl, hsv⟩, hwb⟩
  have hsv' := hsv
  obtain ⟨oa, cap, rfl, hcap, -, hcell⟩ := hsv'
  have HWB := Lib.hid hwb
  have HC := Lib.hid hcell
  have hwz := hwb.size
  clear hsv hwb hcell HSRT
  go_wp2_with fail
  go_loopw [3, 10] (fun v i wr => ∃ (j : Nat) (es : List Elem), j ≤ (sortK (m.map (·.1))).length ∧ i = .int .i64 j ∧ Hid (CmpSt wb wr v es) ∧ Hid (es.map (·.1) = ((sortK (m.map (·.1))).take j).map fun k => (k, imageOf m k))) (fun _ i _ => (sortK (m.map (·.1))).length - (intOf i).toNat)
  case atStart => exact ⟨0, [], by omega, rfl, Lib.hid (CmpSt.start wb), Lib.hid (by simp)⟩
  case round =>
    obtain ⟨j, es, hj, rfl, HST, HES⟩ := hrel
    obtain ⟨or, cr, rfl⟩ := ownsRow_shape HST.out.row
    by_cases hlt : j < (sortK (m.map (·.1))).length
    · obtain ⟨k, hk⟩ : ∃ k, (sortK (m.map (·.1)))[j]? = some k := ⟨_, List.getElem?_eq_getElem hlt⟩
      have hkm : k ∈ m.map (·.1) := sortK_mem.1 (List.mem_of_getElem? hk)
      obtain ⟨b1, p1, rfl, hb1, hc1⟩ := HC.out (by intro e; rw [e] at hlt; simp at hlt)
      have hlow := HST.out.low
      have hlz := hlow.size
      have c1 := (hlow.cell (p := ⟨b1, p1 + j, none⟩) hb1).trans (hc1 j k hk)
      have hga := getA_image hkm
      have hmem := getA_some hga
      obtain ⟨hub, hbare, hkl⟩ := HB.out _ hmem
      have hkp : KpC w.heap.size w wr := (KpC.of_below HWB.out (Nat.le_refl _)).trans (KpC.of_below (hlow.mono (Nat.le_refl _)) hwz)
      obtain ⟨D, su, hown, -, hat, hsu⟩ := (HM.out.kept hkp (Nat.le_trans hwz hlz) ((hlow.block mb (Nat.lt_of_lt_of_le HM.out.lt hwz)).trans (HWB.out.block mb HM.out.lt))).at hga
      obtain ⟨os, cs, rfl, -⟩ := hsu.form
      have HOWN := Lib.hid hown
      have HAT := Lib.hid hat
      have HK := Lib.hid hk
      have HCL := fun W (hW : Below wr.heap.size wr W) => Lib.hid (uclone_new (imageOf m k) hbare (.slice os (imageOf m k).ts.length cs) W (hsu.carry hW hW.size) hub)
      have HKEY := Lib.hid (keyOf_kb hkl)
      have HESL : Hid (es.length = j) := Lib.hid (by have := congrArg List.length HES.out; simp at this; omega)
      clear hc1 hk hkm hga hmem hown hat hsu hlow hkp
      go_wp2_with (first
        | (at_lookup
           refine tlook_plain _ 152 Tryz.underlying152 rfl _ _ rfl mb m.length D rfl HOWN.out _ _ rfl HKEY.out (.agg #[.string (imageOf m k).nm, .bool (imageOf m k).vr, .slice os (imageOf m k).ts.length cs]) HAT.out ?_))
      refine (HCL _ (Below.refl _ _)).out.mono ?_
      rintro e w5 ⟨⟨s5, rfl, h5⟩, hb5⟩
      obtain ⟨o5, k5, rfl⟩ := h5.form
      dsimp only [tmv]
      have H5 := Lib.hid h5
      have HB5 : Hid (Below wr.heap.size wr w5) := Lib.hid hb5
      have hz5 := HB5.out.size
      have hrow5 := HST.out.row.kept (below_grown HB5.out) (own_none _)
      have HROW := Lib.hid hrow5
      clear h5 hb5 hrow5
      go_wp2_with (first
        | (at_builtin
           refine wpList_append_opt rfl (.tmp 14) (.tmp 21) 53 rfl wb.heap.size 61 i0 (.agg #[.string ⟨#[]⟩, .string ⟨#[]⟩, .bool false, .slice none 0 0]) 4 64 Tryz.underlying53 HI.out HZ.out HS1.out HBB.out rfl (by decide) (.slice or es.length cr) es.length (ecells es) rfl (HROW.out.alloc _) (some ⟨w5.heap.size, 0, none⟩) 1 1 (encE ((k, imageOf m k), (o5, (imageOf m k).ts.length, k5))) rfl rfl (fun h => by cases h) (fun ad had => by cases had; exact cells_new4 _ _ _) (encE_one _) (by have := HESL.out; unfold maxLen; omega) (by have := HESL.out; omega) (by simp; omega) ?_
           intro v7 w7 ho7 hg7 hat7
           have HST7 := Lib.hid (HST.out.step (x := ((k, imageOf m k), (o5, (imageOf m k).ts.length, k5))) (HB5.out.trans (show Below wr.heap.size w5 _ from ((Below.refl _ _).alloc hz5 _))) (H5.out.carry fun b hb => ⟨Below.heap_alloc _ _ b hb.2, hb.1, by simp; omega⟩) hg7 ho7 hat7)
           clear ho7 hg7 hat7))
      exact ⟨⟨j + 1, es ++ [((k, imageOf m k), (o5, (imageOf m k).ts.length, k5))], by omega, by go_num, HST7, Lib.hid (by rw [List.map_append, HES.out, List.take_add_one, HK.out, List.map_append]; rfl)⟩, by simp [intOf]; omega⟩
    · obtain rfl : j = (sortK (m.map (·.1))).length := by omega
      have HES2 : Hid (es.map (·.1) = subK m) := Lib.hid (by have := HES.out; rwa [List.take_length] at this)
      go_wp2_with fail
      go_ret
      have hlz := HST.out.low.size
      refine ⟨⟨_, rfl, ?_⟩, HWB.out.trans (HST.out.low.mono hwz)⟩
      rw [← HES2.out]
      exact BindsIs.ofE HST.out.row (Nat.le_refl _) fun x hx => (HST.out.kids x hx).toIs fun b hb => hb.2.1
end Go.Proofs.YtkglopdogakfoaaGreatDoor
