/- The reference's CheckAll. -/
import Derived.Test.YtnhldpfbmccpfaaRChk
namespace Go.Proofs.Ytnhldpfbmccpfaa
open Go.RowKit

set_option maxRecDepth 100000 in
set_option maxHeartbeats 4000000 in
theorem rcheckAll_any (L : List Tm) (s : Value) (w : World) (hs : SlIs w.heap.size w L s) (hb : Tm.bulks L ≤ 1048576) :
    Calls Try.prog 28 #[s] w fun e w' => (∃ c : Int, e = .returned (.int .i64 c) ∧ (c = 0 ↔ ∀ t ∈ L, t.ok)) ∧ Below w.heap.size w w' := by
  obtain ⟨oa, ca, rfl, -⟩ := hs.form
  have HSL := Lib.hid hs
  have hsz := Tm.sizes_bulks L fun u _ => Tm.size_bulk u
  have hlen := Tm.length_sizes L
  clear hs
  go_enter Try.func28, Try.ntmps28
  go_wp2_with fail
  go_loopw [2, 8] (fun _ i wr => ∃ k : Nat, k ≤ L.length ∧ i = .int .i64 k ∧ Hid (∀ t ∈ L.take k, t.ok) ∧ Hid (Below w.heap.size w wr)) (fun _ i _ => L.length - (intOf i).toNat)
  case atStart => exact ⟨0, by omega, rfl, Lib.hid (by simp), Lib.hid (Below.refl _ _)⟩
  case round =>
    obtain ⟨k, hk, rfl, HOK, HBW⟩ := hrel
    by_cases hlt : k < L.length
    · have hz := HBW.out.size
      obtain ⟨b, o, u, su, rfl, hbb, hu, hum, hus, c1, c2, c3⟩ := (HSL.out.carry HBW.out hz).get hlt
      obtain ⟨ou, cu, rfl, -⟩ := hus.form
      have hub := Tm.bulk_mem hum
      have HTK := Lib.hid (Tm.take_snoc hu)
      have HUM := Lib.hid hum
      have IHu : ∀ W1, Below wr.heap.size wr W1 → Hid (Calls Try.prog 17 #[tmv u (.slice ou u.ts.length cu)] W1 fun e w' => (∃ c : Int, e = .returned (.int .i64 c) ∧ (c = 0 ↔ u.ok)) ∧ Below W1.heap.size W1 w') := fun W1 hW => Lib.hid
        (rcheck_iff u _ W1 (hus.carry hW hW.size) (by omega))
      clear hu hum hus
      go_wp2_with fail
      refine (IHu _ (by go_grown)).out.mono ?_
      rintro e w1 ⟨⟨c, rfl, hc⟩, hb1⟩
      have HC := Lib.hid hc
      have HB1 : Hid (Below w.heap.size w w1) := Lib.hid (HBW.out.trans ((show Below wr.heap.size wr _ from by go_grown).trans (hb1.mono (by simp)) |>.mono hz))
      clear hc hb1 IHu
      by_cases hc0 : c = 0
      · subst hc0
        have HU := Lib.hid (HC.out.1 rfl)
        go_wp2_with fail
        refine ⟨⟨k + 1, by omega, by go_num, Lib.hid (fun t ht => ?_), HB1⟩, by simp [intOf]; omega⟩
        rw [HTK.out] at ht
        rcases List.mem_append.1 ht with ht | ht
        · exact HOK.out t ht
        · obtain rfl := List.mem_singleton.1 ht; exact HU.out
      · have hcn : (c != 0) = true := by rw [bne_iff_ne]; exact hc0
        have HNO : Hid (¬ ∀ t ∈ L, t.ok) := Lib.hid fun h => hc0 (HC.out.2 (h u HUM.out))
        have HC0 := Lib.hid hc0
        clear hc0
        go_wp2_with fail
        go_ret
        exact ⟨⟨c, rfl, fun h => absurd h HC0.out, fun h => absurd h HNO.out⟩, HB1.out⟩
    · obtain rfl : k = L.length := by omega
      have HALL : Hid (∀ t ∈ L, t.ok) := Lib.hid fun t ht => HOK.out t (by rw [List.take_length]; exact ht)
      go_wp2_with fail
      go_ret
      exact ⟨⟨0, rfl, fun _ => HALL.out, fun _ => rfl⟩, HBW.out⟩

end Go.Proofs.Ytnhldpfbmccpfaa
