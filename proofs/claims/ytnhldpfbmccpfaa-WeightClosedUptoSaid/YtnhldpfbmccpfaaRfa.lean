/- At of the reference. -/
import Derived.Test.YtnhldpfbmccpfaaVarP
import Derived.Test.YtnhldpfbmccpfaaAt
namespace Go.Proofs.Ytnhldpfbmccpfaa
open Go.RowKit Go.Shelf Go.Maps

set_option maxRecDepth 100000 in
set_option maxHeartbeats 1000000 in
theorem rAt_any (t : Tm) (s : Value) (l : List Int) (v : Value) (w : World) (hs : SlIs w.heap.size w t.ts s) (hl : PosIs w.heap.size w l v) (hll : l.length ≤ 1048576) (hb : t.bulk ≤ 1048576) :
    Calls Try.prog 13 #[tmv t s, v] w fun e w' => ((∃ u su, e = .returned (.tuple #[tmv u su, .bool true]) ∧ t.at l = some u ∧ SlIs w.heap.size w u.ts su) ∨ (e = .returned (.tuple #[.agg #[.string ⟨#[]⟩, .bool false, .slice none 0 0], .bool false]) ∧ t.at l = none)) ∧ Below w.heap.size w w' := by
  obtain ⟨oa, cap, rfl, -⟩ := hs.form
  obtain ⟨ov, cv, rfl, hp⟩ := hl.form
  have HS := Lib.hid hs
  have HP := Lib.hid hp
  clear hs hl hp
  rw [show tmv t (.slice oa t.ts.length cap) = .agg #[.string t.nm, .bool t.vr, .slice oa t.ts.length cap] from rfl]
  go_enter Try.func13, Try.ntmps13
  go_wp2_with fail
  go_loopw [10] (fun i wr => ∃ (j : Nat) (u : Tm) (ou : Option Addr) (cu : Nat), j ≤ l.length ∧ i = .int .i64 j ∧ u.bulk ≤ 1048576 ∧ Hid (wr.heap[w.heap.size]? = some (.cells #[.string u.nm, .bool u.vr, .slice ou u.ts.length cu] 26 (0, 0))) ∧
      Hid (wr.heap[w.heap.size + 1]? = some (.cells #[.string ⟨#[]⟩, .bool false, .slice none 0 0] 26 (0, 0))) ∧ Hid (SlIs w.heap.size w u.ts (.slice ou u.ts.length cu)) ∧ Hid (t.at l = u.at (l.drop j)) ∧ Hid (Below w.heap.size w wr)) (fun i _ => l.length - (intOf i).toNat)
  case atStart => exact ⟨0, t, oa, cap, by omega, rfl, hb, Lib.hid ((Below.heap_alloc _ _ _ (by simp)).trans (heap_new_at _ _ _ rfl)), Lib.hid (heap_new_at _ _ _ (by simp)), HS, Lib.hid (by simp), Lib.hid (by go_grown)⟩
  case round =>
    obtain ⟨j, u, ou, cu, hj, rfl, hub, HT, HR, HU, HA, HB⟩ := hrel
    obtain ⟨⟨t0, t1, t2⟩, g0, g1, g2⟩ := box3 HT.out
    obtain ⟨⟨r0, r1, r2⟩, f0, f1, f2⟩ := box3 HR.out
    by_cases hlt : j < l.length
    · obtain ⟨x, hx⟩ : ∃ x, l[j]? = some x := ⟨_, List.getElem?_eq_getElem hlt⟩
      have hne : l ≠ [] := by rintro rfl; simp at hlt
      obtain ⟨b3, o3, rfl, hb3, hc3⟩ := HP.out hne
      have hcx := (HB.out.cell (p := ⟨b3, o3 + j, none⟩) hb3).trans (hc3 j x hx)
      have hsz := Tm.size_bulk u
      have hls := Tm.length_sizes u.ts
      have hse := Tm.size_eq u
      have hul : u.ts.length ≤ 1048576 := by omega
      have HDR : Hid (l.drop j = x :: l.drop (j + 1)) := Lib.hid (by rw [List.drop_eq_getElem_cons hlt]; rw [List.getElem?_eq_getElem hlt] at hx; cases hx; rfl)
      clear hx hc3 hsz hls hse
      by_cases hneg : x < 0
      · go_wp2_with fail
        obtain ⟨⟨q0, q1, q2⟩, -⟩ := box3 (box3_set HR.out (.string ⟨#[]⟩) (.bool false) (.slice none 0 0))
        refine bodyPost_ret (v := .tuple #[.agg #[.string ⟨#[]⟩, .bool false, .slice none 0 0], .bool false]) (by simp [results, Try.f13, go_sem, q0, q1, q2]) rfl ?_
        refine ⟨.inr ?_, below_set3 HB.out (by omega) _ _ _⟩
        have HN : t.at l = none := by rw [HA.out, HDR.out]; simp only [Tm.at, Tm.kid, if_neg (show ¬ (0 ≤ x) by omega)]
        exact ⟨rfl, HN⟩
      · by_cases hge : (u.ts.length : Int) ≤ x
        · go_wp2_with fail
          obtain ⟨⟨q0, q1, q2⟩, -⟩ := box3 (box3_set HR.out (.string ⟨#[]⟩) (.bool false) (.slice none 0 0))
          refine bodyPost_ret (v := .tuple #[.agg #[.string ⟨#[]⟩, .bool false, .slice none 0 0], .bool false]) (by simp [results, Try.f13, go_sem, q0, q1, q2]) rfl ?_
          refine ⟨.inr ?_, below_set3 HB.out (by omega) _ _ _⟩
          have HN : t.at l = none := by rw [HA.out, HDR.out]; simp only [Tm.at, Tm.kid, if_pos (show (0 ≤ x) by omega), List.getElem?_eq_none (show u.ts.length ≤ x.toNat by omega)]
          exact ⟨rfl, HN⟩
        · obtain ⟨k, rfl⟩ : ∃ k : Nat, x = (k : Int) := ⟨x.toNat, by omega⟩
          have hk : k < u.ts.length := by omega
          obtain ⟨b4, o4, u2, s2, rfl, hb4, hu2, hum2, hus2, d1', d2', d3'⟩ := HU.out.get hk
          have d1 := (HB.out.cell (p := ⟨b4, _, none⟩) hb4).trans d1'
          have d2 := (HB.out.cell (p := ⟨b4, _, none⟩) hb4).trans d2'
          have d3 := (HB.out.cell (p := ⟨b4, _, none⟩) hb4).trans d3'
          clear d1' d2' d3'
          obtain ⟨ou2, cu2, rfl, -⟩ := hus2.form
          have HU2 := Lib.hid hu2
          have HM2 := Lib.hid hum2
          have HS2 := Lib.hid hus2
          clear hu2 hum2 hus2
          go_wp2_with fail
          refine ⟨⟨j + 1, u2, ou2, cu2, by omega, by go_num, by have := Tm.bulk_mem HM2.out; have := Tm.bulk_eq u; omega, Lib.hid (box3_set HT.out _ _ _), Lib.hid ((heap_set3 _ _ _ _ _ _ (by omega)).trans HR.out), HS2, Lib.hid ?_, Lib.hid (below_set3 HB.out (by omega) _ _ _)⟩, by simp only [intOf]; omega⟩
          rw [HA.out, HDR.out]
          simp only [Tm.at, Tm.kid, if_pos (show (0 : Int) ≤ (k : Int) by omega), Int.toNat_natCast, HU2.out]
    · have hd : l.drop j = [] := List.drop_eq_nil_of_le (by omega)
      have HD : Hid (t.at l = some u) := Lib.hid (by rw [HA.out, hd]; rfl)
      clear hd
      go_wp2_with fail
      obtain ⟨⟨q0, q1, q2⟩, -⟩ := box3 (box3_set HR.out (.string u.nm) (.bool u.vr) (.slice ou u.ts.length cu))
      refine bodyPost_ret (v := .tuple #[tmv u (.slice ou u.ts.length cu), .bool true]) (by simp [results, Try.f13, go_sem, q0, q1, q2]) rfl ?_
      exact ⟨.inl ⟨u, _, rfl, HD.out, HU.out⟩, below_set3 HB.out (by omega) _ _ _⟩
/-- the reference's At, said in one way -/
theorem rAt_uni (t : Tm) (s : Value) (l : List Int) (v : Value) (w : World) (hs : SlIs w.heap.size w t.ts s) (hl : PosIs w.heap.size w l v) (hll : l.length ≤ 1048576) (hb : t.bulk ≤ 1048576) :
    Calls Try.prog 13 #[tmv t s, v] w fun e w' => (∃ (r : Tm) (o : Option Addr) (n k : Nat) (b : Bool), e = .returned (.tuple #[.agg #[.string r.nm, .bool r.vr, .slice o n k], .bool b]) ∧ SlIs w'.heap.size w' r.ts (.slice o n k) ∧ (b = true → t.at l = some r) ∧ (b = false → t.at l = none)) ∧ Below w.heap.size w w' := by
  refine (rAt_any t s l v w hs hl hll hb).mono ?_
  rintro e w' ⟨⟨u, su, rfl, h1, h2⟩ | ⟨rfl, h1⟩, hb⟩
  · obtain ⟨o, n, rfl, -⟩ := h2.form
    exact ⟨⟨u, o, _, n, true, rfl, h2.carry hb hb.size, fun _ => h1, nofun⟩, hb⟩
  · exact ⟨⟨.mk ⟨#[]⟩ false [], none, 0, 0, false, rfl, .nil0, nofun, fun _ => h1⟩, hb⟩
end Go.Proofs.Ytnhldpfbmccpfaa
