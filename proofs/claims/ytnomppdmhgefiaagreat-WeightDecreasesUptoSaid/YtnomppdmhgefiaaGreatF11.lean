/- Packed: Rpt. -/
import Derived.Test.YtnomppdmhgefiaaGreatF07
import Derived.Test.YtnomppdmhgefiaaGreatF04
import Derived.Test.YtnomppdmhgefiaaGreatF09
import Derived.WalkKit
import Derived.ProofKit
import Derived.OpenShut
import Derived.Handy
import Derived.Lib.Hide
import Derived.Lib.AppendIntMem
import Derived.Deep.RegionHeld3
import Derived.Test.YtnomppdmhgefiaaGreatF06
/- Merged: Rfa, Rpt. -/
/- At of the reference. -/
namespace Go.Proofs.YtnomppdmhgefiaaGreat
open Go.RowKit Go.Shelf Go.Maps

set_option maxRecDepth 100000 in
set_option maxHeartbeats 1000000 in
theorem rAt_n (z : Nat × Nat × Nat) (t : Tm) (s : Value) (l : List Int) (v : Value) (w : World) (hs : SlN z w.heap.size w t.ts s) (hl : PosIs w.heap.size w l v) (hll : l.length ≤ 1048576) (hb : t.size ≤ 1048576) :
    Calls Tryz.prog 17 #[tmv t s, v] w fun e w' => ((∃ u su, e = .returned (.tuple #[tmv u su, .bool true]) ∧ t.at l = some u ∧ SlN z w.heap.size w u.ts su) ∨ (e = .returned (.tuple #[.agg #[.string ⟨#[]⟩, .bool false, .slice none 0 0], .bool false]) ∧ t.at l = none)) ∧ Below w.heap.size w w' := by
  obtain ⟨oa, cap, rfl, -⟩ := hs.form
  obtain ⟨ov, cv, rfl, hp⟩ := hl.form
  have HS := Lib.hid hs
  have HP := Lib.hid hp
  clear hs hl hp
  rw [show tmv t (.slice oa t.ts.length cap) = .agg #[.string t.nm, .bool t.vr, .slice oa t.ts.length cap] from rfl]
  go_enter Tryz.func17, Tryz.ntmps17
  go_wp2_with fail
  go_loopw [10] (fun i wr => ∃ (j : Nat) (u : Tm) (ou : Option Addr) (cu : Nat), j ≤ l.length ∧ i = .int .i64 j ∧ u.size ≤ 1048576 ∧ Hid (wr.heap[w.heap.size]? = some (.cells #[.string u.nm, .bool u.vr, .slice ou u.ts.length cu] 25 (0, 0))) ∧
      Hid (wr.heap[w.heap.size + 1]? = some (.cells #[.string ⟨#[]⟩, .bool false, .slice none 0 0] 25 (0, 0))) ∧ Hid (SlN z w.heap.size w u.ts (.slice ou u.ts.length cu)) ∧ Hid (t.at l = u.at (l.drop j)) ∧ Hid (Below w.heap.size w wr)) (fun i _ => l.length - (intOf i).toNat)
  case atStart => exact ⟨0, t, oa, cap, by omega, rfl, hb, Lib.hid ((Below.heap_alloc _ _ _ (by simp)).trans (heap_new_at _ _ _ rfl)), Lib.hid (heap_new_at _ _ _ (by simp)), HS, Lib.hid (by simp), Lib.hid (by go_grown)⟩
  case round =>
    obtain ⟨j, u, ou, cu, hj, rfl, hub, HT, HR, HU, HA, HB⟩ := hrel
    obtain ⟨⟨t0, t1, t2⟩, g0, g1, g2⟩ := box3 HT.out
    obtain ⟨⟨r0, r1, r2⟩, f0, f1, f2⟩ := box3 HR.out
    by_cases hlt : j < l.length
    · obtain ⟨x, hx⟩ : ∃ x, l[j]? = some x := ⟨_, List.getElem?_eq_getElem hlt⟩
      have hne : l ≠ [] := by rintro rfl; simp at hlt
      obtain ⟨b3, o3, rfl, hb3, hc3⟩ := HP.out hne
      have hcx := (HB.out.cell (p := ⟨b3, o3 + j, none⟩) hb3).trans (hc3 j x hx)
      have hsz := Tm.size_bulk u
      have hls := Tm.length_sizes u.ts
      have hse := Tm.size_eq u
      have hul : u.ts.length ≤ 1048576 := by omega
      have HDR : Hid (l.drop j = x :: l.drop (j + 1)) := Lib.hid (by rw [List.drop_eq_getElem_cons hlt]; rw [List.getElem?_eq_getElem hlt] at hx; cases hx; rfl)
      clear hx hc3 hsz hls hse
      by_cases hneg : x < 0
      · go_wp2_with fail
        obtain ⟨⟨q0, q1, q2⟩, -⟩ := box3 (box3_set HR.out (.string ⟨#[]⟩) (.bool false) (.slice none 0 0))
        refine bodyPost_ret (v := .tuple #[.agg #[.string ⟨#[]⟩, .bool false, .slice none 0 0], .bool false]) (by simp [results, Tryz.f17, go_sem, q0, q1, q2]) rfl ?_
        refine ⟨.inr ?_, below_set3 HB.out (by omega) _ _ _⟩
        have HN : t.at l = none := by rw [HA.out, HDR.out]; simp only [Tm.at, Tm.kid, if_neg (show ¬ (0 ≤ x) by omega)]
        exact ⟨rfl, HN⟩
      · by_cases hge : (u.ts.length : Int) ≤ x
        · go_wp2_with fail
          obtain ⟨⟨q0, q1, q2⟩, -⟩ := box3 (box3_set HR.out (.string ⟨#[]⟩) (.bool false) (.slice none 0 0))
          refine bodyPost_ret (v := .tuple #[.agg #[.string ⟨#[]⟩, .bool false, .slice none 0 0], .bool false]) (by simp [results, Tryz.f17, go_sem, q0, q1, q2]) rfl ?_
          refine ⟨.inr ?_, below_set3 HB.out (by omega) _ _ _⟩
          have HN : t.at l = none := by rw [HA.out, HDR.out]; simp only [Tm.at, Tm.kid, if_pos (show (0 ≤ x) by omega), List.getElem?_eq_none (show u.ts.length ≤ x.toNat by omega)]
          exact ⟨rfl, HN⟩
        · obtain ⟨k, rfl⟩ : ∃ k : Nat, x = (k : Int) := ⟨x.toNat, by omega⟩
          have hk : k < u.ts.length := by omega
          obtain ⟨b4, o4, u2, s2, rfl, hb4, hu2, hum2, hus2, d1', d2', d3'⟩ := HU.out.get hk
          have d1 := (HB.out.cell (p := ⟨b4, _, none⟩) hb4).trans d1'
          have d2 := (HB.out.cell (p := ⟨b4, _, none⟩) hb4).trans d2'
          have d3 := (HB.out.cell (p := ⟨b4, _, none⟩) hb4).trans d3'
          clear d1' d2' d3'
          obtain ⟨ou2, cu2, rfl, -⟩ := hus2.form
          have HU2 := Lib.hid hu2
          have HM2 := Lib.hid hum2
          have HS2 := Lib.hid hus2
          clear hu2 hum2 hus2
          go_wp2_with fail
          refine ⟨⟨j + 1, u2, ou2, cu2, by omega, by go_num, by have := Tm.size_mem HM2.out; have := Tm.size_eq u; omega, Lib.hid (box3_set HT.out _ _ _), Lib.hid ((heap_set3 _ _ _ _ _ _ (by omega)).trans HR.out), HS2, Lib.hid ?_, Lib.hid (below_set3 HB.out (by omega) _ _ _)⟩, by simp only [intOf]; omega⟩
          rw [HA.out, HDR.out]
          simp only [Tm.at, Tm.kid, if_pos (show (0 : Int) ≤ (k : Int) by omega), Int.toNat_natCast, HU2.out]
    · have hd : l.drop j = [] := List.drop_eq_nil_of_le (by omega)
      have HD : Hid (t.at l = some u) := Lib.hid (by rw [HA.out, hd]; rfl)
      clear hd
      go_wp2_with fail
      obtain ⟨⟨q0, q1, q2⟩, -⟩ := box3 (box3_set HR.out (.string u.nm) (.bool u.vr) (.slice ou u.ts.length cu))
      refine bodyPost_ret (v := .tuple #[tmv u (.slice ou u.ts.length cu), .bool true]) (by simp [results, Tryz.f17, go_sem, q0, q1, q2]) rfl ?_
      exact ⟨.inl ⟨u, _, rfl, HD.out, HU.out⟩, below_set3 HB.out (by omega) _ _ _⟩
end Go.Proofs.YtnomppdmhgefiaaGreat
/- The reference's Put. -/
namespace Go.Proofs.YtnomppdmhgefiaaGreat
open Go.RowKit Go.Maps

theorem pfar3 (W : World) (g i j m : Nat) (a b c : Value) (p : Addr) (h : p.block ≠ g) : (((W.setCell ⟨g, i, none⟩ a).setCell ⟨g, j, none⟩ b).setCell ⟨g, m, none⟩ c).cell? p = W.cell? p := by
  rw [World.cell?_setCell_far _ _ _ _ (fun e => h e.symm), World.cell?_setCell_far _ _ _ _ (fun e => h e.symm), World.cell?_setCell_far _ _ _ _ (fun e => h e.symm)]
theorem pfar3h (W : World) (g i j m : Nat) (a b c : Value) (k : Nat) (h : k ≠ g) : (((W.setCell ⟨g, i, none⟩ a).setCell ⟨g, j, none⟩ b).setCell ⟨g, m, none⟩ c).heap[k]? = W.heap[k]? := by
  rw [Below.heap_setCell _ _ _ _ h, Below.heap_setCell _ _ _ _ h, Below.heap_setCell _ _ _ _ h]
theorem pcell_next {A B : World} {p : Addr} {v : Value} (hb : Below A.heap.size A B) (h : A.cell? p = some v) : B.cell? p = some v := (hb.cell (World.block_lt_of_cell? A _ h)).trans h
theorem stCells_len (st : List (Tm × Value)) : (stCells st).length = st.length * 3 := stCells_length st
/-- the terms of a slice and their arguments, cell by cell -/
theorem SlP.rows {p : Nat → Prop} {W : World} {l : List Tm} {oa : Option Addr} {n cap : Nat} (h : SlP p W l (.slice oa n cap)) (hne : l ≠ []) :
    ∃ b o ch, oa = some ⟨b, o, none⟩ ∧ p b ∧ ch.map (·.1) = l ∧ (∀ j u, (stCells ch)[j]? = some u → W.cell? ⟨b, o + j, none⟩ = some u) ∧ (∀ c ∈ ch, SlP p W c.1.ts c.2) ∧ ∀ u ∈ stCells ch, u.oneCell' = true := by
  cases h with
  | nil0 => exact absurd rfl hne
  | nil1 => exact absurd rfl hne
  | row b o cap l s hl hb hc cells hk hf =>
    obtain ⟨ch, hch, hcl⟩ : ∃ ch : List (Tm × Value), ch.map (·.1) = l ∧ ∀ i c, ch[i]? = some c → l[i]? = some c.1 ∧ c.2 = s i := by
      refine ⟨l.zipIdx.map fun q => (q.1, s q.2), ?_, fun i c h => ?_⟩
      · rw [List.map_map]
        show l.zipIdx.map (fun q => q.1) = l
        exact List.zipIdx_map_fst 0 l
      · rw [List.getElem?_map, List.getElem?_zipIdx] at h
        cases hi : l[i]? with
        | none => rw [hi] at h; cases h
        | some t => rw [hi] at h; cases h; exact ⟨rfl, by simp⟩
    have hcs : ∀ c ∈ ch, SlP p W c.1.ts c.2 := fun c hcm => by
      obtain ⟨i, hi, rfl⟩ := List.getElem_of_mem hcm
      obtain ⟨h1, h2⟩ := hcl i _ (List.getElem?_eq_getElem hi)
      rw [h2]; exact hk i _ h1
    refine ⟨b, o, ch, rfl, hb, hch, fun j u hj => ?_, hcs, fun u hu => ?_⟩
    · have hjl : j < ch.length * 3 := by rw [← stCells_len]; exact (List.getElem?_eq_some_iff.1 hj).1
      obtain ⟨c, hci⟩ : ∃ c, ch[j / 3]? = some c := ⟨_, List.getElem?_eq_getElem (by omega)⟩
      obtain ⟨h1, h2, h3⟩ := stCells_at ch (j / 3) c hci
      obtain ⟨g1, g2⟩ := hcl _ _ hci
      obtain ⟨c1, c2, c3⟩ := cells _ _ g1
      have hj3 : j = j / 3 * 3 ∨ j = j / 3 * 3 + 1 ∨ j = j / 3 * 3 + 2 := by omega
      rcases hj3 with e | e | e
      · rw [e] at hj ⊢; rw [h1] at hj; cases hj; exact c1
      · rw [e] at hj ⊢; rw [h2] at hj; cases hj; rw [← Nat.add_assoc]; exact c2
      · rw [e] at hj ⊢; rw [h3] at hj; cases hj; rw [← Nat.add_assoc, g2]; exact c3
    · unfold stCells at hu
      obtain ⟨c, hc, hu⟩ := List.mem_flatMap.1 hu
      simp only [List.mem_cons, List.not_mem_nil, or_false] at hu
      rcases hu with rfl | rfl | rfl
      · rfl
      · rfl
      · obtain ⟨oa, ca, e⟩ := (hcs c hc).form
        rw [e]; rfl
/-- a row of cells with spare room behind it, as terms -/
theorem SlP.ofTaken {e : TypeId} {W : World} {p : Nat → Prop} {g cap : Nat} {ch : List (Tm × Value)} {cur : Array Value} (hne : ch ≠ []) (hg : W.heap[g]? = some (.cells cur e (0, 0))) (hgn : p g) (hcap : ch.length ≤ cap) (hc : cur.toList.take (ch.length * 3) = stCells ch)
    (hk : ∀ c ∈ ch, SlP p W c.1.ts c.2) : SlP p W (ch.map (·.1)) (.slice (some ⟨g, 0, none⟩) ch.length cap) := by
  have hlen : (ch.map (·.1)).length = ch.length := by simp
  have hcell : ∀ j, j < ch.length * 3 → W.cell? ⟨g, j, none⟩ = (stCells ch)[j]? := fun j hj => by
    unfold World.cell?
    simp only [hg]
    rw [← hc, List.getElem?_take_of_lt hj, Array.getElem?_toList]; rfl
  have hch : ∀ i t, (ch.map (·.1))[i]? = some t → ∃ c : Tm × Value, ch[i]? = some c ∧ c.1 = t := fun i t ht => by rw [List.getElem?_map, Option.map_eq_some_iff] at ht; exact ht
  have key := SlP.row (p := p) (W := W) g 0 cap (ch.map (·.1)) (fun i => ((ch[i]?).map (·.2)).getD (.bool false)) (by simpa using hne) hgn (by simpa using hcap)
    (fun i t ht => by
      obtain ⟨c, hci, rfl⟩ := hch i t ht
      have hil := (List.getElem?_eq_some_iff.1 hci).1
      obtain ⟨h1, h2, h3⟩ := stCells_at ch i c hci
      simp only [Nat.zero_add, hcell (i * 3) (by omega), hcell (i * 3 + 1) (by omega), hcell (i * 3 + 2) (by omega), hci, Option.map_some, Option.getD_some]
      exact ⟨h1, h2, h3⟩)
    (fun i t ht => by
      obtain ⟨c, hci, rfl⟩ := hch i t ht
      simp only [hci, Option.map_some, Option.getD_some]
      exact hk c (List.mem_of_getElem? hci))
    (fun i _ => by unfold World.frozen?; simp [hg])
  rw [hlen] at key
  exact key
theorem stCells_set (ch : List (Tm × Value)) (k : Nat) (c d : Tm × Value) (h : ch[k]? = some c) : (((stCells ch).set (k * 3) (.string d.1.nm)).set (k * 3 + 1) (.bool d.1.vr)).set (k * 3 + 2) d.2 = stCells (ch.set k d) := by
  have hlt := (List.getElem?_eq_some_iff.1 h).1
  have e : ch = ch.take k ++ c :: ch.drop (k + 1) := by
    have h1 := List.take_append_drop k ch
    rw [List.drop_eq_getElem_cons hlt] at h1
    have h2 := (List.getElem?_eq_some_iff.1 h).2
    rw [h2] at h1
    exact h1.symm
  have hl : (stCells (ch.take k)).length = k * 3 := by rw [stCells_len, List.length_take, Nat.min_eq_left (by omega)]
  have e2 : ch.set k d = ch.take k ++ d :: ch.drop (k + 1) := by rw [List.set_eq_take_append_cons_drop, if_pos hlt]
  rw [e2]
  conv => lhs; rw [e]
  rw [stCells_append, stCells_append]
  show ((((stCells (ch.take k)) ++ (.string c.1.nm) :: (.bool c.1.vr) :: c.2 :: stCells (ch.drop (k + 1))).set (k * 3) _).set (k * 3 + 1) _).set (k * 3 + 2) _ = stCells (ch.take k) ++ (.string d.1.nm) :: (.bool d.1.vr) :: d.2 :: stCells (ch.drop (k + 1))
  exact set3_list _ _ _ _ _ _ _ _ _ hl

set_option maxRecDepth 100000 in
set_option maxHeartbeats 4000000 in
theorem rPut_sz (n₀ : Nat) (l : List Int) : ∀ (p : Nat → Prop) (t : Tm) (s : Value) (v : Value) (u : Tm) (su : Value) (w : World), n₀ ≤ w.heap.size → (∀ b, p b → b < w.heap.size) → SlP p w t.ts s → t.bare → PosIs n₀ w l v → (∀ oa m c, v = .slice oa m c → m ≤ c) → SlP p w u.ts su → (t.at l).isSome → l.length ≤ 1048576 → t.size ≤ 1048576 →
    Calls Tryz.prog 19 #[tmv t s, v, tmv u su] w fun e w' => (∃ sr, e = .returned (tmv (t.put l u) sr) ∧ SlP (fun b => (p b ∨ w.heap.size ≤ b) ∧ b < w'.heap.size) w' (t.put l u).ts sr) ∧ Below w.heap.size w w' := by
  induction l with
  | nil =>
    intro p t s v u su w hn hp0 hs hbare hl hcap hu hat hll hb
    obtain ⟨oa, cap, rfl⟩ := hs.form
    obtain ⟨ov, cv, rfl, hp⟩ := hl.form
    obtain ⟨ou, cu, rfl⟩ := hu.form
    have HU := Lib.hid hu
    clear hs hl hu hp hcap
    go_enter Tryz.func19, Tryz.ntmps19
    rw [show tmv t (.slice oa t.ts.length cap) = .agg #[.string t.nm, .bool t.vr, .slice oa t.ts.length cap] from rfl, show tmv u (.slice ou u.ts.length cu) = .agg #[.string u.nm, .bool u.vr, .slice ou u.ts.length cu] from rfl]
    go_wp2_with fail
    have hbx : Below w.heap.size w (((w.alloc (.cells #[.string t.nm, .bool t.vr, .slice oa t.ts.length cap] 25)).alloc (.cells #[.string u.nm, .bool u.vr, .slice ou u.ts.length cu] 25)).alloc (.cells #[.string u.nm, .bool u.vr, .slice ou u.ts.length cu] 25)) := by go_grown
    obtain ⟨⟨q0, q1, q2⟩, -⟩ := box3 (heap_new_at ((w.alloc (.cells #[.string t.nm, .bool t.vr, .slice oa t.ts.length cap] 25)).alloc (.cells #[.string u.nm, .bool u.vr, .slice ou u.ts.length cu] 25)) (.cells #[.string u.nm, .bool u.vr, .slice ou u.ts.length cu] 25) (w.heap.size + 1 + 1) (by simp))
    refine bodyPost_ret (v := tmv u (.slice ou u.ts.length cu)) (by simp [results, Tryz.f19, go_sem, q0, q1, q2]) rfl ?_
    exact ⟨⟨_, rfl, HU.out.carry fun b hb => ⟨hbx.block b (hp0 b hb), .inl hb, by have := hp0 b hb; have := hbx.size; omega⟩⟩, hbx⟩
  | cons i l ih =>
    intro p t s v u su w hn hp0 hs hbare hl hcap hu hat hll hb
    obtain ⟨oa, cap, rfl⟩ := hs.form
    obtain ⟨ov, cv, rfl, hp⟩ := hl.form
    obtain ⟨ou, cu, rfl⟩ := hu.form
    have HU := Lib.hid hu
    have HP := Lib.hid hp
    have IH := Lib.hid ih
    have HP0 := Lib.hid hp0
    have HBARE := Lib.hid hbare
    have hcv := hcap _ _ _ rfl
    simp only [List.length_cons] at hcv
    clear hu hp hl ih hcap hp0
    obtain ⟨b3, o3, rfl, hb3, hc3⟩ := HP.out (by simp)
    have hi0 := hc3 0 i rfl
    obtain ⟨x, hkid, hxs⟩ : ∃ x, t.kid i = some x ∧ (x.at l).isSome := by
      simp only [Tm.at] at hat
      split at hat
      · rename_i x hx; exact ⟨x, hx, hat⟩
      · cases hat
    have hik : ∃ k : Nat, i = (k : Int) ∧ t.ts[k]? = some x := by
      unfold Tm.kid at hkid
      split at hkid
      · exact ⟨i.toNat, by omega, hkid⟩
      · cases hkid
    obtain ⟨k, rfl, hk⟩ := hik
    have hkl : k < t.ts.length := (List.getElem?_eq_some_iff.1 hk).1
    have hne : t.ts ≠ [] := by intro e; rw [e] at hkl; simp at hkl
    have hv : t.vr = false := by
      cases hv : t.vr with
      | false => rfl
      | true => exact absurd (hbare.vr0 hv) hne
    obtain ⟨bt, ot, ch, rfl, hpb, hch, hcc, hcs, h1c⟩ := hs.rows hne
    have hcl : ch.length = t.ts.length := by rw [← hch, List.length_map]
    have hsz := Tm.size_bulk t
    have hls := Tm.length_sizes t.ts
    have hse := Tm.size_eq t
    have htl : t.ts.length ≤ 1048576 := by omega
    have hbt := HP0.out bt hpb
    have HKID := Lib.hid hkid
    have HXS := Lib.hid hxs
    have HK := Lib.hid hk
    have HC3 := Lib.hid hc3
    have HCH := Lib.hid hch
    have HCC := Lib.hid hcc
    have HCS := Lib.hid hcs
    have H1C := Lib.hid h1c
    have HCL := Lib.hid hcl
    have HV := Lib.hid hv
    obtain ⟨i0, hi, hz, hs1, hb1⟩ := info_parts infoTerm
    have HI := Lib.hid hi
    have HZ := Lib.hid hz
    have HS1 := Lib.hid hs1
    have HB1 := Lib.hid hb1
    clear hsz hls hse hkid hxs hk hc3 hat hch hcc hcs h1c hcl hv hs hbare hi hz hs1 hb1 hne
    rw [show tmv t (.slice (some ⟨bt, ot, none⟩) t.ts.length cap) = .agg #[.string t.nm, .bool t.vr, .slice (some ⟨bt, ot, none⟩) t.ts.length cap] from rfl, show tmv u (.slice ou u.ts.length cu) = .agg #[.string u.nm, .bool u.vr, .slice ou u.ts.length cu] from rfl]
    have HG0 : Hid (Below w.heap.size w ((((w.alloc (.cells #[.string t.nm, .bool t.vr, .slice (some ⟨bt, ot, none⟩) t.ts.length cap] 25)).alloc (.cells #[.string u.nm, .bool u.vr, .slice ou u.ts.length cu] 25)).alloc (.cells #[.string ⟨#[]⟩, .bool false, .slice none 0 0] 25)).alloc (.cells #[] 25))) := Lib.hid (by go_grown)
    go_enter Tryz.func19, Tryz.ntmps19
    go_wp2_with ((first
      | (at_builtin
         refine wpList_append_own_at _ rfl _ _ 23 rfl (w.heap.size + 3) 25 i0 (.agg #[.string ⟨#[]⟩, .bool false, .slice none 0 0]) 3 48 Tryz.underlying23 HI.out HZ.out HS1.out HB1.out rfl (by decide) (.slice (some ⟨w.heap.size + 3, 0, none⟩) 0 0) 0 [] rfl ⟨by simp, .inr ⟨w.heap.size + 3, 0, #[], rfl, Nat.le_refl _, heap_new_at _ _ _ (by simp), Nat.le_refl _, by simp, by simp, by simp⟩⟩ ⟨bt, ot, none⟩ t.ts.length cap (stCells ch) rfl (by rw [stCells_len, HCL.out]) (fun j x hj => by rw [ad_add]; exact (HG0.out.cell (p := ⟨bt, _, none⟩) hbt).trans (HCC.out j x hj)) H1C.out (by unfold maxLen; omega) (by omega) (by simp) ?_
         intro v1 w1 hown1 hgr1 _ hat1
         obtain ⟨g, cg, cur, rfl, hbg, hgc, hcg, hcm, hcsz, hcur⟩ : ∃ g cg cur, v1 = .slice (some ⟨g, 0, none⟩) t.ts.length cg ∧ w.heap.size + 3 ≤ g ∧ w1.heap[g]? = some (.cells cur 25 (0, 0)) ∧ t.ts.length ≤ cg ∧ cg ≤ maxLen ∧ cur.size = cg * 3 ∧ cur.toList.take (t.ts.length * 3) = stCells ch := by
           rcases hown1.2 with ⟨-, h⟩ | ⟨g, cg, cur, e, h1, h2, h3, h4, h5, h6⟩
           · omega
           · simp only [Nat.zero_add, List.nil_append] at e h3 h6
             exact ⟨g, cg, cur, e, h1, h2, h3, h4, h5, h6⟩
         have hbl1 : Below (w.heap.size + 3) ((((w.alloc (.cells #[.string t.nm, .bool t.vr, .slice (some ⟨bt, ot, none⟩) t.ts.length cap] 25)).alloc (.cells #[.string u.nm, .bool u.vr, .slice ou u.ts.length cu] 25)).alloc (.cells #[.string ⟨#[]⟩, .bool false, .slice none 0 0] 25)).alloc (.cells #[] 25)) w1 := (Below.refl _ _).grown hgr1 (by simp) (fun j hj => by cases hj; exact Nat.le_refl _)
         have ht := (hbl1.block w.heap.size (by omega)).trans ((Below.heap_alloc _ _ _ (by simp <;> omega)).trans ((Below.heap_alloc _ _ _ (by simp <;> omega)).trans ((Below.heap_alloc _ _ _ (by simp <;> omega)).trans (heap_new_at w (.cells #[.string t.nm, .bool t.vr, .slice (some ⟨bt, ot, none⟩) t.ts.length cap] 25) _ rfl))))
         have hx := (hbl1.block (w.heap.size + 1) (by omega)).trans ((Below.heap_alloc _ _ _ (by simp <;> omega)).trans ((Below.heap_alloc _ _ _ (by simp <;> omega)).trans (heap_new_at _ (.cells #[.string u.nm, .bool u.vr, .slice ou u.ts.length cu] 25) _ (by simp <;> omega))))
         have hr := (hbl1.block (w.heap.size + 2) (by omega)).trans ((Below.heap_alloc _ _ _ (by simp <;> omega)).trans (heap_new_at _ (.cells #[.string ⟨#[]⟩, .bool false, .slice none 0 0] 25) _ (by simp <;> omega)))
         have HW1 := Lib.hid (HG0.out.trans (hbl1.mono (by omega)))
         have HT := Lib.hid ht
         have HX := Lib.hid hx
         have HR := Lib.hid hr
         have HG := Lib.hid hgc
         have HCUR := Lib.hid hcur
         clear hown1 hgr1 hat1 hbl1 ht hx hr hgc hcur hcm hcsz)))
    have hb2 : Below w.heap.size w w1.drew := HW1.out.drew
    have p0 : w1.drew.cell? ⟨b3, o3, none⟩ = some (.int .i64 k) := (hb2.cell (p := ⟨b3, _, none⟩) (by show b3 < _; omega)).trans hi0
    obtain ⟨⟨x0, x1, x2⟩, -⟩ := box3 HX.out
    have HS0 : Hid (w1.drew.cell? ⟨b3, o3, none⟩ = some (.int .i64 k) ∧ w1.drew.cell? ⟨w.heap.size + 1, 0, none⟩ = some (.string u.nm) ∧ w1.drew.cell? ⟨w.heap.size + 1, 1, none⟩ = some (.bool u.vr) ∧ w1.drew.cell? ⟨w.heap.size + 1, 2, none⟩ = some (.slice ou u.ts.length cu)) := Lib.hid ⟨p0, x0, x1, x2⟩
    obtain ⟨⟨x', sx⟩, hcx⟩ : ∃ c, ch[k]? = some c := ⟨_, List.getElem?_eq_getElem (by rw [HCL.out]; exact hkl)⟩
    obtain rfl : x' = x := by
      have h1 := HK.out
      rw [← HCH.out, List.getElem?_map, hcx] at h1
      exact Option.some.inj h1
    have hsx := HCS.out _ (List.mem_of_getElem? hcx)
    simp only at hsx
    obtain ⟨ox, cx, rfl⟩ := hsx.form
    have hch3 := stCells_at ch k _ hcx
    have hcj : ∀ j, j < t.ts.length * 3 → w1.drew.cell? ⟨g, j, none⟩ = (stCells ch)[j]? := fun j hj => by
      rw [show w1.drew.cell? ⟨g, j, none⟩ = w1.cell? ⟨g, j, none⟩ from rfl, cells_of' HG.out, ← HCUR.out, List.getElem?_take_of_lt hj, Array.getElem?_toList]
    have y0 := (hcj (k * 3) (by omega)).trans hch3.1
    have y1 := (hcj (k * 3 + 1) (by omega)).trans hch3.2.1
    have y2 := (hcj (k * 3 + 2) (by omega)).trans hch3.2.2
    simp only at y0 y1 y2
    have HCALL := Lib.hid (IH.out p x' (.slice ox x'.ts.length cx) (.slice (if cv = 1 then some ⟨b3, o3, none⟩ else some ⟨b3, o3 + 1, none⟩) l.length (cv - 1)) u (.slice ou u.ts.length cu) w1.drew (Nat.le_trans hn hb2.size) (fun b hb => Nat.lt_of_lt_of_le (HP0.out b hb) hb2.size) (hsx.carry fun b hb => ⟨hb2.block b (HP0.out b hb), hb⟩) (HBARE.out.kids x' (List.mem_of_getElem? HK.out))
      ⟨_, _, rfl, fun hln => ⟨b3, o3 + 1, if_neg (by have : 0 < l.length := List.length_pos_iff.2 hln; omega), hb3, fun j y hy => (hb2.cell (p := ⟨b3, _, none⟩) (by show b3 < _; omega)).trans (by rw [show o3 + 1 + j = o3 + (j + 1) by omega]; exact HC3.out (j + 1) y (by simpa using hy))⟩⟩
      (fun oa m c e => by simp only [Value.slice.injEq] at e; omega) (HU.out.carry fun b hb => ⟨hb2.block b (HP0.out b hb), hb⟩) HXS.out (by simp at hll; omega) (by have := Tm.size_mem (List.mem_of_getElem? HK.out); have := Tm.size_eq t; omega))
    have HCX := Lib.hid hcx
    have HCC2 := Lib.hid (show cur[k * 3]? = some (.string x'.nm) ∧ cur[k * 3 + 1]? = some (.bool x'.vr) ∧ cur[k * 3 + 2]? = some (.slice ox x'.ts.length cx) from ⟨(cells_of' HG.out _).symm.trans y0, (cells_of' HG.out _).symm.trans y1, (cells_of' HG.out _).symm.trans y2⟩)
    have hgz := (Array.getElem?_eq_some_iff.1 HG.out).1
    clear hcj hch3 hsx hcx p0 x0 x1 x2 hb2 HCC HC3
    have h1l : (1 : Int) ≤ (l.length : Int) + 1 := by omega
    refine wp_region_noPanic ?_
    refine wp_region_held_drew (S := fun w' => w'.cell? ⟨b3, o3, none⟩ = some (.int .i64 k) ∧ w'.cell? ⟨w.heap.size + 1, 0, none⟩ = some (.string u.nm) ∧ w'.cell? ⟨w.heap.size + 1, 1, none⟩ = some (.bool u.vr) ∧ w'.cell? ⟨w.heap.size + 1, 2, none⟩ = some (.slice ou u.ts.length cu)) (by kernel_rfl) HS0.out (fun _ => ?_)
    simp only [List.size_toArray, List.length_cons, List.length_nil, Nat.reduceAdd]
    refine wpAnyH_take (i := 0) (v := ?_) (by simp only [List.getElem?_toArray, List.getElem?_cons_zero]; rfl) (by kernel_rfl) (by kernel_rfl) (by kernel_rfl) (fun _ _ _ h => h) (Or.inl ⟨by rfl, ?_⟩) HS0.out ?_
    case refine_2 => (intro ww hSw; obtain ⟨s1, s2, s3, s4⟩ := hSw; go_simp; try with_reducible rfl)
    try simp only [Act.put, List.setIfInBounds_toArray, List.set_cons_zero, List.set_cons_succ]
    refine wpAnyH_take (i := 1) (v := ?_) (by simp only [List.getElem?_toArray, List.getElem?_cons_zero, List.getElem?_cons_succ]; rfl) (by kernel_rfl) (by kernel_rfl) (by kernel_rfl) (fun _ _ _ h => h) (Or.inl ⟨by rfl, ?_⟩) HS0.out ?_
    case refine_2 => (intro ww hSw; obtain ⟨s1, s2, s3, s4⟩ := hSw; go_simp; try with_reducible rfl)
    try simp only [Act.put, List.setIfInBounds_toArray, List.set_cons_zero, List.set_cons_succ]
    refine wpAnyH_take (i := 2) (v := ?_) (by simp only [List.getElem?_toArray, List.getElem?_cons_zero, List.getElem?_cons_succ]; rfl) (by kernel_rfl) (by kernel_rfl) (by kernel_rfl) (fun _ _ _ h => h) (Or.inl ⟨by rfl, ?_⟩) HS0.out ?_
    case refine_2 => (intro ww hSw; obtain ⟨s1, s2, s3, s4⟩ := hSw; go_simp; try with_reducible rfl)
    try simp only [Act.put, List.setIfInBounds_toArray, List.set_cons_zero, List.set_cons_succ]
    refine wpAnyH_take (i := 3) (v := ?_) (by simp only [List.getElem?_toArray, List.getElem?_cons_zero, List.getElem?_cons_succ]; rfl) (by kernel_rfl) (by kernel_rfl) (by kernel_rfl) (fun _ _ _ h => h) (Or.inl ⟨by rfl, ?_⟩) HS0.out ?_
    case refine_2 => (intro ww hSw; obtain ⟨s1, s2, s3, s4⟩ := hSw; go_simp; try with_reducible rfl)
    try simp only [Act.put, List.setIfInBounds_toArray, List.set_cons_zero, List.set_cons_succ]
    refine wpAnyH_take (i := 4) (v := ?_) (by simp only [List.getElem?_toArray, List.getElem?_cons_zero, List.getElem?_cons_succ]; rfl) (by kernel_rfl) (by kernel_rfl) (by kernel_rfl) (fun _ _ _ h => h) (Or.inl ⟨by rfl, ?_⟩) HS0.out ?_
    case refine_2 => (intro ww hSw; obtain ⟨s1, s2, s3, s4⟩ := hSw; go_simp; try with_reducible rfl)
    try simp only [Act.put, List.setIfInBounds_toArray, List.set_cons_zero, List.set_cons_succ]
    refine wpAnyH_take (i := 5) (v := ?_) (by simp only [List.getElem?_toArray, List.getElem?_cons_zero, List.getElem?_cons_succ]; rfl) (by kernel_rfl) (by kernel_rfl) (by kernel_rfl) (fun _ _ _ h => h) (Or.inl ⟨by rfl, ?_⟩) HS0.out ?_
    case refine_2 => (intro ww hSw; obtain ⟨s1, s2, s3, s4⟩ := hSw; go_simp; try with_reducible rfl)
    try simp only [Act.put, List.setIfInBounds_toArray, List.set_cons_zero, List.set_cons_succ]
    refine wpAnyH_take (i := 6) (v := ?_) (by simp only [List.getElem?_toArray, List.getElem?_cons_zero, List.getElem?_cons_succ]; rfl) (by kernel_rfl) (by kernel_rfl) (by kernel_rfl) (fun _ _ _ h => h) (Or.inl ⟨by rfl, ?_⟩) HS0.out ?_
    case refine_2 => (intro ww hSw; obtain ⟨s1, s2, s3, s4⟩ := hSw; go_simp; try with_reducible rfl)
    try simp only [Act.put, List.setIfInBounds_toArray, List.set_cons_zero, List.set_cons_succ]
    refine wpAnyH_take (i := 7) (v := ?_) (by simp only [List.getElem?_toArray, List.getElem?_cons_zero, List.getElem?_cons_succ]; rfl) (by kernel_rfl) (by kernel_rfl) (by kernel_rfl) (fun _ _ _ h => h) (Or.inl ⟨by rfl, ?_⟩) HS0.out ?_
    case refine_2 => (intro ww hSw; obtain ⟨s1, s2, s3, s4⟩ := hSw; go_simp; try with_reducible rfl)
    try simp only [Act.put, List.setIfInBounds_toArray, List.set_cons_zero, List.set_cons_succ]
    refine wpAnyH_take (i := 8) (v := ?_) (by simp only [List.getElem?_toArray, List.getElem?_cons_zero, List.getElem?_cons_succ]; rfl) (by kernel_rfl) (by kernel_rfl) (by kernel_rfl) (fun _ _ _ h => h) (Or.inl ⟨by rfl, ?_⟩) HS0.out ?_
    case refine_2 => (intro ww hSw; obtain ⟨s1, s2, s3, s4⟩ := hSw; go_simp; try with_reducible rfl)
    try simp only [Act.put, List.setIfInBounds_toArray, List.set_cons_zero, List.set_cons_succ]
    refine wpAnyH_take (i := 10) (v := ?_) (by simp only [List.getElem?_toArray, List.getElem?_cons_zero, List.getElem?_cons_succ]; rfl) (by kernel_rfl) (by kernel_rfl) (by kernel_rfl) (fun _ _ _ h => h) (Or.inl ⟨by rfl, ?_⟩) HS0.out ?_
    case refine_2 => (intro ww hSw; obtain ⟨s1, s2, s3, s4⟩ := hSw; go_simp; try with_reducible rfl)
    try simp only [Act.put, List.setIfInBounds_toArray, List.set_cons_zero, List.set_cons_succ]
    refine wpAnyH_take (i := 11) (v := ?_) (by simp only [List.getElem?_toArray, List.getElem?_cons_zero, List.getElem?_cons_succ]; rfl) (by kernel_rfl) (by kernel_rfl) (by kernel_rfl) (fun _ _ _ h => h) (Or.inl ⟨by rfl, ?_⟩) HS0.out ?_
    case refine_2 => (intro ww hSw; obtain ⟨s1, s2, s3, s4⟩ := hSw; go_simp; try with_reducible rfl)
    try simp only [Act.put, List.setIfInBounds_toArray, List.set_cons_zero, List.set_cons_succ]
    refine wpAnyH_take (i := 12) (v := ?_) (by simp only [List.getElem?_toArray, List.getElem?_cons_zero, List.getElem?_cons_succ]; rfl) (by kernel_rfl) (by kernel_rfl) (by kernel_rfl) (fun _ _ _ h => h) (Or.inl ⟨by rfl, ?_⟩) HS0.out ?_
    case refine_2 => (intro ww hSw; obtain ⟨s1, s2, s3, s4⟩ := hSw; go_simp; try with_reducible rfl)
    try simp only [Act.put, List.setIfInBounds_toArray, List.set_cons_zero, List.set_cons_succ]
    refine wpAnyH_ready (rs := [9]) (by kernel_rfl) (by simp) ?_
    refine AllReadyH.cons (by simp only [List.getElem?_toArray, List.getElem?_cons_zero, List.getElem?_cons_succ]; rfl) (fun K' hK => ?_) AllReadyH.nil
    go_simp
    refine hK.out _ _ HS0.out (fun _ => ?_)
    clear hK
    try simp only [Act.put, List.setIfInBounds_toArray, List.set_cons_zero, List.set_cons_succ]
    refine wpAnyH_ready (rs := [13]) (by kernel_rfl) (by simp) ?_
    refine AllReadyH.cons (by simp only [List.getElem?_toArray, List.getElem?_cons_zero, List.getElem?_cons_succ]; rfl) (fun K' hK => ?_) AllReadyH.nil
    go_simp
    refine HCALL.out.mono ?_
    rintro e w4 ⟨⟨sr, rfl, hsr⟩, hb4⟩
    obtain ⟨or, cr, rfl⟩ := hsr.form
    dsimp only [tmv]
    have HS4 := Lib.hid (show _ ∧ _ ∧ _ ∧ _ from ⟨pcell_next hb4 HS0.out.1, pcell_next hb4 HS0.out.2.1, pcell_next hb4 HS0.out.2.2.1, pcell_next hb4 HS0.out.2.2.2⟩)
    have hg4 := (hb4.block g hgz).trans HG.out
    have z0 := (cells_of' hg4 (k * 3)).trans HCC2.out.1
    have z1 := (cells_of' hg4 (k * 3 + 1)).trans HCC2.out.2.1
    have z2 := (cells_of' hg4 (k * 3 + 2)).trans HCC2.out.2.2
    have e0 := frozen_of' hg4 (k * 3)
    have e1 := frozen_of' hg4 (k * 3 + 1)
    have e2 := frozen_of' hg4 (k * 3 + 2)
    have HG4 := Lib.hid hg4
    have HB4 := Lib.hid hb4
    have HSR := Lib.hid hsr
    clear hg4 hb4 hsr
    refine hK.out _ _ HS4.out (fun _ => ?_)
    clear hK
    try simp only [Act.put, List.setIfInBounds_toArray, List.set_cons_zero, List.set_cons_succ]
    refine wpAnyH_take (i := 14) (v := ?_) (by simp only [List.getElem?_toArray, List.getElem?_cons_zero, List.getElem?_cons_succ]; rfl) (by kernel_rfl) (by kernel_rfl) (by kernel_rfl) (fun _ _ _ h => h) (Or.inl ⟨by rfl, ?_⟩) HS4.out ?_
    case refine_2 => (intro ww hSw; obtain ⟨s1, s2, s3, s4⟩ := hSw; go_simp; try with_reducible rfl)
    try simp only [Act.put, List.setIfInBounds_toArray, List.set_cons_zero, List.set_cons_succ]
    refine wpAnyH_ready (rs := [15]) (by kernel_rfl) (by simp) ?_
    refine AllReadyH.cons (by simp only [List.getElem?_toArray, List.getElem?_cons_zero, List.getElem?_cons_succ]; rfl) (fun K' hK => ?_) AllReadyH.nil
    go_simp
    have HS5 := Lib.hid (show _ ∧ _ ∧ _ ∧ _ from ⟨(pfar3 w4 g (k * 3) (k * 3 + 1) (k * 3 + 2) (.string (x'.put l u).nm) (.bool (x'.put l u).vr) (.slice or (x'.put l u).ts.length cr) ⟨b3, o3, none⟩ (by show _ ≠ g; simp only; omega)).trans HS4.out.1, (pfar3 w4 g (k * 3) (k * 3 + 1) (k * 3 + 2) (.string (x'.put l u).nm) (.bool (x'.put l u).vr) (.slice or (x'.put l u).ts.length cr) ⟨w.heap.size + 1, 0, none⟩ (by show _ ≠ g; simp only; omega)).trans HS4.out.2.1, (pfar3 w4 g (k * 3) (k * 3 + 1) (k * 3 + 2) (.string (x'.put l u).nm) (.bool (x'.put l u).vr) (.slice or (x'.put l u).ts.length cr) ⟨w.heap.size + 1, 1, none⟩ (by show _ ≠ g; simp only; omega)).trans HS4.out.2.2.1, (pfar3 w4 g (k * 3) (k * 3 + 1) (k * 3 + 2) (.string (x'.put l u).nm) (.bool (x'.put l u).vr) (.slice or (x'.put l u).ts.length cr) ⟨w.heap.size + 1, 2, none⟩ (by show _ ≠ g; simp only; omega)).trans HS4.out.2.2.2⟩)
    refine hK.out _ _ HS5.out (fun _ => ?_)
    clear hK
    try simp only [Act.put, List.setIfInBounds_toArray, List.set_cons_zero, List.set_cons_succ]
    refine wpAnyH_done (by kernel_rfl) ?_ _
    refine NoPanic.normal ?_
    generalize (if cv = 1 then (some ⟨b3, o3, none⟩ : Option Addr) else some ⟨b3, o3 + 1, none⟩) = adr
    have ht5 := (pfar3h w4 g (k * 3) (k * 3 + 1) (k * 3 + 2) (.string (x'.put l u).nm) (.bool (x'.put l u).vr) (.slice or (x'.put l u).ts.length cr) w.heap.size (by omega)).trans ((HB4.out.block w.heap.size (Array.getElem?_eq_some_iff.1 HT.out).1).trans HT.out)
    have hr5 := (pfar3h w4 g (k * 3) (k * 3 + 1) (k * 3 + 2) (.string (x'.put l u).nm) (.bool (x'.put l u).vr) (.slice or (x'.put l u).ts.length cr) (w.heap.size + 1 + 1) (by omega)).trans ((HB4.out.block (w.heap.size + 1 + 1) (Array.getElem?_eq_some_iff.1 HR.out).1).trans HR.out)
    have hg5 := set3 HG4.out (k * 3) (.string (x'.put l u).nm) (.bool (x'.put l u).vr) (.slice or (x'.put l u).ts.length cr)
    obtain ⟨⟨v0, v1, v2⟩, -⟩ := box3 ht5
    obtain ⟨⟨w0, w1', w2⟩, m0, m1, m2⟩ := box3 hr5
    have HR5 := Lib.hid hr5
    have HG5 := Lib.hid hg5
    clear ht5 hr5 hg5
    go_wp2_with fail
    have hput : t.put (↑k :: l) u = .mk t.nm false (t.ts.set k (x'.put l u)) := by simp only [Tm.put, HKID.out, Int.toNat_natCast, HV.out]
    obtain ⟨⟨q0, q1, q2⟩, -⟩ := box3 (box3_set HR5.out (.string t.nm) (.bool false) (.slice (some ⟨g, 0, none⟩) t.ts.length cg))
    refine bodyPost_ret (v := .agg #[.string t.nm, .bool false, .slice (some ⟨g, 0, none⟩) t.ts.length cg]) (by simp [results, Tryz.f19, go_sem, q0, q1, q2]) rfl ?_
    rw [hput]
    have hg6 := (heap_set3 (((w4.setCell ⟨g, k * 3, none⟩ (.string (x'.put l u).nm)).setCell ⟨g, k * 3 + 1, none⟩ (.bool (x'.put l u).vr)).setCell ⟨g, k * 3 + 2, none⟩ (.slice or (x'.put l u).ts.length cr)) (w.heap.size + 1 + 1) g (.string t.nm) (.bool false) (.slice (some ⟨g, 0, none⟩) t.ts.length cg) (by omega)).trans HG5.out
    have hlen : (ch.set k (x'.put l u, Value.slice or (x'.put l u).ts.length cr)).length = t.ts.length := by rw [List.length_set, HCL.out]
    have hmap : (ch.set k (x'.put l u, Value.slice or (x'.put l u).ts.length cr)).map (·.1) = t.ts.set k (x'.put l u) := by rw [List.map_set, HCH.out]
    have hcur : (((cur.setIfInBounds (k * 3) (.string (x'.put l u).nm)).setIfInBounds (k * 3 + 1) (.bool (x'.put l u).vr)).setIfInBounds (k * 3 + 2) (.slice or (x'.put l u).ts.length cr)).toList.take ((ch.set k (x'.put l u, Value.slice or (x'.put l u).ts.length cr)).length * 3) = stCells (ch.set k (x'.put l u, Value.slice or (x'.put l u).ts.length cr)) := by
      rw [hlen, ← stCells_set ch k _ (x'.put l u, Value.slice or (x'.put l u).ts.length cr) HCX.out, ← HCUR.out]
      simp only [Array.toList_setIfInBounds, List.take_set]
    have hw14 : w1.heap.size ≤ w4.heap.size := HB4.out.size
    have hbl : Below w.heap.size w (((((((w4.setCell ⟨g, k * 3, none⟩ (.string (x'.put l u).nm)).setCell ⟨g, k * 3 + 1, none⟩ (.bool (x'.put l u).vr)).setCell ⟨g, k * 3 + 2, none⟩ (.slice or (x'.put l u).ts.length cr)).setCell ⟨w.heap.size + 1 + 1, 0, none⟩ (.string t.nm)).setCell ⟨w.heap.size + 1 + 1, 1, none⟩ (.bool false)).setCell ⟨w.heap.size + 1 + 1, 2, none⟩ (.slice (some ⟨g, 0, none⟩) t.ts.length cg))) :=
      below_set3 ((((HW1.out.drew.trans (HB4.out.mono HW1.out.drew.size)).setCell (p := ⟨g, k * 3, none⟩) (by show w.heap.size ≤ g; omega) _).setCell (p := ⟨g, k * 3 + 1, none⟩) (by show w.heap.size ≤ g; omega) _).setCell (p := ⟨g, k * 3 + 2, none⟩) (by show w.heap.size ≤ g; omega) _) (by omega) _ _ _
    refine ⟨⟨.slice (some ⟨g, 0, none⟩) t.ts.length cg, rfl, ?_⟩, hbl⟩
    have key := SlP.ofTaken (p := fun b => (p b ∨ w.heap.size ≤ b) ∧ b < w4.heap.size) (cap := cg) (ch := ch.set k (x'.put l u, Value.slice or (x'.put l u).ts.length cr)) (by intro e; rw [e] at hlen; simp at hlen; omega) hg6 ⟨.inr (by omega), by omega⟩ (by rw [hlen]; exact hcg) hcur fun c hc => by
      rcases List.mem_or_eq_of_mem_set hc with hc | rfl
      · exact (HCS.out c hc).carry fun b hb => ⟨hbl.block b (HP0.out b hb), .inl hb, by have := HP0.out b hb; omega⟩
      · exact HSR.out.carry fun b hb => ⟨(heap_set3 _ _ _ _ _ _ (by rcases hb.1 with h | h; (have := HP0.out b h; omega); (have h : w1.heap.size ≤ b := h; omega))).trans (pfar3h _ _ _ _ _ _ _ _ _ (by rcases hb.1 with h | h; (have := HP0.out b h; omega); (have h : w1.heap.size ≤ b := h; omega))), by rcases hb.1 with h | h; exact .inl h; exact .inr (by have h : w1.heap.size ≤ b := h; omega), hb.2⟩
    rw [hlen, hmap] at key
    exact key.carry fun b hb => ⟨rfl, hb.1, by simpa [World.setCell] using hb.2⟩
end Go.Proofs.YtnomppdmhgefiaaGreat
