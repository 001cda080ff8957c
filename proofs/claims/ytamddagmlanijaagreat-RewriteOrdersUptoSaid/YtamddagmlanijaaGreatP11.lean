/- Packed: PutM, At, Rat, Tcmp, Eqf, Mtw. -/
import Derived.Test.YtamddagmlanijaaGreatP06
import Derived.WalkKit
import Derived.ProofKit
import Derived.OpenShut
import Derived.Handy
import Derived.Lib.Hide
import Derived.Test.YtamddagmlanijaaGreatP04
import Derived.Test.YtamddagmlanijaaGreatP10
import Derived.Deep.RegionHeld3
import Derived.Test.YtamddagmlanijaaGreatP05
import Derived.Test.YtamddagmlanijaaGreatP09
/- A store at a place of a term of its own: the slice then holds the term with that place replaced. No program stands here. -/
namespace Go.Proofs.YtamddagmlanijaaGreat
open Go.RowKit

/-- a row of cells, as terms -/
theorem SlIs.ofRow {e : TypeId} {W : World} {n₀ g : Nat} {ch : List Child} {cur : Array Value} (hne : ch ≠ []) (hg : W.heap[g]? = some (.cells cur e (0, 0))) (hgn : g < n₀) (hc : cur.toList = chCells ch)
    (hk : ∀ c ∈ ch, SlIs n₀ W c.1.ts c.2.1) : SlIs n₀ W (ch.map (·.1)) (.slice (some ⟨g, 0, none⟩) ch.length ch.length) := by
  have hlen : (ch.map (·.1)).length = ch.length := by simp
  have hcell : ∀ j, W.cell? ⟨g, j, none⟩ = (chCells ch)[j]? := fun j => by
    unfold World.cell?
    simp only [hg]
    rw [← hc, Array.getElem?_toList]; rfl
  have hch : ∀ i t, (ch.map (·.1))[i]? = some t → ∃ c : Child, ch[i]? = some c ∧ c.1 = t := fun i t ht => by rw [List.getElem?_map, Option.map_eq_some_iff] at ht; exact ht
  have key := SlIs.row (n₀ := n₀) (W := W) g 0 ch.length (ch.map (·.1)) (fun i => ((ch[i]?).map (·.2.1)).getD (.bool false)) (by simpa using hne) hgn (by simp)
    (fun i t ht => by
      obtain ⟨c, hci, rfl⟩ := hch i t ht
      obtain ⟨h1, h2, h3⟩ := chCells_at ch i c hci
      simp only [Nat.zero_add, hcell, hci, Option.map_some, Option.getD_some]
      exact ⟨h1, h2, h3⟩)
    (fun i t ht => by
      obtain ⟨c, hci, rfl⟩ := hch i t ht
      simp only [hci, Option.map_some, Option.getD_some]
      exact hk c (List.mem_of_getElem? hci))
    (fun i _ => by unfold World.frozen?; simp [hg])
  rw [hlen] at key
  exact key

theorem chCells_set (ch : List Child) (i : Nat) (c c' : Child) (h : ch[i]? = some c) :
    (((chCells ch).set (i * 3) (.string c'.1.nm)).set (i * 3 + 1) (.bool c'.1.vr)).set (i * 3 + 2) c'.2.1 = chCells (ch.set i c') := by
  induction ch generalizing i with
  | nil => simp at h
  | cons p ch ih =>
    cases i with
    | zero => simp at h; subst h; simp [chCells]
    | succ i =>
      have := ih i (by simpa using h)
      have e : ∀ r, (i + 1) * 3 + r = i * 3 + r + 3 := fun r => by omega
      have e0 : (i + 1) * 3 = i * 3 + 3 := by omega
      rw [e, e, e0]
      simp only [chCells, List.flatMap_cons, List.set_cons_succ] at this ⊢
      simpa using this
end Go.Proofs.YtamddagmlanijaaGreat
/- At. -/
namespace Go.Proofs.YtamddagmlanijaaGreat
open Go.RowKit

theorem Tm.kid_mem {t : Tm} {i : Int} {u : Tm} (h : t.kid i = some u) : u ∈ t.ts := by
  unfold Tm.kid at h; split at h
  · exact List.mem_of_getElem? h
  · cases h
theorem Tm.at_bulk {t u : Tm} {l : List Int} (h : t.at l = some u) : u.bulk ≤ t.bulk := by
  induction l generalizing t with
  | nil => simp only [Tm.at, Option.some.injEq] at h; subst h; exact Nat.le_refl _
  | cons i l ih =>
    simp only [Tm.at] at h
    split at h
    · rename_i x hx
      have h1 := ih h
      have h2 := Tm.bulk_mem (Tm.kid_mem hx)
      have h3 := Tm.bulk_eq t
      omega
    · cases h
theorem Tm.formed.at {t u : Tm} (ht : t.formed) {l : List Int} (h : t.at l = some u) : u.formed := by
  induction l generalizing t with
  | nil => simp only [Tm.at, Option.some.injEq] at h; subst h; exact ht
  | cons i l ih =>
    simp only [Tm.at] at h
    split at h
    · rename_i x hx
      exact ih (((Tm.formed_iff t).1 ht).2 x (Tm.kid_mem hx)) h
    · cases h

end Go.Proofs.YtamddagmlanijaaGreat
/- rewrite's at and put. -/
namespace Go.Proofs.YtamddagmlanijaaGreat
open Go.RowKit Go.Shelf Go.Maps

set_option maxRecDepth 100000 in
set_option maxHeartbeats 1000000 in
theorem rwat_any (t : Tm) (s : Value) (l : List Int) (v : Value) (w : World) (hs : SlIs w.heap.size w t.ts s) (hl : PosIs w.heap.size w l v) (hll : l.length ≤ 1048576) (hb : t.bulk ≤ 1048576) :
    Calls Tryz.prog 98 #[tmv t s, v] w fun e w' => ((∃ u su, e = .returned (.tuple #[tmv u su, .bool true]) ∧ t.at l = some u ∧ SlIs w.heap.size w u.ts su) ∨ (e = .returned (.tuple #[.agg #[.string ⟨#[]⟩, .bool false, .slice none 0 0], .bool false]) ∧ t.at l = none)) ∧ Below w.heap.size w w' := by
  obtain ⟨oa, cap, rfl, -⟩ := hs.form
  obtain ⟨ov, cv, rfl, hp⟩ := hl.form
  have HS := Lib.hid hs
  have HP := Lib.hid hp
  clear hs hl hp
  rw [show tmv t (.slice oa t.ts.length cap) = .agg #[.string t.nm, .bool t.vr, .slice oa t.ts.length cap] from rfl]
  go_enter Tryz.func98, Tryz.ntmps98
  go_wp2_with fail
  go_loopw [10] (fun i wr => ∃ (j : Nat) (u : Tm) (ou : Option Addr) (cu : Nat), j ≤ l.length ∧ i = .int .i64 j ∧ u.bulk ≤ 1048576 ∧ Hid (wr.heap[w.heap.size]? = some (.cells #[.string u.nm, .bool u.vr, .slice ou u.ts.length cu] 25 (0, 0))) ∧
      Hid (wr.heap[w.heap.size + 1]? = some (.cells #[.string ⟨#[]⟩, .bool false, .slice none 0 0] 25 (0, 0))) ∧ Hid (SlIs w.heap.size w u.ts (.slice ou u.ts.length cu)) ∧ Hid (t.at l = u.at (l.drop j)) ∧ Hid (Below w.heap.size w wr)) (fun i _ => l.length - (intOf i).toNat)
  case atStart => exact ⟨0, t, oa, cap, by omega, rfl, hb, Lib.hid ((Below.heap_alloc _ _ _ (by simp)).trans (heap_new_at _ _ _ rfl)), Lib.hid (heap_new_at _ _ _ (by simp)), HS, Lib.hid (by simp), Lib.hid (by go_grown)⟩
  case round =>
    obtain ⟨j, u, ou, cu, hj, rfl, hub, HT, HR, HU, HA, HB⟩ := hrel
    obtain ⟨⟨t0, t1, t2⟩, g0, g1, g2⟩ := box3 HT.out
    obtain ⟨⟨r0, r1, r2⟩, f0, f1, f2⟩ := box3 HR.out
    by_cases hlt : j < l.length
    · obtain ⟨x, hx⟩ : ∃ x, l[j]? = some x := ⟨_, List.getElem?_eq_getElem hlt⟩
      have hne : l ≠ [] := by rintro rfl; simp at hlt
      obtain ⟨b3, o3, rfl, hb3, hc3⟩ := HP.out hne
      have hcx := (HB.out.cell (p := ⟨b3, o3 + j, none⟩) hb3).trans (hc3 j x hx)
      have hsz := Tm.size_bulk u
      have hls := Tm.length_sizes u.ts
      have hse := Tm.size_eq u
      have hul : u.ts.length ≤ 1048576 := by omega
      have HDR : Hid (l.drop j = x :: l.drop (j + 1)) := Lib.hid (by rw [List.drop_eq_getElem_cons hlt]; rw [List.getElem?_eq_getElem hlt] at hx; cases hx; rfl)
      clear hx hc3 hsz hls hse
      by_cases hneg : x < 0
      · go_wp2_with fail
        obtain ⟨⟨q0, q1, q2⟩, -⟩ := box3 (box3_set HR.out (.string ⟨#[]⟩) (.bool false) (.slice none 0 0))
        refine bodyPost_ret (v := .tuple #[.agg #[.string ⟨#[]⟩, .bool false, .slice none 0 0], .bool false]) (by simp [results, Tryz.f98, go_sem, q0, q1, q2]) rfl ?_
        refine ⟨.inr ?_, below_set3 HB.out (by omega) _ _ _⟩
        have HN : t.at l = none := by rw [HA.out, HDR.out]; simp only [Tm.at, Tm.kid, if_neg (show ¬ (0 ≤ x) by omega)]
        exact ⟨rfl, HN⟩
      · by_cases hge : (u.ts.length : Int) ≤ x
        · go_wp2_with fail
          obtain ⟨⟨q0, q1, q2⟩, -⟩ := box3 (box3_set HR.out (.string ⟨#[]⟩) (.bool false) (.slice none 0 0))
          refine bodyPost_ret (v := .tuple #[.agg #[.string ⟨#[]⟩, .bool false, .slice none 0 0], .bool false]) (by simp [results, Tryz.f98, go_sem, q0, q1, q2]) rfl ?_
          refine ⟨.inr ?_, below_set3 HB.out (by omega) _ _ _⟩
          have HN : t.at l = none := by rw [HA.out, HDR.out]; simp only [Tm.at, Tm.kid, if_pos (show (0 ≤ x) by omega), List.getElem?_eq_none (show u.ts.length ≤ x.toNat by omega)]
          exact ⟨rfl, HN⟩
        · obtain ⟨k, rfl⟩ : ∃ k : Nat, x = (k : Int) := ⟨x.toNat, by omega⟩
          have hk : k < u.ts.length := by omega
          obtain ⟨b4, o4, u2, s2, rfl, hb4, hu2, hum2, hus2, d1', d2', d3'⟩ := HU.out.get hk
          have d1 := (HB.out.cell (p := ⟨b4, _, none⟩) hb4).trans d1'
          have d2 := (HB.out.cell (p := ⟨b4, _, none⟩) hb4).trans d2'
          have d3 := (HB.out.cell (p := ⟨b4, _, none⟩) hb4).trans d3'
          clear d1' d2' d3'
          obtain ⟨ou2, cu2, rfl, -⟩ := hus2.form
          have HU2 := Lib.hid hu2
          have HM2 := Lib.hid hum2
          have HS2 := Lib.hid hus2
          clear hu2 hum2 hus2
          go_wp2_with fail
          refine ⟨⟨j + 1, u2, ou2, cu2, by omega, by go_num, by have := Tm.bulk_mem HM2.out; have := Tm.bulk_eq u; omega, Lib.hid (box3_set HT.out _ _ _), Lib.hid ((heap_set3 _ _ _ _ _ _ (by omega)).trans HR.out), HS2, Lib.hid ?_, Lib.hid (below_set3 HB.out (by omega) _ _ _)⟩, by simp only [intOf]; omega⟩
          rw [HA.out, HDR.out]
          simp only [Tm.at, Tm.kid, if_pos (show (0 : Int) ≤ (k : Int) by omega), Int.toNat_natCast, HU2.out]
    · have hd : l.drop j = [] := List.drop_eq_nil_of_le (by omega)
      have HD : Hid (t.at l = some u) := Lib.hid (by rw [HA.out, hd]; rfl)
      clear hd
      go_wp2_with fail
      obtain ⟨⟨q0, q1, q2⟩, -⟩ := box3 (box3_set HR.out (.string u.nm) (.bool u.vr) (.slice ou u.ts.length cu))
      refine bodyPost_ret (v := .tuple #[tmv u (.slice ou u.ts.length cu), .bool true]) (by simp [results, Tryz.f98, go_sem, q0, q1, q2]) rfl ?_
      exact ⟨.inl ⟨u, _, rfl, HD.out, HU.out⟩, below_set3 HB.out (by omega) _ _ _⟩
end Go.Proofs.YtamddagmlanijaaGreat
/- Package term's Compare and Equal: zero just where two terms are one. -/
namespace Go.Proofs.YtamddagmlanijaaGreat
open Go.RowKit

set_option maxHeartbeats 1000000 in
theorem cmpOr_any (g : Nat) (x y : Int) (w : World) (h : w.heap[g]? = some (.cells #[.int .i64 x, .int .i64 y] 3 (0, 0))) :
    Calls Tryz.prog 284 #[.slice (some ⟨g, 0, none⟩) 2 2] w fun e w' => (∃ c : Int, e = .returned (.int .i64 c) ∧ (c = 0 ↔ x = 0 ∧ y = 0)) ∧ w = w' := by
  have c0 : w.cell? ⟨g, 0, none⟩ = some (.int .i64 x) := by have := cells_of' h 0; simpa using this
  have c1 : w.cell? ⟨g, 1, none⟩ = some (.int .i64 y) := by have := cells_of' h 1; simpa using this
  clear h
  by_cases hx : x = 0
  · subst hx
    by_cases hy : y = 0
    · subst hy
      go_enter Tryz.func284, Tryz.ntmps284
      go_wp2_with fail
      go_rounds 3
      go_ret
      exact ⟨⟨_, rfl, by simp⟩, rfl⟩
    · have hy2 : (y != 0) = true := by rw [bne_iff_ne]; exact hy
      have HY := Lib.hid hy
      clear hy
      go_enter Tryz.func284, Tryz.ntmps284
      go_wp2_with fail
      go_rounds 2
      go_ret
      exact ⟨⟨_, rfl, fun e => absurd e HY.out, fun e => absurd e.2 HY.out⟩, rfl⟩
  · have hx2 : (x != 0) = true := by rw [bne_iff_ne]; exact hx
    have HX := Lib.hid hx
    clear hx
    go_enter Tryz.func284, Tryz.ntmps284
    go_wp2_with fail
    go_rounds 1
    go_ret
    exact ⟨⟨_, rfl, fun e => absurd e HX.out, fun e => absurd e.1 HX.out⟩, rfl⟩

/-- what Compare says of two terms -/
def CmpPost (a b : Tm) (w : World) (e : Ending) (w' : World) : Prop := (∃ c : Int, e = .returned (.int .i64 c) ∧ (c = 0 ↔ a = b)) ∧ Below w.heap.size w w'

set_option maxRecDepth 100000 in
set_option maxHeartbeats 2000000 in
theorem compareFunc_any (l r : List Tm) (o1 o2 : Option Addr) (k1 k2 : Nat) (w : World) (hlen : l.length = r.length) (hl : l.length ≤ 1048576) (h1 : SlIs w.heap.size w l (.slice o1 l.length k1)) (h2 : SlIs w.heap.size w r (.slice o2 r.length k2))
    (HB : Hid (∀ u ∈ l, u.bulk ≤ 1048576)) (HB2 : Hid (∀ u ∈ r, u.bulk ≤ 1048576))
    (HC : Hid (∀ u ∈ l, ∀ (v : Tm) (su sv : Value) (W : World), u.bulk ≤ 1048576 → v.bulk ≤ 1048576 → SlIs W.heap.size W u.ts su → SlIs W.heap.size W v.ts sv → Calls Tryz.prog 266 #[tmv u su, tmv v sv] W (CmpPost u v W))) :
    Calls Tryz.prog 285 #[.slice o1 l.length k1, .slice o2 r.length k2, .func (.func 266) #[] #[]] w fun e w' => (∃ c : Int, e = .returned (.int .i64 c) ∧ (c = 0 ↔ l = r)) ∧ Below w.heap.size w w' := by
  have hcf := Tryz.call266
  have H1 := Lib.hid h1
  have H2 := Lib.hid h2
  have HL := Lib.hid hlen
  have hr : r.length ≤ 1048576 := by omega
  clear h1 h2 hlen
  go_enter Tryz.func285, Tryz.ntmps285
  go_wp2_with fail
  go_loopw [13] (fun i wr => ∃ k : Nat, k ≤ l.length ∧ i = .int .i64 k ∧ Hid (l.take k = r.take k) ∧ Hid (Below w.heap.size w wr)) (fun i _ => l.length - (intOf i).toNat)
  case atStart => exact ⟨0, by omega, rfl, Lib.hid rfl, Lib.hid (Below.refl _ _)⟩
  case round =>
    obtain ⟨k, hk, rfl, HE, HW⟩ := hrel
    have hz := HW.out.size
    by_cases hlt : k < l.length
    · have hlt2 : k < r.length := by have := HL.out; omega
      obtain ⟨b1, p1, u, su, rfl, hbb1, hu, hum, hus, c1, c2, c3⟩ := (H1.out.carry HW.out (Nat.le_refl _)).get hlt
      obtain ⟨b2, p2, v, sv, rfl, hbb2, hv, hvm, hvs, d1, d2, d3⟩ := (H2.out.carry HW.out (Nat.le_refl _)).get hlt2
      obtain ⟨ou, cu, rfl, -⟩ := hus.form
      obtain ⟨ov, cv, rfl, -⟩ := hvs.form
      have HU := Lib.hid hu
      have HV := Lib.hid hv
      have HUS := Lib.hid hus
      have HVS := Lib.hid hvs
      have HCU := fun W (hW : Below wr.heap.size wr W) => Lib.hid (HC.out u hum v (.slice ou u.ts.length cu) (.slice ov v.ts.length cv) W (HB.out u hum) (HB2.out v hvm) (hus.carry (hW.mono hz) (Nat.le_trans hz hW.size)) (hvs.carry (hW.mono hz) (Nat.le_trans hz hW.size)))
      have hge : ¬ (r.length ≤ k) := by omega
      have e1 := (cell_old wr (.cells #[.string u.nm, .bool u.vr, .slice ou u.ts.length cu] 25) b2 _ (by omega)).trans d1
      have e2 := (cell_old wr (.cells #[.string u.nm, .bool u.vr, .slice ou u.ts.length cu] 25) b2 _ (by omega)).trans d2
      have e3 := (cell_old wr (.cells #[.string u.nm, .bool u.vr, .slice ou u.ts.length cu] 25) b2 _ (by omega)).trans d3
      clear hu hv hus hvs
      go_wp2_with fail
      refine (HCU _ (by go_grown)).out.mono ?_
      rintro e w2 ⟨⟨c, rfl, hc⟩, hb2⟩
      have HC2 := Lib.hid hc
      have HB3 : Hid (Below wr.heap.size wr w2) := Lib.hid (Below.trans (by go_grown) (hb2.mono (by simp; omega)))
      clear hc hb2
      by_cases hc0 : c = 0
      · subst hc0
        have HUV := Lib.hid (HC2.out.1 rfl)
        go_wp2_with fail
        exact ⟨⟨k + 1, by omega, by go_num, Lib.hid (by rw [Tm.take_snoc HU.out, Tm.take_snoc HV.out, HE.out, HUV.out]), Lib.hid (HW.out.trans (HB3.out.mono hz))⟩, by simp [intOf]; omega⟩
      · have hcb : (c != 0) = true := by rw [bne_iff_ne]; exact hc0
        have HN : Hid (l ≠ r) := Lib.hid (fun e => hc0 (HC2.out.2 (by
          have h1 := HU.out; have h2 := HV.out; rw [e, h2] at h1; exact (Option.some.inj h1).symm)))
        have HC0 := Lib.hid hc0
        clear hc0
        go_wp2_with fail
        go_ret
        exact ⟨⟨_, rfl, fun e => absurd e HC0.out, fun e => absurd e HN.out⟩, HW.out.trans (HB3.out.mono hz)⟩
    · obtain rfl : k = l.length := by omega
      have HLR : Hid (l = r) := Lib.hid (by have := HE.out; rwa [List.take_length, HL.out, List.take_length] at this)
      have hlr : ¬ (l.length < r.length) := by have := HL.out; omega
      go_wp2_with fail
      go_ret
      exact ⟨⟨_, rfl, fun _ => HLR.out, fun _ => rfl⟩, HW.out⟩

theorem compareBytes_zero (a b : List UInt8) : Lib.compareBytes a b = 0 ↔ a = b := by
  induction a generalizing b with
  | nil => cases b <;> simp [Lib.compareBytes]
  | cons x a ih =>
    cases b with
    | nil => simp [Lib.compareBytes]
    | cons y b =>
      simp only [Lib.compareBytes]
      by_cases h1 : x < y
      · have hne : x ≠ y := fun e => by subst e; exact UInt8.lt_irrefl _ h1
        simp [h1, hne]
      · by_cases h2 : y < x
        · have hne : x ≠ y := fun e => by subst e; exact UInt8.lt_irrefl _ h2
          simp [h1, h2, hne]
        · have he : x = y := UInt8.toNat_inj.1 (by rw [UInt8.lt_iff_toNat_lt] at h1 h2; omega)
          subst he
          simp [h1, ih]
theorem compareInt_zero (a b : Int) : Lib.compareInt a b = 0 ↔ a = b := by unfold Lib.compareInt; split <;> (try split) <;> omega
theorem nm_ext {a b : ByteArray} (h : a.data.toList = b.data.toList) : a = b := by cases a; cases b; simpa using h

set_option maxRecDepth 100000 in
set_option maxHeartbeats 4000000 in
theorem tcompare_any (a : Tm) : ∀ (b : Tm) (sa sb : Value) (w : World), a.bulk ≤ 1048576 → b.bulk ≤ 1048576 → SlIs w.heap.size w a.ts sa → SlIs w.heap.size w b.ts sb →
    Calls Tryz.prog 266 #[tmv a sa, tmv b sb] w (CmpPost a b w) := by
  induction a using Tm.ind with
  | h a ih =>
    intro b sa sb w hba hbb hsa hsb
    obtain ⟨oa, ca, rfl, -⟩ := hsa.form
    obtain ⟨ob, cb, rfl, -⟩ := hsb.form
    have hea := Tm.bulk_eq a
    have heb := Tm.bulk_eq b
    have hta : a.ts.length ≤ 1048576 := by have := Tm.length_sizes a.ts; have := Tm.size_bulk a; have := Tm.size_eq a; omega
    have htb : b.ts.length ≤ 1048576 := by have := Tm.length_sizes b.ts; have := Tm.size_bulk b; have := Tm.size_eq b; omega
    have HKA : Hid (∀ u ∈ a.ts, u.bulk ≤ 1048576) := Lib.hid fun u hu => by have := Tm.bulk_mem hu; omega
    have HKB : Hid (∀ u ∈ b.ts, u.bulk ≤ 1048576) := Lib.hid fun u hu => by have := Tm.bulk_mem hu; omega
    have HSA := Lib.hid hsa
    have HSB := Lib.hid hsb
    have IH : Hid (∀ u ∈ a.ts, ∀ (v : Tm) (su sv : Value) (W : World), u.bulk ≤ 1048576 → v.bulk ≤ 1048576 → SlIs W.heap.size W u.ts su → SlIs W.heap.size W v.ts sv → Calls Tryz.prog 266 #[tmv u su, tmv v sv] W (CmpPost u v W)) := Lib.hid ih
    clear hea heb ih hsa hsb
    have HB0 : Hid (Below w.heap.size w ((w.alloc (.cells #[.string a.nm, .bool a.vr, .slice oa a.ts.length ca] 25)).alloc (.cells #[.string b.nm, .bool b.vr, .slice ob b.ts.length cb] 25))) := Lib.hid (by go_grown)
    by_cases hv : a.vr = b.vr
    · have HV := Lib.hid hv
      have hvv : (a.vr != b.vr) = false := by rw [hv]; cases b.vr <;> rfl
      have hvv2 : (!a.vr == b.vr) = false := by rw [hv]; cases b.vr <;> rfl
      clear hv
      go_enter Tryz.func266, Tryz.ntmps266
      go_wp2_with fail
      have hA := (Below.heap_alloc _ (.cells #[.string b.nm, .bool b.vr, .slice ob b.ts.length cb] 25) _ (by simp)).trans (heap_new_at w (.cells #[.string a.nm, .bool a.vr, .slice oa a.ts.length ca] 25) w.heap.size rfl)
      have hB := heap_new_at (w.alloc (.cells #[.string a.nm, .bool a.vr, .slice oa a.ts.length ca] 25)) (.cells #[.string b.nm, .bool b.vr, .slice ob b.ts.length cb] 25) (w.heap.size + 1) (by simp)
      obtain ⟨⟨p0, p1, p2⟩, -⟩ := box3 hA
      obtain ⟨⟨q0, q1, q2⟩, -⟩ := box3 hB
      clear hA hB
      go_region_held3 (fun w' => w'.cell? ⟨w.heap.size, 0, none⟩ = some (.string a.nm) ∧ w'.cell? ⟨w.heap.size, 2, none⟩ = some (.slice oa a.ts.length ca) ∧ w'.cell? ⟨w.heap.size + 1, 0, none⟩ = some (.string b.nm) ∧ w'.cell? ⟨w.heap.size + 1, 2, none⟩ = some (.slice ob b.ts.length cb)) (go_keep) ((first
        | (go_at_call 190
           refine (Tryz.strings_Compare a.nm b.nm _).mono ?_
           rintro e w' ⟨rfl, rfl⟩)
        | (go_at_call 174
           refine (Tryz.cmp_Compare_int a.ts.length b.ts.length _).mono ?_
           rintro e w' ⟨rfl, rfl⟩)
        | (go_at_call 284
           refine (cmpOr_any (w.heap.size + 1 + 1) (Lib.compareBytes a.nm.data.toList b.nm.data.toList) (Lib.compareInt a.ts.length b.ts.length) _ ?hx).mono ?_
           case hx => exact heap_new_at _ _ _ (by simp)
           rintro e w' ⟨⟨c, rfl, hc⟩, rfl⟩
           have HC := Lib.hid hc
           clear hc)))
      have HNE : Hid (Lib.compareBytes a.nm.data.toList b.nm.data.toList = 0 ↔ a.nm = b.nm) := Lib.hid ((compareBytes_zero _ _).trans ⟨nm_ext, fun h => by rw [h]⟩)
      have HLE : Hid (Lib.compareInt a.ts.length b.ts.length = 0 ↔ a.ts.length = b.ts.length) := Lib.hid ((compareInt_zero _ _).trans (by omega))
      by_cases hc0 : c = 0
      · subst hc0
        have HNM : Hid (a.nm = b.nm) := Lib.hid (HNE.out.1 (HC.out.1 rfl).1)
        have HLN : Hid (a.ts.length = b.ts.length) := Lib.hid (HLE.out.1 (HC.out.1 rfl).2)
        clear HC HNE HLE
        have HCF := fun W (hW : Below w.heap.size w W) => Lib.hid (compareFunc_any a.ts b.ts oa ob ca cb W HLN.out hta (HSA.out.carry hW hW.size) (HSB.out.carry hW hW.size) HKA HKB IH)
        go_wp2_with fail
        refine (HCF _ (by go_grown)).out.mono ?_
        rintro e w2 ⟨⟨c, rfl, hc⟩, hb2⟩
        have HC2 := Lib.hid hc
        have HB2 : Hid (Below w.heap.size w w2) := Lib.hid (Below.trans (by go_grown) (hb2.mono (by simp; omega)))
        clear hc hb2
        go_wp2_with fail
        go_ret
        exact ⟨⟨_, rfl, fun h => Tm.ext' HNM.out HV.out (HC2.out.1 h), fun h => HC2.out.2 (by rw [h])⟩, HB2.out⟩
      · have hcb : (c != 0) = true := by rw [bne_iff_ne]; exact hc0
        have HC0 := Lib.hid hc0
        clear hc0
        go_wp2_with fail
        go_ret
        refine ⟨⟨_, rfl, fun h => absurd h HC0.out, fun h => absurd (HC.out.2 ⟨HNE.out.2 (by rw [h]), HLE.out.2 (by rw [h])⟩) HC0.out⟩, by go_grown⟩
    · have HN : Hid (a ≠ b) := Lib.hid (fun e => hv (by rw [e]))
      have hvv : (a.vr != b.vr) = true := by rw [bne_iff_ne]; exact hv
      have hvv2 : (!a.vr == b.vr) = true := by revert hv; cases a.vr <;> cases b.vr <;> simp
      clear hv
      go_enter Tryz.func266, Tryz.ntmps266
      go_wp2_with fail
      all_goals
        go_ret
        exact ⟨⟨_, rfl, fun h => by omega, fun h => absurd h HN.out⟩, HB0.out⟩

set_option maxRecDepth 100000 in
set_option maxHeartbeats 1000000 in
theorem tequal_any (a b : Tm) (sa sb : Value) (w : World) (hba : a.bulk ≤ 1048576) (hbb : b.bulk ≤ 1048576) (hsa : SlIs w.heap.size w a.ts sa) (hsb : SlIs w.heap.size w b.ts sb) :
    Calls Tryz.prog 224 #[tmv a sa, tmv b sb] w fun e w' => (∃ x : Bool, e = .returned (.bool x) ∧ (x = true ↔ a = b)) ∧ Below w.heap.size w w' := by
  have hG : Below w.heap.size w ((w.alloc (.cells #[.string a.nm, .bool a.vr, sa] 25)).alloc (.cells #[.string b.nm, .bool b.vr, sb] 25)) := by go_grown
  have HC := Lib.hid (tcompare_any a b sa sb _ hba hbb (hsa.carry hG (by simp; omega)) (hsb.carry hG (by simp; omega)))
  have HG := Lib.hid hG
  clear hG
  obtain ⟨oa, ca, rfl, -⟩ := hsa.form
  obtain ⟨ob, cb, rfl, -⟩ := hsb.form
  clear hsa hsb
  go_enter Tryz.func224, Tryz.ntmps224
  go_wp2_with fail
  refine HC.out.mono ?_
  rintro e w1 ⟨⟨c, rfl, hc⟩, hb1⟩
  have HC1 := Lib.hid hc
  have HB := Lib.hid hb1
  clear hc hb1 HC
  go_wp2_with fail
  go_ret
  exact ⟨⟨_, rfl, by rw [beq_iff_eq]; exact HC1.out⟩, HG.out.trans (HB.out.mono (by simp; omega))⟩
end Go.Proofs.YtamddagmlanijaaGreat
/- slices.EqualFunc at terms, with any function value that takes a receiver. -/
namespace Go.Proofs.YtamddagmlanijaaGreat
open Go.RowKit

theorem drop_at {l : List Tm} {k : Nat} {u : Tm} (h : l[k]? = some u) : l.drop k = u :: l.drop (k + 1) := by
  obtain ⟨hk, rfl⟩ := List.getElem?_eq_some_iff.1 h
  exact List.drop_eq_getElem_cons hk

set_option maxRecDepth 100000 in
set_option maxHeartbeats 2000000 in
theorem equalFunc_not (L R : List Tm) (o1 o2 : Option Addr) (k1 k2 : Nat) (f : Value) (w : World) (hne : L.length ≠ R.length) :
    Calls Tryz.prog 225 #[.slice o1 L.length k1, .slice o2 R.length k2, f] w fun e w' => e = .returned (.bool false) ∧ w = w' := by
  have hb : ((L.length : Int) != (R.length : Int)) = true := by rw [bne_iff_ne]; omega
  clear hne
  go_enter Tryz.func225, Tryz.ntmps225
  go_wp2_with fail
  go_ret
  exact ⟨rfl, rfl⟩

/-- how a call of such a function ends -/
def EqPost {σ : Type} (n₀ : Nat) (I : σ → World → Prop) (r : Bool) (S : σ) (w : World) (e : Ending) (w' : World) : Prop := e = .returned (.bool r) ∧ (r = true → I S w') ∧ KpC n₀ w w'

set_option maxRecDepth 100000 in
set_option maxHeartbeats 2000000 in
theorem equalFunc_any {σ : Type} (k : Nat) (x : Value) (hcf : ∀ args w, (callFunc k args).run Tryz.prog w = .ok (.enter k args) w) (n₀ : Nat) (step : σ → Tm → Tm → Option (Bool × σ)) (I : σ → World → Prop) (hI : ∀ s A B, I s A → Below A.heap.size A B → I s B) (L R : List Tm)
    (HC : Hid (∀ t ∈ L, ∀ u ∈ R, ∀ (S : σ) (su sv : Value) (W : World) (r : Bool) (S' : σ), step S t u = some (r, S') → I S W → n₀ ≤ W.heap.size → SlIs W.heap.size W t.ts su → SlIs W.heap.size W u.ts sv → Calls Tryz.prog k #[x, tmv t su, tmv u sv] W (EqPost n₀ I r S' W)))
    (o1 o2 : Option Addr) (k1 k2 : Nat) (S : σ) (r : Bool) (S' : σ) (w : World) (hlen : L.length = R.length) (hl : L.length ≤ 1048576) (hn : n₀ ≤ w.heap.size) (h1 : SlIs w.heap.size w L (.slice o1 L.length k1)) (h2 : SlIs w.heap.size w R (.slice o2 R.length k2))
    (h : eqf step S L R = some (r, S')) (hS : I S w) :
    Calls Tryz.prog 225 #[.slice o1 L.length k1, .slice o2 R.length k2, .func (.func k) #[x] #[]] w (EqPost n₀ I r S' w) := by
  have hr : R.length ≤ 1048576 := by omega
  have hb : ((L.length : Int) != (R.length : Int)) = false := by rw [bne_eq_false_iff_eq]; omega
  have H1 := Lib.hid h1
  have H2 := Lib.hid h2
  have HL := Lib.hid hlen
  have HH := Lib.hid h
  have HS := Lib.hid hS
  have HI := Lib.hid hI
  clear h1 h2 hlen h hS hI
  go_enter Tryz.func225, Tryz.ntmps225
  go_wp2_with fail
  go_loopw [17] (fun i wr => ∃ (j : Nat) (S1 : σ), j ≤ L.length ∧ i = .int .i64 j ∧ Hid (eqf step S1 (L.drop j) (R.drop j) = some (r, S')) ∧ Hid (I S1 wr) ∧ Hid (KpC n₀ w wr)) (fun i _ => L.length - (intOf i).toNat)
  case atStart => exact ⟨0, S, by omega, rfl, HH, HS, Lib.hid (KpC.refl _ _)⟩
  case round =>
    obtain ⟨j, S1, hj, rfl, HE, HS1, HW⟩ := hrel
    have hz := HW.out.size
    by_cases hlt : j < L.length
    · have hlt2 : j < R.length := by have := HL.out; omega
      obtain ⟨b1, p1, u, su, rfl, hbb1, hu, hum, hus, c1, c2, c3⟩ := (H1.out.kp HW.out hz).get hlt
      obtain ⟨b2, p2, v, sv, rfl, hbb2, hv, hvm, hvs, d1, d2, d3⟩ := (H2.out.kp HW.out hz).get hlt2
      obtain ⟨ou, cu, rfl, -⟩ := hus.form
      obtain ⟨ov, cv, rfl, -⟩ := hvs.form
      have HU := Lib.hid hu
      have HV := Lib.hid hv
      have e1 := (cell_old wr (.cells #[.string u.nm, .bool u.vr, .slice ou u.ts.length cu] 25) b2 _ (by omega)).trans d1
      have e2 := (cell_old wr (.cells #[.string u.nm, .bool u.vr, .slice ou u.ts.length cu] 25) b2 _ (by omega)).trans d2
      have e3 := (cell_old wr (.cells #[.string u.nm, .bool u.vr, .slice ou u.ts.length cu] 25) b2 _ (by omega)).trans d3
      obtain ⟨q, S2, hst⟩ : ∃ q S2, step S1 u v = some (q, S2) := by
        have h := HE.out
        rw [drop_at hu, drop_at hv, eqf] at h
        cases hs : step S1 u v with
        | none => rw [hs] at h; cases h
        | some p => exact ⟨p.1, p.2, rfl⟩
      have HST := Lib.hid hst
      have HCU := fun W (hW : Below wr.heap.size wr W) => Lib.hid (HC.out u hum v hvm S1 (.slice ou u.ts.length cu) (.slice ov v.ts.length cv) W q S2 hst (HI.out _ _ _ HS1.out hW) (Nat.le_trans hn (Nat.le_trans hz hW.size)) (hus.carry hW hW.size) (hvs.carry hW hW.size))
      clear hu hv hus hvs hst
      go_wp2_with fail
      refine (HCU _ (by go_grown)).out.mono ?_
      rintro e w2 ⟨rfl, hi2, hk2⟩
      have HI2 := Lib.hid hi2
      have HK2 : Hid (KpC n₀ w w2) := Lib.hid (HW.out.trans (KpC.trans (KpC.of_below (by go_grown) (Nat.le_trans hn hz)) hk2))
      clear hi2 hk2
      cases q
      · have HRS : Hid (r = false) := Lib.hid (by
          have h := HE.out
          rw [drop_at HU.out, drop_at HV.out, eqf, HST.out] at h
          simp only [Option.some.injEq, Prod.mk.injEq] at h
          exact h.1.symm)
        go_wp2_with fail
        go_ret
        rw [HRS.out]
        exact ⟨rfl, (fun h => by cases h), HK2.out⟩
      · have HE2 : Hid (eqf step S2 (L.drop (j + 1)) (R.drop (j + 1)) = some (r, S')) := Lib.hid (by
          have h := HE.out
          rwa [drop_at HU.out, drop_at HV.out, eqf, HST.out] at h)
        go_wp2_with fail
        exact ⟨⟨j + 1, S2, by omega, by go_num, HE2, Lib.hid (by have h := HI2.out; first | exact h rfl | exact h trivial), HK2⟩, by simp [intOf]; omega⟩
    · obtain rfl : j = L.length := by omega
      have HRS : Hid (r = true ∧ S1 = S') := Lib.hid (by
        have h := HE.out
        rw [List.drop_length, eqf] at h
        simp only [Option.some.injEq, Prod.mk.injEq] at h
        exact ⟨h.1.symm, h.2⟩)
      go_wp2_with fail
      go_ret
      rw [HRS.out.1]
      exact ⟨rfl, fun _ => by rw [← HRS.out.2]; exact HS1.out, HW.out⟩
end Go.Proofs.YtamddagmlanijaaGreat
/- Match's walk through pattern and term. -/
namespace Go.Proofs.YtamddagmlanijaaGreat
open Go.RowKit Go.Maps

/-- block mb holds the bindings m -/
structure MtI (K : List Key) (mb : Nat) (m : List Bd) (W : World) : Prop where
  map : TMap W.heap.size W mb m
  bulk : ∀ q ∈ m, q.2.bulk ≤ 1048576
  keys : ∀ q ∈ m, q.1 ∈ K
/-- all variables are among these names -/
inductive Tm.vin (K : List Key) : Tm → Prop
  | mk (t : Tm) : (t.vr = true → t.nm.data.toList ∈ K) → (∀ u ∈ t.ts, u.vin K) → t.vin K
theorem Tm.vin.var {K : List Key} {t : Tm} (h : t.vin K) : t.vr = true → t.nm.data.toList ∈ K := by cases h with | mk _ h1 h2 => exact h1
theorem Tm.vin.kids {K : List Key} {t : Tm} (h : t.vin K) : ∀ u ∈ t.ts, u.vin K := by cases h with | mk _ h1 h2 => exact h2
theorem vin_firsts (t : Tm) (ht : t.bare) : ∀ (ss K : List Key), (∀ k ∈ firsts ss t, k ∈ K) → t.vin K := by
  induction t using Tm.ind with
  | h t ih =>
    intro ss K h
    cases hv : t.vr
    · rw [firsts_fun ss hv] at h
      refine .mk t (fun e => by rw [hv] at e; cases e) ?_
      have key : ∀ (l : List Tm) (ss : List Key), (∀ u ∈ l, u ∈ t.ts) → (∀ k ∈ firstsL ss l, k ∈ K) → ∀ u ∈ l, u.vin K := by
        intro l
        induction l with
        | nil => intro ss _ _ u hu; cases hu
        | cons x l ihl =>
          intro ss hs h u hu
          rw [firstsL_cons] at h
          rcases List.mem_cons.1 hu with rfl | hu
          · exact ih u (hs u (by simp)) (ht.kids u (hs u (by simp))) ss K fun k hk => h k ((firstsL_pre l (fun y _ => firsts_pre y) _).subset hk)
          · exact ihl _ (fun u hu => hs u (by simp [hu])) h u hu
      exact key t.ts ss (fun u hu => hu) h
    · rw [firsts_var ss hv] at h
      exact .mk t (fun _ => h _ (addKey_mem _ _)) fun u hu => by rw [ht.vr0 hv] at hu; cases hu
theorem nodup_len {l : List Key} : ∀ {K : List Key}, l.Nodup → (∀ x ∈ l, x ∈ K) → l.length ≤ K.length := by
  induction l with
  | nil => intro K _ _; simp
  | cons a l ih =>
    intro K hn hs
    rw [List.nodup_cons] at hn
    have ha := hs a (by simp)
    have h1 := ih (K := K.erase a) hn.2 fun x hx => (List.mem_erase_of_ne (fun e => hn.1 (by rw [← e]; exact hx))).2 (hs x (by simp [hx]))
    rw [List.length_erase_of_mem ha] at h1
    have h2 := List.length_pos_of_mem ha
    rw [List.length_cons]; omega
theorem MtI.len {K : List Key} {mb : Nat} {m : List Bd} {W : World} (h : MtI K mb m W) : m.length ≤ K.length := by
  have := nodup_len h.map.nodup (K := K) (fun x hx => by obtain ⟨q, hq, rfl⟩ := List.mem_map.1 hx; exact h.keys q hq)
  simpa using this
theorem TMap.below {mb : Nat} {A B : World} {l : List Bd} (h : TMap A.heap.size A mb l) (hb : Below A.heap.size A B) : TMap B.heap.size B mb l :=
  h.kept (KpC.of_below hb (Nat.le_refl _)) hb.size (hb.block mb h.lt)
theorem MtI.below {K : List Key} {mb : Nat} {m : List Bd} {A B : World} (h : MtI K mb m A) (hb : Below A.heap.size A B) : MtI K mb m B := ⟨h.map.below hb, h.bulk, h.keys⟩
noncomputable def mstep (m : List Bd) (p t : Tm) : Option (Bool × List Bd) := some (match mtc p m t with | some m' => (true, m') | none => (false, m))
theorem mstep_yes {m m' : List Bd} {p t : Tm} (h : mtc p m t = some m') : mstep m p t = some (true, m') := by unfold mstep; rw [h]
theorem mstep_no {m : List Bd} {p t : Tm} (h : mtc p m t = none) : mstep m p t = some (false, m) := by unfold mstep; rw [h]
theorem eqf_yes (L : List Tm) : ∀ (m : List Bd) (R : List Tm) (m' : List Bd), mtcs L m R = some m' → eqf mstep m L R = some (true, m') := by
  induction L with
  | nil => intro m R m' h; simp only [mtcs, Option.some.injEq] at h; subst h; rfl
  | cons x L ih =>
    intro m R m' h
    cases R with
    | nil => simp [mtcs] at h
    | cons y R =>
      simp only [mtcs] at h
      cases hx : mtc x m y with
      | none => rw [hx] at h; cases h
      | some m1 => rw [hx] at h; rw [eqf, mstep_yes hx]; exact ih m1 R m' h
theorem eqf_no (L : List Tm) : ∀ (m : List Bd) (R : List Tm), L.length = R.length → mtcs L m R = none → ∃ m', eqf mstep m L R = some (false, m') := by
  induction L with
  | nil => intro m R _ h; simp [mtcs] at h
  | cons x L ih =>
    intro m R hl h
    cases R with
    | nil => cases hl
    | cons y R =>
      simp only [mtcs] at h
      cases hx : mtc x m y with
      | none => exact ⟨m, by rw [eqf, mstep_no hx]⟩
      | some m1 =>
        rw [hx] at h
        obtain ⟨m', h'⟩ := ih m1 R (by simpa using hl) h
        exact ⟨m', by rw [eqf, mstep_yes hx]; exact h'⟩
theorem _root_.Go.World.mapTurned.kpc {n b : Nat} {A B : World} (h : A.mapTurned B b) (hn : n ≤ b) : KpC n A B := KpC.turned h hn
theorem name_beq {a b : ByteArray} (h : a = b) : (a.toList == b.toList) = true := by rw [h]; exact beq_self_eq_true _
theorem name_bne {a b : ByteArray} (h : a ≠ b) : (a.toList == b.toList) = false := by
  rw [beq_eq_false_iff_ne]
  intro e
  rw [Lib.toList_data, Lib.toList_data] at e
  exact h (nm_ext e)

set_option maxRecDepth 100000 in
set_option maxHeartbeats 4000000 in
theorem match_any (K : List Key) (hKl : K.length ≤ 1048576) (mb n₀ : Nat) (hnb : n₀ ≤ mb) (p : Tm) : ∀ (m : List Bd) (t : Tm) (sp st : Value) (w : World) (r : Bool) (S' : List Bd), mstep m p t = some (r, S') → MtI K mb m w → n₀ ≤ w.heap.size →
    SlIs w.heap.size w p.ts sp → SlIs w.heap.size w t.ts st → p.bulk ≤ 1048576 → t.bulk ≤ 1048576 → p.vin K →
    Calls Tryz.prog 170 #[.map (some mb), tmv p sp, tmv t st] w (EqPost n₀ (MtI K mb) r S' w) := by
  induction p using Tm.ind with
  | h p ih =>
    intro m t sp st w r S' hst hI hn hsp hss hpb htb hvin
    obtain ⟨op, cp, rfl, -⟩ := hsp.form
    obtain ⟨ot, ct, rfl, -⟩ := hss.form
    have hpn : p.nm.size ≤ 1048576 := by have := Tm.bulk_eq p; omega
    have hml := Nat.le_trans hI.len hKl
    have HB0 : Hid (Below w.heap.size w ((w.alloc (.cells #[.string p.nm, .bool p.vr, .slice op p.ts.length cp] 25)).alloc (.cells #[.string t.nm, .bool t.vr, .slice ot t.ts.length ct] 25))) := Lib.hid (by go_grown)
    have HKEY : Hid (keyOf Tryz.prog 9 (.string p.nm) = some (.string p.nm.data.toList)) := Lib.hid (WideMaps.keyOf_string_mk Tryz.underlying9 (by unfold maxLen; omega))
    have HI := Lib.hid hI
    have HSP := Lib.hid hsp
    have HSS := Lib.hid hss
    have HST := Lib.hid hst
    have HPB := Lib.hid hpb
    have HTB := Lib.hid htb
    have hmlt := hI.map.lt
    have HN := Lib.hid hn
    have HVIN := Lib.hid hvin
    clear hvin hI hsp hss hst hn
    cases hv : p.vr
    · have HV := Lib.hid hv
      have hkids : ∀ u ∈ p.ts, u.bulk ≤ 1048576 := fun u hu => by have := Tm.bulk_mem hu; have := Tm.bulk_eq p; have := HPB.out; omega
      have hkidt : ∀ u ∈ t.ts, u.bulk ≤ 1048576 := fun u hu => by have := Tm.bulk_mem hu; have := Tm.bulk_eq t; have := HTB.out; omega
      have hlp : p.ts.length ≤ 1048576 := by have := Tm.length_sizes p.ts; have := Tm.size_bulk p; have := Tm.size_eq p; have := HPB.out; omega
      have hlt : t.ts.length ≤ 1048576 := by have := Tm.length_sizes t.ts; have := Tm.size_bulk t; have := Tm.size_eq t; have := HTB.out; omega
      have HC : Hid (∀ u ∈ p.ts, ∀ v ∈ t.ts, ∀ (S : List Bd) (su sv : Value) (W : World) (r : Bool) (S' : List Bd), mstep S u v = some (r, S') → MtI K mb S W → n₀ ≤ W.heap.size → SlIs W.heap.size W u.ts su → SlIs W.heap.size W v.ts sv → Calls Tryz.prog 170 #[.map (some mb), tmv u su, tmv v sv] W (EqPost n₀ (MtI K mb) r S' W)) :=
        Lib.hid fun u hu v hv S su sv W r S' hst hI hn hus hvs => ih u hu S v su sv W r S' hst hI hn hus hvs (hkids u hu) (hkidt v hv) (HVIN.out.kids u hu)
      clear ih hkids hkidt hv
      cases hvt : t.vr
      · by_cases hnm : p.nm = t.nm
        · have hbb := name_beq hnm
          by_cases hln : p.ts.length = t.ts.length
          · obtain ⟨S1, hS1, hyes⟩ : ∃ S1, eqf mstep m p.ts t.ts = some (r, S1) ∧ (r = true → S1 = S') := by
              have h := HST.out
              cases hx : mtcs p.ts m t.ts with
              | none =>
                rw [mstep_no (by rw [mtc_fun HV.out ⟨hvt, hnm, hln⟩]; exact hx)] at h
                simp only [Option.some.injEq, Prod.mk.injEq] at h
                obtain ⟨m1, hm1⟩ := eqf_no p.ts m t.ts hln hx
                exact ⟨m1, by rw [hm1, h.1], fun e => by rw [← h.1] at e; cases e⟩
              | some m1 =>
                rw [mstep_yes (by rw [mtc_fun HV.out ⟨hvt, hnm, hln⟩]; exact hx)] at h
                simp only [Option.some.injEq, Prod.mk.injEq] at h
                exact ⟨m1, by rw [eqf_yes p.ts m t.ts m1 hx, h.1], fun _ => h.2⟩
            have HYES := Lib.hid hyes
            have HEF := fun W (hW : Below w.heap.size w W) => Lib.hid (equalFunc_any 170 (.map (some mb)) Tryz.call170 n₀ mstep (MtI K mb) (fun S A B h hb => h.below hb) p.ts t.ts HC op ot cp ct m r S1 W hln hlp (Nat.le_trans HN.out hW.size) (HSP.out.carry hW hW.size) (HSS.out.carry hW hW.size) hS1 (HI.out.below hW))
            clear hnm hln hS1 hyes
            go_enter Tryz.func170, Tryz.ntmps170
            rw [show tmv p (.slice op p.ts.length cp) = .agg #[.string p.nm, .bool p.vr, .slice op p.ts.length cp] from rfl, HV.out, show tmv t (.slice ot t.ts.length ct) = .agg #[.string t.nm, .bool t.vr, .slice ot t.ts.length ct] from rfl, hvt]
            go_wp2_with fail
            refine (HEF _ (by go_grown)).out.mono ?_
            rintro e w3 ⟨rfl, hi3, hk3⟩
            have HI3 := Lib.hid hi3
            have HK3 := Lib.hid (KpC.trans (KpC.of_below (show Below w.heap.size w _ from by go_grown) HN.out) hk3)
            clear hi3 hk3
            go_wp2_with fail
            go_ret
            exact ⟨rfl, (fun h => by rw [← HYES.out h]; exact HI3.out h), HK3.out⟩
          · have HRF : Hid (r = false) := Lib.hid (by
              have h := HST.out
              rw [mstep_no (mtc_not HV.out fun h => hln h.2.2)] at h
              simp only [Option.some.injEq, Prod.mk.injEq] at h
              exact h.1.symm)
            have HEF := fun W => Lib.hid (equalFunc_not p.ts t.ts op ot cp ct (.func (.func 170) #[.map (some mb)] #[]) W hln)
            clear hnm hln
            go_enter Tryz.func170, Tryz.ntmps170
            rw [show tmv p (.slice op p.ts.length cp) = .agg #[.string p.nm, .bool p.vr, .slice op p.ts.length cp] from rfl, HV.out, show tmv t (.slice ot t.ts.length ct) = .agg #[.string t.nm, .bool t.vr, .slice ot t.ts.length ct] from rfl, hvt]
            go_wp2_with fail
            refine (HEF _).out.mono ?_
            rintro e w3 ⟨rfl, rfl⟩
            go_wp2_with fail
            go_ret
            rw [HRF.out]
            exact ⟨rfl, (fun h => by cases h), KpC.of_below (by go_grown) HN.out⟩
        · have hbb := name_bne hnm
          have HRF : Hid (r = false) := Lib.hid (by
            have h := HST.out
            rw [mstep_no (mtc_not HV.out fun h => hnm h.2.1)] at h
            simp only [Option.some.injEq, Prod.mk.injEq] at h
            exact h.1.symm)
          clear hnm
          go_enter Tryz.func170, Tryz.ntmps170
          rw [show tmv p (.slice op p.ts.length cp) = .agg #[.string p.nm, .bool p.vr, .slice op p.ts.length cp] from rfl, HV.out, show tmv t (.slice ot t.ts.length ct) = .agg #[.string t.nm, .bool t.vr, .slice ot t.ts.length ct] from rfl, hvt]
          go_wp2_with fail
          go_ret
          rw [HRF.out]
          exact ⟨rfl, (fun h => by cases h), KpC.of_below (by go_grown) HN.out⟩
      · have HRF : Hid (r = false) := Lib.hid (by
          have h := HST.out
          rw [mstep_no (mtc_not HV.out fun h => by rw [hvt] at h; cases h.1)] at h
          simp only [Option.some.injEq, Prod.mk.injEq] at h
          exact h.1.symm)
        go_enter Tryz.func170, Tryz.ntmps170
        rw [show tmv p (.slice op p.ts.length cp) = .agg #[.string p.nm, .bool p.vr, .slice op p.ts.length cp] from rfl, HV.out, show tmv t (.slice ot t.ts.length ct) = .agg #[.string t.nm, .bool t.vr, .slice ot t.ts.length ct] from rfl, hvt]
        go_wp2_with fail
        go_ret
        rw [HRF.out]
        exact ⟨rfl, (fun h => by cases h), KpC.of_below (by go_grown) HN.out⟩
    · have HV := Lib.hid hv
      clear ih hv
      cases hg : getA m p.nm.data.toList with
      | none =>
        have HNM : Hid (p.nm.data.toList ∉ m.map (·.1)) := Lib.hid (getA_none.1 hg)
        obtain ⟨D, hown, hhas, hinv⟩ := HI.out.map.no hg
        have HR : Hid (r = true ∧ S' = m ++ [(p.nm.data.toList, t)]) := Lib.hid (by
          have h := HST.out; rw [mstep_yes (mtc_new HV.out HNM.out)] at h
          simp only [Option.some.injEq, Prod.mk.injEq] at h; exact ⟨h.1.symm, h.2.symm⟩)
        have HOWN := Lib.hid hown
        have HHAS := Lib.hid hhas
        have HINV := Lib.hid hinv
        have hmz : m.length < maxLen := by unfold maxLen; omega
        clear hg hown hhas hinv
        go_enter Tryz.func170, Tryz.ntmps170
        rw [show tmv p (.slice op p.ts.length cp) = .agg #[.string p.nm, .bool p.vr, .slice op p.ts.length cp] from rfl, HV.out]
        go_wp2_with (first
          | (at_lookup
             refine tlook_miss _ 232 Tryz.underlying232 rfl _ _ rfl mb m.length D rfl ((HOWN.out.alloc _).alloc _) _ _ rfl HKEY.out HHAS.out ?_)
          | (at_mapUpdate
             refine wpList_mapUpdate_in _ rfl _ _ _ 232 rfl 9 25 strKeyed Tryz.underlying232 imgR mb m.length D rfl (((HOWN.out.alloc _).alloc _).alloc _) hmz _ _ _ rfl rfl HKEY.out (.held (tmv t (.slice ot t.ts.length ct))) [] rfl ?_
             intro w3 hown3 hturn3
             have HO3 := Lib.hid hown3
             have HT3 := Lib.hid hturn3
             clear hown3 hturn3))
        go_ret
        have hkp : KpC n₀ w w3 := KpC.trans (KpC.of_below (by go_grown) HN.out) (HT3.out.kpc hnb)
        rw [HR.out.1, HR.out.2]
        refine ⟨rfl, fun _ => ⟨?_, ?_, ?_⟩, hkp⟩
        · have h := TMap.store HINV.out HSS.out HO3.out hkp hkp.size
          rwa [putA_new t HNM.out] at h
        · intro q hq
          rcases List.mem_append.1 hq with hq | hq
          · exact HI.out.bulk q hq
          · obtain rfl := List.mem_singleton.1 hq; exact HTB.out
        · intro q hq
          rcases List.mem_append.1 hq with hq | hq
          · exact HI.out.keys q hq
          · obtain rfl := List.mem_singleton.1 hq; exact HVIN.out.var HV.out
      | some u =>
        obtain ⟨D, su, hown, hhas, hat, hsu⟩ := HI.out.map.at hg
        have hub : u.bulk ≤ 1048576 := HI.out.bulk _ (getA_some hg)
        have HKM : Hid (p.nm.data.toList ∈ m.map (·.1)) := Lib.hid (getA_mem.2 ⟨u, hg⟩)
        have HIM : Hid (imageOf m p.nm.data.toList = u) := Lib.hid (imageOf_get hg)
        obtain ⟨ou, cu, rfl, -⟩ := hsu.form
        have HOWN := Lib.hid hown
        have HHAS := Lib.hid hhas
        have HAT := Lib.hid hat
        have HSU := Lib.hid hsu
        clear hg hown hhas hat hsu
        have HEQ := fun W (hW : Below w.heap.size w W) => Lib.hid (tequal_any u t (.slice ou u.ts.length cu) (.slice ot t.ts.length ct) W hub HTB.out (HSU.out.carry hW hW.size) (HSS.out.carry hW hW.size))
        go_enter Tryz.func170, Tryz.ntmps170
        rw [show tmv p (.slice op p.ts.length cp) = .agg #[.string p.nm, .bool p.vr, .slice op p.ts.length cp] from rfl, HV.out]
        go_wp2_with (first
          | (at_lookup
             refine tlook_hit _ 232 Tryz.underlying232 rfl _ _ rfl mb m.length D rfl ((HOWN.out.alloc _).alloc _) _ _ rfl HKEY.out (.agg #[.string u.nm, .bool u.vr, .slice ou u.ts.length cu]) HAT.out HHAS.out ?_)
          | (go_at_call 224
             refine (HEQ _ (by go_grown)).out.mono ?_
             rintro e w3 ⟨⟨x, rfl, hx⟩, hb3⟩
             have HX := Lib.hid hx
             have HB3 : Hid (Below w.heap.size w w3) := Lib.hid (Below.trans (by go_grown) (hb3.mono (by simp; omega)))
             clear hx hb3))
        go_ret
        have hkp : KpC n₀ w w3 := KpC.of_below HB3.out HN.out
        by_cases hut : u = t
        · have hx1 : x = true := HX.out.2 hut
          have h := HST.out
          rw [mstep_yes (mtc_old HV.out HKM.out (HIM.out.trans hut))] at h
          simp only [Option.some.injEq, Prod.mk.injEq] at h
          rw [← h.1, ← h.2, hx1]
          exact ⟨rfl, fun _ => HI.out.below HB3.out, hkp⟩
        · have hx1 : x = false := by cases x; rfl; exact absurd (HX.out.1 rfl) hut
          have h := HST.out
          rw [mstep_no (mtc_clash HV.out HKM.out (fun e => hut (HIM.out.symm.trans e)))] at h
          simp only [Option.some.injEq, Prod.mk.injEq] at h
          rw [← h.1, hx1]
          exact ⟨rfl, (fun h => by cases h), hkp⟩
end Go.Proofs.YtamddagmlanijaaGreat
