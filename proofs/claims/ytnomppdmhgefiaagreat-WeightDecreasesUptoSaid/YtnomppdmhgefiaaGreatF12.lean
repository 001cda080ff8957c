/- Packed: Tms. -/
import Derived.Test.YtnomppdmhgefiaaGreatF07
import Derived.Test.YtnomppdmhgefiaaGreatF05
import Derived.Test.YtnomppdmhgefiaaGreatF06
import Derived.Test.YtnomppdmhgefiaaGreatF09
import Derived.Deep.RegionHeld3
import Derived.Test.YtnomppdmhgefiaaGreatF08
import Derived.Test.YtnomppdmhgefiaaGreatF10
import Derived.Test.YtnomppdmhgefiaaGreatF11
/- Merged: Rmt, Rma, Rst5, Sst, Stp5, Tms. -/
/- The reference's matching. -/
namespace Go.Proofs.YtnomppdmhgefiaaGreat
open Go.RowKit

set_option maxRecDepth 100000 in
set_option maxHeartbeats 2000000 in
theorem rbound_any (bl : List Bd) (k : Key) (v : Value) (w : World) (n : Nat) (hn : n ≤ w.heap.size) (hl : BindsIs n w bl v) (hlen : bl.length ≤ 100000000) :
    Calls Tryz.prog 260 #[v, .string (kb k)] w fun e w' => (∃ b, e = .returned (.bool b) ∧ (b = true ↔ k ∈ bl.map (·.1))) ∧ Below w.heap.size w w' := by
  obtain ⟨oa, cap, rfl, hcap, hc⟩ := hl
  have HC := Lib.hid hc
  clear hc
  go_enter Tryz.func260, Tryz.ntmps260
  go_wp2_with fail
  go_loopw [9] (fun i wr => ∃ j : Nat, j ≤ bl.length ∧ i = .int .i64 j ∧ Hid (∀ q ∈ bl.take j, q.1 ≠ k) ∧ Below w.heap.size w wr) (fun i _ => bl.length - (intOf i).toNat)
  case atStart => exact ⟨0, by omega, rfl, Lib.hid (by simp), Below.refl _ _⟩
  case round =>
    obtain ⟨j, hj, rfl, HE, hbw⟩ := hrel
    have HWR := Lib.hid hbw
    by_cases hlt : j < bl.length
    · obtain ⟨p, hp⟩ : ∃ p, bl[j]? = some p := ⟨_, List.getElem?_eq_getElem hlt⟩
      obtain ⟨b1, o1, rfl, hbn, hc1⟩ := HC.out (by rintro rfl; simp at hlt)
      obtain ⟨s, c0, c1, c2, c3, hs⟩ := hc1 j p hp
      have c0 := (hbw.cell (p := ⟨b1, _, none⟩) (Nat.lt_of_lt_of_le hbn hn)).trans c0
      have c1 := (hbw.cell (p := ⟨b1, _, none⟩) (Nat.lt_of_lt_of_le hbn hn)).trans c1
      have c2 := (hbw.cell (p := ⟨b1, _, none⟩) (Nat.lt_of_lt_of_le hbn hn)).trans c2
      have c3 := (hbw.cell (p := ⟨b1, _, none⟩) (Nat.lt_of_lt_of_le hbn hn)).trans c3
      obtain ⟨os, cs, rfl, -⟩ := hs.form
      have HP := Lib.hid hp
      clear hc1 hp hs hbw
      by_cases hxk : p.1 = k
      · have hbb := kb_beq_yes hxk
        have HI := Lib.hid (show k ∈ bl.map (·.1) from List.mem_map.2 ⟨p, List.mem_of_getElem? HP.out, hxk⟩)
        clear hxk
        go_wp2_with fail
        go_ret
        exact ⟨⟨true, rfl, fun _ => HI.out, fun _ => rfl⟩, HWR.out.alloc HWR.out.size _⟩
      · have hbb := kb_beq_no hxk
        have HX := Lib.hid hxk
        clear hxk
        go_wp2_with fail
        exact ⟨⟨j + 1, by omega, by go_num, Lib.hid (fun q hq => by
          rw [List.take_add_one, HP.out] at hq
          simp only [Option.toList_some, List.mem_append, List.mem_singleton] at hq
          rcases hq with hq | rfl
          · exact HE.out q hq
          · exact HX.out), HWR.out.alloc HWR.out.size _⟩, by simp [intOf]; omega⟩
    · have HI := Lib.hid (show ¬ k ∈ bl.map (·.1) from by
        have h := HE.out
        rw [List.take_of_length_le (by omega)] at h
        intro hk
        obtain ⟨q, hq, e⟩ := List.mem_map.1 hk
        exact h q hq e)
      clear hbw
      go_wp2_with fail
      go_ret
      exact ⟨⟨false, rfl, nofun, fun h => absurd h HI.out⟩, HWR.out⟩

theorem encE_at {W : World} {b : Nat} {x : Elem} {e : TypeId} (h : W.heap[b]? = some (.cells (encE x).toArray e (0, 0))) : ∀ j u, (encE x)[j]? = some u → W.cell? ((⟨b, 0, none⟩ : Addr).add j) = some u := by
  intro j u hj
  rw [ad_add]
  have := cells_of' h j
  rw [List.getElem?_toArray, hj] at this
  simpa using this
theorem ecells_one (l : List Elem) : ∀ v ∈ ecells l, v.oneCell' = true := fun v hv => by
  obtain ⟨x, _, hx⟩ := List.mem_flatMap.1 hv
  exact encE_one x v hx
theorem BindsN.ofE {q : Nat × Nat × Nat} {W : World} {m n : Nat} {e : TypeId} {v : Value} {es : List Elem} (h : W.ownsRow m e 4 v es.length (ecells es)) (hn : W.heap.size ≤ n) (hk : ∀ x ∈ es, SlN q n W x.1.2.ts (Elem.sl x)) : BindsN q n W (es.map (·.1)) v := by
  have h0 := h
  rcases h.2 with ⟨rfl, hl⟩ | ⟨g, cap, cur, rfl, hb, hg, hle, _⟩
  · obtain rfl : es = [] := List.length_eq_zero_iff.1 hl
    exact ⟨none, 0, rfl, Nat.le_refl _, fun h => absurd rfl h⟩
  · refine ⟨_, cap, by rw [List.length_map], by rw [List.length_map]; exact hle, fun _ => ⟨g, 0, rfl, Nat.lt_of_lt_of_le (Array.getElem?_eq_some_iff.1 hg).1 hn, fun i p hp => ?_⟩⟩
    rw [List.getElem?_map, Option.map_eq_some_iff] at hp
    obtain ⟨x, hx, rfl⟩ := hp
    have key : ∀ c v, (encE x)[c]? = some v → c < 4 → W.cell? ⟨g, 0 + i * 4 + c, none⟩ = some v := fun c v hv hc => by
      have h1 := ecells_at es i c x hx hc
      rw [hv] at h1
      have := h0.cells (g := g) rfl _ v h1
      rw [ad_add] at this
      rwa [Nat.zero_add] at this ⊢
    exact ⟨Elem.sl x, key 0 _ rfl (by omega), key 1 _ rfl (by omega), key 2 _ rfl (by omega), key 3 _ rfl (by omega), hk x (List.mem_of_getElem? hx)⟩
/-- bindings in memory, with the slices of their terms -/
theorem BindsN.elems {q : Nat × Nat × Nat} {n : Nat} {W : World} {bl : List Bd} {b o cap : Nat} (h : BindsN q n W bl (.slice (some ⟨b, o, none⟩) bl.length cap)) :
    ∃ es : List Elem, es.map (·.1) = bl ∧ (∀ x ∈ es, SlN q n W x.1.2.ts x.sl) ∧ (bl ≠ [] → b < n) ∧ ∀ i u, (ecells es)[i]? = some u → W.cell? ⟨b, o + i, none⟩ = some u := by
  have key : ∀ i, i < bl.length → ∃ x : Elem, bl[i]? = some x.1 ∧ SlN q n W x.1.2.ts x.sl ∧ b < n ∧ ∀ c u, (encE x)[c]? = some u → c < 4 → W.cell? ⟨b, o + i * 4 + c, none⟩ = some u := fun i hi => by
    obtain ⟨b', o', p, s, e, hb, hp, -, hs, c0, c1, c2, c3⟩ := h.get hi
    cases e
    obtain ⟨os, cs, rfl, -⟩ := hs.form
    refine ⟨(p, (os, p.2.ts.length, cs)), hp, hs, hb, fun c u hu hc => ?_⟩
    match c, hc with
    | 0, _ => cases hu; exact c0
    | 1, _ => cases hu; exact c1
    | 2, _ => cases hu; exact c2
    | 3, _ => cases hu; exact c3
  obtain ⟨E, hE⟩ := Go.Deep.choose_lt (α := Elem) key
  have hat : ∀ i, i < bl.length → ((List.range bl.length).map E)[i]? = some (E i) := fun i hi => by rw [List.getElem?_map, List.getElem?_range hi]; rfl
  refine ⟨(List.range bl.length).map E, List.ext_getElem? fun i => ?_, fun x hx => ?_, fun hne => ?_, fun i u hu => ?_⟩
  · by_cases hi : i < bl.length
    · rw [List.getElem?_map, hat i hi, (hE i hi).1]; rfl
    · rw [List.getElem?_eq_none (by simp; omega), List.getElem?_eq_none (by omega)]
  · obtain ⟨i, hi, rfl⟩ := List.mem_map.1 hx
    exact (hE i (List.mem_range.1 hi)).2.1
  · exact (hE 0 (List.length_pos_iff.2 hne)).2.2.1
  · have hlt := (List.getElem?_eq_some_iff.1 hu).1
    rw [ecells_length, List.length_map, List.length_range] at hlt
    have hi4 : i / 4 < bl.length := by omega
    have h4 : i % 4 < 4 := Nat.mod_lt _ (by omega)
    have hh := ecells_at _ (i / 4) (i % 4) _ (hat _ hi4) h4
    have e : i / 4 * 4 + i % 4 = i := by omega
    rw [e, hu] at hh
    have := (hE _ hi4).2.2.2 (i % 4) u hh.symm h4
    rwa [Nat.add_assoc, e] at this
theorem ecells_append_one (a : List Elem) (x : Elem) : ecells (a ++ [x]) = ecells a ++ encE x := by rw [ecells_append]; simp [ecells]
theorem withS {wr w' : World} {p : Nat} {x y z : Value} (h : wr.cell? ⟨p, 0, none⟩ = some x ∧ wr.cell? ⟨p, 1, none⟩ = some y ∧ wr.cell? ⟨p, 2, none⟩ = some z) (hp : p < wr.heap.size) (hb : Below wr.heap.size wr w') :
    wr.heap.size ≤ w'.heap.size ∧ w'.cell? ⟨p, 0, none⟩ = some x ∧ w'.cell? ⟨p, 1, none⟩ = some y ∧ w'.cell? ⟨p, 2, none⟩ = some z :=
  ⟨hb.size, (hb.cell (p := ⟨p, _, none⟩) hp).trans h.1, (hb.cell (p := ⟨p, _, none⟩) hp).trans h.2.1, (hb.cell (p := ⟨p, _, none⟩) hp).trans h.2.2⟩
theorem ownsRow_made4 {W : World} {g : Nat} {e : TypeId} (base : Nat) (h : W.heap[g]? = some (.cells #[] e (0, 0))) (hb : base ≤ g) : W.ownsRow base e 4 (.slice (some ⟨g, 0, none⟩) 0 0) 0 [] :=
  ⟨by simp, .inr ⟨g, 0, #[], rfl, hb, h, Nat.le_refl _, by simp, by simp, by simp⟩⟩
theorem ownsRow_pos {W : World} {m n size : Nat} {e : TypeId} {v : Value} {xs : List Value} (h : W.ownsRow m e size v n xs) (hn : 0 < n) : ∃ g c, v = .slice (some ⟨g, 0, none⟩) n c := by
  rcases h.2 with ⟨rfl, rfl⟩ | ⟨g, cap, cur, rfl, _⟩
  · omega
  · exact ⟨_, _, rfl⟩
theorem ecells_take (es : List Elem) (j : Nat) : ∀ (i : Nat) (u : Value), (ecells (es.take j))[i]? = some u → (ecells es)[i]? = some u := by
  intro i u h
  have hlt := (List.getElem?_eq_some_iff.1 h).1
  rw [← List.take_append_drop j es, ecells_append, List.getElem?_append_left hlt]
  exact h
theorem ecells_drop (es : List Elem) (j : Nat) (hj : j ≤ es.length) : ∀ (i : Nat) (u : Value), (ecells (es.drop j))[i]? = some u → (ecells es)[j * 4 + i]? = some u := by
  intro i u h
  have hl : (ecells (es.take j)).length = j * 4 := by rw [ecells_length, List.length_take, Nat.min_eq_left hj]
  conv => lhs; rw [← List.take_append_drop j es, ecells_append]
  rw [List.getElem?_append_right (by omega), hl, Nat.add_sub_cancel_left]
  exact h

set_option maxRecDepth 100000 in
set_option maxHeartbeats 8000000 in
theorem rwith_some (q : Nat × Nat × Nat) (bl : List Bd) (k : Key) (t : Tm) (s : Value) (b1 o1 cap : Nat) (w : World) (hl : BindsN q w.heap.size w bl (.slice (some ⟨b1, o1, none⟩) bl.length cap)) (hcap : bl.length ≤ cap) (hlen : bl.length ≤ 1048576) (hk : ∀ x ∈ bl, x.1.length ≤ 1048576) (hkl : k.length ≤ 1048576) (hs : SlN q w.heap.size w t.ts s) :
    Calls Tryz.prog 261 #[.slice (some ⟨b1, o1, none⟩) bl.length cap, .string (kb k), tmv t s] w fun e w' => (∃ j v', e = .returned v' ∧ j ≤ bl.length ∧ BindsN q w'.heap.size w' (bl.take j ++ (k, t) :: bl.drop j) v' ∧ ∃ g c, v' = .slice (some ⟨g, 0, none⟩) (bl.length + 1) c) ∧ Below w.heap.size w w' := by
  obtain ⟨i0, hi, hz, hs1, hb1⟩ := info_parts infoBind
  have HI := Lib.hid hi
  have HZ := Lib.hid hz
  have HS1 := Lib.hid hs1
  have HB1 := Lib.hid hb1
  obtain ⟨es, hes, hsl, hbn, hce⟩ := hl.elems
  have hel : es.length = bl.length := by rw [← hes, List.length_map]
  have HEL := Lib.hid hel
  have HES := Lib.hid hes
  have HSL := Lib.hid hsl
  have HBN := Lib.hid hbn
  have HCE := Lib.hid hce
  have HK := Lib.hid hk
  obtain ⟨os, cs, rfl, -⟩ := hs.form
  have HS := Lib.hid hs
  have HB0 : Hid (Below w.heap.size w (w.alloc (.cells #[.string t.nm, .bool t.vr, .slice os t.ts.length cs] 25))) := Lib.hid (by go_grown)
  have HR0 := Lib.hid (heap_new_at w (.cells #[.string t.nm, .bool t.vr, .slice os t.ts.length cs] 25) w.heap.size rfl)
  clear hi hz hs1 hb1 hs hl hes hsl hbn hce hk hel
  go_enter Tryz.func261, Tryz.ntmps261
  rw [show tmv t (.slice os t.ts.length cs) = .agg #[.string t.nm, .bool t.vr, .slice os t.ts.length cs] from rfl]
  go_wp2_with fail
  go_loopw [7] (fun i wr => ∃ j : Nat, j ≤ bl.length ∧ i = .int .i64 j ∧ Hid (Below (w.heap.size + 1) (w.alloc (.cells #[.string t.nm, .bool t.vr, .slice os t.ts.length cs] 25)) wr)) (fun i _ => bl.length - (intOf i).toNat)
  case atStart => exact ⟨0, by omega, rfl, Lib.hid (Below.refl _ _)⟩
  case round =>
    obtain ⟨j, hj, rfl, HBW⟩ := hrel
    have hjc : j ≤ cap := by omega
    by_cases hlt : j < bl.length
    · have hlt' : j < es.length := by rw [HEL.out]; exact hlt
      have hx : es[j]? = some es[j] := List.getElem?_eq_getElem hlt'
      have hb1 := HBN.out (by rintro rfl; simp at hlt)
      have c0 := HCE.out (j * 4 + 0) _ (by rw [ecells_at es j 0 _ hx (by omega)]; rfl)
      have hz := HBW.out.size
      simp only [World.size_alloc] at hz
      have hwr := HB0.out.trans (HBW.out.mono (by omega))
      have c0 := (hwr.cell (p := ⟨b1, _, none⟩) hb1).trans c0
      have hxl : es[j].1.1.length ≤ 1048576 := HK.out _ (by rw [← HES.out]; exact List.mem_map.2 ⟨_, List.getElem_mem hlt', rfl⟩)
      have HWR := Lib.hid hwr
      clear hx hwr
      generalize es[j] = x at c0 hxl
      simp only [Nat.add_zero] at c0
      go_wp2_with fail
      refine (cmpNames_full (kb x.1.1) (kb k) _ (by show x.1.1.toArray.size ≤ _; simpa using hxl) (by show k.toArray.size ≤ _; simpa using hkl)).mono ?_
      rintro e wr1 ⟨⟨c1, rfl, -, -⟩, hb1'⟩
      have HBX := Lib.hid (HBW.out.trans (hb1'.mono hz))
      clear hb1' hz
      by_cases hc0 : c1 < 0
      · go_wp2_with fail
        exact ⟨⟨j + 1, by omega, by go_num, HBX⟩, by simp [intOf]; omega⟩
      · have hcj : ¬ cap = j := by omega
        clear c0 hxl HWR
        go_wp2_with fail
        have hwr := HB0.out.trans (HBX.out.mono (by omega))
        have hrb := (HBX.out.block w.heap.size (by simp)).trans HR0.out
        obtain ⟨⟨q0, q1, q2⟩, -⟩ := box3 hrb
        have HQ := Lib.hid (And.intro q0 (And.intro q1 q2))
        have HPL := Lib.hid (Array.getElem?_eq_some_iff.1 hrb).1
        have HJE : Hid (j ≤ es.length) := Lib.hid (by rw [HEL.out]; exact hj)
        have HCW : Hid (∀ W, Below wr1.heap.size wr1 W → ∀ i u, (ecells es)[i]? = some u → W.cell? ⟨b1, o1 + i, none⟩ = some u) := Lib.hid (fun W hW i u hu => by
          have hne : bl ≠ [] := by rintro rfl; have := HEL.out; simp at this; subst this; simp [ecells] at hu
          have hb := HBN.out hne
          exact (hW.cell (p := ⟨b1, _, none⟩) (Nat.lt_of_lt_of_le hb hwr.size)).trans ((hwr.cell (p := ⟨b1, _, none⟩) hb).trans (HCE.out i u hu)))
        have HDR : Hid (∀ W, Below wr1.heap.size wr1 W → ∀ oa : Option Addr, (¬ cap = j → oa = some ⟨b1, o1 + j * 4, none⟩) → ∀ ad, oa = some ad → ∀ i u, (ecells (es.drop j))[i]? = some u → W.cell? (ad.add i) = some u) := Lib.hid (fun W hW oa hoa ad had i u hu => by
          have hlt := (List.getElem?_eq_some_iff.1 hu).1
          rw [ecells_length, List.length_drop, HEL.out] at hlt
          rw [hoa (by omega)] at had
          cases had
          rw [ad_add, Nat.add_assoc]
          exact HCW.out W hW _ _ (ecells_drop es j HJE.out i u hu))
        have HWR1 := Lib.hid hwr
        clear hwr hrb
        go_region_held3 (fun w' => wr1.heap.size ≤ w'.heap.size ∧ w'.cell? ⟨w.heap.size, 0, none⟩ = some (.string t.nm) ∧ w'.cell? ⟨w.heap.size, 1, none⟩ = some (.bool t.vr) ∧ w'.cell? ⟨w.heap.size, 2, none⟩ = some (.slice os t.ts.length cs)) (first | exact withS HQ.out HPL.out HBL3.out | exact withS HQ.out HPL.out HBL2.out | exact withS HQ.out HPL.out HBL1.out | exact withS HQ.out HPL.out (HBL1.out.alloc HBL1.out.size _) | exact withS HQ.out HPL.out (by go_grown)) ((first
          | (refine step_append_opt rfl (.tmp 24) (.tmp 27) 29 rfl wr1.heap.size 105 i0 (.agg #[.string ⟨#[]⟩, .string ⟨#[]⟩, .bool false, .slice none 0 0]) 4 64 Tryz.underlying29 HI.out HZ.out HS1.out HB1.out rfl (by decide) (.slice (some ⟨wr1.heap.size, 0, none⟩) 0 0) 0 [] rfl ?own (some ⟨b1, o1, none⟩) j _ (ecells (es.take j)) rfl (by rw [ecells_length, List.length_take, HEL.out, Nat.min_eq_left hj]) (fun h => by cases h) (fun ad had => by cases had; intro i u hu; rw [ad_add]; exact HCW.out _ (by go_grown) _ _ (ecells_take es j i u hu)) (ecells_one _) (by unfold maxLen; omega) (by omega) (by first | (simp; done) | (simp; omega)) ?_
             case own => first
               | exact ownsRow_made4 _ (heap_new_at _ _ _ (by simp)) (by simp)
               | exact ownsRow_made4 _ ((Below.heap_alloc _ _ _ (by simp)).trans (heap_new_at _ _ _ (by simp))) (by simp)
             intro v1 w1 ho1 hg1 hat1
             have hb1 := (show Below wr1.heap.size wr1 _ from by go_grown).grown hg1 (by first | (simp; done) | (simp; omega)) (by simp [Value.ownBlock])
             first
             | (have HK1 := Lib.hid ((hg1.block (wr1.heap.size + 1) (by simp) (by simp [Value.ownBlock])).trans (heap_new_at _ (.cells (encE ((k, t), (os, t.ts.length, cs))).toArray 105) _ (by simp))))
             | skip
             have HZ1 := Lib.hid (show wr1.heap.size < w1.heap.size from by have := hg1.size; simp at this; omega)
             have HO1 := Lib.hid ho1
             have HBL1 := Lib.hid hb1
             clear ho1 hg1 hat1 hb1)
          | (refine step_append_opt rfl (.tmp 24) (.tmp 27) 29 rfl wr1.heap.size 105 i0 (.agg #[.string ⟨#[]⟩, .string ⟨#[]⟩, .bool false, .slice none 0 0]) 4 64 Tryz.underlying29 HI.out HZ.out HS1.out HB1.out rfl (by decide) (.slice (some ⟨wr1.heap.size + 1, 0, none⟩) 0 0) 0 [] rfl ?own (some ⟨b1, o1, none⟩) j _ (ecells (es.take j)) rfl (by rw [ecells_length, List.length_take, HEL.out, Nat.min_eq_left hj]) (fun h => by cases h) (fun ad had => by cases had; intro i u hu; rw [ad_add]; exact HCW.out _ (by go_grown) _ _ (ecells_take es j i u hu)) (ecells_one _) (by unfold maxLen; omega) (by omega) (by first | (simp; done) | (simp; omega)) ?_
             case own => exact ownsRow_made4 _ (heap_new_at _ _ _ (by simp)) (by simp)
             intro v1 w1 ho1 hg1 hat1
             have hb1 := (show Below wr1.heap.size wr1 _ from by go_grown).grown hg1 (by first | (simp; done) | (simp; omega)) (by first | (simp [Value.ownBlock]; done) | (simp [Value.ownBlock]; omega))
             have HK1 := Lib.hid ((hg1.block wr1.heap.size (by first | (simp; done) | (simp; omega)) (by simp [Value.ownBlock])).trans ((Below.heap_alloc _ _ _ (by simp)).trans (heap_new_at _ (.cells (encE ((k, t), (os, t.ts.length, cs))).toArray 105) _ (by simp))))
             have HZ1 := Lib.hid (show wr1.heap.size < w1.heap.size from by have := hg1.size; simp at this; omega)
             have HO1 := Lib.hid ho1
             have HBL1 := Lib.hid hb1
             clear ho1 hg1 hat1 hb1)
          | (refine step_append_opt rfl (.tmp 28) (.tmp 32) 29 rfl wr1.heap.size 105 i0 (.agg #[.string ⟨#[]⟩, .string ⟨#[]⟩, .bool false, .slice none 0 0]) 4 64 Tryz.underlying29 HI.out HZ.out HS1.out HB1.out rfl (by decide) v1 (0 + j) ([] ++ ecells (es.take j)) rfl (HO1.out.alloc _) (some ⟨_, 0, none⟩) 1 1 (encE ((k, t), (os, t.ts.length, cs))) rfl rfl (fun h => by cases h) (fun ad had => by cases had; exact cells_new4 _ ((k, t), (os, t.ts.length, cs)) _) (encE_one _) (by unfold maxLen; omega) (by omega) (by have := HZ1.out; first | (simp; done) | (simp; omega)) ?_
             intro v2 w2 ho2 hg2 hat2
             have hz1 := HZ1.out
             have hb2 := (show Below wr1.heap.size wr1 _ from HBL1.out.alloc (by omega) _).grown hg2 (by first | (simp; done) | (simp; omega)) (fun k hk => (HO1.out.lt k hk).1)
             have HO2 := Lib.hid ho2
             have HBL2 := Lib.hid hb2
             have HZ2 := Lib.hid hb2.size
             clear ho2 hg2 hat2 hb2 hz1)
          | (refine step_append_opt rfl (.tmp 28) (.tmp 32) 29 rfl wr1.heap.size 105 i0 (.agg #[.string ⟨#[]⟩, .string ⟨#[]⟩, .bool false, .slice none 0 0]) 4 64 Tryz.underlying29 HI.out HZ.out HS1.out HB1.out rfl (by decide) v1 (0 + j) ([] ++ ecells (es.take j)) rfl HO1.out (some ⟨_, 0, none⟩) 1 1 (encE ((k, t), (os, t.ts.length, cs))) rfl rfl (fun h => by cases h) (fun ad had => by cases had; exact encE_at HK1.out) (encE_one _) (by unfold maxLen; omega) (by omega) (by have := HZ1.out; omega) ?_
             intro v2 w2 ho2 hg2 hat2
             have hz1 := HZ1.out
             have hb2 := (show Below wr1.heap.size wr1 _ from HBL1.out).grown hg2 (by omega) (fun k hk => (HO1.out.lt k hk).1)
             have HO2 := Lib.hid ho2
             have HBL2 := Lib.hid hb2
             have HZ2 := Lib.hid hb2.size
             clear ho2 hg2 hat2 hb2 hz1)
          | (refine step_append_opt rfl (.tmp 33) (.tmp 36) 29 rfl wr1.heap.size 105 i0 (.agg #[.string ⟨#[]⟩, .string ⟨#[]⟩, .bool false, .slice none 0 0]) 4 64 Tryz.underlying29 HI.out HZ.out HS1.out HB1.out rfl (by decide) v2 (0 + j + 1) ([] ++ ecells (es.take j) ++ encE ((k, t), (os, t.ts.length, cs))) rfl HO2.out _ (bl.length - j) _ (ecells (es.drop j)) rfl (by rw [ecells_length, List.length_drop, HEL.out]) (fun h => by cases h) (HDR.out _ HBL2.out _ (fun h => by first | rfl | exact absurd hcj h)) (ecells_one _) (by unfold maxLen; omega) (by omega) HZ2.out ?_
             intro v3 w3 ho3 hg3 hat3
             have HO3 := Lib.hid ho3
             have HBL3 := Lib.hid (HBL2.out.grown hg3 HZ2.out (fun k hk => (HO2.out.lt k hk).1))
             have HZ3 := Lib.hid HBL3.out.size
             clear ho3 hg3 hat3)
          ))
        all_goals
          go_wp2_with fail
          go_ret
          have hbf := HWR1.out.trans (HBL3.out.mono HWR1.out.size)
          have h3 := HO3.out
          rw [List.nil_append, ← ecells_append_one, ← ecells_append] at h3
          have hl3 : (es.take j ++ [((k, t), (os, t.ts.length, cs))] ++ es.drop j).length = 0 + j + 1 + (bl.length - j) := by have := HEL.out; simp; omega
          rw [← hl3] at h3
          obtain ⟨g, c, rfl⟩ := ownsRow_pos h3 (by simp; omega)
          have hB := BindsN.ofE h3 (Nat.le_refl _) (fun x hx => by
            rcases List.mem_append.1 hx with hx | hx
            · rcases List.mem_append.1 hx with hx | hx
              · exact (HSL.out x (List.mem_of_mem_take hx)).carry hbf hbf.size
              · obtain rfl := List.mem_singleton.1 hx
                exact HS.out.carry hbf hbf.size
            · exact (HSL.out x (List.mem_of_mem_drop hx)).carry hbf hbf.size)
          rw [List.map_append, List.map_append, List.map_take, List.map_drop, HES.out] at hB
          refine ⟨⟨j, _, rfl, hj, by simpa using hB, g, c, ?_⟩, hbf⟩
          have : (es.take j ++ [((k, t), (os, t.ts.length, cs))] ++ es.drop j).length = bl.length + 1 := by rw [hl3]; omega
          rw [this]
          rfl
    · obtain ⟨wr1, rfl⟩ : ∃ W, W = wr := ⟨wr, rfl⟩
      have HBX := HBW
      clear HBW
      go_wp2_with fail
      have hwr := HB0.out.trans (HBX.out.mono (by omega))
      have hrb := (HBX.out.block w.heap.size (by simp)).trans HR0.out
      obtain ⟨⟨q0, q1, q2⟩, -⟩ := box3 hrb
      have HQ := Lib.hid (And.intro q0 (And.intro q1 q2))
      have HPL := Lib.hid (Array.getElem?_eq_some_iff.1 hrb).1
      have HJE : Hid (j ≤ es.length) := Lib.hid (by rw [HEL.out]; exact hj)
      have HCW : Hid (∀ W, Below wr1.heap.size wr1 W → ∀ i u, (ecells es)[i]? = some u → W.cell? ⟨b1, o1 + i, none⟩ = some u) := Lib.hid (fun W hW i u hu => by
        have hne : bl ≠ [] := by rintro rfl; have := HEL.out; simp at this; subst this; simp [ecells] at hu
        have hb := HBN.out hne
        exact (hW.cell (p := ⟨b1, _, none⟩) (Nat.lt_of_lt_of_le hb hwr.size)).trans ((hwr.cell (p := ⟨b1, _, none⟩) hb).trans (HCE.out i u hu)))
      have HDR : Hid (∀ W, Below wr1.heap.size wr1 W → ∀ oa : Option Addr, (¬ cap = j → oa = some ⟨b1, o1 + j * 4, none⟩) → ∀ ad, oa = some ad → ∀ i u, (ecells (es.drop j))[i]? = some u → W.cell? (ad.add i) = some u) := Lib.hid (fun W hW oa hoa ad had i u hu => by
        have hlt := (List.getElem?_eq_some_iff.1 hu).1
        rw [ecells_length, List.length_drop, HEL.out] at hlt
        rw [hoa (by omega)] at had
        cases had
        rw [ad_add, Nat.add_assoc]
        exact HCW.out W hW _ _ (ecells_drop es j HJE.out i u hu))
      have HWR1 := Lib.hid hwr
      clear hwr hrb
      by_cases hcj : cap = j
      all_goals
        go_region_held3 (fun w' => wr1.heap.size ≤ w'.heap.size ∧ w'.cell? ⟨w.heap.size, 0, none⟩ = some (.string t.nm) ∧ w'.cell? ⟨w.heap.size, 1, none⟩ = some (.bool t.vr) ∧ w'.cell? ⟨w.heap.size, 2, none⟩ = some (.slice os t.ts.length cs)) (first | exact withS HQ.out HPL.out HBL3.out | exact withS HQ.out HPL.out HBL2.out | exact withS HQ.out HPL.out HBL1.out | exact withS HQ.out HPL.out (HBL1.out.alloc HBL1.out.size _) | exact withS HQ.out HPL.out (by go_grown)) ((first
          | (refine step_append_opt rfl (.tmp 24) (.tmp 27) 29 rfl wr1.heap.size 105 i0 (.agg #[.string ⟨#[]⟩, .string ⟨#[]⟩, .bool false, .slice none 0 0]) 4 64 Tryz.underlying29 HI.out HZ.out HS1.out HB1.out rfl (by decide) (.slice (some ⟨wr1.heap.size, 0, none⟩) 0 0) 0 [] rfl ?own (some ⟨b1, o1, none⟩) j _ (ecells (es.take j)) rfl (by rw [ecells_length, List.length_take, HEL.out, Nat.min_eq_left hj]) (fun h => by cases h) (fun ad had => by cases had; intro i u hu; rw [ad_add]; exact HCW.out _ (by go_grown) _ _ (ecells_take es j i u hu)) (ecells_one _) (by unfold maxLen; omega) (by omega) (by first | (simp; done) | (simp; omega)) ?_
             case own => first
               | exact ownsRow_made4 _ (heap_new_at _ _ _ (by simp)) (by simp)
               | exact ownsRow_made4 _ ((Below.heap_alloc _ _ _ (by simp)).trans (heap_new_at _ _ _ (by simp))) (by simp)
             intro v1 w1 ho1 hg1 hat1
             have hb1 := (show Below wr1.heap.size wr1 _ from by go_grown).grown hg1 (by first | (simp; done) | (simp; omega)) (by simp [Value.ownBlock])
             first
             | (have HK1 := Lib.hid ((hg1.block (wr1.heap.size + 1) (by simp) (by simp [Value.ownBlock])).trans (heap_new_at _ (.cells (encE ((k, t), (os, t.ts.length, cs))).toArray 105) _ (by simp))))
             | skip
             have HZ1 := Lib.hid (show wr1.heap.size < w1.heap.size from by have := hg1.size; simp at this; omega)
             have HO1 := Lib.hid ho1
             have HBL1 := Lib.hid hb1
             clear ho1 hg1 hat1 hb1)
          | (refine step_append_opt rfl (.tmp 24) (.tmp 27) 29 rfl wr1.heap.size 105 i0 (.agg #[.string ⟨#[]⟩, .string ⟨#[]⟩, .bool false, .slice none 0 0]) 4 64 Tryz.underlying29 HI.out HZ.out HS1.out HB1.out rfl (by decide) (.slice (some ⟨wr1.heap.size + 1, 0, none⟩) 0 0) 0 [] rfl ?own (some ⟨b1, o1, none⟩) j _ (ecells (es.take j)) rfl (by rw [ecells_length, List.length_take, HEL.out, Nat.min_eq_left hj]) (fun h => by cases h) (fun ad had => by cases had; intro i u hu; rw [ad_add]; exact HCW.out _ (by go_grown) _ _ (ecells_take es j i u hu)) (ecells_one _) (by unfold maxLen; omega) (by omega) (by first | (simp; done) | (simp; omega)) ?_
             case own => exact ownsRow_made4 _ (heap_new_at _ _ _ (by simp)) (by simp)
             intro v1 w1 ho1 hg1 hat1
             have hb1 := (show Below wr1.heap.size wr1 _ from by go_grown).grown hg1 (by first | (simp; done) | (simp; omega)) (by first | (simp [Value.ownBlock]; done) | (simp [Value.ownBlock]; omega))
             have HK1 := Lib.hid ((hg1.block wr1.heap.size (by first | (simp; done) | (simp; omega)) (by simp [Value.ownBlock])).trans ((Below.heap_alloc _ _ _ (by simp)).trans (heap_new_at _ (.cells (encE ((k, t), (os, t.ts.length, cs))).toArray 105) _ (by simp))))
             have HZ1 := Lib.hid (show wr1.heap.size < w1.heap.size from by have := hg1.size; simp at this; omega)
             have HO1 := Lib.hid ho1
             have HBL1 := Lib.hid hb1
             clear ho1 hg1 hat1 hb1)
          | (refine step_append_opt rfl (.tmp 28) (.tmp 32) 29 rfl wr1.heap.size 105 i0 (.agg #[.string ⟨#[]⟩, .string ⟨#[]⟩, .bool false, .slice none 0 0]) 4 64 Tryz.underlying29 HI.out HZ.out HS1.out HB1.out rfl (by decide) v1 (0 + j) ([] ++ ecells (es.take j)) rfl (HO1.out.alloc _) (some ⟨_, 0, none⟩) 1 1 (encE ((k, t), (os, t.ts.length, cs))) rfl rfl (fun h => by cases h) (fun ad had => by cases had; exact cells_new4 _ ((k, t), (os, t.ts.length, cs)) _) (encE_one _) (by unfold maxLen; omega) (by omega) (by have := HZ1.out; first | (simp; done) | (simp; omega)) ?_
             intro v2 w2 ho2 hg2 hat2
             have hz1 := HZ1.out
             have hb2 := (show Below wr1.heap.size wr1 _ from HBL1.out.alloc (by omega) _).grown hg2 (by first | (simp; done) | (simp; omega)) (fun k hk => (HO1.out.lt k hk).1)
             have HO2 := Lib.hid ho2
             have HBL2 := Lib.hid hb2
             have HZ2 := Lib.hid hb2.size
             clear ho2 hg2 hat2 hb2 hz1)
          | (refine step_append_opt rfl (.tmp 28) (.tmp 32) 29 rfl wr1.heap.size 105 i0 (.agg #[.string ⟨#[]⟩, .string ⟨#[]⟩, .bool false, .slice none 0 0]) 4 64 Tryz.underlying29 HI.out HZ.out HS1.out HB1.out rfl (by decide) v1 (0 + j) ([] ++ ecells (es.take j)) rfl HO1.out (some ⟨_, 0, none⟩) 1 1 (encE ((k, t), (os, t.ts.length, cs))) rfl rfl (fun h => by cases h) (fun ad had => by cases had; exact encE_at HK1.out) (encE_one _) (by unfold maxLen; omega) (by omega) (by have := HZ1.out; omega) ?_
             intro v2 w2 ho2 hg2 hat2
             have hz1 := HZ1.out
             have hb2 := (show Below wr1.heap.size wr1 _ from HBL1.out).grown hg2 (by omega) (fun k hk => (HO1.out.lt k hk).1)
             have HO2 := Lib.hid ho2
             have HBL2 := Lib.hid hb2
             have HZ2 := Lib.hid hb2.size
             clear ho2 hg2 hat2 hb2 hz1)
          | (refine step_append_opt rfl (.tmp 33) (.tmp 36) 29 rfl wr1.heap.size 105 i0 (.agg #[.string ⟨#[]⟩, .string ⟨#[]⟩, .bool false, .slice none 0 0]) 4 64 Tryz.underlying29 HI.out HZ.out HS1.out HB1.out rfl (by decide) v2 (0 + j + 1) ([] ++ ecells (es.take j) ++ encE ((k, t), (os, t.ts.length, cs))) rfl HO2.out _ (bl.length - j) _ (ecells (es.drop j)) rfl (by rw [ecells_length, List.length_drop, HEL.out]) (fun h => by cases h) (HDR.out _ HBL2.out _ (fun h => by first | rfl | exact absurd hcj h)) (ecells_one _) (by unfold maxLen; omega) (by omega) HZ2.out ?_
             intro v3 w3 ho3 hg3 hat3
             have HO3 := Lib.hid ho3
             have HBL3 := Lib.hid (HBL2.out.grown hg3 HZ2.out (fun k hk => (HO2.out.lt k hk).1))
             have HZ3 := Lib.hid HBL3.out.size
             clear ho3 hg3 hat3)
          ))
      all_goals
        go_wp2_with fail
        go_ret
        have hbf := HWR1.out.trans (HBL3.out.mono HWR1.out.size)
        have h3 := HO3.out
        rw [List.nil_append, ← ecells_append_one, ← ecells_append] at h3
        have hl3 : (es.take j ++ [((k, t), (os, t.ts.length, cs))] ++ es.drop j).length = 0 + j + 1 + (bl.length - j) := by have := HEL.out; simp; omega
        rw [← hl3] at h3
        obtain ⟨g, c, rfl⟩ := ownsRow_pos h3 (by simp; omega)
        have hB := BindsN.ofE h3 (Nat.le_refl _) (fun x hx => by
          rcases List.mem_append.1 hx with hx | hx
          · rcases List.mem_append.1 hx with hx | hx
            · exact (HSL.out x (List.mem_of_mem_take hx)).carry hbf hbf.size
            · obtain rfl := List.mem_singleton.1 hx
              exact HS.out.carry hbf hbf.size
          · exact (HSL.out x (List.mem_of_mem_drop hx)).carry hbf hbf.size)
        rw [List.map_append, List.map_append, List.map_take, List.map_drop, HES.out] at hB
        refine ⟨⟨j, _, rfl, hj, by simpa using hB, g, c, ?_⟩, hbf⟩
        have : (es.take j ++ [((k, t), (os, t.ts.length, cs))] ++ es.drop j).length = bl.length + 1 := by rw [hl3]; omega
        rw [this]
        rfl

set_option maxRecDepth 100000 in
set_option maxHeartbeats 8000000 in
theorem rwith_nil (q : Nat × Nat × Nat) (k : Key) (t : Tm) (s : Value) (w : World) (hs : SlN q w.heap.size w t.ts s) :
    Calls Tryz.prog 261 #[.slice none 0 0, .string (kb k), tmv t s] w fun e w' => (∃ v', e = .returned v' ∧ BindsN q w'.heap.size w' [(k, t)] v' ∧ ∃ g c, v' = .slice (some ⟨g, 0, none⟩) 1 c) ∧ Below w.heap.size w w' := by
  obtain ⟨i0, hi, hz, hs1, hb1⟩ := info_parts infoBind
  have HI := Lib.hid hi
  have HZ := Lib.hid hz
  have HS1 := Lib.hid hs1
  have HB1 := Lib.hid hb1
  obtain ⟨os, cs, rfl, -⟩ := hs.form
  have HS := Lib.hid hs
  have HB0 : Hid (Below w.heap.size w (w.alloc (.cells #[.string t.nm, .bool t.vr, .slice os t.ts.length cs] 25))) := Lib.hid (by go_grown)
  have HR0 := Lib.hid (heap_new_at w (.cells #[.string t.nm, .bool t.vr, .slice os t.ts.length cs] 25) w.heap.size rfl)
  clear hi hz hs1 hb1 hs
  go_enter Tryz.func261, Tryz.ntmps261
  rw [show tmv t (.slice os t.ts.length cs) = .agg #[.string t.nm, .bool t.vr, .slice os t.ts.length cs] from rfl]
  go_wp2_with fail
  go_loopw [7] (fun i wr => i = .int .i64 0 ∧ Hid (Below (w.heap.size + 1) (w.alloc (.cells #[.string t.nm, .bool t.vr, .slice os t.ts.length cs] 25)) wr)) (fun i _ => 0)
  case atStart => exact ⟨rfl, Lib.hid (Below.refl _ _)⟩
  case round =>
    obtain ⟨rfl, HBX⟩ := hrel
    obtain ⟨wr1, rfl⟩ : ∃ W, W = wr := ⟨wr, rfl⟩
    go_wp2_with fail
    have hwr := HB0.out.trans (HBX.out.mono (by omega))
    have hrb := (HBX.out.block w.heap.size (by simp)).trans HR0.out
    obtain ⟨⟨q0, q1, q2⟩, -⟩ := box3 hrb
    have HQ := Lib.hid (And.intro q0 (And.intro q1 q2))
    have HPL := Lib.hid (Array.getElem?_eq_some_iff.1 hrb).1
    have HWR1 := Lib.hid hwr
    clear hwr hrb
    go_region_held3 (fun w' => wr1.heap.size ≤ w'.heap.size ∧ w'.cell? ⟨w.heap.size, 0, none⟩ = some (.string t.nm) ∧ w'.cell? ⟨w.heap.size, 1, none⟩ = some (.bool t.vr) ∧ w'.cell? ⟨w.heap.size, 2, none⟩ = some (.slice os t.ts.length cs)) (first | exact withS HQ.out HPL.out HBL3.out | exact withS HQ.out HPL.out HBL2.out | exact withS HQ.out HPL.out HBL1.out | exact withS HQ.out HPL.out (HBL1.out.alloc HBL1.out.size _) | exact withS HQ.out HPL.out (by go_grown)) ((first
      | (refine step_append_opt rfl (.tmp 24) (.tmp 27) 29 rfl wr1.heap.size 105 i0 (.agg #[.string ⟨#[]⟩, .string ⟨#[]⟩, .bool false, .slice none 0 0]) 4 64 Tryz.underlying29 HI.out HZ.out HS1.out HB1.out rfl (by decide) (.slice (some ⟨wr1.heap.size, 0, none⟩) 0 0) 0 [] rfl ?own none 0 0 [] rfl rfl (fun _ => ⟨rfl, rfl⟩) (fun ad had => by cases had) (by simp) (by unfold maxLen; omega) (by omega) (by first | (simp; done) | (simp; omega)) ?_
         case own => first
           | exact ownsRow_made4 _ (heap_new_at _ _ _ (by simp)) (by simp)
           | exact ownsRow_made4 _ ((Below.heap_alloc _ _ _ (by simp)).trans (heap_new_at _ _ _ (by simp))) (by simp)
         intro v1 w1 ho1 hg1 hat1
         have hb1 := (show Below wr1.heap.size wr1 _ from by go_grown).grown hg1 (by first | (simp; done) | (simp; omega)) (by simp [Value.ownBlock])
         first
         | (have HK1 := Lib.hid ((hg1.block (wr1.heap.size + 1) (by simp) (by simp [Value.ownBlock])).trans (heap_new_at _ (.cells (encE ((k, t), (os, t.ts.length, cs))).toArray 105) _ (by simp))))
         | skip
         have HZ1 := Lib.hid (show wr1.heap.size < w1.heap.size from by have := hg1.size; simp at this; omega)
         have HO1 := Lib.hid ho1
         have HBL1 := Lib.hid hb1
         clear ho1 hg1 hat1 hb1)
      | (refine step_append_opt rfl (.tmp 24) (.tmp 27) 29 rfl wr1.heap.size 105 i0 (.agg #[.string ⟨#[]⟩, .string ⟨#[]⟩, .bool false, .slice none 0 0]) 4 64 Tryz.underlying29 HI.out HZ.out HS1.out HB1.out rfl (by decide) (.slice (some ⟨wr1.heap.size + 1, 0, none⟩) 0 0) 0 [] rfl ?own none 0 0 [] rfl rfl (fun _ => ⟨rfl, rfl⟩) (fun ad had => by cases had) (by simp) (by unfold maxLen; omega) (by omega) (by first | (simp; done) | (simp; omega)) ?_
         case own => exact ownsRow_made4 _ (heap_new_at _ _ _ (by simp)) (by simp)
         intro v1 w1 ho1 hg1 hat1
         have hb1 := (show Below wr1.heap.size wr1 _ from by go_grown).grown hg1 (by first | (simp; done) | (simp; omega)) (by first | (simp [Value.ownBlock]; done) | (simp [Value.ownBlock]; omega))
         have HK1 := Lib.hid ((hg1.block wr1.heap.size (by first | (simp; done) | (simp; omega)) (by simp [Value.ownBlock])).trans ((Below.heap_alloc _ _ _ (by simp)).trans (heap_new_at _ (.cells (encE ((k, t), (os, t.ts.length, cs))).toArray 105) _ (by simp))))
         have HZ1 := Lib.hid (show wr1.heap.size < w1.heap.size from by have := hg1.size; simp at this; omega)
         have HO1 := Lib.hid ho1
         have HBL1 := Lib.hid hb1
         clear ho1 hg1 hat1 hb1)
      | (refine step_append_opt rfl (.tmp 28) (.tmp 32) 29 rfl wr1.heap.size 105 i0 (.agg #[.string ⟨#[]⟩, .string ⟨#[]⟩, .bool false, .slice none 0 0]) 4 64 Tryz.underlying29 HI.out HZ.out HS1.out HB1.out rfl (by decide) v1 (0 + 0) ([] ++ []) rfl (HO1.out.alloc _) (some ⟨_, 0, none⟩) 1 1 (encE ((k, t), (os, t.ts.length, cs))) rfl rfl (fun h => by cases h) (fun ad had => by cases had; exact cells_new4 _ ((k, t), (os, t.ts.length, cs)) _) (encE_one _) (by unfold maxLen; omega) (by omega) (by have := HZ1.out; first | (simp; done) | (simp; omega)) ?_
         intro v2 w2 ho2 hg2 hat2
         have hz1 := HZ1.out
         have hb2 := (show Below wr1.heap.size wr1 _ from HBL1.out.alloc (by omega) _).grown hg2 (by first | (simp; done) | (simp; omega)) (fun k hk => (HO1.out.lt k hk).1)
         have HO2 := Lib.hid ho2
         have HBL2 := Lib.hid hb2
         have HZ2 := Lib.hid hb2.size
         clear ho2 hg2 hat2 hb2 hz1)
      | (refine step_append_opt rfl (.tmp 28) (.tmp 32) 29 rfl wr1.heap.size 105 i0 (.agg #[.string ⟨#[]⟩, .string ⟨#[]⟩, .bool false, .slice none 0 0]) 4 64 Tryz.underlying29 HI.out HZ.out HS1.out HB1.out rfl (by decide) v1 (0 + 0) ([] ++ []) rfl HO1.out (some ⟨_, 0, none⟩) 1 1 (encE ((k, t), (os, t.ts.length, cs))) rfl rfl (fun h => by cases h) (fun ad had => by cases had; exact encE_at HK1.out) (encE_one _) (by unfold maxLen; omega) (by omega) (by have := HZ1.out; omega) ?_
         intro v2 w2 ho2 hg2 hat2
         have hz1 := HZ1.out
         have hb2 := (show Below wr1.heap.size wr1 _ from HBL1.out).grown hg2 (by omega) (fun k hk => (HO1.out.lt k hk).1)
         have HO2 := Lib.hid ho2
         have HBL2 := Lib.hid hb2
         have HZ2 := Lib.hid hb2.size
         clear ho2 hg2 hat2 hb2 hz1)
      | (refine step_append_opt rfl (.tmp 33) (.tmp 36) 29 rfl wr1.heap.size 105 i0 (.agg #[.string ⟨#[]⟩, .string ⟨#[]⟩, .bool false, .slice none 0 0]) 4 64 Tryz.underlying29 HI.out HZ.out HS1.out HB1.out rfl (by decide) v2 (0 + 0 + 1) ([] ++ [] ++ encE ((k, t), (os, t.ts.length, cs))) rfl HO2.out none 0 0 [] rfl rfl (fun _ => ⟨rfl, rfl⟩) (fun ad had => by cases had) (by simp) (by unfold maxLen; omega) (by omega) HZ2.out ?_
         intro v3 w3 ho3 hg3 hat3
         have HO3 := Lib.hid ho3
         have HBL3 := Lib.hid (HBL2.out.grown hg3 HZ2.out (fun k hk => (HO2.out.lt k hk).1))
         have HZ3 := Lib.hid HBL3.out.size
         clear ho3 hg3 hat3)
      ))
    all_goals
      go_wp2_with fail
      go_ret
      have hbf := HWR1.out.trans (HBL3.out.mono HWR1.out.size)
      have h3 := HO3.out
      simp only [List.nil_append, List.append_nil] at h3
      have h3 : w3.ownsRow wr1.heap.size 105 4 v3 [((k, t), (os, t.ts.length, cs))].length (ecells [((k, t), (os, t.ts.length, cs))]) := by simpa [ecells] using h3
      obtain ⟨g, c, rfl⟩ := ownsRow_pos h3 (by simp)
      have hB := BindsN.ofE h3 (Nat.le_refl _) (fun x hx => by
        obtain rfl := List.mem_singleton.1 hx
        exact HS.out.carry hbf hbf.size)
      exact ⟨⟨_, rfl, by simpa using hB, g, c, rfl⟩, hbf⟩
end Go.Proofs.YtnomppdmhgefiaaGreat
/- The reference's match. -/
namespace Go.Proofs.YtnomppdmhgefiaaGreat
open Go.RowKit

/-- S' binds what S binds, and to the same -/
def Ext (S S' : List Bd) : Prop := ∀ k ∈ S.map (·.1), k ∈ S'.map (·.1) ∧ imageOf S' k = imageOf S k
theorem Ext.refl (S : List Bd) : Ext S S := fun _ h => ⟨h, rfl⟩
theorem Ext.trans {A B C : List Bd} (h : Ext A B) (k : Ext B C) : Ext A C := fun x hx => ⟨(k x (h x hx).1).1, (k x (h x hx).1).2.trans (h x hx).2⟩
theorem imageOf_app {A B : List Bd} {k : Key} (h : k ∈ A.map (·.1)) : imageOf (A ++ B) k = imageOf A k := by
  unfold imageOf
  rw [List.find?_append]
  obtain ⟨q, hq, e⟩ := List.mem_map.1 h
  cases hf : A.find? (fun p => decide (p.1 = k)) with
  | some p => rfl
  | none => exact absurd (List.find?_eq_none.1 hf q hq) (by simp [e])
theorem imageOf_skip {A B : List Bd} {k : Key} (h : k ∉ A.map (·.1)) : imageOf (A ++ B) k = imageOf B k := by
  unfold imageOf
  rw [List.find?_append, List.find?_eq_none.2 (fun q hq => by
    simp only [decide_eq_true_eq]
    intro e
    exact h (List.mem_map.2 ⟨q, hq, e⟩))]
  rfl
theorem imageOf_cons_ne {p : Bd} {B : List Bd} {k : Key} (h : p.1 ≠ k) : imageOf (p :: B) k = imageOf B k := by
  unfold imageOf
  rw [List.find?_cons_of_neg (by simpa using h)]
theorem imageOf_cons_eq {p : Bd} {B : List Bd} {k : Key} (h : p.1 = k) : imageOf (p :: B) k = p.2 := by
  unfold imageOf
  rw [List.find?_cons_of_pos (by simpa using h)]
theorem imageOf_mem {S : List Bd} {k : Key} (h : k ∈ S.map (·.1)) : ∃ q ∈ S, imageOf S k = q.2 := by
  obtain ⟨q, hq, e⟩ := List.mem_map.1 h
  unfold imageOf
  cases hf : S.find? (fun p => decide (p.1 = k)) with
  | some p => exact ⟨p, List.mem_of_find?_eq_some hf, rfl⟩
  | none => exact absurd (List.find?_eq_none.1 hf q hq) (by simp [e])
theorem Ext.with {S : List Bd} {k : Key} {t : Tm} (h : k ∉ S.map (·.1)) (j : Nat) : Ext S (S.take j ++ (k, t) :: S.drop j) := by
  intro x hx
  have hne : k ≠ x := by rintro rfl; exact h hx
  refine ⟨?_, ?_⟩
  · rw [← List.take_append_drop j S, List.map_append] at hx
    rw [List.map_append, List.map_cons]
    rcases List.mem_append.1 hx with hx | hx
    · exact List.mem_append.2 (.inl hx)
    · exact List.mem_append.2 (.inr (List.mem_cons_of_mem _ hx))
  · conv => rhs; rw [← List.take_append_drop j S]
    by_cases hA : x ∈ (S.take j).map (·.1)
    · rw [imageOf_app hA, imageOf_app hA]
    · rw [imageOf_skip hA, imageOf_skip hA, imageOf_cons_ne hne]
theorem with_new {S : List Bd} {k : Key} {t : Tm} (h : k ∉ S.map (·.1)) (j : Nat) : k ∈ (S.take j ++ (k, t) :: S.drop j).map (·.1) ∧ imageOf (S.take j ++ (k, t) :: S.drop j) k = t := by
  refine ⟨by simp, ?_⟩
  rw [imageOf_skip (fun hh => h (by obtain ⟨q, hq, e⟩ := List.mem_map.1 hh; exact List.mem_map.2 ⟨q, List.mem_of_mem_take hq, e⟩)), imageOf_cons_eq rfl]
theorem with_mem {S : List Bd} {k : Key} {t : Tm} {j : Nat} {q : Bd} (h : q ∈ S.take j ++ (k, t) :: S.drop j) : q ∈ S ∨ q = (k, t) := by
  rcases List.mem_append.1 h with h | h
  · exact .inl (List.mem_of_mem_take h)
  · rcases List.mem_cons.1 h with h | h
    · exact .inr h
    · exact .inl (List.mem_of_mem_drop h)
/-- S' is what matching makes of S -/
structure MtOk (Q : Tm → Prop) (S S' : List Bd) (p t : Tm) : Prop where
  ext : Ext S S'
  snd : ∀ S'', Ext S' S'' → apB S'' p = t
  val : (∀ q ∈ S, Q q.2 ∧ q.1.length ≤ 1048576) → ∀ q ∈ S', Q q.2 ∧ q.1.length ≤ 1048576
  len : S'.length ≤ S.length + p.size
/-- the same for the first arguments -/
structure MtsOk (Q : Tm → Prop) (S S' : List Bd) (ps ts : List Tm) : Prop where
  ext : Ext S S'
  snd : ∀ S'', Ext S' S'' → ps.map (apB S'') = ts
  val : (∀ q ∈ S, Q q.2 ∧ q.1.length ≤ 1048576) → ∀ q ∈ S', Q q.2 ∧ q.1.length ≤ 1048576
  len : S'.length ≤ S.length + Tm.sizes ps
theorem Tm.sizes_cut6 {l : List Tm} {k : Nat} {u : Tm} (h : l[k]? = some u) : Tm.sizes (l.take k) + u.size ≤ Tm.sizes l := by
  have h1 := Tm.sizes_append (l.take k) (l.drop k)
  rw [List.take_append_drop] at h1
  have hlt := (List.getElem?_eq_some_iff.1 h).1
  have h2 := (List.getElem?_eq_some_iff.1 h).2
  rw [List.drop_eq_getElem_cons hlt, h2] at h1
  simp only [Tm.sizes] at h1
  omega
theorem MtsOk.nil (Q : Tm → Prop) (S : List Bd) : MtsOk Q S S [] [] := ⟨Ext.refl _, fun _ _ => rfl, fun h => h, by simp [Tm.sizes]⟩
theorem MtsOk.snoc {Q : Tm → Prop} {S A B : List Bd} {ps ts : List Tm} {p t : Tm} {k : Nat} (h : MtsOk Q S A (ps.take k) (ts.take k)) (hp : ps[k]? = some p) (ht : ts[k]? = some t) (g : MtOk Q A B p t) : MtsOk Q S B (ps.take (k + 1)) (ts.take (k + 1)) := by
  rw [Tm.take_snoc hp, Tm.take_snoc ht]
  refine ⟨h.ext.trans g.ext, fun S'' hE => ?_, fun hv => g.val (h.val hv), ?_⟩
  · rw [List.map_append, h.snd S'' (g.ext.trans hE), List.map_cons, List.map_nil, g.snd S'' hE]
  · have h1 := g.len
    have h2 := h.len
    have h3 := Tm.sizes_append (ps.take k) [p]
    simp only [Tm.sizes] at h3
    omega
def MtPost (z : Nat × Nat × Nat) (Q : Tm → Prop) (S : List Bd) (p t : Tm) (e : Ending) (w' : World) : Prop :=
  ∃ b v', e = .returned (.tuple #[v', .bool b]) ∧ (b = true → ∃ S', BindsN z w'.heap.size w' S' v' ∧ (S' = [] → v' = .slice none 0 0) ∧ MtOk Q S S' p t)

theorem rwith_uni (z : Nat × Nat × Nat) (S : List Bd) (k : Key) (t : Tm) (s v : Value) (w : World) (hS : BindsN z w.heap.size w S v) (hn : S = [] → v = .slice none 0 0) (hlen : S.length ≤ 1048576) (hk : ∀ q ∈ S, q.1.length ≤ 1048576) (hkl : k.length ≤ 1048576) (hs : SlN z w.heap.size w t.ts s) :
    Calls Tryz.prog 261 #[v, .string (kb k), tmv t s] w fun e w' => (∃ j v', e = .returned v' ∧ BindsN z w'.heap.size w' (S.take j ++ (k, t) :: S.drop j) v') ∧ Below w.heap.size w w' := by
  by_cases h : S = []
  · subst h
    rw [hn rfl]
    exact (rwith_nil z k t s w hs).mono fun e w' ⟨⟨v', h1, h2, _⟩, h3⟩ => ⟨⟨0, v', h1, by simpa using h2⟩, h3⟩
  · have hS' := hS
    obtain ⟨oa, cap, rfl, hcap, hc⟩ := hS'
    obtain ⟨b, o, rfl, -, -⟩ := hc h
    exact (rwith_some z S k t s b o cap w hS hcap hlen hk hkl hs).mono fun e w' ⟨⟨j, v', h1, _, h2, _⟩, h3⟩ => ⟨⟨j, v', h1, h2⟩, h3⟩

set_option maxRecDepth 100000 in
set_option maxHeartbeats 8000000 in
theorem rmatch_any (z : Nat × Nat × Nat) (Q : Tm → Prop) (hQ : ∀ t, Q t → ∀ u ∈ t.ts, Q u) (hQb : ∀ t, Q t → t.low ∧ t.size ≤ 1048576) (p : Tm) : ∀ (S : List Bd) (v : Value) (s : Value) (t : Tm) (tv : Value) (w : World), BindsN z w.heap.size w S v → (S = [] → v = .slice none 0 0) → SlIs w.heap.size w p.ts s → SlN z w.heap.size w t.ts tv → Q t → (∀ q ∈ S, Q q.2 ∧ q.1.length ≤ 1048576) → p.bulk ≤ 1048576 → S.length + p.size ≤ 1048576 →
    Calls Tryz.prog 234 #[v, tmv p s, tmv t tv] w fun e w' => MtPost z Q S p t e w' ∧ Below w.heap.size w w' := by
  induction p using Tm.ind with
  | h p ih =>
    intro S v s t tv w hS hSn hs ht hqt hqs hpb hlen
    obtain ⟨op, cp, rfl, -⟩ := hs.form
    obtain ⟨ot, ct, rfl, -⟩ := ht.form
    obtain ⟨ov, cv, rfl⟩ : ∃ ov cv, v = .slice ov S.length cv := by obtain ⟨oa, cap, rfl, -⟩ := hS; exact ⟨_, _, rfl⟩
    have HS := Lib.hid hS
    have HSN := Lib.hid hSn
    have HP := Lib.hid hs
    have HT := Lib.hid ht
    have HQT := Lib.hid hqt
    have HQS := Lib.hid hqs
    have HQ := Lib.hid hQ
    have HQB := Lib.hid hQb
    have IH := Lib.hid ih
    clear hS hSn hs ht hqt hqs ih
    cases hv : p.vr
    · go_enter Tryz.func234, Tryz.ntmps234
      rw [show tmv p (.slice op p.ts.length cp) = .agg #[.string p.nm, .bool p.vr, .slice op p.ts.length cp] from rfl, hv, show tmv t (.slice ot t.ts.length ct) = .agg #[.string t.nm, .bool t.vr, .slice ot t.ts.length ct] from rfl]
      have HBW : Hid (Below w.heap.size w ((w.alloc (.cells #[.string p.nm, .bool false, .slice op p.ts.length cp] 25)).alloc (.cells #[.string t.nm, .bool t.vr, .slice ot t.ts.length ct] 25))) := Lib.hid (by go_grown)
      have HA := Lib.hid (show ((w.alloc (.cells #[.string p.nm, .bool false, .slice op p.ts.length cp] 25)).alloc (.cells #[.string t.nm, .bool t.vr, .slice ot t.ts.length ct] 25)).heap[w.heap.size]? = some (.cells #[.string p.nm, .bool false, .slice op p.ts.length cp] 25 (0, 0)) from (Below.heap_alloc _ _ _ (by simp)).trans (heap_new_at _ _ _ rfl))
      have HB := Lib.hid (show ((w.alloc (.cells #[.string p.nm, .bool false, .slice op p.ts.length cp] 25)).alloc (.cells #[.string t.nm, .bool t.vr, .slice ot t.ts.length ct] 25)).heap[w.heap.size + 1]? = some (.cells #[.string t.nm, .bool t.vr, .slice ot t.ts.length ct] 25 (0, 0)) from heap_new_at _ _ _ (by simp))
      by_cases hbad : t.vr = true ∨ t.nm ≠ p.nm ∨ t.ts.length ≠ p.ts.length
      · have hnot : ∀ W', Below w.heap.size w W' → MtPost z Q S p t (.returned (.tuple #[.slice none 0 0, .bool false])) W' ∧ Below w.heap.size w W' := fun W' hW => ⟨⟨false, _, rfl, nofun⟩, hW⟩
        have HN := Lib.hid hnot
        clear hnot
        cases htv : t.vr
        · by_cases hnm : t.nm = p.nm
          · have hll : ¬ t.ts.length = p.ts.length := by rcases hbad with h | h | h; rw [htv] at h; cases h; exact absurd hnm h; exact h
            clear hbad
            go_wp2_with fail
            refine bodyPost_ret (v := .tuple #[.slice none 0 0, .bool false]) (by simp [results, Tryz.f234, go_sem]) rfl ?_
            exact HN.out _ (by go_grown)
          · have hbb := kb_beq_no (a := t.nm.data.toList) (b := p.nm.data.toList) (fun e => hnm (by rw [← kb_key t.nm, e, kb_key]))
            rw [kb_key, kb_key] at hbb
            clear hbad hnm
            go_wp2_with fail
            refine bodyPost_ret (v := .tuple #[.slice none 0 0, .bool false]) (by simp [results, Tryz.f234, go_sem]) rfl ?_
            exact HN.out _ (by go_grown)
        · clear hbad
          go_wp2_with fail
          refine bodyPost_ret (v := .tuple #[.slice none 0 0, .bool false]) (by simp [results, Tryz.f234, go_sem]) rfl ?_
          exact HN.out _ (by go_grown)
      · obtain ⟨htv, hnm, hll⟩ : t.vr = false ∧ t.nm = p.nm ∧ t.ts.length = p.ts.length := by
          refine ⟨?_, ?_, ?_⟩
          · cases h : t.vr; rfl; exact absurd (.inl h) hbad
          · exact Classical.byContradiction fun h => hbad (.inr (.inl h))
          · exact Classical.byContradiction fun h => hbad (.inr (.inr h))
        clear hbad
        have HTV := Lib.hid htv
        have HNM := Lib.hid hnm
        have HLL := Lib.hid hll
        rw [htv, hnm] at HBW HB ⊢
        have HA' : Hid (((w.alloc (.cells #[.string p.nm, .bool false, .slice op p.ts.length cp] 25)).alloc (.cells #[.string p.nm, .bool false, .slice ot p.ts.length ct] 25)).heap[w.heap.size]? = some (.cells #[.string p.nm, .bool false, .slice op p.ts.length cp] 25 (0, 0))) := Lib.hid ((Below.heap_alloc _ _ _ (by simp)).trans (heap_new_at _ _ _ rfl))
        rw [hll] at HBW HB HT ⊢
        clear htv hnm hll
        have htl : p.ts.length ≤ 1048576 := by have := Tm.length_sizes p.ts; have := Tm.size_eq p; omega
        have c2a : ((w.alloc (.cells #[.string p.nm, .bool false, .slice op p.ts.length cp] 25)).alloc (.cells #[.string p.nm, .bool false, .slice ot p.ts.length ct] 25)).cell? ⟨w.heap.size, 2, none⟩ = some (.slice op p.ts.length cp) := (box3 HA'.out).1.2.2
        have c2b := (box3 HB.out).1.2.2
        have HCA := Lib.hid c2a
        have HCB := Lib.hid c2b
        clear c2a c2b
        go_wp2_with fail
        generalize hW1 : ((w.alloc (.cells #[.string p.nm, .bool false, .slice op p.ts.length cp] 25)).alloc (.cells #[.string p.nm, .bool false, .slice ot p.ts.length ct] 25)) = W1 at HBW HB HA' HCA HCB ⊢
        have hz1 : W1.heap.size = w.heap.size + 2 := by rw [← hW1]; simp
        have HZ1 := Lib.hid hz1
        clear hz1 hW1
        go_loopw [0, 50] (fun u0 i wr => ∃ (k : Nat) (S' : List Bd) (ou : Option Addr) (cu : Nat), k ≤ p.ts.length ∧ u0 = .slice ou S'.length cu ∧ i = .int .i64 k ∧ Hid (BindsN z wr.heap.size wr S' (.slice ou S'.length cu)) ∧ Hid (S' = [] → Value.slice ou S'.length cu = .slice none 0 0) ∧ Hid (MtsOk Q S S' (p.ts.take k) (t.ts.take k)) ∧ Hid (Below W1.heap.size W1 wr)) (fun _ i _ => p.ts.length - (intOf i).toNat)
        case atStart => exact ⟨0, S, ov, cv, by omega, rfl, rfl, Lib.hid (HS.out.carry HBW.out HBW.out.size), HSN, Lib.hid (MtsOk.nil Q S), Lib.hid (Below.refl _ _)⟩
        case round =>
          obtain ⟨k, S', ou, cu, hk, rfl, rfl, HBS, HSN', HM, HWR⟩ := hrel
          by_cases hlt : k < p.ts.length
          · have hbw2 : Below w.heap.size w wr := HBW.out.trans (HWR.out.mono (by have := HZ1.out; omega))
            obtain ⟨b1, o1, u, su, rfl, hbb1, hu, hum, hus, c1, c2, c3⟩ := (HP.out.carry hbw2 (Nat.le_refl _)).get (k := k) hlt
            have hT := HT.out
            rw [← HLL.out] at hT
            obtain ⟨b2, o2, v, sv, rfl, hbb2, hv2, hvm, hvs, d1, d2, d3⟩ := (hT.carry hbw2 (Nat.le_refl _)).get (k := k) (by rw [HLL.out]; exact hlt)
            obtain ⟨ox, cx, rfl, -⟩ := hus.form
            obtain ⟨oy, cy, rfl, -⟩ := hvs.form
            have y0 := (HWR.out.cell (p := ⟨w.heap.size, 2, none⟩) (by show w.heap.size < W1.heap.size; have := HZ1.out; omega)).trans HCA.out
            have y1 := (HWR.out.cell (p := ⟨w.heap.size + 1, 2, none⟩) (by show w.heap.size + 1 < W1.heap.size; have := HZ1.out; omega)).trans HCB.out
            have hbu : u.bulk ≤ 1048576 := by have := Tm.bulk_mem hum; have := Tm.bulk_eq p; omega
            have hsz : S'.length + u.size ≤ 1048576 := by
              have h1 := HM.out.len
              have h2 := Tm.sizes_cut6 hu
              have h3 := Tm.size_eq p
              omega
            have HU := Lib.hid hu
            have HVV := Lib.hid hv2
            have IHu := fun W2 (hW : Below wr.heap.size wr W2) => Lib.hid (IH.out u hum S' _ _ v _ W2 (HBS.out.carry hW hW.size) HSN'.out (hus.carry (B := W2) (hW.mono hbw2.size) (Nat.le_trans hbw2.size hW.size)) (hvs.carry (B := W2) (hW.mono hbw2.size) (Nat.le_trans hbw2.size hW.size)) (HQ.out t HQT.out v hvm) (HM.out.val HQS.out) hbu hsz)
            clear hu hv2 hT hus hvs hum hvm hbw2
            go_wp2_with fail
            go_region_held3 (fun w' => w'.cell? ⟨w.heap.size, 2, none⟩ = some (.slice (some ⟨b1, o1, none⟩) p.ts.length cp) ∧ w'.cell? ⟨w.heap.size + 1, 2, none⟩ = some (.slice (some ⟨b2, o2, none⟩) p.ts.length ct) ∧ w'.cell? ⟨b1, o1 + k * 3, none⟩ = some (.string u.nm) ∧ w'.cell? ⟨b1, o1 + k * 3 + 1, none⟩ = some (.bool u.vr) ∧ w'.cell? ⟨b1, o1 + k * 3 + 2, none⟩ = some (.slice ox u.ts.length cx) ∧ w'.cell? ⟨b2, o2 + k * 3, none⟩ = some (.string v.nm) ∧ w'.cell? ⟨b2, o2 + k * 3 + 1, none⟩ = some (.bool v.vr) ∧ w'.cell? ⟨b2, o2 + k * 3 + 2, none⟩ = some (.slice oy v.ts.length cy)) (go_keep) ((first
              | (go_at_call 234
                 refine (IHu wr.drew (Below.refl _ wr).drew).out.mono ?_
                 rintro e W3 ⟨⟨b, v', rfl, hpost⟩, hb3⟩
                 have HPO := Lib.hid hpost
                 have HWR3 := Lib.hid (HWR.out.trans (((Below.refl _ wr).drew.trans hb3).mono HWR.out.size))
                 have y0 := (hb3.cell (p := ⟨w.heap.size, 2, none⟩) (World.block_lt_of_cell? _ _ y0)).trans y0
                 have y1 := (hb3.cell (p := ⟨w.heap.size + 1, 2, none⟩) (World.block_lt_of_cell? _ _ y1)).trans y1
                 have c1 := (hb3.cell (p := ⟨b1, o1 + k * 3, none⟩) (World.block_lt_of_cell? _ _ c1)).trans c1
                 have c2 := (hb3.cell (p := ⟨b1, o1 + k * 3 + 1, none⟩) (World.block_lt_of_cell? _ _ c2)).trans c2
                 have c3 := (hb3.cell (p := ⟨b1, o1 + k * 3 + 2, none⟩) (World.block_lt_of_cell? _ _ c3)).trans c3
                 have d1 := (hb3.cell (p := ⟨b2, o2 + k * 3, none⟩) (World.block_lt_of_cell? _ _ d1)).trans d1
                 have d2 := (hb3.cell (p := ⟨b2, o2 + k * 3 + 1, none⟩) (World.block_lt_of_cell? _ _ d2)).trans d2
                 have d3 := (hb3.cell (p := ⟨b2, o2 + k * 3 + 2, none⟩) (World.block_lt_of_cell? _ _ d3)).trans d3
                 clear hb3 hpost IHu)))
            all_goals
             cases b with
             | false =>
               go_wp2_with fail
               refine bodyPost_ret (v := .tuple #[.slice none 0 0, .bool false]) (by simp [results, Tryz.f234, go_sem]) rfl ?_
               exact ⟨⟨false, _, rfl, nofun⟩, HBW.out.trans (HWR3.out.mono (by have := HZ1.out; omega))⟩
             | true =>
               obtain ⟨S2, hB2, hn2, hM2⟩ := HPO.out rfl
               have hB3 := hB2
               obtain ⟨o3, k3, rfl, -, -⟩ := hB3
               have HB2 := Lib.hid hB2
               have HN2 := Lib.hid hn2
               have HM2 := Lib.hid (HM.out.snoc HU.out HVV.out hM2)
               clear hB2 hn2 hM2
               go_wp2_with fail
               exact ⟨⟨k + 1, S2, o3, k3, by omega, rfl, by go_num, HB2, HN2, HM2, HWR3⟩, by simp [intOf]; omega⟩
          · obtain rfl : k = p.ts.length := by omega
            have HT3 : Hid (t.ts.take p.ts.length = t.ts) := Lib.hid (List.take_of_length_le (by rw [HLL.out]; exact Nat.le_refl _))
            go_wp2_with fail
            refine bodyPost_ret (v := .tuple #[.slice ou S'.length cu, .bool true]) (by simp [results, Tryz.f234, go_sem]) rfl ?_
            have hM := HM.out
            rw [List.take_length, HT3.out] at hM
            refine ⟨⟨true, _, rfl, fun _ => ⟨S', HBS.out, HSN'.out, hM.ext, fun S'' hE => ?_, hM.val, ?_⟩⟩, HBW.out.trans (HWR.out.mono (by have := HZ1.out; omega))⟩
            · rw [apB_fun _ hv, hM.snd S'' hE]
              have e1 := HTV.out
              have e2 := HNM.out
              cases t with
              | mk n v l => simp only [Tm.vr, Tm.nm, Tm.ts] at e1 e2 ⊢; rw [e1, e2]
            · have h1 := hM.len
              have h2 := Tm.size_eq p
              omega
    · go_enter Tryz.func234, Tryz.ntmps234
      rw [show tmv p (.slice op p.ts.length cp) = .agg #[.string p.nm, .bool p.vr, .slice op p.ts.length cp] from rfl, hv, show tmv t (.slice ot t.ts.length ct) = .agg #[.string t.nm, .bool t.vr, .slice ot t.ts.length ct] from rfl]
      have HBW : Hid (Below w.heap.size w ((w.alloc (.cells #[.string p.nm, .bool true, .slice op p.ts.length cp] 25)).alloc (.cells #[.string t.nm, .bool t.vr, .slice ot t.ts.length ct] 25))) := Lib.hid (by go_grown)
      have HA := Lib.hid (show ((w.alloc (.cells #[.string p.nm, .bool true, .slice op p.ts.length cp] 25)).alloc (.cells #[.string t.nm, .bool t.vr, .slice ot t.ts.length ct] 25)).heap[w.heap.size]? = some (.cells #[.string p.nm, .bool true, .slice op p.ts.length cp] 25 (0, 0)) from (Below.heap_alloc _ _ _ (by simp)).trans (heap_new_at _ _ _ rfl))
      have HB := Lib.hid (show ((w.alloc (.cells #[.string p.nm, .bool true, .slice op p.ts.length cp] 25)).alloc (.cells #[.string t.nm, .bool t.vr, .slice ot t.ts.length ct] 25)).heap[w.heap.size + 1]? = some (.cells #[.string t.nm, .bool t.vr, .slice ot t.ts.length ct] 25 (0, 0)) from heap_new_at _ _ _ (by simp))
      go_wp2_with fail
      generalize ((w.alloc (.cells #[.string p.nm, .bool true, .slice op p.ts.length cp] 25)).alloc (.cells #[.string t.nm, .bool t.vr, .slice ot t.ts.length ct] 25)) = W1 at HBW HA HB ⊢
      have hr := rbound_any S p.nm.data.toList (.slice ov S.length cv) W1 w.heap.size HBW.out.size (HS.out.carry HBW.out (Nat.le_refl _)).toIs (by omega)
      rw [kb_key] at hr
      refine hr.mono ?_
      clear hr
      rintro e W2 ⟨⟨b, rfl, hbk⟩, hb⟩
      have HBK := Lib.hid hbk
      have HBW2 := Lib.hid (HBW.out.trans (hb.mono HBW.out.size))
      have HA2 := Lib.hid ((hb.block _ (Array.getElem?_eq_some_iff.1 HA.out).1).trans HA.out)
      have HB2 := Lib.hid ((hb.block _ (Array.getElem?_eq_some_iff.1 HB.out).1).trans HB.out)
      clear hb hbk HBW HA HB
      obtain ⟨⟨a0, a1, a2⟩, -⟩ := box3 HA2.out
      obtain ⟨⟨b0, b1, b2⟩, -⟩ := box3 HB2.out
      have hnl : p.nm.data.toList.length ≤ 1048576 := by have := Tm.bulk_eq p; have e : p.nm.data.toList.length = p.nm.size := (by simp); omega
      cases b with
      | true =>
        have HKK := Lib.hid (HBK.out.1 rfl)
        have HIB : Hid ((imageOf S p.nm.data.toList).low ∧ (imageOf S p.nm.data.toList).size ≤ 1048576) := Lib.hid (by
          obtain ⟨q, hq, e⟩ := imageOf_mem HKK.out
          rw [e]; exact HQB.out _ (HQS.out q hq).1)
        go_wp2_with fail
        go_region_held3 (fun w' => w'.cell? ⟨w.heap.size, 0, none⟩ = some (.string p.nm) ∧ w'.cell? ⟨w.heap.size + 1, 0, none⟩ = some (.string t.nm) ∧ w'.cell? ⟨w.heap.size + 1, 1, none⟩ = some (.bool t.vr) ∧ w'.cell? ⟨w.heap.size + 1, 2, none⟩ = some (.slice ot t.ts.length ct)) (go_keep) ((first
          | (go_at_call 16
             refine (requal_low (imageOf S p.nm.data.toList) t _ _ _ HIB.out.1 (HQB.out t HQT.out).1 HIB.out.2 (HQB.out t HQT.out).2 HSL2.out (HT.out.carry HBW3.out HBW3.out.size).toIs).mono ?_
             rintro e W4 ⟨⟨x, rfl, hx⟩, hb⟩
             have HX := Lib.hid hx
             have HBW4 := Lib.hid (HBW3.out.trans (hb.mono HBW3.out.size))
             have a0 := (hb.cell (p := ⟨w.heap.size, 0, none⟩) (World.block_lt_of_cell? _ _ a0)).trans a0
             have b0 := (hb.cell (p := ⟨w.heap.size + 1, 0, none⟩) (World.block_lt_of_cell? _ _ b0)).trans b0
             have b1 := (hb.cell (p := ⟨w.heap.size + 1, 1, none⟩) (World.block_lt_of_cell? _ _ b1)).trans b1
             have b2 := (hb.cell (p := ⟨w.heap.size + 1, 2, none⟩) (World.block_lt_of_cell? _ _ b2)).trans b2
             clear hb hx)
          | (go_at_call 54
             have hr := rimage_any S p.nm.data.toList (.slice ov S.length cv) W2.drew w.heap.size HBW2.out.size (HS.out.carry (HBW2.out.trans (Below.refl _ _).drew) (Nat.le_refl _)).toIs (by omega)
             rw [kb_key] at hr
             refine hr.mono ?_
             clear hr
             rintro e W3 ⟨⟨sl, rfl, hsl⟩, hb⟩
             obtain ⟨oi, ci, rfl, -⟩ := hsl.form
             have HBW3 := Lib.hid ((HBW2.out.trans (Below.refl _ _).drew).trans (hb.mono HBW2.out.size))
             have HSL2 := Lib.hid (hsl.carry (Below.refl _ _) HBW3.out.size)
             have a0 := (hb.cell (p := ⟨w.heap.size, 0, none⟩) (World.block_lt_of_cell? _ _ a0)).trans a0
             have b0 := (hb.cell (p := ⟨w.heap.size + 1, 0, none⟩) (World.block_lt_of_cell? _ _ b0)).trans b0
             have b1 := (hb.cell (p := ⟨w.heap.size + 1, 1, none⟩) (World.block_lt_of_cell? _ _ b1)).trans b1
             have b2 := (hb.cell (p := ⟨w.heap.size + 1, 2, none⟩) (World.block_lt_of_cell? _ _ b2)).trans b2
             dsimp only [tmv]
             clear hb hsl)))
        all_goals
          go_wp2_with fail
          refine bodyPost_ret (v := .tuple #[.slice ov S.length cv, .bool x]) (by simp [results, Tryz.f234, go_sem]) rfl ?_
          exact ⟨⟨x, _, rfl, fun hx1 => ⟨S, HS.out.carry HBW4.out HBW4.out.size, HSN.out, Ext.refl _, fun S'' hE => by rw [apB_var _ hv, (hE _ HKK.out).2]; exact HX.out.1 hx1, fun h => h, by omega⟩⟩, HBW4.out⟩
      | false =>
        have HKK : Hid (p.nm.data.toList ∉ S.map (·.1)) := Lib.hid (fun h => by have := HBK.out.2 h; cases this)
        go_wp2_with fail
        have hr := rwith_uni z S p.nm.data.toList t (.slice ot t.ts.length ct) (.slice ov S.length cv) W2 (HS.out.carry HBW2.out HBW2.out.size) HSN.out (by omega) (fun q hq => (HQS.out q hq).2) hnl (HT.out.carry HBW2.out HBW2.out.size)
        rw [kb_key] at hr
        refine hr.mono ?_
        clear hr
        rintro e W3 ⟨⟨j, v', rfl, hB'⟩, hb⟩
        obtain ⟨S', hS'⟩ : ∃ S', S' = S.take j ++ (p.nm.data.toList, t) :: S.drop j := ⟨_, rfl⟩
        rw [← hS'] at hB'
        have HS' := Lib.hid hS'
        have hB2 := hB'
        obtain ⟨oz, cz, rfl, -, -⟩ := hB2
        have HBB := Lib.hid hB'
        have HBW4 := Lib.hid (HBW2.out.trans (hb.mono HBW2.out.size))
        clear hb hB' hS' a0 a1 a2 b0 b1 b2
        go_wp2_with fail
        refine bodyPost_ret (v := .tuple #[.slice oz S'.length cz, .bool true]) (by simp [results, Tryz.f234, go_sem]) rfl ?_
        refine ⟨⟨true, _, rfl, fun _ => ⟨S', HBB.out, fun h => ?_, ?_, fun S'' hE => ?_, fun hq q hqm => ?_, ?_⟩⟩, HBW4.out⟩
        · rw [HS'.out] at h; simp at h
        · rw [HS'.out]; exact Ext.with HKK.out j
        · have h1 := with_new (t := t) HKK.out j
          rw [← HS'.out] at h1
          rw [apB_var _ hv, (hE _ h1.1).2, h1.2]
        · rw [HS'.out] at hqm
          rcases with_mem hqm with h | rfl
          · exact hq q h
          · exact ⟨HQT.out, hnl⟩
        · rw [HS'.out]; have := Tm.size_pos p; simp; omega
end Go.Proofs.YtnomppdmhgefiaaGreat
/- The reference's Match and replaced. -/
namespace Go.Proofs.YtnomppdmhgefiaaGreat
open Go.RowKit

set_option maxRecDepth 100000 in
set_option maxHeartbeats 2000000 in
theorem rMatch_any (z : Nat × Nat × Nat) (Q : Tm → Prop) (hQ : ∀ t, Q t → ∀ u ∈ t.ts, Q u) (hQb : ∀ t, Q t → t.low ∧ t.size ≤ 1048576) (p : Tm) (s : Value) (t : Tm) (tv : Value) (w : World) (hs : SlIs w.heap.size w p.ts s) (ht : SlN z w.heap.size w t.ts tv) (hqt : Q t) (hpb : p.bulk ≤ 1048576) (hsz : p.size ≤ 1048576) :
    Calls Tryz.prog 193 #[tmv p s, tmv t tv] w fun e w' => MtPost z Q [] p t e w' ∧ Below w.heap.size w w' := by
  have HR := Lib.hid (fun W (hW : Below w.heap.size w W) => rmatch_any z Q hQ hQb p [] (.slice none 0 0) s t tv W ⟨_, _, rfl, Nat.le_refl _, fun h => absurd rfl h⟩ (fun _ => rfl) (hs.carry hW hW.size) (ht.carry hW hW.size) hqt (by simp) hpb (by simpa using hsz))
  obtain ⟨os, cs, rfl, -⟩ := hs.form
  obtain ⟨ot, ct, rfl, -⟩ := ht.form
  go_enter Tryz.func193, Tryz.ntmps193
  go_wp2_with fail
  have hA : Below w.heap.size w ((w.alloc (.cells #[.string p.nm, .bool p.vr, .slice os p.ts.length cs] 25)).alloc (.cells #[.string t.nm, .bool t.vr, .slice ot t.ts.length ct] 25)) := by go_grown
  refine (HR.out _ hA).mono ?_
  rintro e W1 ⟨⟨b, v', rfl, hp⟩, hb⟩
  have HP := Lib.hid hp
  have HB := Lib.hid (hA.trans (hb.mono hA.size))
  clear hp hb hA
  go_wp2_with fail
  refine bodyPost_ret (v := .tuple #[v', .bool b]) (by simp [results, Tryz.f193, go_sem]) rfl ?_
  exact ⟨⟨b, v', rfl, HP.out⟩, HB.out⟩

theorem Tm.put_cons6 {t x : Tm} {i : Int} {l : List Int} {u : Tm} (h : t.kid i = some x) : t.put (i :: l) u = .mk t.nm t.vr (t.ts.set i.toNat (x.put l u)) := by
  simp only [Tm.put, h]
theorem depths_take6 {l : List Tm} {k : Nat} {u : Tm} (h : l[k]? = some u) : Tm.depths (l.take (k + 1)) = max (Tm.depths (l.take k)) u.depth := by
  have app : ∀ a : List Tm, Tm.depths (a ++ [u]) = max (Tm.depths a) u.depth := by
    intro a
    induction a with
    | nil => simp [Tm.depths]
    | cons x a ih => simp only [List.cons_append, Tm.depths, ih]; omega
  rw [Tm.take_snoc h, app]
theorem sizes_snoc6 {l : List Tm} {k : Nat} {u : Tm} (h : l[k]? = some u) : Tm.sizes (l.take (k + 1)) = Tm.sizes (l.take k) + u.size := by
  rw [Tm.take_snoc h, Tm.sizes_append]
  simp [Tm.sizes]

set_option maxRecDepth 100000 in
set_option maxHeartbeats 4000000 in
theorem replaced_any (n₀ : Nat) (l : List Int) (u : Tm) : ∀ (t : Tm) (s : Value) (v : Value) (w : World), n₀ ≤ w.heap.size → SlIs w.heap.size w t.ts s → PosIs n₀ w l v → (∀ oa m c, v = .slice oa m c → m ≤ c) → (t.at l).isSome → l.length ≤ 1048576 → t.size ≤ 1048576 → u.size ≤ 8589934592 → u.depth ≤ 8589934592 →
    Calls Tryz.prog 129 #[tmv t s, v, .int .i64 u.size, .int .i64 u.depth] w fun e w' => e = .returned (.tuple #[.int .i64 (t.put l u).size, .int .i64 (t.put l u).depth]) ∧ Below w.heap.size w w' := by
  induction l with
  | nil =>
    intro t s v w hn hs hl hcap hat hll hb hu hd
    obtain ⟨oa, ca, rfl, -⟩ := hs.form
    obtain ⟨ov, cv, rfl, hp⟩ := hl.form
    go_enter Tryz.func129, Tryz.ntmps129
    go_wp2_with fail
    refine bodyPost_ret (v := .tuple #[.int .i64 u.size, .int .i64 u.depth]) (by simp [results, Tryz.f129, go_sem]) rfl ?_
    exact ⟨rfl, by go_grown⟩
  | cons i l ih =>
    intro t s v w hn hs hl hcap hat hll hb hu hd
    obtain ⟨x, hkid, hxs⟩ := Tm.at_cons_some6 hat
    have hik : ∃ q : Nat, i = (q : Int) ∧ t.ts[q]? = some x := by
      have hkid2 := hkid
      unfold Tm.kid at hkid2
      split at hkid2
      · exact ⟨i.toNat, by omega, hkid2⟩
      · cases hkid2
    obtain ⟨q, rfl, hq⟩ := hik
    have hput : t.put ((q : Int) :: l) u = .mk t.nm t.vr (t.ts.set q (x.put l u)) := by rw [Tm.put_cons6 hkid]; rfl
    rw [hput]
    obtain ⟨ys, hys⟩ : ∃ ys, ys = t.ts.set q (x.put l u) := ⟨_, rfl⟩
    have hyl : ys.length = t.ts.length := by rw [hys, List.length_set]
    rw [← hys, Tm.size_eq (Tm.mk t.nm t.vr ys), Tm.depth_eq (Tm.mk t.nm t.vr ys), show (Tm.mk t.nm t.vr ys).ts = ys from rfl]
    have hxu : Tm.sizes ys ≤ 9000000000 := by
      have h1 := sizes_set6 (y := x.put l u) hq
      have h2 := Tm.put_size6 x l u
      have h3 := Tm.size_bulk t
      have h4 := Tm.size_eq t
      rw [← hys] at h1
      omega
    obtain ⟨oa, ca, rfl, -⟩ := hs.form
    obtain ⟨ov, cv, rfl, hp⟩ := hl.form
    obtain ⟨b3, o3, rfl, hb3, hc3⟩ := hp (by simp)
    have hcv := hcap _ _ _ rfl
    simp only [List.length_cons] at hcv hll
    have htl : t.ts.length ≤ 1048576 := by have := Tm.length_sizes t.ts; have := Tm.size_eq t; have := Tm.size_bulk t; omega
    have hxb : x.size ≤ 1048576 := by have := Tm.size_mem (List.mem_of_getElem? hq); have := Tm.size_eq t; omega
    have IH := Lib.hid ih
    have HS := Lib.hid hs
    have HC3 := Lib.hid hc3
    have HQ := Lib.hid hq
    have HXS := Lib.hid hxs
    have HYS := Lib.hid hys
    have HYL := Lib.hid hyl
    have HB0 : Hid (Below w.heap.size w (w.alloc (.cells #[.string t.nm, .bool t.vr, .slice oa t.ts.length ca] 25))) := Lib.hid (by go_grown)
    clear ih hs hl hcap hp hc3 hq hxs hys hput hkid hat hyl
    by_cases hcv1 : cv = 1
    · subst hcv1
      obtain rfl : l = [] := List.length_eq_zero_iff.1 (by omega)
      simp only [List.length_cons, List.length_nil, Nat.zero_add]
      have hl0 : ¬ ((0 : Int) + 1 = 0) := by omega
      have hl1 : (((0 : Int) + 1) == 0) = false := by rw [beq_eq_false_iff_ne]; omega
      go_enter Tryz.func129, Tryz.ntmps129
      go_wp2_with fail
      go_loopw [10, 11, 24] (fun n d j wr => ∃ k : Nat, k ≤ t.ts.length ∧ j = .int .i64 k ∧ n = .int .i64 (1 + Tm.sizes (ys.take k) : Nat) ∧ d = .int .i64 (Tm.depths (ys.take k) : Nat) ∧ Hid (Below (w.heap.size + 1) (w.alloc (.cells #[.string t.nm, .bool t.vr, .slice oa t.ts.length ca] 25)) wr)) (fun _ _ j _ => t.ts.length - (intOf j).toNat)
      case atStart => exact ⟨0, by omega, rfl, by simp [Tm.sizes], by simp [Tm.depths], Lib.hid (Below.refl _ _)⟩
      case round =>
        obtain ⟨k, hk, rfl, rfl, rfl, HWR⟩ := hrel
        by_cases hlt : k < t.ts.length
        · have hbw2 : Below w.heap.size w wr := HB0.out.trans (HWR.out.mono (by omega))
          obtain ⟨b1, o1, v1, sv, rfl, hbb1, hv1, hvm, hvs, c1, c2, c3⟩ := (HS.out.carry hbw2 (Nat.le_refl _)).get (k := k) hlt
          obtain ⟨os, cs, rfl, -⟩ := hvs.form
          have hvb : v1.size ≤ 1048576 := by have := Tm.size_mem hvm; have := Tm.size_eq t; omega
          have HV1 := Lib.hid hv1
          have HVS := Lib.hid hvs
          have HBW2 := Lib.hid hbw2
          clear hv1 hvs hvm hbw2
          have HA := Lib.hid ((Below.refl wr.heap.size wr).alloc (Nat.le_refl _) (.cells #[.string v1.nm, .bool v1.vr, .slice os v1.ts.length cs] 25))
          have HZB := Lib.hid (heap_new_at wr (.cells #[.string v1.nm, .bool v1.vr, .slice os v1.ts.length cs] 25) wr.heap.size rfl)
          go_wp2_with fail
          clear c1 c2 c3
          obtain ⟨⟨z0, z1, z2⟩, -⟩ := box3 HZB.out
          go_region_held3 (fun w' => w'.cell? ⟨wr.heap.size, 0, none⟩ = some (.string v1.nm) ∧ w'.cell? ⟨wr.heap.size, 1, none⟩ = some (.bool v1.vr) ∧ w'.cell? ⟨wr.heap.size, 2, none⟩ = some (.slice os v1.ts.length cs)) (go_keep) ((first
            | (go_at_call 58
               refine (rdepth_sz v1 _ _ hvb (HVS.out.carry (HB1.out.mono HBW2.out.size) (Nat.le_trans HBW2.out.size HB1.out.size))).mono ?_
               rintro e W3 ⟨rfl, hb3'⟩
               have HB2 := Lib.hid (HB1.out.trans (hb3'.mono HB1.out.size))
               have z0 := (hb3'.cell (p := ⟨wr.heap.size, 0, none⟩) (World.block_lt_of_cell? _ _ z0)).trans z0
               have z1 := (hb3'.cell (p := ⟨wr.heap.size, 1, none⟩) (World.block_lt_of_cell? _ _ z1)).trans z1
               have z2 := (hb3'.cell (p := ⟨wr.heap.size, 2, none⟩) (World.block_lt_of_cell? _ _ z2)).trans z2
               clear hb3')
            | (go_at_call 57
               refine (rsize_sz v1 _ _ hvb (HVS.out.carry ((HA.out.trans (Below.refl _ _).drew).mono HBW2.out.size) (Nat.le_trans HBW2.out.size HA.out.size))).mono ?_
               rintro e W2 ⟨rfl, hb2'⟩
               have HB1 := Lib.hid ((HA.out.trans (Below.refl _ _).drew).trans (hb2'.mono HA.out.size))
               have z0 := (hb2'.cell (p := ⟨wr.heap.size, 0, none⟩) (World.block_lt_of_cell? _ _ z0)).trans z0
               have z1 := (hb2'.cell (p := ⟨wr.heap.size, 1, none⟩) (World.block_lt_of_cell? _ _ z1)).trans z1
               have z2 := (hb2'.cell (p := ⟨wr.heap.size, 2, none⟩) (World.block_lt_of_cell? _ _ z2)).trans z2
               clear hb2')))
          have HWR3 := Lib.hid (HWR.out.trans (HB2.out.mono (by have := HWR.out.size; simpa using this)))
          have HBW3 := Lib.hid (HBW2.out.trans (HB2.out.mono HBW2.out.size))
          have hi0 := (HBW3.out.cell (p := ⟨b3, o3, none⟩) (Nat.lt_of_lt_of_le hb3 hn)).trans (by have := HC3.out 0 _ rfl; simpa using this)
          by_cases hkq : k = q
          · subst hkq
            obtain rfl : v1 = x := Option.some.inj (HV1.out.symm.trans HQ.out)
            have hkl : k < t.ts.length := hlt
            have hyk : ys[k]? = some (v1.put [] u) := by rw [HYS.out, List.getElem?_set_self hkl]
            have HE1 := Lib.hid (sizes_snoc6 hyk)
            have HE2 := Lib.hid (depths_take6 hyk)
            have hbd : Tm.sizes (ys.take k) + (v1.put [] u).size ≤ 9000000000 := by have := Tm.sizes_cut6 hyk; omega
            have hkk : ((k : Int) == (k : Int)) = true := beq_self_eq_true _
            clear hyk
            have HCALL := Lib.hid (IH.out v1 (.slice os v1.ts.length cs) (.slice (some ⟨b3, o3, none⟩) 0 0) W3.drew (Nat.le_trans hn HBW3.out.size) (HVS.out.carry ((HB2.out.trans (Below.refl _ _).drew).mono HBW2.out.size) (Nat.le_trans HBW2.out.size HB2.out.size))
              ⟨_, _, rfl, fun hln => absurd rfl hln⟩
              (by rintro oa m c ⟨⟩; omega) HXS.out (by simp) hvb hu hd)
            go_wp2_with fail
            go_region_held3 (fun w' => w'.cell? ⟨wr.heap.size, 0, none⟩ = some (.string v1.nm) ∧ w'.cell? ⟨wr.heap.size, 1, none⟩ = some (.bool v1.vr) ∧ w'.cell? ⟨wr.heap.size, 2, none⟩ = some (.slice os v1.ts.length cs)) (go_keep) ((first
              | (go_at_call 129
                 refine HCALL.out.mono ?_
                 rintro e W4 ⟨rfl, hb4⟩
                 have HB4 := Lib.hid ((Below.refl _ W3).drew.trans hb4)
                 have z0 := (hb4.cell (p := ⟨wr.heap.size, 0, none⟩) (World.block_lt_of_cell? _ _ z0)).trans z0
                 have z1 := (hb4.cell (p := ⟨wr.heap.size, 1, none⟩) (World.block_lt_of_cell? _ _ z1)).trans z1
                 have z2 := (hb4.cell (p := ⟨wr.heap.size, 2, none⟩) (World.block_lt_of_cell? _ _ z2)).trans z2
                 clear hb4)))
            all_goals
              have HWR4 := Lib.hid (HWR3.out.trans (HB4.out.mono (Nat.le_trans (by have := HWR.out.size; simpa using this) HB2.out.size)))
              go_wp2_with fail
              exact ⟨⟨k + 1, by omega, by go_num, by rw [HE1.out]; go_num, by rw [HE2.out]; congr 1; omega, HWR4⟩, by simp [intOf]; omega⟩
          · have hkq' : ((k : Int) == (q : Int)) = false := by rw [beq_eq_false_iff_ne]; omega
            have hyk : ys[k]? = some v1 := by rw [HYS.out, List.getElem?_set_ne (fun e => hkq e.symm)]; exact HV1.out
            have HE1 := Lib.hid (sizes_snoc6 hyk)
            have HE2 := Lib.hid (depths_take6 hyk)
            have hbd : Tm.sizes (ys.take k) + v1.size ≤ 9000000000 := by have := Tm.sizes_cut6 hyk; omega
            clear hyk z0 z1 z2
            go_wp2_with fail
            exact ⟨⟨k + 1, by omega, by go_num, by rw [HE1.out]; go_num, by rw [HE2.out]; congr 1; omega, HWR3⟩, by simp [intOf]; omega⟩
        · obtain rfl : k = t.ts.length := by omega
          have HT3 : Hid (ys.take t.ts.length = ys) := Lib.hid (List.take_of_length_le (by rw [HYL.out]; exact Nat.le_refl _))
          rw [HT3.out]
          have hdb : Tm.depths ys ≤ 9000000000 := by
            have h : ∀ a : List Tm, Tm.depths a ≤ Tm.sizes a := by
              intro a
              induction a with
              | nil => simp [Tm.depths, Tm.sizes]
              | cons z a iha => have := Tm.depth_size z; simp only [Tm.depths, Tm.sizes]; omega
            have := h ys
            omega
          go_wp2_with fail
          refine bodyPost_ret (v := .tuple #[.int .i64 (1 + Tm.sizes ys : Nat), .int .i64 (1 + Tm.depths ys : Nat)]) (by simp [results, Tryz.f129, go_sem]; go_num) rfl ?_
          exact ⟨rfl, HB0.out.trans (HWR.out.mono (by omega))⟩
    · have hl0 : ¬ ((l.length : Int) + 1 = 0) := by omega
      have hl1 : (((l.length : Int) + 1) == 0) = false := by rw [beq_eq_false_iff_ne]; omega
      go_enter Tryz.func129, Tryz.ntmps129
      go_wp2_with fail
      go_loopw [10, 11, 24] (fun n d j wr => ∃ k : Nat, k ≤ t.ts.length ∧ j = .int .i64 k ∧ n = .int .i64 (1 + Tm.sizes (ys.take k) : Nat) ∧ d = .int .i64 (Tm.depths (ys.take k) : Nat) ∧ Hid (Below (w.heap.size + 1) (w.alloc (.cells #[.string t.nm, .bool t.vr, .slice oa t.ts.length ca] 25)) wr)) (fun _ _ j _ => t.ts.length - (intOf j).toNat)
      case atStart => exact ⟨0, by omega, rfl, by simp [Tm.sizes], by simp [Tm.depths], Lib.hid (Below.refl _ _)⟩
      case round =>
        obtain ⟨k, hk, rfl, rfl, rfl, HWR⟩ := hrel
        by_cases hlt : k < t.ts.length
        · have hbw2 : Below w.heap.size w wr := HB0.out.trans (HWR.out.mono (by omega))
          obtain ⟨b1, o1, v1, sv, rfl, hbb1, hv1, hvm, hvs, c1, c2, c3⟩ := (HS.out.carry hbw2 (Nat.le_refl _)).get (k := k) hlt
          obtain ⟨os, cs, rfl, -⟩ := hvs.form
          have hvb : v1.size ≤ 1048576 := by have := Tm.size_mem hvm; have := Tm.size_eq t; omega
          have HV1 := Lib.hid hv1
          have HVS := Lib.hid hvs
          have HBW2 := Lib.hid hbw2
          clear hv1 hvs hvm hbw2
          have HA := Lib.hid ((Below.refl wr.heap.size wr).alloc (Nat.le_refl _) (.cells #[.string v1.nm, .bool v1.vr, .slice os v1.ts.length cs] 25))
          have HZB := Lib.hid (heap_new_at wr (.cells #[.string v1.nm, .bool v1.vr, .slice os v1.ts.length cs] 25) wr.heap.size rfl)
          go_wp2_with fail
          clear c1 c2 c3
          obtain ⟨⟨z0, z1, z2⟩, -⟩ := box3 HZB.out
          go_region_held3 (fun w' => w'.cell? ⟨wr.heap.size, 0, none⟩ = some (.string v1.nm) ∧ w'.cell? ⟨wr.heap.size, 1, none⟩ = some (.bool v1.vr) ∧ w'.cell? ⟨wr.heap.size, 2, none⟩ = some (.slice os v1.ts.length cs)) (go_keep) ((first
            | (go_at_call 58
               refine (rdepth_sz v1 _ _ hvb (HVS.out.carry (HB1.out.mono HBW2.out.size) (Nat.le_trans HBW2.out.size HB1.out.size))).mono ?_
               rintro e W3 ⟨rfl, hb3'⟩
               have HB2 := Lib.hid (HB1.out.trans (hb3'.mono HB1.out.size))
               have z0 := (hb3'.cell (p := ⟨wr.heap.size, 0, none⟩) (World.block_lt_of_cell? _ _ z0)).trans z0
               have z1 := (hb3'.cell (p := ⟨wr.heap.size, 1, none⟩) (World.block_lt_of_cell? _ _ z1)).trans z1
               have z2 := (hb3'.cell (p := ⟨wr.heap.size, 2, none⟩) (World.block_lt_of_cell? _ _ z2)).trans z2
               clear hb3')
            | (go_at_call 57
               refine (rsize_sz v1 _ _ hvb (HVS.out.carry ((HA.out.trans (Below.refl _ _).drew).mono HBW2.out.size) (Nat.le_trans HBW2.out.size HA.out.size))).mono ?_
               rintro e W2 ⟨rfl, hb2'⟩
               have HB1 := Lib.hid ((HA.out.trans (Below.refl _ _).drew).trans (hb2'.mono HA.out.size))
               have z0 := (hb2'.cell (p := ⟨wr.heap.size, 0, none⟩) (World.block_lt_of_cell? _ _ z0)).trans z0
               have z1 := (hb2'.cell (p := ⟨wr.heap.size, 1, none⟩) (World.block_lt_of_cell? _ _ z1)).trans z1
               have z2 := (hb2'.cell (p := ⟨wr.heap.size, 2, none⟩) (World.block_lt_of_cell? _ _ z2)).trans z2
               clear hb2')))
          have HWR3 := Lib.hid (HWR.out.trans (HB2.out.mono (by have := HWR.out.size; simpa using this)))
          have HBW3 := Lib.hid (HBW2.out.trans (HB2.out.mono HBW2.out.size))
          have hi0 := (HBW3.out.cell (p := ⟨b3, o3, none⟩) (Nat.lt_of_lt_of_le hb3 hn)).trans (by have := HC3.out 0 _ rfl; simpa using this)
          by_cases hkq : k = q
          · subst hkq
            obtain rfl : v1 = x := Option.some.inj (HV1.out.symm.trans HQ.out)
            have hkl : k < t.ts.length := hlt
            have hyk : ys[k]? = some (v1.put l u) := by rw [HYS.out, List.getElem?_set_self hkl]
            have HE1 := Lib.hid (sizes_snoc6 hyk)
            have HE2 := Lib.hid (depths_take6 hyk)
            have hbd : Tm.sizes (ys.take k) + (v1.put l u).size ≤ 9000000000 := by have := Tm.sizes_cut6 hyk; omega
            have hkk : ((k : Int) == (k : Int)) = true := beq_self_eq_true _
            clear hyk
            have HCALL := Lib.hid (IH.out v1 (.slice os v1.ts.length cs) (.slice (if cv = 1 then some ⟨b3, o3, none⟩ else some ⟨b3, o3 + 1, none⟩) l.length (cv - 1)) W3.drew (Nat.le_trans hn HBW3.out.size) (HVS.out.carry ((HB2.out.trans (Below.refl _ _).drew).mono HBW2.out.size) (Nat.le_trans HBW2.out.size HB2.out.size))
              ⟨_, _, rfl, fun hln => ⟨b3, o3 + 1, if_neg (by have : 0 < l.length := List.length_pos_iff.2 hln; omega), hb3, fun j y hy => (HBW3.out.cell (p := ⟨b3, _, none⟩) (Nat.lt_of_lt_of_le hb3 hn)).trans (by rw [show o3 + 1 + j = o3 + (j + 1) by omega]; exact HC3.out (j + 1) y (by simpa using hy))⟩⟩
              (by rintro oa m c ⟨⟩; omega) HXS.out (by omega) hvb hu hd)
            have hcw : l.length + 1 ≤ cv := hcv
            have hc1 : 1 ≤ cv := by omega
            have hI1 : (1 : Int) ≤ (l.length : Int) + 1 := by omega
            have hI2 : (l.length : Int) + 1 ≤ (cv : Int) := by omega
            have hI3 : (1 : Int) ≤ (cv : Int) := by omega
            have hI4 : ((l.length + 1 : Nat) : Int) ≤ (cv : Int) := by omega
            have hI5 : (1 : Int) ≤ ((l.length + 1 : Nat) : Int) := by omega
            have hI6 : (0 : Int) ≤ (l.length : Int) := by omega
            go_wp2_with fail
            rw [if_neg hcv1] at HCALL
            go_region_held3 (fun w' => w'.cell? ⟨wr.heap.size, 0, none⟩ = some (.string v1.nm) ∧ w'.cell? ⟨wr.heap.size, 1, none⟩ = some (.bool v1.vr) ∧ w'.cell? ⟨wr.heap.size, 2, none⟩ = some (.slice os v1.ts.length cs)) (go_keep) ((first
              | (go_at_call 129
                 refine HCALL.out.mono ?_
                 rintro e W4 ⟨rfl, hb4⟩
                 have HB4 := Lib.hid ((Below.refl _ W3).drew.trans hb4)
                 have z0 := (hb4.cell (p := ⟨wr.heap.size, 0, none⟩) (World.block_lt_of_cell? _ _ z0)).trans z0
                 have z1 := (hb4.cell (p := ⟨wr.heap.size, 1, none⟩) (World.block_lt_of_cell? _ _ z1)).trans z1
                 have z2 := (hb4.cell (p := ⟨wr.heap.size, 2, none⟩) (World.block_lt_of_cell? _ _ z2)).trans z2
                 clear hb4)))
            all_goals
              have HWR4 := Lib.hid (HWR3.out.trans (HB4.out.mono (Nat.le_trans (by have := HWR.out.size; simpa using this) HB2.out.size)))
              go_wp2_with fail
              exact ⟨⟨k + 1, by omega, by go_num, by rw [HE1.out]; go_num, by rw [HE2.out]; congr 1; omega, HWR4⟩, by simp [intOf]; omega⟩
          · have hkq' : ((k : Int) == (q : Int)) = false := by rw [beq_eq_false_iff_ne]; omega
            have hyk : ys[k]? = some v1 := by rw [HYS.out, List.getElem?_set_ne (fun e => hkq e.symm)]; exact HV1.out
            have HE1 := Lib.hid (sizes_snoc6 hyk)
            have HE2 := Lib.hid (depths_take6 hyk)
            have hbd : Tm.sizes (ys.take k) + v1.size ≤ 9000000000 := by have := Tm.sizes_cut6 hyk; omega
            clear hyk z0 z1 z2
            go_wp2_with fail
            exact ⟨⟨k + 1, by omega, by go_num, by rw [HE1.out]; go_num, by rw [HE2.out]; congr 1; omega, HWR3⟩, by simp [intOf]; omega⟩
        · obtain rfl : k = t.ts.length := by omega
          have HT3 : Hid (ys.take t.ts.length = ys) := Lib.hid (List.take_of_length_le (by rw [HYL.out]; exact Nat.le_refl _))
          rw [HT3.out]
          have hdb : Tm.depths ys ≤ 9000000000 := by
            have h : ∀ a : List Tm, Tm.depths a ≤ Tm.sizes a := by
              intro a
              induction a with
              | nil => simp [Tm.depths, Tm.sizes]
              | cons z a iha => have := Tm.depth_size z; simp only [Tm.depths, Tm.sizes]; omega
            have := h ys
            omega
          go_wp2_with fail
          refine bodyPost_ret (v := .tuple #[.int .i64 (1 + Tm.sizes ys : Nat), .int .i64 (1 + Tm.depths ys : Nat)]) (by simp [results, Tryz.f129, go_sem]; go_num) rfl ?_
          exact ⟨rfl, HB0.out.trans (HWR.out.mono (by omega))⟩
end Go.Proofs.YtnomppdmhgefiaaGreat
/- The reference's Subst. -/
namespace Go.Proofs.YtnomppdmhgefiaaGreat
open Go.RowKit

theorem rAt_one (z : Nat × Nat × Nat) (t : Tm) (s : Value) (l : List Int) (v : Value) (w : World) (hs : SlN z w.heap.size w t.ts s) (hl : PosIs w.heap.size w l v) (hll : l.length ≤ 1048576) (hb : t.size ≤ 1048576) :
    Calls Tryz.prog 17 #[tmv t s, v] w fun e w' => (∃ (r : Tm) (o : Option Addr) (k : Nat) (b : Bool), e = .returned (.tuple #[.agg #[.string r.nm, .bool r.vr, .slice o r.ts.length k], .bool b]) ∧ SlN z w'.heap.size w' r.ts (.slice o r.ts.length k) ∧ (b = true → t.at l = some r) ∧ (b = false → t.at l = none)) ∧ Below w.heap.size w w' := by
  refine (rAt_n z t s l v w hs hl hll hb).mono ?_
  rintro e w' ⟨⟨u, su, rfl, h1, h2⟩ | ⟨rfl, h1⟩, hb⟩
  · obtain ⟨o, n, rfl, -⟩ := h2.form
    exact ⟨⟨u, o, n, true, rfl, h2.carry hb hb.size, fun _ => h1, nofun⟩, hb⟩
  · exact ⟨⟨.mk ⟨#[]⟩ false [], none, 0, false, rfl, SlN.nil0 _ _ _, nofun, fun _ => h1⟩, hb⟩
/-- what Subst answers -/
def SuPost (z : Nat × Nat × Nat) (Q : Tm → Prop) (R : List RlV) (t : Tm) (i : Int) (pos : List Int) (e : Ending) (w' : World) : Prop :=
  ∃ (c : Int) (v' : Value), e = .returned (.tuple #[v', .int .i64 c]) ∧ (c = 0 → ∃ (k : Nat) (p : RlV) (x : Tm) (S' : List Bd), i = (k : Int) ∧ R[k]? = some p ∧ t.at pos = some x ∧ BindsN z w'.heap.size w' S' v' ∧ MtOk Q [] S' p.1.1 x)

set_option maxRecDepth 100000 in
set_option maxHeartbeats 8000000 in
theorem rsubst_any (z : Nat × Nat × Nat) (Q : Tm → Prop) (hQ : ∀ t, Q t → ∀ u ∈ t.ts, Q u) (hQb : ∀ t, Q t → t.low ∧ t.size ≤ 1048576) (R : List RlV) (rv : Value) (t : Tm) (s : Value) (i : Int) (pos : List Int) (pv : Value) (w : World) (hR : RulV w.heap.size w R rv) (hs : SlN z w.heap.size w t.ts s) (hp : PosIs w.heap.size w pos pv) (hpl : pos.length ≤ 1048576) (hqt : Q t) (hRb : ∀ p ∈ R, p.1.1.bulk ≤ 1048576) :
    Calls Tryz.prog 128 #[rv, tmv t s, .agg #[.int .i64 i, pv]] w fun e w' => SuPost z Q R t i pos e w' ∧ Below w.heap.size w w' := by
  obtain ⟨os, cs, rfl, -⟩ := hs.form
  obtain ⟨or', cr, rfl⟩ := hR.shape
  obtain ⟨op, cp, rfl, -⟩ := hp.form
  have HR := Lib.hid hR
  have HS := Lib.hid hs
  have HP := Lib.hid hp
  have HQ := Lib.hid hQ
  have HQB := Lib.hid hQb
  have HRB := Lib.hid hRb
  have HQT := Lib.hid hqt
  clear hR hs hp hQ hQb hRb hqt
  go_enter Tryz.func128, Tryz.ntmps128
  go_wp2_with fail
  have hA : Below w.heap.size w ((w.alloc (.cells #[.string t.nm, .bool t.vr, .slice os t.ts.length cs] 25)).alloc (.cells #[.int .i64 i, .slice op pos.length cp] 28)) := by go_grown
  have hbx : ((w.alloc (.cells #[.string t.nm, .bool t.vr, .slice os t.ts.length cs] 25)).alloc (.cells #[.int .i64 i, .slice op pos.length cp] 28)).heap[w.heap.size + 1]? = some (.cells #[.int .i64 i, .slice op pos.length cp] 28 (0, 0)) := heap_new_at _ _ _ (by simp)
  refine (rAt_one z t _ pos _ _ (HS.out.carry hA hA.size) (HP.out.carry hA hA.size) hpl (HQB.out t HQT.out).2).mono ?_
  rintro e W1 ⟨⟨x, ox, kx, b, rfl, hx, hbt, -⟩, hb⟩
  have hA2 := (Below.refl W1.heap.size W1).alloc (Nat.le_refl _) (.cells #[.string x.nm, .bool x.vr, .slice ox x.ts.length kx] 25)
  have HB := Lib.hid ((hA.trans (hb.mono hA.size)).trans (hA2.mono (Nat.le_trans hA.size hb.size)))
  have hbx1 := (hb.block _ (Array.getElem?_eq_some_iff.1 hbx).1).trans hbx
  have HBX := Lib.hid ((hA2.block _ (Array.getElem?_eq_some_iff.1 hbx1).1).trans hbx1)
  have HX := Lib.hid (hx.carry hA2 hA2.size)
  have HXB := Lib.hid (heap_new_at W1 (.cells #[.string x.nm, .bool x.vr, .slice ox x.ts.length kx] 25) W1.heap.size rfl)
  clear hA2 hbx1
  have HBT := Lib.hid hbt
  clear hA hbx hx hbt hb
  have d0 := cells_of' HBX.out 0
  have d1 := cells_of' HBX.out 1
  simp only [List.getElem?_toArray, List.getElem?_cons_zero, List.getElem?_cons_succ] at d0 d1
  have hend : ∀ (c : Int) (W' : World), c ≠ 0 → Below w.heap.size w W' → SuPost z Q R t i pos (.returned (.tuple #[.slice none 0 0, .int .i64 c])) W' ∧ Below w.heap.size w W' := fun c W' hc hW => ⟨⟨c, _, rfl, fun h => absurd h hc⟩, hW⟩
  have HE := Lib.hid hend
  clear hend
  by_cases hlo : i < 0
  · go_wp2_with fail
    refine bodyPost_ret (v := .tuple #[.slice none 0 0, .int .i64 8]) (by simp [results, Tryz.f128, go_sem]) rfl ?_
    exact HE.out 8 _ (by decide) HB.out
  by_cases hhi : (R.length : Int) ≤ i
  · go_wp2_with fail
    refine bodyPost_ret (v := .tuple #[.slice none 0 0, .int .i64 8]) (by simp [results, Tryz.f128, go_sem]) rfl ?_
    exact HE.out 8 _ (by decide) HB.out
  cases b with
  | false =>
    go_wp2_with fail
    refine bodyPost_ret (v := .tuple #[.slice none 0 0, .int .i64 8]) (by simp [results, Tryz.f128, go_sem]) rfl ?_
    exact HE.out 8 _ (by decide) HB.out
  | true =>
  have HAT := Lib.hid (HBT.out rfl)
  obtain ⟨k, rfl⟩ : ∃ k : Nat, i = (k : Int) := ⟨i.toNat, by omega⟩
  have hkl : k < R.length := by omega
  have hw := HB.out.size
  obtain ⟨br, ob, pl, pr, ol, or2, cl, cr2, rfl, hbr, hpk, hsl, hsr, c0, c1, c2, -, -, -⟩ := (HR.out.carry HB.out HB.out.size).get hkl
  have HPK := Lib.hid hpk
  have HSL := Lib.hid hsl
  have hbl := HRB.out _ (List.mem_of_getElem? hpk)
  clear hpk hsl hsr hw
  obtain ⟨⟨x0, x1, x2⟩, -⟩ := box3 HXB.out
  have hxq : Q x := by
    have h := HAT.out
    clear HAT HX HXB x0 x1 x2
    have key : ∀ (l : List Int) (t' : Tm), Q t' → t'.at l = some x → Q x := by
      intro l
      induction l with
      | nil => intro t' h1 h2; simp only [Tm.at, Option.some.injEq] at h2; subst h2; exact h1
      | cons a l ih =>
        intro t' h1 h2
        obtain ⟨y, hy, _⟩ := Tm.at_cons_some6 (t := t') (i := a) (l := l) (by rw [h2]; rfl)
        rw [Tm.at_cons6 hy] at h2
        exact ih y (HQ.out t' h1 y (Tm.kid_mem hy)) h2
    exact key pos t HQT.out h
  have HXQ := Lib.hid hxq
  clear hxq
  have hpsz : pl.size ≤ 1048576 := by have := Tm.size_bulk pl; simp only at hbl; omega
  go_wp2_with fail
  go_region_held3 (fun w' => w'.cell? ⟨w.heap.size + 1, 0, none⟩ = some (.int .i64 (k : Int)) ∧ w'.cell? ⟨br, ob + k * 6, none⟩ = some (.string pl.nm) ∧ w'.cell? ⟨br, ob + k * 6 + 1, none⟩ = some (.bool pl.vr) ∧ w'.cell? ⟨br, ob + k * 6 + 2, none⟩ = some (.slice ol pl.ts.length cl) ∧ w'.cell? ⟨W1.heap.size, 0, none⟩ = some (.string x.nm) ∧ w'.cell? ⟨W1.heap.size, 1, none⟩ = some (.bool x.vr) ∧ w'.cell? ⟨W1.heap.size, 2, none⟩ = some (.slice ox x.ts.length kx)) (go_keep) ((first
    | (go_at_call 193
       refine (rMatch_any z Q HQ.out HQB.out pl (.slice ol pl.ts.length cl) x (.slice ox x.ts.length kx) _ (HSL.out.carry (Below.refl _ _).drew (Nat.le_refl _)) (HX.out.carry (Below.refl _ _).drew (Nat.le_refl _)) HXQ.out hbl hpsz).mono ?_
       rintro e W4 ⟨⟨b, v', rfl, hpost⟩, hb4⟩
       have HPO := Lib.hid hpost
       have HB4 := Lib.hid (HB.out.trans (((Below.refl _ _).drew.trans hb4).mono HB.out.size))
       have d0 := (hb4.cell (p := ⟨w.heap.size + 1, 0, none⟩) (World.block_lt_of_cell? _ _ d0)).trans d0
       have c0 := (hb4.cell (p := ⟨br, ob + k * 6, none⟩) (World.block_lt_of_cell? _ _ c0)).trans c0
       have c1 := (hb4.cell (p := ⟨br, ob + k * 6 + 1, none⟩) (World.block_lt_of_cell? _ _ c1)).trans c1
       have c2 := (hb4.cell (p := ⟨br, ob + k * 6 + 2, none⟩) (World.block_lt_of_cell? _ _ c2)).trans c2
       have x0 := (hb4.cell (p := ⟨W1.heap.size, 0, none⟩) (World.block_lt_of_cell? _ _ x0)).trans x0
       have x1 := (hb4.cell (p := ⟨W1.heap.size, 1, none⟩) (World.block_lt_of_cell? _ _ x1)).trans x1
       have x2 := (hb4.cell (p := ⟨W1.heap.size, 2, none⟩) (World.block_lt_of_cell? _ _ x2)).trans x2
       clear hb4 hpost)))
  all_goals
    cases b with
    | false =>
      go_wp2_with fail
      refine bodyPost_ret (v := .tuple #[.slice none 0 0, .int .i64 9]) (by simp [results, Tryz.f128, go_sem]) rfl ?_
      exact HE.out 9 _ (by decide) HB4.out
    | true =>
      obtain ⟨S2, hB2, -, hM2⟩ := HPO.out rfl
      have hB3 := hB2
      obtain ⟨o3, k3, rfl, -, -⟩ := hB3
      have HBS := Lib.hid hB2
      have HM2 := Lib.hid hM2
      clear hB2 hM2
      go_wp2_with fail
      refine bodyPost_ret (v := .tuple #[.slice o3 S2.length k3, .int .i64 0]) (by simp [results, Tryz.f128, go_sem]) rfl ?_
      exact ⟨⟨0, _, rfl, fun _ => ⟨k, _, x, S2, rfl, HPK.out, HAT.out, HBS.out, HM2.out⟩⟩, HB4.out⟩
end Go.Proofs.YtnomppdmhgefiaaGreat
/- The reference.s Step, at any term of bounded size and any rules. -/
namespace Go.Proofs.YtnomppdmhgefiaaGreat
open Go.RowKit

/-- what is asked of a term that is matched, F being 'the whole term is formed' -/
def StQ (F : Prop) (u : Tm) : Prop := u.low ∧ u.bare ∧ u.size ≤ 4000 ∧ (F → u.formed)
theorem StQ.kids {F : Prop} {t : Tm} (h : StQ F t) : ∀ u ∈ t.ts, StQ F u := fun u hu =>
  ⟨h.1.kids u hu, h.2.1.kids u hu, by have := Tm.size_mem hu; have := Tm.size_eq t; have := h.2.2.1; omega, fun f => ((Tm.formed_iff t).1 (h.2.2.2 f)).2 u hu⟩
/-- a step: the result is X -/
structure StpIs (R : List RlV) (t : Tm) (i : Int) (pos : List Int) (X : Tm) : Prop where
  ex : ∃ (k : Nat) (p : RlV) (x : Tm) (S' : List Bd), i = (k : Int) ∧ R[k]? = some p ∧ t.at pos = some x ∧ apB S' p.1.1 = x ∧ X = t.put pos (apB S' p.2.1) ∧ ∀ q ∈ S', StQ t.formed q.2
  size : X.size ≤ 4000
  depth : X.depth ≤ 200
theorem apB_low {bl : List Bd} (h : ∀ p ∈ bl, p.2.low) {t : Tm} (ht : t.low) : (apB bl t).low := by
  induction t using Tm.ind with
  | h t ih =>
    cases hv : t.vr
    · rw [apB_fun bl hv]
      refine .mk _ ht.name fun u hu => ?_
      obtain ⟨x, hx, rfl⟩ := List.mem_map.1 hu
      exact ih x hx (ht.kids x hx)
    · rw [apB_var bl hv]
      rcases imageOf_or bl t.nm.data.toList with ⟨q, hq, e⟩ | e
      · rw [e]; exact h q hq
      · rw [e, kb_key]; exact .mk _ ht.name fun u hu => by cases hu
theorem apB_bare {bl : List Bd} (h : ∀ p ∈ bl, p.2.bare) (t : Tm) : (apB bl t).bare := by
  induction t using Tm.ind with
  | h t ih =>
    cases hv : t.vr
    · rw [apB_fun bl hv]
      refine .mk _ (fun hh => by cases hh) fun u hu => ?_
      obtain ⟨x, hx, rfl⟩ := List.mem_map.1 hu
      exact ih x hx
    · rw [apB_var bl hv]
      rcases imageOf_or bl t.nm.data.toList with ⟨q, hq, e⟩ | e
      · rw [e]; exact h q hq
      · rw [e]; exact .mk _ (fun _ => rfl) fun u hu => by cases hu
theorem Tm.put_low {t : Tm} (ht : t.low) {u : Tm} (hu : u.low) (l : List Int) : (t.put l u).low := by
  induction l generalizing t with
  | nil => exact hu
  | cons i l ih =>
    simp only [Tm.put]
    split
    · rename_i x hx
      refine .mk _ ht.name fun y hy => ?_
      rcases List.mem_or_eq_of_mem_set hy with h | rfl
      · exact ht.kids y h
      · exact ih (ht.kids x (Tm.kid_mem hx))
    · exact ht
theorem Tm.put_bare {t : Tm} (ht : t.bare) {u : Tm} (hu : u.bare) (l : List Int) : (t.put l u).bare := by
  induction l generalizing t with
  | nil => exact hu
  | cons i l ih =>
    simp only [Tm.put]
    split
    · rename_i x hx
      refine .mk _ (fun hv => ?_) fun y hy => ?_
      · have h0 := ht.vr0 hv
        have := Tm.kid_mem hx
        rw [h0] at this
        cases this
      · rcases List.mem_or_eq_of_mem_set hy with h | rfl
        · exact ht.kids y h
        · exact ih (ht.kids x (Tm.kid_mem hx))
    · exact ht
theorem StpIs.low {R : List RlV} {t : Tm} {i : Int} {pos : List Int} {X : Tm} (h : StpIs R t i pos X) (ht : t.low) (hR : ∀ p ∈ R, p.2.1.bulk ≤ 1048576) : X.low := by
  obtain ⟨k, p, x, S', -, hp, -, -, rfl, hS⟩ := h.ex
  exact Tm.put_low ht (apB_low (fun q hq => (hS q hq).1) (Tm.low_of_bulk _ (hR p (List.mem_of_getElem? hp)))) pos
theorem StpIs.bare {R : List RlV} {t : Tm} {i : Int} {pos : List Int} {X : Tm} (h : StpIs R t i pos X) (ht : t.bare) : X.bare := by
  obtain ⟨k, p, x, S', -, hp, -, -, rfl, hS⟩ := h.ex
  exact Tm.put_bare ht (apB_bare (fun q hq => (hS q hq).2.1) _) pos
theorem StpIs.ok {R : List RlV} {t : Tm} {i : Int} {pos : List Int} {X : Tm} (h : StpIs R t i pos X) (ht : t.formed) (hR : ∀ p ∈ R, p.2.1.formed) : X.ok := by
  obtain ⟨k, p, x, S', -, hp, -, -, rfl, hS⟩ := h.ex
  exact ⟨Tm.put_formed6 ht (apB_formed6 (fun q hq => (hS q hq).2.2.2 ht) (hR p (List.mem_of_getElem? hp))) pos, h.size, h.depth⟩
/-- what Step answers -/
def StPost (g h : Nat) (R : List RlV) (t : Tm) (i : Int) (pos : List Int) (e : Ending) (w' : World) : Prop :=
  ∃ (c : Int) (X : Tm) (o : Option Addr) (m k : Nat), e = .returned (.tuple #[.agg #[.string X.nm, .bool X.vr, .slice o m k], .int .i64 c]) ∧ (c = 0 → m = X.ts.length ∧ SlN (g, g, h) w'.heap.size w' X.ts (.slice o m k) ∧ StpIs R t i pos X)

/-- what the last region of Step reads -/
def StS (n br ob k : Nat) (t : Tm) (tv : Value) (i : Int) (pv : Value) (pr : Tm) (rv : Value) (W : World) : Prop :=
  W.cell? ⟨n, 0, none⟩ = some (.string t.nm) ∧ W.cell? ⟨n, 1, none⟩ = some (.bool t.vr) ∧ W.cell? ⟨n, 2, none⟩ = some tv ∧ W.cell? ⟨n + 1, 0, none⟩ = some (.int .i64 i) ∧ W.cell? ⟨n + 1, 1, none⟩ = some pv ∧
  W.cell? ⟨br, ob + k * 6 + 3, none⟩ = some (.string pr.nm) ∧ W.cell? ⟨br, ob + k * 6 + 4, none⟩ = some (.bool pr.vr) ∧ W.cell? ⟨br, ob + k * 6 + 5, none⟩ = some rv
theorem StS.of {n br ob k : Nat} {t : Tm} {tv : Value} {i : Int} {pv : Value} {pr : Tm} {rv : Value} {A W : World} (h : StS n br ob k t tv i pv pr rv A) (hb : ∀ b o x, A.cell? ⟨b, o, none⟩ = some x → (b = n ∨ b = n + 1 ∨ b = br) → W.cell? ⟨b, o, none⟩ = some x) : StS n br ob k t tv i pv pr rv W := by
  obtain ⟨h1, h2, h3, h4, h5, h6, h7, h8⟩ := h
  exact ⟨hb _ _ _ h1 (.inl rfl), hb _ _ _ h2 (.inl rfl), hb _ _ _ h3 (.inl rfl), hb _ _ _ h4 (.inr (.inl rfl)), hb _ _ _ h5 (.inr (.inl rfl)), hb _ _ _ h6 (.inr (.inr rfl)), hb _ _ _ h7 (.inr (.inr rfl)), hb _ _ _ h8 (.inr (.inr rfl))⟩
theorem StS.carry {n br ob k : Nat} {t : Tm} {tv : Value} {i : Int} {pv : Value} {pr : Tm} {rv : Value} {A W : World} (h : StS n br ob k t tv i pv pr rv A) (hb : Below A.heap.size A W) : StS n br ob k t tv i pv pr rv W :=
  h.of fun _ _ _ hc _ => (hb.cell (p := ⟨_, _, none⟩) (World.block_lt_of_cell? _ _ hc)).trans hc
theorem StS.set3 {n br ob k : Nat} {t : Tm} {tv : Value} {i : Int} {pv : Value} {pr : Tm} {rv : Value} {W : World} (h : StS n br ob k t tv i pv pr rv W) (hbr : br < n) (x y z : Value) : StS n br ob k t tv i pv pr rv (((W.setCell ⟨n + 1 + 1, 0, none⟩ x).setCell ⟨n + 1 + 1, 1, none⟩ y).setCell ⟨n + 1 + 1, 2, none⟩ z) :=
  h.of fun b o v hc hb => by
    have hne : b ≠ n + 1 + 1 := by rcases hb with rfl | rfl | rfl <;> omega
    unfold World.cell? at hc ⊢
    simp only [heap_set3 _ _ _ _ _ _ hne]
    exact hc

set_option maxRecDepth 100000 in
set_option maxHeartbeats 8000000 in
theorem rstep5_any (g h : Nat) (R : List RlV) (rv : Value) (t : Tm) (s : Value) (i : Int) (pos : List Int) (pv : Value) (w : World) (hR : RulV w.heap.size w R rv) (hg : g < w.heap.size) (hh : h < w.heap.size) (hs : SlN (g, g, h) w.heap.size w t.ts s) (hp : PosIs w.heap.size w pos pv) (hpc : ∀ oa m c, pv = .slice oa m c → m ≤ c) (hpl : pos.length ≤ 1048576) (hlo : t.low) (hba : t.bare) (hsz : t.size ≤ 4000) (hRo : ∀ p ∈ R, p.1.1.bulk ≤ 1048576 ∧ p.2.1.bulk ≤ 1048576) :
    Calls Tryz.prog 70 #[rv, tmv t s, .agg #[.int .i64 i, pv]] w fun e w' => StPost g h R t i pos e w' ∧ Below w.heap.size w w' := by
  have hQb : ∀ u : Tm, StQ t.formed u → u.low ∧ u.size ≤ 1048576 := fun u h => ⟨h.1, by have := h.2.2.1; omega⟩
  have HSU := Lib.hid (fun W (hW : Below w.heap.size w W) => rsubst_any (w.heap.size + 2, g, h) (StQ t.formed) (fun _ h => h.kids) hQb R rv t s i pos pv W (hR.carry hW hW.size) ((hs.carry hW (Nat.le_refl _)).toP.toN fun b hb => ⟨Nat.lt_of_lt_of_le hb.1 hW.size, by show b ≠ w.heap.size + 2; have := hb.1; omega, hb.2.1, hb.2.2.2⟩) (hp.carry hW hW.size) hpl ⟨hlo, hba, hsz, fun h => h⟩ (fun p hpm => (hRo p hpm).1))
  obtain ⟨os, cs, rfl, -⟩ := hs.form
  obtain ⟨or', cr, rfl⟩ := hR.shape
  obtain ⟨op, cp, rfl, -⟩ := hp.form
  have HR := Lib.hid hR
  have HS := Lib.hid hs
  have HP := Lib.hid hp
  have HPC := Lib.hid hpc
  have HBA := Lib.hid hba
  have HRO := Lib.hid hRo
  clear hR hs hp hpc hQb hRo hba hlo
  go_enter Tryz.func70, Tryz.ntmps70
  go_wp2_with fail
  have hA : Below w.heap.size w (((w.alloc (.cells #[.string t.nm, .bool t.vr, .slice os t.ts.length cs] 25)).alloc (.cells #[.int .i64 i, .slice op pos.length cp] 28)).alloc (.cells #[.string ⟨#[]⟩, .bool false, .slice none 0 0] 25)) := by go_grown
  have hb0 : (((w.alloc (.cells #[.string t.nm, .bool t.vr, .slice os t.ts.length cs] 25)).alloc (.cells #[.int .i64 i, .slice op pos.length cp] 28)).alloc (.cells #[.string ⟨#[]⟩, .bool false, .slice none 0 0] 25)).heap[w.heap.size]? = some (.cells #[.string t.nm, .bool t.vr, .slice os t.ts.length cs] 25 (0, 0)) := (Below.heap_alloc _ _ _ (by simp; omega)).trans ((Below.heap_alloc _ _ _ (by simp)).trans (heap_new_at _ _ _ rfl))
  have hb1 : (((w.alloc (.cells #[.string t.nm, .bool t.vr, .slice os t.ts.length cs] 25)).alloc (.cells #[.int .i64 i, .slice op pos.length cp] 28)).alloc (.cells #[.string ⟨#[]⟩, .bool false, .slice none 0 0] 25)).heap[w.heap.size + 1]? = some (.cells #[.int .i64 i, .slice op pos.length cp] 28 (0, 0)) := (Below.heap_alloc _ _ _ (by simp)).trans (heap_new_at _ _ _ (by simp))
  have hb2 : (((w.alloc (.cells #[.string t.nm, .bool t.vr, .slice os t.ts.length cs] 25)).alloc (.cells #[.int .i64 i, .slice op pos.length cp] 28)).alloc (.cells #[.string ⟨#[]⟩, .bool false, .slice none 0 0] 25)).heap[w.heap.size + 2]? = some (.cells #[.string ⟨#[]⟩, .bool false, .slice none 0 0] 25 (0, 0)) := heap_new_at _ _ _ (by simp)
  refine (HSU.out _ hA).mono ?_
  rintro e W1 ⟨⟨c, v', rfl, hc⟩, hb⟩
  have HB1 := Lib.hid (hA.trans (hb.mono hA.size))
  have HX0 := Lib.hid ((hb.block _ (Array.getElem?_eq_some_iff.1 hb0).1).trans hb0)
  have HX1 := Lib.hid ((hb.block _ (Array.getElem?_eq_some_iff.1 hb1).1).trans hb1)
  have HX2 := Lib.hid ((hb.block _ (Array.getElem?_eq_some_iff.1 hb2).1).trans hb2)
  have HC := Lib.hid hc
  clear hA hb0 hb1 hb2 hb hc HSU
  by_cases hc0 : c = 0
  rotate_left
  · have hcc : (c != 0) = true := by simpa using hc0
    have hx2 : W1.heap[w.heap.size + 1 + 1]? = _ := HX2.out
    obtain ⟨⟨q0, q1, q2⟩, f0, f1, f2⟩ := box3 hx2
    have HXX := Lib.hid hx2
    clear hx2
    go_wp2_with fail
    obtain ⟨⟨r0, r1, r2⟩, -⟩ := box3 (box3_set HXX.out (.string ⟨#[]⟩) (.bool false) (.slice none 0 0))
    have hbf := below_set3 HB1.out (b := w.heap.size + 1 + 1) (by omega) (.string ⟨#[]⟩) (.bool false) (.slice none 0 0)
    refine bodyPost_ret (v := .tuple #[.agg #[.string ⟨#[]⟩, .bool false, .slice none 0 0], .int .i64 c]) (by simp [results, Tryz.f70, go_sem, r0, r1, r2]) rfl ?_
    exact ⟨⟨c, .mk ⟨#[]⟩ false [], none, 0, 0, rfl, fun h => absurd h hc0⟩, hbf⟩
  obtain ⟨k, p, x, S', rfl, hpk, hat, hbi, hmt⟩ := HC.out hc0
  subst hc0
  have hbi' := hbi
  obtain ⟨ou, cu, rfl, -, -⟩ := hbi'
  have hkl := (List.getElem?_eq_some_iff.1 hpk).1
  obtain ⟨br, ob, pl, pr, ol, or2, cl, cr2, rfl, hbr, hpk2, hsl, hsr, -, -, -, c3, c4, c5⟩ := (HR.out.carry HB1.out (Nat.le_refl _)).get hkl
  obtain rfl : p = _ := Option.some.inj (hpk.symm.trans hpk2)
  have d0 := cells_of' HX1.out 0
  have d1 := cells_of' HX1.out 1
  simp only [List.getElem?_toArray, List.getElem?_cons_zero, List.getElem?_cons_succ] at d0 d1
  have hkl' : (k : Int) < (R.length : Int) := by omega
  have HPK := Lib.hid hpk
  have HAT := Lib.hid hat
  have HBI := Lib.hid hbi
  have HMT := Lib.hid hmt
  have HSR := Lib.hid (hsr.carry (Below.refl _ _) HB1.out.size)
  clear hpk hpk2 hat hbi hmt hsl hsr HC
  go_wp2_with fail
  have hpo := HRO.out _ (List.mem_of_getElem? HPK.out)
  have hvl := HMT.out.val (by simp)
  have hlen : S'.length ≤ 100000000 := by have := HMT.out.len; have h2 := Tm.size_bulk pl; have h3 := hpo.1; simp only [List.length_nil] at *; omega
  have HPO := Lib.hid hpo
  have HVL := Lib.hid hvl
  have hrb : pr.bulk ≤ 1048576 := hpo.2
  have HSM : Hid ((apB S' pr).size ≤ 4194304000) := Lib.hid (by have h1 := grown_small (fun q hq => (hvl q hq).1.2.2.1) pr; have h2 := Tm.size_bulk pr; omega)
  have HSV : Hid (∀ q ∈ S', q.2.size ≤ 4000) := Lib.hid (fun q hq => (hvl q hq).1.2.2.1)
  refine (rgrown_sz S' _ W1.heap.size hlen HSV.out pr (.slice or2 pr.ts.length cr2) W1 (Nat.le_refl _) HBI.out.toIs HSR.out hrb).mono ?_
  rintro e W2 ⟨rfl, hb⟩
  have HB2 := Lib.hid (HB1.out.trans (hb.mono HB1.out.size))
  have HB12 := Lib.hid hb
  have HY0 := Lib.hid ((hb.block _ (Array.getElem?_eq_some_iff.1 HX0.out).1).trans HX0.out)
  have HY1 := Lib.hid ((hb.block _ (Array.getElem?_eq_some_iff.1 HX1.out).1).trans HX1.out)
  have HY2 := Lib.hid ((hb.block _ (Array.getElem?_eq_some_iff.1 HX2.out).1).trans HX2.out)
  have c3 := (hb.cell (p := ⟨br, ob + k * 6 + 3, none⟩) (World.block_lt_of_cell? _ _ c3)).trans c3
  have c4 := (hb.cell (p := ⟨br, ob + k * 6 + 4, none⟩) (World.block_lt_of_cell? _ _ c4)).trans c4
  have c5 := (hb.cell (p := ⟨br, ob + k * 6 + 5, none⟩) (World.block_lt_of_cell? _ _ c5)).trans c5
  have HLEN := Lib.hid hlen
  have HRB := Lib.hid hrb
  clear hb hpo hvl d0 d1
  have d0 := cells_of' HY1.out 0
  have d1 := cells_of' HY1.out 1
  simp only [List.getElem?_toArray, List.getElem?_cons_zero, List.getElem?_cons_succ] at d0 d1
  obtain ⟨⟨t0, t1, t2⟩, -⟩ := box3 HY0.out
  go_wp2_with fail
  refine (replaced_any w.heap.size pos (apB S' pr) t (.slice os t.ts.length cs) (.slice op pos.length cp) W2 HB2.out.size (HS.out.carry HB2.out HB2.out.size).toIs (HP.out.carry HB2.out (Nat.le_refl _)) HPC.out (by rw [HAT.out]; rfl) hpl (by omega) (by have := HSM.out; omega) (by have := HSM.out; have := Tm.depth_size (apB S' pr); omega)).mono ?_
  rintro e W3 ⟨rfl, hb⟩
  have HB3 := Lib.hid (HB2.out.trans (hb.mono HB2.out.size))
  have HB13 := Lib.hid (HB12.out.trans (hb.mono HB12.out.size))
  have HZ0 := Lib.hid ((hb.block _ (Array.getElem?_eq_some_iff.1 HY0.out).1).trans HY0.out)
  have HZ1 := Lib.hid ((hb.block _ (Array.getElem?_eq_some_iff.1 HY1.out).1).trans HY1.out)
  have HZ2 := Lib.hid ((hb.block _ (Array.getElem?_eq_some_iff.1 HY2.out).1).trans HY2.out)
  have c3 := (hb.cell (p := ⟨br, ob + k * 6 + 3, none⟩) (World.block_lt_of_cell? _ _ c3)).trans c3
  have c4 := (hb.cell (p := ⟨br, ob + k * 6 + 4, none⟩) (World.block_lt_of_cell? _ _ c4)).trans c4
  have c5 := (hb.cell (p := ⟨br, ob + k * 6 + 5, none⟩) (World.block_lt_of_cell? _ _ c5)).trans c5
  clear hb d0 d1 t0 t1 t2 HX0 HX1 HX2 HY0 HY1 HY2 HB2 HB12
  generalize hX : t.put pos (apB S' pr) = X
  by_cases hs : X.size ≤ 4000
  rotate_left
  · have hs1 : (4000 : Int) < (X.size : Int) := by omega
    have hx2 : W3.heap[w.heap.size + 1 + 1]? = _ := HZ2.out
    obtain ⟨⟨q0, q1, q2⟩, f0, f1, f2⟩ := box3 hx2
    have HXX := Lib.hid hx2
    clear hx2
    go_wp2_with fail
    obtain ⟨⟨r0, r1, r2⟩, -⟩ := box3 (box3_set HXX.out (.string ⟨#[]⟩) (.bool false) (.slice none 0 0))
    have hbf := below_set3 HB3.out (b := w.heap.size + 1 + 1) (by omega) (.string ⟨#[]⟩) (.bool false) (.slice none 0 0)
    refine bodyPost_ret (v := .tuple #[.agg #[.string ⟨#[]⟩, .bool false, .slice none 0 0], .int .i64 3]) (by simp [results, Tryz.f70, go_sem, r0, r1, r2]) rfl ?_
    exact ⟨⟨3, .mk ⟨#[]⟩ false [], none, 0, 0, rfl, fun h => absurd h (by decide)⟩, hbf⟩

  by_cases hd : X.depth ≤ 200
  rotate_left
  · have hs1 : ¬ (4000 : Int) < (X.size : Int) := by omega
    have hd1 : (200 : Int) < (X.depth : Int) := by omega
    have hx2 : W3.heap[w.heap.size + 1 + 1]? = _ := HZ2.out
    obtain ⟨⟨q0, q1, q2⟩, f0, f1, f2⟩ := box3 hx2
    have HXX := Lib.hid hx2
    clear hx2
    go_wp2_with fail
    obtain ⟨⟨r0, r1, r2⟩, -⟩ := box3 (box3_set HXX.out (.string ⟨#[]⟩) (.bool false) (.slice none 0 0))
    have hbf := below_set3 HB3.out (b := w.heap.size + 1 + 1) (by omega) (.string ⟨#[]⟩) (.bool false) (.slice none 0 0)
    refine bodyPost_ret (v := .tuple #[.agg #[.string ⟨#[]⟩, .bool false, .slice none 0 0], .int .i64 3]) (by simp [results, Tryz.f70, go_sem, r0, r1, r2]) rfl ?_
    exact ⟨⟨3, .mk ⟨#[]⟩ false [], none, 0, 0, rfl, fun h => absurd h (by decide)⟩, hbf⟩

  have hs1 : ¬ (4000 : Int) < (X.size : Int) := by omega
  have hd1 : ¬ (200 : Int) < (X.depth : Int) := by omega
  have d0 := cells_of' HZ1.out 0
  have d1 := cells_of' HZ1.out 1
  simp only [List.getElem?_toArray, List.getElem?_cons_zero, List.getElem?_cons_succ] at d0 d1
  obtain ⟨⟨t0, t1, t2⟩, -⟩ := box3 HZ0.out
  have HSS : Hid (StS w.heap.size br ob k t (.slice os t.ts.length cs) k (.slice op pos.length cp) pr (.slice or2 pr.ts.length cr2) W3) := Lib.hid ⟨t0, t1, t2, d0, d1, c3, c4, c5⟩
  have HS0 := Lib.hid (HSS.out.carry (Below.refl _ W3).drew)
  have HBR := Lib.hid hbr
  clear t0 t1 t2 d0 d1 c3 c4 c5 HZ0 HZ1
  go_wp2_with fail
  refine wp_region_noPanic ?_
  refine wp_region_held_drew (S := StS w.heap.size br ob k t (.slice os t.ts.length cs) k (.slice op pos.length cp) pr (.slice or2 pr.ts.length cr2)) (by kernel_rfl) HS0.out (fun _ => ?_)
  simp only [List.size_toArray, List.length_cons, List.length_nil, Nat.reduceAdd]
  refine wpAnyH_take (i := 0) (v := ?_) (by simp only [List.getElem?_toArray, List.getElem?_cons_zero]; rfl) (by kernel_rfl) (by kernel_rfl) (by kernel_rfl) (fun _ _ _ h => h) (Or.inl ⟨by rfl, ?_⟩) HS0.out ?_
  case refine_2 => (intro ww hSw; obtain ⟨s1, s2, s3, s4, s5, s6, s7, s8⟩ := hSw; go_simp; try with_reducible rfl)
  try simp only [Act.put, List.setIfInBounds_toArray, List.set_cons_zero, List.set_cons_succ]
  refine wpAnyH_take (i := 1) (v := ?_) (by simp only [List.getElem?_toArray, List.getElem?_cons_zero, List.getElem?_cons_succ]; rfl) (by kernel_rfl) (by kernel_rfl) (by kernel_rfl) (fun _ _ _ h => h) (Or.inl ⟨by rfl, ?_⟩) HS0.out ?_
  case refine_2 => (intro ww hSw; obtain ⟨s1, s2, s3, s4, s5, s6, s7, s8⟩ := hSw; go_simp; try with_reducible rfl)
  try simp only [Act.put, List.setIfInBounds_toArray, List.set_cons_zero, List.set_cons_succ]
  refine wpAnyH_take (i := 2) (v := ?_) (by simp only [List.getElem?_toArray, List.getElem?_cons_zero, List.getElem?_cons_succ]; rfl) (by kernel_rfl) (by kernel_rfl) (by kernel_rfl) (fun _ _ _ h => h) (Or.inl ⟨by rfl, ?_⟩) HS0.out ?_
  case refine_2 => (intro ww hSw; obtain ⟨s1, s2, s3, s4, s5, s6, s7, s8⟩ := hSw; go_simp; try with_reducible rfl)
  try simp only [Act.put, List.setIfInBounds_toArray, List.set_cons_zero, List.set_cons_succ]
  refine wpAnyH_take (i := 3) (v := ?_) (by simp only [List.getElem?_toArray, List.getElem?_cons_zero, List.getElem?_cons_succ]; rfl) (by kernel_rfl) (by kernel_rfl) (by kernel_rfl) (fun _ _ _ h => h) (Or.inl ⟨by rfl, ?_⟩) HS0.out ?_
  case refine_2 => (intro ww hSw; obtain ⟨s1, s2, s3, s4, s5, s6, s7, s8⟩ := hSw; go_simp; try with_reducible rfl)
  try simp only [Act.put, List.setIfInBounds_toArray, List.set_cons_zero, List.set_cons_succ]
  refine wpAnyH_take (i := 4) (v := ?_) (by simp only [List.getElem?_toArray, List.getElem?_cons_zero, List.getElem?_cons_succ]; rfl) (by kernel_rfl) (by kernel_rfl) (by kernel_rfl) (fun _ _ _ h => h) (Or.inl ⟨by rfl, ?_⟩) HS0.out ?_
  case refine_2 => (intro ww hSw; obtain ⟨s1, s2, s3, s4, s5, s6, s7, s8⟩ := hSw; go_simp; try with_reducible rfl)
  try simp only [Act.put, List.setIfInBounds_toArray, List.set_cons_zero, List.set_cons_succ]
  refine wpAnyH_take (i := 5) (v := ?_) (by simp only [List.getElem?_toArray, List.getElem?_cons_zero, List.getElem?_cons_succ]; rfl) (by kernel_rfl) (by kernel_rfl) (by kernel_rfl) (fun _ _ _ h => h) (Or.inl ⟨by rfl, ?_⟩) HS0.out ?_
  case refine_2 => (intro ww hSw; obtain ⟨s1, s2, s3, s4, s5, s6, s7, s8⟩ := hSw; go_simp; try with_reducible rfl)
  try simp only [Act.put, List.setIfInBounds_toArray, List.set_cons_zero, List.set_cons_succ]
  refine wpAnyH_take (i := 6) (v := ?_) (by simp only [List.getElem?_toArray, List.getElem?_cons_zero, List.getElem?_cons_succ]; rfl) (by kernel_rfl) (by kernel_rfl) (by kernel_rfl) (fun _ _ _ h => h) (Or.inl ⟨by rfl, ?_⟩) HS0.out ?_
  case refine_2 => (intro ww hSw; obtain ⟨s1, s2, s3, s4, s5, s6, s7, s8⟩ := hSw; go_simp; try with_reducible rfl)
  try simp only [Act.put, List.setIfInBounds_toArray, List.set_cons_zero, List.set_cons_succ]
  refine wpAnyH_take (i := 7) (v := ?_) (by simp only [List.getElem?_toArray, List.getElem?_cons_zero, List.getElem?_cons_succ]; rfl) (by kernel_rfl) (by kernel_rfl) (by kernel_rfl) (fun _ _ _ h => h) (Or.inl ⟨by rfl, ?_⟩) HS0.out ?_
  case refine_2 => (intro ww hSw; obtain ⟨s1, s2, s3, s4, s5, s6, s7, s8⟩ := hSw; go_simp; try with_reducible rfl)
  try simp only [Act.put, List.setIfInBounds_toArray, List.set_cons_zero, List.set_cons_succ]
  refine wpAnyH_take (i := 8) (v := ?_) (by simp only [List.getElem?_toArray, List.getElem?_cons_zero, List.getElem?_cons_succ]; rfl) (by kernel_rfl) (by kernel_rfl) (by kernel_rfl) (fun _ _ _ h => h) (Or.inl ⟨by rfl, ?_⟩) HS0.out ?_
  case refine_2 => (intro ww hSw; obtain ⟨s1, s2, s3, s4, s5, s6, s7, s8⟩ := hSw; go_simp; try with_reducible rfl)
  try simp only [Act.put, List.setIfInBounds_toArray, List.set_cons_zero, List.set_cons_succ]
  refine wpAnyH_take (i := 9) (v := ?_) (by simp only [List.getElem?_toArray, List.getElem?_cons_zero, List.getElem?_cons_succ]; rfl) (by kernel_rfl) (by kernel_rfl) (by kernel_rfl) (fun _ _ _ h => h) (Or.inl ⟨by rfl, ?_⟩) HS0.out ?_
  case refine_2 => (intro ww hSw; obtain ⟨s1, s2, s3, s4, s5, s6, s7, s8⟩ := hSw; go_simp; try with_reducible rfl)
  try simp only [Act.put, List.setIfInBounds_toArray, List.set_cons_zero, List.set_cons_succ]
  refine wpAnyH_ready (rs := [10]) (by kernel_rfl) (by simp) ?_
  refine AllReadyH.cons (by simp only [List.getElem?_toArray, List.getElem?_cons_zero, List.getElem?_cons_succ]; rfl) (fun K' hK => ?_) AllReadyH.nil
  go_simp
  refine (rapply_q S' _ (w.heap.size + 2, g, h) W1.heap.size HLEN.out pr (.slice or2 pr.ts.length cr2) W3.drew HB13.out.size (HBI.out.carry (HB13.out.trans ((Below.refl _ W3).drew.mono HB13.out.size)) (Nat.le_refl _)) (HSR.out.carry (HB13.out.trans ((Below.refl _ W3).drew.mono HB13.out.size)) HB13.out.size) HRB.out).mono ?_
  rintro e W4 ⟨⟨sl, rfl, hsl⟩, hb4⟩
  have hzz : w.heap.size + 2 < W3.heap.size := (Array.getElem?_eq_some_iff.1 HZ2.out).1
  have hgg : g < W3.heap.size := Nat.lt_of_lt_of_le hg HB3.out.size
  have hhh : h < W3.heap.size := Nat.lt_of_lt_of_le hh HB3.out.size
  have hsl : SlP (fun b => b < W4.heap.size ∧ b ≠ w.heap.size + 2 ∧ b ≠ g ∧ b ≠ h) W4 (apB S' pr).ts sl := hsl.lt.carry fun b hb => ⟨rfl, hb.2, by have h1 := hb.1; simp only [World.drew] at h1; omega, by have h1 := hb.1; simp only [World.drew] at h1; omega, by have h1 := hb.1; simp only [World.drew] at h1; omega⟩
  obtain ⟨o4, k4, rfl⟩ := hsl.form
  dsimp only [tmv]
  have HAP := Lib.hid hsl
  have HB34 := Lib.hid ((Below.refl _ W3).drew.trans hb4)
  have HS1 := Lib.hid (HSS.out.carry HB34.out)
  have HB4 := Lib.hid (HB3.out.trans (HB34.out.mono HB3.out.size))
  clear hsl hb4
  refine hK.out _ _ HS1.out (fun _ => ?_)
  clear hK
  try simp only [Act.put, List.setIfInBounds_toArray, List.set_cons_zero, List.set_cons_succ]
  refine wpAnyH_ready (rs := [11]) (by kernel_rfl) (by simp) ?_
  refine AllReadyH.cons (by simp only [List.getElem?_toArray, List.getElem?_cons_zero, List.getElem?_cons_succ]; rfl) (fun K' hK => ?_) AllReadyH.nil
  go_simp
  refine (rPut_sz w.heap.size pos (fun b => b < W4.heap.size ∧ b ≠ w.heap.size + 2 ∧ b ≠ g ∧ b ≠ h) t (.slice os t.ts.length cs) (.slice op pos.length cp) (apB S' pr) (.slice o4 (apB S' pr).ts.length k4) W4 HB4.out.size (fun _ h => h.1) ((HS.out.carry HB4.out (Nat.le_refl _)).toP.carry fun b hb => ⟨rfl, by have := HB4.out.size; have := hb.1; omega, by have := hb.1; omega, hb.2.1, hb.2.2.2⟩) HBA.out (HP.out.carry HB4.out (Nat.le_refl _)) HPC.out HAP.out (by rw [HAT.out]; rfl) hpl (by omega)).mono ?_
  rintro e W5 ⟨⟨sr, rfl, hsr⟩, hb5⟩
  rw [hX] at hsr ⊢
  obtain ⟨o5, k5, rfl⟩ := hsr.form
  dsimp only [tmv]
  have HPU := Lib.hid hsr
  have HS2 := Lib.hid (HS1.out.carry hb5)
  have HB35 := Lib.hid (HB34.out.trans (hb5.mono HB34.out.size))
  have HB5 := Lib.hid (HB4.out.trans (hb5.mono HB4.out.size))
  have hx2 : W5.heap[w.heap.size + 1 + 1]? = _ := (HB35.out.block _ (Array.getElem?_eq_some_iff.1 HZ2.out).1).trans HZ2.out
  have HX5 := Lib.hid hx2
  clear hsr hb5 hx2
  refine hK.out _ _ HS2.out (fun _ => ?_)
  clear hK
  try simp only [Act.put, List.setIfInBounds_toArray, List.set_cons_zero, List.set_cons_succ]
  obtain ⟨⟨q0, q1, q2⟩, f0, f1, f2⟩ := box3 HX5.out
  refine wpAnyH_ready (rs := [12]) (by kernel_rfl) (by simp) ?_
  refine AllReadyH.cons (by simp only [List.getElem?_toArray, List.getElem?_cons_zero, List.getElem?_cons_succ]; rfl) (fun K' hK => ?_) AllReadyH.nil
  go_simp
  refine hK.out _ _ (HS2.out.set3 HBR.out _ _ _) (fun _ => ?_)
  clear hK
  try simp only [Act.put, List.setIfInBounds_toArray, List.set_cons_zero, List.set_cons_succ]
  refine wpAnyH_take (i := 13) (v := ?_) (by simp only [List.getElem?_toArray, List.getElem?_cons_zero, List.getElem?_cons_succ]; rfl) (by kernel_rfl) (by kernel_rfl) (by kernel_rfl) (fun _ _ _ h => h) (Or.inl ⟨by rfl, ?_⟩) (HS2.out.set3 HBR.out _ _ _) ?_
  case refine_2 => (intro ww hSw; obtain ⟨s1, s2, s3, s4, s5, s6, s7, s8⟩ := hSw; go_simp; try with_reducible rfl)
  try simp only [Act.put, List.setIfInBounds_toArray, List.set_cons_zero, List.set_cons_succ]
  refine wpAnyH_done (by kernel_rfl) ?_ _
  refine NoPanic.normal ?_
  go_wp2_with fail
  obtain ⟨⟨r0, r1, r2⟩, -⟩ := box3 (box3_set HX5.out (.string X.nm) (.bool X.vr) (.slice o5 X.ts.length k5))
  have hbf := below_set3 HB5.out (b := w.heap.size + 1 + 1) (by omega) (.string X.nm) (.bool X.vr) (.slice o5 X.ts.length k5)
  have hsx := (HPU.out.carry (q := fun b => b < W5.heap.size ∧ b ≠ g ∧ b ≠ g ∧ b ≠ h) fun b hb => ⟨heap_set3 W5 _ _ (.string X.nm) (.bool X.vr) (.slice o5 X.ts.length k5) (show b ≠ w.heap.size + 1 + 1 by have := HB4.out.size; have := HB35.out.size; have := (Array.getElem?_eq_some_iff.1 HZ2.out).1; have := HB34.out.size; omega), hb.2, by have := HB4.out.size; omega, by have := HB4.out.size; omega, by have := HB4.out.size; omega⟩).toN (q := (g, g, h)) (m := ((((W5.setCell ⟨w.heap.size + 1 + 1, 0, none⟩ (.string X.nm)).setCell ⟨w.heap.size + 1 + 1, 1, none⟩ (.bool X.vr)).setCell ⟨w.heap.size + 1 + 1, 2, none⟩ (.slice o5 X.ts.length k5))).heap.size) fun b hb => ⟨by simpa [World.setCell] using hb.1, hb.2⟩
  refine bodyPost_ret (v := .tuple #[.agg #[.string X.nm, .bool X.vr, .slice o5 X.ts.length k5], .int .i64 0]) (by simp [results, Tryz.f70, go_sem, r0, r1, r2]) rfl ?_
  exact ⟨⟨0, X, o5, X.ts.length, k5, rfl, fun _ => ⟨rfl, hsx, ⟨⟨k, _, x, S', rfl, HPK.out, HAT.out, HMT.out.snd S' (Ext.refl _), hX.symm, fun q hq => (HVL.out q hq).1⟩, hs, hd⟩⟩⟩, hbf⟩
end Go.Proofs.YtnomppdmhgefiaaGreat
/- The reference's Terms, at any term and any rules. -/
namespace Go.Proofs.YtnomppdmhgefiaaGreat
open Go.RowKit

/-- a row of steps in memory -/
def StpsV (n : Nat) (W : World) (L : List (Int × List Int)) (v : Value) : Prop :=
  ∃ oa cap, v = .slice oa L.length cap ∧ L.length ≤ cap ∧ (L ≠ [] → ∃ b o, oa = some ⟨b, o, none⟩ ∧ b < n ∧ ∀ i p, L[i]? = some p → ∃ op cp, W.cell? ⟨b, o + i * 2, none⟩ = some (.int .i64 p.1) ∧ W.cell? ⟨b, o + i * 2 + 1, none⟩ = some (.slice op p.2.length cp) ∧ p.2.length ≤ cp ∧ PosIs n W p.2 (.slice op p.2.length cp))
theorem StpsV.carry {n m : Nat} {A B : World} {L : List (Int × List Int)} {v : Value} (h : StpsV n A L v) (hb : Below n A B) (hn : n ≤ m) : StpsV m B L v := by
  obtain ⟨oa, cap, rfl, h1, h3⟩ := h
  refine ⟨oa, cap, rfl, h1, fun hne => ?_⟩
  obtain ⟨b, o, rfl, hbn, hc⟩ := h3 hne
  refine ⟨b, o, rfl, by omega, fun i p hk => ?_⟩
  obtain ⟨op, cp, c0, c1, hcp, hp⟩ := hc i p hk
  exact ⟨op, cp, (hb.cell (p := ⟨b, _, none⟩) hbn).trans c0, (hb.cell (p := ⟨b, _, none⟩) hbn).trans c1, hcp, hp.carry hb hn⟩
theorem StpsV.shape {n : Nat} {W : World} {L : List (Int × List Int)} {v : Value} (h : StpsV n W L v) : ∃ oa cap, v = .slice oa L.length cap := by
  obtain ⟨oa, cap, rfl, -⟩ := h
  exact ⟨_, _, rfl⟩
theorem StpsV.get {n : Nat} {W : World} {L : List (Int × List Int)} {oa : Option Addr} {cap k : Nat} (h : StpsV n W L (.slice oa L.length cap)) (hk : k < L.length) :
    ∃ (b o : Nat) (i : Int) (pos : List Int) (op : Option Addr) (cp : Nat), oa = some ⟨b, o, none⟩ ∧ b < n ∧ L[k]? = some (i, pos) ∧ W.cell? ⟨b, o + k * 2, none⟩ = some (.int .i64 i) ∧ W.cell? ⟨b, o + k * 2 + 1, none⟩ = some (.slice op pos.length cp) ∧ pos.length ≤ cp ∧ PosIs n W pos (.slice op pos.length cp) := by
  obtain ⟨oa', cap', he, -, h3⟩ := h
  simp only [Value.slice.injEq, true_and] at he
  obtain ⟨rfl, rfl⟩ := he
  obtain ⟨b, o, rfl, hb, hc⟩ := h3 (by rintro rfl; simp at hk)
  obtain ⟨op, cp, c0, c1, hcp, hp⟩ := hc k _ (List.getElem?_eq_getElem hk)
  exact ⟨b, o, L[k].1, L[k].2, op, cp, rfl, hb, List.getElem?_eq_getElem hk, c0, c1, hcp, hp⟩
/-- the terms so far: ts from t by the first steps -/
def Chn5 (R : List RlV) (t : Tm) (L : List (Int × List Int)) (k : Nat) (ts : List Tm) : Prop :=
  ts.length = k + 1 ∧ ts[0]? = some t ∧ ∀ i p a b, i < k → L[i]? = some p → ts[i]? = some a → ts[i + 1]? = some b → StpIs R a p.1 p.2 b
theorem Chn5.snoc {R : List RlV} {t : Tm} {L : List (Int × List Int)} {k : Nat} {ts : List Tm} {i : Int} {pos : List Int} {a X : Tm} (h : Chn5 R t L k ts) (hk : L[k]? = some (i, pos)) (ha : ts[k]? = some a) (hs : StpIs R a i pos X) : Chn5 R t L (k + 1) (ts ++ [X]) := by
  obtain ⟨h1, h2, h3⟩ := h
  refine ⟨by simp [h1], by rw [List.getElem?_append_left (by omega)]; exact h2, fun j p x y hj hp hx hy => ?_⟩
  by_cases hjk : j < k
  · rw [List.getElem?_append_left (by omega)] at hx hy
    exact h3 j p x y hjk hp hx hy
  · obtain rfl : j = k := by omega
    rw [List.getElem?_append_left (by omega)] at hx
    rw [List.getElem?_append_right (by omega), h1] at hy
    rw [hk] at hp; rw [ha] at hx
    simp at hy
    cases hp; cases hx; subst hy
    exact hs
/-- the row of terms being made -/
structure TmsSt (w W : World) (v : Value) (ch : List (Tm × Value)) : Prop where
  row : W.ownsRow w.heap.size 25 3 v ch.length (stCells ch)
  kids : ∀ c ∈ ch, SlP (fun b => b < W.heap.size ∧ some b ≠ v.ownBlock) W c.1.ts c.2
  low : Below w.heap.size w W
theorem TmsSt.below {w W A : World} {v : Value} {ch : List (Tm × Value)} (h : TmsSt w W v ch) (hb : Below W.heap.size W A) : TmsSt w A v ch :=
  ⟨h.row.kept (below_grown hb) (own_none _), fun x hx => (h.kids x hx).carry fun b hb' => ⟨hb.block b hb'.1, Nat.lt_of_lt_of_le hb'.1 hb.size, hb'.2⟩, h.low.trans (hb.mono h.low.size)⟩
/-- one more -/
theorem TmsSt.step {w W B W5 : World} {v v5 : Value} {ch : List (Tm × Value)} {X : Tm} {s : Value} (h : TmsSt w W v ch) (hB : Below W.heap.size W B) (hx : SlP (fun b => b < B.heap.size ∧ some b ≠ v.ownBlock) B X.ts s) (h5 : B.grownBy W5 v.ownBlock)
    (ho : W5.ownsRow w.heap.size 25 3 v5 (ch.length + 1) (stCells ch ++ [.string X.nm, .bool X.vr, s])) (hat : v5.ownBlock = v.ownBlock ∨ v5.ownBlock = some B.heap.size) : TmsSt w W5 v5 (ch ++ [(X, s)]) := by
  have z0 := h.low.size
  have zB := hB.size
  have z5 := h5.size
  have own : ∀ j, v.ownBlock = some j → w.heap.size ≤ j ∧ j < W.heap.size := fun j hj => h.row.lt j hj
  refine ⟨?_, ?_, ?_⟩
  · rw [List.length_append, stCells_append]; exact ho
  · intro y hy
    rcases List.mem_append.1 hy with hy | hy
    · refine (h.kids y hy).carry fun b hb => ⟨(h5.block b (by omega) hb.2).trans (hB.block b hb.1), by omega, ?_⟩
      rcases hat with e | e
      · rw [e]; exact hb.2
      · rw [e]; intro hh; cases hh; omega
    · obtain rfl := List.mem_singleton.1 hy
      refine hx.carry fun b hb => ⟨h5.block b hb.1 hb.2, by omega, ?_⟩
      rcases hat with e | e
      · rw [e]; exact hb.2
      · rw [e]; intro hh; cases hh; omega
  · exact (h.low.trans (hB.mono z0)).grown h5 (by omega) (fun j hj => (own j hj).1)
/-- what Terms answers -/
def TmsPost (R : List RlV) (t : Tm) (L : List (Int × List Int)) (e : Ending) (w' : World) : Prop :=
  ∃ (c : Int) (v' : Value), e = .returned (.tuple #[v', .int .i64 c]) ∧ (c = 0 → ∃ ts : List Tm, SlIs w'.heap.size w' ts v' ∧ t.ok ∧ Chn5 R t L L.length ts)

set_option maxRecDepth 100000 in
set_option maxHeartbeats 2000000 in
theorem rterms_any (R : List RlV) (rv : Value) (t : Tm) (s : Value) (L : List (Int × List Int)) (lv : Value) (w : World) (hR : RulV w.heap.size w R rv) (hs : SlIs w.heap.size w t.ts s) (hL : StpsV w.heap.size w L lv) (htb : t.bulk ≤ 1048576) (hLp : ∀ p ∈ L, p.2.length ≤ 1048576) (hRo : ∀ p ∈ R, p.1.1.bulk ≤ 1048576 ∧ p.2.1.bulk ≤ 1048576) :
    Calls Tryz.prog 26 #[rv, .agg #[.string t.nm, .bool t.vr, s, lv]] w fun e w' => TmsPost R t L e w' ∧ Below w.heap.size w w' := by
  obtain ⟨i0, hi, hz, hs1, hb1⟩ := info_parts infoTerm
  have HI := Lib.hid hi
  have HZ := Lib.hid hz
  have HS1 := Lib.hid hs1
  have HB1 := Lib.hid hb1
  obtain ⟨os, cs, rfl, -⟩ := hs.form
  obtain ⟨or', cr, rfl⟩ := hR.shape
  obtain ⟨ol, cl, rfl⟩ := hL.shape
  have HR := Lib.hid hR
  have HS := Lib.hid hs
  have HL := Lib.hid hL
  have HLP := Lib.hid hLp
  have HRO := Lib.hid hRo
  have HTB := Lib.hid htb
  clear hR hs hL hLp hRo htb hi hz hs1 hb1
  have HB0 : Hid (Below w.heap.size w (w.alloc (.cells #[.string t.nm, .bool t.vr, .slice os t.ts.length cs, .slice ol L.length cl] 58))) := Lib.hid (by go_grown)
  have HBX : Hid ((w.alloc (.cells #[.string t.nm, .bool t.vr, .slice os t.ts.length cs, .slice ol L.length cl] 58)).heap[w.heap.size]? = some (.cells #[.string t.nm, .bool t.vr, .slice os t.ts.length cs, .slice ol L.length cl] 58 (0, 0))) := Lib.hid (heap_new_at _ _ _ rfl)
  by_cases hlim : L.length ≤ 4096
  rotate_left
  · have hl2 : (4096 : Int) < (L.length : Int) := by omega
    go_enter Tryz.func26, Tryz.ntmps26
    go_wp2_with fail
    refine bodyPost_ret (v := .tuple #[.slice none 0 0, .int .i64 3]) (by simp [results, Tryz.f26, go_sem]) rfl ?_
    exact ⟨⟨3, _, rfl, fun h => absurd h (by decide)⟩, by go_grown⟩
  have hl2 : ¬ (4096 : Int) < (L.length : Int) := by omega
  go_enter Tryz.func26, Tryz.ntmps26
  go_wp2_with fail
  refine (rcheck_full t _ _ (HS.out.carry HB0.out HB0.out.size) HTB.out).mono ?_
  rintro e W1 ⟨rfl, hb⟩
  have HBW := Lib.hid (HB0.out.trans (hb.mono HB0.out.size))
  have hbx := (hb.block _ (Array.getElem?_eq_some_iff.1 HBX.out).1).trans HBX.out
  obtain ⟨x0, x1, x2, x3⟩ := box4 hbx
  have HX1 := Lib.hid hbx
  clear hb hbx
  by_cases hc : chkC t = 0
  rotate_left
  · have hcc : (chkC t != 0) = true := by simpa using hc
    have HC := Lib.hid hc
    clear hc
    go_wp2_with fail
    refine bodyPost_ret (v := .tuple #[.slice none 0 0, .int .i64 (chkC t)]) (by simp [results, Tryz.f26, go_sem]) rfl ?_
    exact ⟨⟨_, _, rfl, fun h => absurd h HC.out⟩, HBW.out⟩
  have HOK := Lib.hid (chkC_zero.1 hc)
  rw [hc]
  clear hc
  have hbx := HX1.out
  have hlx := (Array.getElem?_eq_some_iff.1 hbx).1
  have hW2 : Below W1.heap.size W1 (W1.alloc (.cells #[.string t.nm, .bool t.vr, .slice os t.ts.length cs] 25)) := by go_grown
  have x3' := (hW2.cell (p := ⟨w.heap.size, 3, none⟩) hlx).trans x3
  have hro := ownsRow_block (k := 3) (c := [.string t.nm, .bool t.vr, .slice os t.ts.length cs]) (n := 1) (heap_new_at W1 (.cells #[.string t.nm, .bool t.vr, .slice os t.ts.length cs] 25) W1.heap.size rfl) rfl (by unfold maxLen; omega)
  have HST0 : Hid (TmsSt w (W1.alloc (.cells #[.string t.nm, .bool t.vr, .slice os t.ts.length cs] 25)) (.slice (some ⟨W1.heap.size, 0, none⟩) 1 1) [(t, .slice os t.ts.length cs)]) := Lib.hid (by
    have hz := HBW.out.size
    refine ⟨⟨hro.1, .inr ?_⟩, fun c hc => ?_, HBW.out.trans (hW2.mono hz)⟩
    · rcases hro.2 with ⟨h, _⟩ | ⟨g, cap, cur, hg, _, h3, h4⟩
      · cases h
      · cases hg
        exact ⟨_, _, cur, rfl, hz, h3, h4⟩
    · obtain rfl := List.mem_singleton.1 hc
      exact (HS.out.carry (HBW.out.trans (hW2.mono hz)) (Nat.le_refl _)).toP.carry fun b hb => ⟨rfl, Nat.lt_of_lt_of_le hb (Nat.le_trans hz hW2.size), by show some b ≠ some W1.heap.size; intro h; cases h; omega⟩)
  have HBX2 := Lib.hid ((hW2.block _ hlx).trans hbx)
  have HLX := Lib.hid hlx
  clear hro hW2 hbx
  go_wp2_with fail
  generalize (W1.alloc (.cells #[.string t.nm, .bool t.vr, .slice os t.ts.length cs] 25)) = W2 at HST0 HBX2 x3' ⊢
  clear x3' x0 x1 x2 x3
  go_loopw [7, 28] (fun o i wr => ∃ (k : Nat) (g c : Nat) (ch : List (Tm × Value)), k ≤ L.length ∧ ch.length = k + 1 ∧ o = .slice (some ⟨g, 0, none⟩) ch.length c ∧ i = .int .i64 k ∧ Hid (TmsSt w wr (.slice (some ⟨g, 0, none⟩) ch.length c) ch) ∧ Hid (Chn5 R t L k (ch.map (·.1))) ∧ Hid (∀ c ∈ ch, c.1.low ∧ c.1.bare ∧ c.1.size ≤ 4000)) (fun _ i _ => L.length - (intOf i).toNat)
  case atStart => exact ⟨0, W1.heap.size, 1, [(t, .slice os t.ts.length cs)], by omega, rfl, rfl, rfl, HST0, Lib.hid ⟨rfl, rfl, fun i p a b hi => by omega⟩, Lib.hid (fun c hc => by
    obtain rfl := List.mem_singleton.1 hc
    exact ⟨Tm.low_of_bulk _ HTB.out, HOK.out.1.bare, HOK.out.2.1⟩)⟩
  case round =>
    obtain ⟨k, g, c, ch, hk, hcl, rfl, rfl, HST, HCH, HLO⟩ := hrel
    have hst := HST.out
    by_cases hlt : k < L.length
    · obtain ⟨b, o, j, pos, op, cp, rfl, hbb, hLk, c0, c1, hcp, hpos⟩ := (HL.out.carry hst.low (Nat.le_refl _)).get hlt
      obtain ⟨q, hq⟩ : ∃ q, ch[k]? = some q := ⟨_, List.getElem?_eq_getElem (by omega)⟩
      obtain ⟨a, sa⟩ := q
      have hka : SlP (fun b => b < wr.heap.size ∧ some b ≠ (Value.slice (some ⟨g, 0, none⟩) ch.length c).ownBlock) wr a.ts sa := hst.kids _ (List.mem_of_getElem? hq)
      obtain ⟨oa, ca, rfl⟩ := hka.form
      obtain ⟨e0, e1, e2⟩ := stCells_at ch k _ hq
      have key : ∀ j u, (stCells ch)[j]? = some u → wr.cell? ⟨g, j, none⟩ = some u := fun j u hj => by
        have := hst.row.cells (g := g) rfl j u hj
        rwa [ad_add, Nat.zero_add] at this
      have y0 := key _ _ e0
      have y1 := key _ _ e1
      have y2 := key _ _ e2
      have hgl := hst.row.lt g rfl
      have hlw := hst.low
      have HKA := Lib.hid hka
      have HPO := Lib.hid hpos
      have HQ := Lib.hid hq
      have HLK := Lib.hid hLk
      clear hst hka e0 e1 e2 key hpos hq hLk
      have hpl := HLP.out _ (List.mem_of_getElem? HLK.out)
      obtain ⟨hal, hab, hasz⟩ := HLO.out _ (List.mem_of_getElem? HQ.out)
      have HLW := Lib.hid hlw
      have hbr : Below wr.heap.size wr (wr.alloc (.cells #[.int .i64 j, .slice op pos.length cp] 28)).drew := by go_grown
      have HSTEP : Hid (∀ W h, Below wr.heap.size wr W → h < W.heap.size → (h = g ∨ wr.heap.size ≤ h) → Calls Tryz.prog 70 #[.slice or' R.length cr, .agg #[.string a.nm, .bool a.vr, .slice oa a.ts.length ca], .agg #[.int .i64 j, .slice op pos.length cp]] W fun e w' => StPost g h R a j pos e w' ∧ Below W.heap.size W w') := Lib.hid (fun W h hW hh hgh => rstep5_any g h R (.slice or' R.length cr) a (.slice oa a.ts.length ca) j pos (.slice op pos.length cp) W
        (HR.out.carry (hlw.trans (hW.mono hlw.size)) (Nat.le_trans hlw.size hW.size)) (Nat.lt_of_lt_of_le hgl.2 hW.size) hh
        (SlP.toN (q := (g, g, h)) (p := fun b => b < W.heap.size ∧ b ≠ g ∧ b ≠ h) (HKA.out.carry fun b hb => by
          have hbg : b ≠ g := fun e => hb.2 (by rw [e]; rfl)
          exact ⟨hW.block b hb.1, Nat.lt_of_lt_of_le hb.1 hW.size, hbg, by rcases hgh with rfl | h1; exact hbg; (have := hb.1; omega)⟩) fun b hb => ⟨hb.1, hb.2.1, hb.2.1, hb.2.2⟩)
        (HPO.out.carry (hW.mono hlw.size) (Nat.le_trans hlw.size hW.size)) (fun _ _ _ e => by cases e; exact hcp) hpl hal hab hasz HRO.out)
      have HBR := Lib.hid hbr
      have HZB : Hid (((wr.alloc (.cells #[.int .i64 j, .slice op pos.length cp] 28)).alloc (.cells #[.string ⟨#[]⟩, .bool false, .slice none 0 0] 25)).drew.heap[wr.heap.size + 1]? = some zeroBx) := Lib.hid (heap_new_at _ _ _ (by simp))
      have HBS : Hid (Below wr.heap.size wr ((wr.alloc (.cells #[.int .i64 j, .slice op pos.length cp] 28)).alloc (.cells #[.string ⟨#[]⟩, .bool false, .slice none 0 0] 25)).drew) := Lib.hid (by go_grown)
      have z0 : (wr.alloc (.cells #[.int .i64 j, .slice op pos.length cp] 28)).drew.cell? ⟨wr.heap.size, 0, none⟩ = some (.int .i64 j) := cells_of' (heap_new_at _ _ _ rfl) 0
      have z1 : (wr.alloc (.cells #[.int .i64 j, .slice op pos.length cp] 28)).drew.cell? ⟨wr.heap.size, 1, none⟩ = some (.slice op pos.length cp) := cells_of' (heap_new_at _ _ _ rfl) 1
      have v0 := (hbr.cell (p := ⟨g, k * 3, none⟩) hgl.2).trans y0
      have v1 := (hbr.cell (p := ⟨g, k * 3 + 1, none⟩) hgl.2).trans y1
      have v2 := (hbr.cell (p := ⟨g, k * 3 + 2, none⟩) hgl.2).trans y2
      have HSB : Hid (((wr.alloc (.cells #[.int .i64 j, .slice op pos.length cp] 28)).alloc (.cells #[.string ⟨#[]⟩, .bool false, .slice none 0 0] 25)).drew.cell? ⟨wr.heap.size, 0, none⟩ = some (.int .i64 j) ∧ ((wr.alloc (.cells #[.int .i64 j, .slice op pos.length cp] 28)).alloc (.cells #[.string ⟨#[]⟩, .bool false, .slice none 0 0] 25)).drew.cell? ⟨wr.heap.size, 1, none⟩ = some (.slice op pos.length cp) ∧ ((wr.alloc (.cells #[.int .i64 j, .slice op pos.length cp] 28)).alloc (.cells #[.string ⟨#[]⟩, .bool false, .slice none 0 0] 25)).drew.cell? ⟨g, k * 3, none⟩ = some (.string a.nm) ∧ ((wr.alloc (.cells #[.int .i64 j, .slice op pos.length cp] 28)).alloc (.cells #[.string ⟨#[]⟩, .bool false, .slice none 0 0] 25)).drew.cell? ⟨g, k * 3 + 1, none⟩ = some (.bool a.vr) ∧ ((wr.alloc (.cells #[.int .i64 j, .slice op pos.length cp] 28)).alloc (.cells #[.string ⟨#[]⟩, .bool false, .slice none 0 0] 25)).drew.cell? ⟨g, k * 3 + 2, none⟩ = some (.slice oa a.ts.length ca)) :=
        Lib.hid ⟨cells_of' ((Below.heap_alloc _ _ _ (by simp)).trans (heap_new_at wr _ _ rfl)) 0, cells_of' ((Below.heap_alloc _ _ _ (by simp)).trans (heap_new_at wr _ _ rfl)) 1, (HBS.out.cell (p := ⟨g, k * 3, none⟩) hgl.2).trans y0, (HBS.out.cell (p := ⟨g, k * 3 + 1, none⟩) hgl.2).trans y1, (HBS.out.cell (p := ⟨g, k * 3 + 2, none⟩) hgl.2).trans y2⟩
      have ng1 : ¬ (g = wr.heap.size + 1) := by omega
      have ng2 : ¬ (wr.heap.size + 1 = g) := by omega
      have ng3 : ¬ (wr.heap.size + 1 = wr.heap.size) := by omega
      have ng4 : ¬ (wr.heap.size = wr.heap.size + 1) := by omega
      clear hal hab hasz hpl hlw hbr
      have hk4 : (k : Int) ≤ 4096 := by omega
      have hk5 : (0 : Int) ≤ (k : Int) := by omega
      have hk6 : (k : Int) < (k : Int) + 1 := by omega
      have hk7 : IntKind.i64.wrap ((k : Int) + 1 - 1) = (k : Int) := by rw [show (k : Int) + 1 - 1 = k by omega]; exact IntWalk.i64_in _ (by omega)
      have hk8 : IntKind.i64.wrap (k : Int) = (k : Int) := IntWalk.i64_in _ (by omega)
      have hk9 : (0 : Int) ≤ (k : Int) ∧ (k : Int) < (k : Int) + 1 := by omega
      go_wp2_with fail
      go_region_held3 (fun w' => w'.cell? ⟨wr.heap.size, 0, none⟩ = some (.int .i64 j) ∧ w'.cell? ⟨wr.heap.size, 1, none⟩ = some (.slice op pos.length cp) ∧ w'.cell? ⟨g, k * 3, none⟩ = some (.string a.nm) ∧ w'.cell? ⟨g, k * 3 + 1, none⟩ = some (.bool a.vr) ∧ w'.cell? ⟨g, k * 3 + 2, none⟩ = some (.slice oa a.ts.length ca)) (go_keep) ((first
        | (go_at_call 70
           refine (HSTEP.out (wr.alloc (.cells #[.int .i64 j, .slice op pos.length cp] 28)).drew g HBR.out (Nat.lt_of_lt_of_le hgl.2 HBR.out.size) (.inl rfl)).mono ?_
           rintro e W4 ⟨⟨ce, X, ox, mx, kx, rfl, hcx⟩, hb4⟩
           have HCX := Lib.hid hcx
           have HB4 := Lib.hid (HBR.out.trans (hb4.mono HBR.out.size))
           have hz4 : wr.heap.size < W4.heap.size := World.block_lt_of_cell? _ _ ((hb4.cell (p := ⟨wr.heap.size, 0, none⟩) (World.block_lt_of_cell? _ _ z0)).trans z0)
           have ng5 : ¬ (g = W4.heap.size) := by omega
           have ng6 : ¬ (W4.heap.size = g) := by omega
           have ng7 : ¬ (W4.heap.size = wr.heap.size) := by omega
           have ng8 : ¬ (wr.heap.size = W4.heap.size) := by omega
           have z0 := (hb4.cell (p := ⟨wr.heap.size, 0, none⟩) (World.block_lt_of_cell? _ _ z0)).trans z0
           have z1 := (hb4.cell (p := ⟨wr.heap.size, 1, none⟩) (World.block_lt_of_cell? _ _ z1)).trans z1
           have v0 := (hb4.cell (p := ⟨g, k * 3, none⟩) (World.block_lt_of_cell? _ _ v0)).trans v0
           have v1 := (hb4.cell (p := ⟨g, k * 3 + 1, none⟩) (World.block_lt_of_cell? _ _ v1)).trans v1
           have v2 := (hb4.cell (p := ⟨g, k * 3 + 2, none⟩) (World.block_lt_of_cell? _ _ v2)).trans v2
           clear hb4 hcx)
        | (go_at_call 70
           refine (HSTEP.out ((wr.alloc (.cells #[.int .i64 j, .slice op pos.length cp] 28)).alloc (.cells #[.string ⟨#[]⟩, .bool false, .slice none 0 0] 25)).drew (wr.heap.size + 1) HBS.out (Array.getElem?_eq_some_iff.1 HZB.out).1 (.inr (Nat.le_succ _))).mono ?_
           rintro e W4 ⟨⟨ce, X, ox, mx, kx, rfl, hcx⟩, hb4⟩
           have HCX := Lib.hid hcx
           obtain ⟨z0, z1, v0, v1, v2⟩ := HSB.out
           have hbx4 : W4.heap[wr.heap.size + 1]? = some zeroBx := (hb4.block _ (Array.getElem?_eq_some_iff.1 HZB.out).1).trans HZB.out
           obtain ⟨⟨n0, n1, n2⟩, nf0, nf1, nf2⟩ := box3 hbx4
           have HBX4 := Lib.hid hbx4
           have HB4 := Lib.hid (HBS.out.trans (hb4.mono HBS.out.size))
           clear hbx4
           have z0 := (hb4.cell (p := ⟨wr.heap.size, 0, none⟩) (World.block_lt_of_cell? _ _ z0)).trans z0
           have z1 := (hb4.cell (p := ⟨wr.heap.size, 1, none⟩) (World.block_lt_of_cell? _ _ z1)).trans z1
           have v0 := (hb4.cell (p := ⟨g, k * 3, none⟩) (World.block_lt_of_cell? _ _ v0)).trans v0
           have v1 := (hb4.cell (p := ⟨g, k * 3 + 1, none⟩) (World.block_lt_of_cell? _ _ v1)).trans v1
           have v2 := (hb4.cell (p := ⟨g, k * 3 + 2, none⟩) (World.block_lt_of_cell? _ _ v2)).trans v2
           clear hb4 hcx)))
      all_goals
        clear z0 z1 v0 v1 v2
      · have hB5 : Below wr.heap.size wr (W4.alloc (.cells #[.string X.nm, .bool X.vr, .slice ox mx kx] 25)) := HB4.out.alloc HB4.out.size _
        have hX5 := heap_new_at W4 (.cells #[.string X.nm, .bool X.vr, .slice ox mx kx] 25) W4.heap.size rfl
        have HXS : Hid (ce = 0 → mx = X.ts.length ∧ SlP (fun b => b < (W4.alloc (.cells #[.string X.nm, .bool X.vr, .slice ox mx kx] 25)).heap.size ∧ b ≠ g) (W4.alloc (.cells #[.string X.nm, .bool X.vr, .slice ox mx kx] 25)) X.ts (.slice ox mx kx) ∧ StpIs R a j pos X) := Lib.hid (fun h0 => by
          obtain ⟨h1, h2, h3⟩ := HCX.out h0
          exact ⟨h1, h2.toP.carry fun b hb => ⟨Below.heap_alloc _ _ _ hb.1, by rw [World.size_alloc]; exact Nat.lt_succ_of_lt hb.1, hb.2.1⟩, h3⟩)
        generalize W4.heap.size = bx at hX5 ⊢
        generalize (W4.alloc (.cells #[.string X.nm, .bool X.vr, .slice ox mx kx] 25)) = W5 at hB5 hX5 HXS ⊢
        have HB5 := Lib.hid hB5
        have HX5 := Lib.hid hX5
        clear hB5 hX5
        by_cases hce : ce = 0
        · obtain ⟨rfl, hxs, hsi⟩ := HXS.out hce
          subst hce
          have HXP := Lib.hid hxs
          have HSI := Lib.hid hsi
          obtain ⟨⟨n0, n1, n2⟩, nf0, nf1, nf2⟩ := box3 HX5.out
          have HROW : Hid (W5.ownsRow w.heap.size 25 3 (.slice (some ⟨g, 0, none⟩) (k + 1) c) ch.length (stCells ch)) := Lib.hid (by rw [← hcl]; exact HST.out.row.kept (below_grown HB5.out) (own_none _))
          have hz5 := HB5.out.size
          clear hxs hsi HXS
          go_wp2_with (first
            | (at_builtin
               refine wpList_append_opt rfl (.tmp 47) (.tmp 49) 23 rfl w.heap.size 25 i0 (.agg #[.string ⟨#[]⟩, .bool false, .slice none 0 0]) 3 48 Tryz.underlying23 HI.out HZ.out HS1.out HB1.out rfl (by decide) (.slice (some ⟨g, 0, none⟩) (k + 1) c) ch.length (stCells ch) rfl (HROW.out.alloc _) (some ⟨W5.heap.size, 0, none⟩) 1 1 [.string X.nm, .bool X.vr, .slice ox X.ts.length kx] rfl rfl (fun h => by cases h) (fun ad had => by cases had; exact cells_new3 _ _ _ _ _) (by simp [Value.oneCell']) (by unfold maxLen; omega) (by omega) (by simp; omega) ?_
               intro v7 w7 ho7 hg7 hat7
               obtain ⟨g7, c7, rfl⟩ := ownsRow_pos ho7 (by omega)
               have HST7 := Lib.hid (HST.out.step (X := X) (s := .slice ox X.ts.length kx) (HB5.out.trans (show Below wr.heap.size W5 _ from ((Below.refl _ _).alloc hz5 _))) (HXP.out.carry fun b hb => ⟨Below.heap_alloc _ _ b hb.1, by rw [World.size_alloc]; exact Nat.lt_succ_of_lt hb.1, fun e => hb.2 (by cases e; rfl)⟩) hg7 ho7 hat7)
               clear ho7 hg7 hat7))
          refine ⟨⟨k + 1, g7, c7, ch ++ [(X, .slice ox X.ts.length kx)], by omega, by simp [hcl], by simp [hcl], by go_num, ?_, ?_, ?_⟩, by simp [intOf]; omega⟩
          · have h := HST7.out
            rw [← (show (ch ++ [(X, Value.slice ox X.ts.length kx)]).length = ch.length + 1 from by simp)] at h
            exact Lib.hid h
          · exact Lib.hid (by rw [List.map_append]; exact HCH.out.snoc HLK.out (by rw [List.getElem?_map, HQ.out]; rfl) HSI.out)
          · exact Lib.hid (fun y hy => by
              have ha := HLO.out _ (List.mem_of_getElem? HQ.out)
              rcases List.mem_append.1 hy with hy | hy
              · exact HLO.out y hy
              · obtain rfl := List.mem_singleton.1 hy
                exact ⟨HSI.out.low ha.1 (fun p hp => (HRO.out p hp).2), HSI.out.bare ha.2.1, HSI.out.size⟩)
        · have hcn : (ce != 0) = true := by simpa using hce
          have HCN := Lib.hid hce
          clear hce
          go_wp2_with fail
          refine bodyPost_ret (v := .tuple #[.slice none 0 0, .int .i64 ce]) (by simp [results, Tryz.f26, go_sem]) rfl ?_
          exact ⟨⟨ce, _, rfl, fun h => absurd h HCN.out⟩, HST.out.low.trans (HB5.out.mono HST.out.low.size)⟩
      · have hB5 : Below wr.heap.size wr (((W4.setCell ⟨wr.heap.size + 1, 0, none⟩ (.string X.nm)).setCell ⟨wr.heap.size + 1, 1, none⟩ (.bool X.vr)).setCell ⟨wr.heap.size + 1, 2, none⟩ (.slice ox mx kx)) := below_set3 HB4.out (Nat.le_succ _) _ _ _
        have hX5 := box3_set HBX4.out (.string X.nm) (.bool X.vr) (.slice ox mx kx)
        have HXS : Hid (ce = 0 → mx = X.ts.length ∧ SlP (fun b => b < (((W4.setCell ⟨wr.heap.size + 1, 0, none⟩ (.string X.nm)).setCell ⟨wr.heap.size + 1, 1, none⟩ (.bool X.vr)).setCell ⟨wr.heap.size + 1, 2, none⟩ (.slice ox mx kx)).heap.size ∧ b ≠ g) (((W4.setCell ⟨wr.heap.size + 1, 0, none⟩ (.string X.nm)).setCell ⟨wr.heap.size + 1, 1, none⟩ (.bool X.vr)).setCell ⟨wr.heap.size + 1, 2, none⟩ (.slice ox mx kx)) X.ts (.slice ox mx kx) ∧ StpIs R a j pos X) := Lib.hid (fun h0 => by
          obtain ⟨h1, h2, h3⟩ := HCX.out h0
          exact ⟨h1, h2.toP.carry fun b hb => ⟨heap_set3 W4 _ _ _ _ _ hb.2.2.2, by simpa [World.setCell] using hb.1, hb.2.1⟩, h3⟩)
        clear n0 n1 n2 nf0 nf1 nf2
        generalize (((W4.setCell ⟨wr.heap.size + 1, 0, none⟩ (.string X.nm)).setCell ⟨wr.heap.size + 1, 1, none⟩ (.bool X.vr)).setCell ⟨wr.heap.size + 1, 2, none⟩ (.slice ox mx kx)) = W5 at hB5 hX5 HXS ⊢
        have HB5 := Lib.hid hB5
        have HX5 := Lib.hid hX5
        clear hB5 hX5
        by_cases hce : ce = 0
        · obtain ⟨rfl, hxs, hsi⟩ := HXS.out hce
          subst hce
          have HXP := Lib.hid hxs
          have HSI := Lib.hid hsi
          obtain ⟨⟨n0, n1, n2⟩, nf0, nf1, nf2⟩ := box3 HX5.out
          have HROW : Hid (W5.ownsRow w.heap.size 25 3 (.slice (some ⟨g, 0, none⟩) (k + 1) c) ch.length (stCells ch)) := Lib.hid (by rw [← hcl]; exact HST.out.row.kept (below_grown HB5.out) (own_none _))
          have hz5 := HB5.out.size
          clear hxs hsi HXS
          go_wp2_with (first
            | (at_builtin
               refine wpList_append_opt rfl (.tmp 47) (.tmp 49) 23 rfl w.heap.size 25 i0 (.agg #[.string ⟨#[]⟩, .bool false, .slice none 0 0]) 3 48 Tryz.underlying23 HI.out HZ.out HS1.out HB1.out rfl (by decide) (.slice (some ⟨g, 0, none⟩) (k + 1) c) ch.length (stCells ch) rfl (HROW.out.alloc _) (some ⟨W5.heap.size, 0, none⟩) 1 1 [.string X.nm, .bool X.vr, .slice ox X.ts.length kx] rfl rfl (fun h => by cases h) (fun ad had => by cases had; exact cells_new3 _ _ _ _ _) (by simp [Value.oneCell']) (by unfold maxLen; omega) (by omega) (by simp; omega) ?_
               intro v7 w7 ho7 hg7 hat7
               obtain ⟨g7, c7, rfl⟩ := ownsRow_pos ho7 (by omega)
               have HST7 := Lib.hid (HST.out.step (X := X) (s := .slice ox X.ts.length kx) (HB5.out.trans (show Below wr.heap.size W5 _ from ((Below.refl _ _).alloc hz5 _))) (HXP.out.carry fun b hb => ⟨Below.heap_alloc _ _ b hb.1, by rw [World.size_alloc]; exact Nat.lt_succ_of_lt hb.1, fun e => hb.2 (by cases e; rfl)⟩) hg7 ho7 hat7)
               clear ho7 hg7 hat7))
          refine ⟨⟨k + 1, g7, c7, ch ++ [(X, .slice ox X.ts.length kx)], by omega, by simp [hcl], by simp [hcl], by go_num, ?_, ?_, ?_⟩, by simp [intOf]; omega⟩
          · have h := HST7.out
            rw [← (show (ch ++ [(X, Value.slice ox X.ts.length kx)]).length = ch.length + 1 from by simp)] at h
            exact Lib.hid h
          · exact Lib.hid (by rw [List.map_append]; exact HCH.out.snoc HLK.out (by rw [List.getElem?_map, HQ.out]; rfl) HSI.out)
          · exact Lib.hid (fun y hy => by
              have ha := HLO.out _ (List.mem_of_getElem? HQ.out)
              rcases List.mem_append.1 hy with hy | hy
              · exact HLO.out y hy
              · obtain rfl := List.mem_singleton.1 hy
                exact ⟨HSI.out.low ha.1 (fun p hp => (HRO.out p hp).2), HSI.out.bare ha.2.1, HSI.out.size⟩)
        · have hcn : (ce != 0) = true := by simpa using hce
          have HCN := Lib.hid hce
          clear hce
          go_wp2_with fail
          refine bodyPost_ret (v := .tuple #[.slice none 0 0, .int .i64 ce]) (by simp [results, Tryz.f26, go_sem]) rfl ?_
          exact ⟨⟨ce, _, rfl, fun h => absurd h HCN.out⟩, HST.out.low.trans (HB5.out.mono HST.out.low.size)⟩
    · obtain rfl : k = L.length := by omega
      have HR2 : Hid (SlIs wr.heap.size wr (ch.map (·.1)) (.slice (some ⟨g, 0, none⟩) ch.length c)) := Lib.hid (by
        have hrow : SlP (fun _ => True) wr (ch.map (·.1)) (.slice (some ⟨g, 0, none⟩) ch.length c) := SlP.ofRow hst.row (fun _ _ => trivial) (fun c hc => (hst.kids c hc).carry fun b _ => ⟨rfl, trivial⟩)
        exact hrow.lt.toIs fun b hb => hb.2)
      have HLW := Lib.hid hst.low
      clear hst
      go_wp2_with fail
      refine bodyPost_ret (v := .tuple #[.slice (some ⟨g, 0, none⟩) ch.length c, .int .i64 0]) (by simp [results, Tryz.f26, go_sem]) rfl ?_
      exact ⟨⟨0, _, rfl, fun _ => ⟨_, HR2.out, HOK.out, HCH.out⟩⟩, HLW.out⟩
end Go.Proofs.YtnomppdmhgefiaaGreat
