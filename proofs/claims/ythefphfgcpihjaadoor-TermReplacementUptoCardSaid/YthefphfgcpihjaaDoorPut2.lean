/- Put: the walk. -/
import Derived.WalkKit
import Derived.ProofKit
import Derived.OpenShut
import Derived.Handy
import Derived.Lib.Hide
import Derived.Test.YthefphfgcpihjaaDoorPut
namespace Go.Proofs.YthefphfgcpihjaaDoor
open Go.RowKit

/-- what Put answers -/
def PutSays (t : Tm) (l : List Int) (u r : Tm) (c : Int) : Prop :=
  (c = 0 ∧ t.ok ∧ (t.at l).isSome ∧ u.ok ∧ (t.put l u).ok ∧ r = t.put l u) ∨ (c ≠ 0 ∧ r = Tm.none ∧ (t.ok → (t.at l).isSome → u.ok → c = 3 ∧ ¬ (t.put l u).ok))

set_option maxRecDepth 100000 in
set_option maxHeartbeats 2000000 in
theorem put_any (t : Tm) (s : Value) (l : List Int) (v : Value) (u : Tm) (su : Value) (w : World) (hs : SlIs w.heap.size w t.ts s) (hl : PosIs w.heap.size w l v) (hu : SlIs w.heap.size w u.ts su) (hll : l.length ≤ 1048576) (hb : t.bulk ≤ 1048576 ∧ u.bulk ≤ 1048576 ∧ (t.put l u).bulk ≤ 1048576) :
    Calls Tryd.prog 38 #[tmv t s, v, tmv u su] w fun e w' => ∃ r c, TmNum w w' e r c ∧ PutSays t l u r c := by
  obtain ⟨oa, cap, rfl, -⟩ := hs.form
  obtain ⟨oa2, cap2, rfl, -⟩ := hl.form
  obtain ⟨oa3, cap3, rfl, -⟩ := hu.form
  have HB := Lib.hid hb
  clear hb
  go_enter Tryd.func38, Tryd.ntmps38
  rw [show tmv t (.slice oa t.ts.length cap) = .agg #[.string t.nm, .bool t.vr, .slice oa t.ts.length cap] from rfl, show tmv u (.slice oa3 u.ts.length cap3) = .agg #[.string u.nm, .bool u.vr, .slice oa3 u.ts.length cap3] from rfl]
  go_wp2_with (
    go_at_call 11
    refine (check_any t _ _ (hs.carry (by go_grown) (by simp; omega)) (by have := HB.out; omega)).mono ?_
    rintro e w1 ⟨⟨c, rfl, hc⟩, hb1⟩
    have hr := (hb1.block (w.heap.size + 1 + 1) (by first | (simp; done) | (simp; omega) | omega)).trans (heap_new_at _ _ _ (by first | (simp; done) | (simp; omega) | omega))
    have hub := (hb1.block (w.heap.size + 1) (by first | (simp; done) | (simp; omega) | omega)).trans ((Below.heap_alloc _ _ _ (by first | (simp; done) | (simp; omega) | omega)).trans (heap_new_at _ _ _ (by first | (simp; done) | (simp; omega) | omega)))
    have ht := (hb1.block w.heap.size (by first | (simp; done) | (simp; omega) | omega)).trans ((Below.heap_alloc _ _ _ (by first | (simp; done) | (simp; omega) | omega)).trans ((Below.heap_alloc _ _ _ (by first | (simp; done) | (simp; omega) | omega)).trans (heap_new_at _ _ _ rfl)))
    have hbw := (show Below w.heap.size w (((w.alloc (.cells #[.string t.nm, .bool t.vr, .slice oa t.ts.length cap] 24)).alloc (.cells #[.string u.nm, .bool u.vr, .slice oa3 u.ts.length cap3] 24)).alloc (.cells #[.string ⟨#[]⟩, .bool false, .slice none 0 0] 24)) from by go_grown).trans (hb1.mono (by first | (simp; done) | (simp; omega) | omega))
    have hz1 := hb1.size
    simp only [World.size_alloc] at hz1
    obtain ⟨⟨r0, r1, r2⟩, f0, f1, f2⟩ := box3 hr
    obtain ⟨⟨t0, t1, t2⟩, -⟩ := box3 ht
    have HR := Lib.hid hr
    have HU := Lib.hid hub
    have HC := Lib.hid hc
    have HBW := Lib.hid hbw
    clear hr ht hc hb1 hbw hub)
  · have hq := box3_set HR.out (.string ⟨#[]⟩) (.bool false) (.slice none 0 0)
    obtain ⟨⟨q0, q1, q2⟩, -⟩ := box3 hq
    refine bodyPost_ret (v := .tuple #[tmv Tm.none (.slice none 0 0), .int .i64 c]) (by simp [results, Tryd.f38, go_sem, q0, q1, q2, tmv, Tm.nm, Tm.vr]) rfl ?_
    have hc0 : c ≠ 0 := by simpa using (show (c != 0) = true by assumption)
    exact ⟨_, c, ⟨⟨_, rfl, .nil0⟩, below_set3 HBW.out (by omega) _ _ _⟩, .inr ⟨hc0, rfl, fun h => absurd (HC.out.2 h) hc0⟩⟩
  · have hc0 : c = 0 := by simpa using (show (c != 0) = false by assumption)
    subst hc0
    have HOK := Lib.hid (HC.out.1 rfl)
    have HL := Lib.hid (hl.carry HBW.out HBW.out.size)
    have HS := Lib.hid (hs.carry HBW.out HBW.out.size)
    have HU1 := Lib.hid (hu.carry HBW.out HBW.out.size)
    clear HC
    -- the clone
    refine (clone_any t _ _ HS.out (by have := HB.out; omega) HOK.out.1.bare).mono ?_
    rintro e w2 ⟨⟨sl, fp, rfl, ho, hn, hf⟩, hb2⟩
    obtain ⟨oa4, n4, c4, rfl⟩ := ho.form
    have HO := Lib.hid ho
    have HN := Lib.hid hn
    have HF := Lib.hid hf
    have HB2 := Lib.hid hb2
    clear ho hn hf hb2
    dsimp only [tmv]
    go_wp2_with fail
    have hz2 := HB2.out.size
    obtain ⟨w3, hw3⟩ : ∃ w3, w3 = w2.alloc (.cells #[.string t.nm, .bool t.vr, .slice oa4 n4 c4] 24) := ⟨_, rfl⟩
    have hb23 : Below w2.heap.size w2 w3 := by rw [hw3]; exact (Below.refl _ w2).alloc (Nat.le_refl _) _
    have hbx : w3.heap[w2.heap.size]? = some (.cells #[.string t.nm, .bool t.vr, .slice oa4 n4 c4] 24 (0, 0)) := by rw [hw3]; exact heap_new_at _ _ _ rfl
    have hz3 : w3.heap.size = w2.heap.size + 1 := by rw [hw3]; simp
    rw [← hw3]
    clear hw3
    have hO3 := HO.out.carry (B := w3) fun k hk => hb23.block k (HO.out.lt k hk)
    have hb13 := HB2.out.trans (hb23.mono hz2)
    have hr3 := (hb13.block (w.heap.size + 1 + 1) (by omega)).trans HR.out
    have hu3 := (hb13.block (w.heap.size + 1) (by omega)).trans HU.out
    have hbw3 := HBW.out.trans (hb13.mono (by omega))
    obtain ⟨⟨r0, r1, r2⟩, f0, f1, f2⟩ := box3 hr3
    obtain ⟨⟨u0, u1, u2⟩, -⟩ := box3 hu3
    obtain ⟨⟨x0, x1, x2⟩, -⟩ := box3 hbx
    have HL3 := Lib.hid (HL.out.carry hb13 hb13.size)
    have HU3 := Lib.hid (HU1.out.carry hb13 hb13.size)
    have HS3 := Lib.hid (hO3.is fun k hk => hO3.lt k hk)
    have HR3 := Lib.hid hr3
    have HUB3 := Lib.hid hu3
    have HBX := Lib.hid hbx
    have HBW3 := Lib.hid hbw3
    have HO3 := Lib.hid hO3
    clear hr3 hu3 hbx hbw3 hO3 hb13 hb23 t0 t1 t2
    cases hat : t.at l with
    | none =>
      have HAT := Lib.hid hat
      clear hat
      go_wp2_with (
        go_at_call 84
        refine (locate_any t w2.heap.size 0 w3.heap.size l _ w3 ⟨⟨_, x0, x1, x2, HS3.out⟩⟩ HL3.out hll (by have := HB.out; omega)).mono ?_
        rintro e w4 ⟨hcase, rfl⟩
        obtain rfl : e = .returned (.pointer none) := by
          rcases hcase with ⟨u, b', o', -, hu, -⟩ | ⟨h, -⟩
          · rw [HAT.out] at hu; cases hu
          · exact h
        clear hcase)
      have hq := box3_set HR3.out (.string ⟨#[]⟩) (.bool false) (.slice none 0 0)
      obtain ⟨⟨q0, q1, q2⟩, -⟩ := box3 hq
      refine bodyPost_ret (v := .tuple #[tmv Tm.none (.slice none 0 0), .int .i64 8]) (by simp [results, Tryd.f38, go_sem, q0, q1, q2, tmv, Tm.nm, Tm.vr]) rfl ?_
      exact ⟨_, 8, ⟨⟨_, rfl, .nil0⟩, below_set3 HBW3.out (by omega) _ _ _⟩, .inr ⟨by decide, rfl, fun _ h => by rw [HAT.out] at h; exact absurd h (by simp)⟩⟩
    | some y =>
      have HAT := Lib.hid hat
      clear hat
      go_wp2_with (first
        | (go_at_call 84
           refine (locate_any t w2.heap.size 0 w3.heap.size l _ w3 ⟨⟨_, x0, x1, x2, HS3.out⟩⟩ HL3.out hll (by have := HB.out; omega)).mono ?_
           rintro e w4 ⟨hcase, rfl⟩
           obtain ⟨b', o', rfl, HLOC, HST⟩ : ∃ b' o', e = .returned (.pointer (some ⟨b', o', none⟩)) ∧ Hid (Loc w4.heap.size w4 y b' o') ∧ Hid (Steps w4 w2.heap.size 0 l b' o') := by
             rcases hcase with ⟨u', b', o', he, hu, hloc, hst⟩ | ⟨-, h⟩
             · rw [HAT.out] at hu; cases hu; exact ⟨b', o', he, Lib.hid hloc, Lib.hid hst⟩
             · rw [HAT.out] at h; cases h
           clear hcase)
        | (go_at_call 11
           refine (check_any u _ _ HU3.out (by have := HB.out; omega)).mono ?_
           rintro e w5 ⟨⟨c, rfl, hc⟩, hb5⟩
           have hr5 := (hb5.block (w.heap.size + 1 + 1) (by omega)).trans HR3.out
           have hu5 := (hb5.block (w.heap.size + 1) (by omega)).trans HUB3.out
           have hz5 := hb5.size
           have HBW5 := Lib.hid (HBW3.out.trans (hb5.mono (by omega)))
           obtain ⟨⟨r0, r1, r2⟩, f0, f1, f2⟩ := box3 hr5
           obtain ⟨⟨u0, u1, u2⟩, -⟩ := box3 hu5
           have HR5 := Lib.hid hr5
           have HB5 := Lib.hid hb5
           have HC5 := Lib.hid hc
           clear hr5 hu5 hb5 hc))
      · have hq := box3_set HR5.out (.string ⟨#[]⟩) (.bool false) (.slice none 0 0)
        obtain ⟨⟨q0, q1, q2⟩, -⟩ := box3 hq
        refine bodyPost_ret (v := .tuple #[tmv Tm.none (.slice none 0 0), .int .i64 c]) (by simp [results, Tryd.f38, go_sem, q0, q1, q2, tmv, Tm.nm, Tm.vr]) rfl ?_
        have hc0 : c ≠ 0 := by simpa using (show (c != 0) = true by assumption)
        exact ⟨_, c, ⟨⟨_, rfl, .nil0⟩, below_set3 HBW5.out (by omega) _ _ _⟩, .inr ⟨hc0, rfl, fun _ _ h => absurd (HC5.out.2 h) hc0⟩⟩
      · have hc0 : c = 0 := by simpa using (show (c != 0) = false by assumption)
        subst hc0
        have HOKU := Lib.hid (HC5.out.1 rfl)
        clear HC5
        have hz5 := HB5.out.size
        refine (clone_any u _ _ (HU3.out.carry HB5.out HB5.out.size) (by have := HB.out; omega) HOKU.out.1.bare).mono ?_
        rintro e w6 ⟨⟨slu, fpu, rfl, hou, -, hfu⟩, hb6⟩
        obtain ⟨oa6, n6, c6, rfl⟩ := hou.form
        have hz6 := hb6.size
        have hb46 := HB5.out.trans (hb6.mono hz5)
        -- the place
        have hplace : (w1.heap.size ≤ b' ∧ b' < w4.heap.size) ∧ ∃ cur, w4.heap[b']? = some (.cells cur 24 (0, 0)) := by
          by_cases hl0 : l = []
          · subst hl0
            have := HST.out
            cases this
            exact ⟨⟨by omega, by omega⟩, _, HBX.out⟩
          · have h := own_place HST.out t _ fp x2 HO3.out (by rw [HAT.out]; rfl) hl0
            exact ⟨⟨HF.out _ h, HO3.out.lt _ h⟩, HO3.out.blocks _ h⟩
        obtain ⟨⟨hbl, hbu⟩, cur, hcur⟩ := hplace
        have hcur6 := (hb46.block b' hbu).trans hcur
        obtain ⟨sy, d0, d1, d2, -⟩ := HLOC.out.cells
        have e0 := (hb46.cell (p := ⟨b', o', none⟩) hbu).trans d0
        have e1 := (hb46.cell (p := ⟨b', o' + 1, none⟩) hbu).trans d1
        have e2 := (hb46.cell (p := ⟨b', o' + 2, none⟩) hbu).trans d2
        have g0 := frozen_of' hcur6 o'
        have g1 := frozen_of' hcur6 (o' + 1)
        have g2 := frozen_of' hcur6 (o' + 2)
        have hother : ∀ k, k ≠ b' → (((w6.setCell ⟨b', o', none⟩ (.string u.nm)).setCell ⟨b', o' + 1, none⟩ (.bool u.vr)).setCell ⟨b', o' + 2, none⟩ (.slice oa6 n6 c6)).heap[k]? = w6.heap[k]? := fun k hk => by
          rw [Below.heap_setCell _ _ _ _ hk, Below.heap_setCell _ _ _ _ hk, Below.heap_setCell _ _ _ _ hk]
        have hVz : (((w6.setCell ⟨b', o', none⟩ (.string u.nm)).setCell ⟨b', o' + 1, none⟩ (.bool u.vr)).setCell ⟨b', o' + 2, none⟩ (.slice oa6 n6 c6)).heap.size = w6.heap.size := by simp [World.setCell]
        have hVb : Below w.heap.size w (((w6.setCell ⟨b', o', none⟩ (.string u.nm)).setCell ⟨b', o' + 1, none⟩ (.bool u.vr)).setCell ⟨b', o' + 2, none⟩ (.slice oa6 n6 c6)) :=
          (((HBW5.out.trans (hb6.mono (by omega))).setCell (p := ⟨b', o', none⟩) (by show _ ≤ b'; omega) _).setCell (p := ⟨b', o' + 1, none⟩) (by show _ ≤ b'; omega) _).setCell (p := ⟨b', o' + 2, none⟩) (by show _ ≤ b'; omega) _
        have houV := hou.carry (B := ((w6.setCell ⟨b', o', none⟩ (.string u.nm)).setCell ⟨b', o' + 1, none⟩ (.bool u.vr)).setCell ⟨b', o' + 2, none⟩ (.slice oa6 n6 c6)) fun k hk => hother k (by have := hfu k hk; omega)
        obtain ⟨sr, hpm⟩ := put_mem (e := 24) (W := w6) (t := t) (u := u) (su := .slice oa6 n6 c6) (HST.out.carry (hb46.mono (Nat.le_refl _))) ((hb46.block _ (by omega)).trans HBX.out) (HO3.out.carry fun k hk => hb46.block k (HO3.out.lt k hk)) HN.out (fun h => by have := HO.out.lt _ h; omega) (by rw [HAT.out]; rfl)
        have hset6 : ∀ cur, w6.heap[b']? = some (.cells cur 24 (0, 0)) → (((w6.setCell ⟨b', o', none⟩ (.string u.nm)).setCell ⟨b', o' + 1, none⟩ (.bool u.vr)).setCell ⟨b', o' + 2, none⟩ (.slice oa6 n6 c6)).heap[b']? = some (.cells (((cur.setIfInBounds o' (.string u.nm)).setIfInBounds (o' + 1) (.bool u.vr)).setIfInBounds (o' + 2) (.slice oa6 n6 c6)) 24 (0, 0)) := fun cur h => set3 h _ _ _ _
        obtain ⟨hsr, hps⟩ := hpm _ _ (fun k _ hk => hother k hk) hset6 (houV.is houV.lt) (fun k hk => by have := HO.out.lt k hk; rw [hVz]; omega)
        obtain ⟨oaR, cR, rfl, -⟩ := hps.form
        obtain ⟨⟨y0, y1, y2⟩, -⟩ := box3 hsr
        have hrV := (hother (w.heap.size + 1 + 1) (by omega)).trans ((hb6.block _ (by omega)).trans HR5.out)
        have HPS := Lib.hid hps
        have HSR := Lib.hid hsr
        have HRV := Lib.hid hrV
        have HVZ := Lib.hid hVz
        have HVB := Lib.hid hVb
        have HPM := Lib.hid hpm
        have HOT := Lib.hid hother
        have HOUV := Lib.hid houV
        have HFU := Lib.hid hfu
        have HSET := Lib.hid hset6
        clear hpm hset6 hps hsr hrV hVz hVb hou hfu hb6 hb46 hcur hcur6 hother houV d0 d1 d2 x0 x1 x2 u0 u1 u2 r0 r1 r2 f0 f1 f2
        dsimp only [tmv]
        go_wp2_with fail
        have hpb : (t.put l u).bulk ≤ 1048576 := HB.out.2.2
        generalize hV : (((w6.setCell ⟨b', o', none⟩ (.string u.nm)).setCell ⟨b', o' + 1, none⟩ (.bool u.vr)).setCell ⟨b', o' + 2, none⟩ (.slice oa6 n6 c6)) = V at HPS HSR HRV HVZ HVB HOT HOUV HSET y0 y1 y2 ⊢
        clear hV
        refine (check_any (t.put l u) _ V HPS.out hpb).mono ?_
        rintro e w7 ⟨⟨c, rfl, hc⟩, hb7⟩
        have hVz := HVZ.out
        have hr7 := (hb7.block (w.heap.size + 1 + 1) (by omega)).trans HRV.out
        have hx7 := (hb7.block w2.heap.size (by omega)).trans HSR.out
        have hz7 := hb7.size
        have HBW7 := Lib.hid (HVB.out.trans (hb7.mono (by omega)))
        have HP7 := Lib.hid (HPS.out.carry hb7 hb7.size)
        obtain ⟨⟨r0, r1, r2⟩, f0, f1, f2⟩ := box3 hr7
        obtain ⟨⟨x0, x1, x2⟩, -⟩ := box3 hx7
        have HR7 := Lib.hid hr7
        have HB7 := Lib.hid hb7
        have HC7 := Lib.hid hc
        clear hr7 hx7 hb7 hc y0 y1 y2 e0 e1 e2 g0 g1 g2
        go_wp2_with fail
        · have hq := box3_set HR7.out (.string ⟨#[]⟩) (.bool false) (.slice none 0 0)
          obtain ⟨⟨q0, q1, q2⟩, -⟩ := box3 hq
          refine bodyPost_ret (v := .tuple #[tmv Tm.none (.slice none 0 0), .int .i64 3]) (by simp [results, Tryd.f38, go_sem, q0, q1, q2, tmv, Tm.nm, Tm.vr]) rfl ?_
          have hc0 : c ≠ 0 := by simpa using (show (c != 0) = true by assumption)
          exact ⟨_, 3, ⟨⟨_, rfl, .nil0⟩, below_set3 HBW7.out (by omega) _ _ _⟩, .inr ⟨by decide, rfl, fun _ _ _ => ⟨rfl, fun h => hc0 (HC7.out.2 h)⟩⟩⟩
        · have hc0 : c = 0 := by simpa using (show (c != 0) = false by assumption)
          subst hc0
          have hq := box3_set HR7.out (.string (t.put l u).nm) (.bool (t.put l u).vr) (.slice oaR (t.put l u).ts.length cR)
          obtain ⟨⟨q0, q1, q2⟩, -⟩ := box3 hq
          refine bodyPost_ret (v := .tuple #[tmv (t.put l u) (.slice oaR (t.put l u).ts.length cR), .int .i64 0]) (by simp [results, Tryd.f38, go_sem, q0, q1, q2, tmv]) rfl ?_
          have hbw8 := below_set3 HBW7.out (b := w.heap.size + 1 + 1) (by omega) (.string (t.put l u).nm) (.bool (t.put l u).vr) (.slice oaR (t.put l u).ts.length cR)
          refine ⟨_, 0, ⟨⟨_, rfl, ?_⟩, hbw8⟩, .inl ⟨rfl, HOK.out, by rw [HAT.out]; rfl, HOKU.out, HC7.out.1 rfl, rfl⟩⟩
          have hk8 : ∀ k, k < w6.heap.size → k ≠ w.heap.size + 1 + 1 → (((w7.setCell ⟨w.heap.size + 1 + 1, 0, none⟩ (.string (t.put l u).nm)).setCell ⟨w.heap.size + 1 + 1, 1, none⟩ (.bool (t.put l u).vr)).setCell ⟨w.heap.size + 1 + 1, 2, none⟩ (.slice oaR (t.put l u).ts.length cR)).heap[k]? = V.heap[k]? := fun k hk hne =>
            (heap_set3 _ _ _ _ _ _ hne).trans (HB7.out.block k (by omega))
          have hz8 := hbw8.size
          have ho8 := HOUV.out.carry (B := ((w7.setCell ⟨w.heap.size + 1 + 1, 0, none⟩ (.string (t.put l u).nm)).setCell ⟨w.heap.size + 1 + 1, 1, none⟩ (.bool (t.put l u).vr)).setCell ⟨w.heap.size + 1 + 1, 2, none⟩ (.slice oaR (t.put l u).ts.length cR)) fun k hk => hk8 k (by have := HOUV.out.lt k hk; omega) (by have := HFU.out k hk; omega)
          have hz78 : (((w7.setCell ⟨w.heap.size + 1 + 1, 0, none⟩ (.string (t.put l u).nm)).setCell ⟨w.heap.size + 1 + 1, 1, none⟩ (.bool (t.put l u).vr)).setCell ⟨w.heap.size + 1 + 1, 2, none⟩ (.slice oaR (t.put l u).ts.length cR)).heap.size = w7.heap.size := by simp [World.setCell]
          have hB : ∀ k ∈ fp, w1.heap.size ≤ k ∧ k < w2.heap.size := fun k hk => ⟨HF.out k hk, HO.out.lt k hk⟩
          refine (HPM.out _ _ (fun k hk hne => ?_) (fun cur hcur => ?_) (ho8.is ho8.lt) (fun k hk => ?_)).2
          · have hk2 : w1.heap.size ≤ k ∧ k < w4.heap.size := by
              rcases hk with rfl | hk
              · omega
              · have := hB k hk; omega
            exact (hk8 k (by omega) (by omega)).trans (HOT.out k hne)
          · exact (hk8 b' (by omega) (by omega)).trans (HSET.out cur hcur)
          · have := hB k hk; omega
end Go.Proofs.YthefphfgcpihjaaDoor
