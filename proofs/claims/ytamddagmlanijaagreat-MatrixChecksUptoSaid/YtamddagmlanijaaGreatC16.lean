/- Packed: Myf, Myg, Myh, Myi. -/
import Derived.Test.YtamddagmlanijaaGreatC15
import Derived.Test.YtamddagmlanijaaGreatC10
import Derived.Test.YtamddagmlanijaaGreatC14
import Derived.Test.YtamddagmlanijaaGreatC08
/- Package matrix: the value of a ground term, plain. -/
namespace Go.Proofs.YtamddagmlanijaaGreat
open Go.RowKit Go.Shelf

def zeroF : Nat → Nat := fun _ => 0
/-- the sum of a vector and of the first products -/
def pS (v : List Nat) (ms : List (List (List Nat))) (Xs : List (Nat → Nat)) : Nat → Nat → Nat
  | 0 => fun i => v.getD i 0
  | k + 1 => sumF (pS v ms Xs k) (mulF (ms.getD k []) (Xs.getD k zeroF))
/-- a ground term has this value, within the limits all along -/
inductive EvG (L : List Mx) : Tm → (Nat → Nat) → Prop
  | mk (nm : ByteArray) (ts : List Tm) (p : Mx) (x0 x1 : Nat) (Xs : List (Nat → Nat)) (hf : findM L nm.data.toList = some p) (hv : p.2.1 = [x0, x1]) (hx : x0 ≤ 4611686018427387904 ∧ x1 ≤ 4611686018427387904)
      (hl : ts.length = p.2.2.length) (h8 : ts.length ≤ 8) (hm : ∀ m ∈ p.2.2, m.length ≤ 4 ∧ ∀ r ∈ m, r.length ≤ 4 ∧ ∀ n ∈ r, n < 18446744073709551616)
      (kids : ∀ (i : Nat) (u : Tm), ts[i]? = some u → EvG L u (Xs.getD i zeroF)) (okm : ∀ i, i < ts.length → okM (p.2.2.getD i []) (Xs.getD i zeroF))
      (oks : ∀ i, i < ts.length → okS (pS p.2.1 p.2.2 Xs i) (mulF (p.2.2.getD i []) (Xs.getD i zeroF))) : EvG L (.mk nm false ts) (pS p.2.1 p.2.2 Xs ts.length)
theorem pS_le {v : List Nat} {ms : List (List (List Nat))} {Xs : List (Nat → Nat)} (hv : ∀ i, i < 4 → v.getD i 0 ≤ 4611686018427387904) : ∀ {k : Nat}, (∀ i, i < k → okS (pS v ms Xs i) (mulF (ms.getD i []) (Xs.getD i zeroF))) → ∀ i, i < 4 → pS v ms Xs k i ≤ 4611686018427387904
  | 0, _, i, hi => hv i hi
  | k + 1, h, i, hi => h k (by omega) i hi
theorem two_le {x0 x1 : Nat} (h : x0 ≤ 4611686018427387904 ∧ x1 ≤ 4611686018427387904) : ∀ i, i < 4 → [x0, x1].getD i 0 ≤ 4611686018427387904 := by
  intro i hi
  match i, hi with
  | 0, _ => exact h.1
  | 1, _ => exact h.2
  | 2, _ => exact Nat.zero_le _
  | 3, _ => exact Nat.zero_le _
theorem colA5_at (R : Nat → Nat) {k : Nat} (h : k < 4) : (#[.int .u64 (R 0 : Int), .int .u64 (R 1 : Int), .int .u64 (R 2 : Int), .int .u64 (R 3 : Int), .map none] : Array Value)[k]? = some (.int .u64 (R k : Int)) := by
  match k, h with
  | 0, _ => rfl
  | 1, _ => rfl
  | 2, _ => rfl
  | 3, _ => rfl
theorem EvG.le {L : List Mx} {t : Tm} {X : Nat → Nat} (h : EvG L t X) : ∀ i, i < 4 → X i ≤ 4611686018427387904 := by
  cases h with
  | mk nm ts p x0 x1 Xs hf hv hx hl h8 hm kids okm oks => exact pS_le (by rw [hv]; exact two_le hx) oks
/-- evaluate between its rounds: the sum stands in block b8, the entry in the block that was made first behind w2 -/
structure EvSt (w2 : World) (p : Mx) (ov : Option Addr) (cv : Nat) (om : Option Addr) (cm b8 : Nat) (S : Nat → Nat) (W : World) : Prop where
  bl : Below w2.heap.size w2 W
  x6 : W.heap[w2.heap.size]? = some (.cells #[.string (kb p.1), .slice ov p.2.1.length cv, .slice om p.2.2.length cm] 142)
  lt : w2.heap.size < b8
  sz : b8 < W.heap.size
  col : ColAt W b8 0 S
  m8 : W.cell? ⟨b8, 4, none⟩ = some (.map none)
theorem EvSt.below {w2 : World} {p : Mx} {ov : Option Addr} {cv : Nat} {om : Option Addr} {cm b8 : Nat} {S : Nat → Nat} {A B : World} (h : EvSt w2 p ov cv om cm b8 S A) (hb : Below A.heap.size A B) : EvSt w2 p ov cv om cm b8 S B :=
  ⟨h.bl.trans (hb.mono h.bl.size), (hb.block _ (Nat.lt_trans h.lt h.sz)).trans h.x6, h.lt, Nat.lt_of_lt_of_le h.sz hb.size, h.col.carry hb h.sz, (hb.cell (p := ⟨b8, _, none⟩) h.sz).trans h.m8⟩
theorem EvSt.but {w2 : World} {p : Mx} {ov : Option Addr} {cv : Nat} {om : Option Addr} {cm b8 b : Nat} {S : Nat → Nat} {A B : World} (h : EvSt w2 p ov cv om cm b8 S A) (hb : ButC b 0 A B) (hlt : b8 < b) : EvSt w2 p ov cv om cm b8 S B := by
  have h8 : Below b A.drew.drew B → True := fun _ => trivial
  clear h8
  have e8 : B.heap[b8]? = A.heap[b8]? := hb.block b8 h.sz (by omega)
  exact ⟨h.bl.trans (hb.toButB.below (by have := h.lt; omega) h.bl.size), (hb.block _ (Nat.lt_trans h.lt h.sz) (by have := h.lt; omega)).trans h.x6, h.lt, Nat.lt_of_lt_of_le h.sz hb.size,
    ⟨fun k hk => (World.cell?_of_block (a := ⟨b8, 0 + k, none⟩) e8).trans (h.col.c k hk), fun k hk => (World.frozen?_of_block (a := ⟨b8, 0 + k, none⟩) e8).trans (h.col.f k hk)⟩, (World.cell?_of_block (a := ⟨b8, 4, none⟩) e8).trans h.m8⟩
theorem EvSt.add {w2 : World} {p : Mx} {ov : Option Addr} {cv : Nat} {om : Option Addr} {cm b8 : Nat} {S T : Nat → Nat} {A B : World} (h : EvSt w2 p ov cv om cm b8 S A) (hb : ButC b8 0 A B) (hc : ColAt B b8 0 T) : EvSt w2 p ov cv om cm b8 T B :=
  ⟨h.bl.trans (hb.toButB.below (Nat.le_of_lt h.lt) h.bl.size), (hb.block _ (Nat.lt_trans h.lt h.sz) (Nat.ne_of_lt h.lt)).trans h.x6, h.lt, Nat.lt_of_lt_of_le h.sz hb.size, hc, (hb.c 4 (by omega)).trans h.m8⟩
set_option maxRecDepth 100000 in
set_option maxHeartbeats 4000000 in
theorem evalG_any (d : Nat) (L : List Mx) (hlen : L.length ≤ 1048576) (hn : NmsOk (L.map nmx)) {t : Tm} {X : Nat → Nat} (hE : EvG L t X) : ∀ (v s : Value) (w : World), MxsIs w.heap.size w L v → SlIs w.heap.size w t.ts s →
    Calls Tryz.prog 164 #[.agg #[.int .i64 (d : Int), v], tmv t s] w fun e w' => e = .returned (.tuple #[linV (X 0) (X 1) (X 2) (X 3), .bool true]) ∧ Below w.heap.size w w' := by
  induction hE with
  | mk nm ts p x0 x1 Xs hf hv hx hl h8 hm kids okm oks ih =>
  intro v s w hL hs
  have HEN : Hid (∀ W, Below w.heap.size w W → Calls Tryz.prog 153 #[.agg #[.int .i64 (d : Int), v], .string nm] W fun e w' => EnPost L nm.data.toList w' e ∧ Below W.heap.size W w') := Lib.hid fun W hW => by
    have h := mxEntry_any d L nm.data.toList v W (hL.carry keeps_MxsIs hW hW.size) hlen hn
    rw [kb_key] at h
    exact h
  obtain ⟨oa, cap, rfl⟩ := hL.shape
  obtain ⟨ot, ct, rfl, -⟩ := hs.form
  have HL := Lib.hid hL
  have HS := Lib.hid hs
  have HF := Lib.hid hf
  have HV := Lib.hid hv
  have HX := Lib.hid hx
  have HM := Lib.hid hm
  have HI := Lib.hid ih
  have HK := Lib.hid kids
  have HOM := Lib.hid okm
  have HOS := Lib.hid oks
  have HLL := Lib.hid hl
  clear hL hs hf hv hx hm ih kids okm oks hl
  change Calls Tryz.prog 164 #[.agg #[.int .i64 (d : Int), .slice oa L.length cap], .agg #[.string nm, .bool false, .slice ot ts.length ct]] w _
  obtain ⟨W1, hW1⟩ : ∃ W1, W1 = ((w.alloc (.cells #[.int .i64 (d : Int), .slice oa L.length cap] 146)).alloc (.cells #[.string nm, .bool false, .slice ot ts.length ct] 25)).alloc (.cells #[.int .u64 0, .int .u64 0, .int .u64 0, .int .u64 0, .map none] 157) := ⟨_, rfl⟩
  have hb1 : Below w.heap.size w W1 := by subst hW1; go_grown
  have hx0 : W1.heap[w.heap.size]? = some (.cells #[.int .i64 (d : Int), .slice oa L.length cap] 146 (0, 0)) := by subst hW1; rw [heap_alloc_old' _ _ (by rw [size_alloc', size_alloc']; omega), heap_alloc_old' _ _ (by rw [size_alloc']; omega)]; exact heap_alloc_new' _ _ rfl
  have hx1 : W1.heap[w.heap.size + 1]? = some (.cells #[.string nm, .bool false, .slice ot ts.length ct] 25 (0, 0)) := by subst hW1; rw [heap_alloc_old' _ _ (by rw [size_alloc', size_alloc']; omega)]; exact heap_alloc_new' _ _ (by rw [size_alloc'])
  have hx2 : W1.heap[w.heap.size + 2]? = some (linO 0 0 0 0) := by subst hW1; exact heap_alloc_new' _ _ (by rw [size_alloc', size_alloc'])
  have hz1 : W1.heap.size = w.heap.size + 3 := by subst hW1; rw [size_alloc', size_alloc', size_alloc']
  obtain ⟨y0, y1⟩ : W1.cell? ⟨w.heap.size, 0, none⟩ = some (.int .i64 (d : Int)) ∧ W1.cell? ⟨w.heap.size, 1, none⟩ = some (.slice oa L.length cap) := ⟨cells_of' hx0 0, cells_of' hx0 1⟩
  obtain ⟨z0, z1⟩ : W1.cell? ⟨w.heap.size + 1, 0, none⟩ = some (.string nm) ∧ W1.cell? ⟨w.heap.size + 1, 1, none⟩ = some (.bool false) := ⟨cells_of' hx1 0, cells_of' hx1 1⟩
  have HB1 := Lib.hid hb1
  have HX0 := Lib.hid hx0
  have HX1 := Lib.hid hx1
  have HX2 := Lib.hid hx2
  have HZ1 := Lib.hid hz1
  clear hb1 hx0 hx1 hx2 hz1
  go_enter Tryz.func164, Tryz.ntmps164
  go_wp2_with fail
  rw [← hW1]
  clear hW1
  refine (HEN.out _ HB1.out).mono ?_
  rintro e w2 ⟨hc, hb2⟩
  rcases hc with ⟨p', ov, cv, om, cm, hf', rfl, hu, hm⟩ | ⟨hf', rfl⟩
  · obtain rfl : p' = p := Option.some.inj (hf'.symm.trans HF.out)
    have HU := Lib.hid hu
    have HMM := Lib.hid hm
    have HB2 := Lib.hid hb2
    clear hu hm hb2 hf'
    have HCS : Hid (∀ W, Below w2.heap.size w2 W → Calls Tryz.prog 219 #[.slice ov p'.2.1.length cv] W fun e w' => e = .returned (linV x0 x1 0 0) ∧ Below W.heap.size W w') := Lib.hid fun W hW => by
      have h : ∀ l, p'.2.1 = l → U64Is W.heap.size W l (.slice ov p'.2.1.length cv) := by
        rintro _ rfl
        exact HU.out.carry hW hW.size
      exact constant_any x0 x1 _ W (h _ HV.out)
    obtain ⟨W3, hW3⟩ : ∃ W3, W3 = w2.alloc (.cells #[.string (kb p'.1), .slice ov p'.2.1.length cv, .slice om p'.2.2.length cm] 142) := ⟨_, rfl⟩
    have h3 : Below w2.heap.size w2 W3 := by subst hW3; go_grown
    have h6 : W3.heap[w2.heap.size]? = some (.cells #[.string (kb p'.1), .slice ov p'.2.1.length cv, .slice om p'.2.2.length cm] 142) := by subst hW3; exact heap_alloc_new' _ _ rfl
    have hz3 : W3.heap.size = w2.heap.size + 1 := by subst hW3; rw [size_alloc']
    have H3 := Lib.hid h3
    have H6 := Lib.hid h6
    have HZ3 := Lib.hid hz3
    clear h3 h6 hz3
    go_wp2_with fail
    rw [← hW3]
    clear hW3
    refine (HCS.out _ H3.out).mono ?_
    rintro e w4 ⟨rfl, hb4⟩
    have H4 := Lib.hid hb4
    have hw4 := hb4.size
    have hz := HZ3.out
    have hlt : w.heap.size + 1 < w2.heap.size := by have := HB2.out.size; have := HZ1.out; omega
    have hz24 : Below w2.heap.size w2 w4 := H3.out.trans (hb4.mono H3.out.size)
    have z2 : w4.cell? ⟨w.heap.size + 1, 2, none⟩ = some (.slice ot ts.length ct) := (hz24.cell (p := ⟨w.heap.size + 1, 2, none⟩) hlt).trans ((HB2.out.cell (p := ⟨w.heap.size + 1, 2, none⟩) (by rw [HZ1.out]; show w.heap.size + 1 < _; omega)).trans (cells_of' HX1.out 2))
    have hgo : (w4.alloc (linO x0 x1 0 0)).heap[w4.heap.size]? = some (linO x0 x1 0 0) := heap_alloc_new' _ _ rfl
    have hb5 : Below w4.heap.size w4 (w4.alloc (linO x0 x1 0 0)) := (Below.refl _ _).alloc (Nat.le_refl _) _
    have HST : Hid (EvSt w2 p' ov cv om cm w4.heap.size (pS p'.2.1 p'.2.2 Xs 0) (w4.alloc (linO x0 x1 0 0))) := Lib.hid (by
      refine ⟨hz24.trans (hb5.mono (by omega)), (hb5.block _ (by omega)).trans ((hb4.block _ (by omega)).trans H6.out), by omega, by rw [size_alloc']; omega, ?_, cells_of' hgo 4⟩
      rw [pS, HV.out]
      refine ⟨fun k hk => ?_, fun k hk => frozen_of' hgo _⟩
      rw [Nat.zero_add]
      refine (cells_of' hgo k).trans ?_
      match k, hk with
      | 0, _ => rfl
      | 1, _ => rfl
      | 2, _ => rfl
      | 3, _ => rfl)
    have z3 : (w4.alloc (.cells #[.int .u64 (x0 : Int), .int .u64 (x1 : Int), .int .u64 0, .int .u64 0, .map none] 157)).cell? ⟨w.heap.size + 1, 2, none⟩ = some (.slice ot ts.length ct) := (hb5.cell (p := ⟨w.heap.size + 1, 2, none⟩) (by show w.heap.size + 1 < _; omega)).trans z2
    clear hb4 hgo hb5 hz24
    have HBW : Hid (∀ W, Below w2.heap.size w2 W → Below w.heap.size w W) := Lib.hid fun W hW => (HB1.out.trans (HB2.out.mono HB1.out.size)).trans (hW.mono (by omega))
    have HZ0 : Hid (w.heap.size + 2 < w2.heap.size ∧ w2.heap.size < w4.heap.size) := Lib.hid ⟨by have := HB2.out.size; have := HZ1.out; omega, by omega⟩
    go_wp2_with fail
    clear z2 z3 hw4 hz hlt H4 HZ3 H6 H3 HCS HEN
    go_loopw [33] (fun i wr => ∃ k : Nat, k ≤ ts.length ∧ i = .int .i64 k ∧ Hid (EvSt w2 p' ov cv om cm w4.heap.size (pS p'.2.1 p'.2.2 Xs k) wr)) (fun i _ => ts.length - (intOf i).toNat)
    case atStart => exact ⟨0, by omega, rfl, HST⟩
    case round =>
      clear HST
      obtain ⟨k, hk, rfl, HST⟩ := hrel
      have hwr := HBW.out wr HST.out.bl
      have y0 : wr.cell? ⟨w.heap.size, 0, none⟩ = some (.int .i64 (d : Int)) := (HST.out.bl.cell (p := ⟨w.heap.size, 0, none⟩) (by have := HZ0.out; show w.heap.size < _; omega)).trans ((HB2.out.cell (p := ⟨w.heap.size, 0, none⟩) (by rw [HZ1.out]; show w.heap.size < _; omega)).trans (cells_of' HX0.out 0))
      have y1 : wr.cell? ⟨w.heap.size, 1, none⟩ = some (.slice oa L.length cap) := (HST.out.bl.cell (p := ⟨w.heap.size, 1, none⟩) (by have := HZ0.out; show w.heap.size < _; omega)).trans ((HB2.out.cell (p := ⟨w.heap.size, 1, none⟩) (by rw [HZ1.out]; show w.heap.size < _; omega)).trans (cells_of' HX0.out 1))
      have hz0 : w.heap.size < wr.heap.size := by have := HZ0.out; have := HST.out.bl.size; omega
      by_cases hlt : k < ts.length
      · obtain ⟨b1, o1, u, su, rfl, hbb, hu, hum, hus, c0, c1, c2⟩ := (HS.out.carry hwr hwr.size).get hlt
        obtain ⟨ou, cu, rfl, -⟩ := hus.form
        have HIK : Hid (∀ W, Below wr.heap.size wr W → Calls Tryz.prog 164 #[.agg #[.int .i64 (d : Int), .slice oa L.length cap], .agg #[.string u.nm, .bool u.vr, .slice ou u.ts.length cu]] W fun e w' => e = .returned (.tuple #[linV (Xs.getD k zeroF 0) (Xs.getD k zeroF 1) (Xs.getD k zeroF 2) (Xs.getD k zeroF 3), .bool true]) ∧ Below W.heap.size W w') := Lib.hid fun W hW =>
          HI.out k u hu (.slice oa L.length cap) (.slice ou u.ts.length cu) W (HL.out.carry keeps_MxsIs (hwr.trans (hW.mono hwr.size)) (Nat.le_trans hwr.size hW.size)) (hus.carry hW hW.size)
        have HXL := Lib.hid ((HK.out k u hu).le)
        have HUK := Lib.hid hu
        have hbu : Below wr.heap.size wr (wr.alloc (.cells #[.string u.nm, .bool u.vr, .slice ou u.ts.length cu] 25)) := (Below.refl _ _).alloc (Nat.le_refl _) _
        have HBU := Lib.hid hbu
        have hkm : k < p'.2.2.length := by rw [← HLL.out]; exact hlt
        obtain ⟨bm, om', ms, ow, cw, rfl, hbm, hms, hmq, m0⟩ := MatsU.at1 HMM.out hkm
        have HMS := Lib.hid hms
        have HMQ := Lib.hid hmq
        have HBM := Lib.hid hbm
        have HM0 := Lib.hid m0
        have hget : p'.2.2.getD k [] = ms := by simp [List.getD, hms]
        have HGET := Lib.hid hget
        clear hu hum hus hwr hbu hms hmq hbm m0 hget
        go_wp2_with fail
        refine (HIK.out _ HBU.out).mono ?_
        rintro e w5 ⟨rfl, hb5⟩
        have HST5 := Lib.hid ((HST.out.below HBU.out).below hb5)
        clear hb5 HIK HST
        generalize hXk : Xs.getD k zeroF = Xk at *
        obtain ⟨W6, hW6⟩ : ∃ W6, W6 = w5.alloc (.cells #[.int .u64 (Xk 0 : Int), .int .u64 (Xk 1 : Int), .int .u64 (Xk 2 : Int), .int .u64 (Xk 3 : Int), .map none] 157) := ⟨_, rfl⟩
        have h56 : Below w5.heap.size w5 W6 := by subst hW6; exact (Below.refl _ _).alloc (Nat.le_refl _) _
        have hg6 : W6.heap[w5.heap.size]? = some (linO (Xk 0) (Xk 1) (Xk 2) (Xk 3)) := by subst hW6; exact heap_alloc_new' _ _ rfl
        have hz6 : W6.heap.size = w5.heap.size + 1 := by subst hW6; rw [size_alloc']
        have HG6 := Lib.hid hg6
        have HST6 := Lib.hid (HST5.out.below h56)
        have HZ6 := Lib.hid hz6
        have q2 : W6.cell? ⟨w2.heap.size, 2, none⟩ = some (.slice (some ⟨bm, om', none⟩) p'.2.2.length cm) := cells_of' HST6.out.x6 2
        have q3 : W6.cell? ⟨bm, om' + k, none⟩ = some (.slice ow ms.length cw) := (HST6.out.bl.cell (p := ⟨bm, _, none⟩) HBM.out).trans HM0.out
        clear h56 hg6 hz6
        rw [hW6] at q2 q3
        go_wp2_with fail
        rw [← hW6]
        clear hW6 q2 q3
        have hlt5 : w5.heap.size < W6.heap.size := by have := HZ6.out; omega
        have hmok := HM.out ms (List.mem_of_getElem? HMS.out)
        refine (linMul_any w5.heap.size ms Xk (.slice ow ms.length cw) W6 (HMQ.out.carry keeps_RowsU HST6.out.bl HST6.out.bl.size) hmok.1 hmok.2 (fun i hi => Nat.lt_of_le_of_lt (HXL.out i hi) (by decide)) hlt5 ⟨fun i hi => by rw [Nat.zero_add]; exact (cells_of' HG6.out i).trans (colA5_at Xk hi), fun i _ => frozen_of' HG6.out _⟩ (cells_of' HG6.out 4)).mono ?_
        rintro e w7 ⟨hbut, h⟩
        have hok : okM ms Xk := by have := HOM.out k hlt; rw [HGET.out, hXk] at this; exact this
        rcases h with ⟨rfl, -, hcol⟩ | ⟨rfl, hno⟩
        · have hst7 : EvSt w2 p' ov cv (some ⟨bm, om', none⟩) cm w4.heap.size (pS p'.2.1 p'.2.2 Xs k) w7 := HST6.out.but hbut HST5.out.sz
          have s0 := hcol.c 0 (by omega)
          have s1 := hcol.c 1 (by omega)
          have s2 := hcol.c 2 (by omega)
          have s3 := hcol.c 3 (by omega)
          have s4 : w7.cell? ⟨w5.heap.size, 4, none⟩ = some (.map none) := (hbut.c 4 (by omega)).trans (cells_of' HG6.out 4)
          have HST7 := Lib.hid hst7
          have hos := HOS.out k hlt
          rw [HGET.out, hXk] at hos
          have HOSK := Lib.hid hos
          have HYL : Hid (∀ i, i < 4 → mulF ms Xk i ≤ 4611686018427387904) := Lib.hid fun i _ => by
            by_cases h : i < ms.length
            · exact hok i h
            · rw [mulF, if_neg h]; exact Nat.zero_le _
          have HSL : Hid (∀ i, i < 4 → pS p'.2.1 p'.2.2 Xs k i ≤ 4611686018427387904) := Lib.hid (pS_le (by rw [HV.out]; exact two_le HX.out) fun i hi => HOS.out i (by omega))
          clear hcol hbut hst7 hos hmok hlt5
          go_wp2_with fail
          refine (linAdd_any w4.heap.size (pS p'.2.1 p'.2.2 Xs k) (mulF ms Xk) w7 HSL.out HYL.out HST7.out.sz HST7.out.col HST7.out.m8).mono ?_
          rintro e w8 ⟨hbut, h⟩
          rcases h with ⟨rfl, -, hcol⟩ | ⟨rfl, hno⟩
          · have HST8 : Hid (EvSt w2 p' ov cv (some ⟨bm, om', none⟩) cm w4.heap.size (pS p'.2.1 p'.2.2 Xs (k + 1)) w8) := Lib.hid (by
              have h := HST7.out.add hbut hcol
              rw [pS, HGET.out, hXk]
              exact h)
            clear hbut hcol
            go_wp2_with fail
            exact ⟨⟨k + 1, by omega, by go_num, HST8⟩, by simp only [intOf]; omega⟩
          · exact absurd HOSK.out hno
        · exact absurd hok hno
      · obtain rfl : k = ts.length := by omega
        have hg2 : wr.heap[w.heap.size + 2]? = some (linO 0 0 0 0) := (HST.out.bl.block (w.heap.size + 2) (by have := HZ0.out; omega)).trans ((HB2.out.block (w.heap.size + 2) (by rw [HZ1.out]; omega)).trans HX2.out)
        obtain ⟨e0, e1, e2, e3, e4, f0, f1, f2, f3, f4⟩ := linO_cs hg2
        have s0 := HST.out.col.c 0 (by omega)
        have s1 := HST.out.col.c 1 (by omega)
        have s2 := HST.out.col.c 2 (by omega)
        have s3 := HST.out.col.c 3 (by omega)
        have s4 := HST.out.m8
        have hwr2 := HBW.out wr HST.out.bl
        have HWR := Lib.hid hwr2
        have HG2 := Lib.hid hg2
        clear y0 y1 hwr hwr2 hg2
        go_wp2_with fail
        generalize pS p'.2.1 p'.2.2 Xs ts.length = Y at *
        have hg4 := boxSet (i := 4) (v := Value.map none) (boxSet (i := 3) (v := .int .u64 (Y 3 : Int)) (boxSet (i := 2) (v := .int .u64 (Y 2 : Int)) (boxSet (i := 1) (v := .int .u64 (Y 1 : Int)) (boxSet (i := 0) (v := .int .u64 (Y 0 : Int)) HG2.out))))
        obtain ⟨m0, m1, m2, m3, m4, -⟩ := linO_cs (x0 := Y 0) (x1 := Y 1) (x2 := Y 2) (x3 := Y 3) hg4
        have hle : w.heap.size ≤ w.heap.size + 1 + 1 := by omega
        have bl4 := ((((HWR.out.setCell (p := ⟨w.heap.size + 1 + 1, 0, none⟩) hle (.int .u64 (Y 0 : Int))).setCell (p := ⟨w.heap.size + 1 + 1, 1, none⟩) hle (.int .u64 (Y 1 : Int))).setCell (p := ⟨w.heap.size + 1 + 1, 2, none⟩) hle (.int .u64 (Y 2 : Int))).setCell (p := ⟨w.heap.size + 1 + 1, 3, none⟩) hle (.int .u64 (Y 3 : Int))).setCell (p := ⟨w.heap.size + 1 + 1, 4, none⟩) hle (.map none)
        revert m0 m1 m2 m3 m4 bl4
        simp only [show w.heap.size + 2 = w.heap.size + 1 + 1 from rfl]
        generalize World.setCell _ ⟨w.heap.size + 1 + 1, 4, none⟩ _ = W4
        intro m0 m1 m2 m3 m4 bl4
        refine bodyPost_ret (v := .tuple #[linV (Y 0) (Y 1) (Y 2) (Y 3), .bool true]) (by simp [results, Tryz.f164, go_sem, m0, m1, m2, m3, m4]) rfl ?_
        exact ⟨rfl, bl4⟩
  · exact absurd (hf'.symm.trans HF.out) (by simp)
end Go.Proofs.YtamddagmlanijaaGreat
/- Package matrix: whether all symbols of a term fit. -/
namespace Go.Proofs.YtamddagmlanijaaGreat
open Go.RowKit Go.Shelf

mutual
def fitT (L : List Mx) : Tm → Bool
  | .mk nm vr ts => (vr || fitB L (nm.data.toList, ts.length)) && fitTs L ts
def fitTs (L : List Mx) : List Tm → Bool
  | [] => true
  | t :: r => fitT L t && fitTs L r
end
theorem fitTs_any (L : List Mx) (l : List Tm) : fitTs L l = !(l.any fun u => !fitT L u) := by
  induction l with
  | nil => rfl
  | cons t r ih => rw [fitTs, ih, List.any_cons]; cases fitT L t <;> simp
set_option maxRecDepth 100000 in
set_option maxHeartbeats 2000000 in
theorem idxT_any (k : Nat) (cap : Array Value) (hcf : ∀ args w, (callFunc k args).run Tryz.prog w = .ok (.enter k args) w) (pr : Tm → Bool) (l : List Tm) (v : Value) (w : World) (hl : SlIs w.heap.size w l v) (hll : l.length ≤ 1048576)
    (HC : Hid (∀ x ∈ l, ∀ W s, Below w.heap.size w W → SlIs W.heap.size W x.ts s → Calls Tryz.prog k (#[tmv x s] ++ cap) W fun e w' => e = .returned (.bool (pr x)) ∧ Below W.heap.size W w')) :
    Calls Tryz.prog 255 #[v, .func (.func k) #[] cap] w fun e w' => (∃ i : Int, e = .returned (.int .i64 i) ∧ (0 ≤ i ↔ l.any pr = true)) ∧ Below w.heap.size w w' := by
  obtain ⟨ol, cl, rfl, -⟩ := hl.form
  have HL := Lib.hid hl
  clear hl
  go_enter Tryz.func255, Tryz.ntmps255
  go_wp2_with fail
  go_loopw [8] (fun i wr => ∃ j : Nat, j ≤ l.length ∧ i = .int .i64 j ∧ Hid ((l.take j).any pr = false) ∧ Hid (Below w.heap.size w wr)) (fun i _ => l.length - (intOf i).toNat)
  case atStart => exact ⟨0, by omega, rfl, Lib.hid (by simp), Lib.hid (Below.refl _ _)⟩
  case round =>
    obtain ⟨j, hj, rfl, HN, HBW⟩ := hrel
    by_cases hlt : j < l.length
    · obtain ⟨b1, o1, x, sv, rfl, hb1, hx, hxm, hq, c0, c1, c2⟩ := (HL.out.carry HBW.out HBW.out.size).get hlt
      obtain ⟨ox, cx, rfl, -⟩ := hq.form
      have HX := Lib.hid hx
      have HCU := Lib.hid (HC.out x hxm wr _ HBW.out hq)
      clear hx hq hxm
      go_wp2_with fail
      refine HCU.out.mono ?_
      rintro e w2 ⟨rfl, hb⟩
      have HB2 := Lib.hid (HBW.out.trans (hb.mono HBW.out.size))
      clear hb
      cases hpr : pr x with
      | true =>
        have HY : Hid (l.any pr = true) := Lib.hid (List.any_eq_true.2 ⟨x, List.mem_of_getElem? HX.out, hpr⟩)
        clear hpr
        go_wp2_with fail
        go_ret
        exact ⟨⟨_, rfl, fun _ => HY.out, fun _ => by omega⟩, HB2.out⟩
      | false =>
        have HN2 : Hid ((l.take (j + 1)).any pr = false) := Lib.hid (by rw [List.take_add_one, HX.out, List.any_append, HN.out]; simp [hpr])
        clear hpr
        go_wp2_with fail
        exact ⟨⟨j + 1, by omega, by go_num, HN2, HB2⟩, by simp [intOf]; omega⟩
    · obtain rfl : j = l.length := by omega
      go_wp2_with fail
      go_ret
      have h := HN.out
      rw [List.take_of_length_le (Nat.le_refl _)] at h
      exact ⟨⟨_, rfl, fun h1 => absurd h1 (by decide), fun h1 => by rw [h] at h1; cases h1⟩, HBW.out⟩
set_option maxRecDepth 100000 in
theorem cfT_any (k : Nat) (cap : Array Value) (hcf : ∀ args w, (callFunc k args).run Tryz.prog w = .ok (.enter k args) w) (pr : Tm → Bool) (l : List Tm) (v : Value) (w : World) (hl : SlIs w.heap.size w l v) (hll : l.length ≤ 1048576)
    (HC : Hid (∀ x ∈ l, ∀ W s, Below w.heap.size w W → SlIs W.heap.size W x.ts s → Calls Tryz.prog k (#[tmv x s] ++ cap) W fun e w' => e = .returned (.bool (pr x)) ∧ Below W.heap.size W w')) :
    Calls Tryz.prog 199 #[v, .func (.func k) #[] cap] w fun e w' => e = .returned (.bool (l.any pr)) ∧ Below w.heap.size w w' := by
  have HIN := Lib.hid (idxT_any k cap hcf pr l v w hl hll HC)
  obtain ⟨ol, cl, rfl, -⟩ := hl.form
  clear hl hcf
  go_enter Tryz.func199, Tryz.ntmps199
  go_wp2_with fail
  refine HIN.out.mono ?_
  rintro e w2 ⟨⟨i, rfl, hi⟩, hb⟩
  have HB := Lib.hid hb
  clear hb
  have hb : decide (0 ≤ i) = l.any pr := by
    cases h : l.any pr with
    | true => exact decide_eq_true (hi.2 h)
    | false => exact decide_eq_false fun h1 => by rw [hi.1 h1] at h; cases h
  have HD := Lib.hid hb
  clear hb hi
  go_wp2_with fail
  go_ret
  exact ⟨by rw [← HD.out]; rfl, HB.out⟩
theorem lenB (l : List Tm) : l.length ≤ Tm.bulks l := by
  induction l with
  | nil => simp
  | cons t r ih => have := Tm.bulk_eq t; simp only [Tm.bulks, List.length_cons]; omega
set_option maxRecDepth 100000 in
set_option maxHeartbeats 4000000 in
theorem fitsT_any (d : Nat) (L : List Mx) (hlen : L.length ≤ 1048576) (hn : NmsOk (L.map nmx)) (t : Tm) : ∀ (v s : Value) (w : World), MxsIs w.heap.size w L v → SlIs w.heap.size w t.ts s → t.bulk ≤ 1048576 →
    Calls Tryz.prog 163 #[.agg #[.int .i64 (d : Int), v], tmv t s] w fun e w' => e = .returned (.bool (fitT L t)) ∧ Below w.heap.size w w' := by
  induction t using Tm.ind with
  | h t ih =>
  cases t with
  | mk nm vr ts =>
  intro v s w hL hs hbk
  obtain ⟨oa, cap, rfl⟩ := hL.shape
  obtain ⟨ot, ct, rfl, -⟩ := hs.form
  change Calls Tryz.prog 163 #[.agg #[.int .i64 (d : Int), .slice oa L.length cap], .agg #[.string nm, .bool vr, .slice ot ts.length ct]] w _
  have HEN : Hid (∀ W, Below w.heap.size w W → Calls Tryz.prog 87 #[.agg #[.int .i64 (d : Int), .slice oa L.length cap], .agg #[.string nm, .int .i64 (ts.length : Int)]] W fun e w' => e = .returned (.bool (fitB L (nm.data.toList, (ts.length : Int)))) ∧ Below W.heap.size W w') := Lib.hid fun W hW => by
    have h := mxFits_any d L (nm.data.toList, (ts.length : Int)) (.slice oa L.length cap) W (hL.carry keeps_MxsIs hW hW.size) hlen hn
    rw [kb_key] at h
    exact h
  have hlts : ts.length ≤ 1048576 := by
    have := lenB ts
    rw [Tm.bulk_eq] at hbk
    simp only [Tm.ts] at hbk
    omega
  have hkb : ∀ u ∈ ts, u.bulk ≤ 1048576 := fun u hu => by
    have := Tm.bulk_mem hu
    rw [Tm.bulk_eq] at hbk
    simp only [Tm.ts] at hbk
    omega
  obtain ⟨W1, hW1⟩ : ∃ W1, W1 = (w.alloc (.cells #[.int .i64 (d : Int), .slice oa L.length cap] 146)).alloc (.cells #[.string nm, .bool vr, .slice ot ts.length ct] 25) := ⟨_, rfl⟩
  have hb1 : Below w.heap.size w W1 := by subst hW1; go_grown
  have hx0 : W1.heap[w.heap.size]? = some (.cells #[.int .i64 (d : Int), .slice oa L.length cap] 146 (0, 0)) := by subst hW1; rw [heap_alloc_old' _ _ (by rw [size_alloc']; omega)]; exact heap_alloc_new' _ _ rfl
  have hx1 : W1.heap[w.heap.size + 1]? = some (.cells #[.string nm, .bool vr, .slice ot ts.length ct] 25 (0, 0)) := by subst hW1; exact heap_alloc_new' _ _ (by rw [size_alloc'])
  have hz1 : W1.heap.size = w.heap.size + 2 := by subst hW1; rw [size_alloc', size_alloc']
  have HCF : Hid (∀ W, Below W1.heap.size W1 W → Calls Tryz.prog 199 #[.slice ot ts.length ct, .func (.func 217) #[] #[.pointer (some ⟨w.heap.size, 0, none⟩)]] W fun e w' => e = .returned (.bool (ts.any fun u => !fitT L u)) ∧ Below W.heap.size W w') := Lib.hid fun W hW => by
    have hwW : Below w.heap.size w W := hb1.trans (hW.mono hb1.size)
    refine cfT_any 217 #[.pointer (some ⟨w.heap.size, 0, none⟩)] (fun _ _ => rfl) (fun u => !fitT L u) ts (.slice ot ts.length ct) W (hs.carry hwW hwW.size) hlts (Lib.hid fun u hu W2 s2 hW2 hs2 => ?_)
    have hw2 : Below w.heap.size w W2 := hwW.trans (hW2.mono hwW.size)
    obtain ⟨o2, k2, rfl, -⟩ := hs2.form
    have HIH : Hid (∀ W, Below W2.heap.size W2 W → Calls Tryz.prog 163 #[.agg #[.int .i64 (d : Int), .slice oa L.length cap], .agg #[.string u.nm, .bool u.vr, .slice o2 u.ts.length k2]] W fun e w' => e = .returned (.bool (fitT L u)) ∧ Below W.heap.size W w') := Lib.hid fun W3 hW3 =>
      ih u hu (.slice oa L.length cap) (.slice o2 u.ts.length k2) W3 (hL.carry keeps_MxsIs (hw2.trans (hW3.mono hw2.size)) (Nat.le_trans hw2.size hW3.size)) (hs2.carry hW3 hW3.size) (hkb u hu)
    have hsz := hW.size
    have hsz2 := hW2.size
    have hg : W2.heap[w.heap.size]? = some (.cells #[.int .i64 (d : Int), .slice oa L.length cap] 146 (0, 0)) := (hW2.block _ (by omega)).trans ((hW.block _ (by omega)).trans hx0)
    have hlt : w.heap.size < W2.heap.size := by omega
    have y0 : W2.cell? ⟨w.heap.size, 0, none⟩ = some (.int .i64 (d : Int)) := cells_of' hg 0
    have y1 : W2.cell? ⟨w.heap.size, 1, none⟩ = some (.slice oa L.length cap) := cells_of' hg 1
    have hbu : Below W2.heap.size W2 (W2.alloc (.cells #[.string u.nm, .bool u.vr, .slice o2 u.ts.length k2] 25)) := (Below.refl _ _).alloc (Nat.le_refl _) _
    have HBU := Lib.hid hbu
    have z0 := (hbu.cell (p := ⟨w.heap.size, 0, none⟩) hlt).trans y0
    have z1 := (hbu.cell (p := ⟨w.heap.size, 1, none⟩) hlt).trans y1
    clear ih hL hs hb1 hx0 hx1 hz1 hW hwW hW2 hw2 hs2 hkb hbk HEN hbu hg hsz hsz2 hlts hW1 hlen hn hu
    change Calls Tryz.prog 217 #[.agg #[.string u.nm, .bool u.vr, .slice o2 u.ts.length k2], .pointer (some ⟨w.heap.size, 0, none⟩)] W2 _
    go_enter Tryz.func217, Tryz.ntmps217
    go_wp2_with fail
    refine (HIH.out _ HBU.out).mono ?_
    rintro e w3 ⟨rfl, hb3⟩
    have HB3 := Lib.hid (HBU.out.trans (hb3.mono HBU.out.size))
    clear hb3
    go_wp2_with fail
    go_ret
    exact ⟨rfl, HB3.out⟩
  have HB1 := Lib.hid hb1
  have HX0 := Lib.hid hx0
  have HX1 := Lib.hid hx1
  have HZ1 := Lib.hid hz1
  clear hL hs hb1 hx0 hx1 hz1 ih hbk hkb
  obtain ⟨y0, y1⟩ : W1.cell? ⟨w.heap.size, 0, none⟩ = some (.int .i64 (d : Int)) ∧ W1.cell? ⟨w.heap.size, 1, none⟩ = some (.slice oa L.length cap) := ⟨cells_of' HX0.out 0, cells_of' HX0.out 1⟩
  obtain ⟨z0, z1, z2⟩ : W1.cell? ⟨w.heap.size + 1, 0, none⟩ = some (.string nm) ∧ W1.cell? ⟨w.heap.size + 1, 1, none⟩ = some (.bool vr) ∧ W1.cell? ⟨w.heap.size + 1, 2, none⟩ = some (.slice ot ts.length ct) := ⟨cells_of' HX1.out 0, cells_of' HX1.out 1, cells_of' HX1.out 2⟩
  have HFT : Hid (fitT L (.mk nm vr ts) = ((vr || fitB L (nm.data.toList, (ts.length : Int))) && !(ts.any fun u => !fitT L u))) := Lib.hid (by rw [fitT, fitTs_any])
  rw [hW1] at y0 y1 z0 z1 z2
  cases vr with
  | true =>
    go_enter Tryz.func163, Tryz.ntmps163
    go_wp2_with fail
    rw [← hW1]
    refine (HCF.out W1 (Below.refl _ _)).mono ?_
    rintro e w2 ⟨rfl, hb2⟩
    have HB2 := Lib.hid (HB1.out.trans (hb2.mono HB1.out.size))
    clear hb2
    go_wp2_with fail
    go_ret
    exact ⟨by rw [HFT.out]; rfl, HB2.out⟩
  | false =>
    go_enter Tryz.func163, Tryz.ntmps163
    go_wp2_with fail
    rw [← hW1]
    refine (HEN.out W1 HB1.out).mono ?_
    rintro e w2 ⟨rfl, hb2⟩
    have y2 : w2.cell? ⟨w.heap.size + 1, 2, none⟩ = some (.slice ot ts.length ct) := (hb2.cell (p := ⟨w.heap.size + 1, 2, none⟩) (by rw [HZ1.out]; show w.heap.size + 1 < _; omega)).trans (cells_of' HX1.out 2)
    have HB2 := Lib.hid hb2
    clear hb2 HEN y0 y1 z0 z1 z2
    cases hfb : fitB L (nm.data.toList, (ts.length : Int)) with
    | true =>
      have HFB := Lib.hid hfb
      clear hfb
      go_wp2_with fail
      refine (HCF.out w2 HB2.out).mono ?_
      rintro e w3 ⟨rfl, hb3⟩
      have HB3 := Lib.hid (HB1.out.trans ((HB2.out.trans (hb3.mono HB2.out.size)).mono HB1.out.size))
      clear hb3
      go_wp2_with fail
      go_ret
      exact ⟨by rw [HFT.out, HFB.out]; rfl, HB3.out⟩
    | false =>
      have HFB := Lib.hid hfb
      clear hfb
      go_wp2_with fail
      go_ret
      exact ⟨by rw [HFT.out, HFB.out]; rfl, HB1.out.trans (HB2.out.mono HB1.out.size)⟩
end Go.Proofs.YtamddagmlanijaaGreat
/- Package matrix: the linear function and the value of a ground term. -/
namespace Go.Proofs.YtamddagmlanijaaGreat
open Go.RowKit Go.Shelf

set_option maxRecDepth 100000 in
set_option maxHeartbeats 4000000 in
theorem ofG_any (d : Nat) (L : List Mx) (hlen : L.length ≤ 1048576) (hn : NmsOk (L.map nmx)) {t : Tm} {X : Nat → Nat} (hE : EvG L t X) (hok : t.ok) (hft : fitT L t = true) (hvk : varsK t = []) (hbk : t.bulk ≤ 1048576) (v s : Value) (w : World) (hL : MxsIs w.heap.size w L v) (hs : SlIs w.heap.size w t.ts s) :
    Calls Tryz.prog 95 #[.agg #[.int .i64 (d : Int), v], tmv t s] w fun e w' => (∃ oo cc, e = .returned (.tuple #[linV (X 0) (X 1) (X 2) (X 3), .slice oo 0 cc, .int .i64 0])) ∧ Below w.heap.size w w' := by
  obtain ⟨oa, cap, rfl⟩ := hL.shape
  obtain ⟨ot, ct, rfl, -⟩ := hs.form
  change Calls Tryz.prog 95 #[.agg #[.int .i64 (d : Int), .slice oa L.length cap], .agg #[.string t.nm, .bool t.vr, .slice ot t.ts.length ct]] w _
  have HVS : Hid (∀ W, Below w.heap.size w W → Calls Tryz.prog 136 #[.agg #[.string t.nm, .bool t.vr, .slice ot t.ts.length ct]] W fun e w' => (∃ (oo : Option Addr) (cc : Nat), e = .returned (.tuple #[.slice oo 0 cc, .int .i64 0])) ∧ Below W.heap.size W w') := Lib.hid fun W hW => by
    refine (tvars_any t (.slice ot t.ts.length ct) W (hs.carry hW hW.size) hbk).mono ?_
    rintro e w' ⟨⟨v', c, rfl, h1, h2, -⟩, hb⟩
    obtain rfl : c = 0 := h1.2 hok
    have h3 := h2 rfl
    rw [hvk] at h3
    obtain ⟨oo, cc, rfl, -⟩ := h3
    exact ⟨⟨oo, cc, rfl⟩, hb⟩
  have HFT : Hid (∀ W, Below w.heap.size w W → Calls Tryz.prog 163 #[.agg #[.int .i64 (d : Int), .slice oa L.length cap], .agg #[.string t.nm, .bool t.vr, .slice ot t.ts.length ct]] W fun e w' => e = .returned (.bool true) ∧ Below W.heap.size W w') := Lib.hid fun W hW => by
    have h := fitsT_any d L hlen hn t (.slice oa L.length cap) (.slice ot t.ts.length ct) W (hL.carry keeps_MxsIs hW hW.size) (hs.carry hW hW.size) hbk
    rw [hft] at h
    exact h
  have HEV : Hid (∀ W, Below w.heap.size w W → Calls Tryz.prog 164 #[.agg #[.int .i64 (d : Int), .slice oa L.length cap], .agg #[.string t.nm, .bool t.vr, .slice ot t.ts.length ct]] W fun e w' => e = .returned (.tuple #[linV (X 0) (X 1) (X 2) (X 3), .bool true]) ∧ Below W.heap.size W w') := Lib.hid fun W hW =>
    evalG_any d L hlen hn hE (.slice oa L.length cap) (.slice ot t.ts.length ct) W (hL.carry keeps_MxsIs hW hW.size) (hs.carry hW hW.size)
  clear hL hs hE hok hft hvk
  obtain ⟨W1, hW1⟩ : ∃ W1, W1 = ((w.alloc (.cells #[.int .i64 (d : Int), .slice oa L.length cap] 146)).alloc (.cells #[.string t.nm, .bool t.vr, .slice ot t.ts.length ct] 25)).alloc (.cells #[.int .u64 0, .int .u64 0, .int .u64 0, .int .u64 0, .map none] 157) := ⟨_, rfl⟩
  have hb1 : Below w.heap.size w W1 := by subst hW1; go_grown
  have hx0 : W1.heap[w.heap.size]? = some (.cells #[.int .i64 (d : Int), .slice oa L.length cap] 146 (0, 0)) := by subst hW1; rw [heap_alloc_old' _ _ (by rw [size_alloc', size_alloc']; omega), heap_alloc_old' _ _ (by rw [size_alloc']; omega)]; exact heap_alloc_new' _ _ rfl
  have hx1 : W1.heap[w.heap.size + 1]? = some (.cells #[.string t.nm, .bool t.vr, .slice ot t.ts.length ct] 25 (0, 0)) := by subst hW1; rw [heap_alloc_old' _ _ (by rw [size_alloc', size_alloc']; omega)]; exact heap_alloc_new' _ _ (by rw [size_alloc'])
  have hx2 : W1.heap[w.heap.size + 2]? = some (linO 0 0 0 0) := by subst hW1; exact heap_alloc_new' _ _ (by rw [size_alloc', size_alloc'])
  have hz1 : W1.heap.size = w.heap.size + 3 := by subst hW1; rw [size_alloc', size_alloc', size_alloc']
  have HB1 := Lib.hid hb1
  have HX0 := Lib.hid hx0
  have HX1 := Lib.hid hx1
  have HX2 := Lib.hid hx2
  have HZ1 := Lib.hid hz1
  have HCL : Hid (∀ W, Below W1.heap.size W1 W → W.cell? ⟨w.heap.size, 0, none⟩ = some (.int .i64 (d : Int)) ∧ W.cell? ⟨w.heap.size, 1, none⟩ = some (.slice oa L.length cap) ∧ W.cell? ⟨w.heap.size + 1, 0, none⟩ = some (.string t.nm) ∧ W.cell? ⟨w.heap.size + 1, 1, none⟩ = some (.bool t.vr) ∧ W.cell? ⟨w.heap.size + 1, 2, none⟩ = some (.slice ot t.ts.length ct)) := Lib.hid fun W hW => by
    have e0 := (hW.block w.heap.size (by omega)).trans hx0
    have e1 := (hW.block (w.heap.size + 1) (by omega)).trans hx1
    exact ⟨cells_of' e0 0, cells_of' e0 1, cells_of' e1 0, cells_of' e1 1, cells_of' e1 2⟩
  obtain ⟨y0, y1, z0, z1, z2⟩ := HCL.out W1 (Below.refl _ _)
  clear hb1 hx0 hx1 hx2 hz1
  rw [hW1] at y0 y1 z0 z1 z2
  go_enter Tryz.func95, Tryz.ntmps95
  go_wp2_with fail
  rw [← hW1]
  refine (HVS.out W1 HB1.out).mono ?_
  rintro e w2 ⟨⟨oo, cc, rfl⟩, hb2⟩
  have HB2 := Lib.hid hb2
  clear y0 y1 z0 z1 z2 hb2 hW1
  obtain ⟨y0, y1, z0, z1, z2⟩ := HCL.out w2 HB2.out
  go_wp2_with fail
  refine (HFT.out w2 (HB1.out.trans (HB2.out.mono HB1.out.size))).mono ?_
  rintro e w3 ⟨rfl, hb3⟩
  have HB3 := Lib.hid (HB2.out.trans (hb3.mono HB2.out.size))
  clear y0 y1 z0 z1 z2 hb3
  obtain ⟨y0, y1, z0, z1, z2⟩ := HCL.out w3 HB3.out
  go_wp2_with fail
  refine (HEV.out w3 (HB1.out.trans (HB3.out.mono HB1.out.size))).mono ?_
  rintro e w4 ⟨rfl, hb4⟩
  have HB4 := Lib.hid (HB3.out.trans (hb4.mono HB3.out.size))
  clear y0 y1 z0 z1 z2 hb4
  have hsz4 : w.heap.size + 2 < w4.heap.size := by have := HB4.out.size; have := HZ1.out; omega
  have hg2 : w4.heap[w.heap.size + 2]? = some (linO 0 0 0 0) := (HB4.out.block _ (by rw [HZ1.out]; omega)).trans HX2.out
  obtain ⟨W5, hW5⟩ : ∃ W5, W5 = w4.alloc (.cells #[.int .u64 (X 0 : Int), .int .u64 (X 1 : Int), .int .u64 (X 2 : Int), .int .u64 (X 3 : Int), .map none] 157) := ⟨_, rfl⟩
  have hb5 : Below w4.heap.size w4 W5 := by subst hW5; exact (Below.refl _ _).alloc (Nat.le_refl _) _
  have hg5 : W5.heap[w.heap.size + 2]? = some (linO 0 0 0 0) := (hb5.block _ hsz4).trans hg2
  have hh5 : W5.heap[w4.heap.size]? = some (linO (X 0) (X 1) (X 2) (X 3)) := by subst hW5; exact heap_alloc_new' _ _ rfl
  obtain ⟨e0, e1, e2, e3, e4, f0, f1, f2, f3, f4⟩ := linO_cs hg5
  obtain ⟨s0, s1, s2, s3, s4, -⟩ := linO_cs hh5
  have HB5 := Lib.hid (HB1.out.trans ((HB4.out.trans (hb5.mono HB4.out.size)).mono HB1.out.size))
  have HG5 := Lib.hid hg2
  have HSZ4 := Lib.hid hsz4
  have HW4 : Hid (Below w.heap.size w w4) := Lib.hid (HB1.out.trans (HB4.out.mono HB1.out.size))
  obtain ⟨g0, g1, g2, g3, g4, i0, i1, i2, i3, i4⟩ := linO_cs hg2
  clear hg2 hb5 hg5 hh5
  rw [hW5] at e0 e1 e2 e3 e4 f0 f1 f2 f3 f4 s0 s1 s2 s3 s4
  go_wp2_with fail
  have hle : w.heap.size ≤ w.heap.size + 1 + 1 := by omega
  have hg4 := boxSet (i := 4) (v := Value.map none) (boxSet (i := 3) (v := .int .u64 (X 3 : Int)) (boxSet (i := 2) (v := .int .u64 (X 2 : Int)) (boxSet (i := 1) (v := .int .u64 (X 1 : Int)) (boxSet (i := 0) (v := .int .u64 (X 0 : Int)) HG5.out))))
  have bl4 := ((((HW4.out.setCell (p := ⟨w.heap.size + 1 + 1, 0, none⟩) hle (.int .u64 (X 0 : Int))).setCell (p := ⟨w.heap.size + 1 + 1, 1, none⟩) hle (.int .u64 (X 1 : Int))).setCell (p := ⟨w.heap.size + 1 + 1, 2, none⟩) hle (.int .u64 (X 2 : Int))).setCell (p := ⟨w.heap.size + 1 + 1, 3, none⟩) hle (.int .u64 (X 3 : Int))).setCell (p := ⟨w.heap.size + 1 + 1, 4, none⟩) hle (.map none)
  revert hg4 bl4
  simp only [show w.heap.size + 2 = w.heap.size + 1 + 1 from rfl]
  generalize World.setCell _ ⟨w.heap.size + 1 + 1, 4, none⟩ _ = W6
  intro hg4 bl4
  have bl6 := bl4.alloc bl4.size (.cells #[.int .u64 (X 0 : Int), .int .u64 (X 1 : Int), .int .u64 (X 2 : Int), .int .u64 (X 3 : Int), .map none] 157)
  have hg6 := (heap_alloc_old' W6 (.cells #[.int .u64 (X 0 : Int), .int .u64 (X 1 : Int), .int .u64 (X 2 : Int), .int .u64 (X 3 : Int), .map none] 157) (Array.getElem?_eq_some_iff.1 hg4).1).trans hg4
  obtain ⟨m0, m1, m2, m3, m4, -⟩ := linO_cs (x0 := X 0) (x1 := X 1) (x2 := X 2) (x3 := X 3) hg6
  revert m0 m1 m2 m3 m4 bl6
  generalize World.alloc W6 _ = W7
  intro bl6 m0 m1 m2 m3 m4
  refine bodyPost_ret (v := .tuple #[linV (X 0) (X 1) (X 2) (X 3), .slice oo 0 cc, .int .i64 0]) (by simp [results, Tryz.f95, go_sem, m0, m1, m2, m3, m4]) rfl ?_
  exact ⟨⟨oo, cc, rfl⟩, bl6⟩
end Go.Proofs.YtamddagmlanijaaGreat
/- Package matrix: the elements of a column; the value of a ground term. -/
namespace Go.Proofs.YtamddagmlanijaaGreat
open Go.RowKit Go.Shelf

set_option maxRecDepth 100000 in
set_option maxHeartbeats 4000000 in
theorem elem2_any (X : Nat → Nat) (w : World) :
    Calls Tryz.prog 96 #[colV X, .int .i64 2] w fun e w' => (∃ v, e = .returned v ∧ U64Is w'.heap.size w' [X 0, X 1] v) ∧ Below w.heap.size w w' := by
  obtain ⟨i0, hi, hz0, hz1, hz2⟩ := info_parts infoU64
  obtain ⟨W1, hW1⟩ : ∃ W1, W1 = w.alloc (.cells #[.int .u64 (X 0 : Int), .int .u64 (X 1 : Int), .int .u64 (X 2 : Int), .int .u64 (X 3 : Int)] 154) := ⟨_, rfl⟩
  have hb1 : Below w.heap.size w W1 := by subst hW1; exact (Below.refl _ _).alloc (Nat.le_refl _) _
  have hg1 : W1.heap[w.heap.size]? = some (.cells (colA X) 154) := by subst hW1; exact heap_alloc_new' _ _ rfl
  have HCL := Lib.hid (Tryz.slices_Clone_f165 i0 (.int .u64 0) 1 8 hi hz0 hz1 hz2 rfl (by omega) (fun w => Tryz.sizeOf47 w) w.heap.size 0 2 4 [.int .u64 (X 0 : Int), .int .u64 (X 1 : Int)] W1 (by simp) (by unfold maxLen; omega) (by omega) (by
    intro j u hu
    rw [Nat.zero_add]
    match j with
    | 0 => simp at hu; subst hu; exact cells_of' hg1 0
    | 1 => simp at hu; subst hu; exact cells_of' hg1 1
    | j + 2 => simp at hu) (by intro u hu; simp at hu; rcases hu with rfl | rfl <;> rfl))
  have HB1 := Lib.hid hb1
  clear hb1 hg1 hi hz0 hz1 hz2
  go_enter Tryz.func96, Tryz.ntmps96
  go_wp2_with fail
  rw [← hW1]
  refine HCL.out.mono ?_
  rintro e w2 ⟨v', rfl, hrow, -, hb2⟩
  have HR := Lib.hid hrow
  have HB2 := Lib.hid (HB1.out.trans (hb2.mono HB1.out.size))
  clear hrow hb2
  go_wp2_with fail
  go_ret
  refine ⟨⟨v', rfl, ?_⟩, HB2.out⟩
  have h0 := HR.out
  rcases HR.out.2 with ⟨rfl, hl⟩ | ⟨g, cap, cur, rfl, hb, hg, hle, _⟩
  · cases hl
  · refine ⟨_, cap, rfl, fun _ => ⟨g, 0, rfl, (Array.getElem?_eq_some_iff.1 hg).1, fun i x hx => ?_⟩⟩
    have := h0.cells (g := g) rfl i (.int .u64 (x : Int)) (by
      match i with
      | 0 => simp at hx; subst hx; rfl
      | 1 => simp at hx; subst hx; rfl
      | i + 2 => simp at hx)
    have e : (⟨g, 0, none⟩ : Addr).add i = ⟨g, i, none⟩ := by unfold Addr.add; split <;> simp_all
    rw [Nat.zero_add]
    rw [e] at this
    exact this
end Go.Proofs.YtamddagmlanijaaGreat
