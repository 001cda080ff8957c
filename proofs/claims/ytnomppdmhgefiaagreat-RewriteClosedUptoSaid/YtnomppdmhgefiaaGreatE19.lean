/- Packed: RdE, Atn, Rst, Clo. -/
import Derived.Lib.SmallJoins
import Derived.Test.YtnomppdmhgefiaaGreatE09
import Derived.Test.YtnomppdmhgefiaaGreatE18
import Derived.Test.YtnomppdmhgefiaaGreatE14
/- What an argument reads as: a closure of the law RewriteClosed. -/
namespace Go.Proofs.YtnomppdmhgefiaaGreat
open Go.RowKit Go.ChangeShapes Go.WideShapes Go.ChangeAt Go.Deep Go.Joins

section
variable {H : Type} {enc : TypeId × Value → H} {P : Program} {w : World} (sp : Nat → Bool)
theorem sp_struct4 {t : TypeId} {f0 f1 f2 f3 : Field} (ht : P.underlying t = some (.struct #[f0, f1, f2, f3])) {k : Nat} (h0 : SpAt enc P w sp k f0.type) (h1 : SpAt enc P w sp k f1.type) (h2 : SpAt enc P w sp k f2.type) (h3 : SpAt enc P w sp k f3.type) : SpAt enc P w sp (k + 1) t := by
  intro cs x h hp
  obtain ⟨xs, m, hkk, rfl, hl, hlen, hf⟩ := DataW.trod_struct ht h
  obtain rfl : m = k := by omega
  match xs, hlen with
  | [y0, y1, y2, y3], _ =>
    have g0 := hf 0 f0 rfl
    have g1 := hf 1 f1 rfl
    have g2 := hf 2 f2 rfl
    have g3 := hf 3 f3 rfl
    simp only [List.getElem?_cons_zero, List.getElem?_cons_succ] at g0 g1 g2 g3
    simp only [List.flatMap_cons, List.flatMap_nil, List.append_nil, List.mem_append] at hp
    obtain ⟨m0, k0⟩ := h0 _ _ g0 (fun p hpp => hp p (.inl hpp))
    obtain ⟨m1, k1⟩ := h1 _ _ g1 (fun p hpp => hp p (.inr (.inl hpp)))
    obtain ⟨m2, k2⟩ := h2 _ _ g2 (fun p hpp => hp p (.inr (.inr (.inl hpp))))
    obtain ⟨m3, k3⟩ := h3 _ _ g3 (fun p hpp => hp p (.inr (.inr (.inr hpp))))
    have hq := trod_struct4_mk (enc := enc) ht hl (DataW.trod_le (show m0 ≤ max (max m0 m1) (max m2 m3) by omega) k0) (DataW.trod_le (show m1 ≤ max (max m0 m1) (max m2 m3) by omega) k1) (DataW.trod_le (show m2 ≤ max (max m0 m1) (max m2 m3) by omega) k2) (DataW.trod_le (show m3 ≤ max (max m0 m1) (max m2 m3) by omega) k3)
    exact ⟨_, by rw [hq]; simp⟩
end
theorem cellsClosure : Tryz.prog.cellsOf 31 = 7 := by kernel_rfl
set_option maxRecDepth 100000 in
set_option maxHeartbeats 1000000 in
/-- a position, nil or not -/
theorem pos_openN {H : Type} (enc : TypeId × Value → H) (W : World) (n : Nat) (cs : List Value) (x : DataW H × List MemPlace) (h : DataW.trod enc Tryz.prog W 0 (fun _ => true) true n 26 cs = some x) :
    ∃ (l : List Int) (v : Value), cs = [v] ∧ PosC W.heap.size W l v ∧ l.length ≤ Rows.uptoBulk x.1 ∧ (∀ m k, v = .slice none m k → m = 0 ∧ k = 0) := by
  have h' := h
  obtain ⟨l, v, rfl, h1, h2, h3⟩ := pos_openX enc W n cs x h
  refine ⟨l, v, rfl, ⟨h1, h3⟩, h2, fun m k e => ?_⟩
  subst e
  rcases open_ints Tryz.underlying26 Tryz.underlying3 cellsIntX h' with ⟨e, -⟩ | ⟨a, len, cap, zs, e, -⟩
  · cases e; exact ⟨rfl, rfl⟩
  · cases e
set_option maxRecDepth 100000 in
set_option maxHeartbeats 1000000 in
theorem stepN_open {H : Type} (enc : TypeId × Value → H) (W : World) (n : Nat) (cs : List Value) (x : DataW H × List MemPlace) (h : DataW.trod enc Tryz.prog W 0 (fun _ => true) true n 28 cs = some x) :
    ∃ (rule : Int) (pos : List Int) (pv : Value), cs = [.int .i64 rule, pv] ∧ PosC W.heap.size W pos pv ∧ pos.length ≤ Rows.uptoBulk x.1 ∧ (∀ m k, pv = .slice none m k → m = 0 ∧ k = 0) := by
  obtain ⟨xs, m, rfl, rfl, hl, hlen, hf⟩ := DataW.trod_struct Tryz.underlying28 h
  rw [cellsStep] at hl
  match cs, hl with
  | [a0, a1], _ =>
    match xs, hlen with
    | [y0, y1], _ =>
      have h0 := hf 0 _ rfl
      have h1 := hf 1 _ rfl
      simp only [List.getElem?_cons_zero, List.getElem?_cons_succ] at h0 h1
      obtain ⟨a, ha, rfl, -⟩ := DataW.trod_int Tryz.underlying3 h0
      cases ha
      obtain ⟨pos, pv, e2, hp, kp, hn⟩ := pos_openN enc W m _ _ h1
      cases e2
      refine ⟨a, pos, _, rfl, hp, ?_, hn⟩
      have kp' : pos.length ≤ Rows.uptoBulk y1.1 := kp
      simp only [List.map_cons, List.map_nil, Rows.uptoBulk, Rows.uptoBulkAll]
      omega
set_option maxRecDepth 100000 in
set_option maxHeartbeats 1000000 in
theorem closure_open {H : Type} (enc : TypeId × Value → H) (W : World) (n : Nat) (cs : List Value) (x : DataW H × List MemPlace) (h : DataW.trod enc Tryz.prog W 0 (fun _ => true) true n 31 cs = some x) (hfz : W.noneFrozen x.2) :
    ∃ (rule : Int) (pos : List Int) (pv : Value) (bl : List Bd) (bv : Value) (c : Tm) (cv : Value) (q : List Int) (qv : Value), cs = [.int .i64 rule, pv, bv, .string c.nm, .bool c.vr, cv, qv] ∧ PosC W.heap.size W pos pv ∧ (∀ m k, pv = .slice none m k → m = 0 ∧ k = 0) ∧ BindsIs W.heap.size W bl bv ∧ SlIs W.heap.size W c.ts cv ∧ PosC W.heap.size W q qv ∧ (∀ m k, qv = .slice none m k → m = 0 ∧ k = 0) ∧ pos.length + bdBulk bl + c.bulk + q.length ≤ Rows.uptoBulk x.1 := by
  obtain ⟨xs, m, rfl, rfl, hl, hlen, hf⟩ := DataW.trod_struct Tryz.underlying31 h
  rw [cellsClosure] at hl
  match cs, hl with
  | [v0, v1, v2, v3, v4, v5, v6], _ =>
    match xs, hlen with
    | [y0, y1, y2, y3], _ =>
      have h0 := hf 0 _ rfl
      have h1 := hf 1 _ rfl
      have h2 := hf 2 _ rfl
      have h3 := hf 3 _ rfl
      simp only [List.getElem?_cons_zero, List.getElem?_cons_succ] at h0 h1 h2 h3
      obtain ⟨rule, pos, pv, e0, hp, kp, hpn⟩ := stepN_open enc W m _ _ h0
      obtain ⟨bl, hbl, kb, -⟩ := binds_open enc W m v2 _ h1 (fun b off hp => hfz b off (by simp only [List.flatMap_cons, List.flatMap_nil, List.mem_append]; exact .inr (.inl hp)))
      obtain ⟨c, cv, e1, hc, kc⟩ := term_open enc W m _ _ h2 (fun b off hp => hfz b off (by simp only [List.flatMap_cons, List.flatMap_nil, List.mem_append]; exact .inr (.inr (.inl hp))))
      obtain ⟨q, qv, e2, hq, kq, hqn⟩ := pos_openN enc W m _ _ h3
      cases e0
      cases e1
      cases e2
      have e : Rows.uptoBulk (DataW.agg ([y0, y1, y2, y3].map (·.1))) = Rows.uptoBulk y0.1 + (Rows.uptoBulk y1.1 + (Rows.uptoBulk y2.1 + (Rows.uptoBulk y3.1 + 0))) + 1 := by simp only [List.map_cons, List.map_nil, Rows.uptoBulk, Rows.uptoBulkAll]
      refine ⟨rule, pos, _, bl, _, c, _, q, _, rfl, hp, hpn, hbl, hc, hq, hqn, ?_⟩
      show _ ≤ Rows.uptoBulk (DataW.agg ([y0, y1, y2, y3].map (·.1)))
      rw [e]
      have k0' : pos.length ≤ Rows.uptoBulk y0.1 := kp
      have k1' : bdBulk bl ≤ Rows.uptoBulk y1.1 := kb
      have k2' : c.bulk ≤ Rows.uptoBulk y2.1 := kc
      have k3' : q.length ≤ Rows.uptoBulk y3.1 := kq
      omega
section
variable {H : Type} {enc : TypeId × Value → H} {w : World} (sp : Nat → Bool)
theorem sp_closure (k : Nat) : SpAt enc Tryz.prog w sp k 31 := by
  match k with
  | 0 => exact sp_zero sp _
  | k + 1 => exact sp_struct4 sp Tryz.underlying31 (sp_step sp _) (sp_binds sp _) (sp_term sp _) (sp_intsX sp _)
end
end Go.Proofs.YtnomppdmhgefiaaGreat
/- At of package term: what it hands back lies in new memory. -/
namespace Go.Proofs.YtnomppdmhgefiaaGreat
open Go.RowKit

set_option maxRecDepth 100000 in
set_option maxHeartbeats 1000000 in
theorem at_new (t : Tm) (s : Value) (l : List Int) (v : Value) (w : World) (hs : SlIs w.heap.size w t.ts s) (hl : PosIs w.heap.size w l v) (hll : l.length ≤ 1048576) (hb : t.bulk ≤ 1048576) :
    Calls Tryz.prog 109 #[tmv t s, v] w fun e w' => ∃ u c, TmNew w w' e u c ∧ ((c = 0 ∧ t.ok ∧ t.at l = some u) ∨ (c ≠ 0 ∧ ¬ (t.ok ∧ (t.at l).isSome) ∧ u = Tm.zero)) := by
  obtain ⟨oa, cap, rfl, -⟩ := hs.form
  obtain ⟨oa2, cap2, rfl, -⟩ := hl.form
  have HB := Lib.hid hb
  clear hb
  go_enter Tryz.func109, Tryz.ntmps109
  rw [show tmv t (.slice oa t.ts.length cap) = .agg #[.string t.nm, .bool t.vr, .slice oa t.ts.length cap] from rfl]
  go_wp2_with (
    go_at_call 76
    refine (check_any t _ _ (hs.carry (by go_grown) (by simp; omega)) HB.out).mono ?_
    rintro e w1 ⟨⟨c, rfl, hc⟩, hb1⟩
    have hr := (hb1.block (w.heap.size + 1) (by simp)).trans (heap_new_at _ _ _ (by simp))
    have ht := (hb1.block w.heap.size (by simp; omega)).trans ((Below.heap_alloc _ _ _ (by simp)).trans (heap_new_at _ _ _ rfl))
    have hbw := (show Below w.heap.size w ((w.alloc (.cells #[.string t.nm, .bool t.vr, .slice oa t.ts.length cap] 25)).alloc (.cells #[.string ⟨#[]⟩, .bool false, .slice none 0 0] 25)) from by go_grown).trans (hb1.mono (by simp; omega))
    have hz1 := hb1.size
    simp only [World.size_alloc] at hz1
    obtain ⟨⟨r0, r1, r2⟩, f0, f1, f2⟩ := box3 hr
    obtain ⟨⟨t0, t1, t2⟩, -⟩ := box3 ht
    have HR := Lib.hid hr
    have HC := Lib.hid hc
    have HB1 := Lib.hid hb1
    have HBW := Lib.hid hbw
    clear hr ht hc hb1 hbw)
  · have hq := box3_set HR.out (.string ⟨#[]⟩) (.bool false) (.slice none 0 0)
    obtain ⟨⟨q0, q1, q2⟩, -⟩ := box3 hq
    refine bodyPost_ret (v := .tuple #[tmv Tm.zero (.slice none 0 0), .int .i64 c]) (by simp [results, Tryz.f109, go_sem, q0, q1, q2, tmv, Tm.nm, Tm.vr]) rfl ?_
    have hc0 : c ≠ 0 := by simpa using (show (c != 0) = true by assumption)
    exact ⟨_, c, ⟨⟨_, rfl, .nil0⟩, below_set3 HBW.out (by omega) _ _ _⟩, .inr ⟨hc0, fun h => hc0 (HC.out.2 h.1), rfl⟩⟩
  · have hc0 : c = 0 := by simpa using (show (c != 0) = false by assumption)
    subst hc0
    have HOK := Lib.hid (HC.out.1 rfl)
    have HL := Lib.hid (hl.carry HBW.out HBW.out.size)
    have HS := Lib.hid (hs.carry HBW.out HBW.out.size)
    cases hat : t.at l with
    | none =>
      have HAT := Lib.hid hat
      clear hat
      go_wp2_with (
        go_at_call 172
        refine (locate_any t w.heap.size 0 w1.heap.size l _ w1 ⟨⟨_, t0, t1, t2, HS.out⟩⟩ HL.out hll HB.out).mono ?_
        rintro e w2 ⟨hcase, rfl⟩
        obtain rfl : e = .returned (.pointer none) := by
          rcases hcase with ⟨u, b', o', -, hu, -⟩ | ⟨h, -⟩
          · rw [HAT.out] at hu; cases hu
          · exact h
        clear hcase)
      have hq := box3_set HR.out (.string ⟨#[]⟩) (.bool false) (.slice none 0 0)
      obtain ⟨⟨q0, q1, q2⟩, -⟩ := box3 hq
      refine bodyPost_ret (v := .tuple #[tmv Tm.zero (.slice none 0 0), .int .i64 8]) (by simp [results, Tryz.f109, go_sem, q0, q1, q2, tmv, Tm.nm, Tm.vr]) rfl ?_
      exact ⟨_, 8, ⟨⟨_, rfl, .nil0⟩, below_set3 HBW.out (by omega) _ _ _⟩, .inr ⟨by decide, fun h => by rw [HAT.out] at h; exact absurd h.2 (by simp), rfl⟩⟩
    | some u =>
      have HAT := Lib.hid hat
      have HUB := Lib.hid (Nat.le_trans (Tm.at_bulk hat) HB.out)
      clear hat
      go_wp2_with (
        go_at_call 172
        refine (locate_any t w.heap.size 0 w1.heap.size l _ w1 ⟨⟨_, t0, t1, t2, HS.out⟩⟩ HL.out hll HB.out).mono ?_
        rintro e w2 ⟨hcase, rfl⟩
        obtain ⟨b', o', rfl, HLOC⟩ : ∃ b' o', e = .returned (.pointer (some ⟨b', o', none⟩)) ∧ Hid (Loc w2.heap.size w2 u b' o') := by
          rcases hcase with ⟨u', b', o', he, hu, hloc, -⟩ | ⟨-, h⟩
          · rw [HAT.out] at hu; cases hu; exact ⟨b', o', he, Lib.hid hloc⟩
          · rw [HAT.out] at h; cases h
        clear hcase
        obtain ⟨s2, d0, d1, d2, hs2⟩ := HLOC.out.cells
        obtain ⟨oa3, cap3, rfl, -⟩ := hs2.form
        have HS2 := Lib.hid hs2
        clear hs2)
      refine (clone_any u _ _ HS2.out HUB.out (HOK.out.1.at HAT.out).bare).mono ?_
      rintro e w3 ⟨⟨sl, fp, rfl, ho, -, hf⟩, hb3⟩
      obtain ⟨oa4, n4, c4, rfl⟩ := ho.form
      have hr3 := (hb3.block (w.heap.size + 1) (by omega)).trans HR.out
      obtain ⟨⟨r0, r1, r2⟩, f0, f1, f2⟩ := box3 hr3
      have HR3 := Lib.hid hr3
      have HO := Lib.hid ho
      have HF := Lib.hid hf
      have HB3 := Lib.hid hb3
      clear hr3 ho hf hb3 t0 t1 t2 d0 d1 d2
      dsimp only [tmv]
      go_wp2_with fail
      have hq := box3_set HR3.out (.string u.nm) (.bool u.vr) (.slice oa4 n4 c4)
      obtain ⟨⟨q0, q1, q2⟩, -⟩ := box3 hq
      refine bodyPost_ret (v := .tuple #[tmv u (.slice oa4 n4 c4), .int .i64 0]) (by simp [results, Tryz.f109, go_sem, q0, q1, q2, tmv]) rfl ?_
      have hz3 := HB3.out.size
      refine ⟨_, 0, ⟨⟨_, rfl, ?_⟩, below_set3 (HBW.out.trans (HB3.out.mono (by omega))) (by omega) _ _ _⟩, .inl ⟨rfl, HOK.out, HAT.out⟩⟩
      have ho' := HO.out.carry (B := ((w3.setCell ⟨w.heap.size + 1, 0, none⟩ (.string u.nm)).setCell ⟨w.heap.size + 1, 1, none⟩ (.bool u.vr)).setCell ⟨w.heap.size + 1, 2, none⟩ (.slice oa4 n4 c4)) fun k hk => heap_set3 _ _ _ _ _ _ (by have := HF.out k hk; omega)
      exact ho'.isP fun k hk => ⟨by have := HF.out k hk; have := HBW.out.size; omega, ho'.lt k hk⟩
end Go.Proofs.YtnomppdmhgefiaaGreat
/- rewrite's clone, check and Step. -/
namespace Go.Proofs.YtnomppdmhgefiaaGreat
open Go.RowKit Go.Shelf Go.Maps

set_option maxRecDepth 100000 in
set_option maxHeartbeats 1000000 in
theorem rwclone_any (t : Tm) (s : Value) (w : World) (hs : SlIs w.heap.size w t.ts s) (hb : t.bulk ≤ 1048576) :
    Calls Tryz.prog 47 #[tmv t s] w fun e w' => (∃ u su, e = .returned (tmv u su) ∧ SlP (fun b => w.heap.size ≤ b ∧ b < w'.heap.size) w' u.ts su ∧ (t.ok → u = t) ∧ (¬ t.ok → u = Tm.zero)) ∧ Below w.heap.size w w' := by
  obtain ⟨oa, cap, rfl, -⟩ := hs.form
  have hba : Below w.heap.size w ((w.alloc (.cells #[.string t.nm, .bool t.vr, .slice oa t.ts.length cap] 25)).alloc (.cells #[.string ⟨#[]⟩, .bool false, .slice none 0 0] 25)) := by go_grown
  have HAT := Lib.hid (at_new t (.slice oa t.ts.length cap) [] (.slice none 0 0) _ (hs.carry hba hba.size) ⟨⟨none, 0, rfl, fun h => absurd rfl h⟩⟩ (by simp) hb)
  have HBA := Lib.hid hba
  clear hs hba
  rw [show tmv t (.slice oa t.ts.length cap) = .agg #[.string t.nm, .bool t.vr, .slice oa t.ts.length cap] from rfl] at HAT ⊢
  go_enter Tryz.func47, Tryz.ntmps47
  go_wp2_with fail
  refine HAT.out.mono ?_
  rintro e w1 ⟨u, c, ⟨⟨su, rfl, hsu⟩, hb1⟩, hc⟩
  obtain ⟨ou, cu, rfl⟩ := hsu.form
  dsimp only [tmv]
  have hr := (hb1.block (w.heap.size + 1) (by simp)).trans (heap_new_at _ (.cells #[.string ⟨#[]⟩, .bool false, .slice none 0 0] 25) _ (by simp))
  have hr2 := (Below.heap_alloc w1 (.cells #[.string u.nm, .bool u.vr, .slice ou u.ts.length cu] 25) (w.heap.size + 1) (Array.getElem?_eq_some_iff.1 hr).1).trans hr
  obtain ⟨⟨r0, r1, r2⟩, f0, f1, f2⟩ := box3 hr2
  have HR := Lib.hid hr2
  have HSU := Lib.hid hsu
  have HB1 := Lib.hid (HBA.out.trans (hb1.mono (by simp; omega)))
  have HC := Lib.hid hc
  have hz1 := hb1.size
  clear hr hr2 hsu hb1 hc HAT
  go_wp2_with fail
  obtain ⟨⟨q0, q1, q2⟩, -⟩ := box3 (box3_set HR.out (.string u.nm) (.bool u.vr) (.slice ou u.ts.length cu))
  refine bodyPost_ret (v := .agg #[.string u.nm, .bool u.vr, .slice ou u.ts.length cu]) (by simp [results, Tryz.f47, go_sem, q0, q1, q2]) rfl ?_
  refine ⟨⟨u, .slice ou u.ts.length cu, rfl, ?_, ?_, ?_⟩, below_set3 (HB1.out.trans (show Below w.heap.size w1 _ from by have := HB1.out.size; go_grown)) (by omega) _ _ _⟩
  · exact HSU.out.carry fun b hb => ⟨(heap_set3 _ _ _ _ _ _ (by have := hb.1; simp at this; omega)).trans (Below.heap_alloc _ _ _ hb.2), by have := hb.1; simp at this; omega, by have := hb.2; simp [World.setCell]; omega⟩
  · intro hok
    rcases HC.out with ⟨-, -, h⟩ | ⟨-, h, -⟩
    · exact (Option.some.inj h).symm
    · exact absurd ⟨hok, rfl⟩ h
  · intro hok
    rcases HC.out with ⟨-, h, -⟩ | ⟨-, -, h⟩
    · exact absurd h hok
    · exact h
set_option maxRecDepth 100000 in
set_option maxHeartbeats 1000000 in
theorem rwcheck_any (L : List RlV) (rv : Value) (t : Tm) (s : Value) (w : World) (hr : RulV w.heap.size w L rv) (hs : SlIs w.heap.size w t.ts s) (hl : L.length ≤ 1048576) (hlb : ∀ x ∈ sidesV L, x.1.bulk ≤ 1048576) (hb : t.bulk ≤ 1048576) :
    Calls Tryz.prog 45 #[rv, tmv t s] w fun e w' => (∃ c : Int, e = .returned (.int .i64 c) ∧ (c = 0 ↔ SysOk L ∧ t.ok)) ∧ Below w.heap.size w w' := by
  obtain ⟨oa, cap, rfl, -⟩ := hs.form
  obtain ⟨ol, cl, rfl⟩ := hr.shape
  have HS := Lib.hid hs
  have hba : Below w.heap.size w (w.alloc (.cells #[.string t.nm, .bool t.vr, .slice oa t.ts.length cap] 25)) := by go_grown
  have HCS := Lib.hid (tcheckSystem_any L (.slice ol L.length cl) _ (hr.carry hba hba.size) hl hlb)
  have HBA := Lib.hid hba
  clear hs hr hlb hba
  rw [show tmv t (.slice oa t.ts.length cap) = .agg #[.string t.nm, .bool t.vr, .slice oa t.ts.length cap] from rfl]
  go_enter Tryz.func45, Tryz.ntmps45
  go_wp2_with fail
  refine HCS.out.mono ?_
  rintro e w1 ⟨⟨c, rfl, hc⟩, hb1⟩
  have htb := (hb1.block w.heap.size (by simp)).trans (heap_new_at w (.cells #[.string t.nm, .bool t.vr, .slice oa t.ts.length cap] 25) _ rfl)
  obtain ⟨⟨t0, t1, t2⟩, -⟩ := box3 htb
  have HB1 := Lib.hid (HBA.out.trans (hb1.mono (by simp)))
  have HC := Lib.hid hc
  clear htb hb1 hc HCS
  by_cases hc0 : c = 0
  · subst hc0
    have HSY := Lib.hid (HC.out.1 rfl)
    have HCK := Lib.hid (check_any t (.slice oa t.ts.length cap) w1 (HS.out.carry HB1.out HB1.out.size) hb)
    go_wp2_with fail
    refine HCK.out.mono ?_
    rintro e w2 ⟨⟨c2, rfl, hc2⟩, hb2⟩
    have HC2 := Lib.hid hc2
    have HB2 := Lib.hid (HB1.out.trans (hb2.mono HB1.out.size))
    clear hc2 hb2
    go_wp2_with fail
    go_ret
    exact ⟨⟨c2, rfl, fun h => ⟨HSY.out, HC2.out.1 h⟩, fun h => HC2.out.2 h.2⟩, HB2.out⟩
  · have hcb : (c != 0) = true := by simpa using hc0
    have HC0 := Lib.hid hc0
    clear hc0
    go_wp2_with fail
    go_ret
    exact ⟨⟨c, rfl, fun h => absurd h HC0.out, fun h => absurd (HC.out.2 h.1) HC0.out⟩, HB1.out⟩
theorem Tm.put_get {t : Tm} {l : List Int} (h : (t.at l).isSome) (u : Tm) : (t.put l u).at l = some u := by
  induction l generalizing t with
  | nil => rfl
  | cons i l ih =>
    simp only [Tm.at] at h
    split at h
    · rename_i x hx
      simp only [Tm.put, hx, Tm.at]
      have hk : (Tm.mk t.nm t.vr (t.ts.set i.toNat (x.put l u))).kid i = some (x.put l u) := by
        unfold Tm.kid at hx ⊢
        split at hx
        · rename_i h0
          rw [if_pos h0]
          exact List.getElem?_set_self (List.getElem?_eq_some_iff.1 hx).1
        · cases hx
      rw [hk]
      exact ih h
    · cases h
/-- the result of a step, whatever its size -/
noncomputable def stepR (L : List RlV) (t : Tm) (rule : Int) (pos : List Int) : Option Tm := (stepM L t rule pos).map fun q => t.put pos (apB q.1 q.2.2.1)
/-- how Step answers -/
structure StepPost (L : List RlV) (t : Tm) (rule : Int) (pos : List Int) (u : Tm) (c : Int) : Prop where
  zero : c = 0 → SysOk L ∧ t.ok ∧ u.ok ∧ stepR L t rule pos = some u
  none_ : c ≠ 0 → u = Tm.zero
  yes : SysOk L → t.ok → ∀ r, stepR L t rule pos = some r → r.size ≤ 4000 → r.depth ≤ 200 → c = 0
  big : SysOk L → t.ok → ∀ r, stepR L t rule pos = some r → ¬ (r.size ≤ 4000 ∧ r.depth ≤ 200) → c = 3
theorem stepR_formed {L : List RlV} {t : Tm} {rule : Int} {pos : List Int} {r : Tm} (h : stepR L t rule pos = some r) (hL : SysOk L) (ht : t.ok) : r.formed := by
  unfold stepR at h
  obtain ⟨⟨b, p⟩, hs, rfl⟩ := Option.map_eq_some_iff.1 h
  obtain ⟨h1, h2, -⟩ := stepM_sub hs hL ht
  exact Tm.put_formed ht.1 (apB_formed (fun q hq => (h1.terms q hq).1) (hL.2.1 _ (sidesV_mem h2).2).1) pos
/-- from perform's answer to Step's -/
theorem pf_step {L : List RlV} {t : Tm} {rule : Int} {pos : List Int} (hL : SysOk L) (ht : t.ok) {w : World} {e : Ending} (h : PfPost (pfRun L t t 0 [(rule, pos)]) w e) :
    ∃ u c, (∃ su, e = .returned (.tuple #[tmv u su, .int .i64 c]) ∧ SlIs w.heap.size w u.ts su) ∧ StepPost L t rule pos u c := by
  simp only [pfRun] at h
  cases hs : stepM L t rule pos with
  | none =>
    rw [hs] at h
    obtain ⟨c, hc, he⟩ := h
    have hr : stepR L t rule pos = none := by unfold stepR; rw [hs]; rfl
    exact ⟨Tm.zero, c, ⟨_, he, .nil0⟩, ⟨fun h => absurd h hc, fun _ => rfl, fun _ _ r h => (by rw [hr] at h; cases h), fun _ _ r h => (by rw [hr] at h; cases h)⟩⟩
  | some q =>
    obtain ⟨b, p⟩ := q
    rw [hs] at h
    have hr : stepR L t rule pos = some (t.put pos (apB b p.2.1)) := by unfold stepR; rw [hs]; rfl
    have hf := stepR_formed hr hL ht
    obtain ⟨-, -, x, hx, -⟩ := stepM_sub hs hL ht
    have hat := Tm.put_get (u := apB b p.2.1) (show (t.at pos).isSome by rw [hx]; rfl)
    have hle := Tm.atSize hat
    simp only at h
    by_cases hsm : (apB b p.2.1).small ∧ 0 + (apB b p.2.1).size ≤ 4000
    · rw [if_pos hsm] at h
      rcases h with ⟨hok, sr, he, hsr⟩ | ⟨hno, c, hc, hc3, he⟩
      · exact ⟨_, 0, ⟨sr, he, hsr⟩, ⟨fun _ => ⟨hL, ht, hok, hr⟩, fun h => absurd rfl h, fun _ _ _ _ _ _ => rfl, fun _ _ r h hn => (by rw [hr] at h; cases h; exact absurd hok.2 hn)⟩⟩
      · exact ⟨Tm.zero, c, ⟨_, he, .nil0⟩, ⟨fun h => absurd h hc, fun _ => rfl, fun _ _ r h h1 h2 => (by rw [hr] at h; cases h; exact absurd ⟨hf, h1, h2⟩ hno), fun _ _ r h _ => hc3 hf⟩⟩
    · rw [if_neg hsm] at h
      exact ⟨Tm.zero, 3, ⟨_, h, .nil0⟩, ⟨fun h => by omega, fun _ => rfl, fun _ _ r h h1 h2 => (by
        rw [hr] at h; cases h
        exact absurd ⟨⟨by omega, by omega⟩, by omega⟩ hsm), fun _ _ _ _ _ => rfl⟩⟩

set_option maxRecDepth 100000 in
set_option maxHeartbeats 4000000 in
theorem rwstep_any (L : List RlV) (rv : Value) (t : Tm) (s : Value) (rule : Int) (pos : List Int) (pv : Value) (w : World) (hr : RulV w.heap.size w L rv) (hs : SlIs w.heap.size w t.ts s) (hp : PosC w.heap.size w pos pv)
    (hl : L.length ≤ 1048576) (hlb : ∀ x ∈ sidesV L, x.1.bulk ≤ 1048576) (hb : t.bulk ≤ 1048576) (hpl : pos.length ≤ 1048576) :
    Calls Tryz.prog 11 #[rv, tmv t s, .agg #[.int .i64 rule, pv]] w fun e w' => ∃ u c, TmNum w w' e u c ∧ StepPost L t rule pos u c := by
  obtain ⟨oa, cap, rfl, -⟩ := hs.form
  obtain ⟨ol, cl, rfl⟩ := hr.shape
  obtain ⟨op, cp, rfl, -⟩ := hp.1.form
  have HR := Lib.hid hr
  have HS := Lib.hid hs
  have HP := Lib.hid hp
  have HLB := Lib.hid hlb
  clear hr hs hp hlb
  rw [show tmv t (.slice oa t.ts.length cap) = .agg #[.string t.nm, .bool t.vr, .slice oa t.ts.length cap] from rfl]
  have hba : Below w.heap.size w (((w.alloc (.cells #[.string t.nm, .bool t.vr, .slice oa t.ts.length cap] 25)).alloc (.cells #[.int .i64 rule, .slice op pos.length cp] 28)).alloc (.cells #[.string ⟨#[]⟩, .bool false, .slice none 0 0] 25)) := by go_grown
  have HCK := Lib.hid (rwcheck_any L (.slice ol L.length cl) t (.slice oa t.ts.length cap) _ (HR.out.carry hba hba.size) (HS.out.carry hba hba.size) hl HLB.out hb)
  have HBA := Lib.hid hba
  clear hba
  go_enter Tryz.func11, Tryz.ntmps11
  go_wp2_with fail
  refine HCK.out.mono ?_
  rintro e w1 ⟨⟨c, rfl, hc⟩, hb1⟩
  have hr1 := (hb1.block (w.heap.size + 1 + 1) (by simp)).trans (heap_new_at _ (.cells #[.string ⟨#[]⟩, .bool false, .slice none 0 0] 25) _ (by simp))
  have hs1 := (hb1.block (w.heap.size + 1) (by simp <;> omega)).trans ((Below.heap_alloc _ _ _ (by simp <;> omega)).trans (heap_new_at _ (.cells #[.int .i64 rule, .slice op pos.length cp] 28) _ (by simp)))
  have ht1 := (hb1.block w.heap.size (by simp <;> omega)).trans ((Below.heap_alloc _ _ _ (by simp <;> omega)).trans ((Below.heap_alloc _ _ _ (by simp <;> omega)).trans (heap_new_at w (.cells #[.string t.nm, .bool t.vr, .slice oa t.ts.length cap] 25) _ rfl)))
  have HR1 := Lib.hid hr1
  have HB1 := Lib.hid (HBA.out.trans (hb1.mono (by simp; omega)))
  have hz1 := hb1.size
  simp only [World.size_alloc] at hz1
  obtain ⟨⟨r0, r1, r2⟩, f0, f1, f2⟩ := box3 hr1
  obtain ⟨⟨s0, s1⟩, -⟩ := box2g hs1
  obtain ⟨⟨t0, t1, t2⟩, -⟩ := box3 ht1
  have HS1 := Lib.hid hs1
  have HT1 := Lib.hid ht1
  have HC := Lib.hid hc
  clear hr1 hs1 ht1 hb1 hc HCK
  by_cases hc0 : c = 0
  · subst hc0
    have HOK := Lib.hid (HC.out.1 rfl)
    clear r0 r1 r2 f0 f1 f2
    have hbx : Below w1.heap.size w1 (w1.alloc (.cells #[.int .i64 rule, .slice op pos.length cp] 28)) := by go_grown
    have hbw := HB1.out.trans (hbx.mono HB1.out.size)
    have hnew := heap_new_at w1 (.cells #[.int .i64 rule, .slice op pos.length cp] 28) w1.heap.size rfl
    have HPF := Lib.hid (perform_any L (.slice ol L.length cl) t (.slice oa t.ts.length cap) [(rule, pos)] (.slice (some ⟨w1.heap.size, 0, none⟩) 1 1) _ (HR.out.carry hbw hbw.size) (HS.out.carry hbw hbw.size)
      ⟨some ⟨w1.heap.size, 0, none⟩, 1, rfl, by simp, fun _ => ⟨w1.heap.size, 0, rfl, by simp, fun i p hp => by
        cases i with
        | zero =>
          simp only [List.getElem?_cons_zero, Option.some.injEq] at hp
          subst hp
          exact ⟨.slice op pos.length cp, (box2g hnew).1.1, (box2g hnew).1.2, HP.out.carry hbw hbw.size, hpl⟩
        | succ i => simp at hp⟩⟩ HOK.out.1 HOK.out.2 HLB.out (by simp) (fun b p hst => ⟨by obtain ⟨k, x, m, -, -, hx, -, -⟩ := stepM_some hst; simp only at hx; rw [hx]; rfl, trivial⟩))
    have HBX := Lib.hid hbx
    clear hbx hbw hnew
    go_wp2_with fail
    refine HPF.out.mono ?_
    rintro e w2 ⟨hpost, hb2⟩
    obtain ⟨u, c, ⟨su, rfl, hsu⟩, hstep⟩ := pf_step HOK.out.1 HOK.out.2 hpost
    obtain ⟨ou, cu, rfl, -⟩ := hsu.form
    dsimp only [tmv]
    have HB2 := Lib.hid (HBX.out.trans (hb2.mono HBX.out.size))
    have HSU := Lib.hid hsu
    have HST := Lib.hid hstep
    clear hb2 hsu hstep hpost HPF s0 s1 t0 t1 t2
    have hub : u.bulk ≤ 1048576 := by
      by_cases h : c = 0
      · have := (HST.out.zero h).2.2.1.bulk; omega
      · rw [HST.out.none_ h]; decide
    have hbx2 : Below w2.heap.size w2 (w2.alloc (.cells #[.string u.nm, .bool u.vr, .slice ou u.ts.length cu] 25)) := by go_grown
    have HCL := fun W (hW : Below w2.heap.size w2 W) => Lib.hid (rwclone_any u (.slice ou u.ts.length cu) W (HSU.out.carry hW hW.size) hub)
    have HBX2 := Lib.hid hbx2
    have hr2 := (HB2.out.block (w.heap.size + 1 + 1) (Array.getElem?_eq_some_iff.1 HR1.out).1).trans HR1.out
    have HR2 := Lib.hid hr2
    have hlt1 := (Array.getElem?_eq_some_iff.1 HR1.out).1
    have hz2 := HB2.out.size
    clear hbx2 hr2
    go_wp2_with fail
    refine (HCL _ HBX2.out).out.mono ?_
    rintro e w3 ⟨⟨u', su', rfl, hsu', hy, hn⟩, hb3⟩
    obtain rfl : u' = u := by
      by_cases ho : u.ok
      · exact hy ho
      · rw [hn ho, HST.out.none_ fun h => ho (HST.out.zero h).2.2.1]
    obtain ⟨ou', cu', rfl⟩ := hsu'.form
    dsimp only [tmv]
    have hb23 := HBX2.out.trans (hb3.mono HBX2.out.size)
    have hr3 := (hb23.block (w.heap.size + 1 + 1) (by omega)).trans HR2.out
    obtain ⟨⟨r0, r1, r2⟩, f0, f1, f2⟩ := box3 hr3
    have HR3 := Lib.hid hr3
    have HSU3 := Lib.hid hsu'
    have HB3 := Lib.hid (HB1.out.trans ((HB2.out.trans (hb23.mono HB2.out.size)).mono HB1.out.size))
    clear hb23 hr3 hsu' hy hn hb3
    go_wp2_with fail
    obtain ⟨⟨q0, q1, q2⟩, -⟩ := box3 (box3_set HR3.out (.string u'.nm) (.bool u'.vr) (.slice ou' u'.ts.length cu'))
    refine bodyPost_ret (v := .tuple #[.agg #[.string u'.nm, .bool u'.vr, .slice ou' u'.ts.length cu'], .int .i64 c]) (by simp [results, Tryz.f11, go_sem, q0, q1, q2]) rfl ?_
    refine ⟨u', c, ⟨⟨.slice ou' u'.ts.length cu', rfl, ?_⟩, below_set3 HB3.out (by omega) _ _ _⟩, HST.out⟩
    exact (HSU3.out.carry (q := fun b => b < w3.heap.size) fun b hb => ⟨heap_set3 _ _ _ _ _ _ (by have := hb.1; simp at this; omega), hb.2⟩).toIs fun b hb => by simpa [World.setCell] using hb
  · have hcb : (c != 0) = true := by simpa using hc0
    have HC0 := Lib.hid hc0
    clear hc0
    go_wp2_with fail
    obtain ⟨⟨q0, q1, q2⟩, -⟩ := box3 (box3_set HR1.out (.string ⟨#[]⟩) (.bool false) (.slice none 0 0))
    refine bodyPost_ret (v := .tuple #[.agg #[.string ⟨#[]⟩, .bool false, .slice none 0 0], .int .i64 c]) (by simp [results, Tryz.f11, go_sem, q0, q1, q2]) rfl ?_
    exact ⟨Tm.zero, c, ⟨⟨_, rfl, .nil0⟩, below_set3 HB1.out (by omega) _ _ _⟩, ⟨fun h => absurd h HC0.out, fun _ => rfl, fun h1 h2 _ _ _ _ => HC.out.2 ⟨h1, h2⟩, fun h1 h2 _ _ _ => absurd (HC.out.2 ⟨h1, h2⟩) HC0.out⟩⟩
end Go.Proofs.YtnomppdmhgefiaaGreat
/- Steps are closed under substitutions and contexts: plain facts. -/
namespace Go.Proofs.YtnomppdmhgefiaaGreat
open Go.RowKit

theorem anyN (f : View → Bool) (hf : ∀ (d : Nat) (v : View), f (d, v.2) = f v) (t : Tm) : ∀ d, (t.nodes d).any f = (f (1, t.nm, t.vr, t.ts.length) || t.ts.any (fun u => (u.nodes 1).any f)) := by
  induction t using Tm.ind with
  | h t ih =>
    intro d
    rw [Tm.nodes_eq, List.any_cons]
    have h1 : f (d, t.nm, t.vr, t.ts.length) = f (1, t.nm, t.vr, t.ts.length) := (hf d (1, t.nm, t.vr, t.ts.length))
    rw [h1]
    congr 1
    have key : ∀ (l : List Tm) (d : Nat), (∀ u ∈ l, u ∈ t.ts) → (Tm.nodesL d l).any f = l.any (fun u => (u.nodes 1).any f) := by
      intro l
      induction l with
      | nil => intro d _; rfl
      | cons u l ihl =>
        intro d hl
        rw [Tm.nodesL, List.any_append, List.any_cons, ihl d fun y hy => hl y (by simp [hy]), ih u (hl u (by simp)) d, ih u (hl u (by simp)) 1]
    exact key t.ts (d + 1) fun _ h => h
theorem hasVar_eq (t : Tm) (k : Key) : hasVar t k = ((t.vr && decide (t.nm.data.toList = k)) || t.ts.any (fun u => hasVar u k)) := anyN _ (fun _ _ => rfl) t 1
theorem vin_hasVar {K : List Key} {t : Tm} (h : ∀ k, hasVar t k = true → k ∈ K) : t.vin K := by
  induction t using Tm.ind with
  | h t ih =>
    refine .mk t (fun hv => h _ ?_) fun u hu => ih u hu fun k hk => h k ?_
    · rw [hasVar_eq, hv]; simp
    · rw [hasVar_eq, Bool.or_eq_true]; exact .inr (List.any_eq_true.2 ⟨u, hu, hk⟩)
theorem hasVar_vin {K : List Key} {t : Tm} (h : t.vin K) {k : Key} (hk : hasVar t k = true) : k ∈ K := by
  induction t using Tm.ind with
  | h t ih =>
    rw [hasVar_eq, Bool.or_eq_true, Bool.and_eq_true, decide_eq_true_eq] at hk
    rcases hk with ⟨hv, e⟩ | hk
    · rw [← e]; exact h.var hv
    · obtain ⟨u, hu, hku⟩ := List.any_eq_true.1 hk
      exact ih u hu (h.kids u hu) hku
theorem imageOf_map (f : Tm → Tm) (b : List Bd) {k : Key} (h : k ∈ b.map (·.1)) : imageOf (b.map fun q => (q.1, f q.2)) k = f (imageOf b k) := by
  induction b with
  | nil => cases h
  | cons a b ih =>
    by_cases e : a.1 = k
    · simp [imageOf, e]
    · have := ih (by simpa [Ne.symm e] using h)
      simpa [imageOf, e] using this
theorem apB_on {K : List Key} {S T : List Bd} (h : ∀ k ∈ K, imageOf S k = imageOf T k) {t : Tm} (ht : t.vin K) : apB S t = apB T t := by
  induction t using Tm.ind with
  | h t ih =>
    cases hv : t.vr
    · rw [apB_fun S hv, apB_fun T hv, List.map_congr_left fun u hu => ih u hu (ht.kids u hu)]
    · rw [apB_var S hv, apB_var T hv, h _ (ht.var hv)]
theorem apB_twice {b σ : List Bd} {t : Tm} (ht : t.vin (b.map (·.1))) : apB σ (apB b t) = apB (b.map fun q => (q.1, apB σ q.2)) t := by
  induction t using Tm.ind with
  | h t ih =>
    cases hv : t.vr
    · rw [apB_fun b hv, apB_fun _ hv, apB_fun σ (t := .mk t.nm false (t.ts.map (apB b))) rfl]
      show Tm.mk t.nm false ((t.ts.map (apB b)).map (apB σ)) = _
      rw [List.map_map]
      congr 1
      exact List.map_congr_left fun u hu => ih u hu (ht.kids u hu)
    · rw [apB_var b hv, apB_var _ hv, imageOf_map (apB σ) b (ht.var hv)]
theorem apB_kid {σ : List Bd} {t x : Tm} {i : Int} (hv : t.vr = false) (h : t.kid i = some x) : (apB σ t).kid i = some (apB σ x) := by
  unfold Tm.kid at h ⊢
  split at h
  · rename_i h0
    rw [if_pos h0, apB_fun σ hv]
    show (t.ts.map (apB σ))[i.toNat]? = _
    rw [List.getElem?_map, h]; rfl
  · cases h
theorem kid_fun {t x : Tm} {i : Int} (ht : t.bare) (h : t.kid i = some x) : t.vr = false := by
  cases hv : t.vr
  · rfl
  · have := Tm.kid_mem h
    rw [ht.vr0 hv] at this; cases this
theorem apB_at {σ : List Bd} {t x : Tm} {l : List Int} (ht : t.bare) (h : t.at l = some x) : (apB σ t).at l = some (apB σ x) := by
  induction l generalizing t with
  | nil => simp only [Tm.at, Option.some.injEq] at h ⊢; rw [h]
  | cons i l ih =>
    simp only [Tm.at] at h ⊢
    split at h
    · rename_i y hy
      rw [apB_kid (kid_fun ht hy) hy]
      exact ih (ht.kids y (Tm.kid_mem hy)) h
    · cases h
theorem apB_put {σ : List Bd} {t u : Tm} {l : List Int} (ht : t.bare) (h : (t.at l).isSome) : apB σ (t.put l u) = (apB σ t).put l (apB σ u) := by
  induction l generalizing t with
  | nil => rfl
  | cons i l ih =>
    simp only [Tm.at] at h
    split at h
    · rename_i y hy
      have hv := kid_fun ht hy
      simp only [Tm.put, hy, apB_kid hv hy]
      rw [apB_fun σ (t := .mk t.nm t.vr (t.ts.set i.toNat (y.put l u))) hv, apB_fun σ hv]
      show Tm.mk t.nm false ((t.ts.set i.toNat (y.put l u)).map (apB σ)) = Tm.mk t.nm false ((t.ts.map (apB σ)).set i.toNat _)
      rw [List.map_set, ih (ht.kids y (Tm.kid_mem hy)) h]
    · cases h
/-- STEPS ARE CLOSED UNDER SUBSTITUTIONS. -/
theorem stepR_sub {L : List RlV} {t u : Tm} {rule : Int} {pos : List Int} (σ : List Bd) (hL : SysOk L) (ht : t.ok) (h : stepR L t rule pos = some u) : stepR L (apB σ t) rule pos = some (apB σ u) := by
  unfold stepR at h ⊢
  obtain ⟨⟨b, p⟩, hs, rfl⟩ := Option.map_eq_some_iff.1 h
  obtain ⟨hsub, hp, -⟩ := stepM_sub hs hL ht
  obtain ⟨k, x, m, rfl, hk, hx, hm, rfl⟩ := stepM_some hs
  have hlo := (hL.2.1 _ (sidesV_mem hp).1).1.bare
  have hkeys := (match_len hlo hm).1
  have hnd : (m.map (·.1)).Nodup := by rw [hkeys]; exact firsts_nodup p.1.1 [] (by simp)
  have hK : ∀ k, k ∈ (subK m).map (·.1) ↔ k ∈ m.map (·.1) := fun k => by unfold subK; simp [sortK_mem]
  have hvl : p.1.1.vin ((subK m).map (·.1)) := vin_firsts p.1.1 hlo [] _ fun k hk => (hK k).2 (by rw [hkeys]; exact hk)
  have hno := (hL.2.2.2 p hp).2
  have hvr : p.2.1.vin ((subK m).map (·.1)) := vin_hasVar fun k hk => by
    refine hasVar_vin hvl ?_
    cases h : hasVar p.1.1 k
    · have := (extraV_iff p.1.1 p.2.1).2 ⟨k, hk, h⟩
      rw [hno] at this; cases this
    · rfl
  have hxe := match_sound hlo hm hnd
  obtain ⟨m', hm', hnd', hv'⟩ := mtc_inst ((subK m).map fun q => (q.1, apB σ q.2)) p.1.1 hlo [] (by simp) (by simp)
  have hmx : mtc p.1.1 [] (apB σ x) = some m' := by rw [← hxe, apB_twice hvl]; exact hm'
  have hkeys' := (match_len hlo hmx).1
  have himg : ∀ k ∈ (subK m).map (·.1), imageOf (subK m') k = imageOf ((subK m).map fun q => (q.1, apB σ q.2)) k := fun k hk => by
    rw [imageOf_subK]
    have h1 : k ∈ m'.map (·.1) := by rw [hkeys', ← hkeys]; exact (hK k).1 hk
    obtain ⟨q, hq, rfl⟩ := List.mem_map.1 h1
    rw [imageOf_in hnd' hq]; exact hv' q hq
  have hs' : stepM L (apB σ t) (k : Int) pos = some (subK m', p) := by
    unfold stepM
    rw [if_pos (by omega), Int.toNat_natCast, hk]
    simp only [apB_at ht.1.bare hx, hmx, Option.map_some]
  rw [hs']
  simp only [Option.map_some, Option.some.injEq]
  rw [apB_on himg hvr, ← apB_twice hvr, apB_put ht.1.bare (by rw [hx]; rfl)]
theorem at_append {t x : Tm} {p q : List Int} (h : t.at p = some x) : t.at (p ++ q) = x.at q := by
  induction p generalizing t with
  | nil => simp only [Tm.at, Option.some.injEq] at h; rw [h]; rfl
  | cons i p ih =>
    simp only [Tm.at] at h
    split at h
    · rename_i y hy
      simp only [List.cons_append, Tm.at, hy]
      exact ih h
    · cases h
theorem put_append {C t : Tm} {p q : List Int} (v : Tm) (h : (C.at p).isSome) : (C.put p t).put (p ++ q) v = C.put p (t.put q v) := by
  induction p generalizing C with
  | nil => rfl
  | cons i p ih =>
    simp only [Tm.at] at h
    split at h
    · rename_i y hy
      have hk : ∀ z, (Tm.mk C.nm C.vr (C.ts.set i.toNat z)).kid i = some z := fun z => by
        unfold Tm.kid at hy ⊢
        split at hy
        · rename_i h0
          rw [if_pos h0]
          exact List.getElem?_set_self (List.getElem?_eq_some_iff.1 hy).1
        · cases hy
      simp only [List.cons_append, Tm.put, hy, hk]
      show Tm.mk C.nm C.vr ((C.ts.set i.toNat (y.put p t)).set i.toNat _) = _
      rw [List.set_set, ih h]
    · cases h
/-- .. AND UNDER CONTEXTS. -/
theorem stepR_ctx {L : List RlV} {t u C : Tm} {rule : Int} {pos q : List Int} (hC : (C.at q).isSome) (h : stepR L t rule pos = some u) : stepR L (C.put q t) rule (q ++ pos) = some (C.put q u) := by
  unfold stepR at h ⊢
  obtain ⟨⟨b, p⟩, hs, rfl⟩ := Option.map_eq_some_iff.1 h
  obtain ⟨k, x, m, rfl, hk, hx, hm, rfl⟩ := stepM_some hs
  have hs' : stepM L (C.put q t) (k : Int) (q ++ pos) = some (subK m, p) := by
    unfold stepM
    rw [if_pos (by omega), Int.toNat_natCast, hk]
    simp only [at_append (Tm.put_get hC t), hx, hm, Option.map_some]
  rw [hs']
  simp only [Option.map_some, Option.some.injEq]
  exact put_append _ hC
end Go.Proofs.YtnomppdmhgefiaaGreat
