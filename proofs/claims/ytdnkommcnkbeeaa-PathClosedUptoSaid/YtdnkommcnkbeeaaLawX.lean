/- The law PathClosed. -/
import Derived.WalkKit
import Derived.ProofKit
import Derived.OpenShut
import Derived.Handy
import Derived.Lib.Hide
import Derived.Deep.RegionHeld3
import Derived.Deep.DeepCutAuto
import Derived.Test.YtdnkommcnkbeeaaPcp
import Derived.Test.YtdnkommcnkbeeaaRpt
import Derived.Test.YtdnkommcnkbeeaaRfa
import Derived.Test.YtdnkommcnkbeeaaRfk
import Derived.Test.YtdnkommcnkbeeaaCkl
import Derived.Test.YtdnkommcnkbeeaaAl6
namespace Go.Proofs.Ytdnkommcnkbeeaa
open Go.RowKit

/-- the reference's At, said in one way -/
theorem rAt_uni (t : Tm) (s : Value) (l : List Int) (v : Value) (w : World) (hs : SlIs w.heap.size w t.ts s) (hl : PosIs w.heap.size w l v) (hll : l.length ≤ 1048576) (hb : t.bulk ≤ 1048576) :
    Calls Try.prog 14 #[tmv t s, v] w fun e w' => (∃ (r : Tm) (o : Option Addr) (n k : Nat) (b : Bool), e = .returned (.tuple #[.agg #[.string r.nm, .bool r.vr, .slice o n k], .bool b]) ∧ SlIs w'.heap.size w' r.ts (.slice o n k) ∧ (b = true → t.at l = some r) ∧ (b = false → t.at l = none)) ∧ Below w.heap.size w w' := by
  refine (rAt_any t s l v w hs hl hll hb).mono ?_
  rintro e w' ⟨⟨u, su, rfl, h1, h2⟩ | ⟨rfl, h1⟩, hb⟩
  · obtain ⟨o, n, rfl, -⟩ := h2.form
    exact ⟨⟨u, o, _, n, true, rfl, h2.carry hb hb.size, fun _ => h1, nofun⟩, hb⟩
  · exact ⟨⟨.mk ⟨#[]⟩ false [], none, 0, 0, false, rfl, .nil0, nofun, fun _ => h1⟩, hb⟩
/-- what the law was given, in boxes -/
structure ClSt (w W : World) (s t : Tm) (sv tv bv : Value) (c : Tm) (cv pv : Value) (ps pt : Nat) : Prop where
  q : W.heap[w.heap.size]? = some (.cells #[.string s.nm, .bool s.vr, sv, .string t.nm, .bool t.vr, tv] 38 (0, 0))
  c : W.heap[w.heap.size + 1]? = some (.cells #[bv, .string c.nm, .bool c.vr, cv, pv] 42 (0, 0))
  a : W.heap[ps]? = some (.cells #[.string s.nm, .bool s.vr, sv] 34 (0, 0))
  b : W.heap[pt]? = some (.cells #[.string t.nm, .bool t.vr, tv] 34 (0, 0))
  low : Below w.heap.size w W
theorem ClSt.carry {w A W : World} {s t : Tm} {sv tv bv : Value} {c : Tm} {cv pv : Value} {ps pt : Nat} (h : ClSt w A s t sv tv bv c cv pv ps pt) (hb : Below A.heap.size A W) : ClSt w W s t sv tv bv c cv pv ps pt :=
  ⟨(hb.block _ (Array.getElem?_eq_some_iff.1 h.q).1).trans h.q, (hb.block _ (Array.getElem?_eq_some_iff.1 h.c).1).trans h.c, (hb.block _ (Array.getElem?_eq_some_iff.1 h.a).1).trans h.a, (hb.block _ (Array.getElem?_eq_some_iff.1 h.b).1).trans h.b, h.low.trans (hb.mono h.low.size)⟩
theorem ClSt.cc {w W : World} {s t : Tm} {sv tv bv : Value} {c : Tm} {cv pv : Value} {ps pt : Nat} (h : ClSt w W s t sv tv bv c cv pv ps pt) : W.cell? ⟨w.heap.size + 1, 0, none⟩ = some bv ∧ W.cell? ⟨w.heap.size + 1, 1, none⟩ = some (.string c.nm) ∧ W.cell? ⟨w.heap.size + 1, 2, none⟩ = some (.bool c.vr) ∧ W.cell? ⟨w.heap.size + 1, 3, none⟩ = some cv ∧ W.cell? ⟨w.heap.size + 1, 4, none⟩ = some pv :=
  ⟨cells_of' h.c 0, cells_of' h.c 1, cells_of' h.c 2, cells_of' h.c 3, cells_of' h.c 4⟩
theorem ClSt.aa {w W : World} {s t : Tm} {sv tv bv : Value} {c : Tm} {cv pv : Value} {ps pt : Nat} (h : ClSt w W s t sv tv bv c cv pv ps pt) : W.cell? ⟨ps, 0, none⟩ = some (.string s.nm) ∧ W.cell? ⟨ps, 1, none⟩ = some (.bool s.vr) ∧ W.cell? ⟨ps, 2, none⟩ = some sv ∧ W.cell? ⟨pt, 0, none⟩ = some (.string t.nm) ∧ W.cell? ⟨pt, 1, none⟩ = some (.bool t.vr) ∧ W.cell? ⟨pt, 2, none⟩ = some tv :=
  ⟨cells_of' h.a 0, cells_of' h.a 1, cells_of' h.a 2, cells_of' h.b 0, cells_of' h.b 1, cells_of' h.b 2⟩
theorem ClSt.seven {w W : World} {s t : Tm} {sv tv bv : Value} {c : Tm} {cv pv : Value} {ps pt : Nat} (h : ClSt w W s t sv tv bv c cv pv ps pt) : W.cell? ⟨w.heap.size + 1, 0, none⟩ = some bv ∧ W.cell? ⟨ps, 0, none⟩ = some (.string s.nm) ∧ W.cell? ⟨ps, 1, none⟩ = some (.bool s.vr) ∧ W.cell? ⟨ps, 2, none⟩ = some sv ∧ W.cell? ⟨pt, 0, none⟩ = some (.string t.nm) ∧ W.cell? ⟨pt, 1, none⟩ = some (.bool t.vr) ∧ W.cell? ⟨pt, 2, none⟩ = some tv := ⟨h.cc.1, h.aa⟩

/-- between the operations that lay the two terms in boxes -/
structure CbI (w0 : World) (s t : Tm) (sv tv bv : Value) (c : Tm) (cv pv : Value) (f : Nat → Bool) (w : World) (v7 v8 v15 v16 v17 v18 : Value) : Prop where
  low : Below w0.heap.size w0 w
  q : w.heap[w0.heap.size]? = some (.cells #[.string s.nm, .bool s.vr, sv, .string t.nm, .bool t.vr, tv] 38 (0, 0))
  c : w.heap[w0.heap.size + 1]? = some (.cells #[bv, .string c.nm, .bool c.vr, cv, pv] 42 (0, 0))
  f0 : f 0 = true → v15 = .pointer (some ⟨w0.heap.size, 0, none⟩)
  f1 : f 1 = true → v16 = .agg #[.string s.nm, .bool s.vr, sv]
  f2 : f 2 = true → v17 = .pointer (some ⟨w0.heap.size, 3, none⟩)
  f3 : f 3 = true → v18 = .agg #[.string t.nm, .bool t.vr, tv]
  f4 : f 4 = true → ∃ p, v7 = ptr p ∧ w0.heap.size + 2 ≤ p ∧ p < w.heap.size ∧ (f 6 = false → w.heap[p]? = some zeroTm) ∧ (f 6 = true → w.heap[p]? = some (.cells #[.string s.nm, .bool s.vr, sv] 34 (0, 0)))
  f5 : f 5 = true → ∃ p, v8 = ptr p ∧ w0.heap.size + 2 ≤ p ∧ p < w.heap.size ∧ (f 7 = false → w.heap[p]? = some zeroTm) ∧ (f 7 = true → w.heap[p]? = some (.cells #[.string t.nm, .bool t.vr, tv] 34 (0, 0)))
  ne : f 4 = true → f 5 = true → v7 ≠ v8
  o6 : f 6 = true → f 4 = true ∧ f 5 = true
  o7 : f 7 = true → f 5 = true ∧ f 6 = true
def CbInv (w0 : World) (lv : Value) (s t : Tm) (sv tv bv : Value) (c : Tm) (cv pv : Value) (f : Nat → Bool) (a : Act) (w : World) : Prop :=
  ∃ v7 v8 v15 v16 v17 v18, a = { tmps := #[lv, (.agg #[.string s.nm, .bool s.vr, sv, .string t.nm, .bool t.vr, tv]), (.agg #[bv, .string c.nm, .bool c.vr, cv, pv]), undef, .pointer (some ⟨w0.heap.size, 0, none⟩), .pointer (some ⟨w0.heap.size + 1, 0, none⟩), .bool false, v7, v8, undef, undef, undef, undef, undef, undef, v15, v16, v17, v18, undef, undef, undef, undef, undef, undef, undef, undef, undef, undef, undef, undef, undef, undef, undef, undef, undef, undef, undef, undef, undef, undef, undef, undef, undef, undef, undef, undef, undef, undef, undef, undef, undef, undef, undef, undef, undef, undef, undef, undef, undef, undef, undef, undef, undef, undef, undef, undef, undef, undef, undef, undef, undef, undef, undef, undef, undef, undef, undef, undef, undef, undef, undef, undef, undef, undef, undef, undef, undef, undef, undef, undef, undef, undef, undef, undef, undef, undef, undef, undef, undef, undef, undef, undef, undef, undef, undef, undef, undef, undef, undef, undef, undef, undef, undef, undef, undef, undef, undef, undef, undef, undef, undef, undef, undef, undef, undef, undef, undef, undef, undef, undef], defers := [] } ∧ CbI w0 s t sv tv bv c cv pv f w v7 v8 v15 v16 v17 v18

theorem wp_region_invZ {P : Program} {ops : Array Oper} {Q : Exit → Act → World → Prop} {id : Nat} {a : Act} {w : World} (Inv : (Nat → Value) → (Nat → Bool) → Act → World → Prop) (hm : P.follows .mixedOrders = true)
    (hacy : (List.range ops.size).all (fun i => match ops[i]? with | some o => o.after.all (fun e => !Region.binds .any e || decide (e.on < i)) | none => true) = true)
    (h0 : Inv (fun k => a.tmps.getD k undef) (fun _ => false) a w.drew)
    (hend : ∀ z f a w, Inv z f a w → (∀ i, i < ops.size → f i = true) → Q .normal a w)
    (hstep : ∀ z i o, ops[i]? = some o → ∀ f a w, Inv z f a w → f i = false → (∀ e ∈ o.after, Region.binds .any e = true → f e.on = true) →
      ∀ K' : Act → World → Prop, Shut (∀ a' w', Inv z (flag f i) a' w' → K' a' w') → if Region.wanted o (yielded ops a.tmps) = true then Oper.wp P o a w K' Q else K' (a.put o.dst undef) w) : (Code.region id ops true).wp P Q a w :=
  wp_region_inv (Inv _) hm hacy h0 (hend _) (hstep _)
/-- between the operations that put the two terms into the context -/
structure CdI (n0 : Nat) (w0 : World) (s t c : Tm) (sv tv cv pv : Value) (pos : List Int) (f : Nat → Bool) (w : World) (v13 v14 v105 v106 v107 v108 v109 v110 v111 v112 v113 v114 v115 v116 : Value) : Prop where
  low : Below w0.heap.size w0 w
  f0 : f 0 = true → v105 = (.pointer (some ⟨n0 + 1, 1, none⟩))
  f1 : f 1 = true → v106 = (.agg #[.string c.nm, .bool c.vr, cv])
  f2 : f 2 = true → v107 = (.pointer (some ⟨n0 + 1, 4, none⟩))
  f3 : f 3 = true → v108 = pv
  f4 : f 4 = true → v109 = (.agg #[.string s.nm, .bool s.vr, sv])
  f5 : f 5 = true → TmW w (c.put pos s) v110
  f6 : f 6 = true → v111 = (.pointer (some ⟨n0 + 1, 1, none⟩))
  f7 : f 7 = true → v112 = (.agg #[.string c.nm, .bool c.vr, cv])
  f8 : f 8 = true → v113 = (.pointer (some ⟨n0 + 1, 4, none⟩))
  f9 : f 9 = true → v114 = pv
  f10 : f 10 = true → v115 = (.agg #[.string t.nm, .bool t.vr, tv])
  f11 : f 11 = true → TmW w (c.put pos t) v116
  f12 : f 12 = true → ∃ p, v13 = ptr p ∧ w0.heap.size ≤ p ∧ p < w.heap.size ∧ (f 14 = false → w.heap[p]? = some zeroTm) ∧ (f 14 = true → ∃ s', TBx w p (c.put pos s) s')
  f13 : f 13 = true → ∃ p, v14 = ptr p ∧ w0.heap.size ≤ p ∧ p < w.heap.size ∧ (f 15 = false → w.heap[p]? = some zeroTm) ∧ (f 15 = true → ∃ s', TBx w p (c.put pos t) s')
  ne : f 12 = true → f 13 = true → v13 ≠ v14
  o14 : f 14 = true → f 12 = true ∧ f 13 = true
  o15 : f 15 = true → f 13 = true ∧ f 14 = true
theorem CdI.keep {n0 : Nat} {w0 A W : World} {s t c : Tm} {sv tv cv pv : Value} {pos : List Int} {f : Nat → Bool} {v13 v14 v105 v106 v107 v108 v109 v110 v111 v112 v113 v114 v115 v116 : Value} (h : CdI n0 w0 s t c sv tv cv pv pos f A v13 v14 v105 v106 v107 v108 v109 v110 v111 v112 v113 v114 v115 v116) (hb : Below A.heap.size A W) : CdI n0 w0 s t c sv tv cv pv pos f W v13 v14 v105 v106 v107 v108 v109 v110 v111 v112 v113 v114 v115 v116 :=
  ⟨h.low.trans (hb.mono h.low.size), h.f0, h.f1, h.f2, h.f3, h.f4, fun k => (h.f5 k).keep hb, h.f6, h.f7, h.f8, h.f9, h.f10, fun k => (h.f11 k).keep hb, fun k => by obtain ⟨p, h1, h2, h3, h4, h5⟩ := h.f12 k; exact ⟨p, h1, h2, Nat.lt_of_lt_of_le h3 hb.size, fun e => (hb.block p h3).trans (h4 e), fun e => (h5 e).imp fun _ h6 => h6.carry hb⟩, fun k => by obtain ⟨p, h1, h2, h3, h4, h5⟩ := h.f13 k; exact ⟨p, h1, h2, Nat.lt_of_lt_of_le h3 hb.size, fun e => (hb.block p h3).trans (h4 e), fun e => (h5 e).imp fun _ h6 => h6.carry hb⟩, h.ne, h.o14, h.o15⟩
def CdInv (lv : Value) (ps pt n0 : Nat) (w0 : World) (s t c : Tm) (sv tv cv pv : Value) (pos : List Int) (z : Nat → Value) (f : Nat → Bool) (a : Act) (w : World) : Prop :=
  ∃ v13 v14 v105 v106 v107 v108 v109 v110 v111 v112 v113 v114 v115 v116, a = { tmps := #[lv, z 1, z 2, z 3, z 4, .pointer (some ⟨n0 + 1, 0, none⟩), z 6, .pointer (some ⟨ps, 0, none⟩), .pointer (some ⟨pt, 0, none⟩), z 9, z 10, z 11, z 12, v13, v14, z 15, z 16, z 17, z 18, z 19, z 20, z 21, z 22, z 23, z 24, z 25, z 26, z 27, z 28, z 29, z 30, z 31, z 32, z 33, z 34, z 35, z 36, z 37, z 38, z 39, z 40, z 41, z 42, z 43, z 44, z 45, z 46, z 47, z 48, z 49, z 50, z 51, z 52, z 53, z 54, z 55, z 56, z 57, z 58, z 59, z 60, z 61, z 62, z 63, z 64, z 65, z 66, z 67, z 68, z 69, z 70, z 71, z 72, z 73, z 74, z 75, z 76, z 77, z 78, z 79, z 80, z 81, z 82, z 83, z 84, z 85, z 86, z 87, z 88, z 89, z 90, z 91, z 92, z 93, z 94, z 95, z 96, z 97, z 98, z 99, z 100, z 101, z 102, z 103, z 104, v105, v106, v107, v108, v109, v110, v111, v112, v113, v114, v115, v116, z 117, z 118, z 119, z 120, z 121, z 122, z 123, z 124, z 125, z 126, z 127, z 128, z 129, z 130], defers := [] } ∧ CdI n0 w0 s t c sv tv cv pv pos f w v13 v14 v105 v106 v107 v108 v109 v110 v111 v112 v113 v114 v115 v116

set_option maxRecDepth 100000 in
set_option maxHeartbeats 32000000 in
theorem pathClosed_any (L : List Rk) (lv : Value) (s t : Tm) (sv tv : Value) (bl : List Bd) (bv : Value) (c : Tm) (cv : Value) (pos : List Int) (pv : Value) (w : World) (hL : RksIs w.heap.size w L lv) (hLb : rkBulk L ≤ 1048576) (hs : SlIs w.heap.size w s.ts sv) (ht : SlIs w.heap.size w t.ts tv)
    (hbl : BindsIs w.heap.size w bl bv) (hbb : bdBulk bl ≤ 1048576) (hc : SlIs w.heap.size w c.ts cv) (hp : PosIs w.heap.size w pos pv) (hpc : ∀ oa m k, pv = .slice oa m k → m ≤ k) (hpl : pos.length ≤ 1048576) (hbs : s.bulk ≤ 1048576) (hbt : t.bulk ≤ 1048576) (hbc : c.bulk ≤ 1048576) :
    Calls Try.prog 5 #[lv, .agg #[.string s.nm, .bool s.vr, sv, .string t.nm, .bool t.vr, tv], .agg #[bv, .string c.nm, .bool c.vr, cv, pv]] w fun e w' => e = .returned (.bool true) ∧ Below w.heap.size w w' := by
  have hlen := Nat.le_trans (rkBulk_len L) hLb
  have hbll := Nat.le_trans (bdBulk_len bl) hbb
  obtain ⟨os, cs, rfl, -⟩ := hs.form
  obtain ⟨ot, ct, rfl, -⟩ := ht.form
  obtain ⟨oc, cc, rfl, -⟩ := hc.form
  obtain ⟨op, cp, rfl, -⟩ := hp.form
  have hbl' := hbl
  obtain ⟨ob, cb, rfl, -, -⟩ := hbl'
  have hL' := hL
  obtain ⟨ol, cl, rfl, -, -⟩ := hL'
  have HL := Lib.hid hL
  have HS := Lib.hid hs
  have HT := Lib.hid ht
  have HC := Lib.hid hc
  have HP := Lib.hid hp
  have HBL := Lib.hid hbl
  have HLB := Lib.hid hLb
  have HPC := Lib.hid hpc
  have hbsz := hbb
  have HG1 : Hid (∀ W, Below w.heap.size w W → Calls Try.prog 13 #[.slice ol L.length cl, .agg #[.string s.nm, .bool s.vr, .slice os s.ts.length cs], .agg #[.string t.nm, .bool t.vr, .slice ot t.ts.length ct]] W fun e w' => e = .returned (.bool (gpB L s t)) ∧ Below W.heap.size W w') := Lib.hid fun W hW => lgreater_any L _ s t _ _ W (hL.carry hW hW.size) hLb (hs.carry hW hW.size) (ht.carry hW hW.size) hbs hbt
  have HAL : Hid (∀ W, Below w.heap.size w W → Calls Try.prog 12 #[] W fun e w' => e = .returned (.bool true) ∧ Below w.heap.size w w') := Lib.hid fun W hW => (alive_any W).mono fun e w' h => ⟨h.1, hW.trans (h.2.mono hW.size)⟩
  clear hL hs ht hc hp hbl hLb hpc
  go_enter Try.func5, Try.ntmps5
  go_wp2_with fail
  refine wp_region_inv (CbInv w (.slice ol L.length cl) s t (.slice os s.ts.length cs) (.slice ot t.ts.length ct) (.slice ob bl.length cb) c (.slice oc c.ts.length cc) (.slice op pos.length cp)) (by kernel_rfl) (by kernel_rfl) ?h0 ?hend ?hstep
  case h0 =>
    refine ⟨_, _, _, _, _, _, rfl, ?_, (Below.heap_alloc _ _ _ (by simp)).trans (heap_new_at _ _ _ rfl), heap_new_at _ _ _ (by simp), nofun, nofun, nofun, nofun, nofun, nofun, nofun, nofun, nofun⟩
    exact Below.drew (by go_grown)
  case hstep =>
    rintro i o ho f a W ⟨v7, v8, v15, v16, v17, v18, rfl, h⟩ hfi hd K' hK
    have HI := Lib.hid h
    match i, ho with
    | 0, ho =>
      cases ho
      clear h
      go_simp
      exact hK.out _ _ ⟨v7, v8, _, v16, v17, v18, rfl, HI.out.low, HI.out.q, HI.out.c, fun _ => rfl, HI.out.f1, HI.out.f2, HI.out.f3, HI.out.f4, HI.out.f5, HI.out.ne, HI.out.o6, HI.out.o7⟩
    | 1, ho =>
      cases ho
      have e := h.f0 (hd ⟨0, .data⟩ (by simp) rfl)
      subst e
      have c0 := cells_of' h.q 0
      have c1 := cells_of' h.q 1
      have c2 := cells_of' h.q 2
      simp only [List.getElem?_toArray, List.getElem?_cons_zero, List.getElem?_cons_succ] at c0 c1 c2
      clear h
      go_simp
      exact hK.out _ _ ⟨v7, v8, _, _, v17, v18, rfl, HI.out.low, HI.out.q, HI.out.c, HI.out.f0, fun _ => rfl, HI.out.f2, HI.out.f3, HI.out.f4, HI.out.f5, HI.out.ne, HI.out.o6, HI.out.o7⟩
    | 2, ho =>
      cases ho
      clear h
      go_simp
      exact hK.out _ _ ⟨v7, v8, v15, v16, _, v18, rfl, HI.out.low, HI.out.q, HI.out.c, HI.out.f0, HI.out.f1, fun _ => rfl, HI.out.f3, HI.out.f4, HI.out.f5, HI.out.ne, HI.out.o6, HI.out.o7⟩
    | 3, ho =>
      cases ho
      have e := h.f2 (hd ⟨2, .data⟩ (by simp) rfl)
      subst e
      have c0 := cells_of' h.q 3
      have c1 := cells_of' h.q 4
      have c2 := cells_of' h.q 5
      simp only [List.getElem?_toArray, List.getElem?_cons_zero, List.getElem?_cons_succ] at c0 c1 c2
      clear h
      go_simp
      exact hK.out _ _ ⟨v7, v8, v15, v16, _, _, rfl, HI.out.low, HI.out.q, HI.out.c, HI.out.f0, HI.out.f1, HI.out.f2, fun _ => rfl, HI.out.f4, HI.out.f5, HI.out.ne, HI.out.o6, HI.out.o7⟩
    | 4, ho =>
      cases ho
      clear h
      go_simp
      have hb := (Below.refl W.heap.size W).alloc (Nat.le_refl _) zeroTm
      exact hK.out _ (W.alloc zeroTm) ⟨ptr W.heap.size, v8, v15, v16, v17, v18, rfl, HI.out.low.alloc HI.out.low.size _, (hb.block _ (Array.getElem?_eq_some_iff.1 HI.out.q).1).trans HI.out.q, (hb.block _ (Array.getElem?_eq_some_iff.1 HI.out.c).1).trans HI.out.c, HI.out.f0, HI.out.f1, HI.out.f2, HI.out.f3,
        fun _ => ⟨_, rfl, (Array.getElem?_eq_some_iff.1 HI.out.c).1, by simp, fun _ => heap_new_at _ _ _ rfl, (fun k => by have := (HI.out.o6 k).1; rw [hfi] at this; cases this)⟩,
        fun k => by obtain ⟨p, h1, h2, h3, h4, h5⟩ := HI.out.f5 k; exact ⟨p, h1, h2, Nat.lt_of_lt_of_le h3 hb.size, fun e => (hb.block p h3).trans (h4 e), fun e => (hb.block p h3).trans (h5 e)⟩,
        fun _ k e => by obtain ⟨p, h1, h2, h3, -⟩ := HI.out.f5 k; have := ptr_inj (e.trans h1); omega, (fun k => by have := (HI.out.o6 k).1; rw [hfi] at this; cases this), HI.out.o7⟩
    | 5, ho =>
      cases ho
      clear h
      go_simp
      have hb := (Below.refl W.heap.size W).alloc (Nat.le_refl _) zeroTm
      exact hK.out _ (W.alloc zeroTm) ⟨v7, ptr W.heap.size, v15, v16, v17, v18, rfl, HI.out.low.alloc HI.out.low.size _, (hb.block _ (Array.getElem?_eq_some_iff.1 HI.out.q).1).trans HI.out.q, (hb.block _ (Array.getElem?_eq_some_iff.1 HI.out.c).1).trans HI.out.c, HI.out.f0, HI.out.f1, HI.out.f2, HI.out.f3,
        fun k => by obtain ⟨p, h1, h2, h3, h4, h5⟩ := HI.out.f4 k; exact ⟨p, h1, h2, Nat.lt_of_lt_of_le h3 hb.size, fun e => (hb.block p h3).trans (h4 e), fun e => (hb.block p h3).trans (h5 e)⟩,
        fun _ => ⟨_, rfl, (Array.getElem?_eq_some_iff.1 HI.out.c).1, by simp, fun _ => heap_new_at _ _ _ rfl, (fun k => by have := (HI.out.o7 k).1; rw [hfi] at this; cases this)⟩,
        fun k _ e => by obtain ⟨p, h1, h2, h3, -⟩ := HI.out.f4 k; have := ptr_inj (h1.symm.trans e); omega, (fun k => by have := (HI.out.o6 k).2; rw [hfi] at this; cases this), (fun k => by have := (HI.out.o7 k).1; rw [hfi] at this; cases this)⟩
    | 6, ho =>
      cases ho
      have d4 := hd ⟨4, .data⟩ (by simp) rfl
      have d5 := hd ⟨5, .phase⟩ (by simp) rfl
      have e := h.f1 (hd ⟨1, .data⟩ (by simp) rfl)
      subst e
      obtain ⟨p, e7, h2, h3, h4, -⟩ := h.f4 d4
      subst e7
      have hz := h4 hfi
      have HZ := Lib.hid hz
      have HNE := Lib.hid (h.ne d4 d5)
      obtain ⟨⟨c0, c1, c2⟩, g0, g1, g2⟩ := box3 hz
      clear h hd h4 hz
      unfold ptr
      go_simp
      have hst := fun k (hk : k ≠ p) => heap_set3 W p k (.string s.nm) (.bool s.vr) (.slice os s.ts.length cs) hk
      exact hK.out _ _ ⟨ptr p, v8, v15, _, v17, v18, rfl, below_set3 HI.out.low (b := p) (by omega) _ _ _, (hst _ (by omega)).trans HI.out.q, (hst _ (by omega)).trans HI.out.c, HI.out.f0, HI.out.f1, HI.out.f2, HI.out.f3,
        fun _ => ⟨p, rfl, h2, by simp [World.setCell]; omega, nofun, fun _ => box3_set HZ.out _ _ _⟩,
        fun k => by obtain ⟨q, h1, h2, h3, h4, h5⟩ := HI.out.f5 k; have hpq : q ≠ p := fun e => HNE.out (by rw [h1, e]); exact ⟨q, h1, h2, by simp [World.setCell]; omega, fun e => (hst q hpq).trans (h4 e), fun e => (hst q hpq).trans (h5 e)⟩,
        HI.out.ne, fun _ => ⟨d4, d5⟩, fun k => ⟨(HI.out.o7 k).1, rfl⟩⟩
    | 7, ho =>
      cases ho
      have d4 := hd ⟨4, .phase⟩ (by simp) rfl
      have d5 := hd ⟨5, .data⟩ (by simp) rfl
      have d6 := hd ⟨6, .chain⟩ (by simp) rfl
      have e := h.f3 (hd ⟨3, .data⟩ (by simp) rfl)
      subst e
      obtain ⟨p, e7, h2, h3, h4, -⟩ := h.f5 d5
      subst e7
      have hz := h4 hfi
      have HZ := Lib.hid hz
      have HNE := Lib.hid (h.ne d4 d5)
      obtain ⟨⟨c0, c1, c2⟩, g0, g1, g2⟩ := box3 hz
      clear h hd h4 hz
      unfold ptr
      go_simp
      have hst := fun k (hk : k ≠ p) => heap_set3 W p k (.string t.nm) (.bool t.vr) (.slice ot t.ts.length ct) hk
      exact hK.out _ _ ⟨v7, ptr p, v15, v16, v17, _, rfl, below_set3 HI.out.low (b := p) (by omega) _ _ _, (hst _ (by omega)).trans HI.out.q, (hst _ (by omega)).trans HI.out.c, HI.out.f0, HI.out.f1, HI.out.f2, HI.out.f3,
        fun k => by obtain ⟨q, h1, h2, h3, h4, h5⟩ := HI.out.f4 k; have hpq : q ≠ p := fun e => HNE.out (by rw [h1, e]); exact ⟨q, h1, h2, by simp [World.setCell]; omega, fun e => (hst q hpq).trans (h4 e), fun e => (hst q hpq).trans (h5 e)⟩,
        fun _ => ⟨p, rfl, h2, by simp [World.setCell]; omega, nofun, fun _ => box3_set HZ.out _ _ _⟩,
        HI.out.ne, HI.out.o6, fun _ => ⟨d5, d6⟩⟩
    | i + 8, ho => simp at ho
  case hend =>
  rintro f a W ⟨v7, v8, v15, v16, v17, v18, rfl, h⟩ hall
  obtain ⟨ps, rfl, -, -, -, h5⟩ := h.f4 (hall 4 (by simp))
  obtain ⟨pt, rfl, -, -, -, h6⟩ := h.f5 (hall 5 (by simp))
  have HM0 : Hid (ClSt w W s t (.slice os s.ts.length cs) (.slice ot t.ts.length ct) (.slice ob bl.length cb) c (.slice oc c.ts.length cc) (.slice op pos.length cp) ps pt) := Lib.hid ⟨h.q, h.c, h5 (hall 6 (by simp)), h6 (hall 7 (by simp)), h.low⟩
  clear h h5 h6 hall
  obtain ⟨c0, c1, c2, c3, c4⟩ := HM0.out.cc
  unfold ptr
  go_wp2_with fail
  refine (rAt_uni c _ pos _ W (HC.out.carry HM0.out.low HM0.out.low.size) (HP.out.carry HM0.out.low HM0.out.low.size) hpl hbc).mono ?_
  rintro e W1 ⟨⟨r, orr, nr, kr, b1, rfl, hr, hb1t, hb1f⟩, hb⟩
  have HM1 := Lib.hid (HM0.out.carry hb)
  have HR := Lib.hid hr
  have HT1 := Lib.hid hb1t
  clear hb hr hb1t hb1f HM0 c0 c1 c2 c3 c4
  obtain ⟨c0, c1, c2, c3, c4⟩ := HM1.out.cc
  have HM2 := Lib.hid (HM1.out.carry ((Below.refl W1.heap.size W1).alloc (Nat.le_refl _) (.cells #[.string r.nm, .bool r.vr, .slice orr nr kr] 34)))
  go_upto_region 3 with fail

  go_cut [52] (fun s52 wx => s52 = .bool false ∧ Hid (ClSt w wx s t (.slice os s.ts.length cs) (.slice ot t.ts.length ct) (.slice ob bl.length cb) c (.slice oc c.ts.length cc) (.slice op pos.length cp) ps pt))
  case first =>
    have hA := ((Below.refl W1.heap.size W1).alloc (Nat.le_refl _) (.cells #[.string r.nm, .bool r.vr, .slice orr nr kr] 34))
    have HR2 := Lib.hid (HR.out.carry hA hA.size)
    clear hA
    obtain ⟨d0, d1, d2, d3, d4⟩ := HM2.out.cc
    clear c0 c1 c2 c3 c4
    cases b1 with
    | false => go_wp2_with fail; go_meet; exact ⟨rfl, HM2⟩
    | true =>
      by_cases hpn : pos = []
      · subst hpn
        go_wp2_with fail; go_meet; exact ⟨rfl, HM2⟩
      · have hpd : 0 < pos.length := List.length_pos_iff.2 hpn
        have HPN := Lib.hid hpn
        have HRA := Lib.hid (HT1.out rfl)
        clear hpn HT1
        go_wp2_with fail
        refine (rPrec_any L _ _ (HL.out.carry HM2.out.low HM2.out.low.size) HLB.out).mono ?_
        rintro e W2 ⟨rfl, hb⟩
        have HQ := Lib.hid (precC_zero (l := L))
        generalize precC L = q at *
        have HM3 := Lib.hid (HM2.out.carry hb)
        have HR3 := Lib.hid (HR2.out.carry hb hb.size)
        have HX3 := Lib.hid ((hb.block W1.heap.size (by simp)).trans (heap_new_at _ _ _ rfl))
        clear hb d0 d1 d2 d3 d4
        obtain ⟨d0, d1, d2, d3, d4⟩ := HM3.out.cc
        go_wp2_with fail
        rotate_left
        · go_meet; exact ⟨rfl, HM3⟩
        have HQ0 : Hid (PrecOk L) := Lib.hid (HQ.out.1 (by assumption))
        clear HQ
        refine (rcheck_iff c _ _ (HC.out.carry HM3.out.low HM3.out.low.size) hbc).mono ?_
        rintro e W3 ⟨⟨k, rfl, hk⟩, hb⟩
        have HK := Lib.hid hk
        have HM4 := Lib.hid (HM3.out.carry hb)
        have HR4 := Lib.hid (HR3.out.carry hb hb.size)
        have HX4 := Lib.hid ((hb.block W1.heap.size (Array.getElem?_eq_some_iff.1 HX3.out).1).trans HX3.out)
        clear hb hk d0 d1 d2 d3 d4
        obtain ⟨d0, d1, d2, d3, d4⟩ := HM4.out.cc
        have x0 := cells_of' HX4.out 0
        have x1 := cells_of' HX4.out 1
        have x2 := cells_of' HX4.out 2
        simp only [List.getElem?_toArray, List.getElem?_cons_zero, List.getElem?_cons_succ] at x0 x1 x2
        go_wp2_with fail
        rotate_left
        · go_meet; exact ⟨rfl, HM4⟩
        have hk : c.ok := HK.out.1 (by assumption)
        have HG := gp_proper HQ0.out hk HPN.out HRA.out
        have hbr := (hk.at6 HRA.out).bulk
        refine (lgreater_any L _ c r _ _ _ (HL.out.carry HM4.out.low HM4.out.low.size) HLB.out (HC.out.carry HM4.out.low HM4.out.low.size) HR4.out hbc (by omega)).mono ?_
        rintro e W4 ⟨rfl, hb⟩
        rw [HG]
        have HM5 := Lib.hid (HM4.out.carry hb)
        clear hb HG hbr hk d0 d1 d2 d3 d4 x0 x1 x2
        go_wp2_with fail; go_meet; exact ⟨rfl, HM5⟩
  case rest =>
  obtain ⟨rfl, HMr⟩ := hcut
  rename_i w3
  clear HM1 HM2 HR HT1 c0 c1 c2 c3 c4
  obtain ⟨a0, a1, a2, b0, b1, b2⟩ := HMr.out.aa
  go_wp2_with fail
  refine (HG1.out _ HMr.out.low).mono ?_
  rintro e W5 ⟨rfl, hb⟩
  have HM6 := Lib.hid (HMr.out.carry hb)
  clear hb HMr a0 a1 a2 b0 b1 b2
  have HGE := Lib.hid (rfl : gpB L s t = gpB L s t)
  by_cases hg : gpB L s t = true
  rotate_left
  · have hg' : gpB L s t = false := by simpa using hg
    rw [hg']
    go_wp2_with fail
    refine (HAL.out _ HM6.out.low).mono ?_
    rintro e W6 ⟨rfl, hb⟩
    go_wp2_with fail
    go_ret
    exact ⟨rfl, hb⟩
  rw [hg]
  have HG := Lib.hid hg
  clear hg HGE HG1
  go_wp2_with fail

  go_cut [87] (fun s87 wx => s87 = .bool false ∧ Hid (ClSt w wx s t (.slice os s.ts.length cs) (.slice ot t.ts.length ct) (.slice ob bl.length cb) c (.slice oc c.ts.length cc) (.slice op pos.length cp) ps pt))
  case first =>
    have HM10 := Lib.hid (HM6.out.carry (Below.refl _ W5).drew)
    have HTOk := Lib.hid (gpB_yes.1 HG.out).2.2.1
    have HSOk := Lib.hid (gpB_yes.1 HG.out).2.1
    by_cases hso : SubOk bl
    rotate_left
    · have HNS := Lib.hid hso
      clear hso
      refine wp_region_noPanic ?_
      refine wp_region_held_drew (S := fun w' => w'.cell? ⟨w.heap.size + 1, 0, none⟩ = some (.slice ob bl.length cb) ∧ w'.cell? ⟨ps, 0, none⟩ = some (.string s.nm) ∧ w'.cell? ⟨ps, 1, none⟩ = some (.bool s.vr) ∧ w'.cell? ⟨ps, 2, none⟩ = some (.slice os s.ts.length cs) ∧ w'.cell? ⟨pt, 0, none⟩ = some (.string t.nm) ∧ w'.cell? ⟨pt, 1, none⟩ = some (.bool t.vr) ∧ w'.cell? ⟨pt, 2, none⟩ = some (.slice ot t.ts.length ct)) (by kernel_rfl) HM10.out.seven (fun _ => ?_)
      simp only [List.size_toArray, List.length_cons, List.length_nil, Nat.reduceAdd]
      refine wpAnyH_take (i := 0) (v := ?_) (by simp only [List.getElem?_toArray, List.getElem?_cons_zero]; rfl) (by kernel_rfl) (by kernel_rfl) (by kernel_rfl) (fun _ _ _ h => h) (Or.inl ⟨by rfl, ?_⟩) HM10.out.seven ?_
      case refine_2 => (intro ww hSw; obtain ⟨s1, s2, s3, s4, s5, s6, s7⟩ := hSw; go_simp; try with_reducible rfl)
      try simp only [Act.put, List.setIfInBounds_toArray, List.set_cons_zero, List.set_cons_succ]
      refine wpAnyH_take (i := 1) (v := ?_) (by simp only [List.getElem?_toArray, List.getElem?_cons_zero, List.getElem?_cons_succ]; rfl) (by kernel_rfl) (by kernel_rfl) (by kernel_rfl) (fun _ _ _ h => h) (Or.inl ⟨by rfl, ?_⟩) HM10.out.seven ?_
      case refine_2 => (intro ww hSw; obtain ⟨s1, s2, s3, s4, s5, s6, s7⟩ := hSw; go_simp; try with_reducible rfl)
      try simp only [Act.put, List.setIfInBounds_toArray, List.set_cons_zero, List.set_cons_succ]
      refine wpAnyH_ready (rs := [2]) (by kernel_rfl) (by simp) ?_
      refine AllReadyH.cons (by simp only [List.getElem?_toArray, List.getElem?_cons_zero, List.getElem?_cons_succ]; rfl) (fun K' hK => ?_) AllReadyH.nil
      go_simp
      refine (rcheckSubst_iff bl _ _ (HBL.out.carry HM10.out.low HM10.out.low.size) hbb).mono ?_
      rintro e w11 ⟨⟨k, rfl, hk⟩, hb⟩
      have hk0 : ¬ k = 0 := fun e => HNS.out (hk.1 e)
      have hk1 : (k == 0) = false := by simpa using hk0
      clear hk
      have HM11 := Lib.hid (HM10.out.carry hb)
      clear hb
      refine hK.out _ _ HM11.out.seven (fun _ => ?_)
      clear hK
      try simp only [Act.put, List.setIfInBounds_toArray, List.set_cons_zero, List.set_cons_succ]
      refine wpAnyH_take (i := 3) (v := ?_) (by simp only [List.getElem?_toArray, List.getElem?_cons_zero, List.getElem?_cons_succ]; rfl) (by kernel_rfl) (by kernel_rfl) (by kernel_rfl) (fun _ _ _ h => h) (Or.inl ⟨by rfl, ?_⟩) HM11.out.seven ?_
      case refine_2 => (intro ww hSw; obtain ⟨s1, s2, s3, s4, s5, s6, s7⟩ := hSw; go_simp; try with_reducible rfl)
      try simp only [Act.put, List.setIfInBounds_toArray, List.set_cons_zero, List.set_cons_succ]
      refine wpAnyH_take (i := 4) (v := ?_) (by simp only [List.getElem?_toArray, List.getElem?_cons_zero, List.getElem?_cons_succ]; rfl) (by kernel_rfl) (by kernel_rfl) (by kernel_rfl) (fun _ _ _ h => h) (Or.inl ⟨by rfl, ?_⟩) HM11.out.seven ?_
      case refine_2 => (intro ww hSw; obtain ⟨s1, s2, s3, s4, s5, s6, s7⟩ := hSw; go_simp; try with_reducible rfl)
      try simp only [Act.put, List.setIfInBounds_toArray, List.set_cons_zero, List.set_cons_succ]
      refine wpAnyH_take (i := 5) (v := _) (by simp only [List.getElem?_toArray, List.getElem?_cons_zero, List.getElem?_cons_succ]; rfl) (by kernel_rfl) (by kernel_rfl) (by kernel_rfl) (fun _ _ _ h => h) (Or.inr ⟨by rfl, rfl⟩) HM11.out.seven ?_
      try simp only [Act.put, List.setIfInBounds_toArray, List.set_cons_zero, List.set_cons_succ]
      refine wpAnyH_take (i := 6) (v := _) (by simp only [List.getElem?_toArray, List.getElem?_cons_zero, List.getElem?_cons_succ]; rfl) (by kernel_rfl) (by kernel_rfl) (by kernel_rfl) (fun _ _ _ h => h) (Or.inr ⟨by rfl, rfl⟩) HM11.out.seven ?_
      try simp only [Act.put, List.setIfInBounds_toArray, List.set_cons_zero, List.set_cons_succ]
      refine wpAnyH_take (i := 7) (v := _) (by simp only [List.getElem?_toArray, List.getElem?_cons_zero, List.getElem?_cons_succ]; rfl) (by kernel_rfl) (by kernel_rfl) (by kernel_rfl) (fun _ _ _ h => h) (Or.inr ⟨by rfl, rfl⟩) HM11.out.seven ?_
      try simp only [Act.put, List.setIfInBounds_toArray, List.set_cons_zero, List.set_cons_succ]
      refine wpAnyH_take (i := 8) (v := _) (by simp only [List.getElem?_toArray, List.getElem?_cons_zero, List.getElem?_cons_succ]; rfl) (by kernel_rfl) (by kernel_rfl) (by kernel_rfl) (fun _ _ _ h => h) (Or.inr ⟨by rfl, rfl⟩) HM11.out.seven ?_
      try simp only [Act.put, List.setIfInBounds_toArray, List.set_cons_zero, List.set_cons_succ]
      refine wpAnyH_take (i := 9) (v := ?_) (by simp only [List.getElem?_toArray, List.getElem?_cons_zero, List.getElem?_cons_succ]; rfl) (by kernel_rfl) (by kernel_rfl) (by kernel_rfl) (fun _ _ _ h => h) (Or.inl ⟨by rfl, ?_⟩) HM11.out.seven ?_
      case refine_2 => (intro ww hSw; obtain ⟨s1, s2, s3, s4, s5, s6, s7⟩ := hSw; go_simp; try with_reducible rfl)
      try simp only [Act.put, List.setIfInBounds_toArray, List.set_cons_zero, List.set_cons_succ]
      refine wpAnyH_take (i := 10) (v := ?_) (by simp only [List.getElem?_toArray, List.getElem?_cons_zero, List.getElem?_cons_succ]; rfl) (by kernel_rfl) (by kernel_rfl) (by kernel_rfl) (fun _ _ _ h => h) (Or.inl ⟨by rfl, ?_⟩) HM11.out.seven ?_
      case refine_2 => (intro ww hSw; obtain ⟨s1, s2, s3, s4, s5, s6, s7⟩ := hSw; go_simp; try with_reducible rfl)
      try simp only [Act.put, List.setIfInBounds_toArray, List.set_cons_zero, List.set_cons_succ]
      refine wpAnyH_take (i := 11) (v := _) (by simp only [List.getElem?_toArray, List.getElem?_cons_zero, List.getElem?_cons_succ]; rfl) (by kernel_rfl) (by kernel_rfl) (by kernel_rfl) (fun _ _ _ h => h) (Or.inr ⟨by rfl, rfl⟩) HM11.out.seven ?_
      try simp only [Act.put, List.setIfInBounds_toArray, List.set_cons_zero, List.set_cons_succ]
      refine wpAnyH_take (i := 12) (v := _) (by simp only [List.getElem?_toArray, List.getElem?_cons_zero, List.getElem?_cons_succ]; rfl) (by kernel_rfl) (by kernel_rfl) (by kernel_rfl) (fun _ _ _ h => h) (Or.inr ⟨by rfl, rfl⟩) HM11.out.seven ?_
      try simp only [Act.put, List.setIfInBounds_toArray, List.set_cons_zero, List.set_cons_succ]
      refine wpAnyH_take (i := 13) (v := _) (by simp only [List.getElem?_toArray, List.getElem?_cons_zero, List.getElem?_cons_succ]; rfl) (by kernel_rfl) (by kernel_rfl) (by kernel_rfl) (fun _ _ _ h => h) (Or.inr ⟨by rfl, rfl⟩) HM11.out.seven ?_
      try simp only [Act.put, List.setIfInBounds_toArray, List.set_cons_zero, List.set_cons_succ]
      refine wpAnyH_take (i := 14) (v := _) (by simp only [List.getElem?_toArray, List.getElem?_cons_zero, List.getElem?_cons_succ]; rfl) (by kernel_rfl) (by kernel_rfl) (by kernel_rfl) (fun _ _ _ h => h) (Or.inr ⟨by rfl, rfl⟩) HM11.out.seven ?_
      try simp only [Act.put, List.setIfInBounds_toArray, List.set_cons_zero, List.set_cons_succ]
      refine wpAnyH_take (i := 15) (v := ?_) (by simp only [List.getElem?_toArray, List.getElem?_cons_zero, List.getElem?_cons_succ]; rfl) (by kernel_rfl) (by kernel_rfl) (by kernel_rfl) (fun _ _ _ h => h) (Or.inl ⟨by rfl, ?_⟩) HM11.out.seven ?_
      case refine_2 => (intro ww hSw; obtain ⟨s1, s2, s3, s4, s5, s6, s7⟩ := hSw; go_simp; try with_reducible rfl)
      try simp only [Act.put, List.setIfInBounds_toArray, List.set_cons_zero, List.set_cons_succ]
      refine wpAnyH_take (i := 16) (v := ?_) (by simp only [List.getElem?_toArray, List.getElem?_cons_zero, List.getElem?_cons_succ]; rfl) (by kernel_rfl) (by kernel_rfl) (by kernel_rfl) (fun _ _ _ h => h) (Or.inl ⟨by rfl, ?_⟩) HM11.out.seven ?_
      case refine_2 => (intro ww hSw; obtain ⟨s1, s2, s3, s4, s5, s6, s7⟩ := hSw; go_simp; try with_reducible rfl)
      try simp only [Act.put, List.setIfInBounds_toArray, List.set_cons_zero, List.set_cons_succ]
      refine wpAnyH_take (i := 17) (v := _) (by simp only [List.getElem?_toArray, List.getElem?_cons_zero, List.getElem?_cons_succ]; rfl) (by kernel_rfl) (by kernel_rfl) (by kernel_rfl) (fun _ _ _ h => h) (Or.inr ⟨by rfl, rfl⟩) HM11.out.seven ?_
      try simp only [Act.put, List.setIfInBounds_toArray, List.set_cons_zero, List.set_cons_succ]
      refine wpAnyH_take (i := 18) (v := _) (by simp only [List.getElem?_toArray, List.getElem?_cons_zero, List.getElem?_cons_succ]; rfl) (by kernel_rfl) (by kernel_rfl) (by kernel_rfl) (fun _ _ _ h => h) (Or.inr ⟨by rfl, rfl⟩) HM11.out.seven ?_
      try simp only [Act.put, List.setIfInBounds_toArray, List.set_cons_zero, List.set_cons_succ]
      refine wpAnyH_take (i := 19) (v := _) (by simp only [List.getElem?_toArray, List.getElem?_cons_zero, List.getElem?_cons_succ]; rfl) (by kernel_rfl) (by kernel_rfl) (by kernel_rfl) (fun _ _ _ h => h) (Or.inr ⟨by rfl, rfl⟩) HM11.out.seven ?_
      try simp only [Act.put, List.setIfInBounds_toArray, List.set_cons_zero, List.set_cons_succ]
      refine wpAnyH_take (i := 20) (v := _) (by simp only [List.getElem?_toArray, List.getElem?_cons_zero, List.getElem?_cons_succ]; rfl) (by kernel_rfl) (by kernel_rfl) (by kernel_rfl) (fun _ _ _ h => h) (Or.inr ⟨by rfl, rfl⟩) HM11.out.seven ?_
      try simp only [Act.put, List.setIfInBounds_toArray, List.set_cons_zero, List.set_cons_succ]
      refine wpAnyH_take (i := 21) (v := _) (by simp only [List.getElem?_toArray, List.getElem?_cons_zero, List.getElem?_cons_succ]; rfl) (by kernel_rfl) (by kernel_rfl) (by kernel_rfl) (fun _ _ _ h => h) (Or.inr ⟨by rfl, rfl⟩) HM11.out.seven ?_
      try simp only [Act.put, List.setIfInBounds_toArray, List.set_cons_zero, List.set_cons_succ]
      refine wpAnyH_take (i := 22) (v := _) (by simp only [List.getElem?_toArray, List.getElem?_cons_zero, List.getElem?_cons_succ]; rfl) (by kernel_rfl) (by kernel_rfl) (by kernel_rfl) (fun _ _ _ h => h) (Or.inr ⟨by rfl, rfl⟩) HM11.out.seven ?_
      try simp only [Act.put, List.setIfInBounds_toArray, List.set_cons_zero, List.set_cons_succ]
      refine wpAnyH_take (i := 23) (v := _) (by simp only [List.getElem?_toArray, List.getElem?_cons_zero, List.getElem?_cons_succ]; rfl) (by kernel_rfl) (by kernel_rfl) (by kernel_rfl) (fun _ _ _ h => h) (Or.inr ⟨by rfl, rfl⟩) HM11.out.seven ?_
      try simp only [Act.put, List.setIfInBounds_toArray, List.set_cons_zero, List.set_cons_succ]
      refine wpAnyH_take (i := 24) (v := _) (by simp only [List.getElem?_toArray, List.getElem?_cons_zero, List.getElem?_cons_succ]; rfl) (by kernel_rfl) (by kernel_rfl) (by kernel_rfl) (fun _ _ _ h => h) (Or.inr ⟨by rfl, rfl⟩) HM11.out.seven ?_
      try simp only [Act.put, List.setIfInBounds_toArray, List.set_cons_zero, List.set_cons_succ]
      refine wpAnyH_take (i := 25) (v := _) (by simp only [List.getElem?_toArray, List.getElem?_cons_zero, List.getElem?_cons_succ]; rfl) (by kernel_rfl) (by kernel_rfl) (by kernel_rfl) (fun _ _ _ h => h) (Or.inr ⟨by rfl, rfl⟩) HM11.out.seven ?_
      try simp only [Act.put, List.setIfInBounds_toArray, List.set_cons_zero, List.set_cons_succ]
      refine wpAnyH_take (i := 26) (v := _) (by simp only [List.getElem?_toArray, List.getElem?_cons_zero, List.getElem?_cons_succ]; rfl) (by kernel_rfl) (by kernel_rfl) (by kernel_rfl) (fun _ _ _ h => h) (Or.inr ⟨by rfl, rfl⟩) HM11.out.seven ?_
      try simp only [Act.put, List.setIfInBounds_toArray, List.set_cons_zero, List.set_cons_succ]
      refine wpAnyH_take (i := 27) (v := _) (by simp only [List.getElem?_toArray, List.getElem?_cons_zero, List.getElem?_cons_succ]; rfl) (by kernel_rfl) (by kernel_rfl) (by kernel_rfl) (fun _ _ _ h => h) (Or.inr ⟨by rfl, rfl⟩) HM11.out.seven ?_
      try simp only [Act.put, List.setIfInBounds_toArray, List.set_cons_zero, List.set_cons_succ]
      refine wpAnyH_take (i := 28) (v := ?_) (by simp only [List.getElem?_toArray, List.getElem?_cons_zero, List.getElem?_cons_succ]; rfl) (by kernel_rfl) (by kernel_rfl) (by kernel_rfl) (fun _ _ _ h => h) (Or.inl ⟨by rfl, ?_⟩) HM11.out.seven ?_
      case refine_2 => (intro ww hSw; obtain ⟨s1, s2, s3, s4, s5, s6, s7⟩ := hSw; go_simp; try with_reducible rfl)
      try simp only [Act.put, List.setIfInBounds_toArray, List.set_cons_zero, List.set_cons_succ]
      refine wpAnyH_done (by kernel_rfl) ?_ _
      refine NoPanic.normal ?_
      all_goals (go_wp2_with fail; go_meet; exact ⟨rfl, HM11⟩)
    have HSO := Lib.hid hso
    clear hso
    by_cases hfa : (apB bl s).size ≤ 4000 ∧ (apB bl s).depth ≤ 200
    rotate_left
    · have HFA : Hid (decide ((apB bl s).size ≤ 4000 ∧ (apB bl s).depth ≤ 200) = false) := Lib.hid (decide_eq_false hfa)
      clear hfa
      refine wp_region_noPanic ?_
      refine wp_region_held_drew (S := fun w' => w'.cell? ⟨w.heap.size + 1, 0, none⟩ = some (.slice ob bl.length cb) ∧ w'.cell? ⟨ps, 0, none⟩ = some (.string s.nm) ∧ w'.cell? ⟨ps, 1, none⟩ = some (.bool s.vr) ∧ w'.cell? ⟨ps, 2, none⟩ = some (.slice os s.ts.length cs) ∧ w'.cell? ⟨pt, 0, none⟩ = some (.string t.nm) ∧ w'.cell? ⟨pt, 1, none⟩ = some (.bool t.vr) ∧ w'.cell? ⟨pt, 2, none⟩ = some (.slice ot t.ts.length ct)) (by kernel_rfl) HM10.out.seven (fun _ => ?_)
      simp only [List.size_toArray, List.length_cons, List.length_nil, Nat.reduceAdd]
      refine wpAnyH_take (i := 0) (v := ?_) (by simp only [List.getElem?_toArray, List.getElem?_cons_zero]; rfl) (by kernel_rfl) (by kernel_rfl) (by kernel_rfl) (fun _ _ _ h => h) (Or.inl ⟨by rfl, ?_⟩) HM10.out.seven ?_
      case refine_2 => (intro ww hSw; obtain ⟨s1, s2, s3, s4, s5, s6, s7⟩ := hSw; go_simp; try with_reducible rfl)
      try simp only [Act.put, List.setIfInBounds_toArray, List.set_cons_zero, List.set_cons_succ]
      refine wpAnyH_take (i := 1) (v := ?_) (by simp only [List.getElem?_toArray, List.getElem?_cons_zero, List.getElem?_cons_succ]; rfl) (by kernel_rfl) (by kernel_rfl) (by kernel_rfl) (fun _ _ _ h => h) (Or.inl ⟨by rfl, ?_⟩) HM10.out.seven ?_
      case refine_2 => (intro ww hSw; obtain ⟨s1, s2, s3, s4, s5, s6, s7⟩ := hSw; go_simp; try with_reducible rfl)
      try simp only [Act.put, List.setIfInBounds_toArray, List.set_cons_zero, List.set_cons_succ]
      refine wpAnyH_ready (rs := [2]) (by kernel_rfl) (by simp) ?_
      refine AllReadyH.cons (by simp only [List.getElem?_toArray, List.getElem?_cons_zero, List.getElem?_cons_succ]; rfl) (fun K' hK => ?_) AllReadyH.nil
      go_simp
      refine (rcheckSubst_iff bl _ _ (HBL.out.carry HM10.out.low HM10.out.low.size) hbb).mono ?_
      rintro e w11 ⟨⟨k, rfl, hk⟩, hb⟩
      obtain rfl := hk.2 HSO.out
      clear hk
      have HM11 := Lib.hid (HM10.out.carry hb)
      clear hb
      refine hK.out _ _ HM11.out.seven (fun _ => ?_)
      clear hK
      try simp only [Act.put, List.setIfInBounds_toArray, List.set_cons_zero, List.set_cons_succ]
      refine wpAnyH_take (i := 3) (v := ?_) (by simp only [List.getElem?_toArray, List.getElem?_cons_zero, List.getElem?_cons_succ]; rfl) (by kernel_rfl) (by kernel_rfl) (by kernel_rfl) (fun _ _ _ h => h) (Or.inl ⟨by rfl, ?_⟩) HM11.out.seven ?_
      case refine_2 => (intro ww hSw; obtain ⟨s1, s2, s3, s4, s5, s6, s7⟩ := hSw; go_simp; try with_reducible rfl)
      try simp only [Act.put, List.setIfInBounds_toArray, List.set_cons_zero, List.set_cons_succ]
      refine wpAnyH_take (i := 4) (v := ?_) (by simp only [List.getElem?_toArray, List.getElem?_cons_zero, List.getElem?_cons_succ]; rfl) (by kernel_rfl) (by kernel_rfl) (by kernel_rfl) (fun _ _ _ h => h) (Or.inl ⟨by rfl, ?_⟩) HM11.out.seven ?_
      case refine_2 => (intro ww hSw; obtain ⟨s1, s2, s3, s4, s5, s6, s7⟩ := hSw; go_simp; try with_reducible rfl)
      try simp only [Act.put, List.setIfInBounds_toArray, List.set_cons_zero, List.set_cons_succ]
      refine wpAnyH_take (i := 5) (v := ?_) (by simp only [List.getElem?_toArray, List.getElem?_cons_zero, List.getElem?_cons_succ]; rfl) (by kernel_rfl) (by kernel_rfl) (by kernel_rfl) (fun _ _ _ h => h) (Or.inl ⟨by rfl, ?_⟩) HM11.out.seven ?_
      case refine_2 => (intro ww hSw; obtain ⟨s1, s2, s3, s4, s5, s6, s7⟩ := hSw; go_simp; try with_reducible rfl)
      try simp only [Act.put, List.setIfInBounds_toArray, List.set_cons_zero, List.set_cons_succ]
      refine wpAnyH_take (i := 6) (v := ?_) (by simp only [List.getElem?_toArray, List.getElem?_cons_zero, List.getElem?_cons_succ]; rfl) (by kernel_rfl) (by kernel_rfl) (by kernel_rfl) (fun _ _ _ h => h) (Or.inl ⟨by rfl, ?_⟩) HM11.out.seven ?_
      case refine_2 => (intro ww hSw; obtain ⟨s1, s2, s3, s4, s5, s6, s7⟩ := hSw; go_simp; try with_reducible rfl)
      try simp only [Act.put, List.setIfInBounds_toArray, List.set_cons_zero, List.set_cons_succ]
      refine wpAnyH_take (i := 7) (v := ?_) (by simp only [List.getElem?_toArray, List.getElem?_cons_zero, List.getElem?_cons_succ]; rfl) (by kernel_rfl) (by kernel_rfl) (by kernel_rfl) (fun _ _ _ h => h) (Or.inl ⟨by rfl, ?_⟩) HM11.out.seven ?_
      case refine_2 => (intro ww hSw; obtain ⟨s1, s2, s3, s4, s5, s6, s7⟩ := hSw; go_simp; try with_reducible rfl)
      try simp only [Act.put, List.setIfInBounds_toArray, List.set_cons_zero, List.set_cons_succ]
      refine wpAnyH_ready (rs := [8]) (by kernel_rfl) (by simp) ?_
      refine AllReadyH.cons (by simp only [List.getElem?_toArray, List.getElem?_cons_zero, List.getElem?_cons_succ]; rfl) (fun K' hK => ?_) AllReadyH.nil
      go_simp
      refine (rfits_any bl (.slice ob bl.length cb) w.heap.size (by omega) (fun q hq => ⟨(HSO.out.terms q hq).2.1, by have := (HSO.out.terms q hq).bulk; omega⟩) s _ _ HM11.out.low.size (HBL.out.carry HM11.out.low (Nat.le_refl _)) (HS.out.carry HM11.out.low HM11.out.low.size) hbs HSOk.out.1.bare).mono ?_
      rintro e w12 ⟨rfl, hb⟩
      rw [HFA.out]
      have HM12 := Lib.hid (HM11.out.carry hb)
      clear hb
      refine hK.out _ _ HM12.out.seven (fun _ => ?_)
      clear hK
      try simp only [Act.put, List.setIfInBounds_toArray, List.set_cons_zero, List.set_cons_succ]
      refine wpAnyH_take (i := 9) (v := ?_) (by simp only [List.getElem?_toArray, List.getElem?_cons_zero, List.getElem?_cons_succ]; rfl) (by kernel_rfl) (by kernel_rfl) (by kernel_rfl) (fun _ _ _ h => h) (Or.inl ⟨by rfl, ?_⟩) HM12.out.seven ?_
      case refine_2 => (intro ww hSw; obtain ⟨s1, s2, s3, s4, s5, s6, s7⟩ := hSw; go_simp; try with_reducible rfl)
      try simp only [Act.put, List.setIfInBounds_toArray, List.set_cons_zero, List.set_cons_succ]
      refine wpAnyH_take (i := 10) (v := ?_) (by simp only [List.getElem?_toArray, List.getElem?_cons_zero, List.getElem?_cons_succ]; rfl) (by kernel_rfl) (by kernel_rfl) (by kernel_rfl) (fun _ _ _ h => h) (Or.inl ⟨by rfl, ?_⟩) HM12.out.seven ?_
      case refine_2 => (intro ww hSw; obtain ⟨s1, s2, s3, s4, s5, s6, s7⟩ := hSw; go_simp; try with_reducible rfl)
      try simp only [Act.put, List.setIfInBounds_toArray, List.set_cons_zero, List.set_cons_succ]
      refine wpAnyH_take (i := 11) (v := _) (by simp only [List.getElem?_toArray, List.getElem?_cons_zero, List.getElem?_cons_succ]; rfl) (by kernel_rfl) (by kernel_rfl) (by kernel_rfl) (fun _ _ _ h => h) (Or.inr ⟨by rfl, rfl⟩) HM12.out.seven ?_
      try simp only [Act.put, List.setIfInBounds_toArray, List.set_cons_zero, List.set_cons_succ]
      refine wpAnyH_take (i := 12) (v := _) (by simp only [List.getElem?_toArray, List.getElem?_cons_zero, List.getElem?_cons_succ]; rfl) (by kernel_rfl) (by kernel_rfl) (by kernel_rfl) (fun _ _ _ h => h) (Or.inr ⟨by rfl, rfl⟩) HM12.out.seven ?_
      try simp only [Act.put, List.setIfInBounds_toArray, List.set_cons_zero, List.set_cons_succ]
      refine wpAnyH_take (i := 13) (v := _) (by simp only [List.getElem?_toArray, List.getElem?_cons_zero, List.getElem?_cons_succ]; rfl) (by kernel_rfl) (by kernel_rfl) (by kernel_rfl) (fun _ _ _ h => h) (Or.inr ⟨by rfl, rfl⟩) HM12.out.seven ?_
      try simp only [Act.put, List.setIfInBounds_toArray, List.set_cons_zero, List.set_cons_succ]
      refine wpAnyH_take (i := 14) (v := _) (by simp only [List.getElem?_toArray, List.getElem?_cons_zero, List.getElem?_cons_succ]; rfl) (by kernel_rfl) (by kernel_rfl) (by kernel_rfl) (fun _ _ _ h => h) (Or.inr ⟨by rfl, rfl⟩) HM12.out.seven ?_
      try simp only [Act.put, List.setIfInBounds_toArray, List.set_cons_zero, List.set_cons_succ]
      refine wpAnyH_take (i := 15) (v := ?_) (by simp only [List.getElem?_toArray, List.getElem?_cons_zero, List.getElem?_cons_succ]; rfl) (by kernel_rfl) (by kernel_rfl) (by kernel_rfl) (fun _ _ _ h => h) (Or.inl ⟨by rfl, ?_⟩) HM12.out.seven ?_
      case refine_2 => (intro ww hSw; obtain ⟨s1, s2, s3, s4, s5, s6, s7⟩ := hSw; go_simp; try with_reducible rfl)
      try simp only [Act.put, List.setIfInBounds_toArray, List.set_cons_zero, List.set_cons_succ]
      refine wpAnyH_take (i := 16) (v := ?_) (by simp only [List.getElem?_toArray, List.getElem?_cons_zero, List.getElem?_cons_succ]; rfl) (by kernel_rfl) (by kernel_rfl) (by kernel_rfl) (fun _ _ _ h => h) (Or.inl ⟨by rfl, ?_⟩) HM12.out.seven ?_
      case refine_2 => (intro ww hSw; obtain ⟨s1, s2, s3, s4, s5, s6, s7⟩ := hSw; go_simp; try with_reducible rfl)
      try simp only [Act.put, List.setIfInBounds_toArray, List.set_cons_zero, List.set_cons_succ]
      refine wpAnyH_take (i := 17) (v := _) (by simp only [List.getElem?_toArray, List.getElem?_cons_zero, List.getElem?_cons_succ]; rfl) (by kernel_rfl) (by kernel_rfl) (by kernel_rfl) (fun _ _ _ h => h) (Or.inr ⟨by rfl, rfl⟩) HM12.out.seven ?_
      try simp only [Act.put, List.setIfInBounds_toArray, List.set_cons_zero, List.set_cons_succ]
      refine wpAnyH_take (i := 18) (v := _) (by simp only [List.getElem?_toArray, List.getElem?_cons_zero, List.getElem?_cons_succ]; rfl) (by kernel_rfl) (by kernel_rfl) (by kernel_rfl) (fun _ _ _ h => h) (Or.inr ⟨by rfl, rfl⟩) HM12.out.seven ?_
      try simp only [Act.put, List.setIfInBounds_toArray, List.set_cons_zero, List.set_cons_succ]
      refine wpAnyH_take (i := 19) (v := _) (by simp only [List.getElem?_toArray, List.getElem?_cons_zero, List.getElem?_cons_succ]; rfl) (by kernel_rfl) (by kernel_rfl) (by kernel_rfl) (fun _ _ _ h => h) (Or.inr ⟨by rfl, rfl⟩) HM12.out.seven ?_
      try simp only [Act.put, List.setIfInBounds_toArray, List.set_cons_zero, List.set_cons_succ]
      refine wpAnyH_take (i := 20) (v := _) (by simp only [List.getElem?_toArray, List.getElem?_cons_zero, List.getElem?_cons_succ]; rfl) (by kernel_rfl) (by kernel_rfl) (by kernel_rfl) (fun _ _ _ h => h) (Or.inr ⟨by rfl, rfl⟩) HM12.out.seven ?_
      try simp only [Act.put, List.setIfInBounds_toArray, List.set_cons_zero, List.set_cons_succ]
      refine wpAnyH_take (i := 21) (v := _) (by simp only [List.getElem?_toArray, List.getElem?_cons_zero, List.getElem?_cons_succ]; rfl) (by kernel_rfl) (by kernel_rfl) (by kernel_rfl) (fun _ _ _ h => h) (Or.inr ⟨by rfl, rfl⟩) HM12.out.seven ?_
      try simp only [Act.put, List.setIfInBounds_toArray, List.set_cons_zero, List.set_cons_succ]
      refine wpAnyH_take (i := 22) (v := _) (by simp only [List.getElem?_toArray, List.getElem?_cons_zero, List.getElem?_cons_succ]; rfl) (by kernel_rfl) (by kernel_rfl) (by kernel_rfl) (fun _ _ _ h => h) (Or.inr ⟨by rfl, rfl⟩) HM12.out.seven ?_
      try simp only [Act.put, List.setIfInBounds_toArray, List.set_cons_zero, List.set_cons_succ]
      refine wpAnyH_take (i := 23) (v := _) (by simp only [List.getElem?_toArray, List.getElem?_cons_zero, List.getElem?_cons_succ]; rfl) (by kernel_rfl) (by kernel_rfl) (by kernel_rfl) (fun _ _ _ h => h) (Or.inr ⟨by rfl, rfl⟩) HM12.out.seven ?_
      try simp only [Act.put, List.setIfInBounds_toArray, List.set_cons_zero, List.set_cons_succ]
      refine wpAnyH_take (i := 24) (v := _) (by simp only [List.getElem?_toArray, List.getElem?_cons_zero, List.getElem?_cons_succ]; rfl) (by kernel_rfl) (by kernel_rfl) (by kernel_rfl) (fun _ _ _ h => h) (Or.inr ⟨by rfl, rfl⟩) HM12.out.seven ?_
      try simp only [Act.put, List.setIfInBounds_toArray, List.set_cons_zero, List.set_cons_succ]
      refine wpAnyH_take (i := 25) (v := _) (by simp only [List.getElem?_toArray, List.getElem?_cons_zero, List.getElem?_cons_succ]; rfl) (by kernel_rfl) (by kernel_rfl) (by kernel_rfl) (fun _ _ _ h => h) (Or.inr ⟨by rfl, rfl⟩) HM12.out.seven ?_
      try simp only [Act.put, List.setIfInBounds_toArray, List.set_cons_zero, List.set_cons_succ]
      refine wpAnyH_take (i := 26) (v := _) (by simp only [List.getElem?_toArray, List.getElem?_cons_zero, List.getElem?_cons_succ]; rfl) (by kernel_rfl) (by kernel_rfl) (by kernel_rfl) (fun _ _ _ h => h) (Or.inr ⟨by rfl, rfl⟩) HM12.out.seven ?_
      try simp only [Act.put, List.setIfInBounds_toArray, List.set_cons_zero, List.set_cons_succ]
      refine wpAnyH_take (i := 27) (v := _) (by simp only [List.getElem?_toArray, List.getElem?_cons_zero, List.getElem?_cons_succ]; rfl) (by kernel_rfl) (by kernel_rfl) (by kernel_rfl) (fun _ _ _ h => h) (Or.inr ⟨by rfl, rfl⟩) HM12.out.seven ?_
      try simp only [Act.put, List.setIfInBounds_toArray, List.set_cons_zero, List.set_cons_succ]
      refine wpAnyH_take (i := 28) (v := ?_) (by simp only [List.getElem?_toArray, List.getElem?_cons_zero, List.getElem?_cons_succ]; rfl) (by kernel_rfl) (by kernel_rfl) (by kernel_rfl) (fun _ _ _ h => h) (Or.inl ⟨by rfl, ?_⟩) HM12.out.seven ?_
      case refine_2 => (intro ww hSw; obtain ⟨s1, s2, s3, s4, s5, s6, s7⟩ := hSw; go_simp; try with_reducible rfl)
      try simp only [Act.put, List.setIfInBounds_toArray, List.set_cons_zero, List.set_cons_succ]
      refine wpAnyH_done (by kernel_rfl) ?_ _
      refine NoPanic.normal ?_
      all_goals (go_wp2_with fail; go_meet; exact ⟨rfl, HM12⟩)
    have HFA : Hid (decide ((apB bl s).size ≤ 4000 ∧ (apB bl s).depth ≤ 200) = true) := Lib.hid (decide_eq_true hfa)
    have HFA' := Lib.hid hfa
    have HBA : Hid ((apB bl s).bulk ≤ 1048576) := Lib.hid (by have := Tm.ok.bulk (t := apB bl s) ⟨apB_formed6 (fun q hq => (HSO.out.terms q hq).1) HSOk.out.1, hfa.1, hfa.2⟩; omega)
    clear hfa
    by_cases hfb : (apB bl t).size ≤ 4000 ∧ (apB bl t).depth ≤ 200
    rotate_left
    · have HFB : Hid (decide ((apB bl t).size ≤ 4000 ∧ (apB bl t).depth ≤ 200) = false) := Lib.hid (decide_eq_false hfb)
      clear hfb
      refine wp_region_noPanic ?_
      refine wp_region_held_drew (S := fun w' => w'.cell? ⟨w.heap.size + 1, 0, none⟩ = some (.slice ob bl.length cb) ∧ w'.cell? ⟨ps, 0, none⟩ = some (.string s.nm) ∧ w'.cell? ⟨ps, 1, none⟩ = some (.bool s.vr) ∧ w'.cell? ⟨ps, 2, none⟩ = some (.slice os s.ts.length cs) ∧ w'.cell? ⟨pt, 0, none⟩ = some (.string t.nm) ∧ w'.cell? ⟨pt, 1, none⟩ = some (.bool t.vr) ∧ w'.cell? ⟨pt, 2, none⟩ = some (.slice ot t.ts.length ct)) (by kernel_rfl) HM10.out.seven (fun _ => ?_)
      simp only [List.size_toArray, List.length_cons, List.length_nil, Nat.reduceAdd]
      refine wpAnyH_take (i := 0) (v := ?_) (by simp only [List.getElem?_toArray, List.getElem?_cons_zero]; rfl) (by kernel_rfl) (by kernel_rfl) (by kernel_rfl) (fun _ _ _ h => h) (Or.inl ⟨by rfl, ?_⟩) HM10.out.seven ?_
      case refine_2 => (intro ww hSw; obtain ⟨s1, s2, s3, s4, s5, s6, s7⟩ := hSw; go_simp; try with_reducible rfl)
      try simp only [Act.put, List.setIfInBounds_toArray, List.set_cons_zero, List.set_cons_succ]
      refine wpAnyH_take (i := 1) (v := ?_) (by simp only [List.getElem?_toArray, List.getElem?_cons_zero, List.getElem?_cons_succ]; rfl) (by kernel_rfl) (by kernel_rfl) (by kernel_rfl) (fun _ _ _ h => h) (Or.inl ⟨by rfl, ?_⟩) HM10.out.seven ?_
      case refine_2 => (intro ww hSw; obtain ⟨s1, s2, s3, s4, s5, s6, s7⟩ := hSw; go_simp; try with_reducible rfl)
      try simp only [Act.put, List.setIfInBounds_toArray, List.set_cons_zero, List.set_cons_succ]
      refine wpAnyH_ready (rs := [2]) (by kernel_rfl) (by simp) ?_
      refine AllReadyH.cons (by simp only [List.getElem?_toArray, List.getElem?_cons_zero, List.getElem?_cons_succ]; rfl) (fun K' hK => ?_) AllReadyH.nil
      go_simp
      refine (rcheckSubst_iff bl _ _ (HBL.out.carry HM10.out.low HM10.out.low.size) hbb).mono ?_
      rintro e w11 ⟨⟨k, rfl, hk⟩, hb⟩
      obtain rfl := hk.2 HSO.out
      clear hk
      have HM11 := Lib.hid (HM10.out.carry hb)
      clear hb
      refine hK.out _ _ HM11.out.seven (fun _ => ?_)
      clear hK
      try simp only [Act.put, List.setIfInBounds_toArray, List.set_cons_zero, List.set_cons_succ]
      refine wpAnyH_take (i := 3) (v := ?_) (by simp only [List.getElem?_toArray, List.getElem?_cons_zero, List.getElem?_cons_succ]; rfl) (by kernel_rfl) (by kernel_rfl) (by kernel_rfl) (fun _ _ _ h => h) (Or.inl ⟨by rfl, ?_⟩) HM11.out.seven ?_
      case refine_2 => (intro ww hSw; obtain ⟨s1, s2, s3, s4, s5, s6, s7⟩ := hSw; go_simp; try with_reducible rfl)
      try simp only [Act.put, List.setIfInBounds_toArray, List.set_cons_zero, List.set_cons_succ]
      refine wpAnyH_take (i := 4) (v := ?_) (by simp only [List.getElem?_toArray, List.getElem?_cons_zero, List.getElem?_cons_succ]; rfl) (by kernel_rfl) (by kernel_rfl) (by kernel_rfl) (fun _ _ _ h => h) (Or.inl ⟨by rfl, ?_⟩) HM11.out.seven ?_
      case refine_2 => (intro ww hSw; obtain ⟨s1, s2, s3, s4, s5, s6, s7⟩ := hSw; go_simp; try with_reducible rfl)
      try simp only [Act.put, List.setIfInBounds_toArray, List.set_cons_zero, List.set_cons_succ]
      refine wpAnyH_take (i := 5) (v := ?_) (by simp only [List.getElem?_toArray, List.getElem?_cons_zero, List.getElem?_cons_succ]; rfl) (by kernel_rfl) (by kernel_rfl) (by kernel_rfl) (fun _ _ _ h => h) (Or.inl ⟨by rfl, ?_⟩) HM11.out.seven ?_
      case refine_2 => (intro ww hSw; obtain ⟨s1, s2, s3, s4, s5, s6, s7⟩ := hSw; go_simp; try with_reducible rfl)
      try simp only [Act.put, List.setIfInBounds_toArray, List.set_cons_zero, List.set_cons_succ]
      refine wpAnyH_take (i := 6) (v := ?_) (by simp only [List.getElem?_toArray, List.getElem?_cons_zero, List.getElem?_cons_succ]; rfl) (by kernel_rfl) (by kernel_rfl) (by kernel_rfl) (fun _ _ _ h => h) (Or.inl ⟨by rfl, ?_⟩) HM11.out.seven ?_
      case refine_2 => (intro ww hSw; obtain ⟨s1, s2, s3, s4, s5, s6, s7⟩ := hSw; go_simp; try with_reducible rfl)
      try simp only [Act.put, List.setIfInBounds_toArray, List.set_cons_zero, List.set_cons_succ]
      refine wpAnyH_take (i := 7) (v := ?_) (by simp only [List.getElem?_toArray, List.getElem?_cons_zero, List.getElem?_cons_succ]; rfl) (by kernel_rfl) (by kernel_rfl) (by kernel_rfl) (fun _ _ _ h => h) (Or.inl ⟨by rfl, ?_⟩) HM11.out.seven ?_
      case refine_2 => (intro ww hSw; obtain ⟨s1, s2, s3, s4, s5, s6, s7⟩ := hSw; go_simp; try with_reducible rfl)
      try simp only [Act.put, List.setIfInBounds_toArray, List.set_cons_zero, List.set_cons_succ]
      refine wpAnyH_ready (rs := [8]) (by kernel_rfl) (by simp) ?_
      refine AllReadyH.cons (by simp only [List.getElem?_toArray, List.getElem?_cons_zero, List.getElem?_cons_succ]; rfl) (fun K' hK => ?_) AllReadyH.nil
      go_simp
      refine (rfits_any bl (.slice ob bl.length cb) w.heap.size (by omega) (fun q hq => ⟨(HSO.out.terms q hq).2.1, by have := (HSO.out.terms q hq).bulk; omega⟩) s _ _ HM11.out.low.size (HBL.out.carry HM11.out.low (Nat.le_refl _)) (HS.out.carry HM11.out.low HM11.out.low.size) hbs HSOk.out.1.bare).mono ?_
      rintro e w12 ⟨rfl, hb⟩
      rw [HFA.out]
      have HM12 := Lib.hid (HM11.out.carry hb)
      clear hb
      refine hK.out _ _ HM12.out.seven (fun _ => ?_)
      clear hK
      try simp only [Act.put, List.setIfInBounds_toArray, List.set_cons_zero, List.set_cons_succ]
      refine wpAnyH_take (i := 9) (v := ?_) (by simp only [List.getElem?_toArray, List.getElem?_cons_zero, List.getElem?_cons_succ]; rfl) (by kernel_rfl) (by kernel_rfl) (by kernel_rfl) (fun _ _ _ h => h) (Or.inl ⟨by rfl, ?_⟩) HM12.out.seven ?_
      case refine_2 => (intro ww hSw; obtain ⟨s1, s2, s3, s4, s5, s6, s7⟩ := hSw; go_simp; try with_reducible rfl)
      try simp only [Act.put, List.setIfInBounds_toArray, List.set_cons_zero, List.set_cons_succ]
      refine wpAnyH_take (i := 10) (v := ?_) (by simp only [List.getElem?_toArray, List.getElem?_cons_zero, List.getElem?_cons_succ]; rfl) (by kernel_rfl) (by kernel_rfl) (by kernel_rfl) (fun _ _ _ h => h) (Or.inl ⟨by rfl, ?_⟩) HM12.out.seven ?_
      case refine_2 => (intro ww hSw; obtain ⟨s1, s2, s3, s4, s5, s6, s7⟩ := hSw; go_simp; try with_reducible rfl)
      try simp only [Act.put, List.setIfInBounds_toArray, List.set_cons_zero, List.set_cons_succ]
      refine wpAnyH_take (i := 11) (v := ?_) (by simp only [List.getElem?_toArray, List.getElem?_cons_zero, List.getElem?_cons_succ]; rfl) (by kernel_rfl) (by kernel_rfl) (by kernel_rfl) (fun _ _ _ h => h) (Or.inl ⟨by rfl, ?_⟩) HM12.out.seven ?_
      case refine_2 => (intro ww hSw; obtain ⟨s1, s2, s3, s4, s5, s6, s7⟩ := hSw; go_simp; try with_reducible rfl)
      try simp only [Act.put, List.setIfInBounds_toArray, List.set_cons_zero, List.set_cons_succ]
      refine wpAnyH_take (i := 12) (v := ?_) (by simp only [List.getElem?_toArray, List.getElem?_cons_zero, List.getElem?_cons_succ]; rfl) (by kernel_rfl) (by kernel_rfl) (by kernel_rfl) (fun _ _ _ h => h) (Or.inl ⟨by rfl, ?_⟩) HM12.out.seven ?_
      case refine_2 => (intro ww hSw; obtain ⟨s1, s2, s3, s4, s5, s6, s7⟩ := hSw; go_simp; try with_reducible rfl)
      try simp only [Act.put, List.setIfInBounds_toArray, List.set_cons_zero, List.set_cons_succ]
      refine wpAnyH_take (i := 13) (v := ?_) (by simp only [List.getElem?_toArray, List.getElem?_cons_zero, List.getElem?_cons_succ]; rfl) (by kernel_rfl) (by kernel_rfl) (by kernel_rfl) (fun _ _ _ h => h) (Or.inl ⟨by rfl, ?_⟩) HM12.out.seven ?_
      case refine_2 => (intro ww hSw; obtain ⟨s1, s2, s3, s4, s5, s6, s7⟩ := hSw; go_simp; try with_reducible rfl)
      try simp only [Act.put, List.setIfInBounds_toArray, List.set_cons_zero, List.set_cons_succ]
      refine wpAnyH_ready (rs := [14]) (by kernel_rfl) (by simp) ?_
      refine AllReadyH.cons (by simp only [List.getElem?_toArray, List.getElem?_cons_zero, List.getElem?_cons_succ]; rfl) (fun K' hK => ?_) AllReadyH.nil
      go_simp
      refine (rfits_any bl (.slice ob bl.length cb) w.heap.size (by omega) (fun q hq => ⟨(HSO.out.terms q hq).2.1, by have := (HSO.out.terms q hq).bulk; omega⟩) t _ _ HM12.out.low.size (HBL.out.carry HM12.out.low (Nat.le_refl _)) (HT.out.carry HM12.out.low HM12.out.low.size) hbt HTOk.out.1.bare).mono ?_
      rintro e w13 ⟨rfl, hb⟩
      rw [HFB.out]
      have HM13 := Lib.hid (HM12.out.carry hb)
      clear hb
      refine hK.out _ _ HM13.out.seven (fun _ => ?_)
      clear hK
      try simp only [Act.put, List.setIfInBounds_toArray, List.set_cons_zero, List.set_cons_succ]
      refine wpAnyH_take (i := 15) (v := ?_) (by simp only [List.getElem?_toArray, List.getElem?_cons_zero, List.getElem?_cons_succ]; rfl) (by kernel_rfl) (by kernel_rfl) (by kernel_rfl) (fun _ _ _ h => h) (Or.inl ⟨by rfl, ?_⟩) HM13.out.seven ?_
      case refine_2 => (intro ww hSw; obtain ⟨s1, s2, s3, s4, s5, s6, s7⟩ := hSw; go_simp; try with_reducible rfl)
      try simp only [Act.put, List.setIfInBounds_toArray, List.set_cons_zero, List.set_cons_succ]
      refine wpAnyH_take (i := 16) (v := ?_) (by simp only [List.getElem?_toArray, List.getElem?_cons_zero, List.getElem?_cons_succ]; rfl) (by kernel_rfl) (by kernel_rfl) (by kernel_rfl) (fun _ _ _ h => h) (Or.inl ⟨by rfl, ?_⟩) HM13.out.seven ?_
      case refine_2 => (intro ww hSw; obtain ⟨s1, s2, s3, s4, s5, s6, s7⟩ := hSw; go_simp; try with_reducible rfl)
      try simp only [Act.put, List.setIfInBounds_toArray, List.set_cons_zero, List.set_cons_succ]
      refine wpAnyH_take (i := 17) (v := _) (by simp only [List.getElem?_toArray, List.getElem?_cons_zero, List.getElem?_cons_succ]; rfl) (by kernel_rfl) (by kernel_rfl) (by kernel_rfl) (fun _ _ _ h => h) (Or.inr ⟨by rfl, rfl⟩) HM13.out.seven ?_
      try simp only [Act.put, List.setIfInBounds_toArray, List.set_cons_zero, List.set_cons_succ]
      refine wpAnyH_take (i := 18) (v := _) (by simp only [List.getElem?_toArray, List.getElem?_cons_zero, List.getElem?_cons_succ]; rfl) (by kernel_rfl) (by kernel_rfl) (by kernel_rfl) (fun _ _ _ h => h) (Or.inr ⟨by rfl, rfl⟩) HM13.out.seven ?_
      try simp only [Act.put, List.setIfInBounds_toArray, List.set_cons_zero, List.set_cons_succ]
      refine wpAnyH_take (i := 19) (v := _) (by simp only [List.getElem?_toArray, List.getElem?_cons_zero, List.getElem?_cons_succ]; rfl) (by kernel_rfl) (by kernel_rfl) (by kernel_rfl) (fun _ _ _ h => h) (Or.inr ⟨by rfl, rfl⟩) HM13.out.seven ?_
      try simp only [Act.put, List.setIfInBounds_toArray, List.set_cons_zero, List.set_cons_succ]
      refine wpAnyH_take (i := 20) (v := _) (by simp only [List.getElem?_toArray, List.getElem?_cons_zero, List.getElem?_cons_succ]; rfl) (by kernel_rfl) (by kernel_rfl) (by kernel_rfl) (fun _ _ _ h => h) (Or.inr ⟨by rfl, rfl⟩) HM13.out.seven ?_
      try simp only [Act.put, List.setIfInBounds_toArray, List.set_cons_zero, List.set_cons_succ]
      refine wpAnyH_take (i := 21) (v := _) (by simp only [List.getElem?_toArray, List.getElem?_cons_zero, List.getElem?_cons_succ]; rfl) (by kernel_rfl) (by kernel_rfl) (by kernel_rfl) (fun _ _ _ h => h) (Or.inr ⟨by rfl, rfl⟩) HM13.out.seven ?_
      try simp only [Act.put, List.setIfInBounds_toArray, List.set_cons_zero, List.set_cons_succ]
      refine wpAnyH_take (i := 22) (v := _) (by simp only [List.getElem?_toArray, List.getElem?_cons_zero, List.getElem?_cons_succ]; rfl) (by kernel_rfl) (by kernel_rfl) (by kernel_rfl) (fun _ _ _ h => h) (Or.inr ⟨by rfl, rfl⟩) HM13.out.seven ?_
      try simp only [Act.put, List.setIfInBounds_toArray, List.set_cons_zero, List.set_cons_succ]
      refine wpAnyH_take (i := 23) (v := _) (by simp only [List.getElem?_toArray, List.getElem?_cons_zero, List.getElem?_cons_succ]; rfl) (by kernel_rfl) (by kernel_rfl) (by kernel_rfl) (fun _ _ _ h => h) (Or.inr ⟨by rfl, rfl⟩) HM13.out.seven ?_
      try simp only [Act.put, List.setIfInBounds_toArray, List.set_cons_zero, List.set_cons_succ]
      refine wpAnyH_take (i := 24) (v := _) (by simp only [List.getElem?_toArray, List.getElem?_cons_zero, List.getElem?_cons_succ]; rfl) (by kernel_rfl) (by kernel_rfl) (by kernel_rfl) (fun _ _ _ h => h) (Or.inr ⟨by rfl, rfl⟩) HM13.out.seven ?_
      try simp only [Act.put, List.setIfInBounds_toArray, List.set_cons_zero, List.set_cons_succ]
      refine wpAnyH_take (i := 25) (v := _) (by simp only [List.getElem?_toArray, List.getElem?_cons_zero, List.getElem?_cons_succ]; rfl) (by kernel_rfl) (by kernel_rfl) (by kernel_rfl) (fun _ _ _ h => h) (Or.inr ⟨by rfl, rfl⟩) HM13.out.seven ?_
      try simp only [Act.put, List.setIfInBounds_toArray, List.set_cons_zero, List.set_cons_succ]
      refine wpAnyH_take (i := 26) (v := _) (by simp only [List.getElem?_toArray, List.getElem?_cons_zero, List.getElem?_cons_succ]; rfl) (by kernel_rfl) (by kernel_rfl) (by kernel_rfl) (fun _ _ _ h => h) (Or.inr ⟨by rfl, rfl⟩) HM13.out.seven ?_
      try simp only [Act.put, List.setIfInBounds_toArray, List.set_cons_zero, List.set_cons_succ]
      refine wpAnyH_take (i := 27) (v := _) (by simp only [List.getElem?_toArray, List.getElem?_cons_zero, List.getElem?_cons_succ]; rfl) (by kernel_rfl) (by kernel_rfl) (by kernel_rfl) (fun _ _ _ h => h) (Or.inr ⟨by rfl, rfl⟩) HM13.out.seven ?_
      try simp only [Act.put, List.setIfInBounds_toArray, List.set_cons_zero, List.set_cons_succ]
      refine wpAnyH_take (i := 28) (v := ?_) (by simp only [List.getElem?_toArray, List.getElem?_cons_zero, List.getElem?_cons_succ]; rfl) (by kernel_rfl) (by kernel_rfl) (by kernel_rfl) (fun _ _ _ h => h) (Or.inl ⟨by rfl, ?_⟩) HM13.out.seven ?_
      case refine_2 => (intro ww hSw; obtain ⟨s1, s2, s3, s4, s5, s6, s7⟩ := hSw; go_simp; try with_reducible rfl)
      try simp only [Act.put, List.setIfInBounds_toArray, List.set_cons_zero, List.set_cons_succ]
      refine wpAnyH_done (by kernel_rfl) ?_ _
      refine NoPanic.normal ?_
      all_goals (go_wp2_with fail; go_meet; exact ⟨rfl, HM13⟩)
    have HFB : Hid (decide ((apB bl t).size ≤ 4000 ∧ (apB bl t).depth ≤ 200) = true) := Lib.hid (decide_eq_true hfb)
    have HBB : Hid ((apB bl t).bulk ≤ 1048576) := Lib.hid (by have := Tm.ok.bulk (t := apB bl t) ⟨apB_formed6 (fun q hq => (HSO.out.terms q hq).1) HTOk.out.1, hfb.1, hfb.2⟩; omega)
    have HGR := Lib.hid (gp_subst HG.out HSO.out HFA'.out hfb)
    clear hfb
    refine wp_region_noPanic ?_
    refine wp_region_held_drew (S := fun w' => w'.cell? ⟨w.heap.size + 1, 0, none⟩ = some (.slice ob bl.length cb) ∧ w'.cell? ⟨ps, 0, none⟩ = some (.string s.nm) ∧ w'.cell? ⟨ps, 1, none⟩ = some (.bool s.vr) ∧ w'.cell? ⟨ps, 2, none⟩ = some (.slice os s.ts.length cs) ∧ w'.cell? ⟨pt, 0, none⟩ = some (.string t.nm) ∧ w'.cell? ⟨pt, 1, none⟩ = some (.bool t.vr) ∧ w'.cell? ⟨pt, 2, none⟩ = some (.slice ot t.ts.length ct)) (by kernel_rfl) HM10.out.seven (fun _ => ?_)
    simp only [List.size_toArray, List.length_cons, List.length_nil, Nat.reduceAdd]
    refine wpAnyH_take (i := 0) (v := ?_) (by simp only [List.getElem?_toArray, List.getElem?_cons_zero]; rfl) (by kernel_rfl) (by kernel_rfl) (by kernel_rfl) (fun _ _ _ h => h) (Or.inl ⟨by rfl, ?_⟩) HM10.out.seven ?_
    case refine_2 => (intro ww hSw; obtain ⟨s1, s2, s3, s4, s5, s6, s7⟩ := hSw; go_simp; try with_reducible rfl)
    try simp only [Act.put, List.setIfInBounds_toArray, List.set_cons_zero, List.set_cons_succ]
    refine wpAnyH_take (i := 1) (v := ?_) (by simp only [List.getElem?_toArray, List.getElem?_cons_zero, List.getElem?_cons_succ]; rfl) (by kernel_rfl) (by kernel_rfl) (by kernel_rfl) (fun _ _ _ h => h) (Or.inl ⟨by rfl, ?_⟩) HM10.out.seven ?_
    case refine_2 => (intro ww hSw; obtain ⟨s1, s2, s3, s4, s5, s6, s7⟩ := hSw; go_simp; try with_reducible rfl)
    try simp only [Act.put, List.setIfInBounds_toArray, List.set_cons_zero, List.set_cons_succ]
    refine wpAnyH_ready (rs := [2]) (by kernel_rfl) (by simp) ?_
    refine AllReadyH.cons (by simp only [List.getElem?_toArray, List.getElem?_cons_zero, List.getElem?_cons_succ]; rfl) (fun K' hK => ?_) AllReadyH.nil
    go_simp
    refine (rcheckSubst_iff bl _ _ (HBL.out.carry HM10.out.low HM10.out.low.size) hbb).mono ?_
    rintro e w11 ⟨⟨k, rfl, hk⟩, hb⟩
    obtain rfl := hk.2 HSO.out
    clear hk
    have HM11 := Lib.hid (HM10.out.carry hb)
    clear hb
    refine hK.out _ _ HM11.out.seven (fun _ => ?_)
    clear hK
    try simp only [Act.put, List.setIfInBounds_toArray, List.set_cons_zero, List.set_cons_succ]
    refine wpAnyH_take (i := 3) (v := ?_) (by simp only [List.getElem?_toArray, List.getElem?_cons_zero, List.getElem?_cons_succ]; rfl) (by kernel_rfl) (by kernel_rfl) (by kernel_rfl) (fun _ _ _ h => h) (Or.inl ⟨by rfl, ?_⟩) HM11.out.seven ?_
    case refine_2 => (intro ww hSw; obtain ⟨s1, s2, s3, s4, s5, s6, s7⟩ := hSw; go_simp; try with_reducible rfl)
    try simp only [Act.put, List.setIfInBounds_toArray, List.set_cons_zero, List.set_cons_succ]
    refine wpAnyH_take (i := 4) (v := ?_) (by simp only [List.getElem?_toArray, List.getElem?_cons_zero, List.getElem?_cons_succ]; rfl) (by kernel_rfl) (by kernel_rfl) (by kernel_rfl) (fun _ _ _ h => h) (Or.inl ⟨by rfl, ?_⟩) HM11.out.seven ?_
    case refine_2 => (intro ww hSw; obtain ⟨s1, s2, s3, s4, s5, s6, s7⟩ := hSw; go_simp; try with_reducible rfl)
    try simp only [Act.put, List.setIfInBounds_toArray, List.set_cons_zero, List.set_cons_succ]
    refine wpAnyH_take (i := 5) (v := ?_) (by simp only [List.getElem?_toArray, List.getElem?_cons_zero, List.getElem?_cons_succ]; rfl) (by kernel_rfl) (by kernel_rfl) (by kernel_rfl) (fun _ _ _ h => h) (Or.inl ⟨by rfl, ?_⟩) HM11.out.seven ?_
    case refine_2 => (intro ww hSw; obtain ⟨s1, s2, s3, s4, s5, s6, s7⟩ := hSw; go_simp; try with_reducible rfl)
    try simp only [Act.put, List.setIfInBounds_toArray, List.set_cons_zero, List.set_cons_succ]
    refine wpAnyH_take (i := 6) (v := ?_) (by simp only [List.getElem?_toArray, List.getElem?_cons_zero, List.getElem?_cons_succ]; rfl) (by kernel_rfl) (by kernel_rfl) (by kernel_rfl) (fun _ _ _ h => h) (Or.inl ⟨by rfl, ?_⟩) HM11.out.seven ?_
    case refine_2 => (intro ww hSw; obtain ⟨s1, s2, s3, s4, s5, s6, s7⟩ := hSw; go_simp; try with_reducible rfl)
    try simp only [Act.put, List.setIfInBounds_toArray, List.set_cons_zero, List.set_cons_succ]
    refine wpAnyH_take (i := 7) (v := ?_) (by simp only [List.getElem?_toArray, List.getElem?_cons_zero, List.getElem?_cons_succ]; rfl) (by kernel_rfl) (by kernel_rfl) (by kernel_rfl) (fun _ _ _ h => h) (Or.inl ⟨by rfl, ?_⟩) HM11.out.seven ?_
    case refine_2 => (intro ww hSw; obtain ⟨s1, s2, s3, s4, s5, s6, s7⟩ := hSw; go_simp; try with_reducible rfl)
    try simp only [Act.put, List.setIfInBounds_toArray, List.set_cons_zero, List.set_cons_succ]
    refine wpAnyH_ready (rs := [8]) (by kernel_rfl) (by simp) ?_
    refine AllReadyH.cons (by simp only [List.getElem?_toArray, List.getElem?_cons_zero, List.getElem?_cons_succ]; rfl) (fun K' hK => ?_) AllReadyH.nil
    go_simp
    refine (rfits_any bl (.slice ob bl.length cb) w.heap.size (by omega) (fun q hq => ⟨(HSO.out.terms q hq).2.1, by have := (HSO.out.terms q hq).bulk; omega⟩) s _ _ HM11.out.low.size (HBL.out.carry HM11.out.low (Nat.le_refl _)) (HS.out.carry HM11.out.low HM11.out.low.size) hbs HSOk.out.1.bare).mono ?_
    rintro e w12 ⟨rfl, hb⟩
    rw [HFA.out]
    have HM12 := Lib.hid (HM11.out.carry hb)
    clear hb
    refine hK.out _ _ HM12.out.seven (fun _ => ?_)
    clear hK
    try simp only [Act.put, List.setIfInBounds_toArray, List.set_cons_zero, List.set_cons_succ]
    refine wpAnyH_take (i := 9) (v := ?_) (by simp only [List.getElem?_toArray, List.getElem?_cons_zero, List.getElem?_cons_succ]; rfl) (by kernel_rfl) (by kernel_rfl) (by kernel_rfl) (fun _ _ _ h => h) (Or.inl ⟨by rfl, ?_⟩) HM12.out.seven ?_
    case refine_2 => (intro ww hSw; obtain ⟨s1, s2, s3, s4, s5, s6, s7⟩ := hSw; go_simp; try with_reducible rfl)
    try simp only [Act.put, List.setIfInBounds_toArray, List.set_cons_zero, List.set_cons_succ]
    refine wpAnyH_take (i := 10) (v := ?_) (by simp only [List.getElem?_toArray, List.getElem?_cons_zero, List.getElem?_cons_succ]; rfl) (by kernel_rfl) (by kernel_rfl) (by kernel_rfl) (fun _ _ _ h => h) (Or.inl ⟨by rfl, ?_⟩) HM12.out.seven ?_
    case refine_2 => (intro ww hSw; obtain ⟨s1, s2, s3, s4, s5, s6, s7⟩ := hSw; go_simp; try with_reducible rfl)
    try simp only [Act.put, List.setIfInBounds_toArray, List.set_cons_zero, List.set_cons_succ]
    refine wpAnyH_take (i := 11) (v := ?_) (by simp only [List.getElem?_toArray, List.getElem?_cons_zero, List.getElem?_cons_succ]; rfl) (by kernel_rfl) (by kernel_rfl) (by kernel_rfl) (fun _ _ _ h => h) (Or.inl ⟨by rfl, ?_⟩) HM12.out.seven ?_
    case refine_2 => (intro ww hSw; obtain ⟨s1, s2, s3, s4, s5, s6, s7⟩ := hSw; go_simp; try with_reducible rfl)
    try simp only [Act.put, List.setIfInBounds_toArray, List.set_cons_zero, List.set_cons_succ]
    refine wpAnyH_take (i := 12) (v := ?_) (by simp only [List.getElem?_toArray, List.getElem?_cons_zero, List.getElem?_cons_succ]; rfl) (by kernel_rfl) (by kernel_rfl) (by kernel_rfl) (fun _ _ _ h => h) (Or.inl ⟨by rfl, ?_⟩) HM12.out.seven ?_
    case refine_2 => (intro ww hSw; obtain ⟨s1, s2, s3, s4, s5, s6, s7⟩ := hSw; go_simp; try with_reducible rfl)
    try simp only [Act.put, List.setIfInBounds_toArray, List.set_cons_zero, List.set_cons_succ]
    refine wpAnyH_take (i := 13) (v := ?_) (by simp only [List.getElem?_toArray, List.getElem?_cons_zero, List.getElem?_cons_succ]; rfl) (by kernel_rfl) (by kernel_rfl) (by kernel_rfl) (fun _ _ _ h => h) (Or.inl ⟨by rfl, ?_⟩) HM12.out.seven ?_
    case refine_2 => (intro ww hSw; obtain ⟨s1, s2, s3, s4, s5, s6, s7⟩ := hSw; go_simp; try with_reducible rfl)
    try simp only [Act.put, List.setIfInBounds_toArray, List.set_cons_zero, List.set_cons_succ]
    refine wpAnyH_ready (rs := [14]) (by kernel_rfl) (by simp) ?_
    refine AllReadyH.cons (by simp only [List.getElem?_toArray, List.getElem?_cons_zero, List.getElem?_cons_succ]; rfl) (fun K' hK => ?_) AllReadyH.nil
    go_simp
    refine (rfits_any bl (.slice ob bl.length cb) w.heap.size (by omega) (fun q hq => ⟨(HSO.out.terms q hq).2.1, by have := (HSO.out.terms q hq).bulk; omega⟩) t _ _ HM12.out.low.size (HBL.out.carry HM12.out.low (Nat.le_refl _)) (HT.out.carry HM12.out.low HM12.out.low.size) hbt HTOk.out.1.bare).mono ?_
    rintro e w13 ⟨rfl, hb⟩
    rw [HFB.out]
    have HM13 := Lib.hid (HM12.out.carry hb)
    clear hb
    refine hK.out _ _ HM13.out.seven (fun _ => ?_)
    clear hK
    try simp only [Act.put, List.setIfInBounds_toArray, List.set_cons_zero, List.set_cons_succ]
    refine wpAnyH_take (i := 15) (v := ?_) (by simp only [List.getElem?_toArray, List.getElem?_cons_zero, List.getElem?_cons_succ]; rfl) (by kernel_rfl) (by kernel_rfl) (by kernel_rfl) (fun _ _ _ h => h) (Or.inl ⟨by rfl, ?_⟩) HM13.out.seven ?_
    case refine_2 => (intro ww hSw; obtain ⟨s1, s2, s3, s4, s5, s6, s7⟩ := hSw; go_simp; try with_reducible rfl)
    try simp only [Act.put, List.setIfInBounds_toArray, List.set_cons_zero, List.set_cons_succ]
    refine wpAnyH_take (i := 16) (v := ?_) (by simp only [List.getElem?_toArray, List.getElem?_cons_zero, List.getElem?_cons_succ]; rfl) (by kernel_rfl) (by kernel_rfl) (by kernel_rfl) (fun _ _ _ h => h) (Or.inl ⟨by rfl, ?_⟩) HM13.out.seven ?_
    case refine_2 => (intro ww hSw; obtain ⟨s1, s2, s3, s4, s5, s6, s7⟩ := hSw; go_simp; try with_reducible rfl)
    try simp only [Act.put, List.setIfInBounds_toArray, List.set_cons_zero, List.set_cons_succ]
    refine wpAnyH_take (i := 17) (v := ?_) (by simp only [List.getElem?_toArray, List.getElem?_cons_zero, List.getElem?_cons_succ]; rfl) (by kernel_rfl) (by kernel_rfl) (by kernel_rfl) (fun _ _ _ h => h) (Or.inl ⟨by rfl, ?_⟩) HM13.out.seven ?_
    case refine_2 => (intro ww hSw; obtain ⟨s1, s2, s3, s4, s5, s6, s7⟩ := hSw; go_simp; try with_reducible rfl)
    try simp only [Act.put, List.setIfInBounds_toArray, List.set_cons_zero, List.set_cons_succ]
    refine wpAnyH_take (i := 18) (v := ?_) (by simp only [List.getElem?_toArray, List.getElem?_cons_zero, List.getElem?_cons_succ]; rfl) (by kernel_rfl) (by kernel_rfl) (by kernel_rfl) (fun _ _ _ h => h) (Or.inl ⟨by rfl, ?_⟩) HM13.out.seven ?_
    case refine_2 => (intro ww hSw; obtain ⟨s1, s2, s3, s4, s5, s6, s7⟩ := hSw; go_simp; try with_reducible rfl)
    try simp only [Act.put, List.setIfInBounds_toArray, List.set_cons_zero, List.set_cons_succ]
    refine wpAnyH_take (i := 19) (v := ?_) (by simp only [List.getElem?_toArray, List.getElem?_cons_zero, List.getElem?_cons_succ]; rfl) (by kernel_rfl) (by kernel_rfl) (by kernel_rfl) (fun _ _ _ h => h) (Or.inl ⟨by rfl, ?_⟩) HM13.out.seven ?_
    case refine_2 => (intro ww hSw; obtain ⟨s1, s2, s3, s4, s5, s6, s7⟩ := hSw; go_simp; try with_reducible rfl)
    try simp only [Act.put, List.setIfInBounds_toArray, List.set_cons_zero, List.set_cons_succ]
    refine wpAnyH_take (i := 20) (v := ?_) (by simp only [List.getElem?_toArray, List.getElem?_cons_zero, List.getElem?_cons_succ]; rfl) (by kernel_rfl) (by kernel_rfl) (by kernel_rfl) (fun _ _ _ h => h) (Or.inl ⟨by rfl, ?_⟩) HM13.out.seven ?_
    case refine_2 => (intro ww hSw; obtain ⟨s1, s2, s3, s4, s5, s6, s7⟩ := hSw; go_simp; try with_reducible rfl)
    try simp only [Act.put, List.setIfInBounds_toArray, List.set_cons_zero, List.set_cons_succ]
    refine wpAnyH_take (i := 22) (v := ?_) (by simp only [List.getElem?_toArray, List.getElem?_cons_zero, List.getElem?_cons_succ]; rfl) (by kernel_rfl) (by kernel_rfl) (by kernel_rfl) (fun _ _ _ h => h) (Or.inl ⟨by rfl, ?_⟩) HM13.out.seven ?_
    case refine_2 => (intro ww hSw; obtain ⟨s1, s2, s3, s4, s5, s6, s7⟩ := hSw; go_simp; try with_reducible rfl)
    try simp only [Act.put, List.setIfInBounds_toArray, List.set_cons_zero, List.set_cons_succ]
    refine wpAnyH_take (i := 23) (v := ?_) (by simp only [List.getElem?_toArray, List.getElem?_cons_zero, List.getElem?_cons_succ]; rfl) (by kernel_rfl) (by kernel_rfl) (by kernel_rfl) (fun _ _ _ h => h) (Or.inl ⟨by rfl, ?_⟩) HM13.out.seven ?_
    case refine_2 => (intro ww hSw; obtain ⟨s1, s2, s3, s4, s5, s6, s7⟩ := hSw; go_simp; try with_reducible rfl)
    try simp only [Act.put, List.setIfInBounds_toArray, List.set_cons_zero, List.set_cons_succ]
    refine wpAnyH_take (i := 24) (v := ?_) (by simp only [List.getElem?_toArray, List.getElem?_cons_zero, List.getElem?_cons_succ]; rfl) (by kernel_rfl) (by kernel_rfl) (by kernel_rfl) (fun _ _ _ h => h) (Or.inl ⟨by rfl, ?_⟩) HM13.out.seven ?_
    case refine_2 => (intro ww hSw; obtain ⟨s1, s2, s3, s4, s5, s6, s7⟩ := hSw; go_simp; try with_reducible rfl)
    try simp only [Act.put, List.setIfInBounds_toArray, List.set_cons_zero, List.set_cons_succ]
    refine wpAnyH_ready (rs := [21]) (by kernel_rfl) (by simp) ?_
    refine AllReadyH.cons (by simp only [List.getElem?_toArray, List.getElem?_cons_zero, List.getElem?_cons_succ]; rfl) (fun K' hK => ?_) AllReadyH.nil
    go_simp
    refine (rapply_any bl (.slice ob bl.length cb) w.heap.size (by omega) s _ _ HM13.out.low.size (HBL.out.carry HM13.out.low (Nat.le_refl _)) (HS.out.carry HM13.out.low HM13.out.low.size) hbs).mono ?_
    rintro e w14 ⟨⟨sl14, rfl, h14⟩, hb⟩
    have h14 := h14.lt.toIs fun b hb => hb.2
    obtain ⟨o14, k14, rfl, -⟩ := h14.form
    dsimp only [tmv]
    have HX14 := Lib.hid h14
    clear h14
    have HM14 := Lib.hid (HM13.out.carry hb)
    clear hb
    refine hK.out _ _ HM14.out.seven (fun _ => ?_)
    clear hK
    try simp only [Act.put, List.setIfInBounds_toArray, List.set_cons_zero, List.set_cons_succ]
    refine wpAnyH_ready (rs := [25]) (by kernel_rfl) (by simp) ?_
    refine AllReadyH.cons (by simp only [List.getElem?_toArray, List.getElem?_cons_zero, List.getElem?_cons_succ]; rfl) (fun K' hK => ?_) AllReadyH.nil
    go_simp
    refine (rapply_any bl (.slice ob bl.length cb) w.heap.size (by omega) t _ _ HM14.out.low.size (HBL.out.carry HM14.out.low (Nat.le_refl _)) (HT.out.carry HM14.out.low HM14.out.low.size) hbt).mono ?_
    rintro e w15 ⟨⟨sl15, rfl, h15⟩, hb⟩
    have h15 := h15.lt.toIs fun b hb => hb.2
    obtain ⟨o15, k15, rfl, -⟩ := h15.form
    dsimp only [tmv]
    have HX15 := Lib.hid h15
    clear h15
    have HX14b := Lib.hid (HX14.out.carry hb hb.size)
    have HM15 := Lib.hid (HM14.out.carry hb)
    clear hb
    refine hK.out _ _ HM15.out.seven (fun _ => ?_)
    clear hK
    try simp only [Act.put, List.setIfInBounds_toArray, List.set_cons_zero, List.set_cons_succ]
    refine wpAnyH_ready (rs := [26]) (by kernel_rfl) (by simp) ?_
    refine AllReadyH.cons (by simp only [List.getElem?_toArray, List.getElem?_cons_zero, List.getElem?_cons_succ]; rfl) (fun K' hK => ?_) AllReadyH.nil
    go_simp
    refine (lgreater_any L _ (apB bl s) (apB bl t) _ _ _ (HL.out.carry HM15.out.low HM15.out.low.size) HLB.out HX14b.out HX15.out HBA.out HBB.out).mono ?_
    rintro e w16 ⟨rfl, hb⟩
    rw [HGR.out]
    have HM16 := Lib.hid (HM15.out.carry hb)
    clear hb
    refine hK.out _ _ HM16.out.seven (fun _ => ?_)
    clear hK
    try simp only [Act.put, List.setIfInBounds_toArray, List.set_cons_zero, List.set_cons_succ]
    refine wpAnyH_take (i := 27) (v := ?_) (by simp only [List.getElem?_toArray, List.getElem?_cons_zero, List.getElem?_cons_succ]; rfl) (by kernel_rfl) (by kernel_rfl) (by kernel_rfl) (fun _ _ _ h => h) (Or.inl ⟨by rfl, ?_⟩) HM16.out.seven ?_
    case refine_2 => (intro ww hSw; obtain ⟨s1, s2, s3, s4, s5, s6, s7⟩ := hSw; go_simp; try with_reducible rfl)
    try simp only [Act.put, List.setIfInBounds_toArray, List.set_cons_zero, List.set_cons_succ]
    refine wpAnyH_take (i := 28) (v := ?_) (by simp only [List.getElem?_toArray, List.getElem?_cons_zero, List.getElem?_cons_succ]; rfl) (by kernel_rfl) (by kernel_rfl) (by kernel_rfl) (fun _ _ _ h => h) (Or.inl ⟨by rfl, ?_⟩) HM16.out.seven ?_
    case refine_2 => (intro ww hSw; obtain ⟨s1, s2, s3, s4, s5, s6, s7⟩ := hSw; go_simp; try with_reducible rfl)
    try simp only [Act.put, List.setIfInBounds_toArray, List.set_cons_zero, List.set_cons_succ]
    refine wpAnyH_done (by kernel_rfl) ?_ _
    refine NoPanic.normal ?_
    all_goals (go_wp2_with fail; go_meet; exact ⟨rfl, HM16⟩)
  case rest =>
  obtain ⟨rfl, HM7⟩ := hcut
  clear HM6
  obtain ⟨c0, c1, c2, c3, c4⟩ := HM7.out.cc
  go_wp2_with fail

  refine (rAt_uni c _ pos _ _ (HC.out.carry HM7.out.low HM7.out.low.size) (HP.out.carry HM7.out.low HM7.out.low.size) hpl hbc).mono ?_
  rintro e W7 ⟨⟨r2, or2, nr2, kr2, b2, rfl, -, hb1t, -⟩, hb⟩
  have HM8 := Lib.hid (HM7.out.carry hb)
  have HT2 := Lib.hid hb1t
  clear hb hb1t HM7 c0 c1 c2 c3 c4
  obtain ⟨c0, c1, c2, c3, c4⟩ := HM8.out.cc
  have HM9 := Lib.hid (HM8.out.carry ((Below.refl W7.heap.size W7).alloc (Nat.le_refl _) (.cells #[.string r2.nm, .bool r2.vr, .slice or2 nr2 kr2] 34)))
  clear HM8 c0 c1 c2 c3 c4
  cases b2 with
  | false =>
    go_wp2_with fail
    refine (HAL.out _ HM9.out.low).mono ?_
    rintro e W8 ⟨rfl, hb⟩
    go_wp2_with fail
    go_ret
    exact ⟨rfl, hb⟩
  | true =>
  have HAT := Lib.hid (HT2.out rfl)
  clear HT2
  obtain ⟨d0, d1, d2, d3, d4⟩ := HM9.out.cc
  go_wp2_with fail
  refine (rcheck_iff c _ _ (HC.out.carry HM9.out.low HM9.out.low.size) hbc).mono ?_
  rintro e W8 ⟨⟨k, rfl, hk⟩, hb⟩
  have HMa := Lib.hid (HM9.out.carry hb)
  clear hb HM9 d0 d1 d2 d3 d4
  by_cases hco : c.ok
  rotate_left
  · have hk0 : ¬ k = 0 := fun e => hco (hk.1 e)
    have hk1 : (k == 0) = false := by simpa using hk0
    clear hk hco
    go_wp2_with fail
    refine (HAL.out _ HMa.out.low).mono ?_
    rintro e W9 ⟨rfl, hb⟩
    go_wp2_with fail
    go_ret
    exact ⟨rfl, hb⟩
  obtain rfl := hk.2 hco
  have HCO := Lib.hid hco
  clear hk hco
  go_wp2_with fail

  have HFA : Hid (∀ u ∈ (c.put pos s).ts, u.formed) := Lib.hid ((Tm.formed_iff _).1 (Tm.put_formed6 HCO.out.1 (gpB_yes.1 HG.out).2.1.1 pos)).2
  have HFB : Hid (∀ u ∈ (c.put pos t).ts, u.formed) := Lib.hid ((Tm.formed_iff _).1 (Tm.put_formed6 HCO.out.1 (gpB_yes.1 HG.out).2.2.1.1 pos)).2
  have HLa := Lib.hid HMa.out.low
  have HIS : Hid (c.at pos).isSome := Lib.hid (by rw [HAT.out]; rfl)
  refine wp_region_invZ (CdInv (.slice ol L.length cl) ps pt w.heap.size W8 s t c (.slice os s.ts.length cs) (.slice ot t.ts.length ct) (.slice oc c.ts.length cc) (.slice op pos.length cp) pos) (by kernel_rfl) (by kernel_rfl) ?h0 ?hend ?hstep
  case h0 => exact ⟨_, _, _, _, _, _, _, _, _, _, _, _, _, _, rfl, (Below.refl _ W8).drew, nofun, nofun, nofun, nofun, nofun, nofun, nofun, nofun, nofun, nofun, nofun, nofun, nofun, nofun, nofun, nofun, nofun⟩
  case hstep =>
    rintro z i o ho f a W ⟨v13, v14, v105, v106, v107, v108, v109, v110, v111, v112, v113, v114, v115, v116, rfl, h⟩ hfi hd K' hK
    have HI := Lib.hid h
    have HMw := Lib.hid (HMa.out.carry h.low)
    match i, ho with
    | 0, ho =>
      cases ho
      clear h
      go_simp
      exact hK.out _ _ ⟨v13, v14, _, v106, v107, v108, v109, v110, v111, v112, v113, v114, v115, v116, rfl, HI.out.low, fun _ => rfl, HI.out.f1, HI.out.f2, HI.out.f3, HI.out.f4, HI.out.f5, HI.out.f6, HI.out.f7, HI.out.f8, HI.out.f9, HI.out.f10, HI.out.f11, HI.out.f12, HI.out.f13, HI.out.ne, HI.out.o14, HI.out.o15⟩
    | 1, ho =>
      cases ho
      have e := h.f0 (hd ⟨0, .data⟩ (by simp) rfl)
      subst e
      obtain ⟨c0, c1, c2, c3, c4⟩ := HMw.out.cc
      clear h
      go_simp
      exact hK.out _ _ ⟨v13, v14, _, _, v107, v108, v109, v110, v111, v112, v113, v114, v115, v116, rfl, HI.out.low, HI.out.f0, fun _ => rfl, HI.out.f2, HI.out.f3, HI.out.f4, HI.out.f5, HI.out.f6, HI.out.f7, HI.out.f8, HI.out.f9, HI.out.f10, HI.out.f11, HI.out.f12, HI.out.f13, HI.out.ne, HI.out.o14, HI.out.o15⟩
    | 2, ho =>
      cases ho
      clear h
      go_simp
      exact hK.out _ _ ⟨v13, v14, v105, v106, _, v108, v109, v110, v111, v112, v113, v114, v115, v116, rfl, HI.out.low, HI.out.f0, HI.out.f1, fun _ => rfl, HI.out.f3, HI.out.f4, HI.out.f5, HI.out.f6, HI.out.f7, HI.out.f8, HI.out.f9, HI.out.f10, HI.out.f11, HI.out.f12, HI.out.f13, HI.out.ne, HI.out.o14, HI.out.o15⟩
    | 3, ho =>
      cases ho
      have e := h.f2 (hd ⟨2, .data⟩ (by simp) rfl)
      subst e
      obtain ⟨c0, c1, c2, c3, c4⟩ := HMw.out.cc
      clear h
      go_simp
      exact hK.out _ _ ⟨v13, v14, v105, v106, _, _, v109, v110, v111, v112, v113, v114, v115, v116, rfl, HI.out.low, HI.out.f0, HI.out.f1, HI.out.f2, fun _ => rfl, HI.out.f4, HI.out.f5, HI.out.f6, HI.out.f7, HI.out.f8, HI.out.f9, HI.out.f10, HI.out.f11, HI.out.f12, HI.out.f13, HI.out.ne, HI.out.o14, HI.out.o15⟩
    | 4, ho =>
      cases ho
      obtain ⟨c0, c1, c2, c3, c4, c5⟩ := HMw.out.aa
      clear h
      go_simp
      exact hK.out _ _ ⟨v13, v14, v105, v106, v107, v108, _, v110, v111, v112, v113, v114, v115, v116, rfl, HI.out.low, HI.out.f0, HI.out.f1, HI.out.f2, HI.out.f3, fun _ => rfl, HI.out.f5, HI.out.f6, HI.out.f7, HI.out.f8, HI.out.f9, HI.out.f10, HI.out.f11, HI.out.f12, HI.out.f13, HI.out.ne, HI.out.o14, HI.out.o15⟩
    | 5, ho =>
      cases ho
      have e := h.f1 (hd ⟨1, .data⟩ (by simp) rfl)
      subst e
      have e := h.f3 (hd ⟨3, .data⟩ (by simp) rfl)
      subst e
      have e := h.f4 (hd ⟨4, .data⟩ (by simp) rfl)
      subst e
      have HLw := Lib.hid HMw.out.low
      clear h hd
      go_simp
      refine (rPut_any w.heap.size pos (fun b => b < W.heap.size) c (.slice oc c.ts.length cc) (.slice op pos.length cp) s (.slice os s.ts.length cs) W HLw.out.size (fun _ hb => hb) (HC.out.carry HLw.out HLw.out.size).toP HCO.out.1.bare (HP.out.carry HLw.out (Nat.le_refl _)) HPC.out (HS.out.carry HLw.out HLw.out.size).toP HIS.out hpl hbc).mono ?_
      rintro e W9 ⟨⟨sr, rfl, hr⟩, hb⟩
      have hr := hr.toIs fun _ hb => hb.2
      obtain ⟨o5, c5, rfl, -⟩ := hr.form
      have H1 := HI.out.keep hb
      exact hK.out _ _ ⟨v13, v14, v105, _, v107, _, _, _, v111, v112, v113, v114, v115, v116, rfl, H1.low, H1.f0, H1.f1, H1.f2, H1.f3, H1.f4, fun _ => ⟨_, _, _, rfl, hr⟩, H1.f6, H1.f7, H1.f8, H1.f9, H1.f10, H1.f11, H1.f12, H1.f13, H1.ne, H1.o14, H1.o15⟩
    | 6, ho =>
      cases ho
      clear h
      go_simp
      exact hK.out _ _ ⟨v13, v14, v105, v106, v107, v108, v109, v110, _, v112, v113, v114, v115, v116, rfl, HI.out.low, HI.out.f0, HI.out.f1, HI.out.f2, HI.out.f3, HI.out.f4, HI.out.f5, fun _ => rfl, HI.out.f7, HI.out.f8, HI.out.f9, HI.out.f10, HI.out.f11, HI.out.f12, HI.out.f13, HI.out.ne, HI.out.o14, HI.out.o15⟩
    | 7, ho =>
      cases ho
      have e := h.f6 (hd ⟨6, .data⟩ (by simp) rfl)
      subst e
      obtain ⟨c0, c1, c2, c3, c4⟩ := HMw.out.cc
      clear h
      go_simp
      exact hK.out _ _ ⟨v13, v14, v105, v106, v107, v108, v109, v110, _, _, v113, v114, v115, v116, rfl, HI.out.low, HI.out.f0, HI.out.f1, HI.out.f2, HI.out.f3, HI.out.f4, HI.out.f5, HI.out.f6, fun _ => rfl, HI.out.f8, HI.out.f9, HI.out.f10, HI.out.f11, HI.out.f12, HI.out.f13, HI.out.ne, HI.out.o14, HI.out.o15⟩
    | 8, ho =>
      cases ho
      clear h
      go_simp
      exact hK.out _ _ ⟨v13, v14, v105, v106, v107, v108, v109, v110, v111, v112, _, v114, v115, v116, rfl, HI.out.low, HI.out.f0, HI.out.f1, HI.out.f2, HI.out.f3, HI.out.f4, HI.out.f5, HI.out.f6, HI.out.f7, fun _ => rfl, HI.out.f9, HI.out.f10, HI.out.f11, HI.out.f12, HI.out.f13, HI.out.ne, HI.out.o14, HI.out.o15⟩
    | 9, ho =>
      cases ho
      have e := h.f8 (hd ⟨8, .data⟩ (by simp) rfl)
      subst e
      obtain ⟨c0, c1, c2, c3, c4⟩ := HMw.out.cc
      clear h
      go_simp
      exact hK.out _ _ ⟨v13, v14, v105, v106, v107, v108, v109, v110, v111, v112, _, _, v115, v116, rfl, HI.out.low, HI.out.f0, HI.out.f1, HI.out.f2, HI.out.f3, HI.out.f4, HI.out.f5, HI.out.f6, HI.out.f7, HI.out.f8, fun _ => rfl, HI.out.f10, HI.out.f11, HI.out.f12, HI.out.f13, HI.out.ne, HI.out.o14, HI.out.o15⟩
    | 10, ho =>
      cases ho
      obtain ⟨c0, c1, c2, c3, c4, c5⟩ := HMw.out.aa
      clear h
      go_simp
      exact hK.out _ _ ⟨v13, v14, v105, v106, v107, v108, v109, v110, v111, v112, v113, v114, _, v116, rfl, HI.out.low, HI.out.f0, HI.out.f1, HI.out.f2, HI.out.f3, HI.out.f4, HI.out.f5, HI.out.f6, HI.out.f7, HI.out.f8, HI.out.f9, fun _ => rfl, HI.out.f11, HI.out.f12, HI.out.f13, HI.out.ne, HI.out.o14, HI.out.o15⟩
    | 11, ho =>
      cases ho
      have e := h.f7 (hd ⟨7, .data⟩ (by simp) rfl)
      subst e
      have e := h.f9 (hd ⟨9, .data⟩ (by simp) rfl)
      subst e
      have e := h.f10 (hd ⟨10, .data⟩ (by simp) rfl)
      subst e
      have HLw := Lib.hid HMw.out.low
      clear h hd
      go_simp
      refine (rPut_any w.heap.size pos (fun b => b < W.heap.size) c (.slice oc c.ts.length cc) (.slice op pos.length cp) t (.slice ot t.ts.length ct) W HLw.out.size (fun _ hb => hb) (HC.out.carry HLw.out HLw.out.size).toP HCO.out.1.bare (HP.out.carry HLw.out (Nat.le_refl _)) HPC.out (HT.out.carry HLw.out HLw.out.size).toP HIS.out hpl hbc).mono ?_
      rintro e W9 ⟨⟨sr, rfl, hr⟩, hb⟩
      have hr := hr.toIs fun _ hb => hb.2
      obtain ⟨o5, c5, rfl, -⟩ := hr.form
      have H1 := HI.out.keep hb
      exact hK.out _ _ ⟨v13, v14, v105, v106, v107, v108, v109, v110, v111, _, v113, _, _, _, rfl, H1.low, H1.f0, H1.f1, H1.f2, H1.f3, H1.f4, H1.f5, H1.f6, H1.f7, H1.f8, H1.f9, H1.f10, fun _ => ⟨_, _, _, rfl, hr⟩, H1.f12, H1.f13, H1.ne, H1.o14, H1.o15⟩
    | 12, ho =>
      cases ho
      clear h
      go_simp
      have hb := (Below.refl W.heap.size W).alloc (Nat.le_refl _) zeroTm
      have H1 := HI.out.keep hb
      exact hK.out _ (W.alloc zeroTm) ⟨ptr W.heap.size, v14, v105, v106, v107, v108, v109, v110, v111, v112, v113, v114, v115, v116, rfl, H1.low, H1.f0, H1.f1, H1.f2, H1.f3, H1.f4, H1.f5, H1.f6, H1.f7, H1.f8, H1.f9, H1.f10, H1.f11, fun _ => ⟨_, rfl, HI.out.low.size, by simp, fun _ => heap_new_at _ _ _ rfl, (fun k => by have := (HI.out.o14 k).1; rw [hfi] at this; cases this)⟩, H1.f13, fun _ k e => by obtain ⟨p, h1, h2, h3, -⟩ := HI.out.f13 k; have := ptr_inj (e.trans h1); omega, (fun k => by have := (HI.out.o14 k).1; rw [hfi] at this; cases this), H1.o15⟩
    | 13, ho =>
      cases ho
      clear h
      go_simp
      have hb := (Below.refl W.heap.size W).alloc (Nat.le_refl _) zeroTm
      have H1 := HI.out.keep hb
      exact hK.out _ (W.alloc zeroTm) ⟨v13, ptr W.heap.size, v105, v106, v107, v108, v109, v110, v111, v112, v113, v114, v115, v116, rfl, H1.low, H1.f0, H1.f1, H1.f2, H1.f3, H1.f4, H1.f5, H1.f6, H1.f7, H1.f8, H1.f9, H1.f10, H1.f11, H1.f12, fun _ => ⟨_, rfl, HI.out.low.size, by simp, fun _ => heap_new_at _ _ _ rfl, (fun k => by have := (HI.out.o15 k).1; rw [hfi] at this; cases this)⟩, fun k _ e => by obtain ⟨p, h1, h2, h3, -⟩ := HI.out.f12 k; have := ptr_inj (h1.symm.trans e); omega, (fun k => by have := (HI.out.o14 k).2; rw [hfi] at this; cases this), (fun k => by have := (HI.out.o15 k).1; rw [hfi] at this; cases this)⟩
    | 14, ho =>
      cases ho
      have dm := hd ⟨12, .data⟩ (by simp) rfl
      have dt := hd ⟨5, .data⟩ (by simp) rfl
      have dz := hd ⟨13, .phase⟩ (by simp) rfl
      obtain ⟨p, e7, h2, h3, h4, -⟩ := h.f12 dm
      obtain ⟨oq, nq, cq, e, hq⟩ := h.f5 dt
      subst e7
      subst e
      have hz := h4 hfi
      have HZ := Lib.hid hz
      have HQ := Lib.hid hq
      have HNE := Lib.hid (h.ne dm dz)
      obtain ⟨⟨c0, c1, c2⟩, g0, g1, g2⟩ := box3 hz
      clear h hd h4 hz hq
      unfold ptr
      go_simp
      exact hK.out _ _ ⟨ptr p, v14, v105, v106, v107, v108, v109, _, v111, v112, v113, v114, v115, v116, rfl, below_set3 HI.out.low (b := p) h2 (.string (c.put pos s).nm) (.bool (c.put pos s).vr) (.slice oq nq cq), HI.out.f0, HI.out.f1, HI.out.f2, HI.out.f3, HI.out.f4, fun k => (HI.out.f5 k).setz HZ.out HFA.out (.string (c.put pos s).nm) (.bool (c.put pos s).vr) (.slice oq nq cq), HI.out.f6, HI.out.f7, HI.out.f8, HI.out.f9, HI.out.f10, fun k => (HI.out.f11 k).setz HZ.out HFB.out (.string (c.put pos s).nm) (.bool (c.put pos s).vr) (.slice oq nq cq), fun _ => ⟨p, rfl, h2, by simp [World.setCell]; omega, nofun, fun _ => ⟨_, box3_set HZ.out (.string (c.put pos s).nm) (.bool (c.put pos s).vr) (.slice oq nq cq), HQ.out.setz HZ.out HFA.out _ _ _⟩⟩, fun k => by obtain ⟨q, h1, h2, h3, h4, h5⟩ := HI.out.f13 k; have hpq : q ≠ p := fun e => HNE.out (by rw [h1, e]); exact ⟨q, h1, h2, by simp [World.setCell]; omega, fun e => (heap_set3 W p q (.string (c.put pos s).nm) (.bool (c.put pos s).vr) (.slice oq nq cq) hpq).trans (h4 e), fun e => (h5 e).imp fun _ h6 => ⟨(heap_set3 W p q (.string (c.put pos s).nm) (.bool (c.put pos s).vr) (.slice oq nq cq) hpq).trans h6.box, h6.is.setz HZ.out HFB.out _ _ _⟩⟩, HI.out.ne, fun _ => ⟨dm, dz⟩, fun k => ⟨(HI.out.o15 k).1, rfl⟩⟩
    | 15, ho =>
      cases ho
      have dm := hd ⟨13, .data⟩ (by simp) rfl
      have dt := hd ⟨11, .data⟩ (by simp) rfl
      have dz := hd ⟨12, .phase⟩ (by simp) rfl
      have d14 := hd ⟨14, .chain⟩ (by simp) rfl
      obtain ⟨p, e7, h2, h3, h4, -⟩ := h.f13 dm
      obtain ⟨oq, nq, cq, e, hq⟩ := h.f11 dt
      subst e7
      subst e
      have hz := h4 hfi
      have HZ := Lib.hid hz
      have HQ := Lib.hid hq
      have HNE := Lib.hid (h.ne dz dm)
      obtain ⟨⟨c0, c1, c2⟩, g0, g1, g2⟩ := box3 hz
      clear h hd h4 hz hq
      unfold ptr
      go_simp
      exact hK.out _ _ ⟨v13, ptr p, v105, v106, v107, v108, v109, v110, v111, v112, v113, v114, v115, _, rfl, below_set3 HI.out.low (b := p) h2 (.string (c.put pos t).nm) (.bool (c.put pos t).vr) (.slice oq nq cq), HI.out.f0, HI.out.f1, HI.out.f2, HI.out.f3, HI.out.f4, fun k => (HI.out.f5 k).setz HZ.out HFA.out (.string (c.put pos t).nm) (.bool (c.put pos t).vr) (.slice oq nq cq), HI.out.f6, HI.out.f7, HI.out.f8, HI.out.f9, HI.out.f10, fun k => (HI.out.f11 k).setz HZ.out HFB.out (.string (c.put pos t).nm) (.bool (c.put pos t).vr) (.slice oq nq cq), fun k => by obtain ⟨q, h1, h2, h3, h4, h5⟩ := HI.out.f12 k; have hpq : q ≠ p := fun e => HNE.out (by rw [h1, e]); exact ⟨q, h1, h2, by simp [World.setCell]; omega, fun e => (heap_set3 W p q (.string (c.put pos t).nm) (.bool (c.put pos t).vr) (.slice oq nq cq) hpq).trans (h4 e), fun e => (h5 e).imp fun _ h6 => ⟨(heap_set3 W p q (.string (c.put pos t).nm) (.bool (c.put pos t).vr) (.slice oq nq cq) hpq).trans h6.box, h6.is.setz HZ.out HFA.out _ _ _⟩⟩, fun _ => ⟨p, rfl, h2, by simp [World.setCell]; omega, nofun, fun _ => ⟨_, box3_set HZ.out (.string (c.put pos t).nm) (.bool (c.put pos t).vr) (.slice oq nq cq), HQ.out.setz HZ.out HFB.out _ _ _⟩⟩, HI.out.ne, HI.out.o14, fun _ => ⟨dm, d14⟩⟩
    | i + 16, ho => simp at ho
  case hend =>
  rintro z f a W9 ⟨v13, v14, v105, v106, v107, v108, v109, v110, v111, v112, v113, v114, v115, v116, rfl, h⟩ hall
  obtain ⟨p, rfl, -, -, -, h5⟩ := h.f12 (hall 12 (by simp))
  obtain ⟨q, rfl, -, -, -, h6⟩ := h.f13 (hall 13 (by simp))
  obtain ⟨s4, h5⟩ := h5 (hall 14 (by simp))
  obtain ⟨s5, h6⟩ := h6 (hall 15 (by simp))
  obtain ⟨o4, c4, rfl, -⟩ := h5.is.form
  obtain ⟨o5, c5, rfl, -⟩ := h6.is.form
  have HBA := Lib.hid h5
  have HBB := Lib.hid h6
  have HMb := Lib.hid (HMa.out.carry h.low)
  clear h h5 h6 hall HMa HLa
  obtain ⟨⟨x0, x1, x2⟩, -⟩ := box3 HBA.out.box
  obtain ⟨⟨y0, y1, y2⟩, -⟩ := box3 HBB.out.box
  unfold ptr
  go_wp2_with fail
  have hA := (Below.refl W9.heap.size W9).alloc (Nat.le_refl _) (.cells #[.string (c.put pos s).nm, .bool (c.put pos s).vr, .slice o4 (c.put pos s).ts.length c4, .string (c.put pos t).nm, .bool (c.put pos t).vr, .slice o5 (c.put pos t).ts.length c5] 34)
  have HBA2 := Lib.hid (HBA.out.carry hA)
  have HBB2 := Lib.hid (HBB.out.carry hA)
  have HMc := Lib.hid (HMb.out.carry hA)
  obtain ⟨bq, hv, hrow⟩ := RowW.two HBA.out.is HBB.out.is
  have hbA : (c.put pos s).bulk ≤ 200000 := by have h1 := Tm.put_bulk6 c pos s; have h2 := HCO.out.bulk; have h3 := (gpB_yes.1 HG.out).2.1.bulk; omega
  have hbB : (c.put pos t).bulk ≤ 200000 := by have h1 := Tm.put_bulk6 c pos t; have h2 := HCO.out.bulk; have h3 := (gpB_yes.1 HG.out).2.2.1.bulk; omega
  clear hA x0 x1 x2 y0 y1 y2 HBA HBB HMb
  refine (rcheckAll_any [c.put pos s, c.put pos t] _ _ (hv ▸ hrow) (by simp only [Tm.bulks]; omega)).mono ?_
  rintro e W10 ⟨⟨k, rfl, hk⟩, hb⟩
  have HBA3 := Lib.hid (HBA2.out.carry hb)
  have HBB3 := Lib.hid (HBB2.out.carry hb)
  have HMd := Lib.hid (HMc.out.carry hb)
  clear hb HBA2 HBB2 HMc hv hrow
  obtain ⟨⟨x0, x1, x2⟩, -⟩ := box3 HBA3.out.box
  obtain ⟨⟨y0, y1, y2⟩, -⟩ := box3 HBB3.out.box
  by_cases hco : ∀ u ∈ [c.put pos s, c.put pos t], u.ok
  · obtain rfl := hk.2 hco
    have HGR := Lib.hid (gp_put HG.out HCO.out.1 HAT.out (hco _ (by simp)) (hco _ (by simp)))
    clear hk hco
    go_wp2_with fail
    refine (lgreater_any L _ (c.put pos s) (c.put pos t) _ _ _ (HL.out.carry HMd.out.low HMd.out.low.size) HLB.out HBA3.out.is HBB3.out.is (by omega) (by omega)).mono ?_
    rintro e W11 ⟨rfl, hb⟩
    rw [HGR.out]
    have HMe := Lib.hid (HMd.out.carry hb)
    clear hb x0 x1 x2 y0 y1 y2
    go_wp2_with fail
    refine (HAL.out _ HMe.out.low).mono ?_
    rintro e W12 ⟨rfl, hb⟩
    go_wp2_with fail
    go_ret
    exact ⟨rfl, hb⟩
  · have hk0 : ¬ k = 0 := fun e => hco (hk.1 e)
    have hk1 : (k == 0) = false := by simpa using hk0
    have hk2 : (k != 0) = true := by simpa using hk0
    clear hk hco
    go_wp2_with fail
    refine (HAL.out _ HMd.out.low).mono ?_
    rintro e W12 ⟨rfl, hb⟩
    go_wp2_with fail
    go_ret
    exact ⟨rfl, hb⟩
end Go.Proofs.Ytdnkommcnkbeeaa
