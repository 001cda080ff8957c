/- Packed: LawE. -/
import Derived.WalkKit
import Derived.ProofKit
import Derived.OpenShut
import Derived.Handy
import Derived.Lib.Hide
import Derived.Deep.RegionHeld3
import Derived.Deep.DeepCutAuto
import Derived.Test.YtnomppdmhgefiaaGreatE19
import Derived.Test.YtnomppdmhgefiaaGreatE21
import Derived.Test.YtnomppdmhgefiaaGreatE22
import Derived.Test.YtnomppdmhgefiaaGreatE23
import Derived.Test.YtnomppdmhgefiaaGreatE38
import Derived.Test.YtnomppdmhgefiaaGreatE39
/- The law RewriteClosed. -/
namespace Go.Proofs.YtnomppdmhgefiaaGreat
open Go.RowKit
/-- a step's answer -/
def StV (R : List RlV) (T : Tm) (rule : Int) (ps : List Int) (w : World) (v : Value) : Prop := ∃ (y : Tm) (k : Int) (o : Option Addr) (n c : Nat), v = .tuple #[.agg #[.string y.nm, .bool y.vr, .slice o n c], .int .i64 k] ∧ SlIs w.heap.size w y.ts (.slice o n c) ∧ StepPost R T rule ps y k
/-- .. in a box -/
def StB (R : List RlV) (T : Tm) (rule : Int) (ps : List Int) (w : World) (p : Nat) (v : Value) : Prop := ∃ (y : Tm) (k : Int) (o : Option Addr) (n c : Nat), v = .tuple #[.agg #[.string y.nm, .bool y.vr, .slice o n c], .int .i64 k] ∧ TBx w p y (.slice o n c) ∧ StepPost R T rule ps y k
theorem StV.keep {R : List RlV} {T : Tm} {rule : Int} {ps : List Int} {A W : World} {v : Value} (h : StV R T rule ps A v) (hb : Below A.heap.size A W) : StV R T rule ps W v := by
  obtain ⟨y, k, o, n, c, e, h1, h2⟩ := h
  exact ⟨y, k, o, n, c, e, h1.carry hb hb.size, h2⟩
theorem StB.keep {R : List RlV} {T : Tm} {rule : Int} {ps : List Int} {A W : World} {p : Nat} {v : Value} (h : StB R T rule ps A p v) (hb : Below A.heap.size A W) : StB R T rule ps W p v := by
  obtain ⟨y, k, o, n, c, e, h1, h2⟩ := h
  exact ⟨y, k, o, n, c, e, h1.carry hb, h2⟩
theorem StepPost.fts {R : List RlV} {T : Tm} {rule : Int} {ps : List Int} {y : Tm} {k : Int} (h : StepPost R T rule ps y k) : ∀ u ∈ y.ts, u.formed := by
  by_cases e : k = 0
  · exact ((Tm.formed_iff _).1 (h.zero e).2.2.1.1).2
  · rw [h.none_ e]; intro u hu; cases hu
theorem ints_app (a b : List Int) : ints (a ++ b) = ints a ++ ints b := by simp [ints]
theorem ints_one (l : List Int) : ∀ u ∈ ints l, u.oneCell' = true := by
  intro u hu
  obtain ⟨x, -, rfl⟩ := List.mem_map.1 hu
  rfl
theorem ints_src {n : Nat} {W : World} {l : List Int} {oa : Option Addr} {m c : Nat} (h : PosIs n W l (.slice oa m c)) : ∀ ad, oa = some ad → ∀ j u, (ints l)[j]? = some u → W.cell? (ad.add j) = some u := by
  obtain ⟨oa', cap, e, h⟩ := h
  simp only [Value.slice.injEq] at e
  obtain ⟨rfl, rfl, rfl⟩ := e
  intro ad had j u hj
  obtain ⟨x, hx, rfl⟩ : ∃ x, l[j]? = some x ∧ .int .i64 x = u := by simpa [ints] using hj
  obtain ⟨b, o, e, -, hc⟩ := h (by rintro rfl; simp at hx)
  rw [had] at e
  cases e
  rw [ad_add]
  exact hc j x hx
theorem own_below {b0 n : Nat} {A W : World} {v : Value} {e : TypeId} {xs : List Value} (h : A.ownsRow b0 e 1 v n xs) (hg : A.grownBy W v.ownBlock) (hb : b0 ≤ A.heap.size) : Below b0 A W := by
  refine (Below.refl b0 A).grown hg hb fun j hj => ?_
  rcases h.2 with ⟨rfl, -⟩ | ⟨g, cap, cur, rfl, hbg, -⟩
  · cases hj
  · cases hj; exact hbg
theorem own_box {b0 n p : Nat} {A W : World} {v : Value} {xs : List Value} (h : A.ownsRow b0 3 1 v n xs) (hg : A.grownBy W v.ownBlock) (hz : A.heap[p]? = some zeroBx) : W.heap[p]? = some zeroBx := by
  rw [← hz]
  refine hg.block p (Array.getElem?_eq_some_iff.1 hz).1 ?_
  rcases h.2 with ⟨rfl, -⟩ | ⟨g, cap, cur, rfl, hbg, hgc, -⟩
  · exact nofun
  · intro e
    cases e
    rw [hgc] at hz
    cases hz
/-- what the law was given, in boxes, and the term behind the step -/
structure RcSt (n0 : Nat) (w W : World) (t : Tm) (tv : Value) (rule : Int) (pv bv : Value) (c : Tm) (cv qv : Value) (u : Tm) (us : Value) (pu : Nat) : Prop where
  t : W.heap[n0]? = some (.cells #[.string t.nm, .bool t.vr, tv] 25 (0, 0))
  q : W.heap[n0 + 1]? = some (.cells #[.int .i64 rule, pv, bv, .string c.nm, .bool c.vr, cv, qv] 31 (0, 0))
  u : TBx W pu u us
  low : Below n0 w W
theorem RcSt.carry {n0 : Nat} {w A W : World} {t : Tm} {tv : Value} {rule : Int} {pv bv : Value} {c : Tm} {cv qv : Value} {u : Tm} {us : Value} {pu : Nat} (h : RcSt n0 w A t tv rule pv bv c cv qv u us pu) (hb : Below A.heap.size A W) : RcSt n0 w W t tv rule pv bv c cv qv u us pu :=
  ⟨(hb.block _ (Array.getElem?_eq_some_iff.1 h.t).1).trans h.t, (hb.block _ (Array.getElem?_eq_some_iff.1 h.q).1).trans h.q, h.u.carry hb, h.low.trans (hb.mono (by have := (Array.getElem?_eq_some_iff.1 h.t).1; omega))⟩
theorem RcSt.qc {n0 : Nat} {w W : World} {t : Tm} {tv : Value} {rule : Int} {pv bv : Value} {c : Tm} {cv qv : Value} {u : Tm} {us : Value} {pu : Nat} (h : RcSt n0 w W t tv rule pv bv c cv qv u us pu) : W.cell? ⟨n0 + 1, 0, none⟩ = some (.int .i64 rule) ∧ W.cell? ⟨n0 + 1, 1, none⟩ = some pv ∧ W.cell? ⟨n0 + 1, 2, none⟩ = some bv ∧ W.cell? ⟨n0 + 1, 3, none⟩ = some (.string c.nm) ∧ W.cell? ⟨n0 + 1, 4, none⟩ = some (.bool c.vr) ∧ W.cell? ⟨n0 + 1, 5, none⟩ = some cv ∧ W.cell? ⟨n0 + 1, 6, none⟩ = some qv :=
  ⟨cells_of' h.q 0, cells_of' h.q 1, cells_of' h.q 2, cells_of' h.q 3, cells_of' h.q 4, cells_of' h.q 5, cells_of' h.q 6⟩
theorem RcSt.tc {n0 : Nat} {w W : World} {t : Tm} {tv : Value} {rule : Int} {pv bv : Value} {c : Tm} {cv qv : Value} {u : Tm} {us : Value} {pu : Nat} (h : RcSt n0 w W t tv rule pv bv c cv qv u us pu) : W.cell? ⟨n0, 0, none⟩ = some (.string t.nm) ∧ W.cell? ⟨n0, 1, none⟩ = some (.bool t.vr) ∧ W.cell? ⟨n0, 2, none⟩ = some tv :=
  ⟨cells_of' h.t 0, cells_of' h.t 1, cells_of' h.t 2⟩
theorem RcSt.uc {n0 : Nat} {w W : World} {t : Tm} {tv : Value} {rule : Int} {pv bv : Value} {c : Tm} {cv qv : Value} {u : Tm} {us : Value} {pu : Nat} (h : RcSt n0 w W t tv rule pv bv c cv qv u us pu) : W.cell? ⟨pu, 0, none⟩ = some (.string u.nm) ∧ W.cell? ⟨pu, 1, none⟩ = some (.bool u.vr) ∧ W.cell? ⟨pu, 2, none⟩ = some us :=
  ⟨cells_of' h.u.box 0, cells_of' h.u.box 1, cells_of' h.u.box 2⟩
structure Ce5 (n0 : Nat) (w0 : World) (R : List RlV) (rule : Int) (pos q : List Int) (bl : List Bd) (t c u : Tm) (rv tv pv bv cv qv us : Value) (pu : Nat) (f : Nat → Bool) (w : World) (v39 v40 v41 v42 v43 v44 v45 v46 v38 v47 v48 v9 v10 : Value) : Prop where
  low : Below w0.heap.size w0 w
  f0 : f 0 = true → v39 = rv
  f1 : f 1 = true → v40 = (.pointer (some ⟨n0 + 1, 2, none⟩))
  f2 : f 2 = true → v41 = bv
  f3 : f 3 = true → v42 = (.agg #[.string t.nm, .bool t.vr, tv])
  f4 : f 4 = true → f 7 = false → TmW w (apB bl t) v43
  f5 : f 5 = true → v44 = (.pointer (some ⟨n0 + 1, 0, none⟩))
  f6 : f 6 = true → v45 = (.agg #[.int .i64 rule, pv])
  f7 : f 7 = true → StV R (apB bl t) rule pos w v46
  f8 : f 8 = true → f 7 = true ∧ v38 = v46
  f9 : f 9 = true → f 7 = true ∧ ∃ a b, v46 = .tuple #[a, b] ∧ v47 = a
  f10 : f 10 = true → f 7 = true ∧ ∃ a b, v46 = .tuple #[a, b] ∧ v48 = b
  f11 : f 11 = true → ∃ p, v9 = ptr p ∧ w0.heap.size ≤ p ∧ p < w.heap.size ∧ (f 12 = false → w.heap[p]? = some zeroBx) ∧ (f 12 = true → StB R (apB bl t) rule pos w p v46)
  f13 : f 13 = true → f 10 = true ∧ v10 = v48
  o12 : f 12 = true → f 11 = true ∧ f 7 = true
theorem Ce5.keep {n0 : Nat} {w0 : World} {R : List RlV} {rule : Int} {pos q : List Int} {bl : List Bd} {t c u : Tm} {rv tv pv bv cv qv us : Value} {pu : Nat} {A W : World} {f : Nat → Bool} {v39 v40 v41 v42 v43 v44 v45 v46 v38 v47 v48 v9 v10 : Value} (h : Ce5 n0 w0 R rule pos q bl t c u rv tv pv bv cv qv us pu f A v39 v40 v41 v42 v43 v44 v45 v46 v38 v47 v48 v9 v10) (hb : Below A.heap.size A W) : Ce5 n0 w0 R rule pos q bl t c u rv tv pv bv cv qv us pu f W v39 v40 v41 v42 v43 v44 v45 v46 v38 v47 v48 v9 v10 :=
  ⟨h.low.trans (hb.mono h.low.size),
   h.f0,
   h.f1,
   h.f2,
   h.f3,
   fun k e => (h.f4 k e).keep hb,
   h.f5,
   h.f6,
   fun k => (h.f7 k).keep hb,
   h.f8,
   h.f9,
   h.f10,
   fun k => by obtain ⟨p, h1, h2, h3, h4, h5⟩ := h.f11 k; exact ⟨p, h1, h2, Nat.lt_of_lt_of_le h3 hb.size, fun e => (hb.block p h3).trans (h4 e), fun e => (h5 e).keep hb⟩,
   h.f13,
   h.o12⟩
def Ce5nv (n0 : Nat) (w0 : World) (R : List RlV) (rule : Int) (pos q : List Int) (bl : List Bd) (t c u : Tm) (rv tv pv bv cv qv us : Value) (pu : Nat) (z : Nat → Value) (f : Nat → Bool) (a : Act) (w : World) : Prop :=
  ∃ v39 v40 v41 v42 v43 v44 v45 v46 v38 v47 v48 v9 v10, a = { tmps := #[rv, z 1, z 2, z 3, .pointer (some ⟨n0, 0, none⟩), .pointer (some ⟨n0 + 1, 0, none⟩), z 6, ptr pu, z 8, v9, v10, z 11, z 12, z 13, z 14, z 15, z 16, z 17, z 18, z 19, z 20, z 21, z 22, z 23, z 24, z 25, z 26, z 27, z 28, z 29, z 30, z 31, z 32, z 33, z 34, z 35, z 36, z 37, v38, v39, v40, v41, v42, v43, v44, v45, v46, v47, v48, z 49, z 50, z 51, z 52, z 53, z 54, z 55, z 56, z 57, z 58, z 59, z 60, z 61, z 62, z 63, z 64, z 65, z 66, z 67, z 68, z 69, z 70, z 71, z 72, z 73, z 74, z 75, z 76, z 77, z 78, z 79, z 80, z 81, z 82, z 83, z 84, z 85, z 86, z 87, z 88, z 89, z 90, z 91, z 92, z 93, z 94, z 95, z 96, z 97, z 98, z 99, z 100, z 101, z 102, z 103, z 104, z 105, z 106, z 107, z 108, z 109, z 110, z 111, z 112, z 113, z 114, z 115, z 116, z 117, z 118, z 119, z 120, z 121, z 122, z 123, z 124, z 125, z 126], defers := [] } ∧ Ce5 n0 w0 R rule pos q bl t c u rv tv pv bv cv qv us pu f w v39 v40 v41 v42 v43 v44 v45 v46 v38 v47 v48 v9 v10
structure Ce14 (n0 : Nat) (w0 : World) (R : List RlV) (rule : Int) (pos q : List Int) (bl : List Bd) (t c u : Tm) (rv tv pv bv cv qv us : Value) (pu : Nat) (f : Nat → Bool) (w : World) (v84 v85 v86 v87 v88 v89 v90 v91 v92 v93 v94 v95 v13 v14 : Value) : Prop where
  low : Below w0.heap.size w0 w
  f0 : f 0 = true → v84 = (.pointer (some ⟨n0 + 1, 3, none⟩))
  f1 : f 1 = true → v85 = (.agg #[.string c.nm, .bool c.vr, cv])
  f2 : f 2 = true → v86 = (.pointer (some ⟨n0 + 1, 6, none⟩))
  f3 : f 3 = true → v87 = qv
  f4 : f 4 = true → v88 = (.agg #[.string t.nm, .bool t.vr, tv])
  f5 : f 5 = true → TmW w (c.put q t) v89
  f6 : f 6 = true → v90 = (.pointer (some ⟨n0 + 1, 3, none⟩))
  f7 : f 7 = true → v91 = (.agg #[.string c.nm, .bool c.vr, cv])
  f8 : f 8 = true → v92 = (.pointer (some ⟨n0 + 1, 6, none⟩))
  f9 : f 9 = true → v93 = qv
  f10 : f 10 = true → v94 = (.agg #[.string u.nm, .bool u.vr, us])
  f11 : f 11 = true → TmW w (c.put q u) v95
  f12 : f 12 = true → ∃ p, v13 = ptr p ∧ w0.heap.size ≤ p ∧ p < w.heap.size ∧ (f 14 = false → w.heap[p]? = some zeroBx) ∧ (f 14 = true → ∃ s', TBx w p (c.put q t) s')
  f13 : f 13 = true → ∃ p, v14 = ptr p ∧ w0.heap.size ≤ p ∧ p < w.heap.size ∧ (f 15 = false → w.heap[p]? = some zeroBx) ∧ (f 15 = true → ∃ s', TBx w p (c.put q u) s')
  ne : f 12 = true → f 13 = true → v13 ≠ v14
  o14 : f 14 = true → f 12 = true ∧ f 13 = true
  o15 : f 15 = true → f 13 = true ∧ f 14 = true
theorem Ce14.keep {n0 : Nat} {w0 : World} {R : List RlV} {rule : Int} {pos q : List Int} {bl : List Bd} {t c u : Tm} {rv tv pv bv cv qv us : Value} {pu : Nat} {A W : World} {f : Nat → Bool} {v84 v85 v86 v87 v88 v89 v90 v91 v92 v93 v94 v95 v13 v14 : Value} (h : Ce14 n0 w0 R rule pos q bl t c u rv tv pv bv cv qv us pu f A v84 v85 v86 v87 v88 v89 v90 v91 v92 v93 v94 v95 v13 v14) (hb : Below A.heap.size A W) : Ce14 n0 w0 R rule pos q bl t c u rv tv pv bv cv qv us pu f W v84 v85 v86 v87 v88 v89 v90 v91 v92 v93 v94 v95 v13 v14 :=
  ⟨h.low.trans (hb.mono h.low.size),
   h.f0,
   h.f1,
   h.f2,
   h.f3,
   h.f4,
   fun k => (h.f5 k).keep hb,
   h.f6,
   h.f7,
   h.f8,
   h.f9,
   h.f10,
   fun k => (h.f11 k).keep hb,
   fun k => by obtain ⟨p, h1, h2, h3, h4, h5⟩ := h.f12 k; exact ⟨p, h1, h2, Nat.lt_of_lt_of_le h3 hb.size, fun e => (hb.block p h3).trans (h4 e), fun e => (h5 e).imp fun _ h6 => h6.carry hb⟩,
   fun k => by obtain ⟨p, h1, h2, h3, h4, h5⟩ := h.f13 k; exact ⟨p, h1, h2, Nat.lt_of_lt_of_le h3 hb.size, fun e => (hb.block p h3).trans (h4 e), fun e => (h5 e).imp fun _ h6 => h6.carry hb⟩,
   h.ne,
   h.o14,
   h.o15⟩
def Ce14nv (n0 : Nat) (w0 : World) (R : List RlV) (rule : Int) (pos q : List Int) (bl : List Bd) (t c u : Tm) (rv tv pv bv cv qv us : Value) (pu : Nat) (z : Nat → Value) (f : Nat → Bool) (a : Act) (w : World) : Prop :=
  ∃ v84 v85 v86 v87 v88 v89 v90 v91 v92 v93 v94 v95 v13 v14, a = { tmps := #[rv, z 1, z 2, z 3, .pointer (some ⟨n0, 0, none⟩), .pointer (some ⟨n0 + 1, 0, none⟩), z 6, ptr pu, z 8, z 9, z 10, z 11, z 12, v13, v14, z 15, z 16, z 17, z 18, z 19, z 20, z 21, z 22, z 23, z 24, z 25, z 26, z 27, z 28, z 29, z 30, z 31, z 32, z 33, z 34, z 35, z 36, z 37, z 38, z 39, z 40, z 41, z 42, z 43, z 44, z 45, z 46, z 47, z 48, z 49, z 50, z 51, z 52, z 53, z 54, z 55, z 56, z 57, z 58, z 59, z 60, z 61, z 62, z 63, z 64, z 65, z 66, z 67, z 68, z 69, z 70, z 71, z 72, z 73, z 74, z 75, z 76, z 77, z 78, z 79, z 80, z 81, z 82, z 83, v84, v85, v86, v87, v88, v89, v90, v91, v92, v93, v94, v95, z 96, z 97, z 98, z 99, z 100, z 101, z 102, z 103, z 104, z 105, z 106, z 107, z 108, z 109, z 110, z 111, z 112, z 113, z 114, z 115, z 116, z 117, z 118, z 119, z 120, z 121, z 122, z 123, z 124, z 125, z 126], defers := [] } ∧ Ce14 n0 w0 R rule pos q bl t c u rv tv pv bv cv qv us pu f w v84 v85 v86 v87 v88 v89 v90 v91 v92 v93 v94 v95 v13 v14
structure Ce17 (n0 : Nat) (w0 : World) (R : List RlV) (rule : Int) (pos q : List Int) (bl : List Bd) (t c u : Tm) (rv tv pv bv cv qv us : Value) (pu : Nat) (sa : Value) (pa pb : Nat) (f : Nat → Bool) (w : World) (v101 v102 v103 v104 v105 v106 v107 v108 v109 v110 v111 v112 v113 v114 v115 v100 v116 v117 v15 v16 : Value) : Prop where
  low : Below w0.heap.size w0 w
  f0 : f 0 = true → v101 = rv
  f1 : f 1 = true → v102 = (.agg #[.string (c.put q t).nm, .bool (c.put q t).vr, sa])
  f2 : f 2 = true → v103 = (.pointer (some ⟨n0 + 1, 0, none⟩))
  f3 : f 3 = true → v104 = (.pointer (some ⟨n0 + 1, 0, none⟩))
  f4 : f 4 = true → v105 = (.int .i64 rule)
  f5 : f 5 = true → (f 8 = false → w.ownsRow w0.heap.size 3 1 v106 0 [])
  f6 : f 6 = true → v107 = (.pointer (some ⟨n0 + 1, 6, none⟩))
  f7 : f 7 = true → v108 = qv
  f8 : f 8 = true → (f 12 = false → w.ownsRow w0.heap.size 3 1 v109 q.length (ints q))
  f9 : f 9 = true → v110 = (.pointer (some ⟨n0 + 1, 0, none⟩))
  f10 : f 10 = true → v111 = (.pointer (some ⟨n0 + 1, 1, none⟩))
  f11 : f 11 = true → v112 = pv
  f12 : f 12 = true → (∃ o c, v113 = .slice o (q.length + pos.length) c) ∧ (f 14 = false → w.ownsRow w0.heap.size 3 1 v113 (q.length + pos.length) (ints q ++ ints pos))
  f13 : f 13 = true → f 12 = true ∧ v114 = .agg #[.int .i64 rule, v113]
  f14 : f 14 = true → StV R (c.put q t) rule (q ++ pos) w v115
  f15 : f 15 = true → f 14 = true ∧ v100 = v115
  f16 : f 16 = true → f 14 = true ∧ ∃ a b, v115 = .tuple #[a, b] ∧ v116 = a
  f17 : f 17 = true → f 14 = true ∧ ∃ a b, v115 = .tuple #[a, b] ∧ v117 = b
  f18 : f 18 = true → ∃ p, v15 = ptr p ∧ w0.heap.size ≤ p ∧ p < w.heap.size ∧ (f 19 = false → w.heap[p]? = some zeroBx) ∧ (f 19 = true → StB R (c.put q t) rule (q ++ pos) w p v115)
  f20 : f 20 = true → f 17 = true ∧ v16 = v117
  o12 : f 12 = true → f 8 = true
  o14 : f 14 = true → f 8 = true ∧ f 12 = true
  o19 : f 19 = true → f 18 = true ∧ f 14 = true ∧ f 8 = true ∧ f 12 = true
theorem Ce17.keep {n0 : Nat} {w0 : World} {R : List RlV} {rule : Int} {pos q : List Int} {bl : List Bd} {t c u : Tm} {rv tv pv bv cv qv us : Value} {pu : Nat} {sa : Value} {pa pb : Nat} {A W : World} {f : Nat → Bool} {v101 v102 v103 v104 v105 v106 v107 v108 v109 v110 v111 v112 v113 v114 v115 v100 v116 v117 v15 v16 : Value} (h : Ce17 n0 w0 R rule pos q bl t c u rv tv pv bv cv qv us pu sa pa pb f A v101 v102 v103 v104 v105 v106 v107 v108 v109 v110 v111 v112 v113 v114 v115 v100 v116 v117 v15 v16) (hb : Below A.heap.size A W) : Ce17 n0 w0 R rule pos q bl t c u rv tv pv bv cv qv us pu sa pa pb f W v101 v102 v103 v104 v105 v106 v107 v108 v109 v110 v111 v112 v113 v114 v115 v100 v116 v117 v15 v16 :=
  ⟨h.low.trans (hb.mono h.low.size),
   h.f0,
   h.f1,
   h.f2,
   h.f3,
   h.f4,
   fun k e => (h.f5 k e).kept (below_grown hb) (own_none _),
   h.f6,
   h.f7,
   fun k e => (h.f8 k e).kept (below_grown hb) (own_none _),
   h.f9,
   h.f10,
   h.f11,
   fun k => ⟨(h.f12 k).1, fun e => ((h.f12 k).2 e).kept (below_grown hb) (own_none _)⟩,
   h.f13,
   fun k => (h.f14 k).keep hb,
   h.f15,
   h.f16,
   h.f17,
   fun k => by obtain ⟨p, h1, h2, h3, h4, h5⟩ := h.f18 k; exact ⟨p, h1, h2, Nat.lt_of_lt_of_le h3 hb.size, fun e => (hb.block p h3).trans (h4 e), fun e => (h5 e).keep hb⟩,
   h.f20,
   h.o12,
   h.o14,
   h.o19⟩
def Ce17nv (n0 : Nat) (w0 : World) (R : List RlV) (rule : Int) (pos q : List Int) (bl : List Bd) (t c u : Tm) (rv tv pv bv cv qv us : Value) (pu : Nat) (sa : Value) (pa pb : Nat) (z : Nat → Value) (f : Nat → Bool) (a : Act) (w : World) : Prop :=
  ∃ v101 v102 v103 v104 v105 v106 v107 v108 v109 v110 v111 v112 v113 v114 v115 v100 v116 v117 v15 v16, a = { tmps := #[rv, z 1, z 2, z 3, .pointer (some ⟨n0, 0, none⟩), .pointer (some ⟨n0 + 1, 0, none⟩), z 6, ptr pu, z 8, z 9, z 10, z 11, z 12, ptr pa, ptr pb, v15, v16, z 17, z 18, z 19, z 20, z 21, z 22, z 23, z 24, z 25, z 26, z 27, z 28, z 29, z 30, z 31, z 32, z 33, z 34, z 35, z 36, z 37, z 38, z 39, z 40, z 41, z 42, z 43, z 44, z 45, z 46, z 47, z 48, z 49, z 50, z 51, z 52, z 53, z 54, z 55, z 56, z 57, z 58, z 59, z 60, z 61, z 62, z 63, z 64, z 65, z 66, z 67, z 68, z 69, z 70, z 71, z 72, z 73, z 74, z 75, z 76, z 77, z 78, z 79, z 80, z 81, z 82, z 83, z 84, z 85, z 86, z 87, z 88, z 89, z 90, z 91, z 92, z 93, z 94, z 95, z 96, z 97, z 98, z 99, v100, v101, v102, v103, v104, v105, v106, v107, v108, v109, v110, v111, v112, v113, v114, v115, v116, v117, z 118, z 119, z 120, z 121, z 122, z 123, z 124, z 125, z 126], defers := [] } ∧ Ce17 n0 w0 R rule pos q bl t c u rv tv pv bv cv qv us pu sa pa pb f w v101 v102 v103 v104 v105 v106 v107 v108 v109 v110 v111 v112 v113 v114 v115 v100 v116 v117 v15 v16
set_option maxRecDepth 100000 in
set_option maxHeartbeats 32000000 in
theorem rewriteClosed_any (R : List RlV) (rv : Value) (t : Tm) (tv : Value) (rule : Int) (pos : List Int) (pv : Value) (bl : List Bd) (bv : Value) (c : Tm) (cv : Value) (q : List Int) (qv : Value) (w : World) (hR : RulV w.heap.size w R rv) (hRl : R.length ≤ 1048576) (hRb : ∀ x ∈ sidesV R, x.1.bulk ≤ 1048576)
    (ht : SlIs w.heap.size w t.ts tv) (htb : t.bulk ≤ 1048576) (hp : PosC w.heap.size w pos pv) (hpn : ∀ m k, pv = .slice none m k → m = 0 ∧ k = 0) (hpl : pos.length + q.length ≤ 1048576) (hbl : BindsIs w.heap.size w bl bv) (hbb : bdBulk bl ≤ 1048576)
    (hc : SlIs w.heap.size w c.ts cv) (hcb : c.bulk ≤ 1048576) (hq : PosC w.heap.size w q qv) (hqn : ∀ m k, qv = .slice none m k → m = 0 ∧ k = 0) :
    Calls Tryz.prog 3 #[rv, .agg #[.string t.nm, .bool t.vr, tv], .agg #[.int .i64 rule, pv, bv, .string c.nm, .bool c.vr, cv, qv]] w fun e w' => e = .returned (.bool true) ∧ Below w.heap.size w w' := by
  have hbll := Nat.le_trans (bdBulk_len bl) hbb
  obtain ⟨orr, cr, rfl⟩ := hR.shape
  obtain ⟨ot, ct, rfl, -⟩ := ht.form
  obtain ⟨oc, cc, rfl, -⟩ := hc.form
  obtain ⟨op, cp, rfl, -⟩ := hp.1.form
  obtain ⟨oq, cq, rfl, -⟩ := hq.1.form
  have hbl' := hbl
  obtain ⟨ob, cb, rfl, -, -⟩ := hbl'
  have HPN : Hid (op = none → pos.length = 0 ∧ cp = 0) := Lib.hid (fun e => by subst e; exact hpn _ _ rfl)
  have HQN : Hid (oq = none → q.length = 0 ∧ cq = 0) := Lib.hid (fun e => by subst e; exact hqn _ _ rfl)
  have HT := Lib.hid ht
  have HC := Lib.hid hc
  have HP := Lib.hid hp
  have HQP := Lib.hid hq
  have HBL := Lib.hid hbl
  have HST : Hid (∀ (W : World) (T : Tm) (sT : Value) (ps : List Int) (v : Value), Below w.heap.size w W → SlIs W.heap.size W T.ts sT → T.bulk ≤ 1048576 → PosC W.heap.size W ps v → ps.length ≤ 1048576 → Calls Tryz.prog 11 #[.slice orr R.length cr, .agg #[.string T.nm, .bool T.vr, sT], .agg #[.int .i64 rule, v]] W fun e w' => ∃ u k, TmNum W w' e u k ∧ StepPost R T rule ps u k) := Lib.hid fun W T sT ps v hW h1 h2 h3 h4 => rwstep_any R _ T sT rule ps v W (hR.carry hW hW.size) h1 h3 hRl hRb h2 h4
  have HAL : Hid (∀ W, Below w.heap.size w W → Calls Tryz.prog 12 #[] W fun e w' => e = .returned (.bool true) ∧ Below w.heap.size w w') := Lib.hid fun W hW => (alive_any W).mono fun e w' h => ⟨h.1, hW.trans (h.2.mono hW.size)⟩
  clear hR ht hc hp hq hbl hRb hpn hqn
  go_enter Tryz.func3, Tryz.ntmps3
  go_wp2_with fail
  have hA : Below w.heap.size w ((w.alloc (.cells #[.string t.nm, .bool t.vr, .slice ot t.ts.length ct] 25)).alloc (.cells #[.int .i64 rule, .slice op pos.length cp, .slice ob bl.length cb, .string c.nm, .bool c.vr, .slice oc c.ts.length cc, .slice oq q.length cq] 31)) := by go_grown
  have ha0 : ((w.alloc (.cells #[.string t.nm, .bool t.vr, .slice ot t.ts.length ct] 25)).alloc (.cells #[.int .i64 rule, .slice op pos.length cp, .slice ob bl.length cb, .string c.nm, .bool c.vr, .slice oc c.ts.length cc, .slice oq q.length cq] 31)).heap[w.heap.size]? = some (.cells #[.string t.nm, .bool t.vr, .slice ot t.ts.length ct] 25 (0, 0)) := (Below.heap_alloc _ _ _ (by simp)).trans (heap_new_at _ _ _ rfl)
  have ha1 : ((w.alloc (.cells #[.string t.nm, .bool t.vr, .slice ot t.ts.length ct] 25)).alloc (.cells #[.int .i64 rule, .slice op pos.length cp, .slice ob bl.length cb, .string c.nm, .bool c.vr, .slice oc c.ts.length cc, .slice oq q.length cq] 31)).heap[w.heap.size + 1]? = some (.cells #[.int .i64 rule, .slice op pos.length cp, .slice ob bl.length cb, .string c.nm, .bool c.vr, .slice oc c.ts.length cc, .slice oq q.length cq] 31 (0, 0)) := heap_new_at _ _ _ (by simp)
  refine (HST.out _ t _ pos _ hA (HT.out.carry hA hA.size) htb (HP.out.carry hA hA.size) (by omega)).mono ?_
  rintro e w1 ⟨u, k, ⟨⟨su, rfl, hsu⟩, hb⟩, hpost⟩
  obtain ⟨ou, cu, rfl, -⟩ := hsu.form
  have hB1 := hA.trans (hb.mono hA.size)
  have HM0 : Hid (Below w.heap.size w w1) := Lib.hid hB1
  have HX0 := Lib.hid ((hb.block w.heap.size (Array.getElem?_eq_some_iff.1 ha0).1).trans ha0)
  have HX1 := Lib.hid ((hb.block (w.heap.size + 1) (Array.getElem?_eq_some_iff.1 ha1).1).trans ha1)
  have HU := Lib.hid hsu
  have HPO := Lib.hid hpost
  clear hA ha0 ha1 hb hsu hpost hB1
  by_cases hk0 : k = 0
  rotate_left
  · have hk1 : (k == 0) = false := by simpa using hk0
    have hk2 : (k != 0) = true := by simpa using hk0
    clear hk0
    go_wp2_with fail
    refine (HAL.out _ (HM0.out.alloc HM0.out.size _)).mono ?_
    rintro e w9 ⟨rfl, hb⟩
    have HB := Lib.hid hb
    clear hb
    go_wp2_with fail
    go_ret
    exact ⟨rfl, HB.out⟩
  subst hk0
  have HZ4 := Lib.hid (HPO.out.zero rfl)
  clear HPO
  obtain ⟨pu, hpu⟩ : ∃ pu, pu = w1.heap.size := ⟨_, rfl⟩
  have hGu : Below w1.heap.size w1 (w1.alloc (.cells #[.string u.nm, .bool u.vr, .slice ou u.ts.length cu] 25)) := (Below.refl _ _).alloc (Nat.le_refl _) _
  have HB : Hid (RcSt w.heap.size w (w1.alloc (.cells #[.string u.nm, .bool u.vr, .slice ou u.ts.length cu] 25)) t (.slice ot t.ts.length ct) rule (.slice op pos.length cp) (.slice ob bl.length cb) c (.slice oc c.ts.length cc) (.slice oq q.length cq) u (.slice ou u.ts.length cu) pu) := Lib.hid ⟨(hGu.block _ (Array.getElem?_eq_some_iff.1 HX0.out).1).trans HX0.out, (hGu.block _ (Array.getElem?_eq_some_iff.1 HX1.out).1).trans HX1.out, hpu ▸ TBx.new HU.out, HM0.out.trans (hGu.mono HM0.out.size)⟩
  clear hGu HX0 HX1 HU HM0
  have hub : u.bulk ≤ 1048576 := by have := HZ4.out.2.2.1.bulk; omega
  go_upto_region 4 with fail
  generalize hW2 : w1.alloc (.cells #[.string u.nm, .bool u.vr, .slice ou u.ts.length cu] 25) = W2 at *
  rw [← hpu] at *
  clear hpu hW2
  go_cut [37] (fun s37 wx => ∃ b : Bool, s37 = .bool b ∧ Hid (b = true → SubOk bl ∧ ((apB bl t).size ≤ 4000 ∧ (apB bl t).depth ≤ 200)) ∧ Hid (RcSt w.heap.size w wx t (.slice ot t.ts.length ct) rule (.slice op pos.length cp) (.slice ob bl.length cb) c (.slice oc c.ts.length cc) (.slice oq q.length cq) u (.slice ou u.ts.length cu) pu))
  case first =>
    obtain ⟨c0, c1, c2, c3, c4, c5, c6⟩ := HB.out.qc
    go_wp2_with fail
    refine (rcheckSubst_iff bl _ _ (HBL.out.carry HB.out.low HB.out.low.size) hbb).mono ?_
    rintro e w11 ⟨⟨k, rfl, hk⟩, hb⟩
    have HM11 := Lib.hid (HB.out.carry hb)
    clear hb c0 c1 c2 c3 c4 c5 c6
    by_cases hso : SubOk bl
    rotate_left
    · have hk1 : (k == 0) = false := by rw [beq_eq_false_iff_ne]; exact fun e => hso (hk.1 e)
      clear hk hso
      go_wp2_with fail; go_meet; exact ⟨false, rfl, Lib.hid nofun, HM11⟩
    obtain rfl := hk.2 hso
    have HSB := Lib.hid hso
    clear hk hso
    obtain ⟨c0, c1, c2, c3, c4, c5, c6⟩ := HM11.out.qc
    obtain ⟨a0, a1, a2⟩ := HM11.out.tc
    go_wp2_with fail
    refine (rfits_any bl (.slice ob bl.length cb) w.heap.size (by omega) (fun q hq => ⟨(HSB.out.terms q hq).2.1, by have := (HSB.out.terms q hq).bulk; omega⟩) t _ _ HM11.out.low.size (HBL.out.carry HM11.out.low (Nat.le_refl _)) (HT.out.carry HM11.out.low HM11.out.low.size) htb HZ4.out.2.1.1.bare).mono ?_
    rintro e w12 ⟨rfl, hb⟩
    have HM12 := Lib.hid (HM11.out.carry hb)
    clear hb c0 c1 c2 c3 c4 c5 c6 a0 a1 a2
    by_cases hfa : (apB bl t).size ≤ 4000 ∧ (apB bl t).depth ≤ 200
    · rw [decide_eq_true hfa]
      have HFAA := Lib.hid hfa
      clear hfa
      go_wp2_with fail; go_meet; exact ⟨true, rfl, Lib.hid fun _ => ⟨HSB.out, HFAA.out⟩, HM12⟩
    · rw [decide_eq_false hfa]
      clear hfa
      go_wp2_with fail; go_meet; exact ⟨false, rfl, Lib.hid nofun, HM12⟩
  case rest =>
  obtain ⟨b37, rfl, HFT, HM3⟩ := hcut
  clear HB
  go_upto_if 37 with fail
  go_cut [8] (fun s8 wx => s8 = .int .i64 0 ∧ Hid (RcSt w.heap.size w wx t (.slice ot t.ts.length ct) rule (.slice op pos.length cp) (.slice ob bl.length cb) c (.slice oc c.ts.length cc) (.slice oq q.length cq) u (.slice ou u.ts.length cu) pu))
  case first =>
    cases b37 with
    | false => go_wp2_with fail; go_meet; exact ⟨rfl, HM3⟩
    | true =>
      have HFT1 := Lib.hid (HFT.out rfl)
      have HOKS := Lib.hid (show (apB bl t).ok from ⟨apB_formed6 (fun q hq => (HFT1.out.1.terms q hq).1) HZ4.out.2.1.1, HFT1.out.2.1, HFT1.out.2.2⟩)
      have HSS := Lib.hid (stepR_sub bl HZ4.out.1 HZ4.out.2.1 HZ4.out.2.2.2)
      have hbA : (apB bl t).bulk ≤ 1048576 := by have := HOKS.out.bulk; omega
      clear HFT
      go_wp2_with fail
      have HB := HM3
      refine wp_region_invE (Ce5nv w.heap.size wc R rule pos q bl t c u (.slice orr R.length cr) (.slice ot t.ts.length ct) (.slice op pos.length cp) (.slice ob bl.length cb) (.slice oc c.ts.length cc) (.slice oq q.length cq) (.slice ou u.ts.length cu) pu) (by kernel_rfl) (by kernel_rfl) ?h0 ?hend ?hstep
      case h0 => exact ⟨_, _, _, _, _, _, _, _, _, _, _, _, _, rfl, (Below.refl _ wc).drew, nofun, nofun, nofun, nofun, nofun, nofun, nofun, nofun, nofun, nofun, nofun, nofun, nofun, nofun⟩
      case hstep =>
        rintro z i o ho f a W ⟨v39, v40, v41, v42, v43, v44, v45, v46, v38, v47, v48, v9, v10, rfl, h⟩ hfi hd K' hK
        have HI := Lib.hid h
        match i, ho with
        | 0, ho =>
          cases ho
          clear h
          go_simp
          exact hK.out _ _ ⟨_, v40, v41, v42, v43, v44, v45, v46, v38, v47, v48, v9, v10, rfl, HI.out.low, (fun _ => rfl), HI.out.f1, HI.out.f2, HI.out.f3, HI.out.f4, HI.out.f5, HI.out.f6, HI.out.f7, HI.out.f8, HI.out.f9, HI.out.f10, HI.out.f11, HI.out.f13, HI.out.o12⟩
        | 1, ho =>
          cases ho
          clear h
          go_simp
          exact hK.out _ _ ⟨v39, _, v41, v42, v43, v44, v45, v46, v38, v47, v48, v9, v10, rfl, HI.out.low, HI.out.f0, (fun _ => rfl), HI.out.f2, HI.out.f3, HI.out.f4, HI.out.f5, HI.out.f6, HI.out.f7, HI.out.f8, HI.out.f9, HI.out.f10, HI.out.f11, HI.out.f13, HI.out.o12⟩
        | 2, ho =>
          cases ho
          have e := h.f1 (hd ⟨1, .data⟩ (by simp) rfl)
          subst e
          obtain ⟨c0, c1, c2, c3, c4, c5, c6⟩ := (HB.out.carry h.low).qc
          clear h
          go_simp
          exact hK.out _ _ ⟨v39, _, _, v42, v43, v44, v45, v46, v38, v47, v48, v9, v10, rfl, HI.out.low, HI.out.f0, HI.out.f1, (fun _ => rfl), HI.out.f3, HI.out.f4, HI.out.f5, HI.out.f6, HI.out.f7, HI.out.f8, HI.out.f9, HI.out.f10, HI.out.f11, HI.out.f13, HI.out.o12⟩
        | 3, ho =>
          cases ho
          obtain ⟨c0, c1, c2⟩ := (HB.out.carry h.low).tc
          clear h
          go_simp
          exact hK.out _ _ ⟨v39, v40, v41, _, v43, v44, v45, v46, v38, v47, v48, v9, v10, rfl, HI.out.low, HI.out.f0, HI.out.f1, HI.out.f2, (fun _ => rfl), HI.out.f4, HI.out.f5, HI.out.f6, HI.out.f7, HI.out.f8, HI.out.f9, HI.out.f10, HI.out.f11, HI.out.f13, HI.out.o12⟩
        | 4, ho =>
          cases ho
          have e := h.f2 (hd ⟨2, .data⟩ (by simp) rfl)
          subst e
          have e := h.f3 (hd ⟨3, .data⟩ (by simp) rfl)
          subst e
          have hl := HB.out.carry h.low
          have HLw := Lib.hid hl
          clear h hd hl
          go_simp
          refine (rapply_any bl _ w.heap.size (by omega) t _ _ HLw.out.low.size (HBL.out.carry HLw.out.low (Nat.le_refl _)) (HT.out.carry HLw.out.low HLw.out.low.size) htb).mono ?_
          rintro e W' ⟨⟨sr, rfl, hr⟩, hb⟩
          have hr := hr.lt.toIs fun b hb => hb.2
          obtain ⟨o5, c5, rfl, -⟩ := hr.form
          have H1 := HI.out.keep hb
          exact hK.out _ _ ⟨v39, v40, _, _, _, v44, v45, v46, v38, v47, v48, v9, v10, rfl, H1.low, H1.f0, H1.f1, H1.f2, H1.f3, (fun _ _ => ⟨_, _, _, rfl, hr⟩), H1.f5, H1.f6, H1.f7, H1.f8, H1.f9, H1.f10, H1.f11, H1.f13, H1.o12⟩
        | 5, ho =>
          cases ho
          clear h
          go_simp
          exact hK.out _ _ ⟨v39, v40, v41, v42, v43, _, v45, v46, v38, v47, v48, v9, v10, rfl, HI.out.low, HI.out.f0, HI.out.f1, HI.out.f2, HI.out.f3, HI.out.f4, (fun _ => rfl), HI.out.f6, HI.out.f7, HI.out.f8, HI.out.f9, HI.out.f10, HI.out.f11, HI.out.f13, HI.out.o12⟩
        | 6, ho =>
          cases ho
          have e := h.f5 (hd ⟨5, .data⟩ (by simp) rfl)
          subst e
          obtain ⟨c0, c1, c2, c3, c4, c5, c6⟩ := (HB.out.carry h.low).qc
          clear h
          go_simp
          exact hK.out _ _ ⟨v39, v40, v41, v42, v43, _, _, v46, v38, v47, v48, v9, v10, rfl, HI.out.low, HI.out.f0, HI.out.f1, HI.out.f2, HI.out.f3, HI.out.f4, HI.out.f5, (fun _ => rfl), HI.out.f7, HI.out.f8, HI.out.f9, HI.out.f10, HI.out.f11, HI.out.f13, HI.out.o12⟩
        | 7, ho =>
          cases ho
          obtain ⟨o4, n4, k4, e, hr4⟩ := h.f4 (hd ⟨4, .data⟩ (by simp) rfl) hfi
          subst e
          have e := h.f0 (hd ⟨0, .data⟩ (by simp) rfl)
          subst e
          have e := h.f6 (hd ⟨6, .data⟩ (by simp) rfl)
          subst e
          have hl := HB.out.carry h.low
          have HLw := Lib.hid hl
          clear h hd hl
          go_simp
          refine (HST.out W (apB bl t) _ pos _ HLw.out.low hr4 hbA (HP.out.carry HLw.out.low HLw.out.low.size) (by omega)).mono ?_
          rintro e W' ⟨y, k, ⟨⟨sl, rfl, hsl⟩, hb⟩, hpost⟩
          obtain ⟨yo, yc, rfl, -⟩ := hsl.form
          have H1 := HI.out.keep hb
          exact hK.out _ _ ⟨_, v40, v41, v42, _, v44, _, _, v38, v47, v48, v9, v10, rfl, H1.low, H1.f0, H1.f1, H1.f2, H1.f3, (fun _ e => nomatch e), H1.f5, H1.f6, (fun _ => ⟨_, _, _, _, _, rfl, hsl, hpost⟩), (fun k => by have := (HI.out.f8 k).1; rw [hfi] at this; cases this), (fun k => by have := (HI.out.f9 k).1; rw [hfi] at this; cases this), (fun k => by have := (HI.out.f10 k).1; rw [hfi] at this; cases this), (fun k => by obtain ⟨p, h1, h2, h3, h4, h5⟩ := H1.f11 k; exact ⟨p, h1, h2, h3, h4, fun e => by have := HI.out.o12 e; rw [hfi] at this; simp at this⟩), H1.f13, (fun k => by have := HI.out.o12 k; rw [hfi] at this; simp at this)⟩
        | 8, ho =>
          cases ho
          have d := hd ⟨7, .data⟩ (by simp) rfl
          clear h
          go_simp
          exact hK.out _ _ ⟨v39, v40, v41, v42, v43, v44, v45, v46, _, v47, v48, v9, v10, rfl, HI.out.low, HI.out.f0, HI.out.f1, HI.out.f2, HI.out.f3, HI.out.f4, HI.out.f5, HI.out.f6, HI.out.f7, (fun _ => ⟨d, rfl⟩), HI.out.f9, HI.out.f10, HI.out.f11, HI.out.f13, HI.out.o12⟩
        | 9, ho =>
          cases ho
          obtain ⟨d, e⟩ := h.f8 (hd ⟨8, .data⟩ (by simp) rfl)
          obtain ⟨y, k, yo, yn, yc, e7, hy⟩ := h.f7 d
          subst e7
          subst e
          clear h hy
          go_simp
          exact hK.out _ _ ⟨v39, v40, v41, v42, v43, v44, v45, _, _, _, v48, v9, v10, rfl, HI.out.low, HI.out.f0, HI.out.f1, HI.out.f2, HI.out.f3, HI.out.f4, HI.out.f5, HI.out.f6, HI.out.f7, HI.out.f8, (fun _ => ⟨d, _, _, rfl, rfl⟩), HI.out.f10, HI.out.f11, HI.out.f13, HI.out.o12⟩
        | 10, ho =>
          cases ho
          obtain ⟨d, e⟩ := h.f8 (hd ⟨8, .data⟩ (by simp) rfl)
          obtain ⟨y, k, yo, yn, yc, e7, hy⟩ := h.f7 d
          subst e7
          subst e
          clear h hy
          go_simp
          exact hK.out _ _ ⟨v39, v40, v41, v42, v43, v44, v45, _, _, v47, _, v9, v10, rfl, HI.out.low, HI.out.f0, HI.out.f1, HI.out.f2, HI.out.f3, HI.out.f4, HI.out.f5, HI.out.f6, HI.out.f7, HI.out.f8, HI.out.f9, (fun _ => ⟨d, _, _, rfl, rfl⟩), HI.out.f11, (fun k => by have := (HI.out.f13 k).1; rw [hfi] at this; cases this), HI.out.o12⟩
        | 11, ho =>
          cases ho
          clear h
          go_simp
          have hb := (Below.refl W.heap.size W).alloc (Nat.le_refl _) zeroBx
          have H1 := HI.out.keep hb
          exact hK.out _ (W.alloc zeroBx) ⟨v39, v40, v41, v42, v43, v44, v45, v46, v38, v47, v48, (ptr W.heap.size), v10, rfl, H1.low, H1.f0, H1.f1, H1.f2, H1.f3, H1.f4, H1.f5, H1.f6, H1.f7, H1.f8, H1.f9, H1.f10, (fun _ => ⟨_, rfl, HI.out.low.size, by simp, fun _ => heap_new_at _ _ _ rfl, (fun k => by have := HI.out.o12 k; rw [hfi] at this; simp at this)⟩), H1.f13, ((fun k => by have := HI.out.o12 k; rw [hfi] at this; simp at this))⟩
        | 12, ho =>
          cases ho
          have dal := hd ⟨11, .data⟩ (by simp) rfl
          obtain ⟨d7, a0, b0, ea, eb⟩ := h.f9 (hd ⟨9, .data⟩ (by simp) rfl)
          obtain ⟨p, e7, h2, h3, h4, -⟩ := h.f11 (hd ⟨11, .data⟩ (by simp) rfl)
          obtain ⟨y, k, oq, nq, cq, e, hq, hpost⟩ := h.f7 d7
          subst eb
          subst e
          cases ea
          subst e7
          have hz := h4 hfi
          have HZ := Lib.hid hz
          have HQ := Lib.hid hq
          have HPO := Lib.hid hpost
          obtain ⟨⟨c0, c1, c2⟩, g0, g1, g2⟩ := box3 hz
          clear h hd h4 hz hq hpost
          unfold ptr
          go_simp
          exact hK.out _ _ ⟨v39, v40, v41, v42, v43, v44, v45, _, v38, _, v48, (ptr p), v10, rfl, below_set3 HI.out.low (b := p) h2 (.string y.nm) (.bool y.vr) (.slice oq nq cq), HI.out.f0, HI.out.f1, HI.out.f2, HI.out.f3, (fun _ e => by rw [show flag f 12 7 = f 7 from rfl, d7] at e; cases e), HI.out.f5, HI.out.f6, (fun _ => ⟨y, k, oq, nq, cq, rfl, HQ.out.setz HZ.out HPO.out.fts (.string y.nm) (.bool y.vr) (.slice oq nq cq), HPO.out⟩), HI.out.f8, HI.out.f9, HI.out.f10, (fun _ => ⟨p, rfl, h2, by simp [World.setCell]; omega, nofun, fun _ => ⟨y, k, oq, nq, cq, rfl, ⟨box3_set HZ.out (.string y.nm) (.bool y.vr) (.slice oq nq cq), HQ.out.setz HZ.out HPO.out.fts (.string y.nm) (.bool y.vr) (.slice oq nq cq)⟩, HPO.out⟩⟩), HI.out.f13, (fun _ => ⟨dal, d7⟩)⟩
        | 13, ho =>
          cases ho
          have d := hd ⟨10, .data⟩ (by simp) rfl
          clear h
          go_simp
          exact hK.out _ _ ⟨v39, v40, v41, v42, v43, v44, v45, v46, v38, v47, v48, v9, _, rfl, HI.out.low, HI.out.f0, HI.out.f1, HI.out.f2, HI.out.f3, HI.out.f4, HI.out.f5, HI.out.f6, HI.out.f7, HI.out.f8, HI.out.f9, HI.out.f10, HI.out.f11, (fun _ => ⟨d, rfl⟩), HI.out.o12⟩
        | i + 14, ho => simp at ho
      case hend =>
      rintro z f a W9 HZ ⟨v39, v40, v41, v42, v43, v44, v45, v46, v38, v47, v48, v9, v10, rfl, h⟩ hall
      obtain ⟨p, rfl, -, -, -, h5⟩ := h.f11 (hall 11 (by simp))
      obtain ⟨y, k, yo, yn, yc, rfl, hbx, hpost⟩ := h5 (hall 12 (by simp))
      obtain ⟨-, rfl⟩ := h.f13 (hall 13 (by simp))
      obtain ⟨-, a1, b1, e1, rfl⟩ := h.f10 (hall 10 (by simp))
      cases e1
      have HBX := Lib.hid hbx
      have HPO := Lib.hid hpost
      have HMb := Lib.hid (HB.out.carry h.low)
      clear h h5 hall HB hbx hpost
      obtain ⟨oy', cy', e, -⟩ := HBX.out.is.form
      cases e
      obtain ⟨⟨x0, x1, x2⟩, -⟩ := box3 HBX.out.box
      obtain ⟨c0, c1, c2, c3, c4, c5, c6⟩ := HMb.out.qc
      obtain ⟨u0, u1, u2⟩ := HMb.out.uc
      unfold ptr
      go_wp2_with fail
      refine (rfits_any bl (.slice ob bl.length cb) w.heap.size (by omega) (fun q hq => ⟨(HFT1.out.1.terms q hq).2.1, by have := (HFT1.out.1.terms q hq).bulk; omega⟩) u _ _ HMb.out.low.size (HBL.out.carry HMb.out.low (Nat.le_refl _)) HMb.out.u.is hub HZ4.out.2.2.1.1.bare).mono ?_
      rintro e W10 ⟨rfl, hb⟩
      have HMc := Lib.hid (HMb.out.carry hb)
      have HBX1 := Lib.hid (HBX.out.carry hb)
      clear hb x0 x1 x2 c0 c1 c2 c3 c4 c5 c6 u0 u1 u2 HMb HBX
      by_cases hfu : (apB bl u).size ≤ 4000 ∧ (apB bl u).depth ≤ 200
      rotate_left
      · have hk : k = 3 := HPO.out.big HZ4.out.1 HOKS.out _ HSS.out hfu
        rw [decide_eq_false hfu]
        subst hk
        clear hfu HBX1 HPO
        go_wp2_with fail
        have hz := HZ.out
        clear HZ
        subst hz
        go_meet
        first | exact ⟨rfl, HMc⟩ | exact ⟨rfl, rfl, HMc⟩ | exact ⟨⟨rfl, HMc⟩, rfl⟩ | exact ⟨_, ⟨rfl, HMc⟩, rfl⟩
      have hk : k = 0 := HPO.out.yes HZ4.out.1 HOKS.out _ HSS.out hfu.1 hfu.2
      have hy : y = apB bl u := by
        have h1 := (HPO.out.zero hk).2.2.2
        rw [HSS.out] at h1
        cases h1
        rfl
      subst hk
      subst hy
      have hbU : (apB bl u).bulk ≤ 1048576 := by have := (HPO.out.zero rfl).2.2.1.bulk; omega
      rw [decide_eq_true hfu]
      clear hfu HPO
      obtain ⟨⟨x0, x1, x2⟩, -⟩ := box3 HBX1.out.box
      obtain ⟨c0, c1, c2, c3, c4, c5, c6⟩ := HMc.out.qc
      obtain ⟨u0, u1, u2⟩ := HMc.out.uc
      go_wp2_with fail
      go_region_held3 (fun w' => w'.cell? ⟨w.heap.size + 1, 2, none⟩ = some (.slice ob bl.length cb) ∧ w'.cell? ⟨p, 0, none⟩ = some (.string (apB bl u).nm) ∧ w'.cell? ⟨p, 1, none⟩ = some (.bool (apB bl u).vr) ∧ w'.cell? ⟨p, 2, none⟩ = some (.slice yo (apB bl u).ts.length yc) ∧ w'.cell? ⟨pu, 0, none⟩ = some (.string u.nm) ∧ w'.cell? ⟨pu, 1, none⟩ = some (.bool u.vr) ∧ w'.cell? ⟨pu, 2, none⟩ = some (.slice ou u.ts.length cu)) (go_keep) ((first
        | (go_at_call 16
           refine (requal_any (apB bl u) (apB bl u) _ _ _ hbU hbU HBX2.out.is HSR.out).mono ?_
           rintro e W12 ⟨⟨bq, rfl, hbq⟩, hb⟩
           obtain rfl : bq = true := hbq.2 rfl
           have HMe := Lib.hid (HMd.out.carry hb)
           have HW12 := hb
           have c2 := (hb.cell (p := ⟨w.heap.size + 1, 2, none⟩) (World.block_lt_of_cell? _ _ c2)).trans c2
           have x0 := (hb.cell (p := ⟨p, 0, none⟩) (World.block_lt_of_cell? _ _ x0)).trans x0
           have x1 := (hb.cell (p := ⟨p, 1, none⟩) (World.block_lt_of_cell? _ _ x1)).trans x1
           have x2 := (hb.cell (p := ⟨p, 2, none⟩) (World.block_lt_of_cell? _ _ x2)).trans x2
           have u0 := (hb.cell (p := ⟨pu, 0, none⟩) (World.block_lt_of_cell? _ _ u0)).trans u0
           have u1 := (hb.cell (p := ⟨pu, 1, none⟩) (World.block_lt_of_cell? _ _ u1)).trans u1
           have u2 := (hb.cell (p := ⟨pu, 2, none⟩) (World.block_lt_of_cell? _ _ u2)).trans u2
           clear hb HW12)
        | (go_at_call 15
           refine (rapply_any bl (.slice ob bl.length cb) w.heap.size (by omega) u _ _ (HMc.out.carry (Below.refl _ W10).drew).low.size (HBL.out.carry (HMc.out.carry (Below.refl _ W10).drew).low (Nat.le_refl _)) (HMc.out.carry (Below.refl _ W10).drew).u.is hub).mono ?_
           rintro e W11 ⟨⟨sr, rfl, hr⟩, hb⟩
           have hr := hr.lt.toIs fun b hb => hb.2
           obtain ⟨o9, c9, rfl, -⟩ := hr.form
           have HSR := Lib.hid hr
           have HMd := Lib.hid ((HMc.out.carry (Below.refl _ W10).drew).carry hb)
           have HBX2 := Lib.hid ((HBX1.out.carry (Below.refl _ W10).drew).carry hb)
           clear hr
           have c2 := (hb.cell (p := ⟨w.heap.size + 1, 2, none⟩) (World.block_lt_of_cell? _ _ c2)).trans c2
           have x0 := (hb.cell (p := ⟨p, 0, none⟩) (World.block_lt_of_cell? _ _ x0)).trans x0
           have x1 := (hb.cell (p := ⟨p, 1, none⟩) (World.block_lt_of_cell? _ _ x1)).trans x1
           have x2 := (hb.cell (p := ⟨p, 2, none⟩) (World.block_lt_of_cell? _ _ x2)).trans x2
           have u0 := (hb.cell (p := ⟨pu, 0, none⟩) (World.block_lt_of_cell? _ _ u0)).trans u0
           have u1 := (hb.cell (p := ⟨pu, 1, none⟩) (World.block_lt_of_cell? _ _ u1)).trans u1
           have u2 := (hb.cell (p := ⟨pu, 2, none⟩) (World.block_lt_of_cell? _ _ u2)).trans u2
           clear hb)))
      all_goals
        go_wp2_with fail
        have hz := HZ.out
        clear HZ
        subst hz
        go_meet
        first | exact ⟨rfl, HMe⟩ | exact ⟨rfl, rfl, HMe⟩ | exact ⟨⟨rfl, HMe⟩, rfl⟩ | exact ⟨_, ⟨rfl, HMe⟩, rfl⟩
  case rest =>
  obtain ⟨rfl, HMr⟩ := hcut
  clear HM3 HFT
  obtain ⟨c0, c1, c2, c3, c4, c5, c6⟩ := HMr.out.qc
  go_wp2_with fail
  refine (rAt_uni c _ q _ _ (HC.out.carry HMr.out.low HMr.out.low.size) (HQP.out.carry HMr.out.low HMr.out.low.size).1 (by omega) hcb).mono ?_
  rintro e W5 ⟨⟨r, o6, n6, k6, b1, rfl, hr, hb1t, hb1f⟩, hb⟩
  have HM5 := Lib.hid (HMr.out.carry (hb.alloc hb.size (.cells #[.string r.nm, .bool r.vr, .slice o6 n6 k6] 25)))
  have HB1 := Lib.hid hb1t
  clear hb hr hb1t hb1f HMr c0 c1 c2 c3 c4 c5 c6
  cases b1 with
  | false =>
    go_wp2_with fail
    refine (HAL.out _ HM5.out.low).mono ?_
    rintro e w9 ⟨rfl, hb⟩
    go_wp2_with fail
    go_ret
    exact ⟨rfl, hb⟩
  | true =>
  have HAT : Hid (c.at q = some r) := Lib.hid (HB1.out rfl)
  clear HB1
  obtain ⟨c0, c1, c2, c3, c4, c5, c6⟩ := HM5.out.qc
  go_wp2_with fail
  refine (rcheck_iff c _ _ (HC.out.carry HM5.out.low HM5.out.low.size) hcb).mono ?_
  rintro e W7 ⟨⟨k, rfl, hk⟩, hb⟩
  have HM7 := Lib.hid (HM5.out.carry hb)
  clear hb c0 c1 c2 c3 c4 c5 c6
  by_cases hco : c.ok
  rotate_left
  · have hk1 : (k != 0) = true := by simpa using fun e => hco (hk.1 e)
    clear hk hco
    go_wp2_with fail
    refine (HAL.out _ HM7.out.low).mono ?_
    rintro e w9 ⟨rfl, hb⟩
    go_wp2_with fail
    go_ret
    exact ⟨rfl, hb⟩
  obtain rfl := hk.2 hco
  have HCO := Lib.hid hco
  clear hk hco HM5
  have HPA : Hid ((c.put q t).formed) := Lib.hid (Tm.put_formed6 HCO.out.1 HZ4.out.2.1.1 q)
  have HPB : Hid ((c.put q u).formed) := Lib.hid (Tm.put_formed6 HCO.out.1 HZ4.out.2.2.1.1 q)
  have HFA : Hid (∀ x ∈ (c.put q t).ts, x.formed) := Lib.hid (((Tm.formed_iff _).1 HPA.out).2)
  have HFB : Hid (∀ x ∈ (c.put q u).ts, x.formed) := Lib.hid (((Tm.formed_iff _).1 HPB.out).2)
  have hbPA : (c.put q t).bulk ≤ 1048576 := by have := Tm.put_bulk6 c q t; have := HCO.out.bulk; have := HZ4.out.2.1.bulk; omega
  have hbPB : (c.put q u).bulk ≤ 1048576 := by have := Tm.put_bulk6 c q u; have := HCO.out.bulk; have := HZ4.out.2.2.1.bulk; omega
  go_wp2_with fail
  have HB := HM7
  refine wp_region_invE (Ce14nv w.heap.size W7 R rule pos q bl t c u (.slice orr R.length cr) (.slice ot t.ts.length ct) (.slice op pos.length cp) (.slice ob bl.length cb) (.slice oc c.ts.length cc) (.slice oq q.length cq) (.slice ou u.ts.length cu) pu) (by kernel_rfl) (by kernel_rfl) ?h0 ?hend ?hstep
  case h0 => exact ⟨_, _, _, _, _, _, _, _, _, _, _, _, _, _, rfl, (Below.refl _ W7).drew, nofun, nofun, nofun, nofun, nofun, nofun, nofun, nofun, nofun, nofun, nofun, nofun, nofun, nofun, nofun, nofun, nofun⟩
  case hstep =>
    rintro z i o ho f a W ⟨v84, v85, v86, v87, v88, v89, v90, v91, v92, v93, v94, v95, v13, v14, rfl, h⟩ hfi hd K' hK
    have HI := Lib.hid h
    match i, ho with
    | 0, ho =>
      cases ho
      clear h
      go_simp
      exact hK.out _ _ ⟨_, v85, v86, v87, v88, v89, v90, v91, v92, v93, v94, v95, v13, v14, rfl, HI.out.low, (fun _ => rfl), HI.out.f1, HI.out.f2, HI.out.f3, HI.out.f4, HI.out.f5, HI.out.f6, HI.out.f7, HI.out.f8, HI.out.f9, HI.out.f10, HI.out.f11, HI.out.f12, HI.out.f13, HI.out.ne, HI.out.o14, HI.out.o15⟩
    | 1, ho =>
      cases ho
      have e := h.f0 (hd ⟨0, .data⟩ (by simp) rfl)
      subst e
      obtain ⟨c0, c1, c2, c3, c4, c5, c6⟩ := (HB.out.carry h.low).qc
      clear h
      go_simp
      exact hK.out _ _ ⟨_, _, v86, v87, v88, v89, v90, v91, v92, v93, v94, v95, v13, v14, rfl, HI.out.low, HI.out.f0, (fun _ => rfl), HI.out.f2, HI.out.f3, HI.out.f4, HI.out.f5, HI.out.f6, HI.out.f7, HI.out.f8, HI.out.f9, HI.out.f10, HI.out.f11, HI.out.f12, HI.out.f13, HI.out.ne, HI.out.o14, HI.out.o15⟩
    | 2, ho =>
      cases ho
      clear h
      go_simp
      exact hK.out _ _ ⟨v84, v85, _, v87, v88, v89, v90, v91, v92, v93, v94, v95, v13, v14, rfl, HI.out.low, HI.out.f0, HI.out.f1, (fun _ => rfl), HI.out.f3, HI.out.f4, HI.out.f5, HI.out.f6, HI.out.f7, HI.out.f8, HI.out.f9, HI.out.f10, HI.out.f11, HI.out.f12, HI.out.f13, HI.out.ne, HI.out.o14, HI.out.o15⟩
    | 3, ho =>
      cases ho
      have e := h.f2 (hd ⟨2, .data⟩ (by simp) rfl)
      subst e
      obtain ⟨c0, c1, c2, c3, c4, c5, c6⟩ := (HB.out.carry h.low).qc
      clear h
      go_simp
      exact hK.out _ _ ⟨v84, v85, _, _, v88, v89, v90, v91, v92, v93, v94, v95, v13, v14, rfl, HI.out.low, HI.out.f0, HI.out.f1, HI.out.f2, (fun _ => rfl), HI.out.f4, HI.out.f5, HI.out.f6, HI.out.f7, HI.out.f8, HI.out.f9, HI.out.f10, HI.out.f11, HI.out.f12, HI.out.f13, HI.out.ne, HI.out.o14, HI.out.o15⟩
    | 4, ho =>
      cases ho
      obtain ⟨c0, c1, c2⟩ := (HB.out.carry h.low).tc
      clear h
      go_simp
      exact hK.out _ _ ⟨v84, v85, v86, v87, _, v89, v90, v91, v92, v93, v94, v95, v13, v14, rfl, HI.out.low, HI.out.f0, HI.out.f1, HI.out.f2, HI.out.f3, (fun _ => rfl), HI.out.f5, HI.out.f6, HI.out.f7, HI.out.f8, HI.out.f9, HI.out.f10, HI.out.f11, HI.out.f12, HI.out.f13, HI.out.ne, HI.out.o14, HI.out.o15⟩
    | 5, ho =>
      cases ho
      have e := h.f1 (hd ⟨1, .data⟩ (by simp) rfl)
      subst e
      have e := h.f3 (hd ⟨3, .data⟩ (by simp) rfl)
      subst e
      have e := h.f4 (hd ⟨4, .data⟩ (by simp) rfl)
      subst e
      have hl := HB.out.carry h.low
      have HLw := Lib.hid hl
      clear h hd hl
      go_simp
      refine (rPut_any w.heap.size q (fun b => b < W.heap.size) c _ _ t _ W HLw.out.low.size (fun _ h => h) (HC.out.carry HLw.out.low HLw.out.low.size).toP (HCO.out.1.bare) ((HQP.out.carry HLw.out.low (Nat.le_refl _)).1) (HQP.out.2) (HT.out.carry HLw.out.low HLw.out.low.size).toP (by rw [HAT.out]; rfl) (by omega) hcb).mono ?_
      rintro e W' ⟨⟨sr, rfl, hr⟩, hb⟩
      have hr := hr.toIs fun b hb => hb.2
      obtain ⟨o5, c5, rfl, -⟩ := hr.form
      have H1 := HI.out.keep hb
      exact hK.out _ _ ⟨v84, _, v86, _, _, _, v90, v91, v92, v93, v94, v95, v13, v14, rfl, H1.low, H1.f0, H1.f1, H1.f2, H1.f3, H1.f4, (fun _ => ⟨_, _, _, rfl, hr⟩), H1.f6, H1.f7, H1.f8, H1.f9, H1.f10, H1.f11, H1.f12, H1.f13, H1.ne, H1.o14, H1.o15⟩
    | 6, ho =>
      cases ho
      clear h
      go_simp
      exact hK.out _ _ ⟨v84, v85, v86, v87, v88, v89, _, v91, v92, v93, v94, v95, v13, v14, rfl, HI.out.low, HI.out.f0, HI.out.f1, HI.out.f2, HI.out.f3, HI.out.f4, HI.out.f5, (fun _ => rfl), HI.out.f7, HI.out.f8, HI.out.f9, HI.out.f10, HI.out.f11, HI.out.f12, HI.out.f13, HI.out.ne, HI.out.o14, HI.out.o15⟩
    | 7, ho =>
      cases ho
      have e := h.f6 (hd ⟨6, .data⟩ (by simp) rfl)
      subst e
      obtain ⟨c0, c1, c2, c3, c4, c5, c6⟩ := (HB.out.carry h.low).qc
      clear h
      go_simp
      exact hK.out _ _ ⟨v84, v85, v86, v87, v88, v89, _, _, v92, v93, v94, v95, v13, v14, rfl, HI.out.low, HI.out.f0, HI.out.f1, HI.out.f2, HI.out.f3, HI.out.f4, HI.out.f5, HI.out.f6, (fun _ => rfl), HI.out.f8, HI.out.f9, HI.out.f10, HI.out.f11, HI.out.f12, HI.out.f13, HI.out.ne, HI.out.o14, HI.out.o15⟩
    | 8, ho =>
      cases ho
      clear h
      go_simp
      exact hK.out _ _ ⟨v84, v85, v86, v87, v88, v89, v90, v91, _, v93, v94, v95, v13, v14, rfl, HI.out.low, HI.out.f0, HI.out.f1, HI.out.f2, HI.out.f3, HI.out.f4, HI.out.f5, HI.out.f6, HI.out.f7, (fun _ => rfl), HI.out.f9, HI.out.f10, HI.out.f11, HI.out.f12, HI.out.f13, HI.out.ne, HI.out.o14, HI.out.o15⟩
    | 9, ho =>
      cases ho
      have e := h.f8 (hd ⟨8, .data⟩ (by simp) rfl)
      subst e
      obtain ⟨c0, c1, c2, c3, c4, c5, c6⟩ := (HB.out.carry h.low).qc
      clear h
      go_simp
      exact hK.out _ _ ⟨v84, v85, v86, v87, v88, v89, v90, v91, _, _, v94, v95, v13, v14, rfl, HI.out.low, HI.out.f0, HI.out.f1, HI.out.f2, HI.out.f3, HI.out.f4, HI.out.f5, HI.out.f6, HI.out.f7, HI.out.f8, (fun _ => rfl), HI.out.f10, HI.out.f11, HI.out.f12, HI.out.f13, HI.out.ne, HI.out.o14, HI.out.o15⟩
    | 10, ho =>
      cases ho
      obtain ⟨c0, c1, c2⟩ := (HB.out.carry h.low).uc
      unfold ptr
      clear h
      go_simp
      exact hK.out _ _ ⟨v84, v85, v86, v87, v88, v89, v90, v91, v92, v93, _, v95, v13, v14, rfl, HI.out.low, HI.out.f0, HI.out.f1, HI.out.f2, HI.out.f3, HI.out.f4, HI.out.f5, HI.out.f6, HI.out.f7, HI.out.f8, HI.out.f9, (fun _ => rfl), HI.out.f11, HI.out.f12, HI.out.f13, HI.out.ne, HI.out.o14, HI.out.o15⟩
    | 11, ho =>
      cases ho
      have e := h.f7 (hd ⟨7, .data⟩ (by simp) rfl)
      subst e
      have e := h.f9 (hd ⟨9, .data⟩ (by simp) rfl)
      subst e
      have e := h.f10 (hd ⟨10, .data⟩ (by simp) rfl)
      subst e
      have hl := HB.out.carry h.low
      have HLw := Lib.hid hl
      clear h hd hl
      go_simp
      refine (rPut_any w.heap.size q (fun b => b < W.heap.size) c _ _ u _ W HLw.out.low.size (fun _ h => h) (HC.out.carry HLw.out.low HLw.out.low.size).toP (HCO.out.1.bare) ((HQP.out.carry HLw.out.low (Nat.le_refl _)).1) (HQP.out.2) HLw.out.u.is.toP (by rw [HAT.out]; rfl) (by omega) hcb).mono ?_
      rintro e W' ⟨⟨sr, rfl, hr⟩, hb⟩
      have hr := hr.toIs fun b hb => hb.2
      obtain ⟨o5, c5, rfl, -⟩ := hr.form
      have H1 := HI.out.keep hb
      exact hK.out _ _ ⟨v84, v85, v86, v87, v88, v89, v90, _, v92, _, _, _, v13, v14, rfl, H1.low, H1.f0, H1.f1, H1.f2, H1.f3, H1.f4, H1.f5, H1.f6, H1.f7, H1.f8, H1.f9, H1.f10, (fun _ => ⟨_, _, _, rfl, hr⟩), H1.f12, H1.f13, H1.ne, H1.o14, H1.o15⟩
    | 12, ho =>
      cases ho
      clear h
      go_simp
      have hb := (Below.refl W.heap.size W).alloc (Nat.le_refl _) zeroBx
      have H1 := HI.out.keep hb
      exact hK.out _ (W.alloc zeroBx) ⟨v84, v85, v86, v87, v88, v89, v90, v91, v92, v93, v94, v95, (ptr W.heap.size), v14, rfl, H1.low, H1.f0, H1.f1, H1.f2, H1.f3, H1.f4, H1.f5, H1.f6, H1.f7, H1.f8, H1.f9, H1.f10, H1.f11, (fun _ => ⟨_, rfl, HI.out.low.size, by simp, fun _ => heap_new_at _ _ _ rfl, (fun k => by have := HI.out.o14 k; rw [hfi] at this; simp at this)⟩), H1.f13, (fun _ k e => by obtain ⟨p, h1, h2, h3, -⟩ := HI.out.f13 k; have := ptr_inj (e.trans h1); omega), ((fun k => by have := HI.out.o14 k; rw [hfi] at this; simp at this)), H1.o15⟩
    | 13, ho =>
      cases ho
      clear h
      go_simp
      have hb := (Below.refl W.heap.size W).alloc (Nat.le_refl _) zeroBx
      have H1 := HI.out.keep hb
      exact hK.out _ (W.alloc zeroBx) ⟨v84, v85, v86, v87, v88, v89, v90, v91, v92, v93, v94, v95, v13, (ptr W.heap.size), rfl, H1.low, H1.f0, H1.f1, H1.f2, H1.f3, H1.f4, H1.f5, H1.f6, H1.f7, H1.f8, H1.f9, H1.f10, H1.f11, H1.f12, (fun _ => ⟨_, rfl, HI.out.low.size, by simp, fun _ => heap_new_at _ _ _ rfl, (fun k => by have := HI.out.o15 k; rw [hfi] at this; simp at this)⟩), (fun k _ e => by obtain ⟨p, h1, h2, h3, -⟩ := HI.out.f12 k; have := ptr_inj (h1.symm.trans e); omega), ((fun k => by have := HI.out.o14 k; rw [hfi] at this; simp at this)), ((fun k => by have := HI.out.o15 k; rw [hfi] at this; simp at this))⟩
    | 14, ho =>
      cases ho
      have dm := hd ⟨12, .data⟩ (by simp) rfl
      have dt := hd ⟨5, .data⟩ (by simp) rfl
      have dz := hd ⟨13, .phase⟩ (by simp) rfl
      obtain ⟨p, e7, h2, h3, h4, -⟩ := h.f12 dm
      obtain ⟨oq, nq, cq, e, hq⟩ := h.f5 dt
      subst e7
      subst e
      have hz := h4 hfi
      have HZ := Lib.hid hz
      have HQ := Lib.hid hq
      have HNE := Lib.hid (h.ne dm dz)
      obtain ⟨⟨c0, c1, c2⟩, g0, g1, g2⟩ := box3 hz
      clear h hd h4 hz hq
      unfold ptr
      go_simp
      exact hK.out _ _ ⟨v84, v85, v86, v87, v88, _, v90, v91, v92, v93, v94, v95, (ptr p), v14, rfl, below_set3 HI.out.low (b := p) h2 (.string (c.put q t).nm) (.bool (c.put q t).vr) (.slice oq nq cq), HI.out.f0, HI.out.f1, HI.out.f2, HI.out.f3, HI.out.f4, (fun k => (HI.out.f5 k).setz HZ.out HFA.out (.string (c.put q t).nm) (.bool (c.put q t).vr) (.slice oq nq cq)), HI.out.f6, HI.out.f7, HI.out.f8, HI.out.f9, HI.out.f10, (fun k => (HI.out.f11 k).setz HZ.out HFB.out (.string (c.put q t).nm) (.bool (c.put q t).vr) (.slice oq nq cq)), (fun _ => ⟨p, rfl, h2, by simp [World.setCell]; omega, nofun, fun _ => ⟨_, box3_set HZ.out (.string (c.put q t).nm) (.bool (c.put q t).vr) (.slice oq nq cq), by have := HQ.out.setz HZ.out HFA.out (.string (c.put q t).nm) (.bool (c.put q t).vr) (.slice oq nq cq); simpa [World.setCell] using this⟩⟩), (fun k => by obtain ⟨q1, h1, h2, h3, h4, h5⟩ := HI.out.f13 k; have hpq : q1 ≠ p := fun e => HNE.out (by rw [h1, e]); exact ⟨q1, h1, h2, by simp [World.setCell]; omega, fun e => (heap_set3 W p q1 (.string (c.put q t).nm) (.bool (c.put q t).vr) (.slice oq nq cq) hpq).trans (h4 e), fun e => (h5 e).imp fun _ h6 => ⟨(heap_set3 W p q1 (.string (c.put q t).nm) (.bool (c.put q t).vr) (.slice oq nq cq) hpq).trans h6.box, by have := h6.is.setz HZ.out HFB.out (.string (c.put q t).nm) (.bool (c.put q t).vr) (.slice oq nq cq); simpa [World.setCell] using this⟩⟩), HI.out.ne, (fun _ => ⟨dm, dz⟩), (fun k => ⟨(HI.out.o15 k).1, rfl⟩)⟩
    | 15, ho =>
      cases ho
      have dm := hd ⟨13, .data⟩ (by simp) rfl
      have dt := hd ⟨11, .data⟩ (by simp) rfl
      have dz := hd ⟨12, .phase⟩ (by simp) rfl
      have d14 := hd ⟨14, .chain⟩ (by simp) rfl
      obtain ⟨p, e7, h2, h3, h4, -⟩ := h.f13 dm
      obtain ⟨oq, nq, cq, e, hq⟩ := h.f11 dt
      subst e7
      subst e
      have hz := h4 hfi
      have HZ := Lib.hid hz
      have HQ := Lib.hid hq
      have HNE := Lib.hid (h.ne dz dm)
      obtain ⟨⟨c0, c1, c2⟩, g0, g1, g2⟩ := box3 hz
      clear h hd h4 hz hq
      unfold ptr
      go_simp
      exact hK.out _ _ ⟨v84, v85, v86, v87, v88, v89, v90, v91, v92, v93, v94, _, v13, (ptr p), rfl, below_set3 HI.out.low (b := p) h2 (.string (c.put q u).nm) (.bool (c.put q u).vr) (.slice oq nq cq), HI.out.f0, HI.out.f1, HI.out.f2, HI.out.f3, HI.out.f4, (fun k => (HI.out.f5 k).setz HZ.out HFA.out (.string (c.put q u).nm) (.bool (c.put q u).vr) (.slice oq nq cq)), HI.out.f6, HI.out.f7, HI.out.f8, HI.out.f9, HI.out.f10, (fun k => (HI.out.f11 k).setz HZ.out HFB.out (.string (c.put q u).nm) (.bool (c.put q u).vr) (.slice oq nq cq)), (fun k => by obtain ⟨q1, h1, h2, h3, h4, h5⟩ := HI.out.f12 k; have hpq : q1 ≠ p := fun e => HNE.out (by rw [h1, e]); exact ⟨q1, h1, h2, by simp [World.setCell]; omega, fun e => (heap_set3 W p q1 (.string (c.put q u).nm) (.bool (c.put q u).vr) (.slice oq nq cq) hpq).trans (h4 e), fun e => (h5 e).imp fun _ h6 => ⟨(heap_set3 W p q1 (.string (c.put q u).nm) (.bool (c.put q u).vr) (.slice oq nq cq) hpq).trans h6.box, by have := h6.is.setz HZ.out HFA.out (.string (c.put q u).nm) (.bool (c.put q u).vr) (.slice oq nq cq); simpa [World.setCell] using this⟩⟩), (fun _ => ⟨p, rfl, h2, by simp [World.setCell]; omega, nofun, fun _ => ⟨_, box3_set HZ.out (.string (c.put q u).nm) (.bool (c.put q u).vr) (.slice oq nq cq), by have := HQ.out.setz HZ.out HFB.out (.string (c.put q u).nm) (.bool (c.put q u).vr) (.slice oq nq cq); simpa [World.setCell] using this⟩⟩), HI.out.ne, HI.out.o14, (fun _ => ⟨dm, d14⟩)⟩
    | i + 16, ho => simp at ho
  case hend =>
  rintro z f a W9 HZ ⟨v84, v85, v86, v87, v88, v89, v90, v91, v92, v93, v94, v95, v13, v14, rfl, h⟩ hall
  obtain ⟨pa, rfl, -, -, -, h5⟩ := h.f12 (hall 12 (by simp))
  obtain ⟨pb, rfl, -, -, -, h6⟩ := h.f13 (hall 13 (by simp))
  obtain ⟨sa, h5⟩ := h5 (hall 14 (by simp))
  obtain ⟨sb, h6⟩ := h6 (hall 15 (by simp))
  obtain ⟨o4, c4, rfl, -⟩ := h5.is.form
  obtain ⟨o5, c5, rfl, -⟩ := h6.is.form
  have HBA := Lib.hid h5
  have HBB := Lib.hid h6
  have HMb := Lib.hid (HB.out.carry h.low)
  clear h h5 h6 hall HB HM7 HZ
  obtain ⟨⟨x0, x1, x2⟩, -⟩ := box3 HBA.out.box
  unfold ptr
  go_wp2_with fail
  refine (rcheck_iff (c.put q t) _ _ HBA.out.is hbPA).mono ?_
  rintro e W10 ⟨⟨k, rfl, hk⟩, hb⟩
  have HMc := Lib.hid (HMb.out.carry hb)
  have HA1 := Lib.hid (HBA.out.carry hb)
  have HBB1 := Lib.hid (HBB.out.carry hb)
  clear hb HMb HBA HBB x0 x1 x2
  by_cases hao : (c.put q t).ok
  rotate_left
  · have hk1 : (k != 0) = true := by simpa using fun e => hao (hk.1 e)
    clear hk hao
    go_wp2_with fail
    refine (HAL.out _ HMc.out.low).mono ?_
    rintro e w9 ⟨rfl, hb⟩
    go_wp2_with fail
    go_ret
    exact ⟨rfl, hb⟩
  obtain rfl := hk.2 hao
  have HAO := Lib.hid hao
  clear hk hao
  have HSC := Lib.hid (stepR_ctx (q := q) (C := c) (by rw [HAT.out]; rfl) HZ4.out.2.2.2)
  obtain ⟨i3, hi2, hz2, hs2, hb2⟩ := info_parts infoInt
  have I1 := Lib.hid hi2
  have I2 := Lib.hid hz2
  have I3 := Lib.hid hs2
  have I4 := Lib.hid hb2
  clear hi2 hz2 hs2 hb2
  have HB := HMc
  have HA := HA1
  go_wp2_with fail
  refine wp_region_invE (Ce17nv w.heap.size W10 R rule pos q bl t c u (.slice orr R.length cr) (.slice ot t.ts.length ct) (.slice op pos.length cp) (.slice ob bl.length cb) (.slice oc c.ts.length cc) (.slice oq q.length cq) (.slice ou u.ts.length cu) pu (.slice o4 (c.put q t).ts.length c4) pa pb) (by kernel_rfl) (by kernel_rfl) ?h0 ?hend ?hstep
  case h0 => exact ⟨_, _, _, _, _, _, _, _, _, _, _, _, _, _, _, _, _, _, _, _, rfl, (Below.refl _ W10).drew, nofun, nofun, nofun, nofun, nofun, nofun, nofun, nofun, nofun, nofun, nofun, nofun, nofun, nofun, nofun, nofun, nofun, nofun, nofun, nofun, nofun, nofun, nofun⟩
  case hstep =>
    rintro z i o ho f a W ⟨v101, v102, v103, v104, v105, v106, v107, v108, v109, v110, v111, v112, v113, v114, v115, v100, v116, v117, v15, v16, rfl, h⟩ hfi hd K' hK
    have HI := Lib.hid h
    match i, ho with
    | 0, ho =>
      cases ho
      clear h
      go_simp
      exact hK.out _ _ ⟨_, v102, v103, v104, v105, v106, v107, v108, v109, v110, v111, v112, v113, v114, v115, v100, v116, v117, v15, v16, rfl, HI.out.low, (fun _ => rfl), HI.out.f1, HI.out.f2, HI.out.f3, HI.out.f4, HI.out.f5, HI.out.f6, HI.out.f7, HI.out.f8, HI.out.f9, HI.out.f10, HI.out.f11, HI.out.f12, HI.out.f13, HI.out.f14, HI.out.f15, HI.out.f16, HI.out.f17, HI.out.f18, HI.out.f20, HI.out.o12, HI.out.o14, HI.out.o19⟩
    | 1, ho =>
      cases ho
      obtain ⟨⟨c0, c1, c2⟩, -⟩ := box3 (HA.out.carry h.low).box
      unfold ptr
      clear h
      go_simp
      exact hK.out _ _ ⟨v101, _, v103, v104, v105, v106, v107, v108, v109, v110, v111, v112, v113, v114, v115, v100, v116, v117, v15, v16, rfl, HI.out.low, HI.out.f0, (fun _ => rfl), HI.out.f2, HI.out.f3, HI.out.f4, HI.out.f5, HI.out.f6, HI.out.f7, HI.out.f8, HI.out.f9, HI.out.f10, HI.out.f11, HI.out.f12, HI.out.f13, HI.out.f14, HI.out.f15, HI.out.f16, HI.out.f17, HI.out.f18, HI.out.f20, HI.out.o12, HI.out.o14, HI.out.o19⟩
    | 2, ho =>
      cases ho
      clear h
      go_simp
      exact hK.out _ _ ⟨v101, v102, _, v104, v105, v106, v107, v108, v109, v110, v111, v112, v113, v114, v115, v100, v116, v117, v15, v16, rfl, HI.out.low, HI.out.f0, HI.out.f1, (fun _ => rfl), HI.out.f3, HI.out.f4, HI.out.f5, HI.out.f6, HI.out.f7, HI.out.f8, HI.out.f9, HI.out.f10, HI.out.f11, HI.out.f12, HI.out.f13, HI.out.f14, HI.out.f15, HI.out.f16, HI.out.f17, HI.out.f18, HI.out.f20, HI.out.o12, HI.out.o14, HI.out.o19⟩
    | 3, ho =>
      cases ho
      have e := h.f2 (hd ⟨2, .data⟩ (by simp) rfl)
      subst e
      clear h
      go_simp
      exact hK.out _ _ ⟨v101, v102, _, _, v105, v106, v107, v108, v109, v110, v111, v112, v113, v114, v115, v100, v116, v117, v15, v16, rfl, HI.out.low, HI.out.f0, HI.out.f1, HI.out.f2, (fun _ => rfl), HI.out.f4, HI.out.f5, HI.out.f6, HI.out.f7, HI.out.f8, HI.out.f9, HI.out.f10, HI.out.f11, HI.out.f12, HI.out.f13, HI.out.f14, HI.out.f15, HI.out.f16, HI.out.f17, HI.out.f18, HI.out.f20, HI.out.o12, HI.out.o14, HI.out.o19⟩
    | 4, ho =>
      cases ho
      have e := h.f3 (hd ⟨3, .data⟩ (by simp) rfl)
      subst e
      obtain ⟨c0, c1, c2, c3, c4, c5, c6⟩ := (HB.out.carry h.low).qc
      clear h
      go_simp
      exact hK.out _ _ ⟨v101, v102, v103, _, _, v106, v107, v108, v109, v110, v111, v112, v113, v114, v115, v100, v116, v117, v15, v16, rfl, HI.out.low, HI.out.f0, HI.out.f1, HI.out.f2, HI.out.f3, (fun _ => rfl), HI.out.f5, HI.out.f6, HI.out.f7, HI.out.f8, HI.out.f9, HI.out.f10, HI.out.f11, HI.out.f12, HI.out.f13, HI.out.f14, HI.out.f15, HI.out.f16, HI.out.f17, HI.out.f18, HI.out.f20, HI.out.o12, HI.out.o14, HI.out.o19⟩
    | 5, ho =>
      cases ho
      clear h
      go_simp
      have hb := (Below.refl W.heap.size W).alloc (Nat.le_refl _) (.cells #[] 3)
      have H1 := HI.out.keep hb
      exact hK.out _ (W.alloc (.cells #[] 3)) ⟨v101, v102, v103, v104, v105, _, v107, v108, v109, v110, v111, v112, v113, v114, v115, v100, v116, v117, v15, v16, rfl, H1.low, H1.f0, H1.f1, H1.f2, H1.f3, H1.f4, (fun _ _ => ⟨by simp, .inr ⟨W.heap.size, 0, #[], rfl, HI.out.low.size, heap_new_at _ _ _ rfl, Nat.le_refl _, by simp, by simp, by simp⟩⟩), H1.f6, H1.f7, H1.f8, H1.f9, H1.f10, H1.f11, H1.f12, H1.f13, H1.f14, H1.f15, H1.f16, H1.f17, H1.f18, H1.f20, H1.o12, H1.o14, H1.o19⟩
    | 6, ho =>
      cases ho
      clear h
      go_simp
      exact hK.out _ _ ⟨v101, v102, v103, v104, v105, v106, _, v108, v109, v110, v111, v112, v113, v114, v115, v100, v116, v117, v15, v16, rfl, HI.out.low, HI.out.f0, HI.out.f1, HI.out.f2, HI.out.f3, HI.out.f4, HI.out.f5, (fun _ => rfl), HI.out.f7, HI.out.f8, HI.out.f9, HI.out.f10, HI.out.f11, HI.out.f12, HI.out.f13, HI.out.f14, HI.out.f15, HI.out.f16, HI.out.f17, HI.out.f18, HI.out.f20, HI.out.o12, HI.out.o14, HI.out.o19⟩
    | 7, ho =>
      cases ho
      have e := h.f6 (hd ⟨6, .data⟩ (by simp) rfl)
      subst e
      obtain ⟨c0, c1, c2, c3, c4, c5, c6⟩ := (HB.out.carry h.low).qc
      clear h
      go_simp
      exact hK.out _ _ ⟨v101, v102, v103, v104, v105, v106, _, _, v109, v110, v111, v112, v113, v114, v115, v100, v116, v117, v15, v16, rfl, HI.out.low, HI.out.f0, HI.out.f1, HI.out.f2, HI.out.f3, HI.out.f4, HI.out.f5, HI.out.f6, (fun _ => rfl), HI.out.f8, HI.out.f9, HI.out.f10, HI.out.f11, HI.out.f12, HI.out.f13, HI.out.f14, HI.out.f15, HI.out.f16, HI.out.f17, HI.out.f18, HI.out.f20, HI.out.o12, HI.out.o14, HI.out.o19⟩
    | 8, ho =>
      cases ho
      have hr := h.f5 (hd ⟨5, .data⟩ (by simp) rfl) hfi
      have e := h.f7 (hd ⟨7, .data⟩ (by simp) rfl)
      subst e
      have HR := Lib.hid hr
      have hsrc := ints_src (HQP.out.carry (HB.out.carry h.low).low (Nat.le_refl _)).1
      have hbs := h.low.size
      clear h hd hr
      refine step_append_opt rfl _ _ 26 rfl W10.heap.size 3 i3 (.int .i64 0) 1 8 Tryz.underlying26 I1.out I2.out I3.out I4.out rfl (by decide) v106 0 ([]) rfl HR.out _ q.length _ (ints q) rfl (by simp [ints]) HQN.out hsrc (ints_one _) (by unfold maxLen; omega) (by omega) hbs ?_
      intro v' w' how hg hat
      have hbl := own_below HR.out hg hbs
      obtain ⟨og, cg, rfl⟩ := ownsRow_shape how
      exact hK.out _ _ ⟨v101, v102, v103, v104, v105, v106, v107, _, _, v110, v111, v112, v113, v114, v115, v100, v116, v117, v15, v16, rfl, HI.out.low.trans hbl, HI.out.f0, HI.out.f1, HI.out.f2, HI.out.f3, HI.out.f4, (fun _ e => nomatch e), HI.out.f6, HI.out.f7, (fun _ _ => by simpa using how), HI.out.f9, HI.out.f10, HI.out.f11, (fun k => by have := HI.out.o12 k; rw [hfi] at this; simp at this), HI.out.f13, (fun k => by have := HI.out.o14 k; rw [hfi] at this; simp at this), HI.out.f15, HI.out.f16, HI.out.f17, (fun k => by obtain ⟨p, h1, h2, h3, h4, h5⟩ := HI.out.f18 k; exact ⟨p, h1, h2, Nat.lt_of_lt_of_le h3 hbl.size, fun e => own_box HR.out hg (h4 e), fun e => by have := HI.out.o19 e; rw [hfi] at this; simp at this⟩), HI.out.f20, (fun _ => rfl), (fun k => by have := HI.out.o14 k; rw [hfi] at this; simp at this), (fun k => by have := HI.out.o19 k; rw [hfi] at this; simp at this)⟩
    | 9, ho =>
      cases ho
      clear h
      go_simp
      exact hK.out _ _ ⟨v101, v102, v103, v104, v105, v106, v107, v108, v109, _, v111, v112, v113, v114, v115, v100, v116, v117, v15, v16, rfl, HI.out.low, HI.out.f0, HI.out.f1, HI.out.f2, HI.out.f3, HI.out.f4, HI.out.f5, HI.out.f6, HI.out.f7, HI.out.f8, (fun _ => rfl), HI.out.f10, HI.out.f11, HI.out.f12, HI.out.f13, HI.out.f14, HI.out.f15, HI.out.f16, HI.out.f17, HI.out.f18, HI.out.f20, HI.out.o12, HI.out.o14, HI.out.o19⟩
    | 10, ho =>
      cases ho
      have e := h.f9 (hd ⟨9, .data⟩ (by simp) rfl)
      subst e
      clear h
      go_simp
      exact hK.out _ _ ⟨v101, v102, v103, v104, v105, v106, v107, v108, v109, _, _, v112, v113, v114, v115, v100, v116, v117, v15, v16, rfl, HI.out.low, HI.out.f0, HI.out.f1, HI.out.f2, HI.out.f3, HI.out.f4, HI.out.f5, HI.out.f6, HI.out.f7, HI.out.f8, HI.out.f9, (fun _ => rfl), HI.out.f11, HI.out.f12, HI.out.f13, HI.out.f14, HI.out.f15, HI.out.f16, HI.out.f17, HI.out.f18, HI.out.f20, HI.out.o12, HI.out.o14, HI.out.o19⟩
    | 11, ho =>
      cases ho
      have e := h.f10 (hd ⟨10, .data⟩ (by simp) rfl)
      subst e
      obtain ⟨c0, c1, c2, c3, c4, c5, c6⟩ := (HB.out.carry h.low).qc
      clear h
      go_simp
      exact hK.out _ _ ⟨v101, v102, v103, v104, v105, v106, v107, v108, v109, v110, _, _, v113, v114, v115, v100, v116, v117, v15, v16, rfl, HI.out.low, HI.out.f0, HI.out.f1, HI.out.f2, HI.out.f3, HI.out.f4, HI.out.f5, HI.out.f6, HI.out.f7, HI.out.f8, HI.out.f9, HI.out.f10, (fun _ => rfl), HI.out.f12, HI.out.f13, HI.out.f14, HI.out.f15, HI.out.f16, HI.out.f17, HI.out.f18, HI.out.f20, HI.out.o12, HI.out.o14, HI.out.o19⟩
    | 12, ho =>
      cases ho
      have d8 := hd ⟨8, .data⟩ (by simp) rfl
      have hr := h.f8 (hd ⟨8, .data⟩ (by simp) rfl) hfi
      have e := h.f11 (hd ⟨11, .data⟩ (by simp) rfl)
      subst e
      have HR := Lib.hid hr
      have hsrc := ints_src (HP.out.carry (HB.out.carry h.low).low (Nat.le_refl _)).1
      have hbs := h.low.size
      clear h hd hr
      refine step_append_opt rfl _ _ 26 rfl W10.heap.size 3 i3 (.int .i64 0) 1 8 Tryz.underlying26 I1.out I2.out I3.out I4.out rfl (by decide) v109 q.length (ints q) rfl HR.out _ pos.length _ (ints pos) rfl (by simp [ints]) HPN.out hsrc (ints_one _) (by unfold maxLen; omega) (by omega) hbs ?_
      intro v' w' how hg hat
      have hbl := own_below HR.out hg hbs
      obtain ⟨og, cg, rfl⟩ := ownsRow_shape how
      exact hK.out _ _ ⟨v101, v102, v103, v104, v105, v106, v107, v108, v109, v110, v111, _, _, v114, v115, v100, v116, v117, v15, v16, rfl, HI.out.low.trans hbl, HI.out.f0, HI.out.f1, HI.out.f2, HI.out.f3, HI.out.f4, (fun k e => by rw [show flag f 12 8 = f 8 from rfl, d8] at e; cases e), HI.out.f6, HI.out.f7, (fun _ e => nomatch e), HI.out.f9, HI.out.f10, HI.out.f11, (fun _ => ⟨⟨_, _, rfl⟩, fun _ => how⟩), (fun k => by have := (HI.out.f13 k).1; rw [hfi] at this; cases this), (fun k => by have := HI.out.o14 k; rw [hfi] at this; simp at this), HI.out.f15, HI.out.f16, HI.out.f17, (fun k => by obtain ⟨p, h1, h2, h3, h4, h5⟩ := HI.out.f18 k; exact ⟨p, h1, h2, Nat.lt_of_lt_of_le h3 hbl.size, fun e => own_box HR.out hg (h4 e), fun e => by have := HI.out.o19 e; rw [hfi] at this; simp at this⟩), HI.out.f20, (fun _ => d8), (fun k => by have := HI.out.o14 k; rw [hfi] at this; simp at this), (fun k => by have := HI.out.o19 k; rw [hfi] at this; simp at this)⟩
    | 13, ho =>
      cases ho
      have e := h.f4 (hd ⟨4, .data⟩ (by simp) rfl)
      subst e
      have d := hd ⟨12, .data⟩ (by simp) rfl
      obtain ⟨⟨og, cg, e⟩, -⟩ := h.f12 d
      subst e
      clear h
      go_simp
      exact hK.out _ _ ⟨v101, v102, v103, v104, _, v106, v107, v108, v109, v110, v111, v112, _, _, v115, v100, v116, v117, v15, v16, rfl, HI.out.low, HI.out.f0, HI.out.f1, HI.out.f2, HI.out.f3, HI.out.f4, HI.out.f5, HI.out.f6, HI.out.f7, HI.out.f8, HI.out.f9, HI.out.f10, HI.out.f11, HI.out.f12, (fun _ => ⟨d, rfl⟩), HI.out.f14, HI.out.f15, HI.out.f16, HI.out.f17, HI.out.f18, HI.out.f20, HI.out.o12, HI.out.o14, HI.out.o19⟩
    | 14, ho =>
      cases ho
      have d12' := hd ⟨12, .chain⟩ (by simp) rfl
      have d8' := h.o12 d12'
      obtain ⟨d12, e⟩ := h.f13 (hd ⟨13, .data⟩ (by simp) rfl)
      obtain ⟨⟨og, cg, eg⟩, hog⟩ := h.f12 d12
      subst eg
      subst e
      have HLO := Lib.hid h.low
      have hown : Hid (PosC W.heap.size W (q ++ pos) (.slice og (q.length + pos.length) cg)) := Lib.hid (PosC.ofRow (by have := hog hfi; rw [← ints_app, ← List.length_append] at this; rw [List.length_append] at this ⊢; exact this))
      clear hog
      have e := h.f0 (hd ⟨0, .data⟩ (by simp) rfl)
      subst e
      have e := h.f1 (hd ⟨1, .data⟩ (by simp) rfl)
      subst e
      have hl := HB.out.carry h.low
      have HLw := Lib.hid hl
      clear h hd hl
      go_simp
      refine (HST.out W (c.put q t) _ (q ++ pos) _ HLw.out.low (HA.out.carry HLO.out).is hbPA hown.out (by rw [List.length_append]; omega)).mono ?_
      rintro e W' ⟨y, k, ⟨⟨sl, rfl, hsl⟩, hb⟩, hpost⟩
      obtain ⟨yo, yc, rfl, -⟩ := hsl.form
      have H1 := HI.out.keep hb
      exact hK.out _ _ ⟨_, _, v103, v104, v105, v106, v107, v108, v109, v110, v111, v112, _, _, _, v100, v116, v117, v15, v16, rfl, H1.low, H1.f0, H1.f1, H1.f2, H1.f3, H1.f4, H1.f5, H1.f6, H1.f7, H1.f8, H1.f9, H1.f10, H1.f11, (fun k => ⟨(H1.f12 k).1, fun e => nomatch e⟩), H1.f13, (fun _ => ⟨_, _, _, _, _, rfl, hsl, hpost⟩), (fun k => by have := (HI.out.f15 k).1; rw [hfi] at this; cases this), (fun k => by have := (HI.out.f16 k).1; rw [hfi] at this; cases this), (fun k => by have := (HI.out.f17 k).1; rw [hfi] at this; cases this), (fun k => by obtain ⟨p, h1, h2, h3, h4, h5⟩ := H1.f18 k; exact ⟨p, h1, h2, h3, h4, fun e => by have := HI.out.o19 e; rw [hfi] at this; simp at this⟩), H1.f20, H1.o12, (fun _ => ⟨d8', d12'⟩), (fun k => by have := HI.out.o19 k; rw [hfi] at this; simp at this)⟩
    | 15, ho =>
      cases ho
      have d := hd ⟨14, .data⟩ (by simp) rfl
      clear h
      go_simp
      exact hK.out _ _ ⟨v101, v102, v103, v104, v105, v106, v107, v108, v109, v110, v111, v112, v113, v114, v115, _, v116, v117, v15, v16, rfl, HI.out.low, HI.out.f0, HI.out.f1, HI.out.f2, HI.out.f3, HI.out.f4, HI.out.f5, HI.out.f6, HI.out.f7, HI.out.f8, HI.out.f9, HI.out.f10, HI.out.f11, HI.out.f12, HI.out.f13, HI.out.f14, (fun _ => ⟨d, rfl⟩), HI.out.f16, HI.out.f17, HI.out.f18, HI.out.f20, HI.out.o12, HI.out.o14, HI.out.o19⟩
    | 16, ho =>
      cases ho
      obtain ⟨d, e⟩ := h.f15 (hd ⟨15, .data⟩ (by simp) rfl)
      obtain ⟨y, k, yo, yn, yc, e7, hy⟩ := h.f14 d
      subst e7
      subst e
      clear h hy
      go_simp
      exact hK.out _ _ ⟨v101, v102, v103, v104, v105, v106, v107, v108, v109, v110, v111, v112, v113, v114, _, _, _, v117, v15, v16, rfl, HI.out.low, HI.out.f0, HI.out.f1, HI.out.f2, HI.out.f3, HI.out.f4, HI.out.f5, HI.out.f6, HI.out.f7, HI.out.f8, HI.out.f9, HI.out.f10, HI.out.f11, HI.out.f12, HI.out.f13, HI.out.f14, HI.out.f15, (fun _ => ⟨d, _, _, rfl, rfl⟩), HI.out.f17, HI.out.f18, HI.out.f20, HI.out.o12, HI.out.o14, HI.out.o19⟩
    | 17, ho =>
      cases ho
      obtain ⟨d, e⟩ := h.f15 (hd ⟨15, .data⟩ (by simp) rfl)
      obtain ⟨y, k, yo, yn, yc, e7, hy⟩ := h.f14 d
      subst e7
      subst e
      clear h hy
      go_simp
      exact hK.out _ _ ⟨v101, v102, v103, v104, v105, v106, v107, v108, v109, v110, v111, v112, v113, v114, _, _, v116, _, v15, v16, rfl, HI.out.low, HI.out.f0, HI.out.f1, HI.out.f2, HI.out.f3, HI.out.f4, HI.out.f5, HI.out.f6, HI.out.f7, HI.out.f8, HI.out.f9, HI.out.f10, HI.out.f11, HI.out.f12, HI.out.f13, HI.out.f14, HI.out.f15, HI.out.f16, (fun _ => ⟨d, _, _, rfl, rfl⟩), HI.out.f18, (fun k => by have := (HI.out.f20 k).1; rw [hfi] at this; cases this), HI.out.o12, HI.out.o14, HI.out.o19⟩
    | 18, ho =>
      cases ho
      clear h
      go_simp
      have hb := (Below.refl W.heap.size W).alloc (Nat.le_refl _) zeroBx
      have H1 := HI.out.keep hb
      exact hK.out _ (W.alloc zeroBx) ⟨v101, v102, v103, v104, v105, v106, v107, v108, v109, v110, v111, v112, v113, v114, v115, v100, v116, v117, (ptr W.heap.size), v16, rfl, H1.low, H1.f0, H1.f1, H1.f2, H1.f3, H1.f4, H1.f5, H1.f6, H1.f7, H1.f8, H1.f9, H1.f10, H1.f11, H1.f12, H1.f13, H1.f14, H1.f15, H1.f16, H1.f17, (fun _ => ⟨_, rfl, HI.out.low.size, by simp, fun _ => heap_new_at _ _ _ rfl, (fun k => by have := HI.out.o19 k; rw [hfi] at this; simp at this)⟩), H1.f20, H1.o12, H1.o14, ((fun k => by have := HI.out.o19 k; rw [hfi] at this; simp at this))⟩
    | 19, ho =>
      cases ho
      have dp8 := hd ⟨8, .phase⟩ (by simp) rfl
      have dp14 := hd ⟨14, .chain⟩ (by simp) rfl
      have dp12 := hd ⟨12, .phase⟩ (by simp) rfl
      have dal := hd ⟨18, .data⟩ (by simp) rfl
      obtain ⟨d7, a0, b0, ea, eb⟩ := h.f16 (hd ⟨16, .data⟩ (by simp) rfl)
      obtain ⟨p, e7, h2, h3, h4, -⟩ := h.f18 (hd ⟨18, .data⟩ (by simp) rfl)
      obtain ⟨y, k, oq, nq, cq, e, hq, hpost⟩ := h.f14 d7
      subst eb
      subst e
      cases ea
      subst e7
      have hz := h4 hfi
      have HZ := Lib.hid hz
      have HQ := Lib.hid hq
      have HPO := Lib.hid hpost
      obtain ⟨⟨c0, c1, c2⟩, g0, g1, g2⟩ := box3 hz
      clear h hd h4 hz hq hpost
      unfold ptr
      go_simp
      exact hK.out _ _ ⟨v101, v102, v103, v104, v105, v106, v107, v108, v109, v110, v111, v112, v113, v114, _, v100, _, v117, (ptr p), v16, rfl, below_set3 HI.out.low (b := p) h2 (.string y.nm) (.bool y.vr) (.slice oq nq cq), HI.out.f0, HI.out.f1, HI.out.f2, HI.out.f3, HI.out.f4, (fun _ e => by rw [show flag f 19 8 = f 8 from rfl, dp8] at e; cases e), HI.out.f6, HI.out.f7, (fun _ e => by rw [show flag f 19 12 = f 12 from rfl, dp12] at e; cases e), HI.out.f9, HI.out.f10, HI.out.f11, (fun k => ⟨(HI.out.f12 k).1, fun e => by rw [show flag f 19 14 = f 14 from rfl, dp14] at e; cases e⟩), HI.out.f13, (fun _ => ⟨y, k, oq, nq, cq, rfl, HQ.out.setz HZ.out HPO.out.fts (.string y.nm) (.bool y.vr) (.slice oq nq cq), HPO.out⟩), HI.out.f15, HI.out.f16, HI.out.f17, (fun _ => ⟨p, rfl, h2, by simp [World.setCell]; omega, nofun, fun _ => ⟨y, k, oq, nq, cq, rfl, ⟨box3_set HZ.out (.string y.nm) (.bool y.vr) (.slice oq nq cq), HQ.out.setz HZ.out HPO.out.fts (.string y.nm) (.bool y.vr) (.slice oq nq cq)⟩, HPO.out⟩⟩), HI.out.f20, HI.out.o12, HI.out.o14, (fun _ => ⟨dal, d7, dp8, dp12⟩)⟩
    | 20, ho =>
      cases ho
      have d := hd ⟨17, .data⟩ (by simp) rfl
      clear h
      go_simp
      exact hK.out _ _ ⟨v101, v102, v103, v104, v105, v106, v107, v108, v109, v110, v111, v112, v113, v114, v115, v100, v116, v117, v15, _, rfl, HI.out.low, HI.out.f0, HI.out.f1, HI.out.f2, HI.out.f3, HI.out.f4, HI.out.f5, HI.out.f6, HI.out.f7, HI.out.f8, HI.out.f9, HI.out.f10, HI.out.f11, HI.out.f12, HI.out.f13, HI.out.f14, HI.out.f15, HI.out.f16, HI.out.f17, HI.out.f18, (fun _ => ⟨d, rfl⟩), HI.out.o12, HI.out.o14, HI.out.o19⟩
    | i + 21, ho => simp at ho
  case hend =>
  rintro z f a W11 HZ ⟨v101, v102, v103, v104, v105, v106, v107, v108, v109, v110, v111, v112, v113, v114, v115, v100, v116, v117, v15, v16, rfl, h⟩ hall
  obtain ⟨py, rfl, -, -, -, h5⟩ := h.f18 (hall 18 (by simp))
  obtain ⟨y, k, yo, yn, yc, rfl, hbx, hpost⟩ := h5 (hall 19 (by simp))
  obtain ⟨-, rfl⟩ := h.f20 (hall 20 (by simp))
  obtain ⟨-, a1, b1, e1, rfl⟩ := h.f17 (hall 17 (by simp))
  cases e1
  have HBY := Lib.hid hbx
  have HPO := Lib.hid hpost
  have HMd := Lib.hid (HB.out.carry h.low)
  have HBB2 := Lib.hid (HBB1.out.carry h.low)
  clear h h5 hall HB hbx hpost HA HA1 HMc HBB1 HZ
  obtain ⟨oy', cy', e, -⟩ := HBY.out.is.form
  cases e
  have HIS : Hid (k = chkC (c.put q u) ∧ (chkC (c.put q u) ≠ 0 → y = Tm.zero) ∧ (chkC (c.put q u) = 0 → y = c.put q u) ∧ y.bulk ≤ 1048576) := Lib.hid (by
    by_cases hf : (c.put q u).size ≤ 4000 ∧ (c.put q u).depth ≤ 200
    · have hk := HPO.out.yes HZ4.out.1 HAO.out _ HSC.out hf.1 hf.2
      have h0 : chkC (c.put q u) = 0 := chkC_ok ⟨HPB.out, hf⟩
      have h1 := (HPO.out.zero hk).2.2.2
      rw [HSC.out] at h1
      cases h1
      exact ⟨by rw [hk, h0], fun e => absurd h0 e, fun _ => rfl, hbPB⟩
    · have hk := HPO.out.big HZ4.out.1 HAO.out _ HSC.out hf
      have h0 : chkC (c.put q u) = 3 := chkC_big HPB.out hf
      have h1 : y = Tm.zero := HPO.out.none_ (by rw [hk]; decide)
      exact ⟨by rw [hk, h0], fun _ => h1, (fun e => by rw [h0] at e; cases e), by rw [h1]; decide⟩)
  clear HPO
  have hyb := HIS.out.2.2.2
  obtain ⟨⟨y0, y1, y2⟩, -⟩ := box3 HBY.out.box
  obtain ⟨⟨x0, x1, x2⟩, -⟩ := box3 HBB2.out.box
  unfold ptr
  go_wp2_with fail
  go_region_held3 (fun w' => w'.cell? ⟨py, 0, none⟩ = some (.string y.nm) ∧ w'.cell? ⟨py, 1, none⟩ = some (.bool y.vr) ∧ w'.cell? ⟨py, 2, none⟩ = some (.slice yo y.ts.length yc) ∧ w'.cell? ⟨pb, 0, none⟩ = some (.string (c.put q u).nm) ∧ w'.cell? ⟨pb, 1, none⟩ = some (.bool (c.put q u).vr) ∧ w'.cell? ⟨pb, 2, none⟩ = some (.slice o5 (c.put q u).ts.length c5)) (go_keep) ((first
        | (go_at_call 12
           refine (alive_any _).mono ?_
           rintro e W14 ⟨rfl, hb⟩
           have HL4 := Lib.hid (HL3.out.trans (hb.mono HL3.out.size))
           have y0 := (hb.cell (p := ⟨py, 0, none⟩) (World.block_lt_of_cell? _ _ y0)).trans y0
           have y1 := (hb.cell (p := ⟨py, 1, none⟩) (World.block_lt_of_cell? _ _ y1)).trans y1
           have y2 := (hb.cell (p := ⟨py, 2, none⟩) (World.block_lt_of_cell? _ _ y2)).trans y2
           have x0 := (hb.cell (p := ⟨pb, 0, none⟩) (World.block_lt_of_cell? _ _ x0)).trans x0
           have x1 := (hb.cell (p := ⟨pb, 1, none⟩) (World.block_lt_of_cell? _ _ x1)).trans x1
           have x2 := (hb.cell (p := ⟨pb, 2, none⟩) (World.block_lt_of_cell? _ _ x2)).trans x2
           clear hb)
        | (go_at_call 20
           refine (is_any y (c.put q u) _ _ k (chkC (c.put q u)) _ HBY2.out.is HBB3.out.is hyb hbPB).mono ?_
           rintro e W13 ⟨⟨bi, rfl, hbi⟩, hb⟩
           obtain rfl : bi = true := hbi.2 (by
             by_cases e : chkC (c.put q u) = 0
             · exact .inr ⟨e, HIS.out.1.trans e, HIS.out.2.2.1 e⟩
             · exact .inl ⟨e, HIS.out.1, HIS.out.2.1 e⟩)
           have HL3 := Lib.hid (HL2.out.trans (hb.mono HL2.out.size))
           clear hbi
           have y0 := (hb.cell (p := ⟨py, 0, none⟩) (World.block_lt_of_cell? _ _ y0)).trans y0
           have y1 := (hb.cell (p := ⟨py, 1, none⟩) (World.block_lt_of_cell? _ _ y1)).trans y1
           have y2 := (hb.cell (p := ⟨py, 2, none⟩) (World.block_lt_of_cell? _ _ y2)).trans y2
           have x0 := (hb.cell (p := ⟨pb, 0, none⟩) (World.block_lt_of_cell? _ _ x0)).trans x0
           have x1 := (hb.cell (p := ⟨pb, 1, none⟩) (World.block_lt_of_cell? _ _ x1)).trans x1
           have x2 := (hb.cell (p := ⟨pb, 2, none⟩) (World.block_lt_of_cell? _ _ x2)).trans x2
           clear hb)
        | (go_at_call 18
           refine (rcheck_full (c.put q u) _ _ (HBB2.out.carry (Below.refl _ W11).drew).is hbPB).mono ?_
           rintro e W12 ⟨rfl, hb⟩
           have HBY2 := Lib.hid ((HBY.out.carry (Below.refl _ W11).drew).carry hb)
           have HBB3 := Lib.hid ((HBB2.out.carry (Below.refl _ W11).drew).carry hb)
           have HL2 := Lib.hid ((HMd.out.carry (Below.refl _ W11).drew).carry hb).low
           have y0 := (hb.cell (p := ⟨py, 0, none⟩) (World.block_lt_of_cell? _ _ y0)).trans y0
           have y1 := (hb.cell (p := ⟨py, 1, none⟩) (World.block_lt_of_cell? _ _ y1)).trans y1
           have y2 := (hb.cell (p := ⟨py, 2, none⟩) (World.block_lt_of_cell? _ _ y2)).trans y2
           have x0 := (hb.cell (p := ⟨pb, 0, none⟩) (World.block_lt_of_cell? _ _ x0)).trans x0
           have x1 := (hb.cell (p := ⟨pb, 1, none⟩) (World.block_lt_of_cell? _ _ x1)).trans x1
           have x2 := (hb.cell (p := ⟨pb, 2, none⟩) (World.block_lt_of_cell? _ _ x2)).trans x2
           clear hb)))
  all_goals
    go_wp2_with fail
    go_ret
    exact ⟨rfl, HL4.out⟩
end Go.Proofs.YtnomppdmhgefiaaGreat
