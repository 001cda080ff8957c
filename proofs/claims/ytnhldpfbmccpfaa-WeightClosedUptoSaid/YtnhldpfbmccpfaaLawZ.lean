/- Merged: Clz, LawZ. -/
import Derived.Test.YtnhldpfbmccpfaaFt7
import Derived.Test.YtnhldpfbmccpfaaTmw
import Derived.Test.YtnhldpfbmccpfaaInv
import Derived.WalkKit
import Derived.ProofKit
import Derived.OpenShut
import Derived.Handy
import Derived.Lib.Hide
import Derived.Deep.RegionHeld3
import Derived.Deep.DeepCutAuto
import Derived.Test.YtnhldpfbmccpfaaRpt
import Derived.Test.YtnhldpfbmccpfaaRfa
import Derived.Test.YtnhldpfbmccpfaaRcs
/- The law WeightClosed: what lies between its operations. -/
namespace Go.Proofs.Ytnhldpfbmccpfaa
open Go.RowKit Go.Shelf Go.Maps

theorem Tm.at_sy {c x : Tm} (hb : c.bare) {pos : List Int} (h : c.at pos = some x) : ∀ y ∈ x.sy, y ∈ c.sy := by
  induction pos generalizing c with
  | nil => simp only [Tm.at, Option.some.injEq] at h; subst h; exact fun _ h => h
  | cons i l ih =>
    obtain ⟨z, hz, _⟩ := Tm.at_cons_some6 (t := c) (i := i) (l := l) (by rw [h]; rfl)
    rw [Tm.at_cons6 hz] at h
    have hm := Tm.kid_mem hz
    intro y hy
    have h1 := ih (hb.kids z hm) h y hy
    cases hv : c.vr with
    | true => rw [hb.vr0 hv] at hm; cases hm
    | false => rw [Tm.sy_fun hv]; exact List.mem_cons_of_mem _ (Tm.sys_mem.2 ⟨z, hm, h1⟩)
theorem ft_pair {L : List Rk} {u : Int} {l : List Tm} (h : FT L u l) {s t : Tm} (hs : s ∈ l) (ht : t ∈ l) (hk : Kbo (wtB L) (rkB L) u s t) : wgB L u s t = true :=
  wgB_yes.2 ⟨⟨h.1, h.2.1 s hs, h.2.1 t ht, h.2.2.sub fun x hx => by
    rcases List.mem_append.1 hx with hx | hx
    · exact Tm.ofs_mem.2 ⟨s, hs, (Tm.of_sy (h.2.1 s hs).1.bare x).2 hx⟩
    · exact Tm.ofs_mem.2 ⟨t, ht, (Tm.of_sy (h.2.1 t ht).1.bare x).2 hx⟩⟩, hk⟩
theorem ft_syms {L : List Rk} {u : Int} {l : List Tm} (h : FT L u l) {s : Tm} (hs : s ∈ l) : s.syms (inSy (Tm.ofs l)) :=
  Tm.sy_syms (h.2.1 s hs).1.bare fun x hx => Tm.ofs_mem.2 ⟨s, hs, (Tm.of_sy (h.2.1 s hs).1.bare x).2 hx⟩
theorem wg_proper {L : List Rk} {u : Int} {c x : Tm} {pos : List Int} (h : ftB L u [c] = true) (hp : pos ≠ []) (hx : c.at pos = some x) : wgB L u c x = true := by
  have hf := ftB_yes.1 h
  have hc := hf.2.1 c (by simp)
  have hk := (hf.2.2.adm hf.1).proper (ft_syms hf (by simp)) hp hx
  refine wgB_yes.2 ⟨⟨hf.1, hc, hc.at6 hx, hf.2.2.sub fun y hy => Tm.ofs_mem.2 ⟨c, by simp, (Tm.of_sy hc.1.bare y).2 ?_⟩⟩, hk⟩
  rcases List.mem_append.1 hy with hy | hy
  · exact hy
  · exact Tm.at_sy hc.1.bare hx y hy
theorem wg_subst {L : List Rk} {u : Int} {s t : Tm} {bl : List Bd} (h : wgB L u s t = true) (hf : ftB L u [apB bl s, apB bl t] = true) : wgB L u (apB bl s) (apB bl t) = true := by
  rw [apB_apF bl s, apB_apF bl t] at hf ⊢
  have hf := ftB_yes.1 hf
  exact ft_pair hf (by simp) (by simp) ((hf.2.2.adm hf.1).subst _ (wgB_yes.1 h).2 (ft_syms hf (by simp)))
theorem wg_put {L : List Rk} {u : Int} {s t c x : Tm} {pos : List Int} (h : wgB L u s t = true) (hc : c.formed) (hx : c.at pos = some x) (hf : ftB L u [c.put pos s, c.put pos t] = true) : wgB L u (c.put pos s) (c.put pos t) = true :=
  ft_pair (ftB_yes.1 hf) (by simp) (by simp) ((wgB_yes.1 h).2.put hc.bare hx)
/-- as wp_region_invZ, and what the slots held is not lost -/
theorem wp_region_invE {P : Program} {ops : Array Oper} {Q : Exit → Act → World → Prop} {id : Nat} {a : Act} {w : World} (Inv : (Nat → Value) → (Nat → Bool) → Act → World → Prop) (hm : P.follows .mixedOrders = true)
    (hacy : (List.range ops.size).all (fun i => match ops[i]? with | some o => o.after.all (fun e => !Region.binds .any e || decide (e.on < i)) | none => true) = true)
    (h0 : Inv (fun k => a.tmps.getD k undef) (fun _ => false) a w.drew)
    (hend : ∀ z f a' w', Hid (z = fun k => a.tmps.getD k undef) → Inv z f a' w' → (∀ i, i < ops.size → f i = true) → Q .normal a' w')
    (hstep : ∀ z i o, ops[i]? = some o → ∀ f a w, Inv z f a w → f i = false → (∀ e ∈ o.after, Region.binds .any e = true → f e.on = true) →
      ∀ K' : Act → World → Prop, Shut (∀ a' w', Inv z (flag f i) a' w' → K' a' w') → if Region.wanted o (yielded ops a.tmps) = true then Oper.wp P o a w K' Q else K' (a.put o.dst undef) w) : (Code.region id ops true).wp P Q a w :=
  wp_region_inv (Inv _) hm hacy h0 (fun f a' w' => hend _ f a' w' (Lib.hid rfl)) (hstep _)
/-- what the law was given, in boxes -/
structure CzSt (w W : World) (lv : Value) (u : Int) (s t : Tm) (sv tv bv : Value) (c : Tm) (cv pv : Value) (ps pt : Nat) : Prop where
  o : W.heap[w.heap.size]? = some (.cells #[lv, .int .i64 u] 40 (0, 0))
  q : W.heap[w.heap.size + 1]? = some (.cells #[.string s.nm, .bool s.vr, sv, .string t.nm, .bool t.vr, tv] 45 (0, 0))
  c : W.heap[w.heap.size + 2]? = some (.cells #[bv, .string c.nm, .bool c.vr, cv, pv] 49 (0, 0))
  a : W.heap[ps]? = some (.cells #[.string s.nm, .bool s.vr, sv] 26 (0, 0))
  b : W.heap[pt]? = some (.cells #[.string t.nm, .bool t.vr, tv] 26 (0, 0))
  low : Below w.heap.size w W
section
variable {w A W : World} {lv : Value} {u : Int} {s t : Tm} {sv tv bv : Value} {c : Tm} {cv pv : Value} {ps pt : Nat}
theorem CzSt.carry (h : CzSt w A lv u s t sv tv bv c cv pv ps pt) (hb : Below A.heap.size A W) : CzSt w W lv u s t sv tv bv c cv pv ps pt :=
  ⟨(hb.block _ (Array.getElem?_eq_some_iff.1 h.o).1).trans h.o, (hb.block _ (Array.getElem?_eq_some_iff.1 h.q).1).trans h.q, (hb.block _ (Array.getElem?_eq_some_iff.1 h.c).1).trans h.c, (hb.block _ (Array.getElem?_eq_some_iff.1 h.a).1).trans h.a, (hb.block _ (Array.getElem?_eq_some_iff.1 h.b).1).trans h.b, h.low.trans (hb.mono h.low.size)⟩
theorem CzSt.oo (h : CzSt w W lv u s t sv tv bv c cv pv ps pt) : W.cell? ⟨w.heap.size, 0, none⟩ = some lv ∧ W.cell? ⟨w.heap.size, 1, none⟩ = some (.int .i64 u) := (box2w h.o).1
theorem CzSt.cc (h : CzSt w W lv u s t sv tv bv c cv pv ps pt) : W.cell? ⟨w.heap.size + 2, 0, none⟩ = some bv ∧ W.cell? ⟨w.heap.size + 2, 1, none⟩ = some (.string c.nm) ∧ W.cell? ⟨w.heap.size + 2, 2, none⟩ = some (.bool c.vr) ∧ W.cell? ⟨w.heap.size + 2, 3, none⟩ = some cv ∧ W.cell? ⟨w.heap.size + 2, 4, none⟩ = some pv :=
  ⟨cells_of' h.c 0, cells_of' h.c 1, cells_of' h.c 2, cells_of' h.c 3, cells_of' h.c 4⟩
theorem CzSt.aa (h : CzSt w W lv u s t sv tv bv c cv pv ps pt) : W.cell? ⟨ps, 0, none⟩ = some (.string s.nm) ∧ W.cell? ⟨ps, 1, none⟩ = some (.bool s.vr) ∧ W.cell? ⟨ps, 2, none⟩ = some sv ∧ W.cell? ⟨pt, 0, none⟩ = some (.string t.nm) ∧ W.cell? ⟨pt, 1, none⟩ = some (.bool t.vr) ∧ W.cell? ⟨pt, 2, none⟩ = some tv :=
  ⟨cells_of' h.a 0, cells_of' h.a 1, cells_of' h.a 2, cells_of' h.b 0, cells_of' h.b 1, cells_of' h.b 2⟩
end
/-- between the operations that lay the two terms in boxes -/
structure CbZ (w0 : World) (lv : Value) (u : Int) (s t : Tm) (sv tv bv : Value) (c : Tm) (cv pv : Value) (f : Nat → Bool) (w : World) (v7 v8 v15 v16 v17 v18 : Value) : Prop where
  low : Below w0.heap.size w0 w
  o : w.heap[w0.heap.size]? = some (.cells #[lv, .int .i64 u] 40 (0, 0))
  q : w.heap[w0.heap.size + 1]? = some (.cells #[.string s.nm, .bool s.vr, sv, .string t.nm, .bool t.vr, tv] 45 (0, 0))
  c : w.heap[w0.heap.size + 2]? = some (.cells #[bv, .string c.nm, .bool c.vr, cv, pv] 49 (0, 0))
  f0 : f 0 = true → v15 = .pointer (some ⟨w0.heap.size + 1, 0, none⟩)
  f1 : f 1 = true → v16 = .agg #[.string s.nm, .bool s.vr, sv]
  f2 : f 2 = true → v17 = .pointer (some ⟨w0.heap.size + 1, 3, none⟩)
  f3 : f 3 = true → v18 = .agg #[.string t.nm, .bool t.vr, tv]
  f4 : f 4 = true → ∃ p, v7 = ptr p ∧ w0.heap.size + 3 ≤ p ∧ p < w.heap.size ∧ (f 6 = false → w.heap[p]? = some zeroBx) ∧ (f 6 = true → w.heap[p]? = some (.cells #[.string s.nm, .bool s.vr, sv] 26 (0, 0)))
  f5 : f 5 = true → ∃ p, v8 = ptr p ∧ w0.heap.size + 3 ≤ p ∧ p < w.heap.size ∧ (f 7 = false → w.heap[p]? = some zeroBx) ∧ (f 7 = true → w.heap[p]? = some (.cells #[.string t.nm, .bool t.vr, tv] 26 (0, 0)))
  ne : f 4 = true → f 5 = true → v7 ≠ v8
  o6 : f 6 = true → f 4 = true ∧ f 5 = true
  o7 : f 7 = true → f 5 = true ∧ f 6 = true
def CbZnv (w0 : World) (lv : Value) (u : Int) (s t : Tm) (sv tv bv : Value) (c : Tm) (cv pv : Value) (f : Nat → Bool) (a : Act) (w : World) : Prop :=
  ∃ v7 v8 v15 v16 v17 v18, a = { tmps := #[.agg #[lv, .int .i64 u], (.agg #[.string s.nm, .bool s.vr, sv, .string t.nm, .bool t.vr, tv]), (.agg #[bv, .string c.nm, .bool c.vr, cv, pv]), .pointer (some ⟨w0.heap.size, 0, none⟩), .pointer (some ⟨w0.heap.size + 1, 0, none⟩), .pointer (some ⟨w0.heap.size + 2, 0, none⟩), .bool false, v7, v8, undef, undef, undef, undef, undef, undef, v15, v16, v17, v18, undef, undef, undef, undef, undef, undef, undef, undef, undef, undef, undef, undef, undef, undef, undef, undef, undef, undef, undef, undef, undef, undef, undef, undef, undef, undef, undef, undef, undef, undef, undef, undef, undef, undef, undef, undef, undef, undef, undef, undef, undef, undef, undef, undef, undef, undef, undef, undef, undef, undef, undef, undef, undef, undef, undef, undef, undef, undef, undef, undef, undef, undef, undef, undef, undef, undef, undef, undef, undef, undef, undef, undef, undef, undef, undef, undef, undef, undef, undef, undef, undef, undef, undef, undef, undef, undef, undef, undef, undef, undef, undef, undef, undef, undef, undef, undef, undef, undef, undef, undef, undef, undef, undef, undef, undef, undef, undef, undef], defers := [] } ∧ CbZ w0 lv u s t sv tv bv c cv pv f w v7 v8 v15 v16 v17 v18
/-- between the operations that apply the substitution -/
structure CpZ (n0 : Nat) (w0 : World) (s t c : Tm) (bl : List Bd) (sv tv bv cv pv : Value) (pos : List Int) (f : Nat → Bool) (w : World) (v11 v12 v71 v72 v73 v74 v75 v76 v77 v78 : Value) : Prop where
  low : Below w0.heap.size w0 w
  f0 : f 0 = true → v71 = (.pointer (some ⟨n0 + 2, 0, none⟩))
  f1 : f 1 = true → v72 = bv
  f2 : f 2 = true → v73 = (.agg #[.string s.nm, .bool s.vr, sv])
  f3 : f 3 = true → TmW w (apB bl s) v74
  f4 : f 4 = true → v75 = (.pointer (some ⟨n0 + 2, 0, none⟩))
  f5 : f 5 = true → v76 = bv
  f6 : f 6 = true → v77 = (.agg #[.string t.nm, .bool t.vr, tv])
  f7 : f 7 = true → TmW w (apB bl t) v78
  f8 : f 8 = true → ∃ p, v11 = ptr p ∧ w0.heap.size ≤ p ∧ p < w.heap.size ∧ (f 10 = false → w.heap[p]? = some zeroBx) ∧ (f 10 = true → ∃ s', TBx w p (apB bl s) s')
  f9 : f 9 = true → ∃ p, v12 = ptr p ∧ w0.heap.size ≤ p ∧ p < w.heap.size ∧ (f 11 = false → w.heap[p]? = some zeroBx) ∧ (f 11 = true → ∃ s', TBx w p (apB bl t) s')
  ne : f 8 = true → f 9 = true → v11 ≠ v12
  oA : f 10 = true → f 8 = true ∧ f 9 = true
  oB : f 11 = true → f 9 = true ∧ f 10 = true
theorem CpZ.keep {n0 : Nat} {w0 A W : World} {s t c : Tm} {bl : List Bd} {sv tv bv cv pv : Value} {pos : List Int} {f : Nat → Bool} {v11 v12 v71 v72 v73 v74 v75 v76 v77 v78 : Value} (h : CpZ n0 w0 s t c bl sv tv bv cv pv pos f A v11 v12 v71 v72 v73 v74 v75 v76 v77 v78) (hb : Below A.heap.size A W) : CpZ n0 w0 s t c bl sv tv bv cv pv pos f W v11 v12 v71 v72 v73 v74 v75 v76 v77 v78 :=
  ⟨h.low.trans (hb.mono h.low.size), h.f0, h.f1, h.f2, fun k => (h.f3 k).keep hb, h.f4, h.f5, h.f6, fun k => (h.f7 k).keep hb, fun k => by obtain ⟨p, h1, h2, h3, h4, h5⟩ := h.f8 k; exact ⟨p, h1, h2, Nat.lt_of_lt_of_le h3 hb.size, fun e => (hb.block p h3).trans (h4 e), fun e => (h5 e).imp fun _ h6 => h6.carry hb⟩, fun k => by obtain ⟨p, h1, h2, h3, h4, h5⟩ := h.f9 k; exact ⟨p, h1, h2, Nat.lt_of_lt_of_le h3 hb.size, fun e => (hb.block p h3).trans (h4 e), fun e => (h5 e).imp fun _ h6 => h6.carry hb⟩, h.ne, h.oA, h.oB⟩
def CpZnv (ps pt : Nat) (n0 : Nat) (w0 : World) (s t c : Tm) (bl : List Bd) (sv tv bv cv pv : Value) (pos : List Int) (z : Nat → Value) (f : Nat → Bool) (a : Act) (w : World) : Prop :=
  ∃ v11 v12 v71 v72 v73 v74 v75 v76 v77 v78, a = { tmps := #[z 0, z 1, z 2, .pointer (some ⟨n0, 0, none⟩), z 4, .pointer (some ⟨n0 + 2, 0, none⟩), z 6, .pointer (some ⟨ps, 0, none⟩), .pointer (some ⟨pt, 0, none⟩), z 9, z 10, v11, v12, z 13, z 14, z 15, z 16, z 17, z 18, z 19, z 20, z 21, z 22, z 23, z 24, z 25, z 26, z 27, z 28, z 29, z 30, z 31, z 32, z 33, z 34, z 35, z 36, z 37, z 38, z 39, z 40, z 41, z 42, z 43, z 44, z 45, z 46, z 47, z 48, z 49, z 50, z 51, z 52, z 53, z 54, z 55, z 56, z 57, z 58, z 59, z 60, z 61, z 62, z 63, z 64, z 65, z 66, z 67, z 68, z 69, z 70, v71, v72, v73, v74, v75, v76, v77, v78, z 79, z 80, z 81, z 82, z 83, z 84, z 85, z 86, z 87, z 88, z 89, z 90, z 91, z 92, z 93, z 94, z 95, z 96, z 97, z 98, z 99, z 100, z 101, z 102, z 103, z 104, z 105, z 106, z 107, z 108, z 109, z 110, z 111, z 112, z 113, z 114, z 115, z 116, z 117, z 118, z 119, z 120, z 121, z 122, z 123, z 124, z 125, z 126], defers := [] } ∧ CpZ n0 w0 s t c bl sv tv bv cv pv pos f w v11 v12 v71 v72 v73 v74 v75 v76 v77 v78
/-- between the operations that put the two terms into the context -/
structure CdZ (n0 : Nat) (w0 : World) (s t c : Tm) (bl : List Bd) (sv tv bv cv pv : Value) (pos : List Int) (f : Nat → Bool) (w : World) (v13 v14 v100 v101 v102 v103 v104 v105 v106 v107 v108 v109 v110 v111 : Value) : Prop where
  low : Below w0.heap.size w0 w
  f0 : f 0 = true → v100 = (.pointer (some ⟨n0 + 2, 1, none⟩))
  f1 : f 1 = true → v101 = (.agg #[.string c.nm, .bool c.vr, cv])
  f2 : f 2 = true → v102 = (.pointer (some ⟨n0 + 2, 4, none⟩))
  f3 : f 3 = true → v103 = pv
  f4 : f 4 = true → v104 = (.agg #[.string s.nm, .bool s.vr, sv])
  f5 : f 5 = true → TmW w (c.put pos s) v105
  f6 : f 6 = true → v106 = (.pointer (some ⟨n0 + 2, 1, none⟩))
  f7 : f 7 = true → v107 = (.agg #[.string c.nm, .bool c.vr, cv])
  f8 : f 8 = true → v108 = (.pointer (some ⟨n0 + 2, 4, none⟩))
  f9 : f 9 = true → v109 = pv
  f10 : f 10 = true → v110 = (.agg #[.string t.nm, .bool t.vr, tv])
  f11 : f 11 = true → TmW w (c.put pos t) v111
  f12 : f 12 = true → ∃ p, v13 = ptr p ∧ w0.heap.size ≤ p ∧ p < w.heap.size ∧ (f 14 = false → w.heap[p]? = some zeroBx) ∧ (f 14 = true → ∃ s', TBx w p (c.put pos s) s')
  f13 : f 13 = true → ∃ p, v14 = ptr p ∧ w0.heap.size ≤ p ∧ p < w.heap.size ∧ (f 15 = false → w.heap[p]? = some zeroBx) ∧ (f 15 = true → ∃ s', TBx w p (c.put pos t) s')
  ne : f 12 = true → f 13 = true → v13 ≠ v14
  oA : f 14 = true → f 12 = true ∧ f 13 = true
  oB : f 15 = true → f 13 = true ∧ f 14 = true
theorem CdZ.keep {n0 : Nat} {w0 A W : World} {s t c : Tm} {bl : List Bd} {sv tv bv cv pv : Value} {pos : List Int} {f : Nat → Bool} {v13 v14 v100 v101 v102 v103 v104 v105 v106 v107 v108 v109 v110 v111 : Value} (h : CdZ n0 w0 s t c bl sv tv bv cv pv pos f A v13 v14 v100 v101 v102 v103 v104 v105 v106 v107 v108 v109 v110 v111) (hb : Below A.heap.size A W) : CdZ n0 w0 s t c bl sv tv bv cv pv pos f W v13 v14 v100 v101 v102 v103 v104 v105 v106 v107 v108 v109 v110 v111 :=
  ⟨h.low.trans (hb.mono h.low.size), h.f0, h.f1, h.f2, h.f3, h.f4, fun k => (h.f5 k).keep hb, h.f6, h.f7, h.f8, h.f9, h.f10, fun k => (h.f11 k).keep hb, fun k => by obtain ⟨p, h1, h2, h3, h4, h5⟩ := h.f12 k; exact ⟨p, h1, h2, Nat.lt_of_lt_of_le h3 hb.size, fun e => (hb.block p h3).trans (h4 e), fun e => (h5 e).imp fun _ h6 => h6.carry hb⟩, fun k => by obtain ⟨p, h1, h2, h3, h4, h5⟩ := h.f13 k; exact ⟨p, h1, h2, Nat.lt_of_lt_of_le h3 hb.size, fun e => (hb.block p h3).trans (h4 e), fun e => (h5 e).imp fun _ h6 => h6.carry hb⟩, h.ne, h.oA, h.oB⟩
def CdZnv (ps pt : Nat) (n0 : Nat) (w0 : World) (s t c : Tm) (bl : List Bd) (sv tv bv cv pv : Value) (pos : List Int) (z : Nat → Value) (f : Nat → Bool) (a : Act) (w : World) : Prop :=
  ∃ v13 v14 v100 v101 v102 v103 v104 v105 v106 v107 v108 v109 v110 v111, a = { tmps := #[z 0, z 1, z 2, .pointer (some ⟨n0, 0, none⟩), z 4, .pointer (some ⟨n0 + 2, 0, none⟩), z 6, .pointer (some ⟨ps, 0, none⟩), .pointer (some ⟨pt, 0, none⟩), z 9, z 10, z 11, z 12, v13, v14, z 15, z 16, z 17, z 18, z 19, z 20, z 21, z 22, z 23, z 24, z 25, z 26, z 27, z 28, z 29, z 30, z 31, z 32, z 33, z 34, z 35, z 36, z 37, z 38, z 39, z 40, z 41, z 42, z 43, z 44, z 45, z 46, z 47, z 48, z 49, z 50, z 51, z 52, z 53, z 54, z 55, z 56, z 57, z 58, z 59, z 60, z 61, z 62, z 63, z 64, z 65, z 66, z 67, z 68, z 69, z 70, z 71, z 72, z 73, z 74, z 75, z 76, z 77, z 78, z 79, z 80, z 81, z 82, z 83, z 84, z 85, z 86, z 87, z 88, z 89, z 90, z 91, z 92, z 93, z 94, z 95, z 96, z 97, z 98, z 99, v100, v101, v102, v103, v104, v105, v106, v107, v108, v109, v110, v111, z 112, z 113, z 114, z 115, z 116, z 117, z 118, z 119, z 120, z 121, z 122, z 123, z 124, z 125, z 126], defers := [] } ∧ CdZ n0 w0 s t c bl sv tv bv cv pv pos f w v13 v14 v100 v101 v102 v103 v104 v105 v106 v107 v108 v109 v110 v111
end Go.Proofs.Ytnhldpfbmccpfaa
/- The law WeightClosed. -/
namespace Go.Proofs.Ytnhldpfbmccpfaa
open Go.RowKit Go.Shelf Go.Maps

set_option maxRecDepth 100000 in
set_option maxHeartbeats 32000000 in
theorem weightClosed_any (L : List Rk) (u : Int) (lv : Value) (s t : Tm) (sv tv : Value) (bl : List Bd) (bv : Value) (c : Tm) (cv : Value) (pos : List Int) (pv : Value) (w : World) (hL : RksIs w.heap.size w L lv) (hLb : rkBulk L ≤ 1048576) (hs : SlIs w.heap.size w s.ts sv) (ht : SlIs w.heap.size w t.ts tv)
    (hbl : BindsIs w.heap.size w bl bv) (hbb : bdBulk bl ≤ 1048576) (hc : SlIs w.heap.size w c.ts cv) (hp : PosIs w.heap.size w pos pv) (hpc : ∀ oa m k, pv = .slice oa m k → m ≤ k) (hpl : pos.length ≤ 1048576) (hbs : s.bulk ≤ 1048576) (hbt : t.bulk ≤ 1048576) (hbc : c.bulk ≤ 1048576) :
    Calls Try.prog 5 #[.agg #[lv, .int .i64 u], .agg #[.string s.nm, .bool s.vr, sv, .string t.nm, .bool t.vr, tv], .agg #[bv, .string c.nm, .bool c.vr, cv, pv]] w fun e w' => e = .returned (.bool true) ∧ Below w.heap.size w w' := by
  have hlen := Nat.le_trans (rkBulk_len L) hLb
  have hbll := Nat.le_trans (bdBulk_len bl) hbb
  obtain ⟨os, cs, rfl, -⟩ := hs.form
  obtain ⟨ot, ct, rfl, -⟩ := ht.form
  obtain ⟨oc, cc, rfl, -⟩ := hc.form
  obtain ⟨op, cp, rfl, -⟩ := hp.form
  have hbl' := hbl
  obtain ⟨ob, cb, rfl, -, -⟩ := hbl'
  have hL' := hL
  obtain ⟨ol, cl, rfl, -, -⟩ := hL'
  have HL := Lib.hid hL
  have HS := Lib.hid hs
  have HT := Lib.hid ht
  have HC := Lib.hid hc
  have HP := Lib.hid hp
  have HBL := Lib.hid hbl
  have HLB := Lib.hid hLb
  have HPC := Lib.hid hpc
  have HG1 : Hid (∀ W, Below w.heap.size w W → Calls Try.prog 10 #[.agg #[.slice ol L.length cl, .int .i64 u], .agg #[.string s.nm, .bool s.vr, .slice os s.ts.length cs], .agg #[.string t.nm, .bool t.vr, .slice ot t.ts.length ct]] W fun e w' => e = .returned (.bool (wgB L u s t)) ∧ Below W.heap.size W w') := Lib.hid fun W hW => l7greater_any L u _ s t _ _ W (hL.carry hW hW.size) hLb (hs.carry hW hW.size) (ht.carry hW hW.size) hbs hbt
  have HAL : Hid (∀ W, Below w.heap.size w W → Calls Try.prog 12 #[] W fun e w' => e = .returned (.bool true) ∧ Below w.heap.size w w') := Lib.hid fun W hW => (alive7_any W).mono fun e w' h => ⟨h.1, hW.trans (h.2.mono hW.size)⟩
  clear hL hs ht hc hp hbl hLb hpc
  go_enter Try.func5, Try.ntmps5
  go_wp2_with fail
  refine wp_region_inv (CbZnv w (.slice ol L.length cl) u s t (.slice os s.ts.length cs) (.slice ot t.ts.length ct) (.slice ob bl.length cb) c (.slice oc c.ts.length cc) (.slice op pos.length cp)) (by kernel_rfl) (by kernel_rfl) ?h0 ?hend ?hstep
  case h0 =>
    refine ⟨_, _, _, _, _, _, rfl, ?_, (Below.heap_alloc _ _ _ (by simp; omega)).trans ((Below.heap_alloc _ _ _ (by simp)).trans (heap_new_at _ _ _ rfl)), (Below.heap_alloc _ _ _ (by simp)).trans (heap_new_at _ _ _ (by simp)), heap_new_at _ _ _ (by simp), nofun, nofun, nofun, nofun, nofun, nofun, nofun, nofun, nofun⟩
    exact Below.drew (by go_grown)
  case hstep =>
    rintro i o ho f a W ⟨v7, v8, v15, v16, v17, v18, rfl, h⟩ hfi hd K' hK
    have HI := Lib.hid h
    match i, ho with
    | 0, ho =>
      cases ho
      clear h
      go_simp
      exact hK.out _ _ ⟨v7, v8, _, v16, v17, v18, rfl, HI.out.low, HI.out.o, HI.out.q, HI.out.c, fun _ => rfl, HI.out.f1, HI.out.f2, HI.out.f3, HI.out.f4, HI.out.f5, HI.out.ne, HI.out.o6, HI.out.o7⟩
    | 1, ho =>
      cases ho
      have e := h.f0 (hd ⟨0, .data⟩ (by simp) rfl)
      subst e
      have c0 := cells_of' h.q 0
      have c1 := cells_of' h.q 1
      have c2 := cells_of' h.q 2
      simp only [List.getElem?_toArray, List.getElem?_cons_zero, List.getElem?_cons_succ] at c0 c1 c2
      clear h
      go_simp
      exact hK.out _ _ ⟨v7, v8, _, _, v17, v18, rfl, HI.out.low, HI.out.o, HI.out.q, HI.out.c, HI.out.f0, fun _ => rfl, HI.out.f2, HI.out.f3, HI.out.f4, HI.out.f5, HI.out.ne, HI.out.o6, HI.out.o7⟩
    | 2, ho =>
      cases ho
      clear h
      go_simp
      exact hK.out _ _ ⟨v7, v8, v15, v16, _, v18, rfl, HI.out.low, HI.out.o, HI.out.q, HI.out.c, HI.out.f0, HI.out.f1, fun _ => rfl, HI.out.f3, HI.out.f4, HI.out.f5, HI.out.ne, HI.out.o6, HI.out.o7⟩
    | 3, ho =>
      cases ho
      have e := h.f2 (hd ⟨2, .data⟩ (by simp) rfl)
      subst e
      have c0 := cells_of' h.q 3
      have c1 := cells_of' h.q 4
      have c2 := cells_of' h.q 5
      simp only [List.getElem?_toArray, List.getElem?_cons_zero, List.getElem?_cons_succ] at c0 c1 c2
      clear h
      go_simp
      exact hK.out _ _ ⟨v7, v8, v15, v16, _, _, rfl, HI.out.low, HI.out.o, HI.out.q, HI.out.c, HI.out.f0, HI.out.f1, HI.out.f2, fun _ => rfl, HI.out.f4, HI.out.f5, HI.out.ne, HI.out.o6, HI.out.o7⟩
    | 4, ho =>
      cases ho
      clear h
      go_simp
      have hb := (Below.refl W.heap.size W).alloc (Nat.le_refl _) zeroBx
      exact hK.out _ (W.alloc zeroBx) ⟨ptr W.heap.size, v8, v15, v16, v17, v18, rfl, HI.out.low.alloc HI.out.low.size _, (hb.block _ (Array.getElem?_eq_some_iff.1 HI.out.o).1).trans HI.out.o, (hb.block _ (Array.getElem?_eq_some_iff.1 HI.out.q).1).trans HI.out.q, (hb.block _ (Array.getElem?_eq_some_iff.1 HI.out.c).1).trans HI.out.c, HI.out.f0, HI.out.f1, HI.out.f2, HI.out.f3,
        fun _ => ⟨_, rfl, (Array.getElem?_eq_some_iff.1 HI.out.c).1, by simp, fun _ => heap_new_at _ _ _ rfl, (fun k => by have := (HI.out.o6 k).1; rw [hfi] at this; cases this)⟩,
        fun k => by obtain ⟨p, h1, h2, h3, h4, h5⟩ := HI.out.f5 k; exact ⟨p, h1, h2, Nat.lt_of_lt_of_le h3 hb.size, fun e => (hb.block p h3).trans (h4 e), fun e => (hb.block p h3).trans (h5 e)⟩,
        fun _ k e => by obtain ⟨p, h1, h2, h3, -⟩ := HI.out.f5 k; have := ptr_inj (e.trans h1); omega, (fun k => by have := (HI.out.o6 k).1; rw [hfi] at this; cases this), HI.out.o7⟩
    | 5, ho =>
      cases ho
      clear h
      go_simp
      have hb := (Below.refl W.heap.size W).alloc (Nat.le_refl _) zeroBx
      exact hK.out _ (W.alloc zeroBx) ⟨v7, ptr W.heap.size, v15, v16, v17, v18, rfl, HI.out.low.alloc HI.out.low.size _, (hb.block _ (Array.getElem?_eq_some_iff.1 HI.out.o).1).trans HI.out.o, (hb.block _ (Array.getElem?_eq_some_iff.1 HI.out.q).1).trans HI.out.q, (hb.block _ (Array.getElem?_eq_some_iff.1 HI.out.c).1).trans HI.out.c, HI.out.f0, HI.out.f1, HI.out.f2, HI.out.f3,
        fun k => by obtain ⟨p, h1, h2, h3, h4, h5⟩ := HI.out.f4 k; exact ⟨p, h1, h2, Nat.lt_of_lt_of_le h3 hb.size, fun e => (hb.block p h3).trans (h4 e), fun e => (hb.block p h3).trans (h5 e)⟩,
        fun _ => ⟨_, rfl, (Array.getElem?_eq_some_iff.1 HI.out.c).1, by simp, fun _ => heap_new_at _ _ _ rfl, (fun k => by have := (HI.out.o7 k).1; rw [hfi] at this; cases this)⟩,
        fun k _ e => by obtain ⟨p, h1, h2, h3, -⟩ := HI.out.f4 k; have := ptr_inj (h1.symm.trans e); omega, (fun k => by have := (HI.out.o6 k).2; rw [hfi] at this; cases this), (fun k => by have := (HI.out.o7 k).1; rw [hfi] at this; cases this)⟩
    | 6, ho =>
      cases ho
      have d4 := hd ⟨4, .data⟩ (by simp) rfl
      have d5 := hd ⟨5, .phase⟩ (by simp) rfl
      have e := h.f1 (hd ⟨1, .data⟩ (by simp) rfl)
      subst e
      obtain ⟨p, e7, h2, h3, h4, -⟩ := h.f4 d4
      subst e7
      have hz := h4 hfi
      have HZ := Lib.hid hz
      have HNE := Lib.hid (h.ne d4 d5)
      obtain ⟨⟨c0, c1, c2⟩, g0, g1, g2⟩ := box3 hz
      clear h hd h4 hz
      unfold ptr
      go_simp
      have hst := fun k (hk : k ≠ p) => heap_set3 W p k (.string s.nm) (.bool s.vr) (.slice os s.ts.length cs) hk
      exact hK.out _ _ ⟨ptr p, v8, v15, _, v17, v18, rfl, below_set3 HI.out.low (b := p) (by omega) _ _ _, (hst _ (by omega)).trans HI.out.o, (hst _ (by omega)).trans HI.out.q, (hst _ (by omega)).trans HI.out.c, HI.out.f0, HI.out.f1, HI.out.f2, HI.out.f3,
        fun _ => ⟨p, rfl, h2, by simp [World.setCell]; omega, nofun, fun _ => box3_set HZ.out _ _ _⟩,
        fun k => by obtain ⟨q, h1, h2, h3, h4, h5⟩ := HI.out.f5 k; have hpq : q ≠ p := fun e => HNE.out (by rw [h1, e]); exact ⟨q, h1, h2, by simp [World.setCell]; omega, fun e => (hst q hpq).trans (h4 e), fun e => (hst q hpq).trans (h5 e)⟩,
        HI.out.ne, fun _ => ⟨d4, d5⟩, fun k => ⟨(HI.out.o7 k).1, rfl⟩⟩
    | 7, ho =>
      cases ho
      have d4 := hd ⟨4, .phase⟩ (by simp) rfl
      have d5 := hd ⟨5, .data⟩ (by simp) rfl
      have d6 := hd ⟨6, .chain⟩ (by simp) rfl
      have e := h.f3 (hd ⟨3, .data⟩ (by simp) rfl)
      subst e
      obtain ⟨p, e7, h2, h3, h4, -⟩ := h.f5 d5
      subst e7
      have hz := h4 hfi
      have HZ := Lib.hid hz
      have HNE := Lib.hid (h.ne d4 d5)
      obtain ⟨⟨c0, c1, c2⟩, g0, g1, g2⟩ := box3 hz
      clear h hd h4 hz
      unfold ptr
      go_simp
      have hst := fun k (hk : k ≠ p) => heap_set3 W p k (.string t.nm) (.bool t.vr) (.slice ot t.ts.length ct) hk
      exact hK.out _ _ ⟨v7, ptr p, v15, v16, v17, _, rfl, below_set3 HI.out.low (b := p) (by omega) _ _ _, (hst _ (by omega)).trans HI.out.o, (hst _ (by omega)).trans HI.out.q, (hst _ (by omega)).trans HI.out.c, HI.out.f0, HI.out.f1, HI.out.f2, HI.out.f3,
        fun k => by obtain ⟨q, h1, h2, h3, h4, h5⟩ := HI.out.f4 k; have hpq : q ≠ p := fun e => HNE.out (by rw [h1, e]); exact ⟨q, h1, h2, by simp [World.setCell]; omega, fun e => (hst q hpq).trans (h4 e), fun e => (hst q hpq).trans (h5 e)⟩,
        fun _ => ⟨p, rfl, h2, by simp [World.setCell]; omega, nofun, fun _ => box3_set HZ.out _ _ _⟩,
        HI.out.ne, HI.out.o6, fun _ => ⟨d5, d6⟩⟩
    | i + 8, ho => simp at ho
  case hend =>
  rintro f a W ⟨v7, v8, v15, v16, v17, v18, rfl, h⟩ hall
  obtain ⟨ps, rfl, -, -, -, h5⟩ := h.f4 (hall 4 (by simp))
  obtain ⟨pt, rfl, -, -, -, h6⟩ := h.f5 (hall 5 (by simp))
  have HM0 : Hid (CzSt w W (.slice ol L.length cl) u s t (.slice os s.ts.length cs) (.slice ot t.ts.length ct) (.slice ob bl.length cb) c (.slice oc c.ts.length cc) (.slice op pos.length cp) ps pt) := Lib.hid ⟨h.o, h.q, h.c, h5 (hall 6 (by simp)), h6 (hall 7 (by simp)), h.low⟩
  clear h h5 h6 hall
  obtain ⟨c0, c1, c2, c3, c4⟩ := HM0.out.cc
  unfold ptr
  go_wp2_with fail
  refine (rAt_uni c _ pos _ W (HC.out.carry HM0.out.low HM0.out.low.size) (HP.out.carry HM0.out.low HM0.out.low.size) hpl hbc).mono ?_
  rintro e W1 ⟨⟨r, orr, nr, kr, b1, rfl, hr, hb1t, hb1f⟩, hb⟩
  have HM1 := Lib.hid (HM0.out.carry hb)
  have HR := Lib.hid hr
  have HT1 := Lib.hid hb1t
  clear hb hr hb1t hb1f HM0 c0 c1 c2 c3 c4
  have HM2 := Lib.hid (HM1.out.carry ((Below.refl W1.heap.size W1).alloc (Nat.le_refl _) (.cells #[.string r.nm, .bool r.vr, .slice orr nr kr] 26)))
  go_upto_region 3 with fail
  go_cut [48] (fun s48 wx => s48 = .bool false ∧ Hid (CzSt w wx (.slice ol L.length cl) u s t (.slice os s.ts.length cs) (.slice ot t.ts.length ct) (.slice ob bl.length cb) c (.slice oc c.ts.length cc) (.slice op pos.length cp) ps pt))
  case first =>
    have hA := ((Below.refl W1.heap.size W1).alloc (Nat.le_refl _) (.cells #[.string r.nm, .bool r.vr, .slice orr nr kr] 26))
    have HR2 := Lib.hid (HR.out.carry hA hA.size)
    have HX2 := Lib.hid (heap_new_at W1 (.cells #[.string r.nm, .bool r.vr, .slice orr nr kr] 26) _ rfl)
    clear hA
    cases b1 with
    | false => go_wp2_with fail; go_meet; exact ⟨rfl, HM2⟩
    | true =>
      obtain ⟨d0, d1, d2, d3, d4⟩ := HM2.out.cc
      by_cases hpn : pos = []
      · subst hpn
        go_wp2_with fail; go_meet; exact ⟨rfl, HM2⟩
      · have hpd : 0 < pos.length := List.length_pos_iff.2 hpn
        have HPN := Lib.hid hpn
        have HRA := Lib.hid (HT1.out rfl)
        clear hpn HT1
        obtain ⟨z0, z1⟩ := HM2.out.oo
        generalize hW2 : W1.alloc (.cells #[.string r.nm, .bool r.vr, .slice orr nr kr] 26) = W2 at *
        have hx1 : W1.heap.size < W2.heap.size := by rw [← hW2]; simp
        clear hW2
        go_wp2_with fail
        have hA := (Below.refl W2.heap.size W2).alloc (Nat.le_refl _) (.cells #[.string c.nm, .bool c.vr, .slice oc c.ts.length cc] 26)
        have HM3 := Lib.hid (HM2.out.carry hA)
        have HR3 := Lib.hid (HR2.out.carry hA hA.size)
        have HX3 := Lib.hid ((hA.block _ hx1).trans HX2.out)
        obtain ⟨bq, hv, hrow⟩ := RowW.one (HC.out.carry HM2.out.low HM2.out.low.size)
        clear hA d0 d1 d2 d3 d4 z0 z1
        refine (fits7_any L u [c] _ _ _ (HL.out.carry HM3.out.low HM3.out.low.size) HLB.out (hv ▸ hrow) (by simp only [Tm.bulks]; omega)).mono ?_
        rintro e W4 ⟨rfl, hb⟩
        have HM4 := Lib.hid (HM3.out.carry hb)
        have HR4 := Lib.hid (HR3.out.carry hb hb.size)
        have HX4 := Lib.hid ((hb.block W1.heap.size (Array.getElem?_eq_some_iff.1 HX3.out).1).trans HX3.out)
        clear hb hv hrow HM3 HR3 HX3
        cases hf : ftB L u [c] with
        | false =>
          clear hf
          go_wp2_with fail; go_meet; exact ⟨rfl, HM4⟩
        | true =>
          have HF := Lib.hid hf
          have HWG := Lib.hid (wg_proper hf HPN.out HRA.out)
          have hbr : r.bulk ≤ 1048576 := by have := (((ftB_yes.1 hf).2.1 c (by simp)).at6 HRA.out).bulk; omega
          clear hf
          obtain ⟨z0, z1⟩ := HM4.out.oo
          obtain ⟨d0, d1, d2, d3, d4⟩ := HM4.out.cc
          obtain ⟨⟨x0, x1, x2⟩, -⟩ := box3 HX4.out
          go_wp2_with fail
          refine (l7greater_any L u _ c r _ _ _ (HL.out.carry HM4.out.low HM4.out.low.size) HLB.out (HC.out.carry HM4.out.low HM4.out.low.size) HR4.out hbc hbr).mono ?_
          rintro e W5 ⟨rfl, hb⟩
          rw [HWG.out]
          have HM5 := Lib.hid (HM4.out.carry hb)
          clear hb d0 d1 d2 d3 d4 x0 x1 x2 z0 z1
          go_wp2_with fail; go_meet; exact ⟨rfl, HM5⟩
  case rest =>
  obtain ⟨rfl, HMr⟩ := hcut
  clear HM1 HM2 HR
  obtain ⟨a0, a1, a2, b0, b1', b2⟩ := HMr.out.aa
  obtain ⟨z0, z1⟩ := HMr.out.oo
  go_wp2_with fail
  refine (HG1.out _ HMr.out.low).mono ?_
  rintro e W5 ⟨rfl, hb⟩
  have HM6 := Lib.hid (HMr.out.carry hb)
  clear hb HMr a0 a1 a2 b0 b1' b2 z0 z1
  by_cases hg : wgB L u s t = true
  rotate_left
  · have hg' : wgB L u s t = false := by simpa using hg
    rw [hg']
    go_wp2_with fail
    refine (HAL.out _ HM6.out.low).mono ?_
    rintro e W6 ⟨rfl, hb⟩
    go_wp2_with fail
    go_ret
    exact ⟨rfl, hb⟩
  rw [hg]
  have HG := Lib.hid hg
  have HSO := Lib.hid (wgB_yes.1 hg).1.2.1
  have HTO := Lib.hid (wgB_yes.1 hg).1.2.2.1
  clear hg HG1
  go_upto_region 7 with fail
  go_cut [70] (fun s70 wx => ∃ b : Bool, s70 = .bool b ∧ Hid (b = true → SubOk bl ∧ ((apB bl s).size ≤ 4000 ∧ (apB bl s).depth ≤ 200) ∧ ((apB bl t).size ≤ 4000 ∧ (apB bl t).depth ≤ 200)) ∧ Hid (CzSt w wx (.slice ol L.length cl) u s t (.slice os s.ts.length cs) (.slice ot t.ts.length ct) (.slice ob bl.length cb) c (.slice oc c.ts.length cc) (.slice op pos.length cp) ps pt))
  case first =>
    obtain ⟨c0, c1, c2, c3, c4⟩ := HM6.out.cc
    go_wp2_with fail
    refine (rcheckSubst_iff bl _ _ (HBL.out.carry HM6.out.low HM6.out.low.size) hbb).mono ?_
    rintro e w11 ⟨⟨k, rfl, hk⟩, hb⟩
    have HM11 := Lib.hid (HM6.out.carry hb)
    clear hb c0 c1 c2 c3 c4
    by_cases hso : SubOk bl
    rotate_left
    · have hk1 : (k == 0) = false := by rw [beq_eq_false_iff_ne]; exact fun e => hso (hk.1 e)
      clear hk hso
      go_wp2_with fail; go_meet; exact ⟨false, rfl, Lib.hid nofun, HM11⟩
    obtain rfl := hk.2 hso
    have HSB := Lib.hid hso
    clear hk hso
    obtain ⟨c0, c1, c2, c3, c4⟩ := HM11.out.cc
    obtain ⟨a0, a1, a2, b0, b1', b2⟩ := HM11.out.aa
    go_wp2_with fail
    refine (rfits_any bl (.slice ob bl.length cb) w.heap.size (by omega) (fun q hq => ⟨(HSB.out.terms q hq).2.1, by have := (HSB.out.terms q hq).bulk; omega⟩) s _ _ HM11.out.low.size (HBL.out.carry HM11.out.low (Nat.le_refl _)) (HS.out.carry HM11.out.low HM11.out.low.size) hbs HSO.out.1.bare).mono ?_
    rintro e w12 ⟨rfl, hb⟩
    have HM12 := Lib.hid (HM11.out.carry hb)
    clear hb c0 c1 c2 c3 c4 a0 a1 a2 b0 b1' b2
    by_cases hfa : (apB bl s).size ≤ 4000 ∧ (apB bl s).depth ≤ 200
    rotate_left
    · rw [decide_eq_false hfa]
      clear hfa
      go_wp2_with fail; go_meet; exact ⟨false, rfl, Lib.hid nofun, HM12⟩
    rw [decide_eq_true hfa]
    have HFAA := Lib.hid hfa
    clear hfa
    obtain ⟨c0, c1, c2, c3, c4⟩ := HM12.out.cc
    obtain ⟨a0, a1, a2, b0, b1', b2⟩ := HM12.out.aa
    go_wp2_with fail
    refine (rfits_any bl (.slice ob bl.length cb) w.heap.size (by omega) (fun q hq => ⟨(HSB.out.terms q hq).2.1, by have := (HSB.out.terms q hq).bulk; omega⟩) t _ _ HM12.out.low.size (HBL.out.carry HM12.out.low (Nat.le_refl _)) (HT.out.carry HM12.out.low HM12.out.low.size) hbt HTO.out.1.bare).mono ?_
    rintro e w13 ⟨rfl, hb⟩
    have HM13 := Lib.hid (HM12.out.carry hb)
    clear hb c0 c1 c2 c3 c4 a0 a1 a2 b0 b1' b2
    by_cases hfb : (apB bl t).size ≤ 4000 ∧ (apB bl t).depth ≤ 200
    · rw [decide_eq_true hfb]
      have HFBB := Lib.hid hfb
      clear hfb
      go_wp2_with fail; go_meet; exact ⟨true, rfl, Lib.hid fun _ => ⟨HSB.out, HFAA.out, HFBB.out⟩, HM13⟩
    · rw [decide_eq_false hfb]
      clear hfb
      go_wp2_with fail; go_meet; exact ⟨false, rfl, Lib.hid nofun, HM13⟩
  case rest =>
  obtain ⟨b70, rfl, HFT, HM7⟩ := hcut
  clear HM6
  go_upto_if 70 with fail
  go_cut [10] (fun s10 wx => s10 = .bool b1 ∧ Hid (CzSt w wx (.slice ol L.length cl) u s t (.slice os s.ts.length cs) (.slice ot t.ts.length ct) (.slice ob bl.length cb) c (.slice oc c.ts.length cc) (.slice op pos.length cp) ps pt))
  case first =>
    cases b70 with
    | false => go_wp2_with fail; go_meet; exact ⟨rfl, HM7⟩
    | true =>
      have HFT1 := Lib.hid (HFT.out rfl)
      have hbA : (apB bl s).bulk ≤ 200000 := by have := Tm.ok.bulk (t := apB bl s) ⟨apB_formed6 (fun q hq => (HFT1.out.1.terms q hq).1) HSO.out.1, HFT1.out.2.1.1, HFT1.out.2.1.2⟩; omega
      have hbB : (apB bl t).bulk ≤ 200000 := by have := Tm.ok.bulk (t := apB bl t) ⟨apB_formed6 (fun q hq => (HFT1.out.1.terms q hq).1) HTO.out.1, HFT1.out.2.2.1, HFT1.out.2.2.2⟩; omega
      clear HFT
      go_wp2_with fail
      have HFA : Hid (∀ u ∈ (apB bl s).ts, u.formed) := Lib.hid (((Tm.formed_iff _).1 (apB_formed6 (fun q hq => (HFT1.out.1.terms q hq).1) HSO.out.1)).2)
      have HFB : Hid (∀ u ∈ (apB bl t).ts, u.formed) := Lib.hid (((Tm.formed_iff _).1 (apB_formed6 (fun q hq => (HFT1.out.1.terms q hq).1) HTO.out.1)).2)
      have HMa := HM7
      refine wp_region_invE (CpZnv ps pt w.heap.size wc s t c bl (.slice os s.ts.length cs) (.slice ot t.ts.length ct) (.slice ob bl.length cb) (.slice oc c.ts.length cc) (.slice op pos.length cp) pos) (by kernel_rfl) (by kernel_rfl) ?h0 ?hend ?hstep
      case h0 => exact ⟨_, _, _, _, _, _, _, _, _, _, rfl, (Below.refl _ wc).drew, nofun, nofun, nofun, nofun, nofun, nofun, nofun, nofun, nofun, nofun, nofun, nofun, nofun⟩
      case hstep =>
        rintro z i o ho f a W ⟨v11, v12, v71, v72, v73, v74, v75, v76, v77, v78, rfl, h⟩ hfi hd K' hK
        have HI := Lib.hid h
        have HMw := Lib.hid (HMa.out.carry h.low)
        match i, ho with
        | 0, ho =>
          cases ho
          clear h
          go_simp
          exact hK.out _ _ ⟨v11, v12, _, v72, v73, v74, v75, v76, v77, v78, rfl, HI.out.low, fun _ => rfl, HI.out.f1, HI.out.f2, HI.out.f3, HI.out.f4, HI.out.f5, HI.out.f6, HI.out.f7, HI.out.f8, HI.out.f9, HI.out.ne, HI.out.oA, HI.out.oB⟩
        | 1, ho =>
          cases ho
          have e := h.f0 (hd ⟨0, .data⟩ (by simp) rfl)
          subst e
          obtain ⟨c0, c1, c2, c3, c4⟩ := HMw.out.cc
          clear h
          go_simp
          exact hK.out _ _ ⟨v11, v12, _, _, v73, v74, v75, v76, v77, v78, rfl, HI.out.low, HI.out.f0, fun _ => rfl, HI.out.f2, HI.out.f3, HI.out.f4, HI.out.f5, HI.out.f6, HI.out.f7, HI.out.f8, HI.out.f9, HI.out.ne, HI.out.oA, HI.out.oB⟩
        | 2, ho =>
          cases ho
          obtain ⟨c0, c1, c2, c3, c4, c5⟩ := HMw.out.aa
          clear h
          go_simp
          exact hK.out _ _ ⟨v11, v12, v71, v72, _, v74, v75, v76, v77, v78, rfl, HI.out.low, HI.out.f0, HI.out.f1, fun _ => rfl, HI.out.f3, HI.out.f4, HI.out.f5, HI.out.f6, HI.out.f7, HI.out.f8, HI.out.f9, HI.out.ne, HI.out.oA, HI.out.oB⟩
        | 3, ho =>
          cases ho
          have e := h.f1 (hd ⟨1, .data⟩ (by simp) rfl)
          subst e
          have e := h.f2 (hd ⟨2, .data⟩ (by simp) rfl)
          subst e
          have HLw := Lib.hid HMw.out.low
          clear h hd
          go_simp
          refine (rapply_any bl (.slice ob bl.length cb) w.heap.size (by omega) s _ _ HLw.out.size (HBL.out.carry HLw.out (Nat.le_refl _)) (HS.out.carry HLw.out HLw.out.size) hbs).mono ?_
          rintro e W9 ⟨⟨sr, rfl, hr⟩, hb⟩
          have hr := hr.lt.toIs fun b hb => hb.2
          obtain ⟨o5, c5, rfl, -⟩ := hr.form
          have H1 := HI.out.keep hb
          exact hK.out _ _ ⟨v11, v12, v71, _, _, _, v75, v76, v77, v78, rfl, H1.low, H1.f0, H1.f1, H1.f2, fun _ => ⟨_, _, _, rfl, hr⟩, H1.f4, H1.f5, H1.f6, H1.f7, H1.f8, H1.f9, H1.ne, H1.oA, H1.oB⟩
        | 4, ho =>
          cases ho
          clear h
          go_simp
          exact hK.out _ _ ⟨v11, v12, v71, v72, v73, v74, _, v76, v77, v78, rfl, HI.out.low, HI.out.f0, HI.out.f1, HI.out.f2, HI.out.f3, fun _ => rfl, HI.out.f5, HI.out.f6, HI.out.f7, HI.out.f8, HI.out.f9, HI.out.ne, HI.out.oA, HI.out.oB⟩
        | 5, ho =>
          cases ho
          have e := h.f4 (hd ⟨4, .data⟩ (by simp) rfl)
          subst e
          obtain ⟨c0, c1, c2, c3, c4⟩ := HMw.out.cc
          clear h
          go_simp
          exact hK.out _ _ ⟨v11, v12, v71, v72, v73, v74, _, _, v77, v78, rfl, HI.out.low, HI.out.f0, HI.out.f1, HI.out.f2, HI.out.f3, HI.out.f4, fun _ => rfl, HI.out.f6, HI.out.f7, HI.out.f8, HI.out.f9, HI.out.ne, HI.out.oA, HI.out.oB⟩
        | 6, ho =>
          cases ho
          obtain ⟨c0, c1, c2, c3, c4, c5⟩ := HMw.out.aa
          clear h
          go_simp
          exact hK.out _ _ ⟨v11, v12, v71, v72, v73, v74, v75, v76, _, v78, rfl, HI.out.low, HI.out.f0, HI.out.f1, HI.out.f2, HI.out.f3, HI.out.f4, HI.out.f5, fun _ => rfl, HI.out.f7, HI.out.f8, HI.out.f9, HI.out.ne, HI.out.oA, HI.out.oB⟩
        | 7, ho =>
          cases ho
          have e := h.f5 (hd ⟨5, .data⟩ (by simp) rfl)
          subst e
          have e := h.f6 (hd ⟨6, .data⟩ (by simp) rfl)
          subst e
          have HLw := Lib.hid HMw.out.low
          clear h hd
          go_simp
          refine (rapply_any bl (.slice ob bl.length cb) w.heap.size (by omega) t _ _ HLw.out.size (HBL.out.carry HLw.out (Nat.le_refl _)) (HT.out.carry HLw.out HLw.out.size) hbt).mono ?_
          rintro e W9 ⟨⟨sr, rfl, hr⟩, hb⟩
          have hr := hr.lt.toIs fun b hb => hb.2
          obtain ⟨o5, c5, rfl, -⟩ := hr.form
          have H1 := HI.out.keep hb
          exact hK.out _ _ ⟨v11, v12, v71, v72, v73, v74, v75, _, _, _, rfl, H1.low, H1.f0, H1.f1, H1.f2, H1.f3, H1.f4, H1.f5, H1.f6, fun _ => ⟨_, _, _, rfl, hr⟩, H1.f8, H1.f9, H1.ne, H1.oA, H1.oB⟩
        | 8, ho =>
          cases ho
          clear h
          go_simp
          have hb := (Below.refl W.heap.size W).alloc (Nat.le_refl _) zeroBx
          have H1 := HI.out.keep hb
          exact hK.out _ (W.alloc zeroBx) ⟨(ptr W.heap.size), v12, v71, v72, v73, v74, v75, v76, v77, v78, rfl, H1.low, H1.f0, H1.f1, H1.f2, H1.f3, H1.f4, H1.f5, H1.f6, H1.f7, fun _ => ⟨_, rfl, HI.out.low.size, by simp, fun _ => heap_new_at _ _ _ rfl, (fun k => by have := (HI.out.oA k).1; rw [hfi] at this; cases this)⟩, H1.f9, fun _ k e => by obtain ⟨p, h1, h2, h3, -⟩ := HI.out.f9 k; have := ptr_inj (e.trans h1); omega, (fun k => by have := (HI.out.oA k).1; rw [hfi] at this; cases this), H1.oB⟩
        | 9, ho =>
          cases ho
          clear h
          go_simp
          have hb := (Below.refl W.heap.size W).alloc (Nat.le_refl _) zeroBx
          have H1 := HI.out.keep hb
          exact hK.out _ (W.alloc zeroBx) ⟨v11, (ptr W.heap.size), v71, v72, v73, v74, v75, v76, v77, v78, rfl, H1.low, H1.f0, H1.f1, H1.f2, H1.f3, H1.f4, H1.f5, H1.f6, H1.f7, H1.f8, fun _ => ⟨_, rfl, HI.out.low.size, by simp, fun _ => heap_new_at _ _ _ rfl, (fun k => by have := (HI.out.oB k).1; rw [hfi] at this; cases this)⟩, fun k _ e => by obtain ⟨p, h1, h2, h3, -⟩ := HI.out.f8 k; have := ptr_inj (h1.symm.trans e); omega, (fun k => by have := (HI.out.oA k).2; rw [hfi] at this; cases this), (fun k => by have := (HI.out.oB k).1; rw [hfi] at this; cases this)⟩
        | 10, ho =>
          cases ho
          have dm := hd ⟨8, .data⟩ (by simp) rfl
          have dt := hd ⟨3, .data⟩ (by simp) rfl
          have dz := hd ⟨9, .phase⟩ (by simp) rfl
          obtain ⟨p, e7, h2, h3, h4, -⟩ := h.f8 dm
          obtain ⟨oq, nq, cq, e, hq⟩ := h.f3 dt
          subst e7
          subst e
          have hz := h4 hfi
          have HZ := Lib.hid hz
          have HQ := Lib.hid hq
          have HNE := Lib.hid (h.ne dm dz)
          obtain ⟨⟨c0, c1, c2⟩, g0, g1, g2⟩ := box3 hz
          clear h hd h4 hz hq
          unfold ptr
          go_simp
          exact hK.out _ _ ⟨(ptr p), v12, v71, v72, v73, _, v75, v76, v77, v78, rfl, below_set3 HI.out.low (b := p) h2 (.string (apB bl s).nm) (.bool (apB bl s).vr) (.slice oq nq cq), HI.out.f0, HI.out.f1, HI.out.f2, fun k => (HI.out.f3 k).setz HZ.out HFA.out (.string (apB bl s).nm) (.bool (apB bl s).vr) (.slice oq nq cq), HI.out.f4, HI.out.f5, HI.out.f6, fun k => (HI.out.f7 k).setz HZ.out HFB.out (.string (apB bl s).nm) (.bool (apB bl s).vr) (.slice oq nq cq), fun _ => ⟨p, rfl, h2, by simp [World.setCell]; omega, nofun, fun _ => ⟨_, box3_set HZ.out (.string (apB bl s).nm) (.bool (apB bl s).vr) (.slice oq nq cq), by have := HQ.out.setz HZ.out HFA.out (.string (apB bl s).nm) (.bool (apB bl s).vr) (.slice oq nq cq); simpa [World.setCell] using this⟩⟩, fun k => by obtain ⟨q, h1, h2, h3, h4, h5⟩ := HI.out.f9 k; have hpq : q ≠ p := fun e => HNE.out (by rw [h1, e]); exact ⟨q, h1, h2, by simp [World.setCell]; omega, fun e => (heap_set3 W p q (.string (apB bl s).nm) (.bool (apB bl s).vr) (.slice oq nq cq) hpq).trans (h4 e), fun e => (h5 e).imp fun _ h6 => ⟨(heap_set3 W p q (.string (apB bl s).nm) (.bool (apB bl s).vr) (.slice oq nq cq) hpq).trans h6.box, by have := h6.is.setz HZ.out HFB.out (.string (apB bl s).nm) (.bool (apB bl s).vr) (.slice oq nq cq); simpa [World.setCell] using this⟩⟩, HI.out.ne, fun _ => ⟨dm, dz⟩, fun k => ⟨(HI.out.oB k).1, rfl⟩⟩
        | 11, ho =>
          cases ho
          have dm := hd ⟨9, .data⟩ (by simp) rfl
          have dt := hd ⟨7, .data⟩ (by simp) rfl
          have dz := hd ⟨8, .phase⟩ (by simp) rfl
          have d14 := hd ⟨10, .chain⟩ (by simp) rfl
          obtain ⟨p, e7, h2, h3, h4, -⟩ := h.f9 dm
          obtain ⟨oq, nq, cq, e, hq⟩ := h.f7 dt
          subst e7
          subst e
          have hz := h4 hfi
          have HZ := Lib.hid hz
          have HQ := Lib.hid hq
          have HNE := Lib.hid (h.ne dz dm)
          obtain ⟨⟨c0, c1, c2⟩, g0, g1, g2⟩ := box3 hz
          clear h hd h4 hz hq
          unfold ptr
          go_simp
          exact hK.out _ _ ⟨v11, (ptr p), v71, v72, v73, v74, v75, v76, v77, _, rfl, below_set3 HI.out.low (b := p) h2 (.string (apB bl t).nm) (.bool (apB bl t).vr) (.slice oq nq cq), HI.out.f0, HI.out.f1, HI.out.f2, fun k => (HI.out.f3 k).setz HZ.out HFA.out (.string (apB bl t).nm) (.bool (apB bl t).vr) (.slice oq nq cq), HI.out.f4, HI.out.f5, HI.out.f6, fun k => (HI.out.f7 k).setz HZ.out HFB.out (.string (apB bl t).nm) (.bool (apB bl t).vr) (.slice oq nq cq), fun k => by obtain ⟨q, h1, h2, h3, h4, h5⟩ := HI.out.f8 k; have hpq : q ≠ p := fun e => HNE.out (by rw [h1, e]); exact ⟨q, h1, h2, by simp [World.setCell]; omega, fun e => (heap_set3 W p q (.string (apB bl t).nm) (.bool (apB bl t).vr) (.slice oq nq cq) hpq).trans (h4 e), fun e => (h5 e).imp fun _ h6 => ⟨(heap_set3 W p q (.string (apB bl t).nm) (.bool (apB bl t).vr) (.slice oq nq cq) hpq).trans h6.box, by have := h6.is.setz HZ.out HFA.out (.string (apB bl t).nm) (.bool (apB bl t).vr) (.slice oq nq cq); simpa [World.setCell] using this⟩⟩, fun _ => ⟨p, rfl, h2, by simp [World.setCell]; omega, nofun, fun _ => ⟨_, box3_set HZ.out (.string (apB bl t).nm) (.bool (apB bl t).vr) (.slice oq nq cq), by have := HQ.out.setz HZ.out HFB.out (.string (apB bl t).nm) (.bool (apB bl t).vr) (.slice oq nq cq); simpa [World.setCell] using this⟩⟩, HI.out.ne, HI.out.oA, fun _ => ⟨dm, d14⟩⟩
        | i + 12, ho => simp at ho
      case hend =>
      rintro z f a W9 HZ ⟨v11, v12, v71, v72, v73, v74, v75, v76, v77, v78, rfl, h⟩ hall
      obtain ⟨p, rfl, -, -, -, h5⟩ := h.f8 (hall 8 (by simp))
      obtain ⟨q, rfl, -, -, -, h6⟩ := h.f9 (hall 9 (by simp))
      obtain ⟨s4, h5⟩ := h5 (hall 10 (by simp))
      obtain ⟨s5, h6⟩ := h6 (hall 11 (by simp))
      obtain ⟨o4, c4, rfl, -⟩ := h5.is.form
      obtain ⟨o5, c5, rfl, -⟩ := h6.is.form
      have HBA := Lib.hid h5
      have HBB := Lib.hid h6
      have HMb := Lib.hid (HMa.out.carry h.low)
      clear h h5 h6 hall HMa HM7
      obtain ⟨⟨x0, x1, x2⟩, -⟩ := box3 HBA.out.box
      obtain ⟨⟨y0, y1, y2⟩, -⟩ := box3 HBB.out.box
      obtain ⟨z0, z1⟩ := HMb.out.oo
      unfold ptr
      go_wp2_with fail
      have hA := (Below.refl W9.heap.size W9).alloc (Nat.le_refl _) (.cells #[.string (apB bl s).nm, .bool (apB bl s).vr, .slice o4 (apB bl s).ts.length c4, .string (apB bl t).nm, .bool (apB bl t).vr, .slice o5 (apB bl t).ts.length c5] 26)
      have HBA2 := Lib.hid (HBA.out.carry hA)
      have HBB2 := Lib.hid (HBB.out.carry hA)
      have HMc := Lib.hid (HMb.out.carry hA)
      obtain ⟨bq, hv, hrow⟩ := RowW.two HBA.out.is HBB.out.is
      clear hA x0 x1 x2 y0 y1 y2 z0 z1 HBA HBB HMb
      refine (fits7_any L u [(apB bl s), (apB bl t)] _ _ _ (HL.out.carry HMc.out.low HMc.out.low.size) HLB.out (hv ▸ hrow) (by simp only [Tm.bulks]; omega)).mono ?_
      rintro e W10 ⟨rfl, hb⟩
      have HBA3 := Lib.hid (HBA2.out.carry hb)
      have HBB3 := Lib.hid (HBB2.out.carry hb)
      have HMd := Lib.hid (HMc.out.carry hb)
      clear hb HBA2 HBB2 HMc hv hrow
      obtain ⟨⟨x0, x1, x2⟩, -⟩ := box3 HBA3.out.box
      obtain ⟨⟨y0, y1, y2⟩, -⟩ := box3 HBB3.out.box
      obtain ⟨z0, z1⟩ := HMd.out.oo
      cases hf : ftB L u [apB bl s, apB bl t] with
      | false =>
        clear hf
        go_wp2_with fail
        have hz := HZ.out
        clear HZ
        subst hz
        go_meet
        first | exact ⟨rfl, HMd⟩ | exact ⟨rfl, rfl, HMd⟩ | exact ⟨⟨rfl, HMd⟩, rfl⟩ | exact ⟨_, ⟨rfl, HMd⟩, rfl⟩
      | true =>
        have HWG := Lib.hid (wg_subst HG.out hf)
        clear hf
        go_wp2_with fail
        refine (l7greater_any L u _ (apB bl s) (apB bl t) _ _ _ (HL.out.carry HMd.out.low HMd.out.low.size) HLB.out HBA3.out.is HBB3.out.is (by omega) (by omega)).mono ?_
        rintro e W11 ⟨rfl, hb⟩
        rw [HWG.out]
        have HMe := Lib.hid (HMd.out.carry hb)
        clear hb x0 x1 x2 y0 y1 y2 z0 z1
        go_wp2_with fail
        have hz := HZ.out
        clear HZ
        subst hz
        go_meet
        first | exact ⟨rfl, HMe⟩ | exact ⟨rfl, rfl, HMe⟩ | exact ⟨⟨rfl, HMe⟩, rfl⟩ | exact ⟨_, ⟨rfl, HMe⟩, rfl⟩
  case rest =>
  obtain ⟨rfl, HM9⟩ := hcut
  clear HM7 HFT
  cases b1 with
  | false =>
    go_wp2_with fail
    refine (HAL.out _ HM9.out.low).mono ?_
    rintro e W8 ⟨rfl, hb⟩
    go_wp2_with fail
    go_ret
    exact ⟨rfl, hb⟩
  | true =>
  have HAT := Lib.hid (HT1.out rfl)
  clear HT1
  obtain ⟨d0, d1, d2, d3, d4⟩ := HM9.out.cc
  go_wp2_with fail
  refine (rcheck_iff c _ _ (HC.out.carry HM9.out.low HM9.out.low.size) hbc).mono ?_
  rintro e W8 ⟨⟨k, rfl, hk⟩, hb⟩
  have HMx := Lib.hid (HM9.out.carry hb)
  clear hb HM9 d0 d1 d2 d3 d4
  by_cases hco : c.ok
  rotate_left
  · have hk1 : (k != 0) = true := by rw [bne_iff_ne]; exact fun e => hco (hk.1 e)
    clear hk hco
    go_wp2_with fail
    refine (HAL.out _ HMx.out.low).mono ?_
    rintro e W9 ⟨rfl, hb⟩
    go_wp2_with fail
    go_ret
    exact ⟨rfl, hb⟩
  obtain rfl := hk.2 hco
  have HCO := Lib.hid hco
  clear hk hco
  have HIS : Hid (c.at pos).isSome := Lib.hid (by rw [HAT.out]; rfl)
  have hbA : (c.put pos s).bulk ≤ 300000 := by have h1 := Tm.put_bulk6 c pos s; have h2 := HCO.out.bulk; have h3 := HSO.out.bulk; omega
  have hbB : (c.put pos t).bulk ≤ 300000 := by have h1 := Tm.put_bulk6 c pos t; have h2 := HCO.out.bulk; have h3 := HTO.out.bulk; omega
  go_wp2_with fail
  have HFA : Hid (∀ u ∈ (c.put pos s).ts, u.formed) := Lib.hid (((Tm.formed_iff _).1 (Tm.put_formed6 HCO.out.1 HSO.out.1 pos)).2)
  have HFB : Hid (∀ u ∈ (c.put pos t).ts, u.formed) := Lib.hid (((Tm.formed_iff _).1 (Tm.put_formed6 HCO.out.1 HTO.out.1 pos)).2)
  have HMa := HMx
  refine wp_region_invE (CdZnv ps pt w.heap.size W8 s t c bl (.slice os s.ts.length cs) (.slice ot t.ts.length ct) (.slice ob bl.length cb) (.slice oc c.ts.length cc) (.slice op pos.length cp) pos) (by kernel_rfl) (by kernel_rfl) ?h0 ?hend ?hstep
  case h0 => exact ⟨_, _, _, _, _, _, _, _, _, _, _, _, _, _, rfl, (Below.refl _ W8).drew, nofun, nofun, nofun, nofun, nofun, nofun, nofun, nofun, nofun, nofun, nofun, nofun, nofun, nofun, nofun, nofun, nofun⟩
  case hstep =>
    rintro z i o ho f a W ⟨v13, v14, v100, v101, v102, v103, v104, v105, v106, v107, v108, v109, v110, v111, rfl, h⟩ hfi hd K' hK
    have HI := Lib.hid h
    have HMw := Lib.hid (HMa.out.carry h.low)
    match i, ho with
    | 0, ho =>
      cases ho
      clear h
      go_simp
      exact hK.out _ _ ⟨v13, v14, _, v101, v102, v103, v104, v105, v106, v107, v108, v109, v110, v111, rfl, HI.out.low, fun _ => rfl, HI.out.f1, HI.out.f2, HI.out.f3, HI.out.f4, HI.out.f5, HI.out.f6, HI.out.f7, HI.out.f8, HI.out.f9, HI.out.f10, HI.out.f11, HI.out.f12, HI.out.f13, HI.out.ne, HI.out.oA, HI.out.oB⟩
    | 1, ho =>
      cases ho
      have e := h.f0 (hd ⟨0, .data⟩ (by simp) rfl)
      subst e
      obtain ⟨c0, c1, c2, c3, c4⟩ := HMw.out.cc
      clear h
      go_simp
      exact hK.out _ _ ⟨v13, v14, _, _, v102, v103, v104, v105, v106, v107, v108, v109, v110, v111, rfl, HI.out.low, HI.out.f0, fun _ => rfl, HI.out.f2, HI.out.f3, HI.out.f4, HI.out.f5, HI.out.f6, HI.out.f7, HI.out.f8, HI.out.f9, HI.out.f10, HI.out.f11, HI.out.f12, HI.out.f13, HI.out.ne, HI.out.oA, HI.out.oB⟩
    | 2, ho =>
      cases ho
      clear h
      go_simp
      exact hK.out _ _ ⟨v13, v14, v100, v101, _, v103, v104, v105, v106, v107, v108, v109, v110, v111, rfl, HI.out.low, HI.out.f0, HI.out.f1, fun _ => rfl, HI.out.f3, HI.out.f4, HI.out.f5, HI.out.f6, HI.out.f7, HI.out.f8, HI.out.f9, HI.out.f10, HI.out.f11, HI.out.f12, HI.out.f13, HI.out.ne, HI.out.oA, HI.out.oB⟩
    | 3, ho =>
      cases ho
      have e := h.f2 (hd ⟨2, .data⟩ (by simp) rfl)
      subst e
      obtain ⟨c0, c1, c2, c3, c4⟩ := HMw.out.cc
      clear h
      go_simp
      exact hK.out _ _ ⟨v13, v14, v100, v101, _, _, v104, v105, v106, v107, v108, v109, v110, v111, rfl, HI.out.low, HI.out.f0, HI.out.f1, HI.out.f2, fun _ => rfl, HI.out.f4, HI.out.f5, HI.out.f6, HI.out.f7, HI.out.f8, HI.out.f9, HI.out.f10, HI.out.f11, HI.out.f12, HI.out.f13, HI.out.ne, HI.out.oA, HI.out.oB⟩
    | 4, ho =>
      cases ho
      obtain ⟨c0, c1, c2, c3, c4, c5⟩ := HMw.out.aa
      clear h
      go_simp
      exact hK.out _ _ ⟨v13, v14, v100, v101, v102, v103, _, v105, v106, v107, v108, v109, v110, v111, rfl, HI.out.low, HI.out.f0, HI.out.f1, HI.out.f2, HI.out.f3, fun _ => rfl, HI.out.f5, HI.out.f6, HI.out.f7, HI.out.f8, HI.out.f9, HI.out.f10, HI.out.f11, HI.out.f12, HI.out.f13, HI.out.ne, HI.out.oA, HI.out.oB⟩
    | 5, ho =>
      cases ho
      have e := h.f1 (hd ⟨1, .data⟩ (by simp) rfl)
      subst e
      have e := h.f3 (hd ⟨3, .data⟩ (by simp) rfl)
      subst e
      have e := h.f4 (hd ⟨4, .data⟩ (by simp) rfl)
      subst e
      have HLw := Lib.hid HMw.out.low
      clear h hd
      go_simp
      refine (rPut_any w.heap.size pos (fun b => b < W.heap.size) c (.slice oc c.ts.length cc) (.slice op pos.length cp) s (.slice os s.ts.length cs) W HLw.out.size (fun _ hb => hb) (HC.out.carry HLw.out HLw.out.size).toP HCO.out.1.bare (HP.out.carry HLw.out (Nat.le_refl _)) HPC.out (HS.out.carry HLw.out HLw.out.size).toP HIS.out hpl hbc).mono ?_
      rintro e W9 ⟨⟨sr, rfl, hr⟩, hb⟩
      have hr := hr.toIs fun _ hb => hb.2
      obtain ⟨o5, c5, rfl, -⟩ := hr.form
      have H1 := HI.out.keep hb
      exact hK.out _ _ ⟨v13, v14, v100, _, v102, _, _, _, v106, v107, v108, v109, v110, v111, rfl, H1.low, H1.f0, H1.f1, H1.f2, H1.f3, H1.f4, fun _ => ⟨_, _, _, rfl, hr⟩, H1.f6, H1.f7, H1.f8, H1.f9, H1.f10, H1.f11, H1.f12, H1.f13, H1.ne, H1.oA, H1.oB⟩
    | 6, ho =>
      cases ho
      clear h
      go_simp
      exact hK.out _ _ ⟨v13, v14, v100, v101, v102, v103, v104, v105, _, v107, v108, v109, v110, v111, rfl, HI.out.low, HI.out.f0, HI.out.f1, HI.out.f2, HI.out.f3, HI.out.f4, HI.out.f5, fun _ => rfl, HI.out.f7, HI.out.f8, HI.out.f9, HI.out.f10, HI.out.f11, HI.out.f12, HI.out.f13, HI.out.ne, HI.out.oA, HI.out.oB⟩
    | 7, ho =>
      cases ho
      have e := h.f6 (hd ⟨6, .data⟩ (by simp) rfl)
      subst e
      obtain ⟨c0, c1, c2, c3, c4⟩ := HMw.out.cc
      clear h
      go_simp
      exact hK.out _ _ ⟨v13, v14, v100, v101, v102, v103, v104, v105, _, _, v108, v109, v110, v111, rfl, HI.out.low, HI.out.f0, HI.out.f1, HI.out.f2, HI.out.f3, HI.out.f4, HI.out.f5, HI.out.f6, fun _ => rfl, HI.out.f8, HI.out.f9, HI.out.f10, HI.out.f11, HI.out.f12, HI.out.f13, HI.out.ne, HI.out.oA, HI.out.oB⟩
    | 8, ho =>
      cases ho
      clear h
      go_simp
      exact hK.out _ _ ⟨v13, v14, v100, v101, v102, v103, v104, v105, v106, v107, _, v109, v110, v111, rfl, HI.out.low, HI.out.f0, HI.out.f1, HI.out.f2, HI.out.f3, HI.out.f4, HI.out.f5, HI.out.f6, HI.out.f7, fun _ => rfl, HI.out.f9, HI.out.f10, HI.out.f11, HI.out.f12, HI.out.f13, HI.out.ne, HI.out.oA, HI.out.oB⟩
    | 9, ho =>
      cases ho
      have e := h.f8 (hd ⟨8, .data⟩ (by simp) rfl)
      subst e
      obtain ⟨c0, c1, c2, c3, c4⟩ := HMw.out.cc
      clear h
      go_simp
      exact hK.out _ _ ⟨v13, v14, v100, v101, v102, v103, v104, v105, v106, v107, _, _, v110, v111, rfl, HI.out.low, HI.out.f0, HI.out.f1, HI.out.f2, HI.out.f3, HI.out.f4, HI.out.f5, HI.out.f6, HI.out.f7, HI.out.f8, fun _ => rfl, HI.out.f10, HI.out.f11, HI.out.f12, HI.out.f13, HI.out.ne, HI.out.oA, HI.out.oB⟩
    | 10, ho =>
      cases ho
      obtain ⟨c0, c1, c2, c3, c4, c5⟩ := HMw.out.aa
      clear h
      go_simp
      exact hK.out _ _ ⟨v13, v14, v100, v101, v102, v103, v104, v105, v106, v107, v108, v109, _, v111, rfl, HI.out.low, HI.out.f0, HI.out.f1, HI.out.f2, HI.out.f3, HI.out.f4, HI.out.f5, HI.out.f6, HI.out.f7, HI.out.f8, HI.out.f9, fun _ => rfl, HI.out.f11, HI.out.f12, HI.out.f13, HI.out.ne, HI.out.oA, HI.out.oB⟩
    | 11, ho =>
      cases ho
      have e := h.f7 (hd ⟨7, .data⟩ (by simp) rfl)
      subst e
      have e := h.f9 (hd ⟨9, .data⟩ (by simp) rfl)
      subst e
      have e := h.f10 (hd ⟨10, .data⟩ (by simp) rfl)
      subst e
      have HLw := Lib.hid HMw.out.low
      clear h hd
      go_simp
      refine (rPut_any w.heap.size pos (fun b => b < W.heap.size) c (.slice oc c.ts.length cc) (.slice op pos.length cp) t (.slice ot t.ts.length ct) W HLw.out.size (fun _ hb => hb) (HC.out.carry HLw.out HLw.out.size).toP HCO.out.1.bare (HP.out.carry HLw.out (Nat.le_refl _)) HPC.out (HT.out.carry HLw.out HLw.out.size).toP HIS.out hpl hbc).mono ?_
      rintro e W9 ⟨⟨sr, rfl, hr⟩, hb⟩
      have hr := hr.toIs fun _ hb => hb.2
      obtain ⟨o5, c5, rfl, -⟩ := hr.form
      have H1 := HI.out.keep hb
      exact hK.out _ _ ⟨v13, v14, v100, v101, v102, v103, v104, v105, v106, _, v108, _, _, _, rfl, H1.low, H1.f0, H1.f1, H1.f2, H1.f3, H1.f4, H1.f5, H1.f6, H1.f7, H1.f8, H1.f9, H1.f10, fun _ => ⟨_, _, _, rfl, hr⟩, H1.f12, H1.f13, H1.ne, H1.oA, H1.oB⟩
    | 12, ho =>
      cases ho
      clear h
      go_simp
      have hb := (Below.refl W.heap.size W).alloc (Nat.le_refl _) zeroBx
      have H1 := HI.out.keep hb
      exact hK.out _ (W.alloc zeroBx) ⟨(ptr W.heap.size), v14, v100, v101, v102, v103, v104, v105, v106, v107, v108, v109, v110, v111, rfl, H1.low, H1.f0, H1.f1, H1.f2, H1.f3, H1.f4, H1.f5, H1.f6, H1.f7, H1.f8, H1.f9, H1.f10, H1.f11, fun _ => ⟨_, rfl, HI.out.low.size, by simp, fun _ => heap_new_at _ _ _ rfl, (fun k => by have := (HI.out.oA k).1; rw [hfi] at this; cases this)⟩, H1.f13, fun _ k e => by obtain ⟨p, h1, h2, h3, -⟩ := HI.out.f13 k; have := ptr_inj (e.trans h1); omega, (fun k => by have := (HI.out.oA k).1; rw [hfi] at this; cases this), H1.oB⟩
    | 13, ho =>
      cases ho
      clear h
      go_simp
      have hb := (Below.refl W.heap.size W).alloc (Nat.le_refl _) zeroBx
      have H1 := HI.out.keep hb
      exact hK.out _ (W.alloc zeroBx) ⟨v13, (ptr W.heap.size), v100, v101, v102, v103, v104, v105, v106, v107, v108, v109, v110, v111, rfl, H1.low, H1.f0, H1.f1, H1.f2, H1.f3, H1.f4, H1.f5, H1.f6, H1.f7, H1.f8, H1.f9, H1.f10, H1.f11, H1.f12, fun _ => ⟨_, rfl, HI.out.low.size, by simp, fun _ => heap_new_at _ _ _ rfl, (fun k => by have := (HI.out.oB k).1; rw [hfi] at this; cases this)⟩, fun k _ e => by obtain ⟨p, h1, h2, h3, -⟩ := HI.out.f12 k; have := ptr_inj (h1.symm.trans e); omega, (fun k => by have := (HI.out.oA k).2; rw [hfi] at this; cases this), (fun k => by have := (HI.out.oB k).1; rw [hfi] at this; cases this)⟩
    | 14, ho =>
      cases ho
      have dm := hd ⟨12, .data⟩ (by simp) rfl
      have dt := hd ⟨5, .data⟩ (by simp) rfl
      have dz := hd ⟨13, .phase⟩ (by simp) rfl
      obtain ⟨p, e7, h2, h3, h4, -⟩ := h.f12 dm
      obtain ⟨oq, nq, cq, e, hq⟩ := h.f5 dt
      subst e7
      subst e
      have hz := h4 hfi
      have HZ := Lib.hid hz
      have HQ := Lib.hid hq
      have HNE := Lib.hid (h.ne dm dz)
      obtain ⟨⟨c0, c1, c2⟩, g0, g1, g2⟩ := box3 hz
      clear h hd h4 hz hq
      unfold ptr
      go_simp
      exact hK.out _ _ ⟨(ptr p), v14, v100, v101, v102, v103, v104, _, v106, v107, v108, v109, v110, v111, rfl, below_set3 HI.out.low (b := p) h2 (.string (c.put pos s).nm) (.bool (c.put pos s).vr) (.slice oq nq cq), HI.out.f0, HI.out.f1, HI.out.f2, HI.out.f3, HI.out.f4, fun k => (HI.out.f5 k).setz HZ.out HFA.out (.string (c.put pos s).nm) (.bool (c.put pos s).vr) (.slice oq nq cq), HI.out.f6, HI.out.f7, HI.out.f8, HI.out.f9, HI.out.f10, fun k => (HI.out.f11 k).setz HZ.out HFB.out (.string (c.put pos s).nm) (.bool (c.put pos s).vr) (.slice oq nq cq), fun _ => ⟨p, rfl, h2, by simp [World.setCell]; omega, nofun, fun _ => ⟨_, box3_set HZ.out (.string (c.put pos s).nm) (.bool (c.put pos s).vr) (.slice oq nq cq), by have := HQ.out.setz HZ.out HFA.out (.string (c.put pos s).nm) (.bool (c.put pos s).vr) (.slice oq nq cq); simpa [World.setCell] using this⟩⟩, fun k => by obtain ⟨q, h1, h2, h3, h4, h5⟩ := HI.out.f13 k; have hpq : q ≠ p := fun e => HNE.out (by rw [h1, e]); exact ⟨q, h1, h2, by simp [World.setCell]; omega, fun e => (heap_set3 W p q (.string (c.put pos s).nm) (.bool (c.put pos s).vr) (.slice oq nq cq) hpq).trans (h4 e), fun e => (h5 e).imp fun _ h6 => ⟨(heap_set3 W p q (.string (c.put pos s).nm) (.bool (c.put pos s).vr) (.slice oq nq cq) hpq).trans h6.box, by have := h6.is.setz HZ.out HFB.out (.string (c.put pos s).nm) (.bool (c.put pos s).vr) (.slice oq nq cq); simpa [World.setCell] using this⟩⟩, HI.out.ne, fun _ => ⟨dm, dz⟩, fun k => ⟨(HI.out.oB k).1, rfl⟩⟩
    | 15, ho =>
      cases ho
      have dm := hd ⟨13, .data⟩ (by simp) rfl
      have dt := hd ⟨11, .data⟩ (by simp) rfl
      have dz := hd ⟨12, .phase⟩ (by simp) rfl
      have d14 := hd ⟨14, .chain⟩ (by simp) rfl
      obtain ⟨p, e7, h2, h3, h4, -⟩ := h.f13 dm
      obtain ⟨oq, nq, cq, e, hq⟩ := h.f11 dt
      subst e7
      subst e
      have hz := h4 hfi
      have HZ := Lib.hid hz
      have HQ := Lib.hid hq
      have HNE := Lib.hid (h.ne dz dm)
      obtain ⟨⟨c0, c1, c2⟩, g0, g1, g2⟩ := box3 hz
      clear h hd h4 hz hq
      unfold ptr
      go_simp
      exact hK.out _ _ ⟨v13, (ptr p), v100, v101, v102, v103, v104, v105, v106, v107, v108, v109, v110, _, rfl, below_set3 HI.out.low (b := p) h2 (.string (c.put pos t).nm) (.bool (c.put pos t).vr) (.slice oq nq cq), HI.out.f0, HI.out.f1, HI.out.f2, HI.out.f3, HI.out.f4, fun k => (HI.out.f5 k).setz HZ.out HFA.out (.string (c.put pos t).nm) (.bool (c.put pos t).vr) (.slice oq nq cq), HI.out.f6, HI.out.f7, HI.out.f8, HI.out.f9, HI.out.f10, fun k => (HI.out.f11 k).setz HZ.out HFB.out (.string (c.put pos t).nm) (.bool (c.put pos t).vr) (.slice oq nq cq), fun k => by obtain ⟨q, h1, h2, h3, h4, h5⟩ := HI.out.f12 k; have hpq : q ≠ p := fun e => HNE.out (by rw [h1, e]); exact ⟨q, h1, h2, by simp [World.setCell]; omega, fun e => (heap_set3 W p q (.string (c.put pos t).nm) (.bool (c.put pos t).vr) (.slice oq nq cq) hpq).trans (h4 e), fun e => (h5 e).imp fun _ h6 => ⟨(heap_set3 W p q (.string (c.put pos t).nm) (.bool (c.put pos t).vr) (.slice oq nq cq) hpq).trans h6.box, by have := h6.is.setz HZ.out HFA.out (.string (c.put pos t).nm) (.bool (c.put pos t).vr) (.slice oq nq cq); simpa [World.setCell] using this⟩⟩, fun _ => ⟨p, rfl, h2, by simp [World.setCell]; omega, nofun, fun _ => ⟨_, box3_set HZ.out (.string (c.put pos t).nm) (.bool (c.put pos t).vr) (.slice oq nq cq), by have := HQ.out.setz HZ.out HFB.out (.string (c.put pos t).nm) (.bool (c.put pos t).vr) (.slice oq nq cq); simpa [World.setCell] using this⟩⟩, HI.out.ne, HI.out.oA, fun _ => ⟨dm, d14⟩⟩
    | i + 16, ho => simp at ho
  case hend =>
  rintro z f a W9 HZ ⟨v13, v14, v100, v101, v102, v103, v104, v105, v106, v107, v108, v109, v110, v111, rfl, h⟩ hall
  obtain ⟨p, rfl, -, -, -, h5⟩ := h.f12 (hall 12 (by simp))
  obtain ⟨q, rfl, -, -, -, h6⟩ := h.f13 (hall 13 (by simp))
  obtain ⟨s4, h5⟩ := h5 (hall 14 (by simp))
  obtain ⟨s5, h6⟩ := h6 (hall 15 (by simp))
  obtain ⟨o4, c4, rfl, -⟩ := h5.is.form
  obtain ⟨o5, c5, rfl, -⟩ := h6.is.form
  have HBA := Lib.hid h5
  have HBB := Lib.hid h6
  have HMb := Lib.hid (HMa.out.carry h.low)
  clear h h5 h6 hall HMa HMx
  obtain ⟨⟨x0, x1, x2⟩, -⟩ := box3 HBA.out.box
  obtain ⟨⟨y0, y1, y2⟩, -⟩ := box3 HBB.out.box
  obtain ⟨z0, z1⟩ := HMb.out.oo
  unfold ptr
  go_wp2_with fail
  have hA := (Below.refl W9.heap.size W9).alloc (Nat.le_refl _) (.cells #[.string (c.put pos s).nm, .bool (c.put pos s).vr, .slice o4 (c.put pos s).ts.length c4, .string (c.put pos t).nm, .bool (c.put pos t).vr, .slice o5 (c.put pos t).ts.length c5] 26)
  have HBA2 := Lib.hid (HBA.out.carry hA)
  have HBB2 := Lib.hid (HBB.out.carry hA)
  have HMc := Lib.hid (HMb.out.carry hA)
  obtain ⟨bq, hv, hrow⟩ := RowW.two HBA.out.is HBB.out.is
  clear hA x0 x1 x2 y0 y1 y2 z0 z1 HBA HBB HMb
  refine (fits7_any L u [(c.put pos s), (c.put pos t)] _ _ _ (HL.out.carry HMc.out.low HMc.out.low.size) HLB.out (hv ▸ hrow) (by simp only [Tm.bulks]; omega)).mono ?_
  rintro e W10 ⟨rfl, hb⟩
  have HBA3 := Lib.hid (HBA2.out.carry hb)
  have HBB3 := Lib.hid (HBB2.out.carry hb)
  have HMd := Lib.hid (HMc.out.carry hb)
  clear hb HBA2 HBB2 HMc hv hrow
  obtain ⟨⟨x0, x1, x2⟩, -⟩ := box3 HBA3.out.box
  obtain ⟨⟨y0, y1, y2⟩, -⟩ := box3 HBB3.out.box
  obtain ⟨z0, z1⟩ := HMd.out.oo
  cases hf : ftB L u [c.put pos s, c.put pos t] with
  | false =>
    clear hf
    go_wp2_with fail
    refine (HAL.out _ HMd.out.low).mono ?_
    rintro e W12 ⟨rfl, hb⟩
    go_wp2_with fail
    go_ret
    exact ⟨rfl, hb⟩
  | true =>
    have HWG := Lib.hid (wg_put HG.out HCO.out.1 HAT.out hf)
    clear hf
    go_wp2_with fail
    refine (l7greater_any L u _ (c.put pos s) (c.put pos t) _ _ _ (HL.out.carry HMd.out.low HMd.out.low.size) HLB.out HBA3.out.is HBB3.out.is (by omega) (by omega)).mono ?_
    rintro e W11 ⟨rfl, hb⟩
    rw [HWG.out]
    have HMe := Lib.hid (HMd.out.carry hb)
    clear hb x0 x1 x2 y0 y1 y2 z0 z1
    go_wp2_with fail
    refine (HAL.out _ HMe.out.low).mono ?_
    rintro e W12 ⟨rfl, hb⟩
    go_wp2_with fail
    go_ret
    exact ⟨rfl, hb⟩
end Go.Proofs.Ytnhldpfbmccpfaa
