/- Merged: Isg, Grt. -/
import Derived.WalkKit
import Derived.ProofKit
import Derived.OpenShut
import Derived.Handy
import Derived.Lib.Hide
import Derived.Test.YtdnkommcnkbeeaaInv
import Derived.Test.YtdnkommcnkbeeaaCpr
import Derived.Test.YtdnkommcnkbeeaaNdr
/- Package path: isGreater, Greater. -/
namespace Go.Proofs.Ytdnkommcnkbeeaa
open Go.RowKit

def ptr (b : Nat) : Value := .pointer (some ⟨b, 0, none⟩)
theorem ptr_inj {a b : Nat} (h : ptr a = ptr b) : a = b := by unfold ptr at h; cases h; rfl
/-- the node of a term as a value -/
def NdV (rk : ByteArray → Int) (p : Nat → Prop) (W : World) (t : Tm) (v : Value) : Prop := ∃ oa n c nv, v = .agg #[.string t.nm, .bool t.vr, .slice oa n c, .int .i64 (ndRank rk t), nv] ∧ NdP rk p W t.ts nv
/-- the box of a node -/
def NdB (rk : ByteArray → Int) (p : Nat → Prop) (W : World) (b : Nat) (t : Tm) : Prop := ∃ oa n c nv, W.heap[b]? = some (.cells #[.string t.nm, .bool t.vr, .slice oa n c, .int .i64 (ndRank rk t), nv] 107 (0, 0)) ∧ NdP rk p W t.ts nv
def zeroNd : Obj := .cells #[.string ⟨#[]⟩, .bool false, .slice none 0 0, .int .i64 0, .slice none 0 0] 107 (0, 0)
/-- blocks that are not the variables' -/
def bOk (f : Nat → Bool) (W : World) (v7 v8 : Value) (b : Nat) : Prop := b < W.heap.size ∧ (f 6 = true → v7 ≠ ptr b) ∧ (f 7 = true → v8 ≠ ptr b)
/-- what lies between the region's operations -/
structure IgI (rk : ByteArray → Int) (w0 : World) (lv : Value) (s t : Tm) (sv tv : Value) (f : Nat → Bool) (w : World) (v7 v8 v9 v10 v11 v12 v13 v14 : Value) : Prop where
  low : Below w0.heap.size w0 w
  bs : w.heap[w0.heap.size]? = some (.cells #[.string s.nm, .bool s.vr, sv] 34 (0, 0))
  bt : w.heap[w0.heap.size + 1]? = some (.cells #[.string t.nm, .bool t.vr, tv] 34 (0, 0))
  f0 : f 0 = true → v9 = lv
  f1 : f 1 = true → v10 = .agg #[.string s.nm, .bool s.vr, sv]
  f2 : f 2 = true → NdV rk (bOk f w v7 v8) w s v11
  f3 : f 3 = true → v12 = lv
  f4 : f 4 = true → v13 = .agg #[.string t.nm, .bool t.vr, tv]
  f5 : f 5 = true → NdV rk (bOk f w v7 v8) w t v14
  f6 : f 6 = true → ∃ p, v7 = ptr p ∧ w0.heap.size + 2 ≤ p ∧ p < w.heap.size ∧ (f 8 = false → w.heap[p]? = some zeroNd) ∧ (f 8 = true → NdB rk (bOk f w v7 v8) w p s)
  f7 : f 7 = true → ∃ p, v8 = ptr p ∧ w0.heap.size + 2 ≤ p ∧ p < w.heap.size ∧ (f 9 = false → w.heap[p]? = some zeroNd) ∧ (f 9 = true → NdB rk (bOk f w v7 v8) w p t)
  ne : f 6 = true → f 7 = true → v7 ≠ v8
  o8 : f 8 = true → f 6 = true ∧ f 7 = true
  o9 : f 9 = true → f 7 = true ∧ f 8 = true
theorem NdV.keep {rk : ByteArray → Int} {f : Nat → Bool} {A W : World} {v7 v8 v : Value} {t : Tm} (h : NdV rk (bOk f A v7 v8) A t v) (hb : Below A.heap.size A W) : NdV rk (bOk f W v7 v8) W t v := by
  obtain ⟨oa, n, c, nv, rfl, h⟩ := h
  exact ⟨oa, n, c, nv, rfl, h.carry fun b hbb => ⟨hb.block b hbb.1, Nat.lt_of_lt_of_le hbb.1 hb.size, hbb.2⟩⟩
theorem NdB.keep {rk : ByteArray → Int} {f : Nat → Bool} {A W : World} {v7 v8 : Value} {b : Nat} {t : Tm} (h : NdB rk (bOk f A v7 v8) A b t) (hb : Below A.heap.size A W) : NdB rk (bOk f W v7 v8) W b t := by
  obtain ⟨oa, n, c, nv, h1, h⟩ := h
  exact ⟨oa, n, c, nv, (hb.block b (Array.getElem?_eq_some_iff.1 h1).1).trans h1, h.carry fun b hbb => ⟨hb.block b hbb.1, Nat.lt_of_lt_of_le hbb.1 hb.size, hbb.2⟩⟩
/-- other conditions on the blocks -/
theorem NdV.weak {rk : ByteArray → Int} {p q : Nat → Prop} {A W : World} {t : Tm} {v : Value} (h : NdV rk p A t v) (hpq : ∀ b, p b → W.heap[b]? = A.heap[b]? ∧ q b) : NdV rk q W t v := by
  obtain ⟨oa, n, c, nv, h1, h⟩ := h
  exact ⟨oa, n, c, nv, h1, h.carry hpq⟩
theorem NdB.weak {rk : ByteArray → Int} {p q : Nat → Prop} {A W : World} {b : Nat} {t : Tm} (h : NdB rk p A b t) (he : W.heap[b]? = A.heap[b]?) (hpq : ∀ b, p b → W.heap[b]? = A.heap[b]? ∧ q b) : NdB rk q W b t := by
  obtain ⟨oa, n, c, nv, h1, h⟩ := h
  exact ⟨oa, n, c, nv, he.trans h1, h.carry hpq⟩
theorem IgI.keep {rk : ByteArray → Int} {w0 A W : World} {lv : Value} {s t : Tm} {sv tv : Value} {f : Nat → Bool} {v7 v8 v9 v10 v11 v12 v13 v14 : Value} (h : IgI rk w0 lv s t sv tv f A v7 v8 v9 v10 v11 v12 v13 v14) (hb : Below A.heap.size A W) : IgI rk w0 lv s t sv tv f W v7 v8 v9 v10 v11 v12 v13 v14 :=
  ⟨h.low.trans (hb.mono h.low.size), (hb.block _ (Array.getElem?_eq_some_iff.1 h.bs).1).trans h.bs, (hb.block _ (Array.getElem?_eq_some_iff.1 h.bt).1).trans h.bt, h.f0, h.f1, fun k => (h.f2 k).keep hb, h.f3, h.f4, fun k => (h.f5 k).keep hb,
    fun k => by obtain ⟨p, h1, h2, h3, h4, h5⟩ := h.f6 k; exact ⟨p, h1, h2, Nat.lt_of_lt_of_le h3 hb.size, fun e => (hb.block p h3).trans (h4 e), fun e => (h5 e).keep hb⟩,
    fun k => by obtain ⟨p, h1, h2, h3, h4, h5⟩ := h.f7 k; exact ⟨p, h1, h2, Nat.lt_of_lt_of_le h3 hb.size, fun e => (hb.block p h3).trans (h4 e), fun e => (h5 e).keep hb⟩, h.ne, h.o8, h.o9⟩
/-- the invariant -/
def IgInv (rk : ByteArray → Int) (w0 : World) (lv : Value) (s t : Tm) (sv tv : Value) (f : Nat → Bool) (a : Act) (w : World) : Prop :=
  ∃ v7 v8 v9 v10 v11 v12 v13 v14, a = { tmps := #[lv, .agg #[.string s.nm, .bool s.vr, sv], .agg #[.string t.nm, .bool t.vr, tv], undef, .pointer (some ⟨w0.heap.size, 0, none⟩), .pointer (some ⟨w0.heap.size + 1, 0, none⟩), .bool false, v7, v8, v9, v10, v11, v12, v13, v14, undef, undef], defers := [] } ∧
    IgI rk w0 lv s t sv tv f w v7 v8 v9 v10 v11 v12 v13 v14
theorem NdB.at {rk : ByteArray → Int} {p : Nat → Prop} {W : World} {b : Nat} {t : Tm} (h : NdB rk p W b t) (hp : ∀ b, p b → b < W.heap.size) : ∃ s, NdW rk W b 0 t s := by
  obtain ⟨oa, n, c, nv, h1, h⟩ := h
  obtain ⟨⟨c0, c1, c2, c3, c4⟩, -⟩ := box5 h1
  exact ⟨nv, (Array.getElem?_eq_some_iff.1 h1).1, c0, c1, c3, c4, h.carry fun b hb => ⟨rfl, hp b hb⟩⟩
set_option maxRecDepth 100000 in
set_option maxHeartbeats 8000000 in
theorem isGreater_any (L : List Rk) (lv : Value) (hLn : NmsOk L) (hLl : L.length ≤ 1048576) (s t : Tm) (sv tv : Value) (w : World) (hL : RksIs w.heap.size w L lv) (hs : SlIs w.heap.size w s.ts sv) (ht : SlIs w.heap.size w t.ts tv)
    (hsb : s.bare) (htb : t.bare) (hbs : s.bulk ≤ 1048576) (hbt : t.bulk ≤ 1048576) :
    Calls Try.prog 41 #[lv, tmv s sv, tmv t tv] w fun e w' => e = .returned (.bool (rel (rkB L) s t == 2)) ∧ Below w.heap.size w w' := by
  obtain ⟨os, cs, rfl, -⟩ := hs.form
  obtain ⟨ot, ct, rfl, -⟩ := ht.form
  have hL' := hL
  obtain ⟨ol, cl, rfl, -, -⟩ := hL'
  have HR1 : Hid (∀ W, Below w.heap.size w W → Calls Try.prog 55 #[.slice ol L.length cl, .agg #[.string s.nm, .bool s.vr, .slice os s.ts.length cs]] W fun e w' => NdRes L W s e w' ∧ Below W.heap.size W w') := Lib.hid fun W hW => ranked_any L _ hLn hLl s _ W (hL.carry hW hW.size) hsb (hs.carry hW hW.size) hbs
  have HR2 : Hid (∀ W, Below w.heap.size w W → Calls Try.prog 55 #[.slice ol L.length cl, .agg #[.string t.nm, .bool t.vr, .slice ot t.ts.length ct]] W fun e w' => NdRes L W t e w' ∧ Below W.heap.size W w') := Lib.hid fun W hW => ranked_any L _ hLn hLl t _ W (hL.carry hW hW.size) htb (ht.carry hW hW.size) hbt
  have hsz := Tm.size_bulk s
  have htz := Tm.size_bulk t
  have HSB := Lib.hid hsb
  have HTB := Lib.hid htb
  clear hL hs ht hsb htb
  go_enter Try.func41, Try.ntmps41
  rw [show tmv s (.slice os s.ts.length cs) = .agg #[.string s.nm, .bool s.vr, .slice os s.ts.length cs] from rfl, show tmv t (.slice ot t.ts.length ct) = .agg #[.string t.nm, .bool t.vr, .slice ot t.ts.length ct] from rfl]
  go_wp2_with fail
  have hb0 : Below w.heap.size w ((w.alloc (.cells #[.string s.nm, .bool s.vr, .slice os s.ts.length cs] 34)).alloc (.cells #[.string t.nm, .bool t.vr, .slice ot t.ts.length ct] 34)) := by go_grown
  refine wp_region_inv (IgInv (rkB L) w (.slice ol L.length cl) s t (.slice os s.ts.length cs) (.slice ot t.ts.length ct)) (by kernel_rfl) (by kernel_rfl) ?h0 ?hend ?hstep
  case h0 =>
    exact ⟨_, _, _, _, _, _, _, _, rfl, hb0.drew, (Below.heap_alloc _ _ _ (by simp)).trans (heap_new_at _ _ _ rfl), heap_new_at _ _ _ (by simp), nofun, nofun, nofun, nofun, nofun, nofun, nofun, nofun, nofun, nofun, nofun⟩
  case hstep =>
    rintro i o ho f a W ⟨v7, v8, v9, v10, v11, v12, v13, v14, rfl, h⟩ hfi hd K' hK
    have HI := Lib.hid h
    match i, ho with
    | 0, ho =>
      cases ho
      go_simp
      exact hK.out _ _ ⟨v7, v8, _, v10, v11, v12, v13, v14, rfl, h.low, h.bs, h.bt, fun _ => rfl, h.f1, h.f2, h.f3, h.f4, h.f5, h.f6, h.f7, h.ne, h.o8, h.o9⟩
    | 1, ho =>
      cases ho
      obtain ⟨⟨c0, c1, c2⟩, -⟩ := box3 h.bs
      clear h
      go_simp
      exact hK.out _ _ ⟨v7, v8, v9, _, v11, v12, v13, v14, rfl, HI.out.low, HI.out.bs, HI.out.bt, HI.out.f0, fun _ => rfl, HI.out.f2, HI.out.f3, HI.out.f4, HI.out.f5, HI.out.f6, HI.out.f7, HI.out.ne, HI.out.o8, HI.out.o9⟩
    | 2, ho =>
      cases ho
      have d0 := hd ⟨0, .data⟩ (by simp) rfl
      have d1 := hd ⟨1, .data⟩ (by simp) rfl
      have e9 := h.f0 d0
      have e10 := h.f1 d1
      subst e9
      subst e10
      clear h d0 d1 hd
      go_simp
      refine (HR1.out W HI.out.low).mono ?_
      rintro e W1 ⟨⟨oa, n, c, nv, rfl, hnd⟩, hb⟩
      have H1 := HI.out.keep hb
      exact hK.out _ _ ⟨v7, v8, _, _, _, v12, v13, v14, rfl, H1.low, H1.bs, H1.bt, H1.f0, H1.f1, fun _ => ⟨_, _, _, _, rfl, hnd.lt.carry fun b hb2 => ⟨rfl, hb2.2, fun k e => by obtain ⟨p, e1, -, e2, -⟩ := HI.out.f6 k; have e3 := hb2.1; have := ptr_inj (e1.symm.trans e); omega, fun k e => by obtain ⟨p, e1, -, e2, -⟩ := HI.out.f7 k; have e3 := hb2.1; have := ptr_inj (e1.symm.trans e); omega⟩⟩, H1.f3, H1.f4, H1.f5, H1.f6, H1.f7, H1.ne, H1.o8, H1.o9⟩
    | 3, ho =>
      cases ho
      go_simp
      exact hK.out _ _ ⟨v7, v8, v9, v10, v11, _, v13, v14, rfl, h.low, h.bs, h.bt, h.f0, h.f1, h.f2, fun _ => rfl, h.f4, h.f5, h.f6, h.f7, h.ne, h.o8, h.o9⟩
    | 4, ho =>
      cases ho
      obtain ⟨⟨c0, c1, c2⟩, -⟩ := box3 h.bt
      clear h
      go_simp
      exact hK.out _ _ ⟨v7, v8, v9, v10, v11, v12, _, v14, rfl, HI.out.low, HI.out.bs, HI.out.bt, HI.out.f0, HI.out.f1, HI.out.f2, HI.out.f3, fun _ => rfl, HI.out.f5, HI.out.f6, HI.out.f7, HI.out.ne, HI.out.o8, HI.out.o9⟩
    | 5, ho =>
      cases ho
      have d0 := hd ⟨3, .data⟩ (by simp) rfl
      have d1 := hd ⟨4, .data⟩ (by simp) rfl
      have e9 := h.f3 d0
      have e10 := h.f4 d1
      subst e9
      subst e10
      clear h d0 d1 hd
      go_simp
      refine (HR2.out W HI.out.low).mono ?_
      rintro e W1 ⟨⟨oa, n, c, nv, rfl, hnd⟩, hb⟩
      have H1 := HI.out.keep hb
      exact hK.out _ _ ⟨v7, v8, v9, v10, v11, _, _, _, rfl, H1.low, H1.bs, H1.bt, H1.f0, H1.f1, H1.f2, H1.f3, H1.f4, fun _ => ⟨_, _, _, _, rfl, hnd.lt.carry fun b hb2 => ⟨rfl, hb2.2, fun k e => by obtain ⟨p, e1, -, e2, -⟩ := HI.out.f6 k; have e3 := hb2.1; have := ptr_inj (e1.symm.trans e); omega, fun k e => by obtain ⟨p, e1, -, e2, -⟩ := HI.out.f7 k; have e3 := hb2.1; have := ptr_inj (e1.symm.trans e); omega⟩⟩, H1.f6, H1.f7, H1.ne, H1.o8, H1.o9⟩
    | 6, ho =>
      cases ho
      clear h
      go_simp
      have hb := (Below.refl W.heap.size W).alloc (Nat.le_refl _) zeroNd
      have H1 := HI.out.keep hb
      have wk : ∀ b, bOk f W v7 v8 b → (W.alloc zeroNd).heap[b]? = W.heap[b]? ∧ bOk (flag f 6) (W.alloc zeroNd) (ptr W.heap.size) v8 b := fun b hbb => ⟨hb.block b hbb.1, Nat.lt_of_lt_of_le hbb.1 hb.size, fun _ e => by have := ptr_inj e; have := hbb.1; omega, hbb.2.2⟩
      exact hK.out _ (W.alloc zeroNd) ⟨ptr W.heap.size, v8, v9, v10, v11, v12, v13, v14, rfl, H1.low, H1.bs, H1.bt, H1.f0, H1.f1, fun k => (HI.out.f2 k).weak wk, H1.f3, H1.f4, fun k => (HI.out.f5 k).weak wk,
        fun _ => ⟨_, rfl, by have := (Array.getElem?_eq_some_iff.1 HI.out.bt).1; omega, by simp, fun _ => heap_new_at _ _ _ rfl, (fun k => by have := (HI.out.o8 k).1; rw [hfi] at this; cases this)⟩,
        fun k => by obtain ⟨p, h1, h2, h3, h4, h5⟩ := HI.out.f7 k; exact ⟨p, h1, h2, Nat.lt_of_lt_of_le h3 hb.size, fun e => (hb.block p h3).trans (h4 e), fun e => (h5 e).weak (hb.block p h3) wk⟩,
        fun _ k e => by obtain ⟨p, h1, h2, h3, -⟩ := HI.out.f7 k; have := ptr_inj (e.trans h1); omega, (fun k => by have := (HI.out.o8 k).1; rw [hfi] at this; cases this), H1.o9⟩
    | 7, ho =>
      cases ho
      clear h
      go_simp
      have hb := (Below.refl W.heap.size W).alloc (Nat.le_refl _) zeroNd
      have H1 := HI.out.keep hb
      have wk : ∀ b, bOk f W v7 v8 b → (W.alloc zeroNd).heap[b]? = W.heap[b]? ∧ bOk (flag f 7) (W.alloc zeroNd) v7 (ptr W.heap.size) b := fun b hbb => ⟨hb.block b hbb.1, Nat.lt_of_lt_of_le hbb.1 hb.size, hbb.2.1, fun _ e => by have := ptr_inj e; have := hbb.1; omega⟩
      exact hK.out _ (W.alloc zeroNd) ⟨v7, ptr W.heap.size, v9, v10, v11, v12, v13, v14, rfl, H1.low, H1.bs, H1.bt, H1.f0, H1.f1, fun k => (HI.out.f2 k).weak wk, H1.f3, H1.f4, fun k => (HI.out.f5 k).weak wk,
        fun k => by obtain ⟨p, h1, h2, h3, h4, h5⟩ := HI.out.f6 k; exact ⟨p, h1, h2, Nat.lt_of_lt_of_le h3 hb.size, fun e => (hb.block p h3).trans (h4 e), fun e => (h5 e).weak (hb.block p h3) wk⟩,
        fun _ => ⟨_, rfl, by have := (Array.getElem?_eq_some_iff.1 HI.out.bt).1; omega, by simp, fun _ => heap_new_at _ _ _ rfl, (fun k => by have := (HI.out.o9 k).1; rw [hfi] at this; cases this)⟩,
        fun k _ e => by obtain ⟨p, h1, h2, h3, -⟩ := HI.out.f6 k; have := ptr_inj (h1.symm.trans e); omega, (fun k => by have := (HI.out.o8 k).2; rw [hfi] at this; cases this), (fun k => by have := (HI.out.o9 k).1; rw [hfi] at this; cases this)⟩
    | 8, ho =>
      cases ho
      have d6 := hd ⟨6, .data⟩ (by simp) rfl
      have d2 := hd ⟨2, .data⟩ (by simp) rfl
      have d7 := hd ⟨7, .phase⟩ (by simp) rfl
      obtain ⟨p, e7, h2, h3, h4, -⟩ := h.f6 d6
      obtain ⟨oa, n, c, nv, e11, hnd⟩ := h.f2 d2
      subst e7
      subst e11
      obtain ⟨on, cn, rfl⟩ := hnd.form
      have hz := h4 hfi
      have hne := h.ne d6 d7
      have HZ := Lib.hid hz
      have HND := Lib.hid hnd
      have HNE := Lib.hid hne
      obtain ⟨⟨c0, c1, c2, c3, c4⟩, g0, g1, g2, g3, g4⟩ := box5 hz
      clear h hd h4 hz hnd hne
      unfold ptr
      go_simp
      have hq := box5_set HZ.out (.string s.nm) (.bool s.vr) (.slice oa n c) (.int .i64 (ndRank (rkB L) s)) (.slice on s.ts.length cn)
      have hbl := below_set5 HI.out.low (b := p) (by omega) (.string s.nm) (.bool s.vr) (.slice oa n c) (.int .i64 (ndRank (rkB L) s)) (.slice on s.ts.length cn)
      have hst := fun k (hk : k ≠ p) => heap_set5 W p k (.string s.nm) (.bool s.vr) (.slice oa n c) (.int .i64 (ndRank (rkB L) s)) (.slice on s.ts.length cn) hk
      have wk : ∀ b, bOk f W (ptr p) v8 b → (((((W.setCell ⟨p, 0, none⟩ (.string s.nm)).setCell ⟨p, 1, none⟩ (.bool s.vr)).setCell ⟨p, 2, none⟩ (.slice oa n c)).setCell ⟨p, 3, none⟩ (.int .i64 (ndRank (rkB L) s))).setCell ⟨p, 4, none⟩ (.slice on s.ts.length cn)).heap[b]? = W.heap[b]? ∧ bOk (flag f 8) (((((W.setCell ⟨p, 0, none⟩ (.string s.nm)).setCell ⟨p, 1, none⟩ (.bool s.vr)).setCell ⟨p, 2, none⟩ (.slice oa n c)).setCell ⟨p, 3, none⟩ (.int .i64 (ndRank (rkB L) s))).setCell ⟨p, 4, none⟩ (.slice on s.ts.length cn)) (ptr p) v8 b :=
        fun b hbb => ⟨hst b (fun e => hbb.2.1 d6 (by rw [e])), by have := hbb.1; simp [World.setCell]; omega, fun _ => hbb.2.1 d6, hbb.2.2⟩
      exact hK.out _ _ ⟨ptr p, v8, v9, v10, _, v12, v13, v14, rfl, hbl, (hst _ (by omega)).trans HI.out.bs, (hst _ (by omega)).trans HI.out.bt, HI.out.f0, HI.out.f1, fun k => (HI.out.f2 k).weak wk, HI.out.f3, HI.out.f4, fun k => (HI.out.f5 k).weak wk,
        fun _ => ⟨p, rfl, h2, by simp [World.setCell]; omega, nofun, fun _ => ⟨oa, n, c, _, hq, HND.out.carry wk⟩⟩,
        fun k => by obtain ⟨q, h1, h2, h3, h4, h5⟩ := HI.out.f7 k; have hpq : q ≠ p := fun e => HNE.out (by rw [h1, e]); exact ⟨q, h1, h2, by simp [World.setCell]; omega, fun e => (hst q hpq).trans (h4 e), fun e => (h5 e).weak (hst q hpq) wk⟩,
        HI.out.ne, fun _ => ⟨d6, d7⟩, fun k => ⟨(HI.out.o9 k).1, rfl⟩⟩
    | 9, ho =>
      cases ho
      have d7 := hd ⟨7, .data⟩ (by simp) rfl
      have d5 := hd ⟨5, .data⟩ (by simp) rfl
      have d8 := hd ⟨8, .chain⟩ (by simp) rfl
      have d6 := hd ⟨6, .phase⟩ (by simp) rfl
      obtain ⟨p, e7, h2, h3, h4, -⟩ := h.f7 d7
      obtain ⟨oa, n, c, nv, e11, hnd⟩ := h.f5 d5
      subst e7
      subst e11
      obtain ⟨on, cn, rfl⟩ := hnd.form
      have hz := h4 hfi
      have hne := h.ne d6 d7
      have HZ := Lib.hid hz
      have HND := Lib.hid hnd
      have HNE := Lib.hid hne
      obtain ⟨⟨c0, c1, c2, c3, c4⟩, g0, g1, g2, g3, g4⟩ := box5 hz
      clear h hd h4 hz hnd hne
      unfold ptr
      go_simp
      have hq := box5_set HZ.out (.string t.nm) (.bool t.vr) (.slice oa n c) (.int .i64 (ndRank (rkB L) t)) (.slice on t.ts.length cn)
      have hbl := below_set5 HI.out.low (b := p) (by omega) (.string t.nm) (.bool t.vr) (.slice oa n c) (.int .i64 (ndRank (rkB L) t)) (.slice on t.ts.length cn)
      have hst := fun k (hk : k ≠ p) => heap_set5 W p k (.string t.nm) (.bool t.vr) (.slice oa n c) (.int .i64 (ndRank (rkB L) t)) (.slice on t.ts.length cn) hk
      have wk : ∀ b, bOk f W v7 (ptr p) b → (((((W.setCell ⟨p, 0, none⟩ (.string t.nm)).setCell ⟨p, 1, none⟩ (.bool t.vr)).setCell ⟨p, 2, none⟩ (.slice oa n c)).setCell ⟨p, 3, none⟩ (.int .i64 (ndRank (rkB L) t))).setCell ⟨p, 4, none⟩ (.slice on t.ts.length cn)).heap[b]? = W.heap[b]? ∧ bOk (flag f 9) (((((W.setCell ⟨p, 0, none⟩ (.string t.nm)).setCell ⟨p, 1, none⟩ (.bool t.vr)).setCell ⟨p, 2, none⟩ (.slice oa n c)).setCell ⟨p, 3, none⟩ (.int .i64 (ndRank (rkB L) t))).setCell ⟨p, 4, none⟩ (.slice on t.ts.length cn)) v7 (ptr p) b :=
        fun b hbb => ⟨hst b (fun e => hbb.2.2 d7 (by rw [e])), by have := hbb.1; simp [World.setCell]; omega, hbb.2.1, fun _ => hbb.2.2 d7⟩
      exact hK.out _ _ ⟨v7, ptr p, v9, v10, v11, v12, v13, _, rfl, hbl, (hst _ (by omega)).trans HI.out.bs, (hst _ (by omega)).trans HI.out.bt, HI.out.f0, HI.out.f1, fun k => (HI.out.f2 k).weak wk, HI.out.f3, HI.out.f4, fun k => (HI.out.f5 k).weak wk,
        fun k => by obtain ⟨q, h1, h2, h3, h4, h5⟩ := HI.out.f6 k; have hpq : q ≠ p := fun e => HNE.out (by rw [h1, e]); exact ⟨q, h1, h2, by simp [World.setCell]; omega, fun e => (hst q hpq).trans (h4 e), fun e => (h5 e).weak (hst q hpq) wk⟩,
        fun _ => ⟨p, rfl, h2, by simp [World.setCell]; omega, nofun, fun _ => ⟨oa, n, c, _, hq, HND.out.carry wk⟩⟩,
        HI.out.ne, HI.out.o8, fun _ => ⟨d7, d8⟩⟩
    | i + 10, ho => simp at ho
  case hend =>
    rintro f a W ⟨v7, v8, v9, v10, v11, v12, v13, v14, rfl, h⟩ hall
    obtain ⟨p, rfl, -, -, -, h5⟩ := h.f6 (hall 6 (by simp))
    obtain ⟨q, rfl, -, -, -, h6⟩ := h.f7 (hall 7 (by simp))
    obtain ⟨ns, hns⟩ := (h5 (hall 8 (by simp))).at fun b hb => hb.1
    obtain ⟨nt, hnt⟩ := (h6 (hall 9 (by simp))).at fun b hb => hb.1
    have HNS := Lib.hid hns
    have HNT := Lib.hid hnt
    have HLOW := Lib.hid h.low
    clear h h5 h6 hns hnt hall
    unfold ptr
    go_wp2_with fail
    refine (cmp_any (rkB L) (s.size + t.size + 1) s t ns nt p 0 q 0 W (by omega) HSB.out HTB.out (by omega) (by omega) HNS.out HNT.out).mono ?_
    rintro e W2 ⟨rfl, hb⟩
    have HB2 := Lib.hid (HLOW.out.trans (hb.mono HLOW.out.size))
    clear hb
    go_wp2_with fail
    go_ret
    exact ⟨rfl, HB2.out⟩
end Go.Proofs.Ytdnkommcnkbeeaa
/- Package path: Greater; the law's greater. -/
namespace Go.Proofs.Ytdnkommcnkbeeaa
open Go.RowKit

/-- the call says that s is greater than t -/
def GP (L : List Rk) (s t : Tm) : Prop := PrecOk L ∧ s.ok ∧ t.ok ∧ Lpo (rkB L) s t
open Classical in
noncomputable def gpB (L : List Rk) (s t : Tm) : Bool := decide (GP L s t)
open Classical in
theorem gpB_yes {L : List Rk} {s t : Tm} : gpB L s t = true ↔ GP L s t := by unfold gpB; exact decide_eq_true_iff
open Classical in
theorem gpB_no {L : List Rk} {s t : Tm} : gpB L s t = false ↔ ¬ GP L s t := by unfold gpB; exact decide_eq_false_iff_not
/-- how Greater ends -/
def GrPost (L : List Rk) (s t : Tm) (e : Ending) : Prop := ∃ c : Int, e = .returned (.tuple #[.bool (gpB L s t), .int .i64 c]) ∧ (c = 0 ↔ PrecOk L ∧ s.ok ∧ t.ok)
theorem GP.rel {L : List Rk} {s t : Tm} (h : PrecOk L) (hs : s.ok) (ht : t.ok) : (rel (rkB L) s t == 2) = gpB L s t := by
  cases hb : gpB L s t with
  | true => have := (gpB_yes.1 hb).2.2.2; rw [beq_iff_eq]; exact rel_2.2 this
  | false => rw [beq_eq_false_iff_ne]; exact fun e => gpB_no.1 hb ⟨h, hs, ht, rel_2.1 e⟩

set_option maxRecDepth 100000 in
set_option maxHeartbeats 4000000 in
theorem pgreater_any (L : List Rk) (lv : Value) (s t : Tm) (sv tv : Value) (w : World) (hL : RksIs w.heap.size w L lv) (hLb : rkBulk L ≤ 1048576) (hs : SlIs w.heap.size w s.ts sv) (ht : SlIs w.heap.size w t.ts tv) (hbs : s.bulk ≤ 1048576) (hbt : t.bulk ≤ 1048576) :
    Calls Try.prog 32 #[lv, tmv s sv, tmv t tv] w fun e w' => GrPost L s t e ∧ Below w.heap.size w w' := by
  obtain ⟨os, cs, rfl, -⟩ := hs.form
  obtain ⟨ot, ct, rfl, -⟩ := ht.form
  have hL' := hL
  obtain ⟨ol, cl, rfl, -, -⟩ := hL'
  have hlen := Nat.le_trans (rkBulk_len L) hLb
  have hA : Below w.heap.size w (w.alloc (.cells #[.string s.nm, .bool s.vr, .slice os s.ts.length cs] 34)) := by go_grown
  have hB := (Below.refl _ (w.alloc (.cells #[.string s.nm, .bool s.vr, .slice os s.ts.length cs] 34))).alloc (Nat.le_refl _) (.cells #[.string t.nm, .bool t.vr, .slice ot t.ts.length ct] 34)
  have HW0 : Hid (Below w.heap.size w ((w.alloc (.cells #[.string s.nm, .bool s.vr, .slice os s.ts.length cs] 34)).alloc (.cells #[.string t.nm, .bool t.vr, .slice ot t.ts.length ct] 34))) := Lib.hid (hA.trans (hB.mono hA.size))
  have HX0 : Hid (((w.alloc (.cells #[.string s.nm, .bool s.vr, .slice os s.ts.length cs] 34)).alloc (.cells #[.string t.nm, .bool t.vr, .slice ot t.ts.length ct] 34)).heap[w.heap.size]? = some (.cells #[.string s.nm, .bool s.vr, .slice os s.ts.length cs] 34 (0, 0))) := Lib.hid ((Below.heap_alloc _ _ _ (by simp)).trans (heap_new_at _ _ _ rfl))
  have HY0 : Hid (((w.alloc (.cells #[.string s.nm, .bool s.vr, .slice os s.ts.length cs] 34)).alloc (.cells #[.string t.nm, .bool t.vr, .slice ot t.ts.length ct] 34)).heap[w.heap.size + 1]? = some (.cells #[.string t.nm, .bool t.vr, .slice ot t.ts.length ct] 34 (0, 0))) := Lib.hid (heap_new_at _ _ _ (by simp))
  have HL := Lib.hid hL
  have HS := Lib.hid hs
  have HT := Lib.hid ht
  have HLB := Lib.hid hLb
  clear hL hs ht hA hB hLb
  go_enter Try.func32, Try.ntmps32
  rw [show tmv s (.slice os s.ts.length cs) = .agg #[.string s.nm, .bool s.vr, .slice os s.ts.length cs] from rfl, show tmv t (.slice ot t.ts.length ct) = .agg #[.string t.nm, .bool t.vr, .slice ot t.ts.length ct] from rfl]
  go_wp2_with fail
  generalize ((w.alloc (.cells #[.string s.nm, .bool s.vr, .slice os s.ts.length cs] 34)).alloc (.cells #[.string t.nm, .bool t.vr, .slice ot t.ts.length ct] 34)) = W0 at HW0 HX0 HY0 ⊢
  refine (pathCheck_any L _ W0 (HL.out.carry HW0.out HW0.out.size) HLB.out).mono ?_
  rintro e w1 ⟨rfl, hb⟩
  have HW1 := Lib.hid (HW0.out.trans (hb.mono HW0.out.size))
  have HX1 := Lib.hid ((hb.block _ (Array.getElem?_eq_some_iff.1 HX0.out).1).trans HX0.out)
  have HY1 := Lib.hid ((hb.block _ (Array.getElem?_eq_some_iff.1 HY0.out).1).trans HY0.out)
  clear hb
  by_cases hc : precC L = 0
  case neg =>
    have hd : (precC L != 0) = true := by rw [bne_iff_ne]; exact hc
    have HNP : Hid (¬ PrecOk L) := Lib.hid fun h => hc (precC_zero.2 h)
    have HG : Hid (gpB L s t = false) := Lib.hid (gpB_no.2 fun h => HNP.out h.1)
    have HC := Lib.hid hc
    clear hc
    go_wp2_with fail
    go_ret2
    exact ⟨⟨_, by rw [HG.out]; rfl, fun h => absurd h HC.out, fun h => absurd h.1 HNP.out⟩, HW1.out⟩
  rw [hc]
  have HP := Lib.hid (precC_zero.1 hc)
  clear hc
  obtain ⟨⟨x0, x1, x2⟩, -⟩ := box3 HX1.out
  go_wp2_with fail
  refine (check_any s _ w1 (HS.out.carry HW1.out HW1.out.size) hbs).mono ?_
  rintro e w2 ⟨⟨c, rfl, hc⟩, hb⟩
  have HW2 := Lib.hid (HW1.out.trans (hb.mono HW1.out.size))
  have HX2 := Lib.hid ((hb.block _ (Array.getElem?_eq_some_iff.1 HX1.out).1).trans HX1.out)
  have HY2 := Lib.hid ((hb.block _ (Array.getElem?_eq_some_iff.1 HY1.out).1).trans HY1.out)
  have HC := Lib.hid hc
  clear hb hc x0 x1 x2
  by_cases hc0 : c = 0
  case neg =>
    have hd : (c != 0) = true := by rw [bne_iff_ne]; exact hc0
    have HNP : Hid (¬ s.ok) := Lib.hid fun h => hc0 (HC.out.2 h)
    have HG : Hid (gpB L s t = false) := Lib.hid (gpB_no.2 fun h => HNP.out h.2.1)
    have HC0 := Lib.hid hc0
    clear hc0
    go_wp2_with fail
    go_ret2
    exact ⟨⟨_, by rw [HG.out]; rfl, fun h => absurd h HC0.out, fun h => absurd h.2.1 HNP.out⟩, HW2.out⟩
  subst hc0
  have HSO := Lib.hid (HC.out.1 rfl)
  obtain ⟨⟨y0, y1, y2⟩, -⟩ := box3 HY2.out
  go_wp2_with fail
  refine (check_any t _ w2 (HT.out.carry HW2.out HW2.out.size) hbt).mono ?_
  rintro e w3 ⟨⟨c, rfl, hc⟩, hb⟩
  have HW3 := Lib.hid (HW2.out.trans (hb.mono HW2.out.size))
  have HX3 := Lib.hid ((hb.block _ (Array.getElem?_eq_some_iff.1 HX2.out).1).trans HX2.out)
  have HY3 := Lib.hid ((hb.block _ (Array.getElem?_eq_some_iff.1 HY2.out).1).trans HY2.out)
  have HC2 := Lib.hid hc
  clear hb hc y0 y1 y2
  by_cases hc0 : c = 0
  case neg =>
    have hd : (c != 0) = true := by rw [bne_iff_ne]; exact hc0
    have HNP : Hid (¬ t.ok) := Lib.hid fun h => hc0 (HC2.out.2 h)
    have HG : Hid (gpB L s t = false) := Lib.hid (gpB_no.2 fun h => HNP.out h.2.2.1)
    have HC0 := Lib.hid hc0
    clear hc0
    go_wp2_with fail
    go_ret2
    exact ⟨⟨_, by rw [HG.out]; rfl, fun h => absurd h HC0.out, fun h => absurd h.2.2 HNP.out⟩, HW3.out⟩
  subst hc0
  have HTO := Lib.hid (HC2.out.1 rfl)
  obtain ⟨⟨x0, x1, x2⟩, -⟩ := box3 HX3.out
  obtain ⟨⟨y0, y1, y2⟩, -⟩ := box3 HY3.out
  go_wp2_with fail
  refine (isGreater_any L _ HP.out.nms hlen s t _ _ w3 (HL.out.carry HW3.out HW3.out.size) (HS.out.carry HW3.out HW3.out.size) (HT.out.carry HW3.out HW3.out.size) HSO.out.1.bare HTO.out.1.bare hbs hbt).mono ?_
  rintro e w4 ⟨rfl, hb⟩
  have HW4 := Lib.hid (HW3.out.trans (hb.mono HW3.out.size))
  have HR := Lib.hid (GP.rel HP.out HSO.out HTO.out)
  clear hb
  go_wp2_with fail
  go_ret2
  exact ⟨⟨0, by rw [HR.out]; rfl, fun _ => ⟨HP.out, HSO.out, HTO.out⟩, fun _ => rfl⟩, HW4.out⟩
set_option maxRecDepth 100000 in
set_option maxHeartbeats 4000000 in
theorem lgreater_any (L : List Rk) (lv : Value) (s t : Tm) (sv tv : Value) (w : World) (hL : RksIs w.heap.size w L lv) (hLb : rkBulk L ≤ 1048576) (hs : SlIs w.heap.size w s.ts sv) (ht : SlIs w.heap.size w t.ts tv) (hbs : s.bulk ≤ 1048576) (hbt : t.bulk ≤ 1048576) :
    Calls Try.prog 13 #[lv, tmv s sv, tmv t tv] w fun e w' => e = .returned (.bool (gpB L s t)) ∧ Below w.heap.size w w' := by
  obtain ⟨os, cs, rfl, -⟩ := hs.form
  obtain ⟨ot, ct, rfl, -⟩ := ht.form
  have hL' := hL
  obtain ⟨ol, cl, rfl, -, -⟩ := hL'
  have HW0 : Hid (Below w.heap.size w ((w.alloc (.cells #[.string s.nm, .bool s.vr, .slice os s.ts.length cs] 34)).alloc (.cells #[.string t.nm, .bool t.vr, .slice ot t.ts.length ct] 34))) := Lib.hid (by go_grown)
  have HG := Lib.hid (pgreater_any L _ s t _ _ ((w.alloc (.cells #[.string s.nm, .bool s.vr, .slice os s.ts.length cs] 34)).alloc (.cells #[.string t.nm, .bool t.vr, .slice ot t.ts.length ct] 34)) (hL.carry HW0.out HW0.out.size) hLb (hs.carry HW0.out HW0.out.size) (ht.carry HW0.out HW0.out.size) hbs hbt)
  clear hL hs ht
  go_enter Try.func13, Try.ntmps13
  rw [show tmv s (.slice os s.ts.length cs) = .agg #[.string s.nm, .bool s.vr, .slice os s.ts.length cs] from rfl, show tmv t (.slice ot t.ts.length ct) = .agg #[.string t.nm, .bool t.vr, .slice ot t.ts.length ct] from rfl]
  go_wp2_with fail
  refine HG.out.mono ?_
  rintro e w1 ⟨⟨c, rfl, hc⟩, hb⟩
  have HB := Lib.hid (HW0.out.trans (hb.mono HW0.out.size))
  have HC := Lib.hid hc
  clear hb hc HG
  by_cases hc0 : c = 0
  · subst hc0
    go_wp2_with fail
    go_ret
    exact ⟨rfl, HB.out⟩
  · have hd : (c == 0) = false := by rw [beq_eq_false_iff_ne]; exact hc0
    have HG : Hid (gpB L s t = false) := Lib.hid (gpB_no.2 fun h => hc0 (HC.out.2 ⟨h.1, h.2.1, h.2.2.1⟩))
    clear hc0
    go_wp2_with fail
    go_ret
    exact ⟨by rw [HG.out]; rfl, HB.out⟩
end Go.Proofs.Ytdnkommcnkbeeaa
