/- Packed: Dfk. -/
import Derived.Test.YtnomppdmhgefiaaGreatF17
import Derived.Test.YtnomppdmhgefiaaGreatF20
import Derived.Test.YtnomppdmhgefiaaGreatF10
import Derived.Test.YtnomppdmhgefiaaGreatF13
import Derived.Deep.RegionHeld3
/- Merged: Dif, Dfc, Dfs, Dfk. -/
/- Package weight: the difference of two terms; add. -/
namespace Go.Proofs.YtnomppdmhgefiaaGreat
open Go.RowKit Go.Shelf Go.Maps

abbrev encI (n : Int) : Value := .int .i64 n
theorem zeroI (w : World) : (zeroValue 3).run Tryz.prog w = .ok (.int .i64 0) w := Tryz.zeroValue3 w
theorem surplus_look {W : World} {m : Nat} {M : List (Key × Int)} (h : HMap encI W m M) {s : ByteArray} (hk : s.size ≤ 1048576) :
    (Instr.lookup 164 (.map (some m)) (.string s) false).run Tryz.prog W = .ok (.int .i64 (valA M s.data.toList)) W := by
  obtain ⟨D, hown, hinv⟩ := h
  have hkey : keyOf Tryz.prog 9 (.string s) = some (.string s.data.toList) := by
    have := keyOf_kb (k := s.data.toList) (by rw [bytes_len]; exact hk)
    rwa [kb_key] at this
  obtain ⟨v, ps, hrun, hv⟩ := hown.lookup strKeyed Tryz.underlying164 (zeroI W) (zd := .held (.int .i64 0)) (zp := []) rfl hkey
  rw [hrun]
  simp only [imgR, Option.some.injEq, Prod.mk.injEq] at hv
  have e : D.atKey (.string s.data.toList) (.held (.int .i64 0)) = .held (.int .i64 (valA M s.data.toList)) := by
    unfold valA
    cases hg : getA M s.data.toList with
    | some x => rw [hinv.at_ _ _ hg]; rfl
    | none => rw [atKey_of_not_has (by rw [hinv.has]; exact decide_eq_false (getA_none.1 hg))]; rfl
  rw [e] at hv
  rw [DataW.held.inj hv.1]
theorem surplus_store {W : World} {m : Nat} {M : List (Key × Int)} (h : HMap encI W m M) {s : ByteArray} (hk : s.size ≤ 1048576) (hl : M.length ≤ 1000000000) (x : Int) :
    ∃ W', (Instr.mapUpdate 164 (.map (some m)) (.string s) (.int .i64 x)).run Tryz.prog W = .ok () W' ∧ HMap encI W' m (putA M s.data.toList x) ∧ W.mapTurned W' m := by
  obtain ⟨D, hown, hinv⟩ := h
  have hkey : keyOf Tryz.prog 9 (.string s) = some (.string s.data.toList) := by
    have := keyOf_kb (k := s.data.toList) (by rw [bytes_len]; exact hk)
    rwa [kb_key] at this
  obtain ⟨W', r1, r2, r3⟩ := hown.store strKeyed Tryz.underlying164 (by unfold maxLen; omega) hkey (val := .int .i64 x) (d := .held (.int .i64 x)) (ps := []) rfl
  exact ⟨W', r1, HMap.store (enc := encI) (v := x) hinv r2, r3⟩

/-- the difference as it lies; lk: what it says of the names that are lacking -/
structure DJs (b m : Nat) (lv : Value) (u g lk : Int) (M : List (Key × Int)) (W : World) : Prop where
  box : W.heap[b]? = some (.cells #[lv, .int .i64 u, .int .i64 g, .map (some m), .int .i64 lk] 191 (0, 0))
  map : HMap encI W m M
abbrev DIs (b m : Nat) (lv : Value) (u g : Int) (M : List (Key × Int)) (W : World) : Prop := DJs b m lv u g (lackN M : Nat) M W
theorem DJs.ne {b m : Nat} {lv : Value} {u g lk : Int} {M : List (Key × Int)} {W : World} (h : DJs b m lv u g lk M W) : b ≠ m := fun e => h.map.nocell _ _ _ (by rw [← e]; exact h.box)
theorem DJs.carry {b m : Nat} {lv : Value} {u g lk : Int} {M : List (Key × Int)} {A W : World} (h : DJs b m lv u g lk M A) (h1 : W.heap[b]? = A.heap[b]?) (h2 : W.heap[m]? = A.heap[m]?) : DJs b m lv u g lk M W := ⟨h1.trans h.box, h.map.kept h2⟩
theorem DJs.lt {b m : Nat} {lv : Value} {u g lk : Int} {M : List (Key × Int)} {A : World} (h : DJs b m lv u g lk M A) : b < A.heap.size := (Array.getElem?_eq_some_iff.1 h.box).1
theorem DJs.below {b m : Nat} {lv : Value} {u g lk : Int} {M : List (Key × Int)} {A W : World} (h : DJs b m lv u g lk M A) (hb : Below A.heap.size A W) : DJs b m lv u g lk M W :=
  h.carry (hb.block b h.lt) (hb.block m h.map.lt)
/-- the blocks that may change -/
abbrev XD (b m : Nat) : Nat → Prop := fun k => k = b ∨ k = m
/-- how add ends -/
def AddPost (b m : Nat) (lv : Value) (u g : Int) (M : List (Key × Int)) (N : Nat) (dw : Int) (vs : List Key) (sg : Int) (sz : Nat) (w w' : World) : Prop :=
  ∃ M', DIs b m lv u (g + sg * dw) M' w' ∧ (∀ k, valA M' k = valA M k + sg * cntL k vs) ∧ NmB (N + sz) (g + sg * dw) M' ∧ FrX (XD b m) w w'

/-- within add: the difference, the box of the term, what may have changed -/
structure AdSt (b m : Nat) (lv : Value) (u g lk : Int) (M : List (Key × Int)) (nm : ByteArray) (vr : Bool) (sv : Value) (w W : World) : Prop where
  d : DJs b m lv u g lk M W
  x : W.heap[w.heap.size]? = some (.cells #[.string nm, .bool vr, sv] 25 (0, 0))
  fr : FrX (XD b m) w W
  lb : b < w.heap.size
  lm : m < w.heap.size
section
variable {b m : Nat} {lv : Value} {u g lk : Int} {M : List (Key × Int)} {nm : ByteArray} {vr : Bool} {sv : Value} {w A W : World}
theorem AdSt.carry (h : AdSt b m lv u g lk M nm vr sv w A) (hb : Below A.heap.size A W) : AdSt b m lv u g lk M nm vr sv w W :=
  ⟨h.d.below hb, (hb.block _ (Array.getElem?_eq_some_iff.1 h.x).1).trans h.x, h.fr.trans (FrX.of_below hb), h.lb, h.lm⟩
theorem AdSt.drew (h : AdSt b m lv u g lk M nm vr sv w A) : AdSt b m lv u g lk M nm vr sv w A.drew := h.carry (Below.refl _ A).drew
theorem AdSt.five (h : AdSt b m lv u g lk M nm vr sv w A) : A.cell? ⟨b, 0, none⟩ = some lv ∧ A.cell? ⟨b, 1, none⟩ = some (.int .i64 u) ∧ A.cell? ⟨b, 2, none⟩ = some (.int .i64 g) ∧ A.cell? ⟨b, 3, none⟩ = some (.map (some m)) ∧ A.cell? ⟨b, 4, none⟩ = some (.int .i64 lk) := (box5 h.d.box).1
theorem AdSt.s3 (h : AdSt b m lv u g lk M nm vr sv w A) : A.cell? ⟨b, 0, none⟩ = some lv ∧ A.cell? ⟨b, 1, none⟩ = some (.int .i64 u) ∧ A.cell? ⟨w.heap.size, 0, none⟩ = some (.string nm) := ⟨h.five.1, h.five.2.1, (box3 h.x).1.1⟩
theorem AdSt.m2 (h : AdSt b m lv u g lk M nm vr sv w A) : A.cell? ⟨b, 3, none⟩ = some (.map (some m)) ∧ A.cell? ⟨w.heap.size, 0, none⟩ = some (.string nm) := ⟨h.five.2.2.2.1, (box3 h.x).1.1⟩
theorem AdSt.m3 (h : AdSt b m lv u g lk M nm vr sv w A) (hn : nm.size ≤ 1048576) : A.cell? ⟨b, 3, none⟩ = some (.map (some m)) ∧ A.cell? ⟨w.heap.size, 0, none⟩ = some (.string nm) ∧
    (Instr.lookup 164 (.map (some m)) (.string nm) false).run Tryz.prog A = .ok (.int .i64 (valA M nm.data.toList)) A := ⟨h.five.2.2.2.1, (box3 h.x).1.1, surplus_look h.d.map hn⟩
theorem AdSt.fz (h : AdSt b m lv u g lk M nm vr sv w A) : A.frozen? ⟨b, 2, none⟩ = false ∧ A.frozen? ⟨b, 4, none⟩ = false := ⟨(box5 h.d.box).2.2.2.1, (box5 h.d.box).2.2.2.2.2⟩
theorem AdSt.setG (h : AdSt b m lv u g lk M nm vr sv w A) (v : Int) : AdSt b m lv u v lk M nm vr sv w (A.setCell ⟨b, 2, none⟩ (.int .i64 v)) :=
  ⟨⟨by have := set1 h.d.box 2 (.int .i64 v); simpa using this, h.d.map.kept (Below.heap_setCell _ _ _ _ (fun e => h.d.ne e.symm))⟩, (Below.heap_setCell _ _ _ _ (fun e => by have := h.lb; simp at e; omega)).trans h.x, h.fr.set (.inl rfl) _, h.lb, h.lm⟩
theorem AdSt.setK (h : AdSt b m lv u g lk M nm vr sv w A) (v : Int) : AdSt b m lv u g v M nm vr sv w (A.setCell ⟨b, 4, none⟩ (.int .i64 v)) :=
  ⟨⟨by have := set1 h.d.box 4 (.int .i64 v); simpa using this, h.d.map.kept (Below.heap_setCell _ _ _ _ (fun e => h.d.ne e.symm))⟩, (Below.heap_setCell _ _ _ _ (fun e => by have := h.lb; simp at e; omega)).trans h.x, h.fr.set (.inl rfl) _, h.lb, h.lm⟩
theorem AdSt.put (h : AdSt b m lv u g lk M nm vr sv w A) {M' : List (Key × Int)} (ht : A.mapTurned W m) (hm : HMap encI W m M') : AdSt b m lv u g lk M' nm vr sv w W :=
  ⟨⟨(ht.grown.block b h.d.lt (fun e => h.d.ne (by injection e))).trans h.d.box, hm⟩, (ht.grown.block _ (Array.getElem?_eq_some_iff.1 h.x).1 (fun e => by have := h.lm; injection e with e; omega)).trans h.x, h.fr.trans (FrX.grown ht.grown (.inr rfl)), h.lb, h.lm⟩
theorem AdSt.sub (h : AdSt b m lv u g lk M nm vr sv w A) {g' lk' : Int} {M' : List (Key × Int)} (hd : DJs b m lv u g' lk' M' W) (hf : FrX (XD b m) A W) : AdSt b m lv u g' lk' M' nm vr sv w W :=
  ⟨hd, (hf.block _ (Array.getElem?_eq_some_iff.1 h.x).1 (fun e => by have := h.lm; have := h.lb; rcases e with e | e <;> omega)).trans h.x, h.fr.trans hf, h.lb, h.lm⟩
theorem xd_ge {n : Nat} (h1 : n ≤ b) (h2 : n ≤ m) : ∀ k, XD b m k → n ≤ k := fun k hk => by rcases hk with e | e <;> omega
end

theorem add_end {L : List Rk} {u g y z sg : Int} {t : Tm} {b m N : Nat} {lv sv : Value} {M : List (Key × Int)} {w W : World} (hv : t.vr = true) (hy : y = sg * u) (hz : z = valA M t.nm.data.toList) (hN : NmB N g M)
    (h : AdSt b m lv u (g + y) (lackN (putA M t.nm.data.toList (z + sg)) : Nat) (putA M t.nm.data.toList (z + sg)) t.nm true sv w W) (hs : -1 ≤ sg ∧ sg ≤ 1) (hyb : -1000 ≤ y ∧ y ≤ 1000) : AddPost b m lv u g M N (kw (wtB L) u t) t.vs sg t.size w W := by
  have hval : ∀ q, valA (putA M t.nm.data.toList (z + sg)) q = valA M q + sg * cntL q t.vs := fun q => by
    rw [valA_put, Tm.vs_var hv]
    by_cases e : q = t.nm.data.toList
    · subst e; rw [if_pos rfl, hz]; simp [cntL]
    · rw [if_neg e]; simp only [cntL]; rw [if_neg fun h => e h.symm]; simp
  have hc : ∀ q, (cntL q t.vs : Int) ≤ 1 := fun q => by rw [Tm.vs_var hv]; simp only [cntL]; split <;> simp
  have h1 := Tm.size_pos t
  have ek : sg * kw (wtB L) u t = y := by rw [kw_var hv, hy]
  unfold AddPost
  rw [ek]
  refine ⟨_, h.d, hval, ⟨by have := hN.wlo; omega, by have := hN.whi; omega, by have := putA_len1 M t.nm.data.toList (z + sg); have := hN.len; omega, fun q => ?_, fun q => ?_⟩, h.fr⟩
  · rw [valA_put]; split
    · have := hN.lo t.nm.data.toList; rw [← hz] at this; omega
    · have := hN.lo q; omega
  · rw [valA_put]; split
    · have := hN.hi t.nm.data.toList; rw [← hz] at this; omega
    · have := hN.hi q; omega
set_option maxRecDepth 100000 in
set_option maxHeartbeats 8000000 in
theorem add_any {L : List Rk} {u : Int} (HW : Hid (WtOk L u)) (n0 b m : Nat) (ol : Option Addr) (cl : Nat) (sg : Int) (hsg : sg = 1 ∨ sg = -1) (hnb : n0 ≤ b) (hnm : n0 ≤ m) (t : Tm) :
    ∀ (tv : Value) (g : Int) (M : List (Key × Int)) (N : Nat) (w : World), t.bulk ≤ 1048576 → SlIs n0 w t.ts tv → n0 ≤ w.heap.size → RksIs n0 w L (.slice ol L.length cl) → DIs b m (.slice ol L.length cl) u g M w → NmB N g M → N + t.size ≤ 4194304 →
    Calls Tryz.prog 233 #[.pointer (some ⟨b, 0, none⟩), tmv t tv, .int .i64 sg] w fun e w' => e = .returned (.tuple #[]) ∧ AddPost b m (.slice ol L.length cl) u g M N (kw (wtB L) u t) t.vs sg t.size w w' := by
  induction t using Tm.ind with
  | h t ih =>
    intro tv g M N w hbt hs hn0 hL hD hN hsz
    obtain ⟨ot, ct, rfl, -⟩ := hs.form
    have HS := Lib.hid hs
    have HL := Lib.hid hL
    have HD := Lib.hid hD
    have HN := Lib.hid hN
    have HIH := Lib.hid ih
    clear hs hL hD hN ih
    have hns : t.nm.size ≤ 1048576 := by have := Tm.bulk_eq t; omega
    have hA : Below w.heap.size w (w.alloc (.cells #[.string t.nm, .bool t.vr, .slice ot t.ts.length ct] 25)) := by go_grown
    have HD0 := Lib.hid (HD.out.below hA)
    have HX0 := Lib.hid (heap_new_at w (.cells #[.string t.nm, .bool t.vr, .slice ot t.ts.length ct] 25) w.heap.size rfl)
    have HF0 : Hid (FrX (XD b m) w (w.alloc (.cells #[.string t.nm, .bool t.vr, .slice ot t.ts.length ct] 25))) := Lib.hid (FrX.of_below hA)
    clear hA
    go_enter Tryz.func233, Tryz.ntmps233
    rw [show tmv t (.slice ot t.ts.length ct) = .agg #[.string t.nm, .bool t.vr, .slice ot t.ts.length ct] from rfl]
    cases hv : t.vr with
    | false =>
      have HVR := Lib.hid hv
      rw [hv] at HD0 HX0 HF0
      go_wp2_with fail
      generalize (w.alloc (.cells #[.string t.nm, .bool false, .slice ot t.ts.length ct] 25)) = W0 at HD0 HX0 HF0 ⊢
      have H0 : Hid (AdSt b m (.slice ol L.length cl) u g (lackN M : Nat) M t.nm false (.slice ot t.ts.length ct) w W0.drew) := Lib.hid (AdSt.drew ⟨HD0.out, HX0.out, HF0.out, HD.out.lt, HD.out.map.lt⟩)
      have HL0 := Lib.hid (HL.out.carry (H0.out.fr.below hn0 (xd_ge hnb hnm)) (Nat.le_trans hn0 H0.out.fr.size))
      have c2 := H0.out.five.2.2.1
      clear HD0 HX0 HF0 hv
      refine wp_region_noPanic ?_
      refine wp_region_held_drew (S := fun w' => w'.cell? ⟨b, 0, none⟩ = some (.slice ol L.length cl) ∧ w'.cell? ⟨b, 1, none⟩ = some (.int .i64 u) ∧ w'.cell? ⟨w.heap.size, 0, none⟩ = some (.string t.nm)) (by kernel_rfl) H0.out.s3 (fun _ => ?_)
      simp only [List.size_toArray, List.length_cons, List.length_nil, Nat.reduceAdd]
      refine wpAnyH_take (i := 0) (v := ?_) (by simp only [List.getElem?_toArray, List.getElem?_cons_zero]; rfl) (by kernel_rfl) (by kernel_rfl) (by kernel_rfl) (fun _ _ _ h => h) (Or.inl ⟨by rfl, ?_⟩) H0.out.s3 ?_
      case refine_2 => (intro ww hSw; obtain ⟨s1, s2, s3⟩ := hSw; go_simp; try with_reducible rfl)
      try simp only [Act.put, List.setIfInBounds_toArray, List.set_cons_zero, List.set_cons_succ]
      refine wpAnyH_take (i := 1) (v := ?_) (by simp only [List.getElem?_toArray, List.getElem?_cons_zero, List.getElem?_cons_succ]; rfl) (by kernel_rfl) (by kernel_rfl) (by kernel_rfl) (fun _ _ _ h => h) (Or.inl ⟨by rfl, ?_⟩) H0.out.s3 ?_
      case refine_2 => (intro ww hSw; obtain ⟨s1, s2, s3⟩ := hSw; go_simp; try with_reducible rfl)
      try simp only [Act.put, List.setIfInBounds_toArray, List.set_cons_zero, List.set_cons_succ]
      refine wpAnyH_take (i := 2) (v := ?_) (by simp only [List.getElem?_toArray, List.getElem?_cons_zero, List.getElem?_cons_succ]; rfl) (by kernel_rfl) (by kernel_rfl) (by kernel_rfl) (fun _ _ _ h => h) (Or.inl ⟨by rfl, ?_⟩) H0.out.s3 ?_
      case refine_2 => (intro ww hSw; obtain ⟨s1, s2, s3⟩ := hSw; go_simp; try with_reducible rfl)
      try simp only [Act.put, List.setIfInBounds_toArray, List.set_cons_zero, List.set_cons_succ]
      refine wpAnyH_take (i := 4) (v := ?_) (by simp only [List.getElem?_toArray, List.getElem?_cons_zero, List.getElem?_cons_succ]; rfl) (by kernel_rfl) (by kernel_rfl) (by kernel_rfl) (fun _ _ _ h => h) (Or.inl ⟨by rfl, ?_⟩) H0.out.s3 ?_
      case refine_2 => (intro ww hSw; obtain ⟨s1, s2, s3⟩ := hSw; go_simp; try with_reducible rfl)
      try simp only [Act.put, List.setIfInBounds_toArray, List.set_cons_zero, List.set_cons_succ]
      refine wpAnyH_take (i := 5) (v := ?_) (by simp only [List.getElem?_toArray, List.getElem?_cons_zero, List.getElem?_cons_succ]; rfl) (by kernel_rfl) (by kernel_rfl) (by kernel_rfl) (fun _ _ _ h => h) (Or.inl ⟨by rfl, ?_⟩) H0.out.s3 ?_
      case refine_2 => (intro ww hSw; obtain ⟨s1, s2, s3⟩ := hSw; go_simp; try with_reducible rfl)
      try simp only [Act.put, List.setIfInBounds_toArray, List.set_cons_zero, List.set_cons_succ]
      refine wpAnyH_take (i := 6) (v := ?_) (by simp only [List.getElem?_toArray, List.getElem?_cons_zero, List.getElem?_cons_succ]; rfl) (by kernel_rfl) (by kernel_rfl) (by kernel_rfl) (fun _ _ _ h => h) (Or.inl ⟨by rfl, ?_⟩) H0.out.s3 ?_
      case refine_2 => (intro ww hSw; obtain ⟨s1, s2, s3⟩ := hSw; go_simp; try with_reducible rfl)
      try simp only [Act.put, List.setIfInBounds_toArray, List.set_cons_zero, List.set_cons_succ]
      refine wpAnyH_take (i := 7) (v := ?_) (by simp only [List.getElem?_toArray, List.getElem?_cons_zero, List.getElem?_cons_succ]; rfl) (by kernel_rfl) (by kernel_rfl) (by kernel_rfl) (fun _ _ _ h => h) (Or.inl ⟨by rfl, ?_⟩) H0.out.s3 ?_
      case refine_2 => (intro ww hSw; obtain ⟨s1, s2, s3⟩ := hSw; go_simp; try with_reducible rfl)
      try simp only [Act.put, List.setIfInBounds_toArray, List.set_cons_zero, List.set_cons_succ]
      refine wpAnyH_take (i := 8) (v := ?_) (by simp only [List.getElem?_toArray, List.getElem?_cons_zero, List.getElem?_cons_succ]; rfl) (by kernel_rfl) (by kernel_rfl) (by kernel_rfl) (fun _ _ _ h => h) (Or.inl ⟨by rfl, ?_⟩) H0.out.s3 ?_
      case refine_2 => (intro ww hSw; obtain ⟨s1, s2, s3⟩ := hSw; go_simp; try with_reducible rfl)
      try simp only [Act.put, List.setIfInBounds_toArray, List.set_cons_zero, List.set_cons_succ]
      refine wpAnyH_take (i := 9) (v := ?_) (by simp only [List.getElem?_toArray, List.getElem?_cons_zero, List.getElem?_cons_succ]; rfl) (by kernel_rfl) (by kernel_rfl) (by kernel_rfl) (fun _ _ _ h => h) (Or.inl ⟨by rfl, ?_⟩) H0.out.s3 ?_
      case refine_2 => (intro ww hSw; obtain ⟨s1, s2, s3⟩ := hSw; go_simp; try with_reducible rfl)
      try simp only [Act.put, List.setIfInBounds_toArray, List.set_cons_zero, List.set_cons_succ]
      refine wpAnyH_take (i := 10) (v := ?_) (by simp only [List.getElem?_toArray, List.getElem?_cons_zero, List.getElem?_cons_succ]; rfl) (by kernel_rfl) (by kernel_rfl) (by kernel_rfl) (fun _ _ _ h => h) (Or.inl ⟨by rfl, ?_⟩) H0.out.s3 ?_
      case refine_2 => (intro ww hSw; obtain ⟨s1, s2, s3⟩ := hSw; go_simp; try with_reducible rfl)
      try simp only [Act.put, List.setIfInBounds_toArray, List.set_cons_zero, List.set_cons_succ]
      refine wpAnyH_ready (rs := [3, 11]) (by kernel_rfl) (by simp) ?_
      refine AllReadyH.cons (by simp only [List.getElem?_toArray, List.getElem?_cons_zero, List.getElem?_cons_succ]; rfl) (fun K' hK => ?_) ?_
      · go_simp
        refine hK.out _ _ H0.out.s3 (fun _ => ?_)
        clear hK
        try simp only [Act.put, List.setIfInBounds_toArray, List.set_cons_zero, List.set_cons_succ]
        clear c2
        refine wpAnyH_ready (rs := [11]) (by kernel_rfl) (by simp) ?_
        refine AllReadyH.cons (by simp only [List.getElem?_toArray, List.getElem?_cons_zero, List.getElem?_cons_succ]; rfl) (fun K' hK => ?_) AllReadyH.nil
        go_simp
        have hE := entry_any L u t.nm.data.toList (.slice ol L.length cl) W0.drew (HL0.out) (by have := HW.out.len; omega) HW.out.nms
        rw [kb_key] at hE
        refine hE.mono ?_
        rintro e w1 ⟨rfl, hb1⟩
        have H1 := Lib.hid (H0.out.carry hb1)
        clear hb1 hE
        obtain ⟨p, hp⟩ : ∃ p, p = entryOf L t.nm.data.toList := ⟨_, rfl⟩
        rw [← hp]
        have hq : 0 ≤ p.2.2 ∧ p.2.2 ≤ 1000 := by rw [hp]; exact (HW.out.entry _).2.2
        obtain ⟨y, hy⟩ : ∃ y, y = sg * p.2.2 := ⟨_, rfl⟩
        have hyb : -1000 ≤ y ∧ y ≤ 1000 := by rcases hsg with e | e <;> subst e <;> omega
        have HY : Hid (y = sg * wtB L t.nm) := Lib.hid (by rw [hy, hp]; rfl)
        have hw1 : IntKind.i64.wrap (sg * p.2.2) = y := by rw [← hy]; exact IntWalk.i64_in _ (by omega)
        have hw2 : IntKind.i64.wrap (g + y) = g + y := IntWalk.i64_in _ (by have := HN.out.wlo; have := HN.out.whi; omega)
        clear hp hy
        have hfd := rkFld2
        refine hK.out _ _ H1.out.s3 (fun _ => ?_)
        clear hK
        try simp only [Act.put, List.setIfInBounds_toArray, List.set_cons_zero, List.set_cons_succ]
        refine wpAnyH_take (i := 12) (v := ?_) (by simp only [List.getElem?_toArray, List.getElem?_cons_zero, List.getElem?_cons_succ]; rfl) (by kernel_rfl) (by kernel_rfl) (by kernel_rfl) (fun _ _ _ h => h) (Or.inl ⟨by rfl, ?_⟩) H1.out.s3 ?_
        case refine_2 => (intro ww hSw; obtain ⟨s1, s2, s3⟩ := hSw; go_simp; try with_reducible rfl)
        try simp only [Act.put, List.setIfInBounds_toArray, List.set_cons_zero, List.set_cons_succ]
        refine wpAnyH_take (i := 13) (v := ?_) (by simp only [List.getElem?_toArray, List.getElem?_cons_zero, List.getElem?_cons_succ]; rfl) (by kernel_rfl) (by kernel_rfl) (by kernel_rfl) (fun _ _ _ h => h) (Or.inl ⟨by rfl, ?_⟩) H1.out.s3 ?_
        case refine_2 => (intro ww hSw; obtain ⟨s1, s2, s3⟩ := hSw; go_simp; try with_reducible rfl)
        try simp only [Act.put, List.setIfInBounds_toArray, List.set_cons_zero, List.set_cons_succ]
        refine wpAnyH_take (i := 14) (v := ?_) (by simp only [List.getElem?_toArray, List.getElem?_cons_zero, List.getElem?_cons_succ]; rfl) (by kernel_rfl) (by kernel_rfl) (by kernel_rfl) (fun _ _ _ h => h) (Or.inl ⟨by rfl, ?_⟩) H1.out.s3 ?_
        case refine_2 => (intro ww hSw; obtain ⟨s1, s2, s3⟩ := hSw; go_simp; try with_reducible rfl)
        try simp only [Act.put, List.setIfInBounds_toArray, List.set_cons_zero, List.set_cons_succ]
        refine wpAnyH_take (i := 15) (v := ?_) (by simp only [List.getElem?_toArray, List.getElem?_cons_zero, List.getElem?_cons_succ]; rfl) (by kernel_rfl) (by kernel_rfl) (by kernel_rfl) (fun _ _ _ h => h) (Or.inl ⟨by rfl, ?_⟩) H1.out.s3 ?_
        case refine_2 => (intro ww hSw; obtain ⟨s1, s2, s3⟩ := hSw; go_simp; try with_reducible rfl)
        try simp only [Act.put, List.setIfInBounds_toArray, List.set_cons_zero, List.set_cons_succ]
        refine wpAnyH_take (i := 16) (v := ?_) (by simp only [List.getElem?_toArray, List.getElem?_cons_zero, List.getElem?_cons_succ]; rfl) (by kernel_rfl) (by kernel_rfl) (by kernel_rfl) (fun _ _ _ h => h) (Or.inl ⟨by rfl, ?_⟩) H1.out.s3 ?_
        case refine_2 => (intro ww hSw; obtain ⟨s1, s2, s3⟩ := hSw; go_simp; try with_reducible rfl)
        try simp only [Act.put, List.setIfInBounds_toArray, List.set_cons_zero, List.set_cons_succ]
        refine wpAnyH_ready (rs := [17]) (by kernel_rfl) (by simp) ?_
        have d2 := H1.out.five.2.2.1
        have f2 := H1.out.fz.1
        refine AllReadyH.cons (by simp only [List.getElem?_toArray, List.getElem?_cons_zero, List.getElem?_cons_succ]; rfl) (fun K' hK => ?_) AllReadyH.nil
        go_simp
        have H2 := Lib.hid (H1.out.setG (g + y))
        clear d2 f2
        refine hK.out _ _ H2.out.s3 (fun _ => ?_)
        clear hK
        try simp only [Act.put, List.setIfInBounds_toArray, List.set_cons_zero, List.set_cons_succ]
        refine wpAnyH_done (by kernel_rfl) ?_ _
        refine NoPanic.normal ?_
        clear hq hw1 hw2 hfd
        generalize (w1.setCell ⟨b, 2, none⟩ (.int .i64 (g + y))) = W2 at H2 ⊢
        clear H1 H0 HL0
        obtain ⟨⟨x0, x1, x2⟩, -⟩ := box3 H2.out.x
        have hts : t.ts.length ≤ 1048576 := by have := Tm.length_sizes t.ts; have := Tm.size_eq t; have := Tm.size_bulk t; omega
        have HSZ := Lib.hid (Tm.size_eq t)
        go_wp2_with fail
        clear x0 x1 x2
        go_loopw [31] (fun i wr => ∃ (k : Nat) (g' : Int) (M' : List (Key × Int)), k ≤ t.ts.length ∧ i = .int .i64 k ∧ Hid (AdSt b m (.slice ol L.length cl) u g' (lackN M' : Nat) M' t.nm false (.slice ot t.ts.length ct) w wr) ∧ Hid (g' = g + y + sg * kws (wtB L) u (t.ts.take k)) ∧ Hid (∀ q, valA M' q = valA M q + sg * cntL q (Tm.vss (t.ts.take k))) ∧ Hid (NmB (N + 1 + Tm.sizes (t.ts.take k)) g' M')) (fun i _ => t.ts.length - (intOf i).toNat)
        case atStart => exact ⟨0, _, M, by omega, rfl, H2, Lib.hid (by simp [kws]), Lib.hid (by intro q; simp [Tm.vss, cntL]), Lib.hid ⟨by have := HN.out.wlo; omega, by have := HN.out.whi; omega, by have := HN.out.len; omega, fun q => by have := HN.out.lo q; omega, fun q => by have := HN.out.hi q; omega⟩⟩
        case round =>
          obtain ⟨k, g', M', hk, rfl, HA, HG, HV, HB⟩ := hrel
          by_cases hlt : k < t.ts.length
          · have hlow := HA.out.fr.below hn0 (xd_ge hnb hnm)
            obtain ⟨bb, oo, c, sc, rfl, hbb, hc, hcm, hcs, c0, c1, c2⟩ := (HS.out.carry hlow (Nat.le_refl _)).get hlt
            obtain ⟨oc, cc, rfl, -⟩ := hcs.form
            have HCB : Hid (c.bulk ≤ 1048576) := Lib.hid (by have := Tm.bulk_mem hcm; have := Tm.bulk_eq t; omega)
            have hst : Tm.sizes (t.ts.take (k + 1)) = Tm.sizes (t.ts.take k) + c.size := by rw [Tm.take_snoc hc, Tm.sizes_append]; simp [Tm.sizes]
            have hst2 := Tm.sizes_take t.ts (k + 1)
            have hal : Below wr.heap.size wr (wr.alloc (.cells #[.string c.nm, .bool c.vr, .slice oc c.ts.length cc] 25)) := by go_grown
            have HI := Lib.hid (HIH.out c hcm (.slice oc c.ts.length cc) g' M' (N + 1 + Tm.sizes (t.ts.take k)) (wr.alloc (.cells #[.string c.nm, .bool c.vr, .slice oc c.ts.length cc] 25)) HCB.out (hcs.carry (hal.mono (Nat.le_trans hn0 HA.out.fr.size)) (Nat.le_refl _)) (Nat.le_trans (Nat.le_trans hn0 HA.out.fr.size) hal.size) (HL.out.carry (hlow.trans (hal.mono (Nat.le_trans hn0 HA.out.fr.size))) (Nat.le_refl _)) (HA.out.d.below hal) HB.out (by have := HSZ.out; omega))
            have HAL := Lib.hid hal
            have HSN := Lib.hid (Tm.take_snoc hc)
            have HST := Lib.hid hst
            clear hlow hc hcm hcs hal hst hst2
            go_wp2_with fail
            refine HI.out.mono ?_
            rintro e w3 ⟨rfl, M2, hd2, hv2, hb2, hf2⟩
            have HA2 := Lib.hid ((HA.out.carry HAL.out).sub hd2 hf2)
            have HV2 := Lib.hid hv2
            have HB2 := Lib.hid hb2
            clear hd2 hv2 hb2 hf2 HI
            go_wp2_with fail
            refine ⟨⟨k + 1, _, M2, by omega, by go_num, HA2, Lib.hid ?_, Lib.hid (fun q => ?_), Lib.hid ?_⟩, by simp [intOf]; omega⟩
            · rw [HG.out, HSN.out, kws_append]; simp only [kws]; rw [Int.mul_add]; simp; omega
            · rw [HV2.out, HV.out, HSN.out, vss_append, cntL_append]; simp only [Tm.vss, List.append_nil]; rw [Int.natCast_add, Int.mul_add]; omega
            · rw [HST.out, ← Nat.add_assoc]; exact HB2.out
          · obtain rfl : k = t.ts.length := by omega
            go_wp2_with fail
            refine bodyPost_ret (results_none rfl _ _ _) rfl ?_
            have e1 := List.take_length (l := t.ts)
            have hg := HG.out
            have hv := HV.out
            have hb := HB.out
            rw [e1] at hg hv hb
            have e2 : g' = g + sg * kw (wtB L) u t := by rw [hg, kw_fun HVR.out, HY.out, Int.mul_add]; omega
            refine ⟨rfl, M', by rw [← e2]; exact HA.out.d, fun q => by rw [hv, Tm.vs_fun HVR.out], ?_, HA.out.fr⟩
            rw [← e2, HSZ.out, ← Nat.add_assoc]
            exact hb
      · refine AllReadyH.cons (by simp only [List.getElem?_toArray, List.getElem?_cons_zero, List.getElem?_cons_succ]; rfl) (fun K' hK => ?_) AllReadyH.nil
        go_simp
        have hE := entry_any L u t.nm.data.toList (.slice ol L.length cl) W0.drew (HL0.out) (by have := HW.out.len; omega) HW.out.nms
        rw [kb_key] at hE
        refine hE.mono ?_
        rintro e w1 ⟨rfl, hb1⟩
        have H1 := Lib.hid (H0.out.carry hb1)
        clear hb1 hE
        obtain ⟨p, hp⟩ : ∃ p, p = entryOf L t.nm.data.toList := ⟨_, rfl⟩
        rw [← hp]
        have hq : 0 ≤ p.2.2 ∧ p.2.2 ≤ 1000 := by rw [hp]; exact (HW.out.entry _).2.2
        obtain ⟨y, hy⟩ : ∃ y, y = sg * p.2.2 := ⟨_, rfl⟩
        have hyb : -1000 ≤ y ∧ y ≤ 1000 := by rcases hsg with e | e <;> subst e <;> omega
        have HY : Hid (y = sg * wtB L t.nm) := Lib.hid (by rw [hy, hp]; rfl)
        have hw1 : IntKind.i64.wrap (sg * p.2.2) = y := by rw [← hy]; exact IntWalk.i64_in _ (by omega)
        have hw2 : IntKind.i64.wrap (g + y) = g + y := IntWalk.i64_in _ (by have := HN.out.wlo; have := HN.out.whi; omega)
        clear hp hy
        have hfd := rkFld2
        refine hK.out _ _ H1.out.s3 (fun _ => ?_)
        clear hK
        try simp only [Act.put, List.setIfInBounds_toArray, List.set_cons_zero, List.set_cons_succ]
        refine wpAnyH_take (i := 12) (v := ?_) (by simp only [List.getElem?_toArray, List.getElem?_cons_zero, List.getElem?_cons_succ]; rfl) (by kernel_rfl) (by kernel_rfl) (by kernel_rfl) (fun _ _ _ h => h) (Or.inl ⟨by rfl, ?_⟩) H1.out.s3 ?_
        case refine_2 => (intro ww hSw; obtain ⟨s1, s2, s3⟩ := hSw; go_simp; try with_reducible rfl)
        try simp only [Act.put, List.setIfInBounds_toArray, List.set_cons_zero, List.set_cons_succ]
        refine wpAnyH_take (i := 13) (v := ?_) (by simp only [List.getElem?_toArray, List.getElem?_cons_zero, List.getElem?_cons_succ]; rfl) (by kernel_rfl) (by kernel_rfl) (by kernel_rfl) (fun _ _ _ h => h) (Or.inl ⟨by rfl, ?_⟩) H1.out.s3 ?_
        case refine_2 => (intro ww hSw; obtain ⟨s1, s2, s3⟩ := hSw; go_simp; try with_reducible rfl)
        try simp only [Act.put, List.setIfInBounds_toArray, List.set_cons_zero, List.set_cons_succ]
        clear c2
        have c2 := H1.out.five.2.2.1
        refine wpAnyH_ready (rs := [3]) (by kernel_rfl) (by simp) ?_
        refine AllReadyH.cons (by simp only [List.getElem?_toArray, List.getElem?_cons_zero, List.getElem?_cons_succ]; rfl) (fun K' hK => ?_) AllReadyH.nil
        go_simp
        refine hK.out _ _ H1.out.s3 (fun _ => ?_)
        clear hK
        try simp only [Act.put, List.setIfInBounds_toArray, List.set_cons_zero, List.set_cons_succ]
        clear c2
        refine wpAnyH_take (i := 14) (v := ?_) (by simp only [List.getElem?_toArray, List.getElem?_cons_zero, List.getElem?_cons_succ]; rfl) (by kernel_rfl) (by kernel_rfl) (by kernel_rfl) (fun _ _ _ h => h) (Or.inl ⟨by rfl, ?_⟩) H1.out.s3 ?_
        case refine_2 => (intro ww hSw; obtain ⟨s1, s2, s3⟩ := hSw; go_simp; try with_reducible rfl)
        try simp only [Act.put, List.setIfInBounds_toArray, List.set_cons_zero, List.set_cons_succ]
        refine wpAnyH_take (i := 15) (v := ?_) (by simp only [List.getElem?_toArray, List.getElem?_cons_zero, List.getElem?_cons_succ]; rfl) (by kernel_rfl) (by kernel_rfl) (by kernel_rfl) (fun _ _ _ h => h) (Or.inl ⟨by rfl, ?_⟩) H1.out.s3 ?_
        case refine_2 => (intro ww hSw; obtain ⟨s1, s2, s3⟩ := hSw; go_simp; try with_reducible rfl)
        try simp only [Act.put, List.setIfInBounds_toArray, List.set_cons_zero, List.set_cons_succ]
        refine wpAnyH_take (i := 16) (v := ?_) (by simp only [List.getElem?_toArray, List.getElem?_cons_zero, List.getElem?_cons_succ]; rfl) (by kernel_rfl) (by kernel_rfl) (by kernel_rfl) (fun _ _ _ h => h) (Or.inl ⟨by rfl, ?_⟩) H1.out.s3 ?_
        case refine_2 => (intro ww hSw; obtain ⟨s1, s2, s3⟩ := hSw; go_simp; try with_reducible rfl)
        try simp only [Act.put, List.setIfInBounds_toArray, List.set_cons_zero, List.set_cons_succ]
        refine wpAnyH_ready (rs := [17]) (by kernel_rfl) (by simp) ?_
        have d2 := H1.out.five.2.2.1
        have f2 := H1.out.fz.1
        refine AllReadyH.cons (by simp only [List.getElem?_toArray, List.getElem?_cons_zero, List.getElem?_cons_succ]; rfl) (fun K' hK => ?_) AllReadyH.nil
        go_simp
        have H2 := Lib.hid (H1.out.setG (g + y))
        clear d2 f2
        refine hK.out _ _ H2.out.s3 (fun _ => ?_)
        clear hK
        try simp only [Act.put, List.setIfInBounds_toArray, List.set_cons_zero, List.set_cons_succ]
        refine wpAnyH_done (by kernel_rfl) ?_ _
        refine NoPanic.normal ?_
        clear hq hw1 hw2 hfd
        generalize (w1.setCell ⟨b, 2, none⟩ (.int .i64 (g + y))) = W2 at H2 ⊢
        clear H1 H0 HL0
        obtain ⟨⟨x0, x1, x2⟩, -⟩ := box3 H2.out.x
        have hts : t.ts.length ≤ 1048576 := by have := Tm.length_sizes t.ts; have := Tm.size_eq t; have := Tm.size_bulk t; omega
        have HSZ := Lib.hid (Tm.size_eq t)
        go_wp2_with fail
        clear x0 x1 x2
        go_loopw [31] (fun i wr => ∃ (k : Nat) (g' : Int) (M' : List (Key × Int)), k ≤ t.ts.length ∧ i = .int .i64 k ∧ Hid (AdSt b m (.slice ol L.length cl) u g' (lackN M' : Nat) M' t.nm false (.slice ot t.ts.length ct) w wr) ∧ Hid (g' = g + y + sg * kws (wtB L) u (t.ts.take k)) ∧ Hid (∀ q, valA M' q = valA M q + sg * cntL q (Tm.vss (t.ts.take k))) ∧ Hid (NmB (N + 1 + Tm.sizes (t.ts.take k)) g' M')) (fun i _ => t.ts.length - (intOf i).toNat)
        case atStart => exact ⟨0, _, M, by omega, rfl, H2, Lib.hid (by simp [kws]), Lib.hid (by intro q; simp [Tm.vss, cntL]), Lib.hid ⟨by have := HN.out.wlo; omega, by have := HN.out.whi; omega, by have := HN.out.len; omega, fun q => by have := HN.out.lo q; omega, fun q => by have := HN.out.hi q; omega⟩⟩
        case round =>
          obtain ⟨k, g', M', hk, rfl, HA, HG, HV, HB⟩ := hrel
          by_cases hlt : k < t.ts.length
          · have hlow := HA.out.fr.below hn0 (xd_ge hnb hnm)
            obtain ⟨bb, oo, c, sc, rfl, hbb, hc, hcm, hcs, c0, c1, c2⟩ := (HS.out.carry hlow (Nat.le_refl _)).get hlt
            obtain ⟨oc, cc, rfl, -⟩ := hcs.form
            have HCB : Hid (c.bulk ≤ 1048576) := Lib.hid (by have := Tm.bulk_mem hcm; have := Tm.bulk_eq t; omega)
            have hst : Tm.sizes (t.ts.take (k + 1)) = Tm.sizes (t.ts.take k) + c.size := by rw [Tm.take_snoc hc, Tm.sizes_append]; simp [Tm.sizes]
            have hst2 := Tm.sizes_take t.ts (k + 1)
            have hal : Below wr.heap.size wr (wr.alloc (.cells #[.string c.nm, .bool c.vr, .slice oc c.ts.length cc] 25)) := by go_grown
            have HI := Lib.hid (HIH.out c hcm (.slice oc c.ts.length cc) g' M' (N + 1 + Tm.sizes (t.ts.take k)) (wr.alloc (.cells #[.string c.nm, .bool c.vr, .slice oc c.ts.length cc] 25)) HCB.out (hcs.carry (hal.mono (Nat.le_trans hn0 HA.out.fr.size)) (Nat.le_refl _)) (Nat.le_trans (Nat.le_trans hn0 HA.out.fr.size) hal.size) (HL.out.carry (hlow.trans (hal.mono (Nat.le_trans hn0 HA.out.fr.size))) (Nat.le_refl _)) (HA.out.d.below hal) HB.out (by have := HSZ.out; omega))
            have HAL := Lib.hid hal
            have HSN := Lib.hid (Tm.take_snoc hc)
            have HST := Lib.hid hst
            clear hlow hc hcm hcs hal hst hst2
            go_wp2_with fail
            refine HI.out.mono ?_
            rintro e w3 ⟨rfl, M2, hd2, hv2, hb2, hf2⟩
            have HA2 := Lib.hid ((HA.out.carry HAL.out).sub hd2 hf2)
            have HV2 := Lib.hid hv2
            have HB2 := Lib.hid hb2
            clear hd2 hv2 hb2 hf2 HI
            go_wp2_with fail
            refine ⟨⟨k + 1, _, M2, by omega, by go_num, HA2, Lib.hid ?_, Lib.hid (fun q => ?_), Lib.hid ?_⟩, by simp [intOf]; omega⟩
            · rw [HG.out, HSN.out, kws_append]; simp only [kws]; rw [Int.mul_add]; simp; omega
            · rw [HV2.out, HV.out, HSN.out, vss_append, cntL_append]; simp only [Tm.vss, List.append_nil]; rw [Int.natCast_add, Int.mul_add]; omega
            · rw [HST.out, ← Nat.add_assoc]; exact HB2.out
          · obtain rfl : k = t.ts.length := by omega
            go_wp2_with fail
            refine bodyPost_ret (results_none rfl _ _ _) rfl ?_
            have e1 := List.take_length (l := t.ts)
            have hg := HG.out
            have hv := HV.out
            have hb := HB.out
            rw [e1] at hg hv hb
            have e2 : g' = g + sg * kw (wtB L) u t := by rw [hg, kw_fun HVR.out, HY.out, Int.mul_add]; omega
            refine ⟨rfl, M', by rw [← e2]; exact HA.out.d, fun q => by rw [hv, Tm.vs_fun HVR.out], ?_, HA.out.fr⟩
            rw [← e2, HSZ.out, ← Nat.add_assoc]
            exact hb
    | true =>
      have HVR := Lib.hid hv
      rw [hv] at HD0 HX0 HF0
      go_wp2_with fail
      generalize (w.alloc (.cells #[.string t.nm, .bool true, .slice ot t.ts.length ct] 25)) = W0 at HD0 HX0 HF0 ⊢
      have H0 : Hid (AdSt b m (.slice ol L.length cl) u g (lackN M : Nat) M t.nm true (.slice ot t.ts.length ct) w W0.drew) := Lib.hid (AdSt.drew ⟨HD0.out, HX0.out, HF0.out, HD.out.lt, HD.out.map.lt⟩)
      clear HD0 HX0 HF0 hv HIH HS HL
      have hq := HW.out.unit
      obtain ⟨y, hy⟩ : ∃ y, y = sg * u := ⟨_, rfl⟩
      have hyb : -1000 ≤ y ∧ y ≤ 1000 := by rcases hsg with e | e <;> subst e <;> omega
      have HY := Lib.hid hy
      have hw1 : IntKind.i64.wrap (sg * u) = y := by rw [← hy]; exact IntWalk.i64_in _ (by omega)
      have hw2 : IntKind.i64.wrap (g + y) = g + y := IntWalk.i64_in _ (by have := HN.out.wlo; have := HN.out.whi; omega)
      clear hy
      refine wp_region_noPanic ?_
      refine wp_region_held_drew (S := fun w' => w'.cell? ⟨b, 0, none⟩ = some (.slice ol L.length cl) ∧ w'.cell? ⟨b, 1, none⟩ = some (.int .i64 u) ∧ w'.cell? ⟨w.heap.size, 0, none⟩ = some (.string t.nm)) (by kernel_rfl) H0.out.s3 (fun _ => ?_)
      simp only [List.size_toArray, List.length_cons, List.length_nil, Nat.reduceAdd]
      refine wpAnyH_take (i := 0) (v := ?_) (by simp only [List.getElem?_toArray, List.getElem?_cons_zero]; rfl) (by kernel_rfl) (by kernel_rfl) (by kernel_rfl) (fun _ _ _ h => h) (Or.inl ⟨by rfl, ?_⟩) H0.out.s3 ?_
      case refine_2 => (intro ww hSw; obtain ⟨s1, s2, s3⟩ := hSw; go_simp; try with_reducible rfl)
      try simp only [Act.put, List.setIfInBounds_toArray, List.set_cons_zero, List.set_cons_succ]
      refine wpAnyH_take (i := 1) (v := ?_) (by simp only [List.getElem?_toArray, List.getElem?_cons_zero, List.getElem?_cons_succ]; rfl) (by kernel_rfl) (by kernel_rfl) (by kernel_rfl) (fun _ _ _ h => h) (Or.inl ⟨by rfl, ?_⟩) H0.out.s3 ?_
      case refine_2 => (intro ww hSw; obtain ⟨s1, s2, s3⟩ := hSw; go_simp; try with_reducible rfl)
      try simp only [Act.put, List.setIfInBounds_toArray, List.set_cons_zero, List.set_cons_succ]
      refine wpAnyH_take (i := 2) (v := ?_) (by simp only [List.getElem?_toArray, List.getElem?_cons_zero, List.getElem?_cons_succ]; rfl) (by kernel_rfl) (by kernel_rfl) (by kernel_rfl) (fun _ _ _ h => h) (Or.inl ⟨by rfl, ?_⟩) H0.out.s3 ?_
      case refine_2 => (intro ww hSw; obtain ⟨s1, s2, s3⟩ := hSw; go_simp; try with_reducible rfl)
      try simp only [Act.put, List.setIfInBounds_toArray, List.set_cons_zero, List.set_cons_succ]
      refine wpAnyH_take (i := 4) (v := ?_) (by simp only [List.getElem?_toArray, List.getElem?_cons_zero, List.getElem?_cons_succ]; rfl) (by kernel_rfl) (by kernel_rfl) (by kernel_rfl) (fun _ _ _ h => h) (Or.inl ⟨by rfl, ?_⟩) H0.out.s3 ?_
      case refine_2 => (intro ww hSw; obtain ⟨s1, s2, s3⟩ := hSw; go_simp; try with_reducible rfl)
      try simp only [Act.put, List.setIfInBounds_toArray, List.set_cons_zero, List.set_cons_succ]
      refine wpAnyH_take (i := 5) (v := ?_) (by simp only [List.getElem?_toArray, List.getElem?_cons_zero, List.getElem?_cons_succ]; rfl) (by kernel_rfl) (by kernel_rfl) (by kernel_rfl) (fun _ _ _ h => h) (Or.inl ⟨by rfl, ?_⟩) H0.out.s3 ?_
      case refine_2 => (intro ww hSw; obtain ⟨s1, s2, s3⟩ := hSw; go_simp; try with_reducible rfl)
      try simp only [Act.put, List.setIfInBounds_toArray, List.set_cons_zero, List.set_cons_succ]
      refine wpAnyH_take (i := 6) (v := ?_) (by simp only [List.getElem?_toArray, List.getElem?_cons_zero, List.getElem?_cons_succ]; rfl) (by kernel_rfl) (by kernel_rfl) (by kernel_rfl) (fun _ _ _ h => h) (Or.inl ⟨by rfl, ?_⟩) H0.out.s3 ?_
      case refine_2 => (intro ww hSw; obtain ⟨s1, s2, s3⟩ := hSw; go_simp; try with_reducible rfl)
      try simp only [Act.put, List.setIfInBounds_toArray, List.set_cons_zero, List.set_cons_succ]
      refine wpAnyH_take (i := 7) (v := ?_) (by simp only [List.getElem?_toArray, List.getElem?_cons_zero, List.getElem?_cons_succ]; rfl) (by kernel_rfl) (by kernel_rfl) (by kernel_rfl) (fun _ _ _ h => h) (Or.inl ⟨by rfl, ?_⟩) H0.out.s3 ?_
      case refine_2 => (intro ww hSw; obtain ⟨s1, s2, s3⟩ := hSw; go_simp; try with_reducible rfl)
      try simp only [Act.put, List.setIfInBounds_toArray, List.set_cons_zero, List.set_cons_succ]
      refine wpAnyH_take (i := 8) (v := ?_) (by simp only [List.getElem?_toArray, List.getElem?_cons_zero, List.getElem?_cons_succ]; rfl) (by kernel_rfl) (by kernel_rfl) (by kernel_rfl) (fun _ _ _ h => h) (Or.inl ⟨by rfl, ?_⟩) H0.out.s3 ?_
      case refine_2 => (intro ww hSw; obtain ⟨s1, s2, s3⟩ := hSw; go_simp; try with_reducible rfl)
      try simp only [Act.put, List.setIfInBounds_toArray, List.set_cons_zero, List.set_cons_succ]
      refine wpAnyH_take (i := 9) (v := ?_) (by simp only [List.getElem?_toArray, List.getElem?_cons_zero, List.getElem?_cons_succ]; rfl) (by kernel_rfl) (by kernel_rfl) (by kernel_rfl) (fun _ _ _ h => h) (Or.inl ⟨by rfl, ?_⟩) H0.out.s3 ?_
      case refine_2 => (intro ww hSw; obtain ⟨s1, s2, s3⟩ := hSw; go_simp; try with_reducible rfl)
      try simp only [Act.put, List.setIfInBounds_toArray, List.set_cons_zero, List.set_cons_succ]
      refine wpAnyH_take (i := 10) (v := ?_) (by simp only [List.getElem?_toArray, List.getElem?_cons_zero, List.getElem?_cons_succ]; rfl) (by kernel_rfl) (by kernel_rfl) (by kernel_rfl) (fun _ _ _ h => h) (Or.inl ⟨by rfl, ?_⟩) H0.out.s3 ?_
      case refine_2 => (intro ww hSw; obtain ⟨s1, s2, s3⟩ := hSw; go_simp; try with_reducible rfl)
      try simp only [Act.put, List.setIfInBounds_toArray, List.set_cons_zero, List.set_cons_succ]
      have c2 := H0.out.five.2.2.1
      refine wpAnyH_ready (rs := [3]) (by kernel_rfl) (by simp) ?_
      refine AllReadyH.cons (by simp only [List.getElem?_toArray, List.getElem?_cons_zero, List.getElem?_cons_succ]; rfl) (fun K' hK => ?_) AllReadyH.nil
      go_simp
      refine hK.out _ _ H0.out.s3 (fun _ => ?_)
      clear hK
      try simp only [Act.put, List.setIfInBounds_toArray, List.set_cons_zero, List.set_cons_succ]
      refine wpAnyH_take (i := 11) (v := ?_) (by simp only [List.getElem?_toArray, List.getElem?_cons_zero, List.getElem?_cons_succ]; rfl) (by kernel_rfl) (by kernel_rfl) (by kernel_rfl) (fun _ _ _ h => h) (Or.inl ⟨by rfl, ?_⟩) H0.out.s3 ?_
      case refine_2 => (intro ww hSw; obtain ⟨s1, s2, s3⟩ := hSw; go_simp; try with_reducible rfl)
      try simp only [Act.put, List.setIfInBounds_toArray, List.set_cons_zero, List.set_cons_succ]
      refine wpAnyH_take (i := 12) (v := ?_) (by simp only [List.getElem?_toArray, List.getElem?_cons_zero, List.getElem?_cons_succ]; rfl) (by kernel_rfl) (by kernel_rfl) (by kernel_rfl) (fun _ _ _ h => h) (Or.inl ⟨by rfl, ?_⟩) H0.out.s3 ?_
      case refine_2 => (intro ww hSw; obtain ⟨s1, s2, s3⟩ := hSw; go_simp; try with_reducible rfl)
      try simp only [Act.put, List.setIfInBounds_toArray, List.set_cons_zero, List.set_cons_succ]
      refine wpAnyH_take (i := 13) (v := ?_) (by simp only [List.getElem?_toArray, List.getElem?_cons_zero, List.getElem?_cons_succ]; rfl) (by kernel_rfl) (by kernel_rfl) (by kernel_rfl) (fun _ _ _ h => h) (Or.inl ⟨by rfl, ?_⟩) H0.out.s3 ?_
      case refine_2 => (intro ww hSw; obtain ⟨s1, s2, s3⟩ := hSw; go_simp; try with_reducible rfl)
      try simp only [Act.put, List.setIfInBounds_toArray, List.set_cons_zero, List.set_cons_succ]
      have f2 := H0.out.fz.1
      refine wpAnyH_ready (rs := [14]) (by kernel_rfl) (by simp) ?_
      refine AllReadyH.cons (by simp only [List.getElem?_toArray, List.getElem?_cons_zero, List.getElem?_cons_succ]; rfl) (fun K' hK => ?_) AllReadyH.nil
      go_simp
      have H1 : Hid (AdSt b m (.slice ol L.length cl) u (g + y) (lackN M : Nat) M t.nm true (.slice ot t.ts.length ct) w (W0.setCell ⟨b, 2, none⟩ (.int .i64 (g + y))).drew) := Lib.hid (H0.out.setG (g + y))
      clear c2 f2
      refine hK.out _ _ H1.out.s3 (fun _ => ?_)
      clear hK
      try simp only [Act.put, List.setIfInBounds_toArray, List.set_cons_zero, List.set_cons_succ]
      refine wpAnyH_done (by kernel_rfl) ?_ _
      refine NoPanic.normal ?_
      clear hq hw1 hw2 H0
      go_wp2_with fail
      generalize (W0.setCell ⟨b, 2, none⟩ (.int .i64 (g + y))).drew = W1 at H1 ⊢
      obtain ⟨z, hz⟩ : ∃ z, z = valA M t.nm.data.toList := ⟨_, rfl⟩
      have hzb : -(N : Int) ≤ z ∧ z ≤ N := by rw [hz]; exact ⟨HN.out.lo _, HN.out.hi _⟩
      have hlkb := lackN_le M
      have hlen := HN.out.len
      have HLP := Lib.hid (lackN_put (H1.out.d.map.nodup) t.nm.data.toList (z + sg))
      have HZ := Lib.hid hz
      have hsg2 : -1 ≤ sg ∧ sg ≤ 1 := by rcases hsg with e | e <;> subst e <;> omega
      have hwz : IntKind.i64.wrap (z + sg) = z + sg := IntWalk.i64_in _ (by omega)
      have hwd : IntKind.i64.wrap ((lackN M : Nat) - 1 : Int) = (lackN M : Nat) - 1 := IntWalk.i64_in _ (by omega)
      have HM1 := Lib.hid (H1.out.drew.m3 hns)
      rw [← hz] at HM1
      clear hz
      refine wp_region_noPanic ?_
      refine wp_region_held_drew (S := fun w' => w'.cell? ⟨b, 3, none⟩ = some (.map (some m)) ∧ w'.cell? ⟨w.heap.size, 0, none⟩ = some (.string t.nm) ∧ (Instr.lookup 164 (.map (some m)) (.string t.nm) false).run Tryz.prog w' = .ok (.int .i64 (z)) w') (by kernel_rfl) HM1.out (fun _ => ?_)
      simp only [List.size_toArray, List.length_cons, List.length_nil, Nat.reduceAdd]
      refine wpAnyH_take (i := 0) (v := ?_) (by simp only [List.getElem?_toArray, List.getElem?_cons_zero]; rfl) (by kernel_rfl) (by kernel_rfl) (by kernel_rfl) (fun _ _ _ h => h) (Or.inl ⟨by rfl, ?_⟩) HM1.out ?_
      case refine_2 => (intro ww hSw; obtain ⟨s1, s2, s3⟩ := hSw; go_simp; try with_reducible rfl)
      try simp only [Act.put, List.setIfInBounds_toArray, List.set_cons_zero, List.set_cons_succ]
      refine wpAnyH_take (i := 1) (v := ?_) (by simp only [List.getElem?_toArray, List.getElem?_cons_zero, List.getElem?_cons_succ]; rfl) (by kernel_rfl) (by kernel_rfl) (by kernel_rfl) (fun _ _ _ h => h) (Or.inl ⟨by rfl, ?_⟩) HM1.out ?_
      case refine_2 => (intro ww hSw; obtain ⟨s1, s2, s3⟩ := hSw; go_simp; try with_reducible rfl)
      try simp only [Act.put, List.setIfInBounds_toArray, List.set_cons_zero, List.set_cons_succ]
      refine wpAnyH_take (i := 2) (v := ?_) (by simp only [List.getElem?_toArray, List.getElem?_cons_zero, List.getElem?_cons_succ]; rfl) (by kernel_rfl) (by kernel_rfl) (by kernel_rfl) (fun _ _ _ h => h) (Or.inl ⟨by rfl, ?_⟩) HM1.out ?_
      case refine_2 => (intro ww hSw; obtain ⟨s1, s2, s3⟩ := hSw; go_simp; try with_reducible rfl)
      try simp only [Act.put, List.setIfInBounds_toArray, List.set_cons_zero, List.set_cons_succ]
      refine wpAnyH_take (i := 3) (v := ?_) (by simp only [List.getElem?_toArray, List.getElem?_cons_zero, List.getElem?_cons_succ]; rfl) (by kernel_rfl) (by kernel_rfl) (by kernel_rfl) (fun _ _ _ h => h) (Or.inl ⟨by rfl, ?_⟩) HM1.out ?_
      case refine_2 => (intro ww hSw; obtain ⟨s1, s2, s3⟩ := hSw; go_simp; try with_reducible rfl)
      try simp only [Act.put, List.setIfInBounds_toArray, List.set_cons_zero, List.set_cons_succ]
      refine wpAnyH_take (i := 4) (v := ?_) (by simp only [List.getElem?_toArray, List.getElem?_cons_zero, List.getElem?_cons_succ]; rfl) (by kernel_rfl) (by kernel_rfl) (by kernel_rfl) (fun _ _ _ h => h) (Or.inl ⟨by rfl, ?_⟩) HM1.out ?_
      case refine_2 => (intro ww hSw; obtain ⟨s1, s2, s3⟩ := hSw; go_simp; try with_reducible rfl)
      try simp only [Act.put, List.setIfInBounds_toArray, List.set_cons_zero, List.set_cons_succ]
      refine wpAnyH_take (i := 5) (v := ?_) (by simp only [List.getElem?_toArray, List.getElem?_cons_zero, List.getElem?_cons_succ]; rfl) (by kernel_rfl) (by kernel_rfl) (by kernel_rfl) (fun _ _ _ h => h) (Or.inl ⟨by rfl, ?_⟩) HM1.out ?_
      case refine_2 => (intro ww hSw; obtain ⟨s1, s2, s3⟩ := hSw; go_simp; try with_reducible rfl)
      try simp only [Act.put, List.setIfInBounds_toArray, List.set_cons_zero, List.set_cons_succ]
      refine wpAnyH_take (i := 6) (v := ?_) (by simp only [List.getElem?_toArray, List.getElem?_cons_zero, List.getElem?_cons_succ]; rfl) (by kernel_rfl) (by kernel_rfl) (by kernel_rfl) (fun _ _ _ h => h) (Or.inl ⟨by rfl, ?_⟩) HM1.out ?_
      case refine_2 => (intro ww hSw; obtain ⟨s1, s2, s3⟩ := hSw; go_simp; try with_reducible rfl)
      try simp only [Act.put, List.setIfInBounds_toArray, List.set_cons_zero, List.set_cons_succ]
      refine wpAnyH_take (i := 7) (v := ?_) (by simp only [List.getElem?_toArray, List.getElem?_cons_zero, List.getElem?_cons_succ]; rfl) (by kernel_rfl) (by kernel_rfl) (by kernel_rfl) (fun _ _ _ h => h) (Or.inl ⟨by rfl, ?_⟩) HM1.out ?_
      case refine_2 => (intro ww hSw; obtain ⟨s1, s2, s3⟩ := hSw; go_simp; try with_reducible rfl)
      try simp only [Act.put, List.setIfInBounds_toArray, List.set_cons_zero, List.set_cons_succ]
      refine wpAnyH_done (by kernel_rfl) ?_ _
      refine NoPanic.normal ?_
      clear HM1
      by_cases hn1 : z < 0
      · have hdd : decide (z < 0) = true := decide_eq_true hn1
        have c4 := H1.out.drew.five.2.2.2.2
        have f4 := H1.out.drew.fz.2
        have H2 : Hid (AdSt b m (.slice ol L.length cl) u (g + y) ((lackN M : Nat) - 1) M t.nm true (.slice ot t.ts.length ct) w (W1.setCell ⟨b, 4, none⟩ (.int .i64 ((lackN M : Nat) - 1))).drew) := Lib.hid (H1.out.drew.setK ((lackN M : Nat) - 1))
        go_wp2_with fail
        clear c4 f4 hdd H1 hwd
        generalize (W1.setCell ⟨b, 4, none⟩ (.int .i64 ((lackN M : Nat) - 1))).drew = W2 at H2 ⊢
        have H2d := Lib.hid (H2.out.drew)
        have HM2 := Lib.hid (H2d.out.m3 hns)
        rw [← HZ.out] at HM2
        refine wp_region_noPanic ?_
        refine wp_region_held_drew (S := fun w' => w'.cell? ⟨b, 3, none⟩ = some (.map (some m)) ∧ w'.cell? ⟨w.heap.size, 0, none⟩ = some (.string t.nm)) (by kernel_rfl) H2d.out.m2 (fun _ => ?_)
        simp only [List.size_toArray, List.length_cons, List.length_nil, Nat.reduceAdd]
        refine wpAnyH_take (i := 0) (v := ?_) (by simp only [List.getElem?_toArray, List.getElem?_cons_zero]; rfl) (by kernel_rfl) (by kernel_rfl) (by kernel_rfl) (fun _ _ _ h => h) (Or.inl ⟨by rfl, ?_⟩) H2d.out.m2 ?_
        case refine_2 => (intro ww hSw; obtain ⟨s1, s2⟩ := hSw; go_simp; try with_reducible rfl)
        try simp only [Act.put, List.setIfInBounds_toArray, List.set_cons_zero, List.set_cons_succ]
        refine wpAnyH_take (i := 1) (v := ?_) (by simp only [List.getElem?_toArray, List.getElem?_cons_zero, List.getElem?_cons_succ]; rfl) (by kernel_rfl) (by kernel_rfl) (by kernel_rfl) (fun _ _ _ h => h) (Or.inl ⟨by rfl, ?_⟩) H2d.out.m2 ?_
        case refine_2 => (intro ww hSw; obtain ⟨s1, s2⟩ := hSw; go_simp; try with_reducible rfl)
        try simp only [Act.put, List.setIfInBounds_toArray, List.set_cons_zero, List.set_cons_succ]
        refine wpAnyH_take (i := 2) (v := ?_) (by simp only [List.getElem?_toArray, List.getElem?_cons_zero, List.getElem?_cons_succ]; rfl) (by kernel_rfl) (by kernel_rfl) (by kernel_rfl) (fun _ _ _ h => h) (Or.inl ⟨by rfl, ?_⟩) H2d.out.m2 ?_
        case refine_2 => (intro ww hSw; obtain ⟨s1, s2⟩ := hSw; go_simp; try with_reducible rfl)
        try simp only [Act.put, List.setIfInBounds_toArray, List.set_cons_zero, List.set_cons_succ]
        refine wpAnyH_take (i := 3) (v := ?_) (by simp only [List.getElem?_toArray, List.getElem?_cons_zero, List.getElem?_cons_succ]; rfl) (by kernel_rfl) (by kernel_rfl) (by kernel_rfl) (fun _ _ _ h => h) (Or.inl ⟨by rfl, ?_⟩) H2d.out.m2 ?_
        case refine_2 => (intro ww hSw; obtain ⟨s1, s2⟩ := hSw; go_simp; try with_reducible rfl)
        try simp only [Act.put, List.setIfInBounds_toArray, List.set_cons_zero, List.set_cons_succ]
        refine wpAnyH_take (i := 4) (v := ?_) (by simp only [List.getElem?_toArray, List.getElem?_cons_zero, List.getElem?_cons_succ]; rfl) (by kernel_rfl) (by kernel_rfl) (by kernel_rfl) (fun _ _ _ h => h) (Or.inl ⟨by rfl, ?_⟩) H2d.out.m2 ?_
        case refine_2 => (intro ww hSw; obtain ⟨s1, s2⟩ := hSw; go_simp; try with_reducible rfl)
        try simp only [Act.put, List.setIfInBounds_toArray, List.set_cons_zero, List.set_cons_succ]
        refine wpAnyH_take (i := 5) (v := ?_) (by simp only [List.getElem?_toArray, List.getElem?_cons_zero, List.getElem?_cons_succ]; rfl) (by kernel_rfl) (by kernel_rfl) (by kernel_rfl) (fun _ _ _ h => h) (Or.inl ⟨by rfl, ?_⟩) H2d.out.m2 ?_
        case refine_2 => (intro ww hSw; obtain ⟨s1, s2⟩ := hSw; go_simp; try with_reducible rfl)
        try simp only [Act.put, List.setIfInBounds_toArray, List.set_cons_zero, List.set_cons_succ]
        refine wpAnyH_take (i := 7) (v := ?_) (by simp only [List.getElem?_toArray, List.getElem?_cons_zero, List.getElem?_cons_succ]; rfl) (by kernel_rfl) (by kernel_rfl) (by kernel_rfl) (fun _ _ _ h => h) (Or.inl ⟨by rfl, ?_⟩) H2d.out.m2 ?_
        case refine_2 => (intro ww hSw; obtain ⟨s1, s2⟩ := hSw; go_simp; try with_reducible rfl)
        try simp only [Act.put, List.setIfInBounds_toArray, List.set_cons_zero, List.set_cons_succ]
        have hrun := HM2.out.2.2
        refine wpAnyH_ready (rs := [6]) (by kernel_rfl) (by simp) ?_
        refine AllReadyH.cons (by simp only [List.getElem?_toArray, List.getElem?_cons_zero, List.getElem?_cons_succ]; rfl) (fun K' hK => ?_) AllReadyH.nil
        go_simp
        clear hrun
        refine hK.out _ _ H2d.out.m2 (fun _ => ?_)
        clear hK
        try simp only [Act.put, List.setIfInBounds_toArray, List.set_cons_zero, List.set_cons_succ]
        refine wpAnyH_take (i := 8) (v := ?_) (by simp only [List.getElem?_toArray, List.getElem?_cons_zero, List.getElem?_cons_succ]; rfl) (by kernel_rfl) (by kernel_rfl) (by kernel_rfl) (fun _ _ _ h => h) (Or.inl ⟨by rfl, ?_⟩) H2d.out.m2 ?_
        case refine_2 => (intro ww hSw; obtain ⟨s1, s2⟩ := hSw; go_simp; try with_reducible rfl)
        try simp only [Act.put, List.setIfInBounds_toArray, List.set_cons_zero, List.set_cons_succ]
        obtain ⟨W3, hrun, hmap3, hturn3⟩ := surplus_store (H2d.out.d.map) hns (by omega) (z + sg)
        have H3 := Lib.hid (H2d.out.put hturn3 hmap3)
        clear hmap3 hturn3
        refine wpAnyH_ready (rs := [9]) (by kernel_rfl) (by simp) ?_
        refine AllReadyH.cons (by simp only [List.getElem?_toArray, List.getElem?_cons_zero, List.getElem?_cons_succ]; rfl) (fun K' hK => ?_) AllReadyH.nil
        go_simp
        clear hrun
        refine hK.out _ _ H3.out.m2 (fun _ => ?_)
        clear hK
        try simp only [Act.put, List.setIfInBounds_toArray, List.set_cons_zero, List.set_cons_succ]
        refine wpAnyH_done (by kernel_rfl) ?_ _
        refine NoPanic.normal ?_
        go_wp2_with fail
        have hz3 : valA (putA M t.nm.data.toList (z + sg)) t.nm.data.toList = z + sg := by rw [valA_put, if_pos rfl]
        have HM3 := Lib.hid (H3.out.drew.m3 hns)
        rw [hz3] at HM3
        clear hz3 HM2 H2d H2
        refine wp_region_noPanic ?_
        refine wp_region_held_drew (S := fun w' => w'.cell? ⟨b, 3, none⟩ = some (.map (some m)) ∧ w'.cell? ⟨w.heap.size, 0, none⟩ = some (.string t.nm) ∧ (Instr.lookup 164 (.map (some m)) (.string t.nm) false).run Tryz.prog w' = .ok (.int .i64 ((z + sg))) w') (by kernel_rfl) HM3.out (fun _ => ?_)
        simp only [List.size_toArray, List.length_cons, List.length_nil, Nat.reduceAdd]
        refine wpAnyH_take (i := 0) (v := ?_) (by simp only [List.getElem?_toArray, List.getElem?_cons_zero]; rfl) (by kernel_rfl) (by kernel_rfl) (by kernel_rfl) (fun _ _ _ h => h) (Or.inl ⟨by rfl, ?_⟩) HM3.out ?_
        case refine_2 => (intro ww hSw; obtain ⟨s1, s2, s3⟩ := hSw; go_simp; try with_reducible rfl)
        try simp only [Act.put, List.setIfInBounds_toArray, List.set_cons_zero, List.set_cons_succ]
        refine wpAnyH_take (i := 1) (v := ?_) (by simp only [List.getElem?_toArray, List.getElem?_cons_zero, List.getElem?_cons_succ]; rfl) (by kernel_rfl) (by kernel_rfl) (by kernel_rfl) (fun _ _ _ h => h) (Or.inl ⟨by rfl, ?_⟩) HM3.out ?_
        case refine_2 => (intro ww hSw; obtain ⟨s1, s2, s3⟩ := hSw; go_simp; try with_reducible rfl)
        try simp only [Act.put, List.setIfInBounds_toArray, List.set_cons_zero, List.set_cons_succ]
        refine wpAnyH_take (i := 2) (v := ?_) (by simp only [List.getElem?_toArray, List.getElem?_cons_zero, List.getElem?_cons_succ]; rfl) (by kernel_rfl) (by kernel_rfl) (by kernel_rfl) (fun _ _ _ h => h) (Or.inl ⟨by rfl, ?_⟩) HM3.out ?_
        case refine_2 => (intro ww hSw; obtain ⟨s1, s2, s3⟩ := hSw; go_simp; try with_reducible rfl)
        try simp only [Act.put, List.setIfInBounds_toArray, List.set_cons_zero, List.set_cons_succ]
        refine wpAnyH_take (i := 3) (v := ?_) (by simp only [List.getElem?_toArray, List.getElem?_cons_zero, List.getElem?_cons_succ]; rfl) (by kernel_rfl) (by kernel_rfl) (by kernel_rfl) (fun _ _ _ h => h) (Or.inl ⟨by rfl, ?_⟩) HM3.out ?_
        case refine_2 => (intro ww hSw; obtain ⟨s1, s2, s3⟩ := hSw; go_simp; try with_reducible rfl)
        try simp only [Act.put, List.setIfInBounds_toArray, List.set_cons_zero, List.set_cons_succ]
        refine wpAnyH_take (i := 4) (v := ?_) (by simp only [List.getElem?_toArray, List.getElem?_cons_zero, List.getElem?_cons_succ]; rfl) (by kernel_rfl) (by kernel_rfl) (by kernel_rfl) (fun _ _ _ h => h) (Or.inl ⟨by rfl, ?_⟩) HM3.out ?_
        case refine_2 => (intro ww hSw; obtain ⟨s1, s2, s3⟩ := hSw; go_simp; try with_reducible rfl)
        try simp only [Act.put, List.setIfInBounds_toArray, List.set_cons_zero, List.set_cons_succ]
        refine wpAnyH_take (i := 5) (v := ?_) (by simp only [List.getElem?_toArray, List.getElem?_cons_zero, List.getElem?_cons_succ]; rfl) (by kernel_rfl) (by kernel_rfl) (by kernel_rfl) (fun _ _ _ h => h) (Or.inl ⟨by rfl, ?_⟩) HM3.out ?_
        case refine_2 => (intro ww hSw; obtain ⟨s1, s2, s3⟩ := hSw; go_simp; try with_reducible rfl)
        try simp only [Act.put, List.setIfInBounds_toArray, List.set_cons_zero, List.set_cons_succ]
        refine wpAnyH_take (i := 6) (v := ?_) (by simp only [List.getElem?_toArray, List.getElem?_cons_zero, List.getElem?_cons_succ]; rfl) (by kernel_rfl) (by kernel_rfl) (by kernel_rfl) (fun _ _ _ h => h) (Or.inl ⟨by rfl, ?_⟩) HM3.out ?_
        case refine_2 => (intro ww hSw; obtain ⟨s1, s2, s3⟩ := hSw; go_simp; try with_reducible rfl)
        try simp only [Act.put, List.setIfInBounds_toArray, List.set_cons_zero, List.set_cons_succ]
        refine wpAnyH_take (i := 7) (v := ?_) (by simp only [List.getElem?_toArray, List.getElem?_cons_zero, List.getElem?_cons_succ]; rfl) (by kernel_rfl) (by kernel_rfl) (by kernel_rfl) (fun _ _ _ h => h) (Or.inl ⟨by rfl, ?_⟩) HM3.out ?_
        case refine_2 => (intro ww hSw; obtain ⟨s1, s2, s3⟩ := hSw; go_simp; try with_reducible rfl)
        try simp only [Act.put, List.setIfInBounds_toArray, List.set_cons_zero, List.set_cons_succ]
        refine wpAnyH_done (by kernel_rfl) ?_ _
        refine NoPanic.normal ?_
        by_cases hn2 : z + sg < 0
        · have hdd : decide (z + sg < 0) = true := decide_eq_true hn2
          have c4 := H3.out.drew.five.2.2.2.2
          have f4 := H3.out.drew.fz.2
          have hwa : IntKind.i64.wrap (((lackN M : Nat) : Int) : Int) = ((lackN M : Nat) : Int) := IntWalk.i64_in _ (by omega)
          have H4 := Lib.hid (H3.out.drew.setK (((lackN M : Nat) : Int)))
          have HL4 : Hid ((((lackN M : Nat) : Int) : Int) = (lackN (putA M t.nm.data.toList (z + sg)) : Nat)) := Lib.hid (by have := HLP.out; rw [← HZ.out] at this; unfold neg1 at this; rw [if_pos hn1, if_pos hn2] at this; omega)
          go_wp2_with fail
          (try simp only [Exit.inBlock, Exit.then])
          refine bodyPost_end (results_none rfl _ _ _) rfl ?_
          exact ⟨rfl, add_end HVR.out HY.out HZ.out HN.out (by rw [← HL4.out]; exact H4.out) hsg2 hyb⟩
        · have hdd : decide (z + sg < 0) = false := decide_eq_false hn2
          have H4 := Lib.hid (H3.out.drew)
          have HL4 : Hid ((((lackN M : Nat) - 1) : Int) = (lackN (putA M t.nm.data.toList (z + sg)) : Nat)) := Lib.hid (by have := HLP.out; rw [← HZ.out] at this; unfold neg1 at this; rw [if_pos hn1, if_neg hn2] at this; omega)
          go_wp2_with fail
          (try simp only [Exit.inBlock, Exit.then])
          refine bodyPost_end (results_none rfl _ _ _) rfl ?_
          exact ⟨rfl, add_end HVR.out HY.out HZ.out HN.out (by rw [← HL4.out]; exact H4.out) hsg2 hyb⟩
      · have hdd : decide (z < 0) = false := decide_eq_false hn1
        have H2 := Lib.hid (H1.out.drew)
        go_wp2_with fail
        clear hdd H1 hwd
        generalize W1.drew = W2 at H2 ⊢
        have H2d := Lib.hid (H2.out.drew)
        have HM2 := Lib.hid (H2d.out.m3 hns)
        rw [← HZ.out] at HM2
        refine wp_region_noPanic ?_
        refine wp_region_held_drew (S := fun w' => w'.cell? ⟨b, 3, none⟩ = some (.map (some m)) ∧ w'.cell? ⟨w.heap.size, 0, none⟩ = some (.string t.nm)) (by kernel_rfl) H2d.out.m2 (fun _ => ?_)
        simp only [List.size_toArray, List.length_cons, List.length_nil, Nat.reduceAdd]
        refine wpAnyH_take (i := 0) (v := ?_) (by simp only [List.getElem?_toArray, List.getElem?_cons_zero]; rfl) (by kernel_rfl) (by kernel_rfl) (by kernel_rfl) (fun _ _ _ h => h) (Or.inl ⟨by rfl, ?_⟩) H2d.out.m2 ?_
        case refine_2 => (intro ww hSw; obtain ⟨s1, s2⟩ := hSw; go_simp; try with_reducible rfl)
        try simp only [Act.put, List.setIfInBounds_toArray, List.set_cons_zero, List.set_cons_succ]
        refine wpAnyH_take (i := 1) (v := ?_) (by simp only [List.getElem?_toArray, List.getElem?_cons_zero, List.getElem?_cons_succ]; rfl) (by kernel_rfl) (by kernel_rfl) (by kernel_rfl) (fun _ _ _ h => h) (Or.inl ⟨by rfl, ?_⟩) H2d.out.m2 ?_
        case refine_2 => (intro ww hSw; obtain ⟨s1, s2⟩ := hSw; go_simp; try with_reducible rfl)
        try simp only [Act.put, List.setIfInBounds_toArray, List.set_cons_zero, List.set_cons_succ]
        refine wpAnyH_take (i := 2) (v := ?_) (by simp only [List.getElem?_toArray, List.getElem?_cons_zero, List.getElem?_cons_succ]; rfl) (by kernel_rfl) (by kernel_rfl) (by kernel_rfl) (fun _ _ _ h => h) (Or.inl ⟨by rfl, ?_⟩) H2d.out.m2 ?_
        case refine_2 => (intro ww hSw; obtain ⟨s1, s2⟩ := hSw; go_simp; try with_reducible rfl)
        try simp only [Act.put, List.setIfInBounds_toArray, List.set_cons_zero, List.set_cons_succ]
        refine wpAnyH_take (i := 3) (v := ?_) (by simp only [List.getElem?_toArray, List.getElem?_cons_zero, List.getElem?_cons_succ]; rfl) (by kernel_rfl) (by kernel_rfl) (by kernel_rfl) (fun _ _ _ h => h) (Or.inl ⟨by rfl, ?_⟩) H2d.out.m2 ?_
        case refine_2 => (intro ww hSw; obtain ⟨s1, s2⟩ := hSw; go_simp; try with_reducible rfl)
        try simp only [Act.put, List.setIfInBounds_toArray, List.set_cons_zero, List.set_cons_succ]
        refine wpAnyH_take (i := 4) (v := ?_) (by simp only [List.getElem?_toArray, List.getElem?_cons_zero, List.getElem?_cons_succ]; rfl) (by kernel_rfl) (by kernel_rfl) (by kernel_rfl) (fun _ _ _ h => h) (Or.inl ⟨by rfl, ?_⟩) H2d.out.m2 ?_
        case refine_2 => (intro ww hSw; obtain ⟨s1, s2⟩ := hSw; go_simp; try with_reducible rfl)
        try simp only [Act.put, List.setIfInBounds_toArray, List.set_cons_zero, List.set_cons_succ]
        refine wpAnyH_take (i := 5) (v := ?_) (by simp only [List.getElem?_toArray, List.getElem?_cons_zero, List.getElem?_cons_succ]; rfl) (by kernel_rfl) (by kernel_rfl) (by kernel_rfl) (fun _ _ _ h => h) (Or.inl ⟨by rfl, ?_⟩) H2d.out.m2 ?_
        case refine_2 => (intro ww hSw; obtain ⟨s1, s2⟩ := hSw; go_simp; try with_reducible rfl)
        try simp only [Act.put, List.setIfInBounds_toArray, List.set_cons_zero, List.set_cons_succ]
        refine wpAnyH_take (i := 7) (v := ?_) (by simp only [List.getElem?_toArray, List.getElem?_cons_zero, List.getElem?_cons_succ]; rfl) (by kernel_rfl) (by kernel_rfl) (by kernel_rfl) (fun _ _ _ h => h) (Or.inl ⟨by rfl, ?_⟩) H2d.out.m2 ?_
        case refine_2 => (intro ww hSw; obtain ⟨s1, s2⟩ := hSw; go_simp; try with_reducible rfl)
        try simp only [Act.put, List.setIfInBounds_toArray, List.set_cons_zero, List.set_cons_succ]
        have hrun := HM2.out.2.2
        refine wpAnyH_ready (rs := [6]) (by kernel_rfl) (by simp) ?_
        refine AllReadyH.cons (by simp only [List.getElem?_toArray, List.getElem?_cons_zero, List.getElem?_cons_succ]; rfl) (fun K' hK => ?_) AllReadyH.nil
        go_simp
        clear hrun
        refine hK.out _ _ H2d.out.m2 (fun _ => ?_)
        clear hK
        try simp only [Act.put, List.setIfInBounds_toArray, List.set_cons_zero, List.set_cons_succ]
        refine wpAnyH_take (i := 8) (v := ?_) (by simp only [List.getElem?_toArray, List.getElem?_cons_zero, List.getElem?_cons_succ]; rfl) (by kernel_rfl) (by kernel_rfl) (by kernel_rfl) (fun _ _ _ h => h) (Or.inl ⟨by rfl, ?_⟩) H2d.out.m2 ?_
        case refine_2 => (intro ww hSw; obtain ⟨s1, s2⟩ := hSw; go_simp; try with_reducible rfl)
        try simp only [Act.put, List.setIfInBounds_toArray, List.set_cons_zero, List.set_cons_succ]
        obtain ⟨W3, hrun, hmap3, hturn3⟩ := surplus_store (H2d.out.d.map) hns (by omega) (z + sg)
        have H3 := Lib.hid (H2d.out.put hturn3 hmap3)
        clear hmap3 hturn3
        refine wpAnyH_ready (rs := [9]) (by kernel_rfl) (by simp) ?_
        refine AllReadyH.cons (by simp only [List.getElem?_toArray, List.getElem?_cons_zero, List.getElem?_cons_succ]; rfl) (fun K' hK => ?_) AllReadyH.nil
        go_simp
        clear hrun
        refine hK.out _ _ H3.out.m2 (fun _ => ?_)
        clear hK
        try simp only [Act.put, List.setIfInBounds_toArray, List.set_cons_zero, List.set_cons_succ]
        refine wpAnyH_done (by kernel_rfl) ?_ _
        refine NoPanic.normal ?_
        go_wp2_with fail
        have hz3 : valA (putA M t.nm.data.toList (z + sg)) t.nm.data.toList = z + sg := by rw [valA_put, if_pos rfl]
        have HM3 := Lib.hid (H3.out.drew.m3 hns)
        rw [hz3] at HM3
        clear hz3 HM2 H2d H2
        refine wp_region_noPanic ?_
        refine wp_region_held_drew (S := fun w' => w'.cell? ⟨b, 3, none⟩ = some (.map (some m)) ∧ w'.cell? ⟨w.heap.size, 0, none⟩ = some (.string t.nm) ∧ (Instr.lookup 164 (.map (some m)) (.string t.nm) false).run Tryz.prog w' = .ok (.int .i64 ((z + sg))) w') (by kernel_rfl) HM3.out (fun _ => ?_)
        simp only [List.size_toArray, List.length_cons, List.length_nil, Nat.reduceAdd]
        refine wpAnyH_take (i := 0) (v := ?_) (by simp only [List.getElem?_toArray, List.getElem?_cons_zero]; rfl) (by kernel_rfl) (by kernel_rfl) (by kernel_rfl) (fun _ _ _ h => h) (Or.inl ⟨by rfl, ?_⟩) HM3.out ?_
        case refine_2 => (intro ww hSw; obtain ⟨s1, s2, s3⟩ := hSw; go_simp; try with_reducible rfl)
        try simp only [Act.put, List.setIfInBounds_toArray, List.set_cons_zero, List.set_cons_succ]
        refine wpAnyH_take (i := 1) (v := ?_) (by simp only [List.getElem?_toArray, List.getElem?_cons_zero, List.getElem?_cons_succ]; rfl) (by kernel_rfl) (by kernel_rfl) (by kernel_rfl) (fun _ _ _ h => h) (Or.inl ⟨by rfl, ?_⟩) HM3.out ?_
        case refine_2 => (intro ww hSw; obtain ⟨s1, s2, s3⟩ := hSw; go_simp; try with_reducible rfl)
        try simp only [Act.put, List.setIfInBounds_toArray, List.set_cons_zero, List.set_cons_succ]
        refine wpAnyH_take (i := 2) (v := ?_) (by simp only [List.getElem?_toArray, List.getElem?_cons_zero, List.getElem?_cons_succ]; rfl) (by kernel_rfl) (by kernel_rfl) (by kernel_rfl) (fun _ _ _ h => h) (Or.inl ⟨by rfl, ?_⟩) HM3.out ?_
        case refine_2 => (intro ww hSw; obtain ⟨s1, s2, s3⟩ := hSw; go_simp; try with_reducible rfl)
        try simp only [Act.put, List.setIfInBounds_toArray, List.set_cons_zero, List.set_cons_succ]
        refine wpAnyH_take (i := 3) (v := ?_) (by simp only [List.getElem?_toArray, List.getElem?_cons_zero, List.getElem?_cons_succ]; rfl) (by kernel_rfl) (by kernel_rfl) (by kernel_rfl) (fun _ _ _ h => h) (Or.inl ⟨by rfl, ?_⟩) HM3.out ?_
        case refine_2 => (intro ww hSw; obtain ⟨s1, s2, s3⟩ := hSw; go_simp; try with_reducible rfl)
        try simp only [Act.put, List.setIfInBounds_toArray, List.set_cons_zero, List.set_cons_succ]
        refine wpAnyH_take (i := 4) (v := ?_) (by simp only [List.getElem?_toArray, List.getElem?_cons_zero, List.getElem?_cons_succ]; rfl) (by kernel_rfl) (by kernel_rfl) (by kernel_rfl) (fun _ _ _ h => h) (Or.inl ⟨by rfl, ?_⟩) HM3.out ?_
        case refine_2 => (intro ww hSw; obtain ⟨s1, s2, s3⟩ := hSw; go_simp; try with_reducible rfl)
        try simp only [Act.put, List.setIfInBounds_toArray, List.set_cons_zero, List.set_cons_succ]
        refine wpAnyH_take (i := 5) (v := ?_) (by simp only [List.getElem?_toArray, List.getElem?_cons_zero, List.getElem?_cons_succ]; rfl) (by kernel_rfl) (by kernel_rfl) (by kernel_rfl) (fun _ _ _ h => h) (Or.inl ⟨by rfl, ?_⟩) HM3.out ?_
        case refine_2 => (intro ww hSw; obtain ⟨s1, s2, s3⟩ := hSw; go_simp; try with_reducible rfl)
        try simp only [Act.put, List.setIfInBounds_toArray, List.set_cons_zero, List.set_cons_succ]
        refine wpAnyH_take (i := 6) (v := ?_) (by simp only [List.getElem?_toArray, List.getElem?_cons_zero, List.getElem?_cons_succ]; rfl) (by kernel_rfl) (by kernel_rfl) (by kernel_rfl) (fun _ _ _ h => h) (Or.inl ⟨by rfl, ?_⟩) HM3.out ?_
        case refine_2 => (intro ww hSw; obtain ⟨s1, s2, s3⟩ := hSw; go_simp; try with_reducible rfl)
        try simp only [Act.put, List.setIfInBounds_toArray, List.set_cons_zero, List.set_cons_succ]
        refine wpAnyH_take (i := 7) (v := ?_) (by simp only [List.getElem?_toArray, List.getElem?_cons_zero, List.getElem?_cons_succ]; rfl) (by kernel_rfl) (by kernel_rfl) (by kernel_rfl) (fun _ _ _ h => h) (Or.inl ⟨by rfl, ?_⟩) HM3.out ?_
        case refine_2 => (intro ww hSw; obtain ⟨s1, s2, s3⟩ := hSw; go_simp; try with_reducible rfl)
        try simp only [Act.put, List.setIfInBounds_toArray, List.set_cons_zero, List.set_cons_succ]
        refine wpAnyH_done (by kernel_rfl) ?_ _
        refine NoPanic.normal ?_
        by_cases hn2 : z + sg < 0
        · have hdd : decide (z + sg < 0) = true := decide_eq_true hn2
          have c4 := H3.out.drew.five.2.2.2.2
          have f4 := H3.out.drew.fz.2
          have hwa : IntKind.i64.wrap (((lackN M : Nat) + 1) : Int) = ((lackN M : Nat) + 1) := IntWalk.i64_in _ (by omega)
          have H4 := Lib.hid (H3.out.drew.setK (((lackN M : Nat) + 1)))
          have HL4 : Hid ((((lackN M : Nat) + 1) : Int) = (lackN (putA M t.nm.data.toList (z + sg)) : Nat)) := Lib.hid (by have := HLP.out; rw [← HZ.out] at this; unfold neg1 at this; rw [if_neg (by omega), if_pos hn2] at this; omega)
          go_wp2_with fail
          (try simp only [Exit.inBlock, Exit.then])
          refine bodyPost_end (results_none rfl _ _ _) rfl ?_
          exact ⟨rfl, add_end HVR.out HY.out HZ.out HN.out (by rw [← HL4.out]; exact H4.out) hsg2 hyb⟩
        · have hdd : decide (z + sg < 0) = false := decide_eq_false hn2
          have H4 := Lib.hid (H3.out.drew)
          have HL4 : Hid (((lackN M : Nat) : Int) = (lackN (putA M t.nm.data.toList (z + sg)) : Nat)) := Lib.hid (by have := HLP.out; rw [← HZ.out] at this; unfold neg1 at this; rw [if_neg (by omega), if_neg hn2] at this; omega)
          go_wp2_with fail
          (try simp only [Exit.inBlock, Exit.then])
          refine bodyPost_end (results_none rfl _ _ _) rfl ?_
          exact ⟨rfl, add_end HVR.out HY.out HZ.out HN.out (by rw [← HL4.out]; exact H4.out) hsg2 hyb⟩
end Go.Proofs.YtnomppdmhgefiaaGreat
/- Package weight: compareArgs. -/
namespace Go.Proofs.YtnomppdmhgefiaaGreat
open Go.RowKit Go.Shelf Go.Maps

/-- what is known of the difference behind a comparison -/
def DfPost (b m : Nat) (lv : Value) (u dw : Int) (dc : Key → Int) (same : Prop) (N : Nat) (w w' : World) : Prop :=
  ∃ M', DIs b m lv u dw M' w' ∧ (∀ q, valA M' q = dc q) ∧ NmB N dw M' ∧ (same → M' = []) ∧ FrX (XD b m) w w'
/-- compare at terms of a size below N -/
def KcH (L : List Rk) (u : Int) (n0 b m : Nat) (ol : Option Addr) (cl : Nat) (N : Nat) : Prop := ∀ (s t : Tm) (sv tv : Value) (W : World), s.size + t.size < N → s.bare → t.bare → s.bulk ≤ 1048576 → t.bulk ≤ 1048576 → SlIs n0 W s.ts sv → SlIs n0 W t.ts tv → n0 ≤ W.heap.size →
  RksIs n0 W L (.slice ol L.length cl) → DIs b m (.slice ol L.length cl) u 0 [] W →
  Calls Tryz.prog 127 #[.pointer (some ⟨b, 0, none⟩), tmv s sv, tmv t tv] W fun e W' => e = .returned (.int .i64 (krel (wtB L) (rkB L) u s t)) ∧
    DfPost b m (.slice ol L.length cl) u (kw (wtB L) u s - kw (wtB L) u t) (fun q => (cntL q s.vs : Int) - cntL q t.vs) (s = t) (s.size + t.size) W W'
theorem sizes_snoc {l : List Tm} {k : Nat} {c : Tm} (h : l[k]? = some c) : Tm.sizes (l.take (k + 1)) = Tm.sizes (l.take k) + c.size := by rw [Tm.take_snoc h, Tm.sizes_append]; simp [Tm.sizes]
theorem kws_snoc {wt : ByteArray → Int} {un : Int} {l : List Tm} {k : Nat} {c : Tm} (h : l[k]? = some c) : kws wt un (l.take (k + 1)) = kws wt un (l.take k) + kw wt un c := by rw [Tm.take_snoc h, kws_append]; simp [kws]
theorem vss_snoc {l : List Tm} {k : Nat} {c : Tm} (h : l[k]? = some c) (q : Key) : cntL q (Tm.vss (l.take (k + 1))) = cntL q (Tm.vss (l.take k)) + cntL q c.vs := by rw [Tm.take_snoc h, vss_append, cntL_append]; simp [Tm.vss]
set_option maxRecDepth 100000 in
set_option maxHeartbeats 8000000 in
theorem cargs_any {L : List Rk} {u : Int} (HW : Hid (WtOk L u)) (n0 b m : Nat) (ol : Option Addr) (cl : Nat) (hnb : n0 ≤ b) (hnm : n0 ≤ m) (N : Nat) (HH : Hid (KcH L u n0 b m ol cl N)) (l r : List Tm) (sv tv : Value) (w : World)
    (hs : SlIs n0 w l sv) (ht : SlIs n0 w r tv) (hlr : l.length = r.length) (hsz : Tm.sizes l + Tm.sizes r < N) (hbl : ∀ a ∈ l, a.bare) (hbr : ∀ a ∈ r, a.bare) (hul : Tm.bulks l ≤ 1048576) (hur : Tm.bulks r ≤ 1048576) (hn0 : n0 ≤ w.heap.size)
    (hL : RksIs n0 w L (.slice ol L.length cl)) (hD : DIs b m (.slice ol L.length cl) u 0 [] w) :
    Calls Tryz.prog 232 #[.pointer (some ⟨b, 0, none⟩), sv, tv] w fun e w' => e = .returned (.int .i64 (kargs (wtB L) (rkB L) u l r)) ∧
      DfPost b m (.slice ol L.length cl) u (kws (wtB L) u l - kws (wtB L) u r) (fun q => (cntL q (Tm.vss l) : Int) - cntL q (Tm.vss r)) (l = r) (Tm.sizes l + Tm.sizes r) w w' := by
  obtain ⟨os, cs, rfl, -⟩ := hs.form
  obtain ⟨ot, ct, rfl, -⟩ := ht.form
  have hsb : Tm.sizes l ≤ 1048576 := Nat.le_trans (Tm.sizes_bulks l fun u _ => Tm.size_bulk u) hul
  have hsb2 : Tm.sizes r ≤ 1048576 := Nat.le_trans (Tm.sizes_bulks r fun u _ => Tm.size_bulk u) hur
  have hll : l.length ≤ 1048576 := Nat.le_trans (Tm.length_sizes l) hsb
  have hrl : r.length ≤ 1048576 := by omega
  have HS := Lib.hid hs
  have HT := Lib.hid ht
  have HLR := Lib.hid hlr
  have HL := Lib.hid hL
  have HD := Lib.hid hD
  have HBL := Lib.hid hbl
  have HBR := Lib.hid hbr
  clear hs ht hL hD hbl hbr hlr
  go_enter Tryz.func232, Tryz.ntmps232
  go_wp2_with fail
  go_loopw [12] (fun i wr => ∃ k : Nat, k ≤ l.length ∧ i = .int .i64 k ∧ Hid (l.take k = r.take k) ∧ Hid (DIs b m (.slice ol L.length cl) u 0 [] wr) ∧ Hid (FrX (XD b m) w wr)) (fun i _ => l.length - (intOf i).toNat)
  case atStart => exact ⟨0, by omega, rfl, Lib.hid (by simp), HD, Lib.hid (FrX.refl _ _)⟩
  case round =>
    obtain ⟨k, hk, rfl, HK, HDk, HF⟩ := hrel
    by_cases hlt : k < l.length
    · have hlt2 : k < r.length := by rw [← HLR.out]; exact hlt
      have hlow := HF.out.below hn0 (xd_ge hnb hnm)
      obtain ⟨bs, ps, a, av, rfl, hbs, ha, ham, has, c0, c1, c2⟩ := (HS.out.carry hlow (Nat.le_refl _)).get hlt
      obtain ⟨bt, pt, c, cv, rfl, hbt, hc, hcm, hcs, e0, e1, e2⟩ := (HT.out.carry hlow (Nat.le_refl _)).get hlt2
      obtain ⟨oa, ca, rfl, -⟩ := has.form
      obtain ⟨oc, cc, rfl, -⟩ := hcs.form
      have has2 := Tm.size_mem ham
      have hcs2 := Tm.size_mem hcm
      have hab := Tm.bulk_mem ham
      have hcb := Tm.bulk_mem hcm
      have HC := Lib.hid (HH.out a c (.slice oa a.ts.length ca) (.slice oc c.ts.length cc) wr.drew (by omega) (HBL.out a ham) (HBR.out c hcm) (by omega) (by omega) (has.carry (Below.refl n0 wr).drew (Nat.le_refl _)) (hcs.carry (Below.refl n0 wr).drew (Nat.le_refl _)) (Nat.le_trans hn0 HF.out.size) (HL.out.carry hlow.drew (Nat.le_refl _)) (HDk.out.below (Below.refl _ wr).drew))
      have S0 : Hid (wr.drew.cell? ⟨bs, ps + k * 3, none⟩ = some (.string a.nm) ∧ wr.drew.cell? ⟨bs, ps + k * 3 + 1, none⟩ = some (.bool a.vr) ∧ wr.drew.cell? ⟨bs, ps + k * 3 + 2, none⟩ = some (.slice oa a.ts.length ca) ∧ wr.drew.cell? ⟨bt, pt + k * 3, none⟩ = some (.string c.nm) ∧ wr.drew.cell? ⟨bt, pt + k * 3 + 1, none⟩ = some (.bool c.vr) ∧ wr.drew.cell? ⟨bt, pt + k * 3 + 2, none⟩ = some (.slice oc c.ts.length cc)) := Lib.hid ⟨c0, c1, c2, e0, e1, e2⟩
      have HA := Lib.hid ha
      have HCC := Lib.hid hc
      have HBS := Lib.hid hbs
      have HBT := Lib.hid hbt
      have hab2 : a.bulk ≤ 1048576 := by omega
      have hcb2 : c.bulk ≤ 1048576 := by omega
      have hp1 := Tm.size_pos a
      have hp2 := Tm.size_pos c
      clear hlow has hcs c0 c1 c2 e0 e1 e2 ha hc ham hcm has2 hcs2 hab hcb hbs hbt
      go_wp2_with fail
      refine wp_region_noPanic ?_
      refine wp_region_held_drew (S := fun w' => w'.cell? ⟨bs, ps + k * 3, none⟩ = some (.string a.nm) ∧ w'.cell? ⟨bs, ps + k * 3 + 1, none⟩ = some (.bool a.vr) ∧ w'.cell? ⟨bs, ps + k * 3 + 2, none⟩ = some (.slice oa a.ts.length ca) ∧ w'.cell? ⟨bt, pt + k * 3, none⟩ = some (.string c.nm) ∧ w'.cell? ⟨bt, pt + k * 3 + 1, none⟩ = some (.bool c.vr) ∧ w'.cell? ⟨bt, pt + k * 3 + 2, none⟩ = some (.slice oc c.ts.length cc)) (by kernel_rfl) S0.out (fun _ => ?_)
      simp only [List.size_toArray, List.length_cons, List.length_nil, Nat.reduceAdd]
      refine wpAnyH_take (i := 0) (v := ?_) (by simp only [List.getElem?_toArray, List.getElem?_cons_zero]; rfl) (by kernel_rfl) (by kernel_rfl) (by kernel_rfl) (fun _ _ _ h => h) (Or.inl ⟨by rfl, ?_⟩) S0.out ?_
      case refine_2 => (intro ww hSw; obtain ⟨s1, s2, s3, s4, s5, s6⟩ := hSw; go_simp; try with_reducible rfl)
      try simp only [Act.put, List.setIfInBounds_toArray, List.set_cons_zero, List.set_cons_succ]
      refine wpAnyH_take (i := 1) (v := ?_) (by simp only [List.getElem?_toArray, List.getElem?_cons_zero, List.getElem?_cons_succ]; rfl) (by kernel_rfl) (by kernel_rfl) (by kernel_rfl) (fun _ _ _ h => h) (Or.inl ⟨by rfl, ?_⟩) S0.out ?_
      case refine_2 => (intro ww hSw; obtain ⟨s1, s2, s3, s4, s5, s6⟩ := hSw; go_simp; try with_reducible rfl)
      try simp only [Act.put, List.setIfInBounds_toArray, List.set_cons_zero, List.set_cons_succ]
      refine wpAnyH_take (i := 2) (v := ?_) (by simp only [List.getElem?_toArray, List.getElem?_cons_zero, List.getElem?_cons_succ]; rfl) (by kernel_rfl) (by kernel_rfl) (by kernel_rfl) (fun _ _ _ h => h) (Or.inl ⟨by rfl, ?_⟩) S0.out ?_
      case refine_2 => (intro ww hSw; obtain ⟨s1, s2, s3, s4, s5, s6⟩ := hSw; go_simp; try with_reducible rfl)
      try simp only [Act.put, List.setIfInBounds_toArray, List.set_cons_zero, List.set_cons_succ]
      refine wpAnyH_take (i := 3) (v := ?_) (by simp only [List.getElem?_toArray, List.getElem?_cons_zero, List.getElem?_cons_succ]; rfl) (by kernel_rfl) (by kernel_rfl) (by kernel_rfl) (fun _ _ _ h => h) (Or.inl ⟨by rfl, ?_⟩) S0.out ?_
      case refine_2 => (intro ww hSw; obtain ⟨s1, s2, s3, s4, s5, s6⟩ := hSw; go_simp; try with_reducible rfl)
      try simp only [Act.put, List.setIfInBounds_toArray, List.set_cons_zero, List.set_cons_succ]
      refine wpAnyH_take (i := 4) (v := ?_) (by simp only [List.getElem?_toArray, List.getElem?_cons_zero, List.getElem?_cons_succ]; rfl) (by kernel_rfl) (by kernel_rfl) (by kernel_rfl) (fun _ _ _ h => h) (Or.inl ⟨by rfl, ?_⟩) S0.out ?_
      case refine_2 => (intro ww hSw; obtain ⟨s1, s2, s3, s4, s5, s6⟩ := hSw; go_simp; try with_reducible rfl)
      try simp only [Act.put, List.setIfInBounds_toArray, List.set_cons_zero, List.set_cons_succ]
      refine wpAnyH_take (i := 5) (v := ?_) (by simp only [List.getElem?_toArray, List.getElem?_cons_zero, List.getElem?_cons_succ]; rfl) (by kernel_rfl) (by kernel_rfl) (by kernel_rfl) (fun _ _ _ h => h) (Or.inl ⟨by rfl, ?_⟩) S0.out ?_
      case refine_2 => (intro ww hSw; obtain ⟨s1, s2, s3, s4, s5, s6⟩ := hSw; go_simp; try with_reducible rfl)
      try simp only [Act.put, List.setIfInBounds_toArray, List.set_cons_zero, List.set_cons_succ]
      refine wpAnyH_take (i := 6) (v := ?_) (by simp only [List.getElem?_toArray, List.getElem?_cons_zero, List.getElem?_cons_succ]; rfl) (by kernel_rfl) (by kernel_rfl) (by kernel_rfl) (fun _ _ _ h => h) (Or.inl ⟨by rfl, ?_⟩) S0.out ?_
      case refine_2 => (intro ww hSw; obtain ⟨s1, s2, s3, s4, s5, s6⟩ := hSw; go_simp; try with_reducible rfl)
      try simp only [Act.put, List.setIfInBounds_toArray, List.set_cons_zero, List.set_cons_succ]
      refine wpAnyH_take (i := 7) (v := ?_) (by simp only [List.getElem?_toArray, List.getElem?_cons_zero, List.getElem?_cons_succ]; rfl) (by kernel_rfl) (by kernel_rfl) (by kernel_rfl) (fun _ _ _ h => h) (Or.inl ⟨by rfl, ?_⟩) S0.out ?_
      case refine_2 => (intro ww hSw; obtain ⟨s1, s2, s3, s4, s5, s6⟩ := hSw; go_simp; try with_reducible rfl)
      try simp only [Act.put, List.setIfInBounds_toArray, List.set_cons_zero, List.set_cons_succ]
      refine wpAnyH_take (i := 8) (v := ?_) (by simp only [List.getElem?_toArray, List.getElem?_cons_zero, List.getElem?_cons_succ]; rfl) (by kernel_rfl) (by kernel_rfl) (by kernel_rfl) (fun _ _ _ h => h) (Or.inl ⟨by rfl, ?_⟩) S0.out ?_
      case refine_2 => (intro ww hSw; obtain ⟨s1, s2, s3, s4, s5, s6⟩ := hSw; go_simp; try with_reducible rfl)
      try simp only [Act.put, List.setIfInBounds_toArray, List.set_cons_zero, List.set_cons_succ]
      refine wpAnyH_ready (rs := [9]) (by kernel_rfl) (by simp) ?_
      refine AllReadyH.cons (by simp only [List.getElem?_toArray, List.getElem?_cons_zero, List.getElem?_cons_succ]; rfl) (fun K' hK => ?_) AllReadyH.nil
      go_simp
      refine HC.out.mono ?_
      rintro e w1 ⟨rfl, M1, hd1, hv1, hb1, hm1, hf1⟩
      have hlow := HF.out.below hn0 (xd_ge hnb hnm)
      have hlow1 := (HF.out.drew.trans hf1).below hn0 (xd_ge hnb hnm)
      have S1 : Hid (w1.cell? ⟨bs, ps + k * 3, none⟩ = some (.string a.nm) ∧ w1.cell? ⟨bs, ps + k * 3 + 1, none⟩ = some (.bool a.vr) ∧ w1.cell? ⟨bs, ps + k * 3 + 2, none⟩ = some (.slice oa a.ts.length ca) ∧ w1.cell? ⟨bt, pt + k * 3, none⟩ = some (.string c.nm) ∧ w1.cell? ⟨bt, pt + k * 3 + 1, none⟩ = some (.bool c.vr) ∧ w1.cell? ⟨bt, pt + k * 3 + 2, none⟩ = some (.slice oc c.ts.length cc)) :=
        Lib.hid ⟨(hf1.below (Nat.le_trans hn0 HF.out.size) (xd_ge hnb hnm)).cell (p := ⟨bs, _, none⟩) HBS.out |>.trans S0.out.1, (hf1.below (Nat.le_trans hn0 HF.out.size) (xd_ge hnb hnm)).cell (p := ⟨bs, _, none⟩) HBS.out |>.trans S0.out.2.1, (hf1.below (Nat.le_trans hn0 HF.out.size) (xd_ge hnb hnm)).cell (p := ⟨bs, _, none⟩) HBS.out |>.trans S0.out.2.2.1,
          (hf1.below (Nat.le_trans hn0 HF.out.size) (xd_ge hnb hnm)).cell (p := ⟨bt, _, none⟩) HBT.out |>.trans S0.out.2.2.2.1, (hf1.below (Nat.le_trans hn0 HF.out.size) (xd_ge hnb hnm)).cell (p := ⟨bt, _, none⟩) HBT.out |>.trans S0.out.2.2.2.2.1, (hf1.below (Nat.le_trans hn0 HF.out.size) (xd_ge hnb hnm)).cell (p := ⟨bt, _, none⟩) HBT.out |>.trans S0.out.2.2.2.2.2⟩
      have HD1 := Lib.hid hd1
      have HV1 := Lib.hid hv1
      have HB1 := Lib.hid hb1
      have HM1 := Lib.hid hm1
      have HF1 := Lib.hid (HF.out.drew.trans hf1)
      clear hd1 hv1 hb1 hm1 hf1 hlow hlow1 HC
      refine hK.out _ _ S1.out (fun _ => ?_)
      clear hK
      try simp only [Act.put, List.setIfInBounds_toArray, List.set_cons_zero, List.set_cons_succ]
      refine wpAnyH_take (i := 10) (v := ?_) (by simp only [List.getElem?_toArray, List.getElem?_cons_zero, List.getElem?_cons_succ]; rfl) (by kernel_rfl) (by kernel_rfl) (by kernel_rfl) (fun _ _ _ h => h) (Or.inl ⟨by rfl, ?_⟩) S1.out ?_
      case refine_2 => (intro ww hSw; obtain ⟨s1, s2, s3, s4, s5, s6⟩ := hSw; go_simp; try with_reducible rfl)
      try simp only [Act.put, List.setIfInBounds_toArray, List.set_cons_zero, List.set_cons_succ]
      refine wpAnyH_done (by kernel_rfl) ?_ _
      refine NoPanic.normal ?_
      by_cases hac : a = c
      · subst hac
        rw [krel_self]
        have HD2 : Hid (DIs b m (.slice ol L.length cl) u 0 [] w1) := Lib.hid (by have h := HD1.out; rw [HM1.out rfl, Int.sub_self] at h; exact h)
        go_wp2_with fail
        exact ⟨⟨k + 1, by omega, by go_num, Lib.hid (by rw [List.take_add_one, List.take_add_one, HK.out, HA.out, HCC.out]), HD2, HF1⟩, by simp [intOf]; omega⟩
      · have hd : (krel (wtB L) (rkB L) u a c == 1) = false := by rw [beq_eq_false_iff_ne]; exact krel_ne hac
        have HR : Hid (kargs (wtB L) (rkB L) u l r = krel (wtB L) (rkB L) u a c) := Lib.hid (kargs_at HK.out HA.out HCC.out hac)
        have HNE : Hid (l ≠ r) := Lib.hid fun e => hac (by have h1 := HA.out; rw [e, HCC.out] at h1; exact (Option.some.inj h1).symm)
        have hg1 : kws (wtB L) u (l.take (k + 1)) - kws (wtB L) u (r.take (k + 1)) = kw (wtB L) u a - kw (wtB L) u c := by rw [kws_snoc HA.out, kws_snoc HCC.out, HK.out]; omega
        have hv1 : ∀ q, (cntL q (Tm.vss (l.take (k + 1))) : Int) - cntL q (Tm.vss (r.take (k + 1))) = (cntL q a.vs : Int) - cntL q c.vs := fun q => by rw [vss_snoc HA.out, vss_snoc HCC.out, HK.out]; omega
        have hz1 : a.size + c.size ≤ Tm.sizes (l.take (k + 1)) + Tm.sizes (r.take (k + 1)) := by rw [sizes_snoc HA.out, sizes_snoc HCC.out]; omega
        have HG1 := Lib.hid hg1
        have HVV := Lib.hid hv1
        have HZ1 := Lib.hid hz1
        clear hac hg1 hv1 hz1
        go_wp2_with fail
        go_loopw [9] (fun i wr2 => ∃ (j : Nat) (M2 : List (Key × Int)), k + 1 ≤ j ∧ j ≤ l.length ∧ i = .int .i64 j ∧ Hid (DIs b m (.slice ol L.length cl) u (kws (wtB L) u (l.take j) - kws (wtB L) u (r.take j)) M2 wr2) ∧ Hid (∀ q, valA M2 q = (cntL q (Tm.vss (l.take j)) : Int) - cntL q (Tm.vss (r.take j))) ∧ Hid (NmB (Tm.sizes (l.take j) + Tm.sizes (r.take j)) (kws (wtB L) u (l.take j) - kws (wtB L) u (r.take j)) M2) ∧ Hid (FrX (XD b m) w wr2)) (fun i _ => l.length - (intOf i).toNat)
        case atStart => exact ⟨k + 1, M1, by omega, by omega, by go_num, Lib.hid (by rw [HG1.out]; exact HD1.out), Lib.hid (fun q => by rw [HVV.out, HV1.out]), Lib.hid (by rw [HG1.out]; exact HB1.out.mono HZ1.out), HF1⟩
        case round =>
          obtain ⟨j, M2, hkj, hj, rfl, HD2, HV2, HB2, HF2⟩ := hrel
          clear HA HCC S0 S1 HBS HBT HD1 HV1 HB1 HM1 HF1 HG1 HVV HZ1 HF HDk
          by_cases hjt : j < l.length
          · have hjt2 : j < r.length := by rw [← HLR.out]; exact hjt
            have hlow := HF2.out.below hn0 (xd_ge hnb hnm)
            obtain ⟨bs2, ps2, a2, av2, ea, hbs2, ha2, ham2, has2, c0, c1, c2⟩ := (HS.out.carry hlow (Nat.le_refl _)).get hjt
            obtain ⟨bt2, pt2, d2, dv2, ed, hbt2, hd2, hdm2, hds2, e0, e1, e2⟩ := (HT.out.carry hlow (Nat.le_refl _)).get hjt2
            obtain ⟨rfl, rfl⟩ : bs2 = bs ∧ ps2 = ps := by injection ea with ea; injection ea with e1 e2; exact ⟨e1.symm, e2.symm⟩
            obtain ⟨rfl, rfl⟩ : bt2 = bt ∧ pt2 = pt := by injection ed with ed; injection ed with e1 e2; exact ⟨e1.symm, e2.symm⟩
            obtain ⟨oa2, ca2, rfl, -⟩ := has2.form
            obtain ⟨od2, cd2, rfl, -⟩ := hds2.form
            have hta := Tm.sizes_take l (j + 1)
            have htb := Tm.sizes_take r (j + 1)
            have hsa := sizes_snoc ha2
            have hsd := sizes_snoc hd2
            have hab := Tm.bulk_mem ham2
            have hdb := Tm.bulk_mem hdm2
            have HADD1 := Lib.hid (add_any HW n0 b m ol cl 1 (.inl rfl) hnb hnm a2 (.slice oa2 a2.ts.length ca2) _ M2 (Tm.sizes (l.take j) + Tm.sizes (r.take j)) wr (by omega) has2 (Nat.le_trans hn0 HF2.out.size) (HL.out.carry hlow (Nat.le_refl _)) HD2.out HB2.out (by omega))
            have HDS := Lib.hid hds2
            have HA2 := Lib.hid ha2
            have HD2E := Lib.hid hd2
            have HBT2 := Lib.hid hbt2
            have HE := Lib.hid (And.intro e0 (And.intro e1 e2))
            have hsum : Tm.sizes (l.take j) + Tm.sizes (r.take j) + a2.size + d2.size ≤ 4194304 := by omega
            have hdb2 : d2.bulk ≤ 1048576 := by omega
            have HSA := Lib.hid hsa
            have HSD := Lib.hid hsd
            clear hlow ea ed ha2 ham2 has2 hd2 hdm2 hds2 e0 e1 e2 hta htb hsa hsd hab hdb hbs2 hbt2
            go_wp2_with fail
            refine HADD1.out.mono ?_
            rintro e w3 ⟨rfl, M3, hd3, hv3, hb3, hf3⟩
            have hlow3 := (HF2.out.trans hf3).below hn0 (xd_ge hnb hnm)
            have hlow3' := hf3.below (Nat.le_trans hn0 HF2.out.size) (xd_ge hnb hnm)
            have HADD2 := Lib.hid (add_any HW n0 b m ol cl (-1) (.inr rfl) hnb hnm d2 (.slice od2 d2.ts.length cd2) _ M3 _ w3 hdb2 (HDS.out.carry hlow3' (Nat.le_refl _)) (Nat.le_trans hn0 (HF2.out.trans hf3).size) (HL.out.carry hlow3 (Nat.le_refl _)) hd3 hb3 hsum)
            have e0 := (hlow3'.cell (p := ⟨bt2, _, none⟩) HBT2.out).trans HE.out.1
            have e1 := (hlow3'.cell (p := ⟨bt2, _, none⟩) HBT2.out).trans HE.out.2.1
            have e2 := (hlow3'.cell (p := ⟨bt2, _, none⟩) HBT2.out).trans HE.out.2.2
            have HV3 := Lib.hid hv3
            have HF3 := Lib.hid (HF2.out.trans hf3)
            clear hlow3 hlow3' hd3 hv3 hb3 hf3 c0 c1 c2 HADD1
            go_wp2_with fail
            refine HADD2.out.mono ?_
            rintro e w4 ⟨rfl, M4, hd4, hv4, hb4, hf4⟩
            have hgg : kws (wtB L) u (l.take (j + 1)) - kws (wtB L) u (r.take (j + 1)) = kws (wtB L) u (l.take j) - kws (wtB L) u (r.take j) + 1 * kw (wtB L) u a2 + -1 * kw (wtB L) u d2 := by rw [kws_snoc HA2.out, kws_snoc HD2E.out]; omega
            rw [← hgg] at hd4 hb4
            have HD4 := Lib.hid hd4
            have HV4 : Hid (∀ q, valA M4 q = (cntL q (Tm.vss (l.take (j + 1))) : Int) - cntL q (Tm.vss (r.take (j + 1)))) := Lib.hid fun q => by rw [hv4, HV3.out, HV2.out, vss_snoc HA2.out, vss_snoc HD2E.out]; omega
            have HB4 : Hid (NmB (Tm.sizes (l.take (j + 1)) + Tm.sizes (r.take (j + 1))) (kws (wtB L) u (l.take (j + 1)) - kws (wtB L) u (r.take (j + 1))) M4) := Lib.hid (hb4.mono (by rw [HSA.out, HSD.out]; omega))
            have HF4 := Lib.hid (HF3.out.trans hf4)
            clear hgg hd4 hv4 hb4 hf4 e0 e1 e2 HADD2
            go_wp2_with fail
            exact ⟨⟨j + 1, M4, by omega, by omega, by go_num, HD4, HV4, HB4, HF4⟩, by simp [intOf]; omega⟩
          · obtain rfl : j = l.length := by omega
            have h1 := List.take_length (l := l)
            have h2 : r.take l.length = r := by rw [HLR.out]; exact List.take_length
            have HD3 := HD2.out
            have HV3 := HV2.out
            have HB3 := HB2.out
            rw [h1, h2] at HD3 HV3 HB3
            have HP : Hid (DfPost b m (.slice ol L.length cl) u (kws (wtB L) u l - kws (wtB L) u r) (fun q => (cntL q (Tm.vss l) : Int) - cntL q (Tm.vss r)) (l = r) (Tm.sizes l + Tm.sizes r) w wr) := Lib.hid ⟨M2, HD3, HV3, HB3, fun e => absurd e HNE.out, HF2.out⟩
            clear h1 h2 HD3 HV3 HB3 HD2 HV2 HB2
            go_wp2_with fail
            go_ret
            exact ⟨by rw [HR.out]; rfl, HP.out⟩
    · obtain rfl : k = l.length := by omega
      have h2 : r.take l.length = r := by rw [HLR.out]; exact List.take_length
      have hkk := HK.out
      rw [List.take_length, h2] at hkk
      subst hkk
      go_wp2_with fail
      go_ret
      refine ⟨by rw [kargs_same]; rfl, [], by simpa using HDk.out, fun q => by simp [valA_nil], by simpa using NmB.nil.mono (Nat.zero_le _), fun _ => rfl, HF.out⟩
end Go.Proofs.YtnomppdmhgefiaaGreat
/- Package weight: compareSymbols, compare, isGreater. -/
namespace Go.Proofs.YtnomppdmhgefiaaGreat
open Go.RowKit Go.Shelf Go.Maps

theorem DfPost.alike {L : List Rk} {b m : Nat} {lv : Value} {u : Int} {s t : Tm} {w w' : World} (hs : s.bare) (ht : t.bare) (ha : alike s t)
    (h : DfPost b m lv u (kws (wtB L) u s.ts - kws (wtB L) u t.ts) (fun q => (cntL q (Tm.vss s.ts) : Int) - cntL q (Tm.vss t.ts)) (s.ts = t.ts) (Tm.sizes s.ts + Tm.sizes t.ts) w w') :
    DfPost b m lv u (kw (wtB L) u s - kw (wtB L) u t) (fun q => (cntL q s.vs : Int) - cntL q t.vs) (s = t) (s.size + t.size) w w' := by
  obtain ⟨M, h1, h2, h3, h4, h5⟩ := h
  have e1 : kw (wtB L) u s - kw (wtB L) u t = kws (wtB L) u s.ts - kws (wtB L) u t.ts := by
    cases hv : s.vr with
    | true =>
      have hv2 : t.vr = true := by rw [← ha.1]; exact hv
      rw [kw_var hv, kw_var hv2, hs.vr0 hv, ht.vr0 hv2]; omega
    | false =>
      have hv2 : t.vr = false := by rw [← ha.1]; exact hv
      rw [kw_fun hv, kw_fun hv2, ha.2.1]; omega
  have e2 : ∀ q, (cntL q s.vs : Int) - cntL q t.vs = (cntL q (Tm.vss s.ts) : Int) - cntL q (Tm.vss t.ts) := fun q => by
    cases hv : s.vr with
    | true =>
      have hv2 : t.vr = true := by rw [← ha.1]; exact hv
      rw [Tm.vs_var hv, Tm.vs_var hv2, hs.vr0 hv, ht.vr0 hv2, ha.2.1]; omega
    | false =>
      have hv2 : t.vr = false := by rw [← ha.1]; exact hv
      rw [Tm.vs_fun hv, Tm.vs_fun hv2]
  refine ⟨M, by rw [e1]; exact h1, fun q => by rw [h2]; exact (e2 q).symm, by rw [e1]; exact h3.mono (by rw [Tm.size_eq s, Tm.size_eq t]; omega), fun e => h4 (by rw [e]), h5⟩
/-- two boxes, the difference, what may have changed -/
structure CsSt (b m : Nat) (lv : Value) (u g : Int) (M : List (Key × Int)) (s t : Tm) (sv tv : Value) (w W : World) : Prop where
  d : DIs b m lv u g M W
  x : W.heap[w.heap.size]? = some (.cells #[.string s.nm, .bool s.vr, sv] 25 (0, 0))
  y : W.heap[w.heap.size + 1]? = some (.cells #[.string t.nm, .bool t.vr, tv] 25 (0, 0))
  fr : FrX (XD b m) w W
  lb : b < w.heap.size
  lm : m < w.heap.size
section
variable {b m : Nat} {lv : Value} {u g : Int} {M : List (Key × Int)} {s t : Tm} {sv tv : Value} {w A W : World}
theorem CsSt.carry (h : CsSt b m lv u g M s t sv tv w A) (hb : Below A.heap.size A W) : CsSt b m lv u g M s t sv tv w W :=
  ⟨h.d.below hb, (hb.block _ (Array.getElem?_eq_some_iff.1 h.x).1).trans h.x, (hb.block _ (Array.getElem?_eq_some_iff.1 h.y).1).trans h.y, h.fr.trans (FrX.of_below hb), h.lb, h.lm⟩
theorem CsSt.sub (h : CsSt b m lv u g M s t sv tv w A) {g' : Int} {M' : List (Key × Int)} (hd : DIs b m lv u g' M' W) (hf : FrX (XD b m) A W) : CsSt b m lv u g' M' s t sv tv w W :=
  ⟨hd, (hf.block _ (Array.getElem?_eq_some_iff.1 h.x).1 (fun e => by have := h.lm; have := h.lb; rcases e with e | e <;> omega)).trans h.x, (hf.block _ (Array.getElem?_eq_some_iff.1 h.y).1 (fun e => by have := h.lm; have := h.lb; rcases e with e | e <;> omega)).trans h.y, h.fr.trans hf, h.lb, h.lm⟩
theorem CsSt.s6 (h : CsSt b m lv u g M s t sv tv w A) : A.cell? ⟨b, 0, none⟩ = some lv ∧ A.cell? ⟨b, 1, none⟩ = some (.int .i64 u) ∧ A.cell? ⟨w.heap.size, 0, none⟩ = some (.string s.nm) ∧ A.cell? ⟨w.heap.size, 1, none⟩ = some (.bool s.vr) ∧ A.cell? ⟨w.heap.size + 1, 0, none⟩ = some (.string t.nm) ∧ A.cell? ⟨w.heap.size + 1, 1, none⟩ = some (.bool t.vr) :=
  ⟨(box5 h.d.box).1.1, (box5 h.d.box).1.2.1, (box3 h.x).1.1, (box3 h.x).1.2.1, (box3 h.y).1.1, (box3 h.y).1.2.1⟩
theorem CsSt.six (h : CsSt b m lv u g M s t sv tv w A) : A.cell? ⟨w.heap.size, 0, none⟩ = some (.string s.nm) ∧ A.cell? ⟨w.heap.size, 1, none⟩ = some (.bool s.vr) ∧ A.cell? ⟨w.heap.size, 2, none⟩ = some sv ∧ A.cell? ⟨w.heap.size + 1, 0, none⟩ = some (.string t.nm) ∧ A.cell? ⟨w.heap.size + 1, 1, none⟩ = some (.bool t.vr) ∧ A.cell? ⟨w.heap.size + 1, 2, none⟩ = some tv :=
  ⟨(box3 h.x).1.1, (box3 h.x).1.2.1, (box3 h.x).1.2.2, (box3 h.y).1.1, (box3 h.y).1.2.1, (box3 h.y).1.2.2⟩
end
set_option maxRecDepth 100000 in
set_option maxHeartbeats 8000000 in
theorem csyms_any {L : List Rk} {u : Int} (HW : Hid (WtOk L u)) (n0 b m : Nat) (ol : Option Addr) (cl : Nat) (hnb : n0 ≤ b) (hnm : n0 ≤ m) (N : Nat) (HH : Hid (KcH L u n0 b m ol cl N)) (s t : Tm) (sv tv : Value) (w : World)
    (hsz : s.size + t.size < N + 1) (hbs : s.bare) (hbt : t.bare) (hus : s.bulk ≤ 1048576) (hut : t.bulk ≤ 1048576) (hs : SlIs n0 w s.ts sv) (ht : SlIs n0 w t.ts tv) (hn0 : n0 ≤ w.heap.size)
    (hL : RksIs n0 w L (.slice ol L.length cl)) (hD : DIs b m (.slice ol L.length cl) u 0 [] w) :
    Calls Tryz.prog 192 #[.pointer (some ⟨b, 0, none⟩), tmv s sv, tmv t tv] w fun e w' => e = .returned (.int .i64 (ksym (wtB L) (rkB L) u s t)) ∧
      DfPost b m (.slice ol L.length cl) u (kw (wtB L) u s - kw (wtB L) u t) (fun q => (cntL q s.vs : Int) - cntL q t.vs) (s = t) (s.size + t.size) w w' := by
  obtain ⟨os, cs, rfl, -⟩ := hs.form
  obtain ⟨ot, ct, rfl, -⟩ := ht.form
  have hss := Nat.le_trans (Tm.size_bulk s) hus
  have hst := Nat.le_trans (Tm.size_bulk t) hut
  have hls : s.ts.length ≤ 1048576 := by have := Tm.length_sizes s.ts; have := Tm.size_eq s; omega
  have hlt : t.ts.length ≤ 1048576 := by have := Tm.length_sizes t.ts; have := Tm.size_eq t; omega
  have HS := Lib.hid hs
  have HT := Lib.hid ht
  have HL := Lib.hid hL
  have HD := Lib.hid hD
  have HBS := Lib.hid hbs
  have HBT := Lib.hid hbt
  have hA : Below w.heap.size w ((w.alloc (.cells #[.string s.nm, .bool s.vr, .slice os s.ts.length cs] 25)).alloc (.cells #[.string t.nm, .bool t.vr, .slice ot t.ts.length ct] 25)) := by go_grown
  have H0 : Hid (CsSt b m (.slice ol L.length cl) u 0 [] s t (.slice os s.ts.length cs) (.slice ot t.ts.length ct) w ((w.alloc (.cells #[.string s.nm, .bool s.vr, .slice os s.ts.length cs] 25)).alloc (.cells #[.string t.nm, .bool t.vr, .slice ot t.ts.length ct] 25))) :=
    Lib.hid ⟨hD.below hA, (Below.heap_alloc _ _ _ (by simp)).trans (heap_new_at _ _ _ rfl), heap_new_at _ _ _ (by simp), FrX.of_below hA, hD.lt, hD.map.lt⟩
  clear hs ht hL hD hbs hbt hA
  go_enter Tryz.func192, Tryz.ntmps192
  rw [show tmv s (.slice os s.ts.length cs) = .agg #[.string s.nm, .bool s.vr, .slice os s.ts.length cs] from rfl, show tmv t (.slice ot t.ts.length ct) = .agg #[.string t.nm, .bool t.vr, .slice ot t.ts.length ct] from rfl]
  by_cases ha : alike s t
  · have q1 : (s.vr == t.vr) = true := by rw [ha.1]; simp
    have q2 := nm_beq_yes ha.2.1
    have q3 : ((s.ts.length : Int) == (t.ts.length : Int)) = true := by rw [ha.2.2]; simp
    have HC : Hid (∀ W, Below w.heap.size w W → DIs b m (.slice ol L.length cl) u 0 [] W → Calls Tryz.prog 232 #[.pointer (some ⟨b, 0, none⟩), .slice os s.ts.length cs, .slice ot t.ts.length ct] W fun e w' => e = .returned (.int .i64 (kargs (wtB L) (rkB L) u s.ts t.ts)) ∧
        DfPost b m (.slice ol L.length cl) u (kws (wtB L) u s.ts - kws (wtB L) u t.ts) (fun q => (cntL q (Tm.vss s.ts) : Int) - cntL q (Tm.vss t.ts)) (s.ts = t.ts) (Tm.sizes s.ts + Tm.sizes t.ts) W w') := Lib.hid fun W hW hd =>
      cargs_any HW n0 b m ol cl hnb hnm N HH s.ts t.ts _ _ W (HS.out.carry (hW.mono hn0) (Nat.le_refl _)) (HT.out.carry (hW.mono hn0) (Nat.le_refl _)) ha.2.2 (by have := Tm.size_eq s; have := Tm.size_eq t; omega) HBS.out.kids HBT.out.kids (by have := Tm.bulk_eq s; omega) (by have := Tm.bulk_eq t; omega) (Nat.le_trans hn0 hW.size) (HL.out.carry (hW.mono hn0) (Nat.le_refl _)) hd
    have HA := Lib.hid ha
    clear ha
    go_wp2_with fail
    have hB : Below w.heap.size w ((w.alloc (.cells #[.string s.nm, .bool s.vr, .slice os s.ts.length cs] 25)).alloc (.cells #[.string t.nm, .bool t.vr, .slice ot t.ts.length ct] 25)) := by go_grown
    refine (HC.out _ hB H0.out.d).mono ?_
    rintro e w1 ⟨rfl, M, hd, hv, hb, hm, hf⟩
    have HP : Hid (DfPost b m (.slice ol L.length cl) u (kw (wtB L) u s - kw (wtB L) u t) (fun q => (cntL q s.vs : Int) - cntL q t.vs) (s = t) (s.size + t.size) w w1) := Lib.hid (DfPost.alike HBS.out HBT.out HA.out ⟨M, hd, hv, hb, hm, (FrX.of_below hB).trans hf⟩)
    clear hB hd hv hb hm hf
    go_wp2_with fail
    go_ret
    exact ⟨by rw [ksym_alike HA.out]; rfl, HP.out⟩
  · have HNA := Lib.hid ha
    by_cases e1 : s.vr = t.vr
    · have q1 : (s.vr == t.vr) = true := by rw [e1]; simp
      by_cases e2 : s.nm = t.nm
      · have q2 := nm_beq_yes e2
        have q3 : ((s.ts.length : Int) == (t.ts.length : Int)) = false := by rw [beq_eq_false_iff_ne]; exact fun e => ha ⟨e1, e2, by omega⟩
        clear e1 e2 ha
        go_wp2_with fail
        clear q1 q2 q3
        have hB : Below w.heap.size w ((w.alloc (.cells #[.string s.nm, .bool s.vr, .slice os s.ts.length cs] 25)).alloc (.cells #[.string t.nm, .bool t.vr, .slice ot t.ts.length ct] 25)) := by go_grown
        refine (add_any HW n0 b m ol cl 1 (.inl rfl) hnb hnm s (.slice os s.ts.length cs) 0 [] 0 _ hus (HS.out.carry (hB.mono hn0) (Nat.le_refl _)) (Nat.le_trans hn0 hB.size) (HL.out.carry (hB.mono hn0) (Nat.le_refl _)) H0.out.d NmB.nil (by omega)).mono ?_
        rintro e w1 ⟨rfl, M1, hd1, hv1, hb1, hf1⟩
        have H1 := Lib.hid (H0.out.sub hd1 hf1)
        have HB1 := Lib.hid hb1
        have HV1 := Lib.hid hv1
        clear hB hd1 hv1 hb1 hf1
        obtain ⟨x0, x1, x2, y0, y1, y2⟩ := H1.out.six
        go_wp2_with fail
        have hlow := H1.out.fr.below hn0 (xd_ge hnb hnm)
        refine (add_any HW n0 b m ol cl (-1) (.inr rfl) hnb hnm t (.slice ot t.ts.length ct) _ M1 _ w1 hut (HT.out.carry hlow (Nat.le_refl _)) (Nat.le_trans hn0 H1.out.fr.size) (HL.out.carry hlow (Nat.le_refl _)) H1.out.d HB1.out (by omega)).mono ?_
        rintro e w2 ⟨rfl, M2, hd2, hv2, hb2, hf2⟩
        have H2 := Lib.hid (H1.out.sub hd2 hf2)
        have HDF : Hid (∀ W, DIs b m (.slice ol L.length cl) u (0 + 1 * kw (wtB L) u s + -1 * kw (wtB L) u t) M2 W → FrX (XD b m) w W → DfPost b m (.slice ol L.length cl) u (kw (wtB L) u s - kw (wtB L) u t) (fun q => (cntL q s.vs : Int) - cntL q t.vs) (s = t) (s.size + t.size) w W) := Lib.hid fun W hd hf => by
          have eg : 0 + 1 * kw (wtB L) u s + -1 * kw (wtB L) u t = kw (wtB L) u s - kw (wtB L) u t := by omega
          rw [eg] at hd hb2
          exact ⟨M2, hd, fun q => by rw [hv2, HV1.out, valA_nil]; show _ = (cntL q s.vs : Int) - cntL q t.vs; omega, hb2.mono (by omega), fun e => absurd (by subst e; exact ⟨rfl, rfl, rfl⟩) HNA.out, hf⟩
        clear hlow hd2 hv2 hb2 hf2 x0 x1 x2 y0 y1 y2 H1 HB1 HV1
        go_wp2_with fail
        cases hvs : s.vr with
        | true =>
          have VS := Lib.hid hvs
          cases hvt : t.vr with
          | true =>
            have VT := Lib.hid hvt
            clear hvs hvt
            have HK : Hid (ksym (wtB L) (rkB L) u s t = 0) := Lib.hid (ksym_not HNA.out fun h => by rw [VS.out] at h; cases h.1)
            have HS6 : ∀ W, CsSt b m (.slice ol L.length cl) u (0 + 1 * kw (wtB L) u s + -1 * kw (wtB L) u t) M2 s t (.slice os s.ts.length cs) (.slice ot t.ts.length ct) w W → Hid (W.cell? ⟨b, 0, none⟩ = some (.slice ol L.length cl) ∧ W.cell? ⟨b, 1, none⟩ = some (.int .i64 u) ∧ W.cell? ⟨w.heap.size, 0, none⟩ = some (.string s.nm) ∧ W.cell? ⟨w.heap.size, 1, none⟩ = some (.bool true) ∧ W.cell? ⟨w.heap.size + 1, 0, none⟩ = some (.string t.nm) ∧ W.cell? ⟨w.heap.size + 1, 1, none⟩ = some (.bool true)) := fun W h => by
              have := h.s6
              rw [VS.out, VT.out] at this
              exact Lib.hid this
            have HS6' := Lib.hid HS6
            clear HS6
            have H2d := Lib.hid (H2.out.carry (Below.refl _ w2).drew)
            have Q := HS6'.out _ H2d.out
            have HP : Hid (DfPost b m (.slice ol L.length cl) u (kw (wtB L) u s - kw (wtB L) u t) (fun q => (cntL q s.vs : Int) - cntL q t.vs) (s = t) (s.size + t.size) w w2.drew) := Lib.hid (HDF.out _ H2d.out.d H2d.out.fr)
            refine wp_region_noPanic ?_
            refine wp_region_held_drew (S := fun w' => w'.cell? ⟨b, 0, none⟩ = some (.slice ol L.length cl) ∧ w'.cell? ⟨b, 1, none⟩ = some (.int .i64 u) ∧ w'.cell? ⟨w.heap.size, 0, none⟩ = some (.string s.nm) ∧ w'.cell? ⟨w.heap.size, 1, none⟩ = some (.bool true) ∧ w'.cell? ⟨w.heap.size + 1, 0, none⟩ = some (.string t.nm) ∧ w'.cell? ⟨w.heap.size + 1, 1, none⟩ = some (.bool true)) (by kernel_rfl) Q.out (fun _ => ?_)
            simp only [List.size_toArray, List.length_cons, List.length_nil, Nat.reduceAdd]
            refine wpAnyH_take (i := 0) (v := ?_) (by simp only [List.getElem?_toArray, List.getElem?_cons_zero]; rfl) (by kernel_rfl) (by kernel_rfl) (by kernel_rfl) (fun _ _ _ h => h) (Or.inl ⟨by rfl, ?_⟩) Q.out ?_
            case refine_2 => (intro ww hSw; obtain ⟨s1, s2, s3, s4, s5, s6⟩ := hSw; go_simp; try with_reducible rfl)
            try simp only [Act.put, List.setIfInBounds_toArray, List.set_cons_zero, List.set_cons_succ]
            refine wpAnyH_take (i := 1) (v := ?_) (by simp only [List.getElem?_toArray, List.getElem?_cons_zero, List.getElem?_cons_succ]; rfl) (by kernel_rfl) (by kernel_rfl) (by kernel_rfl) (fun _ _ _ h => h) (Or.inl ⟨by rfl, ?_⟩) Q.out ?_
            case refine_2 => (intro ww hSw; obtain ⟨s1, s2, s3, s4, s5, s6⟩ := hSw; go_simp; try with_reducible rfl)
            try simp only [Act.put, List.setIfInBounds_toArray, List.set_cons_zero, List.set_cons_succ]
            refine wpAnyH_take (i := 2) (v := ?_) (by simp only [List.getElem?_toArray, List.getElem?_cons_zero, List.getElem?_cons_succ]; rfl) (by kernel_rfl) (by kernel_rfl) (by kernel_rfl) (fun _ _ _ h => h) (Or.inl ⟨by rfl, ?_⟩) Q.out ?_
            case refine_2 => (intro ww hSw; obtain ⟨s1, s2, s3, s4, s5, s6⟩ := hSw; go_simp; try with_reducible rfl)
            try simp only [Act.put, List.setIfInBounds_toArray, List.set_cons_zero, List.set_cons_succ]
            refine wpAnyH_take (i := 3) (v := ?_) (by simp only [List.getElem?_toArray, List.getElem?_cons_zero, List.getElem?_cons_succ]; rfl) (by kernel_rfl) (by kernel_rfl) (by kernel_rfl) (fun _ _ _ h => h) (Or.inl ⟨by rfl, ?_⟩) Q.out ?_
            case refine_2 => (intro ww hSw; obtain ⟨s1, s2, s3, s4, s5, s6⟩ := hSw; go_simp; try with_reducible rfl)
            try simp only [Act.put, List.setIfInBounds_toArray, List.set_cons_zero, List.set_cons_succ]
            refine wpAnyH_take (i := 4) (v := _) (by simp only [List.getElem?_toArray, List.getElem?_cons_zero, List.getElem?_cons_succ]; rfl) (by kernel_rfl) (by kernel_rfl) (by kernel_rfl) (fun _ _ _ h => h) (Or.inr ⟨by rfl, rfl⟩) Q.out ?_
            try simp only [Act.put, List.setIfInBounds_toArray, List.set_cons_zero, List.set_cons_succ]
            refine wpAnyH_take (i := 5) (v := _) (by simp only [List.getElem?_toArray, List.getElem?_cons_zero, List.getElem?_cons_succ]; rfl) (by kernel_rfl) (by kernel_rfl) (by kernel_rfl) (fun _ _ _ h => h) (Or.inr ⟨by rfl, rfl⟩) Q.out ?_
            try simp only [Act.put, List.setIfInBounds_toArray, List.set_cons_zero, List.set_cons_succ]
            refine wpAnyH_take (i := 6) (v := _) (by simp only [List.getElem?_toArray, List.getElem?_cons_zero, List.getElem?_cons_succ]; rfl) (by kernel_rfl) (by kernel_rfl) (by kernel_rfl) (fun _ _ _ h => h) (Or.inr ⟨by rfl, rfl⟩) Q.out ?_
            try simp only [Act.put, List.setIfInBounds_toArray, List.set_cons_zero, List.set_cons_succ]
            refine wpAnyH_take (i := 7) (v := _) (by simp only [List.getElem?_toArray, List.getElem?_cons_zero, List.getElem?_cons_succ]; rfl) (by kernel_rfl) (by kernel_rfl) (by kernel_rfl) (fun _ _ _ h => h) (Or.inr ⟨by rfl, rfl⟩) Q.out ?_
            try simp only [Act.put, List.setIfInBounds_toArray, List.set_cons_zero, List.set_cons_succ]
            refine wpAnyH_take (i := 8) (v := _) (by simp only [List.getElem?_toArray, List.getElem?_cons_zero, List.getElem?_cons_succ]; rfl) (by kernel_rfl) (by kernel_rfl) (by kernel_rfl) (fun _ _ _ h => h) (Or.inr ⟨by rfl, rfl⟩) Q.out ?_
            try simp only [Act.put, List.setIfInBounds_toArray, List.set_cons_zero, List.set_cons_succ]
            refine wpAnyH_take (i := 9) (v := _) (by simp only [List.getElem?_toArray, List.getElem?_cons_zero, List.getElem?_cons_succ]; rfl) (by kernel_rfl) (by kernel_rfl) (by kernel_rfl) (fun _ _ _ h => h) (Or.inr ⟨by rfl, rfl⟩) Q.out ?_
            try simp only [Act.put, List.setIfInBounds_toArray, List.set_cons_zero, List.set_cons_succ]
            refine wpAnyH_take (i := 10) (v := _) (by simp only [List.getElem?_toArray, List.getElem?_cons_zero, List.getElem?_cons_succ]; rfl) (by kernel_rfl) (by kernel_rfl) (by kernel_rfl) (fun _ _ _ h => h) (Or.inr ⟨by rfl, rfl⟩) Q.out ?_
            try simp only [Act.put, List.setIfInBounds_toArray, List.set_cons_zero, List.set_cons_succ]
            refine wpAnyH_take (i := 11) (v := _) (by simp only [List.getElem?_toArray, List.getElem?_cons_zero, List.getElem?_cons_succ]; rfl) (by kernel_rfl) (by kernel_rfl) (by kernel_rfl) (fun _ _ _ h => h) (Or.inr ⟨by rfl, rfl⟩) Q.out ?_
            try simp only [Act.put, List.setIfInBounds_toArray, List.set_cons_zero, List.set_cons_succ]
            refine wpAnyH_take (i := 12) (v := _) (by simp only [List.getElem?_toArray, List.getElem?_cons_zero, List.getElem?_cons_succ]; rfl) (by kernel_rfl) (by kernel_rfl) (by kernel_rfl) (fun _ _ _ h => h) (Or.inr ⟨by rfl, rfl⟩) Q.out ?_
            try simp only [Act.put, List.setIfInBounds_toArray, List.set_cons_zero, List.set_cons_succ]
            refine wpAnyH_take (i := 13) (v := _) (by simp only [List.getElem?_toArray, List.getElem?_cons_zero, List.getElem?_cons_succ]; rfl) (by kernel_rfl) (by kernel_rfl) (by kernel_rfl) (fun _ _ _ h => h) (Or.inr ⟨by rfl, rfl⟩) Q.out ?_
            try simp only [Act.put, List.setIfInBounds_toArray, List.set_cons_zero, List.set_cons_succ]
            refine wpAnyH_take (i := 14) (v := _) (by simp only [List.getElem?_toArray, List.getElem?_cons_zero, List.getElem?_cons_succ]; rfl) (by kernel_rfl) (by kernel_rfl) (by kernel_rfl) (fun _ _ _ h => h) (Or.inr ⟨by rfl, rfl⟩) Q.out ?_
            try simp only [Act.put, List.setIfInBounds_toArray, List.set_cons_zero, List.set_cons_succ]
            refine wpAnyH_take (i := 15) (v := _) (by simp only [List.getElem?_toArray, List.getElem?_cons_zero, List.getElem?_cons_succ]; rfl) (by kernel_rfl) (by kernel_rfl) (by kernel_rfl) (fun _ _ _ h => h) (Or.inr ⟨by rfl, rfl⟩) Q.out ?_
            try simp only [Act.put, List.setIfInBounds_toArray, List.set_cons_zero, List.set_cons_succ]
            refine wpAnyH_take (i := 16) (v := _) (by simp only [List.getElem?_toArray, List.getElem?_cons_zero, List.getElem?_cons_succ]; rfl) (by kernel_rfl) (by kernel_rfl) (by kernel_rfl) (fun _ _ _ h => h) (Or.inr ⟨by rfl, rfl⟩) Q.out ?_
            try simp only [Act.put, List.setIfInBounds_toArray, List.set_cons_zero, List.set_cons_succ]
            refine wpAnyH_take (i := 17) (v := _) (by simp only [List.getElem?_toArray, List.getElem?_cons_zero, List.getElem?_cons_succ]; rfl) (by kernel_rfl) (by kernel_rfl) (by kernel_rfl) (fun _ _ _ h => h) (Or.inr ⟨by rfl, rfl⟩) Q.out ?_
            try simp only [Act.put, List.setIfInBounds_toArray, List.set_cons_zero, List.set_cons_succ]
            refine wpAnyH_take (i := 18) (v := _) (by simp only [List.getElem?_toArray, List.getElem?_cons_zero, List.getElem?_cons_succ]; rfl) (by kernel_rfl) (by kernel_rfl) (by kernel_rfl) (fun _ _ _ h => h) (Or.inr ⟨by rfl, rfl⟩) Q.out ?_
            try simp only [Act.put, List.setIfInBounds_toArray, List.set_cons_zero, List.set_cons_succ]
            refine wpAnyH_take (i := 19) (v := _) (by simp only [List.getElem?_toArray, List.getElem?_cons_zero, List.getElem?_cons_succ]; rfl) (by kernel_rfl) (by kernel_rfl) (by kernel_rfl) (fun _ _ _ h => h) (Or.inr ⟨by rfl, rfl⟩) Q.out ?_
            try simp only [Act.put, List.setIfInBounds_toArray, List.set_cons_zero, List.set_cons_succ]
            refine wpAnyH_take (i := 20) (v := _) (by simp only [List.getElem?_toArray, List.getElem?_cons_zero, List.getElem?_cons_succ]; rfl) (by kernel_rfl) (by kernel_rfl) (by kernel_rfl) (fun _ _ _ h => h) (Or.inr ⟨by rfl, rfl⟩) Q.out ?_
            try simp only [Act.put, List.setIfInBounds_toArray, List.set_cons_zero, List.set_cons_succ]
            refine wpAnyH_take (i := 21) (v := _) (by simp only [List.getElem?_toArray, List.getElem?_cons_zero, List.getElem?_cons_succ]; rfl) (by kernel_rfl) (by kernel_rfl) (by kernel_rfl) (fun _ _ _ h => h) (Or.inr ⟨by rfl, rfl⟩) Q.out ?_
            try simp only [Act.put, List.setIfInBounds_toArray, List.set_cons_zero, List.set_cons_succ]
            refine wpAnyH_take (i := 22) (v := _) (by simp only [List.getElem?_toArray, List.getElem?_cons_zero, List.getElem?_cons_succ]; rfl) (by kernel_rfl) (by kernel_rfl) (by kernel_rfl) (fun _ _ _ h => h) (Or.inr ⟨by rfl, rfl⟩) Q.out ?_
            try simp only [Act.put, List.setIfInBounds_toArray, List.set_cons_zero, List.set_cons_succ]
            refine wpAnyH_take (i := 23) (v := _) (by simp only [List.getElem?_toArray, List.getElem?_cons_zero, List.getElem?_cons_succ]; rfl) (by kernel_rfl) (by kernel_rfl) (by kernel_rfl) (fun _ _ _ h => h) (Or.inr ⟨by rfl, rfl⟩) Q.out ?_
            try simp only [Act.put, List.setIfInBounds_toArray, List.set_cons_zero, List.set_cons_succ]
            refine wpAnyH_take (i := 24) (v := _) (by simp only [List.getElem?_toArray, List.getElem?_cons_zero, List.getElem?_cons_succ]; rfl) (by kernel_rfl) (by kernel_rfl) (by kernel_rfl) (fun _ _ _ h => h) (Or.inr ⟨by rfl, rfl⟩) Q.out ?_
            try simp only [Act.put, List.setIfInBounds_toArray, List.set_cons_zero, List.set_cons_succ]
            refine wpAnyH_take (i := 25) (v := ?_) (by simp only [List.getElem?_toArray, List.getElem?_cons_zero, List.getElem?_cons_succ]; rfl) (by kernel_rfl) (by kernel_rfl) (by kernel_rfl) (fun _ _ _ h => h) (Or.inl ⟨by rfl, ?_⟩) Q.out ?_
            case refine_2 => (intro ww hSw; obtain ⟨s1, s2, s3, s4, s5, s6⟩ := hSw; go_simp; try with_reducible rfl)
            try simp only [Act.put, List.setIfInBounds_toArray, List.set_cons_zero, List.set_cons_succ]
            refine wpAnyH_done (by kernel_rfl) ?_ _
            refine NoPanic.normal ?_
            go_wp2_with fail
            go_ret
            exact ⟨by rw [HK.out]; rfl, HP.out⟩
          | false =>
            have VT := Lib.hid hvt
            clear hvs hvt
            have HK : Hid (ksym (wtB L) (rkB L) u s t = 0) := Lib.hid (ksym_not HNA.out fun h => by rw [VS.out] at h; cases h.1)
            have HS6 : ∀ W, CsSt b m (.slice ol L.length cl) u (0 + 1 * kw (wtB L) u s + -1 * kw (wtB L) u t) M2 s t (.slice os s.ts.length cs) (.slice ot t.ts.length ct) w W → Hid (W.cell? ⟨b, 0, none⟩ = some (.slice ol L.length cl) ∧ W.cell? ⟨b, 1, none⟩ = some (.int .i64 u) ∧ W.cell? ⟨w.heap.size, 0, none⟩ = some (.string s.nm) ∧ W.cell? ⟨w.heap.size, 1, none⟩ = some (.bool true) ∧ W.cell? ⟨w.heap.size + 1, 0, none⟩ = some (.string t.nm) ∧ W.cell? ⟨w.heap.size + 1, 1, none⟩ = some (.bool false)) := fun W h => by
              have := h.s6
              rw [VS.out, VT.out] at this
              exact Lib.hid this
            have HS6' := Lib.hid HS6
            clear HS6
            have H2d := Lib.hid (H2.out.carry (Below.refl _ w2).drew)
            have Q := HS6'.out _ H2d.out
            have HP : Hid (DfPost b m (.slice ol L.length cl) u (kw (wtB L) u s - kw (wtB L) u t) (fun q => (cntL q s.vs : Int) - cntL q t.vs) (s = t) (s.size + t.size) w w2.drew) := Lib.hid (HDF.out _ H2d.out.d H2d.out.fr)
            refine wp_region_noPanic ?_
            refine wp_region_held_drew (S := fun w' => w'.cell? ⟨b, 0, none⟩ = some (.slice ol L.length cl) ∧ w'.cell? ⟨b, 1, none⟩ = some (.int .i64 u) ∧ w'.cell? ⟨w.heap.size, 0, none⟩ = some (.string s.nm) ∧ w'.cell? ⟨w.heap.size, 1, none⟩ = some (.bool true) ∧ w'.cell? ⟨w.heap.size + 1, 0, none⟩ = some (.string t.nm) ∧ w'.cell? ⟨w.heap.size + 1, 1, none⟩ = some (.bool false)) (by kernel_rfl) Q.out (fun _ => ?_)
            simp only [List.size_toArray, List.length_cons, List.length_nil, Nat.reduceAdd]
            refine wpAnyH_take (i := 0) (v := ?_) (by simp only [List.getElem?_toArray, List.getElem?_cons_zero]; rfl) (by kernel_rfl) (by kernel_rfl) (by kernel_rfl) (fun _ _ _ h => h) (Or.inl ⟨by rfl, ?_⟩) Q.out ?_
            case refine_2 => (intro ww hSw; obtain ⟨s1, s2, s3, s4, s5, s6⟩ := hSw; go_simp; try with_reducible rfl)
            try simp only [Act.put, List.setIfInBounds_toArray, List.set_cons_zero, List.set_cons_succ]
            refine wpAnyH_take (i := 1) (v := ?_) (by simp only [List.getElem?_toArray, List.getElem?_cons_zero, List.getElem?_cons_succ]; rfl) (by kernel_rfl) (by kernel_rfl) (by kernel_rfl) (fun _ _ _ h => h) (Or.inl ⟨by rfl, ?_⟩) Q.out ?_
            case refine_2 => (intro ww hSw; obtain ⟨s1, s2, s3, s4, s5, s6⟩ := hSw; go_simp; try with_reducible rfl)
            try simp only [Act.put, List.setIfInBounds_toArray, List.set_cons_zero, List.set_cons_succ]
            refine wpAnyH_take (i := 2) (v := ?_) (by simp only [List.getElem?_toArray, List.getElem?_cons_zero, List.getElem?_cons_succ]; rfl) (by kernel_rfl) (by kernel_rfl) (by kernel_rfl) (fun _ _ _ h => h) (Or.inl ⟨by rfl, ?_⟩) Q.out ?_
            case refine_2 => (intro ww hSw; obtain ⟨s1, s2, s3, s4, s5, s6⟩ := hSw; go_simp; try with_reducible rfl)
            try simp only [Act.put, List.setIfInBounds_toArray, List.set_cons_zero, List.set_cons_succ]
            refine wpAnyH_take (i := 3) (v := ?_) (by simp only [List.getElem?_toArray, List.getElem?_cons_zero, List.getElem?_cons_succ]; rfl) (by kernel_rfl) (by kernel_rfl) (by kernel_rfl) (fun _ _ _ h => h) (Or.inl ⟨by rfl, ?_⟩) Q.out ?_
            case refine_2 => (intro ww hSw; obtain ⟨s1, s2, s3, s4, s5, s6⟩ := hSw; go_simp; try with_reducible rfl)
            try simp only [Act.put, List.setIfInBounds_toArray, List.set_cons_zero, List.set_cons_succ]
            refine wpAnyH_take (i := 4) (v := _) (by simp only [List.getElem?_toArray, List.getElem?_cons_zero, List.getElem?_cons_succ]; rfl) (by kernel_rfl) (by kernel_rfl) (by kernel_rfl) (fun _ _ _ h => h) (Or.inr ⟨by rfl, rfl⟩) Q.out ?_
            try simp only [Act.put, List.setIfInBounds_toArray, List.set_cons_zero, List.set_cons_succ]
            refine wpAnyH_take (i := 5) (v := _) (by simp only [List.getElem?_toArray, List.getElem?_cons_zero, List.getElem?_cons_succ]; rfl) (by kernel_rfl) (by kernel_rfl) (by kernel_rfl) (fun _ _ _ h => h) (Or.inr ⟨by rfl, rfl⟩) Q.out ?_
            try simp only [Act.put, List.setIfInBounds_toArray, List.set_cons_zero, List.set_cons_succ]
            refine wpAnyH_take (i := 6) (v := _) (by simp only [List.getElem?_toArray, List.getElem?_cons_zero, List.getElem?_cons_succ]; rfl) (by kernel_rfl) (by kernel_rfl) (by kernel_rfl) (fun _ _ _ h => h) (Or.inr ⟨by rfl, rfl⟩) Q.out ?_
            try simp only [Act.put, List.setIfInBounds_toArray, List.set_cons_zero, List.set_cons_succ]
            refine wpAnyH_take (i := 7) (v := _) (by simp only [List.getElem?_toArray, List.getElem?_cons_zero, List.getElem?_cons_succ]; rfl) (by kernel_rfl) (by kernel_rfl) (by kernel_rfl) (fun _ _ _ h => h) (Or.inr ⟨by rfl, rfl⟩) Q.out ?_
            try simp only [Act.put, List.setIfInBounds_toArray, List.set_cons_zero, List.set_cons_succ]
            refine wpAnyH_take (i := 8) (v := _) (by simp only [List.getElem?_toArray, List.getElem?_cons_zero, List.getElem?_cons_succ]; rfl) (by kernel_rfl) (by kernel_rfl) (by kernel_rfl) (fun _ _ _ h => h) (Or.inr ⟨by rfl, rfl⟩) Q.out ?_
            try simp only [Act.put, List.setIfInBounds_toArray, List.set_cons_zero, List.set_cons_succ]
            refine wpAnyH_take (i := 9) (v := _) (by simp only [List.getElem?_toArray, List.getElem?_cons_zero, List.getElem?_cons_succ]; rfl) (by kernel_rfl) (by kernel_rfl) (by kernel_rfl) (fun _ _ _ h => h) (Or.inr ⟨by rfl, rfl⟩) Q.out ?_
            try simp only [Act.put, List.setIfInBounds_toArray, List.set_cons_zero, List.set_cons_succ]
            refine wpAnyH_take (i := 10) (v := _) (by simp only [List.getElem?_toArray, List.getElem?_cons_zero, List.getElem?_cons_succ]; rfl) (by kernel_rfl) (by kernel_rfl) (by kernel_rfl) (fun _ _ _ h => h) (Or.inr ⟨by rfl, rfl⟩) Q.out ?_
            try simp only [Act.put, List.setIfInBounds_toArray, List.set_cons_zero, List.set_cons_succ]
            refine wpAnyH_take (i := 11) (v := _) (by simp only [List.getElem?_toArray, List.getElem?_cons_zero, List.getElem?_cons_succ]; rfl) (by kernel_rfl) (by kernel_rfl) (by kernel_rfl) (fun _ _ _ h => h) (Or.inr ⟨by rfl, rfl⟩) Q.out ?_
            try simp only [Act.put, List.setIfInBounds_toArray, List.set_cons_zero, List.set_cons_succ]
            refine wpAnyH_take (i := 12) (v := _) (by simp only [List.getElem?_toArray, List.getElem?_cons_zero, List.getElem?_cons_succ]; rfl) (by kernel_rfl) (by kernel_rfl) (by kernel_rfl) (fun _ _ _ h => h) (Or.inr ⟨by rfl, rfl⟩) Q.out ?_
            try simp only [Act.put, List.setIfInBounds_toArray, List.set_cons_zero, List.set_cons_succ]
            refine wpAnyH_take (i := 13) (v := _) (by simp only [List.getElem?_toArray, List.getElem?_cons_zero, List.getElem?_cons_succ]; rfl) (by kernel_rfl) (by kernel_rfl) (by kernel_rfl) (fun _ _ _ h => h) (Or.inr ⟨by rfl, rfl⟩) Q.out ?_
            try simp only [Act.put, List.setIfInBounds_toArray, List.set_cons_zero, List.set_cons_succ]
            refine wpAnyH_take (i := 14) (v := _) (by simp only [List.getElem?_toArray, List.getElem?_cons_zero, List.getElem?_cons_succ]; rfl) (by kernel_rfl) (by kernel_rfl) (by kernel_rfl) (fun _ _ _ h => h) (Or.inr ⟨by rfl, rfl⟩) Q.out ?_
            try simp only [Act.put, List.setIfInBounds_toArray, List.set_cons_zero, List.set_cons_succ]
            refine wpAnyH_take (i := 15) (v := _) (by simp only [List.getElem?_toArray, List.getElem?_cons_zero, List.getElem?_cons_succ]; rfl) (by kernel_rfl) (by kernel_rfl) (by kernel_rfl) (fun _ _ _ h => h) (Or.inr ⟨by rfl, rfl⟩) Q.out ?_
            try simp only [Act.put, List.setIfInBounds_toArray, List.set_cons_zero, List.set_cons_succ]
            refine wpAnyH_take (i := 16) (v := _) (by simp only [List.getElem?_toArray, List.getElem?_cons_zero, List.getElem?_cons_succ]; rfl) (by kernel_rfl) (by kernel_rfl) (by kernel_rfl) (fun _ _ _ h => h) (Or.inr ⟨by rfl, rfl⟩) Q.out ?_
            try simp only [Act.put, List.setIfInBounds_toArray, List.set_cons_zero, List.set_cons_succ]
            refine wpAnyH_take (i := 17) (v := _) (by simp only [List.getElem?_toArray, List.getElem?_cons_zero, List.getElem?_cons_succ]; rfl) (by kernel_rfl) (by kernel_rfl) (by kernel_rfl) (fun _ _ _ h => h) (Or.inr ⟨by rfl, rfl⟩) Q.out ?_
            try simp only [Act.put, List.setIfInBounds_toArray, List.set_cons_zero, List.set_cons_succ]
            refine wpAnyH_take (i := 18) (v := _) (by simp only [List.getElem?_toArray, List.getElem?_cons_zero, List.getElem?_cons_succ]; rfl) (by kernel_rfl) (by kernel_rfl) (by kernel_rfl) (fun _ _ _ h => h) (Or.inr ⟨by rfl, rfl⟩) Q.out ?_
            try simp only [Act.put, List.setIfInBounds_toArray, List.set_cons_zero, List.set_cons_succ]
            refine wpAnyH_take (i := 19) (v := _) (by simp only [List.getElem?_toArray, List.getElem?_cons_zero, List.getElem?_cons_succ]; rfl) (by kernel_rfl) (by kernel_rfl) (by kernel_rfl) (fun _ _ _ h => h) (Or.inr ⟨by rfl, rfl⟩) Q.out ?_
            try simp only [Act.put, List.setIfInBounds_toArray, List.set_cons_zero, List.set_cons_succ]
            refine wpAnyH_take (i := 20) (v := _) (by simp only [List.getElem?_toArray, List.getElem?_cons_zero, List.getElem?_cons_succ]; rfl) (by kernel_rfl) (by kernel_rfl) (by kernel_rfl) (fun _ _ _ h => h) (Or.inr ⟨by rfl, rfl⟩) Q.out ?_
            try simp only [Act.put, List.setIfInBounds_toArray, List.set_cons_zero, List.set_cons_succ]
            refine wpAnyH_take (i := 21) (v := _) (by simp only [List.getElem?_toArray, List.getElem?_cons_zero, List.getElem?_cons_succ]; rfl) (by kernel_rfl) (by kernel_rfl) (by kernel_rfl) (fun _ _ _ h => h) (Or.inr ⟨by rfl, rfl⟩) Q.out ?_
            try simp only [Act.put, List.setIfInBounds_toArray, List.set_cons_zero, List.set_cons_succ]
            refine wpAnyH_take (i := 22) (v := _) (by simp only [List.getElem?_toArray, List.getElem?_cons_zero, List.getElem?_cons_succ]; rfl) (by kernel_rfl) (by kernel_rfl) (by kernel_rfl) (fun _ _ _ h => h) (Or.inr ⟨by rfl, rfl⟩) Q.out ?_
            try simp only [Act.put, List.setIfInBounds_toArray, List.set_cons_zero, List.set_cons_succ]
            refine wpAnyH_take (i := 23) (v := _) (by simp only [List.getElem?_toArray, List.getElem?_cons_zero, List.getElem?_cons_succ]; rfl) (by kernel_rfl) (by kernel_rfl) (by kernel_rfl) (fun _ _ _ h => h) (Or.inr ⟨by rfl, rfl⟩) Q.out ?_
            try simp only [Act.put, List.setIfInBounds_toArray, List.set_cons_zero, List.set_cons_succ]
            refine wpAnyH_take (i := 24) (v := _) (by simp only [List.getElem?_toArray, List.getElem?_cons_zero, List.getElem?_cons_succ]; rfl) (by kernel_rfl) (by kernel_rfl) (by kernel_rfl) (fun _ _ _ h => h) (Or.inr ⟨by rfl, rfl⟩) Q.out ?_
            try simp only [Act.put, List.setIfInBounds_toArray, List.set_cons_zero, List.set_cons_succ]
            refine wpAnyH_take (i := 25) (v := ?_) (by simp only [List.getElem?_toArray, List.getElem?_cons_zero, List.getElem?_cons_succ]; rfl) (by kernel_rfl) (by kernel_rfl) (by kernel_rfl) (fun _ _ _ h => h) (Or.inl ⟨by rfl, ?_⟩) Q.out ?_
            case refine_2 => (intro ww hSw; obtain ⟨s1, s2, s3, s4, s5, s6⟩ := hSw; go_simp; try with_reducible rfl)
            try simp only [Act.put, List.setIfInBounds_toArray, List.set_cons_zero, List.set_cons_succ]
            refine wpAnyH_done (by kernel_rfl) ?_ _
            refine NoPanic.normal ?_
            go_wp2_with fail
            go_ret
            exact ⟨by rw [HK.out]; rfl, HP.out⟩
        | false =>
          have VS := Lib.hid hvs
          cases hvt : t.vr with
          | true =>
            have VT := Lib.hid hvt
            clear hvs hvt
            have HK : Hid (ksym (wtB L) (rkB L) u s t = 2) := Lib.hid (ksym_top HNA.out ⟨VS.out, .inl VT.out⟩)
            have HS6 : ∀ W, CsSt b m (.slice ol L.length cl) u (0 + 1 * kw (wtB L) u s + -1 * kw (wtB L) u t) M2 s t (.slice os s.ts.length cs) (.slice ot t.ts.length ct) w W → Hid (W.cell? ⟨b, 0, none⟩ = some (.slice ol L.length cl) ∧ W.cell? ⟨b, 1, none⟩ = some (.int .i64 u) ∧ W.cell? ⟨w.heap.size, 0, none⟩ = some (.string s.nm) ∧ W.cell? ⟨w.heap.size, 1, none⟩ = some (.bool false) ∧ W.cell? ⟨w.heap.size + 1, 0, none⟩ = some (.string t.nm) ∧ W.cell? ⟨w.heap.size + 1, 1, none⟩ = some (.bool true)) := fun W h => by
              have := h.s6
              rw [VS.out, VT.out] at this
              exact Lib.hid this
            have HS6' := Lib.hid HS6
            clear HS6
            have H2d := Lib.hid (H2.out.carry (Below.refl _ w2).drew)
            have Q := HS6'.out _ H2d.out
            have HP : Hid (DfPost b m (.slice ol L.length cl) u (kw (wtB L) u s - kw (wtB L) u t) (fun q => (cntL q s.vs : Int) - cntL q t.vs) (s = t) (s.size + t.size) w w2.drew) := Lib.hid (HDF.out _ H2d.out.d H2d.out.fr)
            refine wp_region_noPanic ?_
            refine wp_region_held_drew (S := fun w' => w'.cell? ⟨b, 0, none⟩ = some (.slice ol L.length cl) ∧ w'.cell? ⟨b, 1, none⟩ = some (.int .i64 u) ∧ w'.cell? ⟨w.heap.size, 0, none⟩ = some (.string s.nm) ∧ w'.cell? ⟨w.heap.size, 1, none⟩ = some (.bool false) ∧ w'.cell? ⟨w.heap.size + 1, 0, none⟩ = some (.string t.nm) ∧ w'.cell? ⟨w.heap.size + 1, 1, none⟩ = some (.bool true)) (by kernel_rfl) Q.out (fun _ => ?_)
            simp only [List.size_toArray, List.length_cons, List.length_nil, Nat.reduceAdd]
            refine wpAnyH_take (i := 0) (v := ?_) (by simp only [List.getElem?_toArray, List.getElem?_cons_zero]; rfl) (by kernel_rfl) (by kernel_rfl) (by kernel_rfl) (fun _ _ _ h => h) (Or.inl ⟨by rfl, ?_⟩) Q.out ?_
            case refine_2 => (intro ww hSw; obtain ⟨s1, s2, s3, s4, s5, s6⟩ := hSw; go_simp; try with_reducible rfl)
            try simp only [Act.put, List.setIfInBounds_toArray, List.set_cons_zero, List.set_cons_succ]
            refine wpAnyH_take (i := 1) (v := ?_) (by simp only [List.getElem?_toArray, List.getElem?_cons_zero, List.getElem?_cons_succ]; rfl) (by kernel_rfl) (by kernel_rfl) (by kernel_rfl) (fun _ _ _ h => h) (Or.inl ⟨by rfl, ?_⟩) Q.out ?_
            case refine_2 => (intro ww hSw; obtain ⟨s1, s2, s3, s4, s5, s6⟩ := hSw; go_simp; try with_reducible rfl)
            try simp only [Act.put, List.setIfInBounds_toArray, List.set_cons_zero, List.set_cons_succ]
            refine wpAnyH_take (i := 2) (v := ?_) (by simp only [List.getElem?_toArray, List.getElem?_cons_zero, List.getElem?_cons_succ]; rfl) (by kernel_rfl) (by kernel_rfl) (by kernel_rfl) (fun _ _ _ h => h) (Or.inl ⟨by rfl, ?_⟩) Q.out ?_
            case refine_2 => (intro ww hSw; obtain ⟨s1, s2, s3, s4, s5, s6⟩ := hSw; go_simp; try with_reducible rfl)
            try simp only [Act.put, List.setIfInBounds_toArray, List.set_cons_zero, List.set_cons_succ]
            refine wpAnyH_take (i := 3) (v := ?_) (by simp only [List.getElem?_toArray, List.getElem?_cons_zero, List.getElem?_cons_succ]; rfl) (by kernel_rfl) (by kernel_rfl) (by kernel_rfl) (fun _ _ _ h => h) (Or.inl ⟨by rfl, ?_⟩) Q.out ?_
            case refine_2 => (intro ww hSw; obtain ⟨s1, s2, s3, s4, s5, s6⟩ := hSw; go_simp; try with_reducible rfl)
            try simp only [Act.put, List.setIfInBounds_toArray, List.set_cons_zero, List.set_cons_succ]
            refine wpAnyH_take (i := 4) (v := ?_) (by simp only [List.getElem?_toArray, List.getElem?_cons_zero, List.getElem?_cons_succ]; rfl) (by kernel_rfl) (by kernel_rfl) (by kernel_rfl) (fun _ _ _ h => h) (Or.inl ⟨by rfl, ?_⟩) Q.out ?_
            case refine_2 => (intro ww hSw; obtain ⟨s1, s2, s3, s4, s5, s6⟩ := hSw; go_simp; try with_reducible rfl)
            try simp only [Act.put, List.setIfInBounds_toArray, List.set_cons_zero, List.set_cons_succ]
            refine wpAnyH_take (i := 5) (v := ?_) (by simp only [List.getElem?_toArray, List.getElem?_cons_zero, List.getElem?_cons_succ]; rfl) (by kernel_rfl) (by kernel_rfl) (by kernel_rfl) (fun _ _ _ h => h) (Or.inl ⟨by rfl, ?_⟩) Q.out ?_
            case refine_2 => (intro ww hSw; obtain ⟨s1, s2, s3, s4, s5, s6⟩ := hSw; go_simp; try with_reducible rfl)
            try simp only [Act.put, List.setIfInBounds_toArray, List.set_cons_zero, List.set_cons_succ]
            refine wpAnyH_take (i := 6) (v := ?_) (by simp only [List.getElem?_toArray, List.getElem?_cons_zero, List.getElem?_cons_succ]; rfl) (by kernel_rfl) (by kernel_rfl) (by kernel_rfl) (fun _ _ _ h => h) (Or.inl ⟨by rfl, ?_⟩) Q.out ?_
            case refine_2 => (intro ww hSw; obtain ⟨s1, s2, s3, s4, s5, s6⟩ := hSw; go_simp; try with_reducible rfl)
            try simp only [Act.put, List.setIfInBounds_toArray, List.set_cons_zero, List.set_cons_succ]
            refine wpAnyH_take (i := 7) (v := _) (by simp only [List.getElem?_toArray, List.getElem?_cons_zero, List.getElem?_cons_succ]; rfl) (by kernel_rfl) (by kernel_rfl) (by kernel_rfl) (fun _ _ _ h => h) (Or.inr ⟨by rfl, rfl⟩) Q.out ?_
            try simp only [Act.put, List.setIfInBounds_toArray, List.set_cons_zero, List.set_cons_succ]
            refine wpAnyH_take (i := 8) (v := _) (by simp only [List.getElem?_toArray, List.getElem?_cons_zero, List.getElem?_cons_succ]; rfl) (by kernel_rfl) (by kernel_rfl) (by kernel_rfl) (fun _ _ _ h => h) (Or.inr ⟨by rfl, rfl⟩) Q.out ?_
            try simp only [Act.put, List.setIfInBounds_toArray, List.set_cons_zero, List.set_cons_succ]
            refine wpAnyH_take (i := 9) (v := _) (by simp only [List.getElem?_toArray, List.getElem?_cons_zero, List.getElem?_cons_succ]; rfl) (by kernel_rfl) (by kernel_rfl) (by kernel_rfl) (fun _ _ _ h => h) (Or.inr ⟨by rfl, rfl⟩) Q.out ?_
            try simp only [Act.put, List.setIfInBounds_toArray, List.set_cons_zero, List.set_cons_succ]
            refine wpAnyH_take (i := 10) (v := _) (by simp only [List.getElem?_toArray, List.getElem?_cons_zero, List.getElem?_cons_succ]; rfl) (by kernel_rfl) (by kernel_rfl) (by kernel_rfl) (fun _ _ _ h => h) (Or.inr ⟨by rfl, rfl⟩) Q.out ?_
            try simp only [Act.put, List.setIfInBounds_toArray, List.set_cons_zero, List.set_cons_succ]
            refine wpAnyH_take (i := 11) (v := _) (by simp only [List.getElem?_toArray, List.getElem?_cons_zero, List.getElem?_cons_succ]; rfl) (by kernel_rfl) (by kernel_rfl) (by kernel_rfl) (fun _ _ _ h => h) (Or.inr ⟨by rfl, rfl⟩) Q.out ?_
            try simp only [Act.put, List.setIfInBounds_toArray, List.set_cons_zero, List.set_cons_succ]
            refine wpAnyH_take (i := 12) (v := _) (by simp only [List.getElem?_toArray, List.getElem?_cons_zero, List.getElem?_cons_succ]; rfl) (by kernel_rfl) (by kernel_rfl) (by kernel_rfl) (fun _ _ _ h => h) (Or.inr ⟨by rfl, rfl⟩) Q.out ?_
            try simp only [Act.put, List.setIfInBounds_toArray, List.set_cons_zero, List.set_cons_succ]
            refine wpAnyH_take (i := 13) (v := _) (by simp only [List.getElem?_toArray, List.getElem?_cons_zero, List.getElem?_cons_succ]; rfl) (by kernel_rfl) (by kernel_rfl) (by kernel_rfl) (fun _ _ _ h => h) (Or.inr ⟨by rfl, rfl⟩) Q.out ?_
            try simp only [Act.put, List.setIfInBounds_toArray, List.set_cons_zero, List.set_cons_succ]
            refine wpAnyH_take (i := 14) (v := _) (by simp only [List.getElem?_toArray, List.getElem?_cons_zero, List.getElem?_cons_succ]; rfl) (by kernel_rfl) (by kernel_rfl) (by kernel_rfl) (fun _ _ _ h => h) (Or.inr ⟨by rfl, rfl⟩) Q.out ?_
            try simp only [Act.put, List.setIfInBounds_toArray, List.set_cons_zero, List.set_cons_succ]
            refine wpAnyH_take (i := 15) (v := _) (by simp only [List.getElem?_toArray, List.getElem?_cons_zero, List.getElem?_cons_succ]; rfl) (by kernel_rfl) (by kernel_rfl) (by kernel_rfl) (fun _ _ _ h => h) (Or.inr ⟨by rfl, rfl⟩) Q.out ?_
            try simp only [Act.put, List.setIfInBounds_toArray, List.set_cons_zero, List.set_cons_succ]
            refine wpAnyH_take (i := 16) (v := _) (by simp only [List.getElem?_toArray, List.getElem?_cons_zero, List.getElem?_cons_succ]; rfl) (by kernel_rfl) (by kernel_rfl) (by kernel_rfl) (fun _ _ _ h => h) (Or.inr ⟨by rfl, rfl⟩) Q.out ?_
            try simp only [Act.put, List.setIfInBounds_toArray, List.set_cons_zero, List.set_cons_succ]
            refine wpAnyH_take (i := 17) (v := _) (by simp only [List.getElem?_toArray, List.getElem?_cons_zero, List.getElem?_cons_succ]; rfl) (by kernel_rfl) (by kernel_rfl) (by kernel_rfl) (fun _ _ _ h => h) (Or.inr ⟨by rfl, rfl⟩) Q.out ?_
            try simp only [Act.put, List.setIfInBounds_toArray, List.set_cons_zero, List.set_cons_succ]
            refine wpAnyH_take (i := 18) (v := _) (by simp only [List.getElem?_toArray, List.getElem?_cons_zero, List.getElem?_cons_succ]; rfl) (by kernel_rfl) (by kernel_rfl) (by kernel_rfl) (fun _ _ _ h => h) (Or.inr ⟨by rfl, rfl⟩) Q.out ?_
            try simp only [Act.put, List.setIfInBounds_toArray, List.set_cons_zero, List.set_cons_succ]
            refine wpAnyH_take (i := 19) (v := _) (by simp only [List.getElem?_toArray, List.getElem?_cons_zero, List.getElem?_cons_succ]; rfl) (by kernel_rfl) (by kernel_rfl) (by kernel_rfl) (fun _ _ _ h => h) (Or.inr ⟨by rfl, rfl⟩) Q.out ?_
            try simp only [Act.put, List.setIfInBounds_toArray, List.set_cons_zero, List.set_cons_succ]
            refine wpAnyH_take (i := 20) (v := _) (by simp only [List.getElem?_toArray, List.getElem?_cons_zero, List.getElem?_cons_succ]; rfl) (by kernel_rfl) (by kernel_rfl) (by kernel_rfl) (fun _ _ _ h => h) (Or.inr ⟨by rfl, rfl⟩) Q.out ?_
            try simp only [Act.put, List.setIfInBounds_toArray, List.set_cons_zero, List.set_cons_succ]
            refine wpAnyH_take (i := 21) (v := _) (by simp only [List.getElem?_toArray, List.getElem?_cons_zero, List.getElem?_cons_succ]; rfl) (by kernel_rfl) (by kernel_rfl) (by kernel_rfl) (fun _ _ _ h => h) (Or.inr ⟨by rfl, rfl⟩) Q.out ?_
            try simp only [Act.put, List.setIfInBounds_toArray, List.set_cons_zero, List.set_cons_succ]
            refine wpAnyH_take (i := 22) (v := _) (by simp only [List.getElem?_toArray, List.getElem?_cons_zero, List.getElem?_cons_succ]; rfl) (by kernel_rfl) (by kernel_rfl) (by kernel_rfl) (fun _ _ _ h => h) (Or.inr ⟨by rfl, rfl⟩) Q.out ?_
            try simp only [Act.put, List.setIfInBounds_toArray, List.set_cons_zero, List.set_cons_succ]
            refine wpAnyH_take (i := 23) (v := _) (by simp only [List.getElem?_toArray, List.getElem?_cons_zero, List.getElem?_cons_succ]; rfl) (by kernel_rfl) (by kernel_rfl) (by kernel_rfl) (fun _ _ _ h => h) (Or.inr ⟨by rfl, rfl⟩) Q.out ?_
            try simp only [Act.put, List.setIfInBounds_toArray, List.set_cons_zero, List.set_cons_succ]
            refine wpAnyH_take (i := 24) (v := ?_) (by simp only [List.getElem?_toArray, List.getElem?_cons_zero, List.getElem?_cons_succ]; rfl) (by kernel_rfl) (by kernel_rfl) (by kernel_rfl) (fun _ _ _ h => h) (Or.inl ⟨by rfl, ?_⟩) Q.out ?_
            case refine_2 => (intro ww hSw; obtain ⟨s1, s2, s3, s4, s5, s6⟩ := hSw; go_simp; try with_reducible rfl)
            try simp only [Act.put, List.setIfInBounds_toArray, List.set_cons_zero, List.set_cons_succ]
            refine wpAnyH_take (i := 25) (v := ?_) (by simp only [List.getElem?_toArray, List.getElem?_cons_zero, List.getElem?_cons_succ]; rfl) (by kernel_rfl) (by kernel_rfl) (by kernel_rfl) (fun _ _ _ h => h) (Or.inl ⟨by rfl, ?_⟩) Q.out ?_
            case refine_2 => (intro ww hSw; obtain ⟨s1, s2, s3, s4, s5, s6⟩ := hSw; go_simp; try with_reducible rfl)
            try simp only [Act.put, List.setIfInBounds_toArray, List.set_cons_zero, List.set_cons_succ]
            refine wpAnyH_done (by kernel_rfl) ?_ _
            refine NoPanic.normal ?_
            go_wp2_with fail
            go_ret
            exact ⟨by rw [HK.out]; rfl, HP.out⟩
          | false =>
            have VT := Lib.hid hvt
            clear hvs hvt
            have HS6 : ∀ W, CsSt b m (.slice ol L.length cl) u (0 + 1 * kw (wtB L) u s + -1 * kw (wtB L) u t) M2 s t (.slice os s.ts.length cs) (.slice ot t.ts.length ct) w W → Hid (W.cell? ⟨b, 0, none⟩ = some (.slice ol L.length cl) ∧ W.cell? ⟨b, 1, none⟩ = some (.int .i64 u) ∧ W.cell? ⟨w.heap.size, 0, none⟩ = some (.string s.nm) ∧ W.cell? ⟨w.heap.size, 1, none⟩ = some (.bool false) ∧ W.cell? ⟨w.heap.size + 1, 0, none⟩ = some (.string t.nm) ∧ W.cell? ⟨w.heap.size + 1, 1, none⟩ = some (.bool false)) := fun W h => by
              have := h.s6
              rw [VS.out, VT.out] at this
              exact Lib.hid this
            have HS6' := Lib.hid HS6
            clear HS6
            have H2d := Lib.hid (H2.out.carry (Below.refl _ w2).drew)
            have Q := HS6'.out _ H2d.out
            have HP : Hid (DfPost b m (.slice ol L.length cl) u (kw (wtB L) u s - kw (wtB L) u t) (fun q => (cntL q s.vs : Int) - cntL q t.vs) (s = t) (s.size + t.size) w w2.drew) := Lib.hid (HDF.out _ H2d.out.d H2d.out.fr)
            refine wp_region_noPanic ?_
            refine wp_region_held_drew (S := fun w' => w'.cell? ⟨b, 0, none⟩ = some (.slice ol L.length cl) ∧ w'.cell? ⟨b, 1, none⟩ = some (.int .i64 u) ∧ w'.cell? ⟨w.heap.size, 0, none⟩ = some (.string s.nm) ∧ w'.cell? ⟨w.heap.size, 1, none⟩ = some (.bool false) ∧ w'.cell? ⟨w.heap.size + 1, 0, none⟩ = some (.string t.nm) ∧ w'.cell? ⟨w.heap.size + 1, 1, none⟩ = some (.bool false)) (by kernel_rfl) Q.out (fun _ => ?_)
            simp only [List.size_toArray, List.length_cons, List.length_nil, Nat.reduceAdd]
            refine wpAnyH_take (i := 0) (v := ?_) (by simp only [List.getElem?_toArray, List.getElem?_cons_zero]; rfl) (by kernel_rfl) (by kernel_rfl) (by kernel_rfl) (fun _ _ _ h => h) (Or.inl ⟨by rfl, ?_⟩) Q.out ?_
            case refine_2 => (intro ww hSw; obtain ⟨s1, s2, s3, s4, s5, s6⟩ := hSw; go_simp; try with_reducible rfl)
            try simp only [Act.put, List.setIfInBounds_toArray, List.set_cons_zero, List.set_cons_succ]
            refine wpAnyH_take (i := 1) (v := ?_) (by simp only [List.getElem?_toArray, List.getElem?_cons_zero, List.getElem?_cons_succ]; rfl) (by kernel_rfl) (by kernel_rfl) (by kernel_rfl) (fun _ _ _ h => h) (Or.inl ⟨by rfl, ?_⟩) Q.out ?_
            case refine_2 => (intro ww hSw; obtain ⟨s1, s2, s3, s4, s5, s6⟩ := hSw; go_simp; try with_reducible rfl)
            try simp only [Act.put, List.setIfInBounds_toArray, List.set_cons_zero, List.set_cons_succ]
            refine wpAnyH_take (i := 2) (v := ?_) (by simp only [List.getElem?_toArray, List.getElem?_cons_zero, List.getElem?_cons_succ]; rfl) (by kernel_rfl) (by kernel_rfl) (by kernel_rfl) (fun _ _ _ h => h) (Or.inl ⟨by rfl, ?_⟩) Q.out ?_
            case refine_2 => (intro ww hSw; obtain ⟨s1, s2, s3, s4, s5, s6⟩ := hSw; go_simp; try with_reducible rfl)
            try simp only [Act.put, List.setIfInBounds_toArray, List.set_cons_zero, List.set_cons_succ]
            refine wpAnyH_take (i := 3) (v := ?_) (by simp only [List.getElem?_toArray, List.getElem?_cons_zero, List.getElem?_cons_succ]; rfl) (by kernel_rfl) (by kernel_rfl) (by kernel_rfl) (fun _ _ _ h => h) (Or.inl ⟨by rfl, ?_⟩) Q.out ?_
            case refine_2 => (intro ww hSw; obtain ⟨s1, s2, s3, s4, s5, s6⟩ := hSw; go_simp; try with_reducible rfl)
            try simp only [Act.put, List.setIfInBounds_toArray, List.set_cons_zero, List.set_cons_succ]
            refine wpAnyH_take (i := 4) (v := ?_) (by simp only [List.getElem?_toArray, List.getElem?_cons_zero, List.getElem?_cons_succ]; rfl) (by kernel_rfl) (by kernel_rfl) (by kernel_rfl) (fun _ _ _ h => h) (Or.inl ⟨by rfl, ?_⟩) Q.out ?_
            case refine_2 => (intro ww hSw; obtain ⟨s1, s2, s3, s4, s5, s6⟩ := hSw; go_simp; try with_reducible rfl)
            try simp only [Act.put, List.setIfInBounds_toArray, List.set_cons_zero, List.set_cons_succ]
            refine wpAnyH_take (i := 5) (v := ?_) (by simp only [List.getElem?_toArray, List.getElem?_cons_zero, List.getElem?_cons_succ]; rfl) (by kernel_rfl) (by kernel_rfl) (by kernel_rfl) (fun _ _ _ h => h) (Or.inl ⟨by rfl, ?_⟩) Q.out ?_
            case refine_2 => (intro ww hSw; obtain ⟨s1, s2, s3, s4, s5, s6⟩ := hSw; go_simp; try with_reducible rfl)
            try simp only [Act.put, List.setIfInBounds_toArray, List.set_cons_zero, List.set_cons_succ]
            refine wpAnyH_take (i := 6) (v := ?_) (by simp only [List.getElem?_toArray, List.getElem?_cons_zero, List.getElem?_cons_succ]; rfl) (by kernel_rfl) (by kernel_rfl) (by kernel_rfl) (fun _ _ _ h => h) (Or.inl ⟨by rfl, ?_⟩) Q.out ?_
            case refine_2 => (intro ww hSw; obtain ⟨s1, s2, s3, s4, s5, s6⟩ := hSw; go_simp; try with_reducible rfl)
            try simp only [Act.put, List.setIfInBounds_toArray, List.set_cons_zero, List.set_cons_succ]
            refine wpAnyH_take (i := 7) (v := ?_) (by simp only [List.getElem?_toArray, List.getElem?_cons_zero, List.getElem?_cons_succ]; rfl) (by kernel_rfl) (by kernel_rfl) (by kernel_rfl) (fun _ _ _ h => h) (Or.inl ⟨by rfl, ?_⟩) Q.out ?_
            case refine_2 => (intro ww hSw; obtain ⟨s1, s2, s3, s4, s5, s6⟩ := hSw; go_simp; try with_reducible rfl)
            try simp only [Act.put, List.setIfInBounds_toArray, List.set_cons_zero, List.set_cons_succ]
            refine wpAnyH_take (i := 8) (v := ?_) (by simp only [List.getElem?_toArray, List.getElem?_cons_zero, List.getElem?_cons_succ]; rfl) (by kernel_rfl) (by kernel_rfl) (by kernel_rfl) (fun _ _ _ h => h) (Or.inl ⟨by rfl, ?_⟩) Q.out ?_
            case refine_2 => (intro ww hSw; obtain ⟨s1, s2, s3, s4, s5, s6⟩ := hSw; go_simp; try with_reducible rfl)
            try simp only [Act.put, List.setIfInBounds_toArray, List.set_cons_zero, List.set_cons_succ]
            refine wpAnyH_take (i := 9) (v := ?_) (by simp only [List.getElem?_toArray, List.getElem?_cons_zero, List.getElem?_cons_succ]; rfl) (by kernel_rfl) (by kernel_rfl) (by kernel_rfl) (fun _ _ _ h => h) (Or.inl ⟨by rfl, ?_⟩) Q.out ?_
            case refine_2 => (intro ww hSw; obtain ⟨s1, s2, s3, s4, s5, s6⟩ := hSw; go_simp; try with_reducible rfl)
            try simp only [Act.put, List.setIfInBounds_toArray, List.set_cons_zero, List.set_cons_succ]
            refine wpAnyH_take (i := 10) (v := ?_) (by simp only [List.getElem?_toArray, List.getElem?_cons_zero, List.getElem?_cons_succ]; rfl) (by kernel_rfl) (by kernel_rfl) (by kernel_rfl) (fun _ _ _ h => h) (Or.inl ⟨by rfl, ?_⟩) Q.out ?_
            case refine_2 => (intro ww hSw; obtain ⟨s1, s2, s3, s4, s5, s6⟩ := hSw; go_simp; try with_reducible rfl)
            try simp only [Act.put, List.setIfInBounds_toArray, List.set_cons_zero, List.set_cons_succ]
            refine wpAnyH_take (i := 11) (v := ?_) (by simp only [List.getElem?_toArray, List.getElem?_cons_zero, List.getElem?_cons_succ]; rfl) (by kernel_rfl) (by kernel_rfl) (by kernel_rfl) (fun _ _ _ h => h) (Or.inl ⟨by rfl, ?_⟩) Q.out ?_
            case refine_2 => (intro ww hSw; obtain ⟨s1, s2, s3, s4, s5, s6⟩ := hSw; go_simp; try with_reducible rfl)
            try simp only [Act.put, List.setIfInBounds_toArray, List.set_cons_zero, List.set_cons_succ]
            refine wpAnyH_take (i := 12) (v := ?_) (by simp only [List.getElem?_toArray, List.getElem?_cons_zero, List.getElem?_cons_succ]; rfl) (by kernel_rfl) (by kernel_rfl) (by kernel_rfl) (fun _ _ _ h => h) (Or.inl ⟨by rfl, ?_⟩) Q.out ?_
            case refine_2 => (intro ww hSw; obtain ⟨s1, s2, s3, s4, s5, s6⟩ := hSw; go_simp; try with_reducible rfl)
            try simp only [Act.put, List.setIfInBounds_toArray, List.set_cons_zero, List.set_cons_succ]
            refine wpAnyH_take (i := 15) (v := ?_) (by simp only [List.getElem?_toArray, List.getElem?_cons_zero, List.getElem?_cons_succ]; rfl) (by kernel_rfl) (by kernel_rfl) (by kernel_rfl) (fun _ _ _ h => h) (Or.inl ⟨by rfl, ?_⟩) Q.out ?_
            case refine_2 => (intro ww hSw; obtain ⟨s1, s2, s3, s4, s5, s6⟩ := hSw; go_simp; try with_reducible rfl)
            try simp only [Act.put, List.setIfInBounds_toArray, List.set_cons_zero, List.set_cons_succ]
            refine wpAnyH_take (i := 16) (v := ?_) (by simp only [List.getElem?_toArray, List.getElem?_cons_zero, List.getElem?_cons_succ]; rfl) (by kernel_rfl) (by kernel_rfl) (by kernel_rfl) (fun _ _ _ h => h) (Or.inl ⟨by rfl, ?_⟩) Q.out ?_
            case refine_2 => (intro ww hSw; obtain ⟨s1, s2, s3, s4, s5, s6⟩ := hSw; go_simp; try with_reducible rfl)
            try simp only [Act.put, List.setIfInBounds_toArray, List.set_cons_zero, List.set_cons_succ]
            refine wpAnyH_take (i := 17) (v := ?_) (by simp only [List.getElem?_toArray, List.getElem?_cons_zero, List.getElem?_cons_succ]; rfl) (by kernel_rfl) (by kernel_rfl) (by kernel_rfl) (fun _ _ _ h => h) (Or.inl ⟨by rfl, ?_⟩) Q.out ?_
            case refine_2 => (intro ww hSw; obtain ⟨s1, s2, s3, s4, s5, s6⟩ := hSw; go_simp; try with_reducible rfl)
            try simp only [Act.put, List.setIfInBounds_toArray, List.set_cons_zero, List.set_cons_succ]
            refine wpAnyH_take (i := 18) (v := ?_) (by simp only [List.getElem?_toArray, List.getElem?_cons_zero, List.getElem?_cons_succ]; rfl) (by kernel_rfl) (by kernel_rfl) (by kernel_rfl) (fun _ _ _ h => h) (Or.inl ⟨by rfl, ?_⟩) Q.out ?_
            case refine_2 => (intro ww hSw; obtain ⟨s1, s2, s3, s4, s5, s6⟩ := hSw; go_simp; try with_reducible rfl)
            try simp only [Act.put, List.setIfInBounds_toArray, List.set_cons_zero, List.set_cons_succ]
            refine wpAnyH_take (i := 19) (v := ?_) (by simp only [List.getElem?_toArray, List.getElem?_cons_zero, List.getElem?_cons_succ]; rfl) (by kernel_rfl) (by kernel_rfl) (by kernel_rfl) (fun _ _ _ h => h) (Or.inl ⟨by rfl, ?_⟩) Q.out ?_
            case refine_2 => (intro ww hSw; obtain ⟨s1, s2, s3, s4, s5, s6⟩ := hSw; go_simp; try with_reducible rfl)
            try simp only [Act.put, List.setIfInBounds_toArray, List.set_cons_zero, List.set_cons_succ]
            refine wpAnyH_take (i := 20) (v := ?_) (by simp only [List.getElem?_toArray, List.getElem?_cons_zero, List.getElem?_cons_succ]; rfl) (by kernel_rfl) (by kernel_rfl) (by kernel_rfl) (fun _ _ _ h => h) (Or.inl ⟨by rfl, ?_⟩) Q.out ?_
            case refine_2 => (intro ww hSw; obtain ⟨s1, s2, s3, s4, s5, s6⟩ := hSw; go_simp; try with_reducible rfl)
            try simp only [Act.put, List.setIfInBounds_toArray, List.set_cons_zero, List.set_cons_succ]
            have hfd := rkFld1
            refine wpAnyH_ready (rs := [13]) (by kernel_rfl) (by simp) ?_
            refine AllReadyH.cons (by simp only [List.getElem?_toArray, List.getElem?_cons_zero, List.getElem?_cons_succ]; rfl) (fun K' hK => ?_) AllReadyH.nil
            go_simp
            have hE := entry_any L u s.nm.data.toList (.slice ol L.length cl) _ (HL.out.carry (H2d.out.fr.below hn0 (xd_ge hnb hnm)) (Nat.le_trans hn0 H2d.out.fr.size)) (by have := HW.out.len; omega) HW.out.nms
            rw [kb_key] at hE
            refine hE.mono ?_
            rintro e w3 ⟨rfl, hb3⟩
            have H3 := Lib.hid (H2d.out.carry hb3)
            have Q3 := HS6'.out _ H3.out
            clear hb3 hE
            obtain ⟨p3, hp3⟩ : ∃ p, p = entryOf L s.nm.data.toList := ⟨_, rfl⟩
            rw [← hp3]
            have HP3 : Hid (p3.2.1 = rkB L s.nm) := Lib.hid (by rw [hp3]; rfl)
            clear hp3
            refine hK.out _ _ Q3.out (fun _ => ?_)
            clear hK
            try simp only [Act.put, List.setIfInBounds_toArray, List.set_cons_zero, List.set_cons_succ]
            refine wpAnyH_take (i := 14) (v := ?_) (by simp only [List.getElem?_toArray, List.getElem?_cons_zero, List.getElem?_cons_succ]; rfl) (by kernel_rfl) (by kernel_rfl) (by kernel_rfl) (fun _ _ _ h => h) (Or.inl ⟨by rfl, ?_⟩) Q3.out ?_
            case refine_2 => (intro ww hSw; obtain ⟨s1, s2, s3, s4, s5, s6⟩ := hSw; go_simp; try with_reducible rfl)
            try simp only [Act.put, List.setIfInBounds_toArray, List.set_cons_zero, List.set_cons_succ]
            refine wpAnyH_ready (rs := [21]) (by kernel_rfl) (by simp) ?_
            refine AllReadyH.cons (by simp only [List.getElem?_toArray, List.getElem?_cons_zero, List.getElem?_cons_succ]; rfl) (fun K' hK => ?_) AllReadyH.nil
            go_simp
            have hE := entry_any L u t.nm.data.toList (.slice ol L.length cl) _ (HL.out.carry (H3.out.fr.below hn0 (xd_ge hnb hnm)) (Nat.le_trans hn0 H3.out.fr.size)) (by have := HW.out.len; omega) HW.out.nms
            rw [kb_key] at hE
            refine hE.mono ?_
            rintro e w4 ⟨rfl, hb4⟩
            have H4 := Lib.hid (H3.out.carry hb4)
            have Q4 := HS6'.out _ H4.out
            clear hb4 hE
            obtain ⟨p4, hp4⟩ : ∃ p, p = entryOf L t.nm.data.toList := ⟨_, rfl⟩
            rw [← hp4]
            have HP4 : Hid (p4.2.1 = rkB L t.nm) := Lib.hid (by rw [hp4]; rfl)
            clear hp4
            refine hK.out _ _ Q4.out (fun _ => ?_)
            clear hK
            try simp only [Act.put, List.setIfInBounds_toArray, List.set_cons_zero, List.set_cons_succ]
            refine wpAnyH_take (i := 22) (v := ?_) (by simp only [List.getElem?_toArray, List.getElem?_cons_zero, List.getElem?_cons_succ]; rfl) (by kernel_rfl) (by kernel_rfl) (by kernel_rfl) (fun _ _ _ h => h) (Or.inl ⟨by rfl, ?_⟩) Q4.out ?_
            case refine_2 => (intro ww hSw; obtain ⟨s1, s2, s3, s4, s5, s6⟩ := hSw; go_simp; try with_reducible rfl)
            try simp only [Act.put, List.setIfInBounds_toArray, List.set_cons_zero, List.set_cons_succ]
            refine wpAnyH_take (i := 23) (v := ?_) (by simp only [List.getElem?_toArray, List.getElem?_cons_zero, List.getElem?_cons_succ]; rfl) (by kernel_rfl) (by kernel_rfl) (by kernel_rfl) (fun _ _ _ h => h) (Or.inl ⟨by rfl, ?_⟩) Q4.out ?_
            case refine_2 => (intro ww hSw; obtain ⟨s1, s2, s3, s4, s5, s6⟩ := hSw; go_simp; try with_reducible rfl)
            try simp only [Act.put, List.setIfInBounds_toArray, List.set_cons_zero, List.set_cons_succ]
            refine wpAnyH_take (i := 24) (v := ?_) (by simp only [List.getElem?_toArray, List.getElem?_cons_zero, List.getElem?_cons_succ]; rfl) (by kernel_rfl) (by kernel_rfl) (by kernel_rfl) (fun _ _ _ h => h) (Or.inl ⟨by rfl, ?_⟩) Q4.out ?_
            case refine_2 => (intro ww hSw; obtain ⟨s1, s2, s3, s4, s5, s6⟩ := hSw; go_simp; try with_reducible rfl)
            try simp only [Act.put, List.setIfInBounds_toArray, List.set_cons_zero, List.set_cons_succ]
            refine wpAnyH_take (i := 25) (v := ?_) (by simp only [List.getElem?_toArray, List.getElem?_cons_zero, List.getElem?_cons_succ]; rfl) (by kernel_rfl) (by kernel_rfl) (by kernel_rfl) (fun _ _ _ h => h) (Or.inl ⟨by rfl, ?_⟩) Q4.out ?_
            case refine_2 => (intro ww hSw; obtain ⟨s1, s2, s3, s4, s5, s6⟩ := hSw; go_simp; try with_reducible rfl)
            try simp only [Act.put, List.setIfInBounds_toArray, List.set_cons_zero, List.set_cons_succ]
            refine wpAnyH_done (by kernel_rfl) ?_ _
            refine NoPanic.normal ?_
            clear hfd
            have HP' : Hid (DfPost b m (.slice ol L.length cl) u (kw (wtB L) u s - kw (wtB L) u t) (fun q => (cntL q s.vs : Int) - cntL q t.vs) (s = t) (s.size + t.size) w w4) := Lib.hid (HDF.out _ H4.out.d H4.out.fr)
            by_cases hr : p4.2.1 < p3.2.1
            · have hdr : decide (p4.2.1 < p3.2.1) = true := decide_eq_true hr
              have HK : Hid (ksym (wtB L) (rkB L) u s t = 2) := Lib.hid (ksym_top HNA.out ⟨VS.out, .inr (by rw [← HP3.out, ← HP4.out]; exact hr)⟩)
              go_wp2_with fail
              go_ret
              exact ⟨by rw [HK.out]; rfl, HP'.out⟩
            · have hdr : decide (p4.2.1 < p3.2.1) = false := decide_eq_false hr
              have HK : Hid (ksym (wtB L) (rkB L) u s t = 0) := Lib.hid (ksym_not HNA.out fun h => by have h2 := h.2; rw [VT.out, ← HP3.out, ← HP4.out] at h2; rcases h2 with h2 | h2; cases h2; exact hr h2)
              go_wp2_with fail
              go_ret
              exact ⟨by rw [HK.out]; rfl, HP'.out⟩
      · have q2 := nm_beq_no e2
        clear e1 e2 ha
        go_wp2_with fail
        clear q1 q2
        have hB : Below w.heap.size w ((w.alloc (.cells #[.string s.nm, .bool s.vr, .slice os s.ts.length cs] 25)).alloc (.cells #[.string t.nm, .bool t.vr, .slice ot t.ts.length ct] 25)) := by go_grown
        refine (add_any HW n0 b m ol cl 1 (.inl rfl) hnb hnm s (.slice os s.ts.length cs) 0 [] 0 _ hus (HS.out.carry (hB.mono hn0) (Nat.le_refl _)) (Nat.le_trans hn0 hB.size) (HL.out.carry (hB.mono hn0) (Nat.le_refl _)) H0.out.d NmB.nil (by omega)).mono ?_
        rintro e w1 ⟨rfl, M1, hd1, hv1, hb1, hf1⟩
        have H1 := Lib.hid (H0.out.sub hd1 hf1)
        have HB1 := Lib.hid hb1
        have HV1 := Lib.hid hv1
        clear hB hd1 hv1 hb1 hf1
        obtain ⟨x0, x1, x2, y0, y1, y2⟩ := H1.out.six
        go_wp2_with fail
        have hlow := H1.out.fr.below hn0 (xd_ge hnb hnm)
        refine (add_any HW n0 b m ol cl (-1) (.inr rfl) hnb hnm t (.slice ot t.ts.length ct) _ M1 _ w1 hut (HT.out.carry hlow (Nat.le_refl _)) (Nat.le_trans hn0 H1.out.fr.size) (HL.out.carry hlow (Nat.le_refl _)) H1.out.d HB1.out (by omega)).mono ?_
        rintro e w2 ⟨rfl, M2, hd2, hv2, hb2, hf2⟩
        have H2 := Lib.hid (H1.out.sub hd2 hf2)
        have HDF : Hid (∀ W, DIs b m (.slice ol L.length cl) u (0 + 1 * kw (wtB L) u s + -1 * kw (wtB L) u t) M2 W → FrX (XD b m) w W → DfPost b m (.slice ol L.length cl) u (kw (wtB L) u s - kw (wtB L) u t) (fun q => (cntL q s.vs : Int) - cntL q t.vs) (s = t) (s.size + t.size) w W) := Lib.hid fun W hd hf => by
          have eg : 0 + 1 * kw (wtB L) u s + -1 * kw (wtB L) u t = kw (wtB L) u s - kw (wtB L) u t := by omega
          rw [eg] at hd hb2
          exact ⟨M2, hd, fun q => by rw [hv2, HV1.out, valA_nil]; show _ = (cntL q s.vs : Int) - cntL q t.vs; omega, hb2.mono (by omega), fun e => absurd (by subst e; exact ⟨rfl, rfl, rfl⟩) HNA.out, hf⟩
        clear hlow hd2 hv2 hb2 hf2 x0 x1 x2 y0 y1 y2 H1 HB1 HV1
        go_wp2_with fail
        cases hvs : s.vr with
        | true =>
          have VS := Lib.hid hvs
          cases hvt : t.vr with
          | true =>
            have VT := Lib.hid hvt
            clear hvs hvt
            have HK : Hid (ksym (wtB L) (rkB L) u s t = 0) := Lib.hid (ksym_not HNA.out fun h => by rw [VS.out] at h; cases h.1)
            have HS6 : ∀ W, CsSt b m (.slice ol L.length cl) u (0 + 1 * kw (wtB L) u s + -1 * kw (wtB L) u t) M2 s t (.slice os s.ts.length cs) (.slice ot t.ts.length ct) w W → Hid (W.cell? ⟨b, 0, none⟩ = some (.slice ol L.length cl) ∧ W.cell? ⟨b, 1, none⟩ = some (.int .i64 u) ∧ W.cell? ⟨w.heap.size, 0, none⟩ = some (.string s.nm) ∧ W.cell? ⟨w.heap.size, 1, none⟩ = some (.bool true) ∧ W.cell? ⟨w.heap.size + 1, 0, none⟩ = some (.string t.nm) ∧ W.cell? ⟨w.heap.size + 1, 1, none⟩ = some (.bool true)) := fun W h => by
              have := h.s6
              rw [VS.out, VT.out] at this
              exact Lib.hid this
            have HS6' := Lib.hid HS6
            clear HS6
            have H2d := Lib.hid (H2.out.carry (Below.refl _ w2).drew)
            have Q := HS6'.out _ H2d.out
            have HP : Hid (DfPost b m (.slice ol L.length cl) u (kw (wtB L) u s - kw (wtB L) u t) (fun q => (cntL q s.vs : Int) - cntL q t.vs) (s = t) (s.size + t.size) w w2.drew) := Lib.hid (HDF.out _ H2d.out.d H2d.out.fr)
            refine wp_region_noPanic ?_
            refine wp_region_held_drew (S := fun w' => w'.cell? ⟨b, 0, none⟩ = some (.slice ol L.length cl) ∧ w'.cell? ⟨b, 1, none⟩ = some (.int .i64 u) ∧ w'.cell? ⟨w.heap.size, 0, none⟩ = some (.string s.nm) ∧ w'.cell? ⟨w.heap.size, 1, none⟩ = some (.bool true) ∧ w'.cell? ⟨w.heap.size + 1, 0, none⟩ = some (.string t.nm) ∧ w'.cell? ⟨w.heap.size + 1, 1, none⟩ = some (.bool true)) (by kernel_rfl) Q.out (fun _ => ?_)
            simp only [List.size_toArray, List.length_cons, List.length_nil, Nat.reduceAdd]
            refine wpAnyH_take (i := 0) (v := ?_) (by simp only [List.getElem?_toArray, List.getElem?_cons_zero]; rfl) (by kernel_rfl) (by kernel_rfl) (by kernel_rfl) (fun _ _ _ h => h) (Or.inl ⟨by rfl, ?_⟩) Q.out ?_
            case refine_2 => (intro ww hSw; obtain ⟨s1, s2, s3, s4, s5, s6⟩ := hSw; go_simp; try with_reducible rfl)
            try simp only [Act.put, List.setIfInBounds_toArray, List.set_cons_zero, List.set_cons_succ]
            refine wpAnyH_take (i := 1) (v := ?_) (by simp only [List.getElem?_toArray, List.getElem?_cons_zero, List.getElem?_cons_succ]; rfl) (by kernel_rfl) (by kernel_rfl) (by kernel_rfl) (fun _ _ _ h => h) (Or.inl ⟨by rfl, ?_⟩) Q.out ?_
            case refine_2 => (intro ww hSw; obtain ⟨s1, s2, s3, s4, s5, s6⟩ := hSw; go_simp; try with_reducible rfl)
            try simp only [Act.put, List.setIfInBounds_toArray, List.set_cons_zero, List.set_cons_succ]
            refine wpAnyH_take (i := 2) (v := ?_) (by simp only [List.getElem?_toArray, List.getElem?_cons_zero, List.getElem?_cons_succ]; rfl) (by kernel_rfl) (by kernel_rfl) (by kernel_rfl) (fun _ _ _ h => h) (Or.inl ⟨by rfl, ?_⟩) Q.out ?_
            case refine_2 => (intro ww hSw; obtain ⟨s1, s2, s3, s4, s5, s6⟩ := hSw; go_simp; try with_reducible rfl)
            try simp only [Act.put, List.setIfInBounds_toArray, List.set_cons_zero, List.set_cons_succ]
            refine wpAnyH_take (i := 3) (v := ?_) (by simp only [List.getElem?_toArray, List.getElem?_cons_zero, List.getElem?_cons_succ]; rfl) (by kernel_rfl) (by kernel_rfl) (by kernel_rfl) (fun _ _ _ h => h) (Or.inl ⟨by rfl, ?_⟩) Q.out ?_
            case refine_2 => (intro ww hSw; obtain ⟨s1, s2, s3, s4, s5, s6⟩ := hSw; go_simp; try with_reducible rfl)
            try simp only [Act.put, List.setIfInBounds_toArray, List.set_cons_zero, List.set_cons_succ]
            refine wpAnyH_take (i := 4) (v := _) (by simp only [List.getElem?_toArray, List.getElem?_cons_zero, List.getElem?_cons_succ]; rfl) (by kernel_rfl) (by kernel_rfl) (by kernel_rfl) (fun _ _ _ h => h) (Or.inr ⟨by rfl, rfl⟩) Q.out ?_
            try simp only [Act.put, List.setIfInBounds_toArray, List.set_cons_zero, List.set_cons_succ]
            refine wpAnyH_take (i := 5) (v := _) (by simp only [List.getElem?_toArray, List.getElem?_cons_zero, List.getElem?_cons_succ]; rfl) (by kernel_rfl) (by kernel_rfl) (by kernel_rfl) (fun _ _ _ h => h) (Or.inr ⟨by rfl, rfl⟩) Q.out ?_
            try simp only [Act.put, List.setIfInBounds_toArray, List.set_cons_zero, List.set_cons_succ]
            refine wpAnyH_take (i := 6) (v := _) (by simp only [List.getElem?_toArray, List.getElem?_cons_zero, List.getElem?_cons_succ]; rfl) (by kernel_rfl) (by kernel_rfl) (by kernel_rfl) (fun _ _ _ h => h) (Or.inr ⟨by rfl, rfl⟩) Q.out ?_
            try simp only [Act.put, List.setIfInBounds_toArray, List.set_cons_zero, List.set_cons_succ]
            refine wpAnyH_take (i := 7) (v := _) (by simp only [List.getElem?_toArray, List.getElem?_cons_zero, List.getElem?_cons_succ]; rfl) (by kernel_rfl) (by kernel_rfl) (by kernel_rfl) (fun _ _ _ h => h) (Or.inr ⟨by rfl, rfl⟩) Q.out ?_
            try simp only [Act.put, List.setIfInBounds_toArray, List.set_cons_zero, List.set_cons_succ]
            refine wpAnyH_take (i := 8) (v := _) (by simp only [List.getElem?_toArray, List.getElem?_cons_zero, List.getElem?_cons_succ]; rfl) (by kernel_rfl) (by kernel_rfl) (by kernel_rfl) (fun _ _ _ h => h) (Or.inr ⟨by rfl, rfl⟩) Q.out ?_
            try simp only [Act.put, List.setIfInBounds_toArray, List.set_cons_zero, List.set_cons_succ]
            refine wpAnyH_take (i := 9) (v := _) (by simp only [List.getElem?_toArray, List.getElem?_cons_zero, List.getElem?_cons_succ]; rfl) (by kernel_rfl) (by kernel_rfl) (by kernel_rfl) (fun _ _ _ h => h) (Or.inr ⟨by rfl, rfl⟩) Q.out ?_
            try simp only [Act.put, List.setIfInBounds_toArray, List.set_cons_zero, List.set_cons_succ]
            refine wpAnyH_take (i := 10) (v := _) (by simp only [List.getElem?_toArray, List.getElem?_cons_zero, List.getElem?_cons_succ]; rfl) (by kernel_rfl) (by kernel_rfl) (by kernel_rfl) (fun _ _ _ h => h) (Or.inr ⟨by rfl, rfl⟩) Q.out ?_
            try simp only [Act.put, List.setIfInBounds_toArray, List.set_cons_zero, List.set_cons_succ]
            refine wpAnyH_take (i := 11) (v := _) (by simp only [List.getElem?_toArray, List.getElem?_cons_zero, List.getElem?_cons_succ]; rfl) (by kernel_rfl) (by kernel_rfl) (by kernel_rfl) (fun _ _ _ h => h) (Or.inr ⟨by rfl, rfl⟩) Q.out ?_
            try simp only [Act.put, List.setIfInBounds_toArray, List.set_cons_zero, List.set_cons_succ]
            refine wpAnyH_take (i := 12) (v := _) (by simp only [List.getElem?_toArray, List.getElem?_cons_zero, List.getElem?_cons_succ]; rfl) (by kernel_rfl) (by kernel_rfl) (by kernel_rfl) (fun _ _ _ h => h) (Or.inr ⟨by rfl, rfl⟩) Q.out ?_
            try simp only [Act.put, List.setIfInBounds_toArray, List.set_cons_zero, List.set_cons_succ]
            refine wpAnyH_take (i := 13) (v := _) (by simp only [List.getElem?_toArray, List.getElem?_cons_zero, List.getElem?_cons_succ]; rfl) (by kernel_rfl) (by kernel_rfl) (by kernel_rfl) (fun _ _ _ h => h) (Or.inr ⟨by rfl, rfl⟩) Q.out ?_
            try simp only [Act.put, List.setIfInBounds_toArray, List.set_cons_zero, List.set_cons_succ]
            refine wpAnyH_take (i := 14) (v := _) (by simp only [List.getElem?_toArray, List.getElem?_cons_zero, List.getElem?_cons_succ]; rfl) (by kernel_rfl) (by kernel_rfl) (by kernel_rfl) (fun _ _ _ h => h) (Or.inr ⟨by rfl, rfl⟩) Q.out ?_
            try simp only [Act.put, List.setIfInBounds_toArray, List.set_cons_zero, List.set_cons_succ]
            refine wpAnyH_take (i := 15) (v := _) (by simp only [List.getElem?_toArray, List.getElem?_cons_zero, List.getElem?_cons_succ]; rfl) (by kernel_rfl) (by kernel_rfl) (by kernel_rfl) (fun _ _ _ h => h) (Or.inr ⟨by rfl, rfl⟩) Q.out ?_
            try simp only [Act.put, List.setIfInBounds_toArray, List.set_cons_zero, List.set_cons_succ]
            refine wpAnyH_take (i := 16) (v := _) (by simp only [List.getElem?_toArray, List.getElem?_cons_zero, List.getElem?_cons_succ]; rfl) (by kernel_rfl) (by kernel_rfl) (by kernel_rfl) (fun _ _ _ h => h) (Or.inr ⟨by rfl, rfl⟩) Q.out ?_
            try simp only [Act.put, List.setIfInBounds_toArray, List.set_cons_zero, List.set_cons_succ]
            refine wpAnyH_take (i := 17) (v := _) (by simp only [List.getElem?_toArray, List.getElem?_cons_zero, List.getElem?_cons_succ]; rfl) (by kernel_rfl) (by kernel_rfl) (by kernel_rfl) (fun _ _ _ h => h) (Or.inr ⟨by rfl, rfl⟩) Q.out ?_
            try simp only [Act.put, List.setIfInBounds_toArray, List.set_cons_zero, List.set_cons_succ]
            refine wpAnyH_take (i := 18) (v := _) (by simp only [List.getElem?_toArray, List.getElem?_cons_zero, List.getElem?_cons_succ]; rfl) (by kernel_rfl) (by kernel_rfl) (by kernel_rfl) (fun _ _ _ h => h) (Or.inr ⟨by rfl, rfl⟩) Q.out ?_
            try simp only [Act.put, List.setIfInBounds_toArray, List.set_cons_zero, List.set_cons_succ]
            refine wpAnyH_take (i := 19) (v := _) (by simp only [List.getElem?_toArray, List.getElem?_cons_zero, List.getElem?_cons_succ]; rfl) (by kernel_rfl) (by kernel_rfl) (by kernel_rfl) (fun _ _ _ h => h) (Or.inr ⟨by rfl, rfl⟩) Q.out ?_
            try simp only [Act.put, List.setIfInBounds_toArray, List.set_cons_zero, List.set_cons_succ]
            refine wpAnyH_take (i := 20) (v := _) (by simp only [List.getElem?_toArray, List.getElem?_cons_zero, List.getElem?_cons_succ]; rfl) (by kernel_rfl) (by kernel_rfl) (by kernel_rfl) (fun _ _ _ h => h) (Or.inr ⟨by rfl, rfl⟩) Q.out ?_
            try simp only [Act.put, List.setIfInBounds_toArray, List.set_cons_zero, List.set_cons_succ]
            refine wpAnyH_take (i := 21) (v := _) (by simp only [List.getElem?_toArray, List.getElem?_cons_zero, List.getElem?_cons_succ]; rfl) (by kernel_rfl) (by kernel_rfl) (by kernel_rfl) (fun _ _ _ h => h) (Or.inr ⟨by rfl, rfl⟩) Q.out ?_
            try simp only [Act.put, List.setIfInBounds_toArray, List.set_cons_zero, List.set_cons_succ]
            refine wpAnyH_take (i := 22) (v := _) (by simp only [List.getElem?_toArray, List.getElem?_cons_zero, List.getElem?_cons_succ]; rfl) (by kernel_rfl) (by kernel_rfl) (by kernel_rfl) (fun _ _ _ h => h) (Or.inr ⟨by rfl, rfl⟩) Q.out ?_
            try simp only [Act.put, List.setIfInBounds_toArray, List.set_cons_zero, List.set_cons_succ]
            refine wpAnyH_take (i := 23) (v := _) (by simp only [List.getElem?_toArray, List.getElem?_cons_zero, List.getElem?_cons_succ]; rfl) (by kernel_rfl) (by kernel_rfl) (by kernel_rfl) (fun _ _ _ h => h) (Or.inr ⟨by rfl, rfl⟩) Q.out ?_
            try simp only [Act.put, List.setIfInBounds_toArray, List.set_cons_zero, List.set_cons_succ]
            refine wpAnyH_take (i := 24) (v := _) (by simp only [List.getElem?_toArray, List.getElem?_cons_zero, List.getElem?_cons_succ]; rfl) (by kernel_rfl) (by kernel_rfl) (by kernel_rfl) (fun _ _ _ h => h) (Or.inr ⟨by rfl, rfl⟩) Q.out ?_
            try simp only [Act.put, List.setIfInBounds_toArray, List.set_cons_zero, List.set_cons_succ]
            refine wpAnyH_take (i := 25) (v := ?_) (by simp only [List.getElem?_toArray, List.getElem?_cons_zero, List.getElem?_cons_succ]; rfl) (by kernel_rfl) (by kernel_rfl) (by kernel_rfl) (fun _ _ _ h => h) (Or.inl ⟨by rfl, ?_⟩) Q.out ?_
            case refine_2 => (intro ww hSw; obtain ⟨s1, s2, s3, s4, s5, s6⟩ := hSw; go_simp; try with_reducible rfl)
            try simp only [Act.put, List.setIfInBounds_toArray, List.set_cons_zero, List.set_cons_succ]
            refine wpAnyH_done (by kernel_rfl) ?_ _
            refine NoPanic.normal ?_
            go_wp2_with fail
            go_ret
            exact ⟨by rw [HK.out]; rfl, HP.out⟩
          | false =>
            have VT := Lib.hid hvt
            clear hvs hvt
            have HK : Hid (ksym (wtB L) (rkB L) u s t = 0) := Lib.hid (ksym_not HNA.out fun h => by rw [VS.out] at h; cases h.1)
            have HS6 : ∀ W, CsSt b m (.slice ol L.length cl) u (0 + 1 * kw (wtB L) u s + -1 * kw (wtB L) u t) M2 s t (.slice os s.ts.length cs) (.slice ot t.ts.length ct) w W → Hid (W.cell? ⟨b, 0, none⟩ = some (.slice ol L.length cl) ∧ W.cell? ⟨b, 1, none⟩ = some (.int .i64 u) ∧ W.cell? ⟨w.heap.size, 0, none⟩ = some (.string s.nm) ∧ W.cell? ⟨w.heap.size, 1, none⟩ = some (.bool true) ∧ W.cell? ⟨w.heap.size + 1, 0, none⟩ = some (.string t.nm) ∧ W.cell? ⟨w.heap.size + 1, 1, none⟩ = some (.bool false)) := fun W h => by
              have := h.s6
              rw [VS.out, VT.out] at this
              exact Lib.hid this
            have HS6' := Lib.hid HS6
            clear HS6
            have H2d := Lib.hid (H2.out.carry (Below.refl _ w2).drew)
            have Q := HS6'.out _ H2d.out
            have HP : Hid (DfPost b m (.slice ol L.length cl) u (kw (wtB L) u s - kw (wtB L) u t) (fun q => (cntL q s.vs : Int) - cntL q t.vs) (s = t) (s.size + t.size) w w2.drew) := Lib.hid (HDF.out _ H2d.out.d H2d.out.fr)
            refine wp_region_noPanic ?_
            refine wp_region_held_drew (S := fun w' => w'.cell? ⟨b, 0, none⟩ = some (.slice ol L.length cl) ∧ w'.cell? ⟨b, 1, none⟩ = some (.int .i64 u) ∧ w'.cell? ⟨w.heap.size, 0, none⟩ = some (.string s.nm) ∧ w'.cell? ⟨w.heap.size, 1, none⟩ = some (.bool true) ∧ w'.cell? ⟨w.heap.size + 1, 0, none⟩ = some (.string t.nm) ∧ w'.cell? ⟨w.heap.size + 1, 1, none⟩ = some (.bool false)) (by kernel_rfl) Q.out (fun _ => ?_)
            simp only [List.size_toArray, List.length_cons, List.length_nil, Nat.reduceAdd]
            refine wpAnyH_take (i := 0) (v := ?_) (by simp only [List.getElem?_toArray, List.getElem?_cons_zero]; rfl) (by kernel_rfl) (by kernel_rfl) (by kernel_rfl) (fun _ _ _ h => h) (Or.inl ⟨by rfl, ?_⟩) Q.out ?_
            case refine_2 => (intro ww hSw; obtain ⟨s1, s2, s3, s4, s5, s6⟩ := hSw; go_simp; try with_reducible rfl)
            try simp only [Act.put, List.setIfInBounds_toArray, List.set_cons_zero, List.set_cons_succ]
            refine wpAnyH_take (i := 1) (v := ?_) (by simp only [List.getElem?_toArray, List.getElem?_cons_zero, List.getElem?_cons_succ]; rfl) (by kernel_rfl) (by kernel_rfl) (by kernel_rfl) (fun _ _ _ h => h) (Or.inl ⟨by rfl, ?_⟩) Q.out ?_
            case refine_2 => (intro ww hSw; obtain ⟨s1, s2, s3, s4, s5, s6⟩ := hSw; go_simp; try with_reducible rfl)
            try simp only [Act.put, List.setIfInBounds_toArray, List.set_cons_zero, List.set_cons_succ]
            refine wpAnyH_take (i := 2) (v := ?_) (by simp only [List.getElem?_toArray, List.getElem?_cons_zero, List.getElem?_cons_succ]; rfl) (by kernel_rfl) (by kernel_rfl) (by kernel_rfl) (fun _ _ _ h => h) (Or.inl ⟨by rfl, ?_⟩) Q.out ?_
            case refine_2 => (intro ww hSw; obtain ⟨s1, s2, s3, s4, s5, s6⟩ := hSw; go_simp; try with_reducible rfl)
            try simp only [Act.put, List.setIfInBounds_toArray, List.set_cons_zero, List.set_cons_succ]
            refine wpAnyH_take (i := 3) (v := ?_) (by simp only [List.getElem?_toArray, List.getElem?_cons_zero, List.getElem?_cons_succ]; rfl) (by kernel_rfl) (by kernel_rfl) (by kernel_rfl) (fun _ _ _ h => h) (Or.inl ⟨by rfl, ?_⟩) Q.out ?_
            case refine_2 => (intro ww hSw; obtain ⟨s1, s2, s3, s4, s5, s6⟩ := hSw; go_simp; try with_reducible rfl)
            try simp only [Act.put, List.setIfInBounds_toArray, List.set_cons_zero, List.set_cons_succ]
            refine wpAnyH_take (i := 4) (v := _) (by simp only [List.getElem?_toArray, List.getElem?_cons_zero, List.getElem?_cons_succ]; rfl) (by kernel_rfl) (by kernel_rfl) (by kernel_rfl) (fun _ _ _ h => h) (Or.inr ⟨by rfl, rfl⟩) Q.out ?_
            try simp only [Act.put, List.setIfInBounds_toArray, List.set_cons_zero, List.set_cons_succ]
            refine wpAnyH_take (i := 5) (v := _) (by simp only [List.getElem?_toArray, List.getElem?_cons_zero, List.getElem?_cons_succ]; rfl) (by kernel_rfl) (by kernel_rfl) (by kernel_rfl) (fun _ _ _ h => h) (Or.inr ⟨by rfl, rfl⟩) Q.out ?_
            try simp only [Act.put, List.setIfInBounds_toArray, List.set_cons_zero, List.set_cons_succ]
            refine wpAnyH_take (i := 6) (v := _) (by simp only [List.getElem?_toArray, List.getElem?_cons_zero, List.getElem?_cons_succ]; rfl) (by kernel_rfl) (by kernel_rfl) (by kernel_rfl) (fun _ _ _ h => h) (Or.inr ⟨by rfl, rfl⟩) Q.out ?_
            try simp only [Act.put, List.setIfInBounds_toArray, List.set_cons_zero, List.set_cons_succ]
            refine wpAnyH_take (i := 7) (v := _) (by simp only [List.getElem?_toArray, List.getElem?_cons_zero, List.getElem?_cons_succ]; rfl) (by kernel_rfl) (by kernel_rfl) (by kernel_rfl) (fun _ _ _ h => h) (Or.inr ⟨by rfl, rfl⟩) Q.out ?_
            try simp only [Act.put, List.setIfInBounds_toArray, List.set_cons_zero, List.set_cons_succ]
            refine wpAnyH_take (i := 8) (v := _) (by simp only [List.getElem?_toArray, List.getElem?_cons_zero, List.getElem?_cons_succ]; rfl) (by kernel_rfl) (by kernel_rfl) (by kernel_rfl) (fun _ _ _ h => h) (Or.inr ⟨by rfl, rfl⟩) Q.out ?_
            try simp only [Act.put, List.setIfInBounds_toArray, List.set_cons_zero, List.set_cons_succ]
            refine wpAnyH_take (i := 9) (v := _) (by simp only [List.getElem?_toArray, List.getElem?_cons_zero, List.getElem?_cons_succ]; rfl) (by kernel_rfl) (by kernel_rfl) (by kernel_rfl) (fun _ _ _ h => h) (Or.inr ⟨by rfl, rfl⟩) Q.out ?_
            try simp only [Act.put, List.setIfInBounds_toArray, List.set_cons_zero, List.set_cons_succ]
            refine wpAnyH_take (i := 10) (v := _) (by simp only [List.getElem?_toArray, List.getElem?_cons_zero, List.getElem?_cons_succ]; rfl) (by kernel_rfl) (by kernel_rfl) (by kernel_rfl) (fun _ _ _ h => h) (Or.inr ⟨by rfl, rfl⟩) Q.out ?_
            try simp only [Act.put, List.setIfInBounds_toArray, List.set_cons_zero, List.set_cons_succ]
            refine wpAnyH_take (i := 11) (v := _) (by simp only [List.getElem?_toArray, List.getElem?_cons_zero, List.getElem?_cons_succ]; rfl) (by kernel_rfl) (by kernel_rfl) (by kernel_rfl) (fun _ _ _ h => h) (Or.inr ⟨by rfl, rfl⟩) Q.out ?_
            try simp only [Act.put, List.setIfInBounds_toArray, List.set_cons_zero, List.set_cons_succ]
            refine wpAnyH_take (i := 12) (v := _) (by simp only [List.getElem?_toArray, List.getElem?_cons_zero, List.getElem?_cons_succ]; rfl) (by kernel_rfl) (by kernel_rfl) (by kernel_rfl) (fun _ _ _ h => h) (Or.inr ⟨by rfl, rfl⟩) Q.out ?_
            try simp only [Act.put, List.setIfInBounds_toArray, List.set_cons_zero, List.set_cons_succ]
            refine wpAnyH_take (i := 13) (v := _) (by simp only [List.getElem?_toArray, List.getElem?_cons_zero, List.getElem?_cons_succ]; rfl) (by kernel_rfl) (by kernel_rfl) (by kernel_rfl) (fun _ _ _ h => h) (Or.inr ⟨by rfl, rfl⟩) Q.out ?_
            try simp only [Act.put, List.setIfInBounds_toArray, List.set_cons_zero, List.set_cons_succ]
            refine wpAnyH_take (i := 14) (v := _) (by simp only [List.getElem?_toArray, List.getElem?_cons_zero, List.getElem?_cons_succ]; rfl) (by kernel_rfl) (by kernel_rfl) (by kernel_rfl) (fun _ _ _ h => h) (Or.inr ⟨by rfl, rfl⟩) Q.out ?_
            try simp only [Act.put, List.setIfInBounds_toArray, List.set_cons_zero, List.set_cons_succ]
            refine wpAnyH_take (i := 15) (v := _) (by simp only [List.getElem?_toArray, List.getElem?_cons_zero, List.getElem?_cons_succ]; rfl) (by kernel_rfl) (by kernel_rfl) (by kernel_rfl) (fun _ _ _ h => h) (Or.inr ⟨by rfl, rfl⟩) Q.out ?_
            try simp only [Act.put, List.setIfInBounds_toArray, List.set_cons_zero, List.set_cons_succ]
            refine wpAnyH_take (i := 16) (v := _) (by simp only [List.getElem?_toArray, List.getElem?_cons_zero, List.getElem?_cons_succ]; rfl) (by kernel_rfl) (by kernel_rfl) (by kernel_rfl) (fun _ _ _ h => h) (Or.inr ⟨by rfl, rfl⟩) Q.out ?_
            try simp only [Act.put, List.setIfInBounds_toArray, List.set_cons_zero, List.set_cons_succ]
            refine wpAnyH_take (i := 17) (v := _) (by simp only [List.getElem?_toArray, List.getElem?_cons_zero, List.getElem?_cons_succ]; rfl) (by kernel_rfl) (by kernel_rfl) (by kernel_rfl) (fun _ _ _ h => h) (Or.inr ⟨by rfl, rfl⟩) Q.out ?_
            try simp only [Act.put, List.setIfInBounds_toArray, List.set_cons_zero, List.set_cons_succ]
            refine wpAnyH_take (i := 18) (v := _) (by simp only [List.getElem?_toArray, List.getElem?_cons_zero, List.getElem?_cons_succ]; rfl) (by kernel_rfl) (by kernel_rfl) (by kernel_rfl) (fun _ _ _ h => h) (Or.inr ⟨by rfl, rfl⟩) Q.out ?_
            try simp only [Act.put, List.setIfInBounds_toArray, List.set_cons_zero, List.set_cons_succ]
            refine wpAnyH_take (i := 19) (v := _) (by simp only [List.getElem?_toArray, List.getElem?_cons_zero, List.getElem?_cons_succ]; rfl) (by kernel_rfl) (by kernel_rfl) (by kernel_rfl) (fun _ _ _ h => h) (Or.inr ⟨by rfl, rfl⟩) Q.out ?_
            try simp only [Act.put, List.setIfInBounds_toArray, List.set_cons_zero, List.set_cons_succ]
            refine wpAnyH_take (i := 20) (v := _) (by simp only [List.getElem?_toArray, List.getElem?_cons_zero, List.getElem?_cons_succ]; rfl) (by kernel_rfl) (by kernel_rfl) (by kernel_rfl) (fun _ _ _ h => h) (Or.inr ⟨by rfl, rfl⟩) Q.out ?_
            try simp only [Act.put, List.setIfInBounds_toArray, List.set_cons_zero, List.set_cons_succ]
            refine wpAnyH_take (i := 21) (v := _) (by simp only [List.getElem?_toArray, List.getElem?_cons_zero, List.getElem?_cons_succ]; rfl) (by kernel_rfl) (by kernel_rfl) (by kernel_rfl) (fun _ _ _ h => h) (Or.inr ⟨by rfl, rfl⟩) Q.out ?_
            try simp only [Act.put, List.setIfInBounds_toArray, List.set_cons_zero, List.set_cons_succ]
            refine wpAnyH_take (i := 22) (v := _) (by simp only [List.getElem?_toArray, List.getElem?_cons_zero, List.getElem?_cons_succ]; rfl) (by kernel_rfl) (by kernel_rfl) (by kernel_rfl) (fun _ _ _ h => h) (Or.inr ⟨by rfl, rfl⟩) Q.out ?_
            try simp only [Act.put, List.setIfInBounds_toArray, List.set_cons_zero, List.set_cons_succ]
            refine wpAnyH_take (i := 23) (v := _) (by simp only [List.getElem?_toArray, List.getElem?_cons_zero, List.getElem?_cons_succ]; rfl) (by kernel_rfl) (by kernel_rfl) (by kernel_rfl) (fun _ _ _ h => h) (Or.inr ⟨by rfl, rfl⟩) Q.out ?_
            try simp only [Act.put, List.setIfInBounds_toArray, List.set_cons_zero, List.set_cons_succ]
            refine wpAnyH_take (i := 24) (v := _) (by simp only [List.getElem?_toArray, List.getElem?_cons_zero, List.getElem?_cons_succ]; rfl) (by kernel_rfl) (by kernel_rfl) (by kernel_rfl) (fun _ _ _ h => h) (Or.inr ⟨by rfl, rfl⟩) Q.out ?_
            try simp only [Act.put, List.setIfInBounds_toArray, List.set_cons_zero, List.set_cons_succ]
            refine wpAnyH_take (i := 25) (v := ?_) (by simp only [List.getElem?_toArray, List.getElem?_cons_zero, List.getElem?_cons_succ]; rfl) (by kernel_rfl) (by kernel_rfl) (by kernel_rfl) (fun _ _ _ h => h) (Or.inl ⟨by rfl, ?_⟩) Q.out ?_
            case refine_2 => (intro ww hSw; obtain ⟨s1, s2, s3, s4, s5, s6⟩ := hSw; go_simp; try with_reducible rfl)
            try simp only [Act.put, List.setIfInBounds_toArray, List.set_cons_zero, List.set_cons_succ]
            refine wpAnyH_done (by kernel_rfl) ?_ _
            refine NoPanic.normal ?_
            go_wp2_with fail
            go_ret
            exact ⟨by rw [HK.out]; rfl, HP.out⟩
        | false =>
          have VS := Lib.hid hvs
          cases hvt : t.vr with
          | true =>
            have VT := Lib.hid hvt
            clear hvs hvt
            have HK : Hid (ksym (wtB L) (rkB L) u s t = 2) := Lib.hid (ksym_top HNA.out ⟨VS.out, .inl VT.out⟩)
            have HS6 : ∀ W, CsSt b m (.slice ol L.length cl) u (0 + 1 * kw (wtB L) u s + -1 * kw (wtB L) u t) M2 s t (.slice os s.ts.length cs) (.slice ot t.ts.length ct) w W → Hid (W.cell? ⟨b, 0, none⟩ = some (.slice ol L.length cl) ∧ W.cell? ⟨b, 1, none⟩ = some (.int .i64 u) ∧ W.cell? ⟨w.heap.size, 0, none⟩ = some (.string s.nm) ∧ W.cell? ⟨w.heap.size, 1, none⟩ = some (.bool false) ∧ W.cell? ⟨w.heap.size + 1, 0, none⟩ = some (.string t.nm) ∧ W.cell? ⟨w.heap.size + 1, 1, none⟩ = some (.bool true)) := fun W h => by
              have := h.s6
              rw [VS.out, VT.out] at this
              exact Lib.hid this
            have HS6' := Lib.hid HS6
            clear HS6
            have H2d := Lib.hid (H2.out.carry (Below.refl _ w2).drew)
            have Q := HS6'.out _ H2d.out
            have HP : Hid (DfPost b m (.slice ol L.length cl) u (kw (wtB L) u s - kw (wtB L) u t) (fun q => (cntL q s.vs : Int) - cntL q t.vs) (s = t) (s.size + t.size) w w2.drew) := Lib.hid (HDF.out _ H2d.out.d H2d.out.fr)
            refine wp_region_noPanic ?_
            refine wp_region_held_drew (S := fun w' => w'.cell? ⟨b, 0, none⟩ = some (.slice ol L.length cl) ∧ w'.cell? ⟨b, 1, none⟩ = some (.int .i64 u) ∧ w'.cell? ⟨w.heap.size, 0, none⟩ = some (.string s.nm) ∧ w'.cell? ⟨w.heap.size, 1, none⟩ = some (.bool false) ∧ w'.cell? ⟨w.heap.size + 1, 0, none⟩ = some (.string t.nm) ∧ w'.cell? ⟨w.heap.size + 1, 1, none⟩ = some (.bool true)) (by kernel_rfl) Q.out (fun _ => ?_)
            simp only [List.size_toArray, List.length_cons, List.length_nil, Nat.reduceAdd]
            refine wpAnyH_take (i := 0) (v := ?_) (by simp only [List.getElem?_toArray, List.getElem?_cons_zero]; rfl) (by kernel_rfl) (by kernel_rfl) (by kernel_rfl) (fun _ _ _ h => h) (Or.inl ⟨by rfl, ?_⟩) Q.out ?_
            case refine_2 => (intro ww hSw; obtain ⟨s1, s2, s3, s4, s5, s6⟩ := hSw; go_simp; try with_reducible rfl)
            try simp only [Act.put, List.setIfInBounds_toArray, List.set_cons_zero, List.set_cons_succ]
            refine wpAnyH_take (i := 1) (v := ?_) (by simp only [List.getElem?_toArray, List.getElem?_cons_zero, List.getElem?_cons_succ]; rfl) (by kernel_rfl) (by kernel_rfl) (by kernel_rfl) (fun _ _ _ h => h) (Or.inl ⟨by rfl, ?_⟩) Q.out ?_
            case refine_2 => (intro ww hSw; obtain ⟨s1, s2, s3, s4, s5, s6⟩ := hSw; go_simp; try with_reducible rfl)
            try simp only [Act.put, List.setIfInBounds_toArray, List.set_cons_zero, List.set_cons_succ]
            refine wpAnyH_take (i := 2) (v := ?_) (by simp only [List.getElem?_toArray, List.getElem?_cons_zero, List.getElem?_cons_succ]; rfl) (by kernel_rfl) (by kernel_rfl) (by kernel_rfl) (fun _ _ _ h => h) (Or.inl ⟨by rfl, ?_⟩) Q.out ?_
            case refine_2 => (intro ww hSw; obtain ⟨s1, s2, s3, s4, s5, s6⟩ := hSw; go_simp; try with_reducible rfl)
            try simp only [Act.put, List.setIfInBounds_toArray, List.set_cons_zero, List.set_cons_succ]
            refine wpAnyH_take (i := 3) (v := ?_) (by simp only [List.getElem?_toArray, List.getElem?_cons_zero, List.getElem?_cons_succ]; rfl) (by kernel_rfl) (by kernel_rfl) (by kernel_rfl) (fun _ _ _ h => h) (Or.inl ⟨by rfl, ?_⟩) Q.out ?_
            case refine_2 => (intro ww hSw; obtain ⟨s1, s2, s3, s4, s5, s6⟩ := hSw; go_simp; try with_reducible rfl)
            try simp only [Act.put, List.setIfInBounds_toArray, List.set_cons_zero, List.set_cons_succ]
            refine wpAnyH_take (i := 4) (v := ?_) (by simp only [List.getElem?_toArray, List.getElem?_cons_zero, List.getElem?_cons_succ]; rfl) (by kernel_rfl) (by kernel_rfl) (by kernel_rfl) (fun _ _ _ h => h) (Or.inl ⟨by rfl, ?_⟩) Q.out ?_
            case refine_2 => (intro ww hSw; obtain ⟨s1, s2, s3, s4, s5, s6⟩ := hSw; go_simp; try with_reducible rfl)
            try simp only [Act.put, List.setIfInBounds_toArray, List.set_cons_zero, List.set_cons_succ]
            refine wpAnyH_take (i := 5) (v := ?_) (by simp only [List.getElem?_toArray, List.getElem?_cons_zero, List.getElem?_cons_succ]; rfl) (by kernel_rfl) (by kernel_rfl) (by kernel_rfl) (fun _ _ _ h => h) (Or.inl ⟨by rfl, ?_⟩) Q.out ?_
            case refine_2 => (intro ww hSw; obtain ⟨s1, s2, s3, s4, s5, s6⟩ := hSw; go_simp; try with_reducible rfl)
            try simp only [Act.put, List.setIfInBounds_toArray, List.set_cons_zero, List.set_cons_succ]
            refine wpAnyH_take (i := 6) (v := ?_) (by simp only [List.getElem?_toArray, List.getElem?_cons_zero, List.getElem?_cons_succ]; rfl) (by kernel_rfl) (by kernel_rfl) (by kernel_rfl) (fun _ _ _ h => h) (Or.inl ⟨by rfl, ?_⟩) Q.out ?_
            case refine_2 => (intro ww hSw; obtain ⟨s1, s2, s3, s4, s5, s6⟩ := hSw; go_simp; try with_reducible rfl)
            try simp only [Act.put, List.setIfInBounds_toArray, List.set_cons_zero, List.set_cons_succ]
            refine wpAnyH_take (i := 7) (v := _) (by simp only [List.getElem?_toArray, List.getElem?_cons_zero, List.getElem?_cons_succ]; rfl) (by kernel_rfl) (by kernel_rfl) (by kernel_rfl) (fun _ _ _ h => h) (Or.inr ⟨by rfl, rfl⟩) Q.out ?_
            try simp only [Act.put, List.setIfInBounds_toArray, List.set_cons_zero, List.set_cons_succ]
            refine wpAnyH_take (i := 8) (v := _) (by simp only [List.getElem?_toArray, List.getElem?_cons_zero, List.getElem?_cons_succ]; rfl) (by kernel_rfl) (by kernel_rfl) (by kernel_rfl) (fun _ _ _ h => h) (Or.inr ⟨by rfl, rfl⟩) Q.out ?_
            try simp only [Act.put, List.setIfInBounds_toArray, List.set_cons_zero, List.set_cons_succ]
            refine wpAnyH_take (i := 9) (v := _) (by simp only [List.getElem?_toArray, List.getElem?_cons_zero, List.getElem?_cons_succ]; rfl) (by kernel_rfl) (by kernel_rfl) (by kernel_rfl) (fun _ _ _ h => h) (Or.inr ⟨by rfl, rfl⟩) Q.out ?_
            try simp only [Act.put, List.setIfInBounds_toArray, List.set_cons_zero, List.set_cons_succ]
            refine wpAnyH_take (i := 10) (v := _) (by simp only [List.getElem?_toArray, List.getElem?_cons_zero, List.getElem?_cons_succ]; rfl) (by kernel_rfl) (by kernel_rfl) (by kernel_rfl) (fun _ _ _ h => h) (Or.inr ⟨by rfl, rfl⟩) Q.out ?_
            try simp only [Act.put, List.setIfInBounds_toArray, List.set_cons_zero, List.set_cons_succ]
            refine wpAnyH_take (i := 11) (v := _) (by simp only [List.getElem?_toArray, List.getElem?_cons_zero, List.getElem?_cons_succ]; rfl) (by kernel_rfl) (by kernel_rfl) (by kernel_rfl) (fun _ _ _ h => h) (Or.inr ⟨by rfl, rfl⟩) Q.out ?_
            try simp only [Act.put, List.setIfInBounds_toArray, List.set_cons_zero, List.set_cons_succ]
            refine wpAnyH_take (i := 12) (v := _) (by simp only [List.getElem?_toArray, List.getElem?_cons_zero, List.getElem?_cons_succ]; rfl) (by kernel_rfl) (by kernel_rfl) (by kernel_rfl) (fun _ _ _ h => h) (Or.inr ⟨by rfl, rfl⟩) Q.out ?_
            try simp only [Act.put, List.setIfInBounds_toArray, List.set_cons_zero, List.set_cons_succ]
            refine wpAnyH_take (i := 13) (v := _) (by simp only [List.getElem?_toArray, List.getElem?_cons_zero, List.getElem?_cons_succ]; rfl) (by kernel_rfl) (by kernel_rfl) (by kernel_rfl) (fun _ _ _ h => h) (Or.inr ⟨by rfl, rfl⟩) Q.out ?_
            try simp only [Act.put, List.setIfInBounds_toArray, List.set_cons_zero, List.set_cons_succ]
            refine wpAnyH_take (i := 14) (v := _) (by simp only [List.getElem?_toArray, List.getElem?_cons_zero, List.getElem?_cons_succ]; rfl) (by kernel_rfl) (by kernel_rfl) (by kernel_rfl) (fun _ _ _ h => h) (Or.inr ⟨by rfl, rfl⟩) Q.out ?_
            try simp only [Act.put, List.setIfInBounds_toArray, List.set_cons_zero, List.set_cons_succ]
            refine wpAnyH_take (i := 15) (v := _) (by simp only [List.getElem?_toArray, List.getElem?_cons_zero, List.getElem?_cons_succ]; rfl) (by kernel_rfl) (by kernel_rfl) (by kernel_rfl) (fun _ _ _ h => h) (Or.inr ⟨by rfl, rfl⟩) Q.out ?_
            try simp only [Act.put, List.setIfInBounds_toArray, List.set_cons_zero, List.set_cons_succ]
            refine wpAnyH_take (i := 16) (v := _) (by simp only [List.getElem?_toArray, List.getElem?_cons_zero, List.getElem?_cons_succ]; rfl) (by kernel_rfl) (by kernel_rfl) (by kernel_rfl) (fun _ _ _ h => h) (Or.inr ⟨by rfl, rfl⟩) Q.out ?_
            try simp only [Act.put, List.setIfInBounds_toArray, List.set_cons_zero, List.set_cons_succ]
            refine wpAnyH_take (i := 17) (v := _) (by simp only [List.getElem?_toArray, List.getElem?_cons_zero, List.getElem?_cons_succ]; rfl) (by kernel_rfl) (by kernel_rfl) (by kernel_rfl) (fun _ _ _ h => h) (Or.inr ⟨by rfl, rfl⟩) Q.out ?_
            try simp only [Act.put, List.setIfInBounds_toArray, List.set_cons_zero, List.set_cons_succ]
            refine wpAnyH_take (i := 18) (v := _) (by simp only [List.getElem?_toArray, List.getElem?_cons_zero, List.getElem?_cons_succ]; rfl) (by kernel_rfl) (by kernel_rfl) (by kernel_rfl) (fun _ _ _ h => h) (Or.inr ⟨by rfl, rfl⟩) Q.out ?_
            try simp only [Act.put, List.setIfInBounds_toArray, List.set_cons_zero, List.set_cons_succ]
            refine wpAnyH_take (i := 19) (v := _) (by simp only [List.getElem?_toArray, List.getElem?_cons_zero, List.getElem?_cons_succ]; rfl) (by kernel_rfl) (by kernel_rfl) (by kernel_rfl) (fun _ _ _ h => h) (Or.inr ⟨by rfl, rfl⟩) Q.out ?_
            try simp only [Act.put, List.setIfInBounds_toArray, List.set_cons_zero, List.set_cons_succ]
            refine wpAnyH_take (i := 20) (v := _) (by simp only [List.getElem?_toArray, List.getElem?_cons_zero, List.getElem?_cons_succ]; rfl) (by kernel_rfl) (by kernel_rfl) (by kernel_rfl) (fun _ _ _ h => h) (Or.inr ⟨by rfl, rfl⟩) Q.out ?_
            try simp only [Act.put, List.setIfInBounds_toArray, List.set_cons_zero, List.set_cons_succ]
            refine wpAnyH_take (i := 21) (v := _) (by simp only [List.getElem?_toArray, List.getElem?_cons_zero, List.getElem?_cons_succ]; rfl) (by kernel_rfl) (by kernel_rfl) (by kernel_rfl) (fun _ _ _ h => h) (Or.inr ⟨by rfl, rfl⟩) Q.out ?_
            try simp only [Act.put, List.setIfInBounds_toArray, List.set_cons_zero, List.set_cons_succ]
            refine wpAnyH_take (i := 22) (v := _) (by simp only [List.getElem?_toArray, List.getElem?_cons_zero, List.getElem?_cons_succ]; rfl) (by kernel_rfl) (by kernel_rfl) (by kernel_rfl) (fun _ _ _ h => h) (Or.inr ⟨by rfl, rfl⟩) Q.out ?_
            try simp only [Act.put, List.setIfInBounds_toArray, List.set_cons_zero, List.set_cons_succ]
            refine wpAnyH_take (i := 23) (v := _) (by simp only [List.getElem?_toArray, List.getElem?_cons_zero, List.getElem?_cons_succ]; rfl) (by kernel_rfl) (by kernel_rfl) (by kernel_rfl) (fun _ _ _ h => h) (Or.inr ⟨by rfl, rfl⟩) Q.out ?_
            try simp only [Act.put, List.setIfInBounds_toArray, List.set_cons_zero, List.set_cons_succ]
            refine wpAnyH_take (i := 24) (v := ?_) (by simp only [List.getElem?_toArray, List.getElem?_cons_zero, List.getElem?_cons_succ]; rfl) (by kernel_rfl) (by kernel_rfl) (by kernel_rfl) (fun _ _ _ h => h) (Or.inl ⟨by rfl, ?_⟩) Q.out ?_
            case refine_2 => (intro ww hSw; obtain ⟨s1, s2, s3, s4, s5, s6⟩ := hSw; go_simp; try with_reducible rfl)
            try simp only [Act.put, List.setIfInBounds_toArray, List.set_cons_zero, List.set_cons_succ]
            refine wpAnyH_take (i := 25) (v := ?_) (by simp only [List.getElem?_toArray, List.getElem?_cons_zero, List.getElem?_cons_succ]; rfl) (by kernel_rfl) (by kernel_rfl) (by kernel_rfl) (fun _ _ _ h => h) (Or.inl ⟨by rfl, ?_⟩) Q.out ?_
            case refine_2 => (intro ww hSw; obtain ⟨s1, s2, s3, s4, s5, s6⟩ := hSw; go_simp; try with_reducible rfl)
            try simp only [Act.put, List.setIfInBounds_toArray, List.set_cons_zero, List.set_cons_succ]
            refine wpAnyH_done (by kernel_rfl) ?_ _
            refine NoPanic.normal ?_
            go_wp2_with fail
            go_ret
            exact ⟨by rw [HK.out]; rfl, HP.out⟩
          | false =>
            have VT := Lib.hid hvt
            clear hvs hvt
            have HS6 : ∀ W, CsSt b m (.slice ol L.length cl) u (0 + 1 * kw (wtB L) u s + -1 * kw (wtB L) u t) M2 s t (.slice os s.ts.length cs) (.slice ot t.ts.length ct) w W → Hid (W.cell? ⟨b, 0, none⟩ = some (.slice ol L.length cl) ∧ W.cell? ⟨b, 1, none⟩ = some (.int .i64 u) ∧ W.cell? ⟨w.heap.size, 0, none⟩ = some (.string s.nm) ∧ W.cell? ⟨w.heap.size, 1, none⟩ = some (.bool false) ∧ W.cell? ⟨w.heap.size + 1, 0, none⟩ = some (.string t.nm) ∧ W.cell? ⟨w.heap.size + 1, 1, none⟩ = some (.bool false)) := fun W h => by
              have := h.s6
              rw [VS.out, VT.out] at this
              exact Lib.hid this
            have HS6' := Lib.hid HS6
            clear HS6
            have H2d := Lib.hid (H2.out.carry (Below.refl _ w2).drew)
            have Q := HS6'.out _ H2d.out
            have HP : Hid (DfPost b m (.slice ol L.length cl) u (kw (wtB L) u s - kw (wtB L) u t) (fun q => (cntL q s.vs : Int) - cntL q t.vs) (s = t) (s.size + t.size) w w2.drew) := Lib.hid (HDF.out _ H2d.out.d H2d.out.fr)
            refine wp_region_noPanic ?_
            refine wp_region_held_drew (S := fun w' => w'.cell? ⟨b, 0, none⟩ = some (.slice ol L.length cl) ∧ w'.cell? ⟨b, 1, none⟩ = some (.int .i64 u) ∧ w'.cell? ⟨w.heap.size, 0, none⟩ = some (.string s.nm) ∧ w'.cell? ⟨w.heap.size, 1, none⟩ = some (.bool false) ∧ w'.cell? ⟨w.heap.size + 1, 0, none⟩ = some (.string t.nm) ∧ w'.cell? ⟨w.heap.size + 1, 1, none⟩ = some (.bool false)) (by kernel_rfl) Q.out (fun _ => ?_)
            simp only [List.size_toArray, List.length_cons, List.length_nil, Nat.reduceAdd]
            refine wpAnyH_take (i := 0) (v := ?_) (by simp only [List.getElem?_toArray, List.getElem?_cons_zero]; rfl) (by kernel_rfl) (by kernel_rfl) (by kernel_rfl) (fun _ _ _ h => h) (Or.inl ⟨by rfl, ?_⟩) Q.out ?_
            case refine_2 => (intro ww hSw; obtain ⟨s1, s2, s3, s4, s5, s6⟩ := hSw; go_simp; try with_reducible rfl)
            try simp only [Act.put, List.setIfInBounds_toArray, List.set_cons_zero, List.set_cons_succ]
            refine wpAnyH_take (i := 1) (v := ?_) (by simp only [List.getElem?_toArray, List.getElem?_cons_zero, List.getElem?_cons_succ]; rfl) (by kernel_rfl) (by kernel_rfl) (by kernel_rfl) (fun _ _ _ h => h) (Or.inl ⟨by rfl, ?_⟩) Q.out ?_
            case refine_2 => (intro ww hSw; obtain ⟨s1, s2, s3, s4, s5, s6⟩ := hSw; go_simp; try with_reducible rfl)
            try simp only [Act.put, List.setIfInBounds_toArray, List.set_cons_zero, List.set_cons_succ]
            refine wpAnyH_take (i := 2) (v := ?_) (by simp only [List.getElem?_toArray, List.getElem?_cons_zero, List.getElem?_cons_succ]; rfl) (by kernel_rfl) (by kernel_rfl) (by kernel_rfl) (fun _ _ _ h => h) (Or.inl ⟨by rfl, ?_⟩) Q.out ?_
            case refine_2 => (intro ww hSw; obtain ⟨s1, s2, s3, s4, s5, s6⟩ := hSw; go_simp; try with_reducible rfl)
            try simp only [Act.put, List.setIfInBounds_toArray, List.set_cons_zero, List.set_cons_succ]
            refine wpAnyH_take (i := 3) (v := ?_) (by simp only [List.getElem?_toArray, List.getElem?_cons_zero, List.getElem?_cons_succ]; rfl) (by kernel_rfl) (by kernel_rfl) (by kernel_rfl) (fun _ _ _ h => h) (Or.inl ⟨by rfl, ?_⟩) Q.out ?_
            case refine_2 => (intro ww hSw; obtain ⟨s1, s2, s3, s4, s5, s6⟩ := hSw; go_simp; try with_reducible rfl)
            try simp only [Act.put, List.setIfInBounds_toArray, List.set_cons_zero, List.set_cons_succ]
            refine wpAnyH_take (i := 4) (v := ?_) (by simp only [List.getElem?_toArray, List.getElem?_cons_zero, List.getElem?_cons_succ]; rfl) (by kernel_rfl) (by kernel_rfl) (by kernel_rfl) (fun _ _ _ h => h) (Or.inl ⟨by rfl, ?_⟩) Q.out ?_
            case refine_2 => (intro ww hSw; obtain ⟨s1, s2, s3, s4, s5, s6⟩ := hSw; go_simp; try with_reducible rfl)
            try simp only [Act.put, List.setIfInBounds_toArray, List.set_cons_zero, List.set_cons_succ]
            refine wpAnyH_take (i := 5) (v := ?_) (by simp only [List.getElem?_toArray, List.getElem?_cons_zero, List.getElem?_cons_succ]; rfl) (by kernel_rfl) (by kernel_rfl) (by kernel_rfl) (fun _ _ _ h => h) (Or.inl ⟨by rfl, ?_⟩) Q.out ?_
            case refine_2 => (intro ww hSw; obtain ⟨s1, s2, s3, s4, s5, s6⟩ := hSw; go_simp; try with_reducible rfl)
            try simp only [Act.put, List.setIfInBounds_toArray, List.set_cons_zero, List.set_cons_succ]
            refine wpAnyH_take (i := 6) (v := ?_) (by simp only [List.getElem?_toArray, List.getElem?_cons_zero, List.getElem?_cons_succ]; rfl) (by kernel_rfl) (by kernel_rfl) (by kernel_rfl) (fun _ _ _ h => h) (Or.inl ⟨by rfl, ?_⟩) Q.out ?_
            case refine_2 => (intro ww hSw; obtain ⟨s1, s2, s3, s4, s5, s6⟩ := hSw; go_simp; try with_reducible rfl)
            try simp only [Act.put, List.setIfInBounds_toArray, List.set_cons_zero, List.set_cons_succ]
            refine wpAnyH_take (i := 7) (v := ?_) (by simp only [List.getElem?_toArray, List.getElem?_cons_zero, List.getElem?_cons_succ]; rfl) (by kernel_rfl) (by kernel_rfl) (by kernel_rfl) (fun _ _ _ h => h) (Or.inl ⟨by rfl, ?_⟩) Q.out ?_
            case refine_2 => (intro ww hSw; obtain ⟨s1, s2, s3, s4, s5, s6⟩ := hSw; go_simp; try with_reducible rfl)
            try simp only [Act.put, List.setIfInBounds_toArray, List.set_cons_zero, List.set_cons_succ]
            refine wpAnyH_take (i := 8) (v := ?_) (by simp only [List.getElem?_toArray, List.getElem?_cons_zero, List.getElem?_cons_succ]; rfl) (by kernel_rfl) (by kernel_rfl) (by kernel_rfl) (fun _ _ _ h => h) (Or.inl ⟨by rfl, ?_⟩) Q.out ?_
            case refine_2 => (intro ww hSw; obtain ⟨s1, s2, s3, s4, s5, s6⟩ := hSw; go_simp; try with_reducible rfl)
            try simp only [Act.put, List.setIfInBounds_toArray, List.set_cons_zero, List.set_cons_succ]
            refine wpAnyH_take (i := 9) (v := ?_) (by simp only [List.getElem?_toArray, List.getElem?_cons_zero, List.getElem?_cons_succ]; rfl) (by kernel_rfl) (by kernel_rfl) (by kernel_rfl) (fun _ _ _ h => h) (Or.inl ⟨by rfl, ?_⟩) Q.out ?_
            case refine_2 => (intro ww hSw; obtain ⟨s1, s2, s3, s4, s5, s6⟩ := hSw; go_simp; try with_reducible rfl)
            try simp only [Act.put, List.setIfInBounds_toArray, List.set_cons_zero, List.set_cons_succ]
            refine wpAnyH_take (i := 10) (v := ?_) (by simp only [List.getElem?_toArray, List.getElem?_cons_zero, List.getElem?_cons_succ]; rfl) (by kernel_rfl) (by kernel_rfl) (by kernel_rfl) (fun _ _ _ h => h) (Or.inl ⟨by rfl, ?_⟩) Q.out ?_
            case refine_2 => (intro ww hSw; obtain ⟨s1, s2, s3, s4, s5, s6⟩ := hSw; go_simp; try with_reducible rfl)
            try simp only [Act.put, List.setIfInBounds_toArray, List.set_cons_zero, List.set_cons_succ]
            refine wpAnyH_take (i := 11) (v := ?_) (by simp only [List.getElem?_toArray, List.getElem?_cons_zero, List.getElem?_cons_succ]; rfl) (by kernel_rfl) (by kernel_rfl) (by kernel_rfl) (fun _ _ _ h => h) (Or.inl ⟨by rfl, ?_⟩) Q.out ?_
            case refine_2 => (intro ww hSw; obtain ⟨s1, s2, s3, s4, s5, s6⟩ := hSw; go_simp; try with_reducible rfl)
            try simp only [Act.put, List.setIfInBounds_toArray, List.set_cons_zero, List.set_cons_succ]
            refine wpAnyH_take (i := 12) (v := ?_) (by simp only [List.getElem?_toArray, List.getElem?_cons_zero, List.getElem?_cons_succ]; rfl) (by kernel_rfl) (by kernel_rfl) (by kernel_rfl) (fun _ _ _ h => h) (Or.inl ⟨by rfl, ?_⟩) Q.out ?_
            case refine_2 => (intro ww hSw; obtain ⟨s1, s2, s3, s4, s5, s6⟩ := hSw; go_simp; try with_reducible rfl)
            try simp only [Act.put, List.setIfInBounds_toArray, List.set_cons_zero, List.set_cons_succ]
            refine wpAnyH_take (i := 15) (v := ?_) (by simp only [List.getElem?_toArray, List.getElem?_cons_zero, List.getElem?_cons_succ]; rfl) (by kernel_rfl) (by kernel_rfl) (by kernel_rfl) (fun _ _ _ h => h) (Or.inl ⟨by rfl, ?_⟩) Q.out ?_
            case refine_2 => (intro ww hSw; obtain ⟨s1, s2, s3, s4, s5, s6⟩ := hSw; go_simp; try with_reducible rfl)
            try simp only [Act.put, List.setIfInBounds_toArray, List.set_cons_zero, List.set_cons_succ]
            refine wpAnyH_take (i := 16) (v := ?_) (by simp only [List.getElem?_toArray, List.getElem?_cons_zero, List.getElem?_cons_succ]; rfl) (by kernel_rfl) (by kernel_rfl) (by kernel_rfl) (fun _ _ _ h => h) (Or.inl ⟨by rfl, ?_⟩) Q.out ?_
            case refine_2 => (intro ww hSw; obtain ⟨s1, s2, s3, s4, s5, s6⟩ := hSw; go_simp; try with_reducible rfl)
            try simp only [Act.put, List.setIfInBounds_toArray, List.set_cons_zero, List.set_cons_succ]
            refine wpAnyH_take (i := 17) (v := ?_) (by simp only [List.getElem?_toArray, List.getElem?_cons_zero, List.getElem?_cons_succ]; rfl) (by kernel_rfl) (by kernel_rfl) (by kernel_rfl) (fun _ _ _ h => h) (Or.inl ⟨by rfl, ?_⟩) Q.out ?_
            case refine_2 => (intro ww hSw; obtain ⟨s1, s2, s3, s4, s5, s6⟩ := hSw; go_simp; try with_reducible rfl)
            try simp only [Act.put, List.setIfInBounds_toArray, List.set_cons_zero, List.set_cons_succ]
            refine wpAnyH_take (i := 18) (v := ?_) (by simp only [List.getElem?_toArray, List.getElem?_cons_zero, List.getElem?_cons_succ]; rfl) (by kernel_rfl) (by kernel_rfl) (by kernel_rfl) (fun _ _ _ h => h) (Or.inl ⟨by rfl, ?_⟩) Q.out ?_
            case refine_2 => (intro ww hSw; obtain ⟨s1, s2, s3, s4, s5, s6⟩ := hSw; go_simp; try with_reducible rfl)
            try simp only [Act.put, List.setIfInBounds_toArray, List.set_cons_zero, List.set_cons_succ]
            refine wpAnyH_take (i := 19) (v := ?_) (by simp only [List.getElem?_toArray, List.getElem?_cons_zero, List.getElem?_cons_succ]; rfl) (by kernel_rfl) (by kernel_rfl) (by kernel_rfl) (fun _ _ _ h => h) (Or.inl ⟨by rfl, ?_⟩) Q.out ?_
            case refine_2 => (intro ww hSw; obtain ⟨s1, s2, s3, s4, s5, s6⟩ := hSw; go_simp; try with_reducible rfl)
            try simp only [Act.put, List.setIfInBounds_toArray, List.set_cons_zero, List.set_cons_succ]
            refine wpAnyH_take (i := 20) (v := ?_) (by simp only [List.getElem?_toArray, List.getElem?_cons_zero, List.getElem?_cons_succ]; rfl) (by kernel_rfl) (by kernel_rfl) (by kernel_rfl) (fun _ _ _ h => h) (Or.inl ⟨by rfl, ?_⟩) Q.out ?_
            case refine_2 => (intro ww hSw; obtain ⟨s1, s2, s3, s4, s5, s6⟩ := hSw; go_simp; try with_reducible rfl)
            try simp only [Act.put, List.setIfInBounds_toArray, List.set_cons_zero, List.set_cons_succ]
            have hfd := rkFld1
            refine wpAnyH_ready (rs := [13]) (by kernel_rfl) (by simp) ?_
            refine AllReadyH.cons (by simp only [List.getElem?_toArray, List.getElem?_cons_zero, List.getElem?_cons_succ]; rfl) (fun K' hK => ?_) AllReadyH.nil
            go_simp
            have hE := entry_any L u s.nm.data.toList (.slice ol L.length cl) _ (HL.out.carry (H2d.out.fr.below hn0 (xd_ge hnb hnm)) (Nat.le_trans hn0 H2d.out.fr.size)) (by have := HW.out.len; omega) HW.out.nms
            rw [kb_key] at hE
            refine hE.mono ?_
            rintro e w3 ⟨rfl, hb3⟩
            have H3 := Lib.hid (H2d.out.carry hb3)
            have Q3 := HS6'.out _ H3.out
            clear hb3 hE
            obtain ⟨p3, hp3⟩ : ∃ p, p = entryOf L s.nm.data.toList := ⟨_, rfl⟩
            rw [← hp3]
            have HP3 : Hid (p3.2.1 = rkB L s.nm) := Lib.hid (by rw [hp3]; rfl)
            clear hp3
            refine hK.out _ _ Q3.out (fun _ => ?_)
            clear hK
            try simp only [Act.put, List.setIfInBounds_toArray, List.set_cons_zero, List.set_cons_succ]
            refine wpAnyH_take (i := 14) (v := ?_) (by simp only [List.getElem?_toArray, List.getElem?_cons_zero, List.getElem?_cons_succ]; rfl) (by kernel_rfl) (by kernel_rfl) (by kernel_rfl) (fun _ _ _ h => h) (Or.inl ⟨by rfl, ?_⟩) Q3.out ?_
            case refine_2 => (intro ww hSw; obtain ⟨s1, s2, s3, s4, s5, s6⟩ := hSw; go_simp; try with_reducible rfl)
            try simp only [Act.put, List.setIfInBounds_toArray, List.set_cons_zero, List.set_cons_succ]
            refine wpAnyH_ready (rs := [21]) (by kernel_rfl) (by simp) ?_
            refine AllReadyH.cons (by simp only [List.getElem?_toArray, List.getElem?_cons_zero, List.getElem?_cons_succ]; rfl) (fun K' hK => ?_) AllReadyH.nil
            go_simp
            have hE := entry_any L u t.nm.data.toList (.slice ol L.length cl) _ (HL.out.carry (H3.out.fr.below hn0 (xd_ge hnb hnm)) (Nat.le_trans hn0 H3.out.fr.size)) (by have := HW.out.len; omega) HW.out.nms
            rw [kb_key] at hE
            refine hE.mono ?_
            rintro e w4 ⟨rfl, hb4⟩
            have H4 := Lib.hid (H3.out.carry hb4)
            have Q4 := HS6'.out _ H4.out
            clear hb4 hE
            obtain ⟨p4, hp4⟩ : ∃ p, p = entryOf L t.nm.data.toList := ⟨_, rfl⟩
            rw [← hp4]
            have HP4 : Hid (p4.2.1 = rkB L t.nm) := Lib.hid (by rw [hp4]; rfl)
            clear hp4
            refine hK.out _ _ Q4.out (fun _ => ?_)
            clear hK
            try simp only [Act.put, List.setIfInBounds_toArray, List.set_cons_zero, List.set_cons_succ]
            refine wpAnyH_take (i := 22) (v := ?_) (by simp only [List.getElem?_toArray, List.getElem?_cons_zero, List.getElem?_cons_succ]; rfl) (by kernel_rfl) (by kernel_rfl) (by kernel_rfl) (fun _ _ _ h => h) (Or.inl ⟨by rfl, ?_⟩) Q4.out ?_
            case refine_2 => (intro ww hSw; obtain ⟨s1, s2, s3, s4, s5, s6⟩ := hSw; go_simp; try with_reducible rfl)
            try simp only [Act.put, List.setIfInBounds_toArray, List.set_cons_zero, List.set_cons_succ]
            refine wpAnyH_take (i := 23) (v := ?_) (by simp only [List.getElem?_toArray, List.getElem?_cons_zero, List.getElem?_cons_succ]; rfl) (by kernel_rfl) (by kernel_rfl) (by kernel_rfl) (fun _ _ _ h => h) (Or.inl ⟨by rfl, ?_⟩) Q4.out ?_
            case refine_2 => (intro ww hSw; obtain ⟨s1, s2, s3, s4, s5, s6⟩ := hSw; go_simp; try with_reducible rfl)
            try simp only [Act.put, List.setIfInBounds_toArray, List.set_cons_zero, List.set_cons_succ]
            refine wpAnyH_take (i := 24) (v := ?_) (by simp only [List.getElem?_toArray, List.getElem?_cons_zero, List.getElem?_cons_succ]; rfl) (by kernel_rfl) (by kernel_rfl) (by kernel_rfl) (fun _ _ _ h => h) (Or.inl ⟨by rfl, ?_⟩) Q4.out ?_
            case refine_2 => (intro ww hSw; obtain ⟨s1, s2, s3, s4, s5, s6⟩ := hSw; go_simp; try with_reducible rfl)
            try simp only [Act.put, List.setIfInBounds_toArray, List.set_cons_zero, List.set_cons_succ]
            refine wpAnyH_take (i := 25) (v := ?_) (by simp only [List.getElem?_toArray, List.getElem?_cons_zero, List.getElem?_cons_succ]; rfl) (by kernel_rfl) (by kernel_rfl) (by kernel_rfl) (fun _ _ _ h => h) (Or.inl ⟨by rfl, ?_⟩) Q4.out ?_
            case refine_2 => (intro ww hSw; obtain ⟨s1, s2, s3, s4, s5, s6⟩ := hSw; go_simp; try with_reducible rfl)
            try simp only [Act.put, List.setIfInBounds_toArray, List.set_cons_zero, List.set_cons_succ]
            refine wpAnyH_done (by kernel_rfl) ?_ _
            refine NoPanic.normal ?_
            clear hfd
            have HP' : Hid (DfPost b m (.slice ol L.length cl) u (kw (wtB L) u s - kw (wtB L) u t) (fun q => (cntL q s.vs : Int) - cntL q t.vs) (s = t) (s.size + t.size) w w4) := Lib.hid (HDF.out _ H4.out.d H4.out.fr)
            by_cases hr : p4.2.1 < p3.2.1
            · have hdr : decide (p4.2.1 < p3.2.1) = true := decide_eq_true hr
              have HK : Hid (ksym (wtB L) (rkB L) u s t = 2) := Lib.hid (ksym_top HNA.out ⟨VS.out, .inr (by rw [← HP3.out, ← HP4.out]; exact hr)⟩)
              go_wp2_with fail
              go_ret
              exact ⟨by rw [HK.out]; rfl, HP'.out⟩
            · have hdr : decide (p4.2.1 < p3.2.1) = false := decide_eq_false hr
              have HK : Hid (ksym (wtB L) (rkB L) u s t = 0) := Lib.hid (ksym_not HNA.out fun h => by have h2 := h.2; rw [VT.out, ← HP3.out, ← HP4.out] at h2; rcases h2 with h2 | h2; cases h2; exact hr h2)
              go_wp2_with fail
              go_ret
              exact ⟨by rw [HK.out]; rfl, HP'.out⟩
    · have q1 : (s.vr == t.vr) = false := by rw [beq_eq_false_iff_ne]; exact e1
      clear e1 ha
      go_wp2_with fail
      clear q1
      have hB : Below w.heap.size w ((w.alloc (.cells #[.string s.nm, .bool s.vr, .slice os s.ts.length cs] 25)).alloc (.cells #[.string t.nm, .bool t.vr, .slice ot t.ts.length ct] 25)) := by go_grown
      refine (add_any HW n0 b m ol cl 1 (.inl rfl) hnb hnm s (.slice os s.ts.length cs) 0 [] 0 _ hus (HS.out.carry (hB.mono hn0) (Nat.le_refl _)) (Nat.le_trans hn0 hB.size) (HL.out.carry (hB.mono hn0) (Nat.le_refl _)) H0.out.d NmB.nil (by omega)).mono ?_
      rintro e w1 ⟨rfl, M1, hd1, hv1, hb1, hf1⟩
      have H1 := Lib.hid (H0.out.sub hd1 hf1)
      have HB1 := Lib.hid hb1
      have HV1 := Lib.hid hv1
      clear hB hd1 hv1 hb1 hf1
      obtain ⟨x0, x1, x2, y0, y1, y2⟩ := H1.out.six
      go_wp2_with fail
      have hlow := H1.out.fr.below hn0 (xd_ge hnb hnm)
      refine (add_any HW n0 b m ol cl (-1) (.inr rfl) hnb hnm t (.slice ot t.ts.length ct) _ M1 _ w1 hut (HT.out.carry hlow (Nat.le_refl _)) (Nat.le_trans hn0 H1.out.fr.size) (HL.out.carry hlow (Nat.le_refl _)) H1.out.d HB1.out (by omega)).mono ?_
      rintro e w2 ⟨rfl, M2, hd2, hv2, hb2, hf2⟩
      have H2 := Lib.hid (H1.out.sub hd2 hf2)
      have HDF : Hid (∀ W, DIs b m (.slice ol L.length cl) u (0 + 1 * kw (wtB L) u s + -1 * kw (wtB L) u t) M2 W → FrX (XD b m) w W → DfPost b m (.slice ol L.length cl) u (kw (wtB L) u s - kw (wtB L) u t) (fun q => (cntL q s.vs : Int) - cntL q t.vs) (s = t) (s.size + t.size) w W) := Lib.hid fun W hd hf => by
        have eg : 0 + 1 * kw (wtB L) u s + -1 * kw (wtB L) u t = kw (wtB L) u s - kw (wtB L) u t := by omega
        rw [eg] at hd hb2
        exact ⟨M2, hd, fun q => by rw [hv2, HV1.out, valA_nil]; show _ = (cntL q s.vs : Int) - cntL q t.vs; omega, hb2.mono (by omega), fun e => absurd (by subst e; exact ⟨rfl, rfl, rfl⟩) HNA.out, hf⟩
      clear hlow hd2 hv2 hb2 hf2 x0 x1 x2 y0 y1 y2 H1 HB1 HV1
      go_wp2_with fail
      cases hvs : s.vr with
      | true =>
        have VS := Lib.hid hvs
        cases hvt : t.vr with
        | true =>
          have VT := Lib.hid hvt
          clear hvs hvt
          have HK : Hid (ksym (wtB L) (rkB L) u s t = 0) := Lib.hid (ksym_not HNA.out fun h => by rw [VS.out] at h; cases h.1)
          have HS6 : ∀ W, CsSt b m (.slice ol L.length cl) u (0 + 1 * kw (wtB L) u s + -1 * kw (wtB L) u t) M2 s t (.slice os s.ts.length cs) (.slice ot t.ts.length ct) w W → Hid (W.cell? ⟨b, 0, none⟩ = some (.slice ol L.length cl) ∧ W.cell? ⟨b, 1, none⟩ = some (.int .i64 u) ∧ W.cell? ⟨w.heap.size, 0, none⟩ = some (.string s.nm) ∧ W.cell? ⟨w.heap.size, 1, none⟩ = some (.bool true) ∧ W.cell? ⟨w.heap.size + 1, 0, none⟩ = some (.string t.nm) ∧ W.cell? ⟨w.heap.size + 1, 1, none⟩ = some (.bool true)) := fun W h => by
            have := h.s6
            rw [VS.out, VT.out] at this
            exact Lib.hid this
          have HS6' := Lib.hid HS6
          clear HS6
          have H2d := Lib.hid (H2.out.carry (Below.refl _ w2).drew)
          have Q := HS6'.out _ H2d.out
          have HP : Hid (DfPost b m (.slice ol L.length cl) u (kw (wtB L) u s - kw (wtB L) u t) (fun q => (cntL q s.vs : Int) - cntL q t.vs) (s = t) (s.size + t.size) w w2.drew) := Lib.hid (HDF.out _ H2d.out.d H2d.out.fr)
          refine wp_region_noPanic ?_
          refine wp_region_held_drew (S := fun w' => w'.cell? ⟨b, 0, none⟩ = some (.slice ol L.length cl) ∧ w'.cell? ⟨b, 1, none⟩ = some (.int .i64 u) ∧ w'.cell? ⟨w.heap.size, 0, none⟩ = some (.string s.nm) ∧ w'.cell? ⟨w.heap.size, 1, none⟩ = some (.bool true) ∧ w'.cell? ⟨w.heap.size + 1, 0, none⟩ = some (.string t.nm) ∧ w'.cell? ⟨w.heap.size + 1, 1, none⟩ = some (.bool true)) (by kernel_rfl) Q.out (fun _ => ?_)
          simp only [List.size_toArray, List.length_cons, List.length_nil, Nat.reduceAdd]
          refine wpAnyH_take (i := 0) (v := ?_) (by simp only [List.getElem?_toArray, List.getElem?_cons_zero]; rfl) (by kernel_rfl) (by kernel_rfl) (by kernel_rfl) (fun _ _ _ h => h) (Or.inl ⟨by rfl, ?_⟩) Q.out ?_
          case refine_2 => (intro ww hSw; obtain ⟨s1, s2, s3, s4, s5, s6⟩ := hSw; go_simp; try with_reducible rfl)
          try simp only [Act.put, List.setIfInBounds_toArray, List.set_cons_zero, List.set_cons_succ]
          refine wpAnyH_take (i := 1) (v := ?_) (by simp only [List.getElem?_toArray, List.getElem?_cons_zero, List.getElem?_cons_succ]; rfl) (by kernel_rfl) (by kernel_rfl) (by kernel_rfl) (fun _ _ _ h => h) (Or.inl ⟨by rfl, ?_⟩) Q.out ?_
          case refine_2 => (intro ww hSw; obtain ⟨s1, s2, s3, s4, s5, s6⟩ := hSw; go_simp; try with_reducible rfl)
          try simp only [Act.put, List.setIfInBounds_toArray, List.set_cons_zero, List.set_cons_succ]
          refine wpAnyH_take (i := 2) (v := ?_) (by simp only [List.getElem?_toArray, List.getElem?_cons_zero, List.getElem?_cons_succ]; rfl) (by kernel_rfl) (by kernel_rfl) (by kernel_rfl) (fun _ _ _ h => h) (Or.inl ⟨by rfl, ?_⟩) Q.out ?_
          case refine_2 => (intro ww hSw; obtain ⟨s1, s2, s3, s4, s5, s6⟩ := hSw; go_simp; try with_reducible rfl)
          try simp only [Act.put, List.setIfInBounds_toArray, List.set_cons_zero, List.set_cons_succ]
          refine wpAnyH_take (i := 3) (v := ?_) (by simp only [List.getElem?_toArray, List.getElem?_cons_zero, List.getElem?_cons_succ]; rfl) (by kernel_rfl) (by kernel_rfl) (by kernel_rfl) (fun _ _ _ h => h) (Or.inl ⟨by rfl, ?_⟩) Q.out ?_
          case refine_2 => (intro ww hSw; obtain ⟨s1, s2, s3, s4, s5, s6⟩ := hSw; go_simp; try with_reducible rfl)
          try simp only [Act.put, List.setIfInBounds_toArray, List.set_cons_zero, List.set_cons_succ]
          refine wpAnyH_take (i := 4) (v := _) (by simp only [List.getElem?_toArray, List.getElem?_cons_zero, List.getElem?_cons_succ]; rfl) (by kernel_rfl) (by kernel_rfl) (by kernel_rfl) (fun _ _ _ h => h) (Or.inr ⟨by rfl, rfl⟩) Q.out ?_
          try simp only [Act.put, List.setIfInBounds_toArray, List.set_cons_zero, List.set_cons_succ]
          refine wpAnyH_take (i := 5) (v := _) (by simp only [List.getElem?_toArray, List.getElem?_cons_zero, List.getElem?_cons_succ]; rfl) (by kernel_rfl) (by kernel_rfl) (by kernel_rfl) (fun _ _ _ h => h) (Or.inr ⟨by rfl, rfl⟩) Q.out ?_
          try simp only [Act.put, List.setIfInBounds_toArray, List.set_cons_zero, List.set_cons_succ]
          refine wpAnyH_take (i := 6) (v := _) (by simp only [List.getElem?_toArray, List.getElem?_cons_zero, List.getElem?_cons_succ]; rfl) (by kernel_rfl) (by kernel_rfl) (by kernel_rfl) (fun _ _ _ h => h) (Or.inr ⟨by rfl, rfl⟩) Q.out ?_
          try simp only [Act.put, List.setIfInBounds_toArray, List.set_cons_zero, List.set_cons_succ]
          refine wpAnyH_take (i := 7) (v := _) (by simp only [List.getElem?_toArray, List.getElem?_cons_zero, List.getElem?_cons_succ]; rfl) (by kernel_rfl) (by kernel_rfl) (by kernel_rfl) (fun _ _ _ h => h) (Or.inr ⟨by rfl, rfl⟩) Q.out ?_
          try simp only [Act.put, List.setIfInBounds_toArray, List.set_cons_zero, List.set_cons_succ]
          refine wpAnyH_take (i := 8) (v := _) (by simp only [List.getElem?_toArray, List.getElem?_cons_zero, List.getElem?_cons_succ]; rfl) (by kernel_rfl) (by kernel_rfl) (by kernel_rfl) (fun _ _ _ h => h) (Or.inr ⟨by rfl, rfl⟩) Q.out ?_
          try simp only [Act.put, List.setIfInBounds_toArray, List.set_cons_zero, List.set_cons_succ]
          refine wpAnyH_take (i := 9) (v := _) (by simp only [List.getElem?_toArray, List.getElem?_cons_zero, List.getElem?_cons_succ]; rfl) (by kernel_rfl) (by kernel_rfl) (by kernel_rfl) (fun _ _ _ h => h) (Or.inr ⟨by rfl, rfl⟩) Q.out ?_
          try simp only [Act.put, List.setIfInBounds_toArray, List.set_cons_zero, List.set_cons_succ]
          refine wpAnyH_take (i := 10) (v := _) (by simp only [List.getElem?_toArray, List.getElem?_cons_zero, List.getElem?_cons_succ]; rfl) (by kernel_rfl) (by kernel_rfl) (by kernel_rfl) (fun _ _ _ h => h) (Or.inr ⟨by rfl, rfl⟩) Q.out ?_
          try simp only [Act.put, List.setIfInBounds_toArray, List.set_cons_zero, List.set_cons_succ]
          refine wpAnyH_take (i := 11) (v := _) (by simp only [List.getElem?_toArray, List.getElem?_cons_zero, List.getElem?_cons_succ]; rfl) (by kernel_rfl) (by kernel_rfl) (by kernel_rfl) (fun _ _ _ h => h) (Or.inr ⟨by rfl, rfl⟩) Q.out ?_
          try simp only [Act.put, List.setIfInBounds_toArray, List.set_cons_zero, List.set_cons_succ]
          refine wpAnyH_take (i := 12) (v := _) (by simp only [List.getElem?_toArray, List.getElem?_cons_zero, List.getElem?_cons_succ]; rfl) (by kernel_rfl) (by kernel_rfl) (by kernel_rfl) (fun _ _ _ h => h) (Or.inr ⟨by rfl, rfl⟩) Q.out ?_
          try simp only [Act.put, List.setIfInBounds_toArray, List.set_cons_zero, List.set_cons_succ]
          refine wpAnyH_take (i := 13) (v := _) (by simp only [List.getElem?_toArray, List.getElem?_cons_zero, List.getElem?_cons_succ]; rfl) (by kernel_rfl) (by kernel_rfl) (by kernel_rfl) (fun _ _ _ h => h) (Or.inr ⟨by rfl, rfl⟩) Q.out ?_
          try simp only [Act.put, List.setIfInBounds_toArray, List.set_cons_zero, List.set_cons_succ]
          refine wpAnyH_take (i := 14) (v := _) (by simp only [List.getElem?_toArray, List.getElem?_cons_zero, List.getElem?_cons_succ]; rfl) (by kernel_rfl) (by kernel_rfl) (by kernel_rfl) (fun _ _ _ h => h) (Or.inr ⟨by rfl, rfl⟩) Q.out ?_
          try simp only [Act.put, List.setIfInBounds_toArray, List.set_cons_zero, List.set_cons_succ]
          refine wpAnyH_take (i := 15) (v := _) (by simp only [List.getElem?_toArray, List.getElem?_cons_zero, List.getElem?_cons_succ]; rfl) (by kernel_rfl) (by kernel_rfl) (by kernel_rfl) (fun _ _ _ h => h) (Or.inr ⟨by rfl, rfl⟩) Q.out ?_
          try simp only [Act.put, List.setIfInBounds_toArray, List.set_cons_zero, List.set_cons_succ]
          refine wpAnyH_take (i := 16) (v := _) (by simp only [List.getElem?_toArray, List.getElem?_cons_zero, List.getElem?_cons_succ]; rfl) (by kernel_rfl) (by kernel_rfl) (by kernel_rfl) (fun _ _ _ h => h) (Or.inr ⟨by rfl, rfl⟩) Q.out ?_
          try simp only [Act.put, List.setIfInBounds_toArray, List.set_cons_zero, List.set_cons_succ]
          refine wpAnyH_take (i := 17) (v := _) (by simp only [List.getElem?_toArray, List.getElem?_cons_zero, List.getElem?_cons_succ]; rfl) (by kernel_rfl) (by kernel_rfl) (by kernel_rfl) (fun _ _ _ h => h) (Or.inr ⟨by rfl, rfl⟩) Q.out ?_
          try simp only [Act.put, List.setIfInBounds_toArray, List.set_cons_zero, List.set_cons_succ]
          refine wpAnyH_take (i := 18) (v := _) (by simp only [List.getElem?_toArray, List.getElem?_cons_zero, List.getElem?_cons_succ]; rfl) (by kernel_rfl) (by kernel_rfl) (by kernel_rfl) (fun _ _ _ h => h) (Or.inr ⟨by rfl, rfl⟩) Q.out ?_
          try simp only [Act.put, List.setIfInBounds_toArray, List.set_cons_zero, List.set_cons_succ]
          refine wpAnyH_take (i := 19) (v := _) (by simp only [List.getElem?_toArray, List.getElem?_cons_zero, List.getElem?_cons_succ]; rfl) (by kernel_rfl) (by kernel_rfl) (by kernel_rfl) (fun _ _ _ h => h) (Or.inr ⟨by rfl, rfl⟩) Q.out ?_
          try simp only [Act.put, List.setIfInBounds_toArray, List.set_cons_zero, List.set_cons_succ]
          refine wpAnyH_take (i := 20) (v := _) (by simp only [List.getElem?_toArray, List.getElem?_cons_zero, List.getElem?_cons_succ]; rfl) (by kernel_rfl) (by kernel_rfl) (by kernel_rfl) (fun _ _ _ h => h) (Or.inr ⟨by rfl, rfl⟩) Q.out ?_
          try simp only [Act.put, List.setIfInBounds_toArray, List.set_cons_zero, List.set_cons_succ]
          refine wpAnyH_take (i := 21) (v := _) (by simp only [List.getElem?_toArray, List.getElem?_cons_zero, List.getElem?_cons_succ]; rfl) (by kernel_rfl) (by kernel_rfl) (by kernel_rfl) (fun _ _ _ h => h) (Or.inr ⟨by rfl, rfl⟩) Q.out ?_
          try simp only [Act.put, List.setIfInBounds_toArray, List.set_cons_zero, List.set_cons_succ]
          refine wpAnyH_take (i := 22) (v := _) (by simp only [List.getElem?_toArray, List.getElem?_cons_zero, List.getElem?_cons_succ]; rfl) (by kernel_rfl) (by kernel_rfl) (by kernel_rfl) (fun _ _ _ h => h) (Or.inr ⟨by rfl, rfl⟩) Q.out ?_
          try simp only [Act.put, List.setIfInBounds_toArray, List.set_cons_zero, List.set_cons_succ]
          refine wpAnyH_take (i := 23) (v := _) (by simp only [List.getElem?_toArray, List.getElem?_cons_zero, List.getElem?_cons_succ]; rfl) (by kernel_rfl) (by kernel_rfl) (by kernel_rfl) (fun _ _ _ h => h) (Or.inr ⟨by rfl, rfl⟩) Q.out ?_
          try simp only [Act.put, List.setIfInBounds_toArray, List.set_cons_zero, List.set_cons_succ]
          refine wpAnyH_take (i := 24) (v := _) (by simp only [List.getElem?_toArray, List.getElem?_cons_zero, List.getElem?_cons_succ]; rfl) (by kernel_rfl) (by kernel_rfl) (by kernel_rfl) (fun _ _ _ h => h) (Or.inr ⟨by rfl, rfl⟩) Q.out ?_
          try simp only [Act.put, List.setIfInBounds_toArray, List.set_cons_zero, List.set_cons_succ]
          refine wpAnyH_take (i := 25) (v := ?_) (by simp only [List.getElem?_toArray, List.getElem?_cons_zero, List.getElem?_cons_succ]; rfl) (by kernel_rfl) (by kernel_rfl) (by kernel_rfl) (fun _ _ _ h => h) (Or.inl ⟨by rfl, ?_⟩) Q.out ?_
          case refine_2 => (intro ww hSw; obtain ⟨s1, s2, s3, s4, s5, s6⟩ := hSw; go_simp; try with_reducible rfl)
          try simp only [Act.put, List.setIfInBounds_toArray, List.set_cons_zero, List.set_cons_succ]
          refine wpAnyH_done (by kernel_rfl) ?_ _
          refine NoPanic.normal ?_
          go_wp2_with fail
          go_ret
          exact ⟨by rw [HK.out]; rfl, HP.out⟩
        | false =>
          have VT := Lib.hid hvt
          clear hvs hvt
          have HK : Hid (ksym (wtB L) (rkB L) u s t = 0) := Lib.hid (ksym_not HNA.out fun h => by rw [VS.out] at h; cases h.1)
          have HS6 : ∀ W, CsSt b m (.slice ol L.length cl) u (0 + 1 * kw (wtB L) u s + -1 * kw (wtB L) u t) M2 s t (.slice os s.ts.length cs) (.slice ot t.ts.length ct) w W → Hid (W.cell? ⟨b, 0, none⟩ = some (.slice ol L.length cl) ∧ W.cell? ⟨b, 1, none⟩ = some (.int .i64 u) ∧ W.cell? ⟨w.heap.size, 0, none⟩ = some (.string s.nm) ∧ W.cell? ⟨w.heap.size, 1, none⟩ = some (.bool true) ∧ W.cell? ⟨w.heap.size + 1, 0, none⟩ = some (.string t.nm) ∧ W.cell? ⟨w.heap.size + 1, 1, none⟩ = some (.bool false)) := fun W h => by
            have := h.s6
            rw [VS.out, VT.out] at this
            exact Lib.hid this
          have HS6' := Lib.hid HS6
          clear HS6
          have H2d := Lib.hid (H2.out.carry (Below.refl _ w2).drew)
          have Q := HS6'.out _ H2d.out
          have HP : Hid (DfPost b m (.slice ol L.length cl) u (kw (wtB L) u s - kw (wtB L) u t) (fun q => (cntL q s.vs : Int) - cntL q t.vs) (s = t) (s.size + t.size) w w2.drew) := Lib.hid (HDF.out _ H2d.out.d H2d.out.fr)
          refine wp_region_noPanic ?_
          refine wp_region_held_drew (S := fun w' => w'.cell? ⟨b, 0, none⟩ = some (.slice ol L.length cl) ∧ w'.cell? ⟨b, 1, none⟩ = some (.int .i64 u) ∧ w'.cell? ⟨w.heap.size, 0, none⟩ = some (.string s.nm) ∧ w'.cell? ⟨w.heap.size, 1, none⟩ = some (.bool true) ∧ w'.cell? ⟨w.heap.size + 1, 0, none⟩ = some (.string t.nm) ∧ w'.cell? ⟨w.heap.size + 1, 1, none⟩ = some (.bool false)) (by kernel_rfl) Q.out (fun _ => ?_)
          simp only [List.size_toArray, List.length_cons, List.length_nil, Nat.reduceAdd]
          refine wpAnyH_take (i := 0) (v := ?_) (by simp only [List.getElem?_toArray, List.getElem?_cons_zero]; rfl) (by kernel_rfl) (by kernel_rfl) (by kernel_rfl) (fun _ _ _ h => h) (Or.inl ⟨by rfl, ?_⟩) Q.out ?_
          case refine_2 => (intro ww hSw; obtain ⟨s1, s2, s3, s4, s5, s6⟩ := hSw; go_simp; try with_reducible rfl)
          try simp only [Act.put, List.setIfInBounds_toArray, List.set_cons_zero, List.set_cons_succ]
          refine wpAnyH_take (i := 1) (v := ?_) (by simp only [List.getElem?_toArray, List.getElem?_cons_zero, List.getElem?_cons_succ]; rfl) (by kernel_rfl) (by kernel_rfl) (by kernel_rfl) (fun _ _ _ h => h) (Or.inl ⟨by rfl, ?_⟩) Q.out ?_
          case refine_2 => (intro ww hSw; obtain ⟨s1, s2, s3, s4, s5, s6⟩ := hSw; go_simp; try with_reducible rfl)
          try simp only [Act.put, List.setIfInBounds_toArray, List.set_cons_zero, List.set_cons_succ]
          refine wpAnyH_take (i := 2) (v := ?_) (by simp only [List.getElem?_toArray, List.getElem?_cons_zero, List.getElem?_cons_succ]; rfl) (by kernel_rfl) (by kernel_rfl) (by kernel_rfl) (fun _ _ _ h => h) (Or.inl ⟨by rfl, ?_⟩) Q.out ?_
          case refine_2 => (intro ww hSw; obtain ⟨s1, s2, s3, s4, s5, s6⟩ := hSw; go_simp; try with_reducible rfl)
          try simp only [Act.put, List.setIfInBounds_toArray, List.set_cons_zero, List.set_cons_succ]
          refine wpAnyH_take (i := 3) (v := ?_) (by simp only [List.getElem?_toArray, List.getElem?_cons_zero, List.getElem?_cons_succ]; rfl) (by kernel_rfl) (by kernel_rfl) (by kernel_rfl) (fun _ _ _ h => h) (Or.inl ⟨by rfl, ?_⟩) Q.out ?_
          case refine_2 => (intro ww hSw; obtain ⟨s1, s2, s3, s4, s5, s6⟩ := hSw; go_simp; try with_reducible rfl)
          try simp only [Act.put, List.setIfInBounds_toArray, List.set_cons_zero, List.set_cons_succ]
          refine wpAnyH_take (i := 4) (v := _) (by simp only [List.getElem?_toArray, List.getElem?_cons_zero, List.getElem?_cons_succ]; rfl) (by kernel_rfl) (by kernel_rfl) (by kernel_rfl) (fun _ _ _ h => h) (Or.inr ⟨by rfl, rfl⟩) Q.out ?_
          try simp only [Act.put, List.setIfInBounds_toArray, List.set_cons_zero, List.set_cons_succ]
          refine wpAnyH_take (i := 5) (v := _) (by simp only [List.getElem?_toArray, List.getElem?_cons_zero, List.getElem?_cons_succ]; rfl) (by kernel_rfl) (by kernel_rfl) (by kernel_rfl) (fun _ _ _ h => h) (Or.inr ⟨by rfl, rfl⟩) Q.out ?_
          try simp only [Act.put, List.setIfInBounds_toArray, List.set_cons_zero, List.set_cons_succ]
          refine wpAnyH_take (i := 6) (v := _) (by simp only [List.getElem?_toArray, List.getElem?_cons_zero, List.getElem?_cons_succ]; rfl) (by kernel_rfl) (by kernel_rfl) (by kernel_rfl) (fun _ _ _ h => h) (Or.inr ⟨by rfl, rfl⟩) Q.out ?_
          try simp only [Act.put, List.setIfInBounds_toArray, List.set_cons_zero, List.set_cons_succ]
          refine wpAnyH_take (i := 7) (v := _) (by simp only [List.getElem?_toArray, List.getElem?_cons_zero, List.getElem?_cons_succ]; rfl) (by kernel_rfl) (by kernel_rfl) (by kernel_rfl) (fun _ _ _ h => h) (Or.inr ⟨by rfl, rfl⟩) Q.out ?_
          try simp only [Act.put, List.setIfInBounds_toArray, List.set_cons_zero, List.set_cons_succ]
          refine wpAnyH_take (i := 8) (v := _) (by simp only [List.getElem?_toArray, List.getElem?_cons_zero, List.getElem?_cons_succ]; rfl) (by kernel_rfl) (by kernel_rfl) (by kernel_rfl) (fun _ _ _ h => h) (Or.inr ⟨by rfl, rfl⟩) Q.out ?_
          try simp only [Act.put, List.setIfInBounds_toArray, List.set_cons_zero, List.set_cons_succ]
          refine wpAnyH_take (i := 9) (v := _) (by simp only [List.getElem?_toArray, List.getElem?_cons_zero, List.getElem?_cons_succ]; rfl) (by kernel_rfl) (by kernel_rfl) (by kernel_rfl) (fun _ _ _ h => h) (Or.inr ⟨by rfl, rfl⟩) Q.out ?_
          try simp only [Act.put, List.setIfInBounds_toArray, List.set_cons_zero, List.set_cons_succ]
          refine wpAnyH_take (i := 10) (v := _) (by simp only [List.getElem?_toArray, List.getElem?_cons_zero, List.getElem?_cons_succ]; rfl) (by kernel_rfl) (by kernel_rfl) (by kernel_rfl) (fun _ _ _ h => h) (Or.inr ⟨by rfl, rfl⟩) Q.out ?_
          try simp only [Act.put, List.setIfInBounds_toArray, List.set_cons_zero, List.set_cons_succ]
          refine wpAnyH_take (i := 11) (v := _) (by simp only [List.getElem?_toArray, List.getElem?_cons_zero, List.getElem?_cons_succ]; rfl) (by kernel_rfl) (by kernel_rfl) (by kernel_rfl) (fun _ _ _ h => h) (Or.inr ⟨by rfl, rfl⟩) Q.out ?_
          try simp only [Act.put, List.setIfInBounds_toArray, List.set_cons_zero, List.set_cons_succ]
          refine wpAnyH_take (i := 12) (v := _) (by simp only [List.getElem?_toArray, List.getElem?_cons_zero, List.getElem?_cons_succ]; rfl) (by kernel_rfl) (by kernel_rfl) (by kernel_rfl) (fun _ _ _ h => h) (Or.inr ⟨by rfl, rfl⟩) Q.out ?_
          try simp only [Act.put, List.setIfInBounds_toArray, List.set_cons_zero, List.set_cons_succ]
          refine wpAnyH_take (i := 13) (v := _) (by simp only [List.getElem?_toArray, List.getElem?_cons_zero, List.getElem?_cons_succ]; rfl) (by kernel_rfl) (by kernel_rfl) (by kernel_rfl) (fun _ _ _ h => h) (Or.inr ⟨by rfl, rfl⟩) Q.out ?_
          try simp only [Act.put, List.setIfInBounds_toArray, List.set_cons_zero, List.set_cons_succ]
          refine wpAnyH_take (i := 14) (v := _) (by simp only [List.getElem?_toArray, List.getElem?_cons_zero, List.getElem?_cons_succ]; rfl) (by kernel_rfl) (by kernel_rfl) (by kernel_rfl) (fun _ _ _ h => h) (Or.inr ⟨by rfl, rfl⟩) Q.out ?_
          try simp only [Act.put, List.setIfInBounds_toArray, List.set_cons_zero, List.set_cons_succ]
          refine wpAnyH_take (i := 15) (v := _) (by simp only [List.getElem?_toArray, List.getElem?_cons_zero, List.getElem?_cons_succ]; rfl) (by kernel_rfl) (by kernel_rfl) (by kernel_rfl) (fun _ _ _ h => h) (Or.inr ⟨by rfl, rfl⟩) Q.out ?_
          try simp only [Act.put, List.setIfInBounds_toArray, List.set_cons_zero, List.set_cons_succ]
          refine wpAnyH_take (i := 16) (v := _) (by simp only [List.getElem?_toArray, List.getElem?_cons_zero, List.getElem?_cons_succ]; rfl) (by kernel_rfl) (by kernel_rfl) (by kernel_rfl) (fun _ _ _ h => h) (Or.inr ⟨by rfl, rfl⟩) Q.out ?_
          try simp only [Act.put, List.setIfInBounds_toArray, List.set_cons_zero, List.set_cons_succ]
          refine wpAnyH_take (i := 17) (v := _) (by simp only [List.getElem?_toArray, List.getElem?_cons_zero, List.getElem?_cons_succ]; rfl) (by kernel_rfl) (by kernel_rfl) (by kernel_rfl) (fun _ _ _ h => h) (Or.inr ⟨by rfl, rfl⟩) Q.out ?_
          try simp only [Act.put, List.setIfInBounds_toArray, List.set_cons_zero, List.set_cons_succ]
          refine wpAnyH_take (i := 18) (v := _) (by simp only [List.getElem?_toArray, List.getElem?_cons_zero, List.getElem?_cons_succ]; rfl) (by kernel_rfl) (by kernel_rfl) (by kernel_rfl) (fun _ _ _ h => h) (Or.inr ⟨by rfl, rfl⟩) Q.out ?_
          try simp only [Act.put, List.setIfInBounds_toArray, List.set_cons_zero, List.set_cons_succ]
          refine wpAnyH_take (i := 19) (v := _) (by simp only [List.getElem?_toArray, List.getElem?_cons_zero, List.getElem?_cons_succ]; rfl) (by kernel_rfl) (by kernel_rfl) (by kernel_rfl) (fun _ _ _ h => h) (Or.inr ⟨by rfl, rfl⟩) Q.out ?_
          try simp only [Act.put, List.setIfInBounds_toArray, List.set_cons_zero, List.set_cons_succ]
          refine wpAnyH_take (i := 20) (v := _) (by simp only [List.getElem?_toArray, List.getElem?_cons_zero, List.getElem?_cons_succ]; rfl) (by kernel_rfl) (by kernel_rfl) (by kernel_rfl) (fun _ _ _ h => h) (Or.inr ⟨by rfl, rfl⟩) Q.out ?_
          try simp only [Act.put, List.setIfInBounds_toArray, List.set_cons_zero, List.set_cons_succ]
          refine wpAnyH_take (i := 21) (v := _) (by simp only [List.getElem?_toArray, List.getElem?_cons_zero, List.getElem?_cons_succ]; rfl) (by kernel_rfl) (by kernel_rfl) (by kernel_rfl) (fun _ _ _ h => h) (Or.inr ⟨by rfl, rfl⟩) Q.out ?_
          try simp only [Act.put, List.setIfInBounds_toArray, List.set_cons_zero, List.set_cons_succ]
          refine wpAnyH_take (i := 22) (v := _) (by simp only [List.getElem?_toArray, List.getElem?_cons_zero, List.getElem?_cons_succ]; rfl) (by kernel_rfl) (by kernel_rfl) (by kernel_rfl) (fun _ _ _ h => h) (Or.inr ⟨by rfl, rfl⟩) Q.out ?_
          try simp only [Act.put, List.setIfInBounds_toArray, List.set_cons_zero, List.set_cons_succ]
          refine wpAnyH_take (i := 23) (v := _) (by simp only [List.getElem?_toArray, List.getElem?_cons_zero, List.getElem?_cons_succ]; rfl) (by kernel_rfl) (by kernel_rfl) (by kernel_rfl) (fun _ _ _ h => h) (Or.inr ⟨by rfl, rfl⟩) Q.out ?_
          try simp only [Act.put, List.setIfInBounds_toArray, List.set_cons_zero, List.set_cons_succ]
          refine wpAnyH_take (i := 24) (v := _) (by simp only [List.getElem?_toArray, List.getElem?_cons_zero, List.getElem?_cons_succ]; rfl) (by kernel_rfl) (by kernel_rfl) (by kernel_rfl) (fun _ _ _ h => h) (Or.inr ⟨by rfl, rfl⟩) Q.out ?_
          try simp only [Act.put, List.setIfInBounds_toArray, List.set_cons_zero, List.set_cons_succ]
          refine wpAnyH_take (i := 25) (v := ?_) (by simp only [List.getElem?_toArray, List.getElem?_cons_zero, List.getElem?_cons_succ]; rfl) (by kernel_rfl) (by kernel_rfl) (by kernel_rfl) (fun _ _ _ h => h) (Or.inl ⟨by rfl, ?_⟩) Q.out ?_
          case refine_2 => (intro ww hSw; obtain ⟨s1, s2, s3, s4, s5, s6⟩ := hSw; go_simp; try with_reducible rfl)
          try simp only [Act.put, List.setIfInBounds_toArray, List.set_cons_zero, List.set_cons_succ]
          refine wpAnyH_done (by kernel_rfl) ?_ _
          refine NoPanic.normal ?_
          go_wp2_with fail
          go_ret
          exact ⟨by rw [HK.out]; rfl, HP.out⟩
      | false =>
        have VS := Lib.hid hvs
        cases hvt : t.vr with
        | true =>
          have VT := Lib.hid hvt
          clear hvs hvt
          have HK : Hid (ksym (wtB L) (rkB L) u s t = 2) := Lib.hid (ksym_top HNA.out ⟨VS.out, .inl VT.out⟩)
          have HS6 : ∀ W, CsSt b m (.slice ol L.length cl) u (0 + 1 * kw (wtB L) u s + -1 * kw (wtB L) u t) M2 s t (.slice os s.ts.length cs) (.slice ot t.ts.length ct) w W → Hid (W.cell? ⟨b, 0, none⟩ = some (.slice ol L.length cl) ∧ W.cell? ⟨b, 1, none⟩ = some (.int .i64 u) ∧ W.cell? ⟨w.heap.size, 0, none⟩ = some (.string s.nm) ∧ W.cell? ⟨w.heap.size, 1, none⟩ = some (.bool false) ∧ W.cell? ⟨w.heap.size + 1, 0, none⟩ = some (.string t.nm) ∧ W.cell? ⟨w.heap.size + 1, 1, none⟩ = some (.bool true)) := fun W h => by
            have := h.s6
            rw [VS.out, VT.out] at this
            exact Lib.hid this
          have HS6' := Lib.hid HS6
          clear HS6
          have H2d := Lib.hid (H2.out.carry (Below.refl _ w2).drew)
          have Q := HS6'.out _ H2d.out
          have HP : Hid (DfPost b m (.slice ol L.length cl) u (kw (wtB L) u s - kw (wtB L) u t) (fun q => (cntL q s.vs : Int) - cntL q t.vs) (s = t) (s.size + t.size) w w2.drew) := Lib.hid (HDF.out _ H2d.out.d H2d.out.fr)
          refine wp_region_noPanic ?_
          refine wp_region_held_drew (S := fun w' => w'.cell? ⟨b, 0, none⟩ = some (.slice ol L.length cl) ∧ w'.cell? ⟨b, 1, none⟩ = some (.int .i64 u) ∧ w'.cell? ⟨w.heap.size, 0, none⟩ = some (.string s.nm) ∧ w'.cell? ⟨w.heap.size, 1, none⟩ = some (.bool false) ∧ w'.cell? ⟨w.heap.size + 1, 0, none⟩ = some (.string t.nm) ∧ w'.cell? ⟨w.heap.size + 1, 1, none⟩ = some (.bool true)) (by kernel_rfl) Q.out (fun _ => ?_)
          simp only [List.size_toArray, List.length_cons, List.length_nil, Nat.reduceAdd]
          refine wpAnyH_take (i := 0) (v := ?_) (by simp only [List.getElem?_toArray, List.getElem?_cons_zero]; rfl) (by kernel_rfl) (by kernel_rfl) (by kernel_rfl) (fun _ _ _ h => h) (Or.inl ⟨by rfl, ?_⟩) Q.out ?_
          case refine_2 => (intro ww hSw; obtain ⟨s1, s2, s3, s4, s5, s6⟩ := hSw; go_simp; try with_reducible rfl)
          try simp only [Act.put, List.setIfInBounds_toArray, List.set_cons_zero, List.set_cons_succ]
          refine wpAnyH_take (i := 1) (v := ?_) (by simp only [List.getElem?_toArray, List.getElem?_cons_zero, List.getElem?_cons_succ]; rfl) (by kernel_rfl) (by kernel_rfl) (by kernel_rfl) (fun _ _ _ h => h) (Or.inl ⟨by rfl, ?_⟩) Q.out ?_
          case refine_2 => (intro ww hSw; obtain ⟨s1, s2, s3, s4, s5, s6⟩ := hSw; go_simp; try with_reducible rfl)
          try simp only [Act.put, List.setIfInBounds_toArray, List.set_cons_zero, List.set_cons_succ]
          refine wpAnyH_take (i := 2) (v := ?_) (by simp only [List.getElem?_toArray, List.getElem?_cons_zero, List.getElem?_cons_succ]; rfl) (by kernel_rfl) (by kernel_rfl) (by kernel_rfl) (fun _ _ _ h => h) (Or.inl ⟨by rfl, ?_⟩) Q.out ?_
          case refine_2 => (intro ww hSw; obtain ⟨s1, s2, s3, s4, s5, s6⟩ := hSw; go_simp; try with_reducible rfl)
          try simp only [Act.put, List.setIfInBounds_toArray, List.set_cons_zero, List.set_cons_succ]
          refine wpAnyH_take (i := 3) (v := ?_) (by simp only [List.getElem?_toArray, List.getElem?_cons_zero, List.getElem?_cons_succ]; rfl) (by kernel_rfl) (by kernel_rfl) (by kernel_rfl) (fun _ _ _ h => h) (Or.inl ⟨by rfl, ?_⟩) Q.out ?_
          case refine_2 => (intro ww hSw; obtain ⟨s1, s2, s3, s4, s5, s6⟩ := hSw; go_simp; try with_reducible rfl)
          try simp only [Act.put, List.setIfInBounds_toArray, List.set_cons_zero, List.set_cons_succ]
          refine wpAnyH_take (i := 4) (v := ?_) (by simp only [List.getElem?_toArray, List.getElem?_cons_zero, List.getElem?_cons_succ]; rfl) (by kernel_rfl) (by kernel_rfl) (by kernel_rfl) (fun _ _ _ h => h) (Or.inl ⟨by rfl, ?_⟩) Q.out ?_
          case refine_2 => (intro ww hSw; obtain ⟨s1, s2, s3, s4, s5, s6⟩ := hSw; go_simp; try with_reducible rfl)
          try simp only [Act.put, List.setIfInBounds_toArray, List.set_cons_zero, List.set_cons_succ]
          refine wpAnyH_take (i := 5) (v := ?_) (by simp only [List.getElem?_toArray, List.getElem?_cons_zero, List.getElem?_cons_succ]; rfl) (by kernel_rfl) (by kernel_rfl) (by kernel_rfl) (fun _ _ _ h => h) (Or.inl ⟨by rfl, ?_⟩) Q.out ?_
          case refine_2 => (intro ww hSw; obtain ⟨s1, s2, s3, s4, s5, s6⟩ := hSw; go_simp; try with_reducible rfl)
          try simp only [Act.put, List.setIfInBounds_toArray, List.set_cons_zero, List.set_cons_succ]
          refine wpAnyH_take (i := 6) (v := ?_) (by simp only [List.getElem?_toArray, List.getElem?_cons_zero, List.getElem?_cons_succ]; rfl) (by kernel_rfl) (by kernel_rfl) (by kernel_rfl) (fun _ _ _ h => h) (Or.inl ⟨by rfl, ?_⟩) Q.out ?_
          case refine_2 => (intro ww hSw; obtain ⟨s1, s2, s3, s4, s5, s6⟩ := hSw; go_simp; try with_reducible rfl)
          try simp only [Act.put, List.setIfInBounds_toArray, List.set_cons_zero, List.set_cons_succ]
          refine wpAnyH_take (i := 7) (v := _) (by simp only [List.getElem?_toArray, List.getElem?_cons_zero, List.getElem?_cons_succ]; rfl) (by kernel_rfl) (by kernel_rfl) (by kernel_rfl) (fun _ _ _ h => h) (Or.inr ⟨by rfl, rfl⟩) Q.out ?_
          try simp only [Act.put, List.setIfInBounds_toArray, List.set_cons_zero, List.set_cons_succ]
          refine wpAnyH_take (i := 8) (v := _) (by simp only [List.getElem?_toArray, List.getElem?_cons_zero, List.getElem?_cons_succ]; rfl) (by kernel_rfl) (by kernel_rfl) (by kernel_rfl) (fun _ _ _ h => h) (Or.inr ⟨by rfl, rfl⟩) Q.out ?_
          try simp only [Act.put, List.setIfInBounds_toArray, List.set_cons_zero, List.set_cons_succ]
          refine wpAnyH_take (i := 9) (v := _) (by simp only [List.getElem?_toArray, List.getElem?_cons_zero, List.getElem?_cons_succ]; rfl) (by kernel_rfl) (by kernel_rfl) (by kernel_rfl) (fun _ _ _ h => h) (Or.inr ⟨by rfl, rfl⟩) Q.out ?_
          try simp only [Act.put, List.setIfInBounds_toArray, List.set_cons_zero, List.set_cons_succ]
          refine wpAnyH_take (i := 10) (v := _) (by simp only [List.getElem?_toArray, List.getElem?_cons_zero, List.getElem?_cons_succ]; rfl) (by kernel_rfl) (by kernel_rfl) (by kernel_rfl) (fun _ _ _ h => h) (Or.inr ⟨by rfl, rfl⟩) Q.out ?_
          try simp only [Act.put, List.setIfInBounds_toArray, List.set_cons_zero, List.set_cons_succ]
          refine wpAnyH_take (i := 11) (v := _) (by simp only [List.getElem?_toArray, List.getElem?_cons_zero, List.getElem?_cons_succ]; rfl) (by kernel_rfl) (by kernel_rfl) (by kernel_rfl) (fun _ _ _ h => h) (Or.inr ⟨by rfl, rfl⟩) Q.out ?_
          try simp only [Act.put, List.setIfInBounds_toArray, List.set_cons_zero, List.set_cons_succ]
          refine wpAnyH_take (i := 12) (v := _) (by simp only [List.getElem?_toArray, List.getElem?_cons_zero, List.getElem?_cons_succ]; rfl) (by kernel_rfl) (by kernel_rfl) (by kernel_rfl) (fun _ _ _ h => h) (Or.inr ⟨by rfl, rfl⟩) Q.out ?_
          try simp only [Act.put, List.setIfInBounds_toArray, List.set_cons_zero, List.set_cons_succ]
          refine wpAnyH_take (i := 13) (v := _) (by simp only [List.getElem?_toArray, List.getElem?_cons_zero, List.getElem?_cons_succ]; rfl) (by kernel_rfl) (by kernel_rfl) (by kernel_rfl) (fun _ _ _ h => h) (Or.inr ⟨by rfl, rfl⟩) Q.out ?_
          try simp only [Act.put, List.setIfInBounds_toArray, List.set_cons_zero, List.set_cons_succ]
          refine wpAnyH_take (i := 14) (v := _) (by simp only [List.getElem?_toArray, List.getElem?_cons_zero, List.getElem?_cons_succ]; rfl) (by kernel_rfl) (by kernel_rfl) (by kernel_rfl) (fun _ _ _ h => h) (Or.inr ⟨by rfl, rfl⟩) Q.out ?_
          try simp only [Act.put, List.setIfInBounds_toArray, List.set_cons_zero, List.set_cons_succ]
          refine wpAnyH_take (i := 15) (v := _) (by simp only [List.getElem?_toArray, List.getElem?_cons_zero, List.getElem?_cons_succ]; rfl) (by kernel_rfl) (by kernel_rfl) (by kernel_rfl) (fun _ _ _ h => h) (Or.inr ⟨by rfl, rfl⟩) Q.out ?_
          try simp only [Act.put, List.setIfInBounds_toArray, List.set_cons_zero, List.set_cons_succ]
          refine wpAnyH_take (i := 16) (v := _) (by simp only [List.getElem?_toArray, List.getElem?_cons_zero, List.getElem?_cons_succ]; rfl) (by kernel_rfl) (by kernel_rfl) (by kernel_rfl) (fun _ _ _ h => h) (Or.inr ⟨by rfl, rfl⟩) Q.out ?_
          try simp only [Act.put, List.setIfInBounds_toArray, List.set_cons_zero, List.set_cons_succ]
          refine wpAnyH_take (i := 17) (v := _) (by simp only [List.getElem?_toArray, List.getElem?_cons_zero, List.getElem?_cons_succ]; rfl) (by kernel_rfl) (by kernel_rfl) (by kernel_rfl) (fun _ _ _ h => h) (Or.inr ⟨by rfl, rfl⟩) Q.out ?_
          try simp only [Act.put, List.setIfInBounds_toArray, List.set_cons_zero, List.set_cons_succ]
          refine wpAnyH_take (i := 18) (v := _) (by simp only [List.getElem?_toArray, List.getElem?_cons_zero, List.getElem?_cons_succ]; rfl) (by kernel_rfl) (by kernel_rfl) (by kernel_rfl) (fun _ _ _ h => h) (Or.inr ⟨by rfl, rfl⟩) Q.out ?_
          try simp only [Act.put, List.setIfInBounds_toArray, List.set_cons_zero, List.set_cons_succ]
          refine wpAnyH_take (i := 19) (v := _) (by simp only [List.getElem?_toArray, List.getElem?_cons_zero, List.getElem?_cons_succ]; rfl) (by kernel_rfl) (by kernel_rfl) (by kernel_rfl) (fun _ _ _ h => h) (Or.inr ⟨by rfl, rfl⟩) Q.out ?_
          try simp only [Act.put, List.setIfInBounds_toArray, List.set_cons_zero, List.set_cons_succ]
          refine wpAnyH_take (i := 20) (v := _) (by simp only [List.getElem?_toArray, List.getElem?_cons_zero, List.getElem?_cons_succ]; rfl) (by kernel_rfl) (by kernel_rfl) (by kernel_rfl) (fun _ _ _ h => h) (Or.inr ⟨by rfl, rfl⟩) Q.out ?_
          try simp only [Act.put, List.setIfInBounds_toArray, List.set_cons_zero, List.set_cons_succ]
          refine wpAnyH_take (i := 21) (v := _) (by simp only [List.getElem?_toArray, List.getElem?_cons_zero, List.getElem?_cons_succ]; rfl) (by kernel_rfl) (by kernel_rfl) (by kernel_rfl) (fun _ _ _ h => h) (Or.inr ⟨by rfl, rfl⟩) Q.out ?_
          try simp only [Act.put, List.setIfInBounds_toArray, List.set_cons_zero, List.set_cons_succ]
          refine wpAnyH_take (i := 22) (v := _) (by simp only [List.getElem?_toArray, List.getElem?_cons_zero, List.getElem?_cons_succ]; rfl) (by kernel_rfl) (by kernel_rfl) (by kernel_rfl) (fun _ _ _ h => h) (Or.inr ⟨by rfl, rfl⟩) Q.out ?_
          try simp only [Act.put, List.setIfInBounds_toArray, List.set_cons_zero, List.set_cons_succ]
          refine wpAnyH_take (i := 23) (v := _) (by simp only [List.getElem?_toArray, List.getElem?_cons_zero, List.getElem?_cons_succ]; rfl) (by kernel_rfl) (by kernel_rfl) (by kernel_rfl) (fun _ _ _ h => h) (Or.inr ⟨by rfl, rfl⟩) Q.out ?_
          try simp only [Act.put, List.setIfInBounds_toArray, List.set_cons_zero, List.set_cons_succ]
          refine wpAnyH_take (i := 24) (v := ?_) (by simp only [List.getElem?_toArray, List.getElem?_cons_zero, List.getElem?_cons_succ]; rfl) (by kernel_rfl) (by kernel_rfl) (by kernel_rfl) (fun _ _ _ h => h) (Or.inl ⟨by rfl, ?_⟩) Q.out ?_
          case refine_2 => (intro ww hSw; obtain ⟨s1, s2, s3, s4, s5, s6⟩ := hSw; go_simp; try with_reducible rfl)
          try simp only [Act.put, List.setIfInBounds_toArray, List.set_cons_zero, List.set_cons_succ]
          refine wpAnyH_take (i := 25) (v := ?_) (by simp only [List.getElem?_toArray, List.getElem?_cons_zero, List.getElem?_cons_succ]; rfl) (by kernel_rfl) (by kernel_rfl) (by kernel_rfl) (fun _ _ _ h => h) (Or.inl ⟨by rfl, ?_⟩) Q.out ?_
          case refine_2 => (intro ww hSw; obtain ⟨s1, s2, s3, s4, s5, s6⟩ := hSw; go_simp; try with_reducible rfl)
          try simp only [Act.put, List.setIfInBounds_toArray, List.set_cons_zero, List.set_cons_succ]
          refine wpAnyH_done (by kernel_rfl) ?_ _
          refine NoPanic.normal ?_
          go_wp2_with fail
          go_ret
          exact ⟨by rw [HK.out]; rfl, HP.out⟩
        | false =>
          have VT := Lib.hid hvt
          clear hvs hvt
          have HS6 : ∀ W, CsSt b m (.slice ol L.length cl) u (0 + 1 * kw (wtB L) u s + -1 * kw (wtB L) u t) M2 s t (.slice os s.ts.length cs) (.slice ot t.ts.length ct) w W → Hid (W.cell? ⟨b, 0, none⟩ = some (.slice ol L.length cl) ∧ W.cell? ⟨b, 1, none⟩ = some (.int .i64 u) ∧ W.cell? ⟨w.heap.size, 0, none⟩ = some (.string s.nm) ∧ W.cell? ⟨w.heap.size, 1, none⟩ = some (.bool false) ∧ W.cell? ⟨w.heap.size + 1, 0, none⟩ = some (.string t.nm) ∧ W.cell? ⟨w.heap.size + 1, 1, none⟩ = some (.bool false)) := fun W h => by
            have := h.s6
            rw [VS.out, VT.out] at this
            exact Lib.hid this
          have HS6' := Lib.hid HS6
          clear HS6
          have H2d := Lib.hid (H2.out.carry (Below.refl _ w2).drew)
          have Q := HS6'.out _ H2d.out
          have HP : Hid (DfPost b m (.slice ol L.length cl) u (kw (wtB L) u s - kw (wtB L) u t) (fun q => (cntL q s.vs : Int) - cntL q t.vs) (s = t) (s.size + t.size) w w2.drew) := Lib.hid (HDF.out _ H2d.out.d H2d.out.fr)
          refine wp_region_noPanic ?_
          refine wp_region_held_drew (S := fun w' => w'.cell? ⟨b, 0, none⟩ = some (.slice ol L.length cl) ∧ w'.cell? ⟨b, 1, none⟩ = some (.int .i64 u) ∧ w'.cell? ⟨w.heap.size, 0, none⟩ = some (.string s.nm) ∧ w'.cell? ⟨w.heap.size, 1, none⟩ = some (.bool false) ∧ w'.cell? ⟨w.heap.size + 1, 0, none⟩ = some (.string t.nm) ∧ w'.cell? ⟨w.heap.size + 1, 1, none⟩ = some (.bool false)) (by kernel_rfl) Q.out (fun _ => ?_)
          simp only [List.size_toArray, List.length_cons, List.length_nil, Nat.reduceAdd]
          refine wpAnyH_take (i := 0) (v := ?_) (by simp only [List.getElem?_toArray, List.getElem?_cons_zero]; rfl) (by kernel_rfl) (by kernel_rfl) (by kernel_rfl) (fun _ _ _ h => h) (Or.inl ⟨by rfl, ?_⟩) Q.out ?_
          case refine_2 => (intro ww hSw; obtain ⟨s1, s2, s3, s4, s5, s6⟩ := hSw; go_simp; try with_reducible rfl)
          try simp only [Act.put, List.setIfInBounds_toArray, List.set_cons_zero, List.set_cons_succ]
          refine wpAnyH_take (i := 1) (v := ?_) (by simp only [List.getElem?_toArray, List.getElem?_cons_zero, List.getElem?_cons_succ]; rfl) (by kernel_rfl) (by kernel_rfl) (by kernel_rfl) (fun _ _ _ h => h) (Or.inl ⟨by rfl, ?_⟩) Q.out ?_
          case refine_2 => (intro ww hSw; obtain ⟨s1, s2, s3, s4, s5, s6⟩ := hSw; go_simp; try with_reducible rfl)
          try simp only [Act.put, List.setIfInBounds_toArray, List.set_cons_zero, List.set_cons_succ]
          refine wpAnyH_take (i := 2) (v := ?_) (by simp only [List.getElem?_toArray, List.getElem?_cons_zero, List.getElem?_cons_succ]; rfl) (by kernel_rfl) (by kernel_rfl) (by kernel_rfl) (fun _ _ _ h => h) (Or.inl ⟨by rfl, ?_⟩) Q.out ?_
          case refine_2 => (intro ww hSw; obtain ⟨s1, s2, s3, s4, s5, s6⟩ := hSw; go_simp; try with_reducible rfl)
          try simp only [Act.put, List.setIfInBounds_toArray, List.set_cons_zero, List.set_cons_succ]
          refine wpAnyH_take (i := 3) (v := ?_) (by simp only [List.getElem?_toArray, List.getElem?_cons_zero, List.getElem?_cons_succ]; rfl) (by kernel_rfl) (by kernel_rfl) (by kernel_rfl) (fun _ _ _ h => h) (Or.inl ⟨by rfl, ?_⟩) Q.out ?_
          case refine_2 => (intro ww hSw; obtain ⟨s1, s2, s3, s4, s5, s6⟩ := hSw; go_simp; try with_reducible rfl)
          try simp only [Act.put, List.setIfInBounds_toArray, List.set_cons_zero, List.set_cons_succ]
          refine wpAnyH_take (i := 4) (v := ?_) (by simp only [List.getElem?_toArray, List.getElem?_cons_zero, List.getElem?_cons_succ]; rfl) (by kernel_rfl) (by kernel_rfl) (by kernel_rfl) (fun _ _ _ h => h) (Or.inl ⟨by rfl, ?_⟩) Q.out ?_
          case refine_2 => (intro ww hSw; obtain ⟨s1, s2, s3, s4, s5, s6⟩ := hSw; go_simp; try with_reducible rfl)
          try simp only [Act.put, List.setIfInBounds_toArray, List.set_cons_zero, List.set_cons_succ]
          refine wpAnyH_take (i := 5) (v := ?_) (by simp only [List.getElem?_toArray, List.getElem?_cons_zero, List.getElem?_cons_succ]; rfl) (by kernel_rfl) (by kernel_rfl) (by kernel_rfl) (fun _ _ _ h => h) (Or.inl ⟨by rfl, ?_⟩) Q.out ?_
          case refine_2 => (intro ww hSw; obtain ⟨s1, s2, s3, s4, s5, s6⟩ := hSw; go_simp; try with_reducible rfl)
          try simp only [Act.put, List.setIfInBounds_toArray, List.set_cons_zero, List.set_cons_succ]
          refine wpAnyH_take (i := 6) (v := ?_) (by simp only [List.getElem?_toArray, List.getElem?_cons_zero, List.getElem?_cons_succ]; rfl) (by kernel_rfl) (by kernel_rfl) (by kernel_rfl) (fun _ _ _ h => h) (Or.inl ⟨by rfl, ?_⟩) Q.out ?_
          case refine_2 => (intro ww hSw; obtain ⟨s1, s2, s3, s4, s5, s6⟩ := hSw; go_simp; try with_reducible rfl)
          try simp only [Act.put, List.setIfInBounds_toArray, List.set_cons_zero, List.set_cons_succ]
          refine wpAnyH_take (i := 7) (v := ?_) (by simp only [List.getElem?_toArray, List.getElem?_cons_zero, List.getElem?_cons_succ]; rfl) (by kernel_rfl) (by kernel_rfl) (by kernel_rfl) (fun _ _ _ h => h) (Or.inl ⟨by rfl, ?_⟩) Q.out ?_
          case refine_2 => (intro ww hSw; obtain ⟨s1, s2, s3, s4, s5, s6⟩ := hSw; go_simp; try with_reducible rfl)
          try simp only [Act.put, List.setIfInBounds_toArray, List.set_cons_zero, List.set_cons_succ]
          refine wpAnyH_take (i := 8) (v := ?_) (by simp only [List.getElem?_toArray, List.getElem?_cons_zero, List.getElem?_cons_succ]; rfl) (by kernel_rfl) (by kernel_rfl) (by kernel_rfl) (fun _ _ _ h => h) (Or.inl ⟨by rfl, ?_⟩) Q.out ?_
          case refine_2 => (intro ww hSw; obtain ⟨s1, s2, s3, s4, s5, s6⟩ := hSw; go_simp; try with_reducible rfl)
          try simp only [Act.put, List.setIfInBounds_toArray, List.set_cons_zero, List.set_cons_succ]
          refine wpAnyH_take (i := 9) (v := ?_) (by simp only [List.getElem?_toArray, List.getElem?_cons_zero, List.getElem?_cons_succ]; rfl) (by kernel_rfl) (by kernel_rfl) (by kernel_rfl) (fun _ _ _ h => h) (Or.inl ⟨by rfl, ?_⟩) Q.out ?_
          case refine_2 => (intro ww hSw; obtain ⟨s1, s2, s3, s4, s5, s6⟩ := hSw; go_simp; try with_reducible rfl)
          try simp only [Act.put, List.setIfInBounds_toArray, List.set_cons_zero, List.set_cons_succ]
          refine wpAnyH_take (i := 10) (v := ?_) (by simp only [List.getElem?_toArray, List.getElem?_cons_zero, List.getElem?_cons_succ]; rfl) (by kernel_rfl) (by kernel_rfl) (by kernel_rfl) (fun _ _ _ h => h) (Or.inl ⟨by rfl, ?_⟩) Q.out ?_
          case refine_2 => (intro ww hSw; obtain ⟨s1, s2, s3, s4, s5, s6⟩ := hSw; go_simp; try with_reducible rfl)
          try simp only [Act.put, List.setIfInBounds_toArray, List.set_cons_zero, List.set_cons_succ]
          refine wpAnyH_take (i := 11) (v := ?_) (by simp only [List.getElem?_toArray, List.getElem?_cons_zero, List.getElem?_cons_succ]; rfl) (by kernel_rfl) (by kernel_rfl) (by kernel_rfl) (fun _ _ _ h => h) (Or.inl ⟨by rfl, ?_⟩) Q.out ?_
          case refine_2 => (intro ww hSw; obtain ⟨s1, s2, s3, s4, s5, s6⟩ := hSw; go_simp; try with_reducible rfl)
          try simp only [Act.put, List.setIfInBounds_toArray, List.set_cons_zero, List.set_cons_succ]
          refine wpAnyH_take (i := 12) (v := ?_) (by simp only [List.getElem?_toArray, List.getElem?_cons_zero, List.getElem?_cons_succ]; rfl) (by kernel_rfl) (by kernel_rfl) (by kernel_rfl) (fun _ _ _ h => h) (Or.inl ⟨by rfl, ?_⟩) Q.out ?_
          case refine_2 => (intro ww hSw; obtain ⟨s1, s2, s3, s4, s5, s6⟩ := hSw; go_simp; try with_reducible rfl)
          try simp only [Act.put, List.setIfInBounds_toArray, List.set_cons_zero, List.set_cons_succ]
          refine wpAnyH_take (i := 15) (v := ?_) (by simp only [List.getElem?_toArray, List.getElem?_cons_zero, List.getElem?_cons_succ]; rfl) (by kernel_rfl) (by kernel_rfl) (by kernel_rfl) (fun _ _ _ h => h) (Or.inl ⟨by rfl, ?_⟩) Q.out ?_
          case refine_2 => (intro ww hSw; obtain ⟨s1, s2, s3, s4, s5, s6⟩ := hSw; go_simp; try with_reducible rfl)
          try simp only [Act.put, List.setIfInBounds_toArray, List.set_cons_zero, List.set_cons_succ]
          refine wpAnyH_take (i := 16) (v := ?_) (by simp only [List.getElem?_toArray, List.getElem?_cons_zero, List.getElem?_cons_succ]; rfl) (by kernel_rfl) (by kernel_rfl) (by kernel_rfl) (fun _ _ _ h => h) (Or.inl ⟨by rfl, ?_⟩) Q.out ?_
          case refine_2 => (intro ww hSw; obtain ⟨s1, s2, s3, s4, s5, s6⟩ := hSw; go_simp; try with_reducible rfl)
          try simp only [Act.put, List.setIfInBounds_toArray, List.set_cons_zero, List.set_cons_succ]
          refine wpAnyH_take (i := 17) (v := ?_) (by simp only [List.getElem?_toArray, List.getElem?_cons_zero, List.getElem?_cons_succ]; rfl) (by kernel_rfl) (by kernel_rfl) (by kernel_rfl) (fun _ _ _ h => h) (Or.inl ⟨by rfl, ?_⟩) Q.out ?_
          case refine_2 => (intro ww hSw; obtain ⟨s1, s2, s3, s4, s5, s6⟩ := hSw; go_simp; try with_reducible rfl)
          try simp only [Act.put, List.setIfInBounds_toArray, List.set_cons_zero, List.set_cons_succ]
          refine wpAnyH_take (i := 18) (v := ?_) (by simp only [List.getElem?_toArray, List.getElem?_cons_zero, List.getElem?_cons_succ]; rfl) (by kernel_rfl) (by kernel_rfl) (by kernel_rfl) (fun _ _ _ h => h) (Or.inl ⟨by rfl, ?_⟩) Q.out ?_
          case refine_2 => (intro ww hSw; obtain ⟨s1, s2, s3, s4, s5, s6⟩ := hSw; go_simp; try with_reducible rfl)
          try simp only [Act.put, List.setIfInBounds_toArray, List.set_cons_zero, List.set_cons_succ]
          refine wpAnyH_take (i := 19) (v := ?_) (by simp only [List.getElem?_toArray, List.getElem?_cons_zero, List.getElem?_cons_succ]; rfl) (by kernel_rfl) (by kernel_rfl) (by kernel_rfl) (fun _ _ _ h => h) (Or.inl ⟨by rfl, ?_⟩) Q.out ?_
          case refine_2 => (intro ww hSw; obtain ⟨s1, s2, s3, s4, s5, s6⟩ := hSw; go_simp; try with_reducible rfl)
          try simp only [Act.put, List.setIfInBounds_toArray, List.set_cons_zero, List.set_cons_succ]
          refine wpAnyH_take (i := 20) (v := ?_) (by simp only [List.getElem?_toArray, List.getElem?_cons_zero, List.getElem?_cons_succ]; rfl) (by kernel_rfl) (by kernel_rfl) (by kernel_rfl) (fun _ _ _ h => h) (Or.inl ⟨by rfl, ?_⟩) Q.out ?_
          case refine_2 => (intro ww hSw; obtain ⟨s1, s2, s3, s4, s5, s6⟩ := hSw; go_simp; try with_reducible rfl)
          try simp only [Act.put, List.setIfInBounds_toArray, List.set_cons_zero, List.set_cons_succ]
          have hfd := rkFld1
          refine wpAnyH_ready (rs := [13]) (by kernel_rfl) (by simp) ?_
          refine AllReadyH.cons (by simp only [List.getElem?_toArray, List.getElem?_cons_zero, List.getElem?_cons_succ]; rfl) (fun K' hK => ?_) AllReadyH.nil
          go_simp
          have hE := entry_any L u s.nm.data.toList (.slice ol L.length cl) _ (HL.out.carry (H2d.out.fr.below hn0 (xd_ge hnb hnm)) (Nat.le_trans hn0 H2d.out.fr.size)) (by have := HW.out.len; omega) HW.out.nms
          rw [kb_key] at hE
          refine hE.mono ?_
          rintro e w3 ⟨rfl, hb3⟩
          have H3 := Lib.hid (H2d.out.carry hb3)
          have Q3 := HS6'.out _ H3.out
          clear hb3 hE
          obtain ⟨p3, hp3⟩ : ∃ p, p = entryOf L s.nm.data.toList := ⟨_, rfl⟩
          rw [← hp3]
          have HP3 : Hid (p3.2.1 = rkB L s.nm) := Lib.hid (by rw [hp3]; rfl)
          clear hp3
          refine hK.out _ _ Q3.out (fun _ => ?_)
          clear hK
          try simp only [Act.put, List.setIfInBounds_toArray, List.set_cons_zero, List.set_cons_succ]
          refine wpAnyH_take (i := 14) (v := ?_) (by simp only [List.getElem?_toArray, List.getElem?_cons_zero, List.getElem?_cons_succ]; rfl) (by kernel_rfl) (by kernel_rfl) (by kernel_rfl) (fun _ _ _ h => h) (Or.inl ⟨by rfl, ?_⟩) Q3.out ?_
          case refine_2 => (intro ww hSw; obtain ⟨s1, s2, s3, s4, s5, s6⟩ := hSw; go_simp; try with_reducible rfl)
          try simp only [Act.put, List.setIfInBounds_toArray, List.set_cons_zero, List.set_cons_succ]
          refine wpAnyH_ready (rs := [21]) (by kernel_rfl) (by simp) ?_
          refine AllReadyH.cons (by simp only [List.getElem?_toArray, List.getElem?_cons_zero, List.getElem?_cons_succ]; rfl) (fun K' hK => ?_) AllReadyH.nil
          go_simp
          have hE := entry_any L u t.nm.data.toList (.slice ol L.length cl) _ (HL.out.carry (H3.out.fr.below hn0 (xd_ge hnb hnm)) (Nat.le_trans hn0 H3.out.fr.size)) (by have := HW.out.len; omega) HW.out.nms
          rw [kb_key] at hE
          refine hE.mono ?_
          rintro e w4 ⟨rfl, hb4⟩
          have H4 := Lib.hid (H3.out.carry hb4)
          have Q4 := HS6'.out _ H4.out
          clear hb4 hE
          obtain ⟨p4, hp4⟩ : ∃ p, p = entryOf L t.nm.data.toList := ⟨_, rfl⟩
          rw [← hp4]
          have HP4 : Hid (p4.2.1 = rkB L t.nm) := Lib.hid (by rw [hp4]; rfl)
          clear hp4
          refine hK.out _ _ Q4.out (fun _ => ?_)
          clear hK
          try simp only [Act.put, List.setIfInBounds_toArray, List.set_cons_zero, List.set_cons_succ]
          refine wpAnyH_take (i := 22) (v := ?_) (by simp only [List.getElem?_toArray, List.getElem?_cons_zero, List.getElem?_cons_succ]; rfl) (by kernel_rfl) (by kernel_rfl) (by kernel_rfl) (fun _ _ _ h => h) (Or.inl ⟨by rfl, ?_⟩) Q4.out ?_
          case refine_2 => (intro ww hSw; obtain ⟨s1, s2, s3, s4, s5, s6⟩ := hSw; go_simp; try with_reducible rfl)
          try simp only [Act.put, List.setIfInBounds_toArray, List.set_cons_zero, List.set_cons_succ]
          refine wpAnyH_take (i := 23) (v := ?_) (by simp only [List.getElem?_toArray, List.getElem?_cons_zero, List.getElem?_cons_succ]; rfl) (by kernel_rfl) (by kernel_rfl) (by kernel_rfl) (fun _ _ _ h => h) (Or.inl ⟨by rfl, ?_⟩) Q4.out ?_
          case refine_2 => (intro ww hSw; obtain ⟨s1, s2, s3, s4, s5, s6⟩ := hSw; go_simp; try with_reducible rfl)
          try simp only [Act.put, List.setIfInBounds_toArray, List.set_cons_zero, List.set_cons_succ]
          refine wpAnyH_take (i := 24) (v := ?_) (by simp only [List.getElem?_toArray, List.getElem?_cons_zero, List.getElem?_cons_succ]; rfl) (by kernel_rfl) (by kernel_rfl) (by kernel_rfl) (fun _ _ _ h => h) (Or.inl ⟨by rfl, ?_⟩) Q4.out ?_
          case refine_2 => (intro ww hSw; obtain ⟨s1, s2, s3, s4, s5, s6⟩ := hSw; go_simp; try with_reducible rfl)
          try simp only [Act.put, List.setIfInBounds_toArray, List.set_cons_zero, List.set_cons_succ]
          refine wpAnyH_take (i := 25) (v := ?_) (by simp only [List.getElem?_toArray, List.getElem?_cons_zero, List.getElem?_cons_succ]; rfl) (by kernel_rfl) (by kernel_rfl) (by kernel_rfl) (fun _ _ _ h => h) (Or.inl ⟨by rfl, ?_⟩) Q4.out ?_
          case refine_2 => (intro ww hSw; obtain ⟨s1, s2, s3, s4, s5, s6⟩ := hSw; go_simp; try with_reducible rfl)
          try simp only [Act.put, List.setIfInBounds_toArray, List.set_cons_zero, List.set_cons_succ]
          refine wpAnyH_done (by kernel_rfl) ?_ _
          refine NoPanic.normal ?_
          clear hfd
          have HP' : Hid (DfPost b m (.slice ol L.length cl) u (kw (wtB L) u s - kw (wtB L) u t) (fun q => (cntL q s.vs : Int) - cntL q t.vs) (s = t) (s.size + t.size) w w4) := Lib.hid (HDF.out _ H4.out.d H4.out.fr)
          by_cases hr : p4.2.1 < p3.2.1
          · have hdr : decide (p4.2.1 < p3.2.1) = true := decide_eq_true hr
            have HK : Hid (ksym (wtB L) (rkB L) u s t = 2) := Lib.hid (ksym_top HNA.out ⟨VS.out, .inr (by rw [← HP3.out, ← HP4.out]; exact hr)⟩)
            go_wp2_with fail
            go_ret
            exact ⟨by rw [HK.out]; rfl, HP'.out⟩
          · have hdr : decide (p4.2.1 < p3.2.1) = false := decide_eq_false hr
            have HK : Hid (ksym (wtB L) (rkB L) u s t = 0) := Lib.hid (ksym_not HNA.out fun h => by have h2 := h.2; rw [VT.out, ← HP3.out, ← HP4.out] at h2; rcases h2 with h2 | h2; cases h2; exact hr h2)
            go_wp2_with fail
            go_ret
            exact ⟨by rw [HK.out]; rfl, HP'.out⟩
end Go.Proofs.YtnomppdmhgefiaaGreat
/- Package weight: compare, isGreater. -/
namespace Go.Proofs.YtnomppdmhgefiaaGreat
open Go.RowKit Go.Shelf Go.Maps

set_option maxRecDepth 100000 in
set_option maxHeartbeats 8000000 in
theorem kcmp_step {L : List Rk} {u : Int} (HW : Hid (WtOk L u)) (n0 b m : Nat) (ol : Option Addr) (cl : Nat) (hnb : n0 ≤ b) (hnm : n0 ≤ m) (N : Nat) (HH : KcH L u n0 b m ol cl N) : KcH L u n0 b m ol cl (N + 1) := by
  intro s t sv tv w hsz hbs hbt hus hut hs ht hn0 hL hD
  obtain ⟨os, cs, rfl, -⟩ := hs.form
  obtain ⟨ot, ct, rfl, -⟩ := ht.form
  have hss := Nat.le_trans (Tm.size_bulk s) hus
  have hst := Nat.le_trans (Tm.size_bulk t) hut
  have HBS := Lib.hid hbs
  have hA : Below w.heap.size w ((w.alloc (.cells #[.string s.nm, .bool s.vr, .slice os s.ts.length cs] 25)).alloc (.cells #[.string t.nm, .bool t.vr, .slice ot t.ts.length ct] 25)) := by go_grown
  have HC := Lib.hid (csyms_any HW n0 b m ol cl hnb hnm N (Lib.hid HH) s t _ _ ((w.alloc (.cells #[.string s.nm, .bool s.vr, .slice os s.ts.length cs] 25)).alloc (.cells #[.string t.nm, .bool t.vr, .slice ot t.ts.length ct] 25)) hsz hbs hbt hus hut (hs.carry (hA.mono hn0) (Nat.le_refl _)) (ht.carry (hA.mono hn0) (Nat.le_refl _)) (Nat.le_trans hn0 hA.size) (hL.carry (hA.mono hn0) (Nat.le_refl _)) (hD.below hA))
  have HA := Lib.hid hA
  clear HH hs ht hL hD hbs hbt hA
  go_enter Tryz.func127, Tryz.ntmps127
  rw [show tmv s (.slice os s.ts.length cs) = .agg #[.string s.nm, .bool s.vr, .slice os s.ts.length cs] from rfl, show tmv t (.slice ot t.ts.length ct) = .agg #[.string t.nm, .bool t.vr, .slice ot t.ts.length ct] from rfl]
  go_wp2_with fail
  refine HC.out.mono ?_
  rintro e w1 ⟨rfl, M, hd, hv, hb, hm, hf⟩
  obtain ⟨⟨-, -, x2, -, x4⟩, -⟩ := box5 hd.box
  have HLK := Lib.hid (covers_iff hd.map.nodup hv)
  have HP : Hid (DfPost b m (.slice ol L.length cl) u (kw (wtB L) u s - kw (wtB L) u t) (fun q => (cntL q s.vs : Int) - cntL q t.vs) (s = t) (s.size + t.size) w w1) := Lib.hid ⟨M, hd, hv, hb, hm, (FrX.of_below HA.out).trans hf⟩
  clear hd hv hb hm hf HC HA
  by_cases he : s = t
  · have HK : Hid (krel (wtB L) (rkB L) u s t = 1) := Lib.hid (by subst he; exact krel_self s)
    have hd : (ksym (wtB L) (rkB L) u s t == 1) = true := by subst he; rw [ksym_self]; rfl
    clear he
    go_wp2_with fail
    go_ret
    exact ⟨by rw [HK.out]; rfl, HP.out⟩
  · have hd : (ksym (wtB L) (rkB L) u s t == 1) = false := by rw [beq_eq_false_iff_ne]; exact fun h => he (ksym_one h)
    have HE := Lib.hid he
    clear he
    generalize hdw : kw (wtB L) u s - kw (wtB L) u t = dw at x2 HP ⊢
    have HDW := Lib.hid hdw
    clear hdw
    by_cases hl : 0 < lackN M
    · have hdl : decide (0 < ((lackN M : Nat) : Int)) = true := decide_eq_true (by omega)
      have HK : Hid (krel (wtB L) (rkB L) u s t = 0) := Lib.hid (krel_light HE.out (.inl fun h => by have := HLK.out.2 h; omega))
      go_wp2_with fail
      go_ret
      exact ⟨by rw [HK.out]; rfl, by have h := HP.out; rw [← HDW.out] at h; exact h⟩
    · have hdl : decide (0 < ((lackN M : Nat) : Int)) = false := decide_eq_false (by omega)
      have HCV := Lib.hid (HLK.out.1 (by omega))
      by_cases hw : dw < 0
      · have hdw : decide (dw < 0) = true := decide_eq_true hw
        have HK : Hid (krel (wtB L) (rkB L) u s t = 0) := Lib.hid (krel_light HE.out (.inr (by have := HDW.out; omega)))
        go_wp2_with fail
        go_ret
        exact ⟨by rw [HK.out]; rfl, by have h := HP.out; rw [← HDW.out] at h; exact h⟩
      · have hdw : decide (dw < 0) = false := decide_eq_false hw
        by_cases hw2 : 0 < dw
        · have hdw2 : decide (0 < dw) = true := decide_eq_true hw2
          have HK : Hid (krel (wtB L) (rkB L) u s t = 2) := Lib.hid (krel_heavy HCV.out (by have := HDW.out; omega))
          go_wp2_with fail
          go_ret
          exact ⟨by rw [HK.out]; rfl, by have h := HP.out; rw [← HDW.out] at h; exact h⟩
        · have hdw2 : decide (0 < dw) = false := decide_eq_false hw2
          have HK : Hid (krel (wtB L) (rkB L) u s t = ksym (wtB L) (rkB L) u s t) := Lib.hid (krel_even HBS.out HE.out HCV.out (by have := HDW.out; omega))
          go_wp2_with fail
          go_ret
          exact ⟨by rw [HK.out]; rfl, by have h := HP.out; rw [← HDW.out] at h; exact h⟩
theorem kcmp_any {L : List Rk} {u : Int} (HW : Hid (WtOk L u)) (n0 b m : Nat) (ol : Option Addr) (cl : Nat) (hnb : n0 ≤ b) (hnm : n0 ≤ m) (N : Nat) : KcH L u n0 b m ol cl N := by
  induction N with
  | zero => intro s t sv tv w h; omega
  | succ N ih => exact kcmp_step HW n0 b m ol cl hnb hnm N ih
set_option maxRecDepth 100000 in
set_option maxHeartbeats 8000000 in
theorem wisGreater_any {L : List Rk} {u : Int} (HW : Hid (WtOk L u)) (lv : Value) (s t : Tm) (sv tv : Value) (w : World) (hL : RksIs w.heap.size w L lv) (hs : SlIs w.heap.size w s.ts sv) (ht : SlIs w.heap.size w t.ts tv) (hbs : s.bare) (hbt : t.bare) (hus : s.bulk ≤ 1048576) (hut : t.bulk ≤ 1048576) :
    Calls Tryz.prog 69 #[orv lv u, tmv s sv, tmv t tv] w fun e w' => e = .returned (.bool (krel (wtB L) (rkB L) u s t == 2)) ∧ Below w.heap.size w w' := by
  obtain ⟨os, cs, rfl, -⟩ := hs.form
  obtain ⟨ot, ct, rfl, -⟩ := ht.form
  have hL' := hL
  obtain ⟨ol, cl, rfl, -, -⟩ := hL'
  have HS := Lib.hid hs
  have HT := Lib.hid ht
  have HL := Lib.hid hL
  have HBS := Lib.hid hbs
  have HBT := Lib.hid hbt
  clear hs ht hL hbs hbt
  have hmm := @run_makeMap Tryz.prog
  go_enter Tryz.func69, Tryz.ntmps69
  rw [show tmv s (.slice os s.ts.length cs) = .agg #[.string s.nm, .bool s.vr, .slice os s.ts.length cs] from rfl, show tmv t (.slice ot t.ts.length ct) = .agg #[.string t.nm, .bool t.vr, .slice ot t.ts.length ct] from rfl, show orv (.slice ol L.length cl) u = .agg #[.slice ol L.length cl, .int .i64 u] from rfl]
  go_wp2_with fail
  clear hmm
  have hB0 : Below w.heap.size w (((((w.alloc (.cells #[.slice ol L.length cl, .int .i64 u] 132)).alloc (.cells #[.string s.nm, .bool s.vr, .slice os s.ts.length cs] 25)).alloc (.cells #[.string t.nm, .bool t.vr, .slice ot t.ts.length ct] 25)).alloc (.map #[] 0)).alloc (.cells #[.slice ol L.length cl, .int .i64 u, .int .i64 0, .map (some (w.heap.size + 1 + 1 + 1)), .int .i64 0] 191)) := by go_grown
  have hd : DIs (w.heap.size + 1 + 1 + 1 + 1) (w.heap.size + 1 + 1 + 1) (.slice ol L.length cl) u 0 [] (((((w.alloc (.cells #[.slice ol L.length cl, .int .i64 u] 132)).alloc (.cells #[.string s.nm, .bool s.vr, .slice os s.ts.length cs] 25)).alloc (.cells #[.string t.nm, .bool t.vr, .slice ot t.ts.length ct] 25)).alloc (.map #[] 0)).alloc (.cells #[.slice ol L.length cl, .int .i64 u, .int .i64 0, .map (some (w.heap.size + 1 + 1 + 1)), .int .i64 0] 191)) := by
    refine ⟨heap_new_at _ _ _ (by simp), ?_⟩
    have h := HMap.made (enc := encI) (((w.alloc (.cells #[.slice ol L.length cl, .int .i64 u] 132)).alloc (.cells #[.string s.nm, .bool s.vr, .slice os s.ts.length cs] 25)).alloc (.cells #[.string t.nm, .bool t.vr, .slice ot t.ts.length ct] 25))
    simp only [World.size_alloc] at h
    exact h.kept (Below.heap_alloc _ _ _ (by simp))
  refine (kcmp_any HW w.heap.size (w.heap.size + 1 + 1 + 1 + 1) (w.heap.size + 1 + 1 + 1) ol cl (by omega) (by omega) (s.size + t.size + 1) s t _ _ _ (by omega) HBS.out HBT.out hus hut (HS.out.carry hB0 (Nat.le_refl _)) (HT.out.carry hB0 (Nat.le_refl _)) hB0.size (HL.out.carry hB0 (Nat.le_refl _)) hd).mono ?_
  rintro e w1 ⟨rfl, M, -, -, -, -, hf⟩
  have HB1 := Lib.hid (hB0.trans (hf.below hB0.size (xd_ge (by omega) (by omega))))
  clear hB0 hd hf
  go_wp2_with fail
  go_ret
  exact ⟨rfl, HB1.out⟩
end Go.Proofs.YtnomppdmhgefiaaGreat
