/- For every system, every term and every row of steps with a number the law RewriteOrders returns true and leaves its arguments as they were.
   CONDITIONS: what comes in holds together at most 1048576 values and letters. -/
import Derived.WalkKit
import Derived.ProofKit
import Derived.OpenShut
import Derived.Handy
import Derived.Lib.Hide
import Derived.Deep.RegionHeld3
import Derived.Deep.DeepCutAuto
import Derived.Test.YtamddagmlanijaaGreatP18
import Derived.Test.YtamddagmlanijaaGreatP32
import Derived.JoinedCond
import Derived.ChangeSlices
import Derived.Test.YtamddagmlanijaaGreatP01
import Derived.Test.YtamddagmlanijaaGreatP16
/- The law RewriteOrders. -/
namespace Go.Proofs.YtamddagmlanijaaGreat
open Go.RowKit
/-- terms that do not lie in block n0 -/
def OvS (n0 : Nat) (W : World) (l : List Tm) (v : Value) : Prop := SlP (fun b => b ≠ n0 ∧ b < W.heap.size) W l v
theorem OvS.keep {n0 : Nat} {A W : World} {l : List Tm} {v : Value} (h : OvS n0 A l v) (hb : Below A.heap.size A W) : OvS n0 W l v := SlP.carry (fun b hb' => ⟨hb.block b hb'.2, hb'.1, Nat.lt_of_lt_of_le hb'.2 hb.size⟩) h
theorem OvS.is {n0 : Nat} {W : World} {l : List Tm} {v : Value} (h : OvS n0 W l v) : SlIs W.heap.size W l v := SlP.toIs h fun _ hb => hb.2
theorem OvS.form {n0 : Nat} {W : World} {l : List Tm} {v : Value} (h : OvS n0 W l v) : ∃ oa cap, v = .slice oa l.length cap := SlP.form h
/-- a formed term's arguments do not lie in a zero term's box -/
theorem SlP.notin {q : Nat → Prop} {c : Nat} {W : World} {l : List Tm} {s : Value} (h : SlP q W l s) (hc : W.heap[c]? = some (.cells #[.string ⟨#[]⟩, .bool false, .slice none 0 0] 25 (0, 0))) (hf : ∀ u ∈ l, u.formed) : SlP (fun b => q b ∧ b ≠ c) W l s := by
  induction h with
  | nil0 => exact .nil0
  | nil1 a cap => exact .nil1 a cap
  | row b o cap l s hl hb hcap cells hk hfz ih =>
    refine .row b o cap l s hl ⟨hb, ?_⟩ hcap cells (fun i t ht => ih i t ht fun u hu => ((Tm.formed_iff t).1 (hf t (List.mem_of_getElem? ht))).2 u hu) hfz
    rintro rfl
    obtain ⟨t, ht⟩ : ∃ t, l[0]? = some t := by cases l with
      | nil => exact absurd rfl hl
      | cons t l => exact ⟨t, rfl⟩
    have h1 := (cells 0 t ht).1
    rw [cells_of' hc] at h1
    have hn : t.nm ≠ ⟨#[]⟩ := fun e => by
      have h2 := ((Tm.formed_iff t).1 (hf t (List.mem_of_getElem? ht))).1
      rw [e] at h2
      unfold nodeOk at h2
      split at h2
      · rw [show isName ⟨#[]⟩ false = false by decide] at h2; simp at h2
      · rw [show isName ⟨#[]⟩ true = false by decide] at h2; simp at h2
    rcases o with _ | _ | _ | o
    · simp only [Nat.zero_add, Nat.zero_mul, List.getElem?_toArray, List.getElem?_cons_zero, Option.some.injEq, Value.string.injEq] at h1; exact hn h1.symm
    · simp at h1
    · simp at h1
    · simp at h1
theorem OvS.setz {n0 : Nat} {W : World} {l : List Tm} {v : Value} {p : Nat} (h : OvS n0 W l v) (hc : W.heap[p]? = some zeroBx) (hf : ∀ u ∈ l, u.formed) (x y z : Value) : OvS n0 (((W.setCell ⟨p, 0, none⟩ x).setCell ⟨p, 1, none⟩ y).setCell ⟨p, 2, none⟩ z) l v :=
  (SlP.notin h hc hf).carry fun b hb => ⟨heap_set3 _ _ _ _ _ _ hb.2, hb.1.1, by have := hb.1.2; simp [World.setCell]; omega⟩
/-- written over block n0 itself -/
theorem OvS.set0 {n0 : Nat} {W : World} {l : List Tm} {v : Value} (h : OvS n0 W l v) (x y z : Value) : OvS n0 (((W.setCell ⟨n0, 0, none⟩ x).setCell ⟨n0, 1, none⟩ y).setCell ⟨n0, 2, none⟩ z) l v :=
  SlP.carry (fun _ hb => ⟨heap_set3 _ _ _ _ _ _ hb.1, hb.1, by have := hb.2; simp [World.setCell]; omega⟩) h
/-- a step's answer -/
def StN (n0 : Nat) (R : List RlV) (T : Tm) (rule : Int) (ps : List Int) (w : World) (v : Value) : Prop := ∃ (y : Tm) (k : Int) (o : Option Addr) (n c : Nat), v = .tuple #[.agg #[.string y.nm, .bool y.vr, .slice o n c], .int .i64 k] ∧ OvS n0 w y.ts (.slice o n c) ∧ StepPost R T rule ps y k
/-- .. in a box -/
def StNB (n0 : Nat) (R : List RlV) (T : Tm) (rule : Int) (ps : List Int) (w : World) (p : Nat) (v : Value) : Prop := ∃ (y : Tm) (k : Int) (o : Option Addr) (n c : Nat), v = .tuple #[.agg #[.string y.nm, .bool y.vr, .slice o n c], .int .i64 k] ∧ (w.heap[p]? = some (.cells #[.string y.nm, .bool y.vr, .slice o n c] 25 (0, 0)) ∧ OvS n0 w y.ts (.slice o n c)) ∧ StepPost R T rule ps y k
theorem StN.keep {n0 : Nat} {R : List RlV} {T : Tm} {rule : Int} {ps : List Int} {A W : World} {v : Value} (h : StN n0 R T rule ps A v) (hb : Below A.heap.size A W) : StN n0 R T rule ps W v := by
  obtain ⟨y, k, o, n, c, e, h1, h2⟩ := h
  exact ⟨y, k, o, n, c, e, h1.keep hb, h2⟩
theorem StNB.keep {n0 : Nat} {R : List RlV} {T : Tm} {rule : Int} {ps : List Int} {A W : World} {p : Nat} {v : Value} (h : StNB n0 R T rule ps A p v) (hb : Below A.heap.size A W) : StNB n0 R T rule ps W p v := by
  obtain ⟨y, k, o, n, c, e, ⟨h0, h1⟩, h2⟩ := h
  exact ⟨y, k, o, n, c, e, ⟨(hb.block p (Array.getElem?_eq_some_iff.1 h0).1).trans h0, h1.keep hb⟩, h2⟩
theorem StepPost.fts {R : List RlV} {T : Tm} {rule : Int} {ps : List Int} {y : Tm} {k : Int} (h : StepPost R T rule ps y k) : ∀ u ∈ y.ts, u.formed := by
  by_cases e : k = 0
  · exact ((Tm.formed_iff _).1 (h.zero e).2.2.1.1).2
  · rw [h.none_ e]; intro u hu; cases hu
/-- between the rounds: the term so far in its box, the answer of Parallel in its own -/
structure OrSt (n0 px : Nat) (w W : World) (T : Tm) (sT lv : Value) (F : Nat) (x : Tm) (sx : Value) : Prop where
  tb : W.heap[n0]? = some (.cells #[.string T.nm, .bool T.vr, sT] 25 (0, 0))
  qb : W.heap[n0 + 1]? = some (.cells #[lv, .int .u8 F] 28 (0, 0))
  xb : W.heap[px]? = some (.cells #[.string x.nm, .bool x.vr, sx] 25 (0, 0))
  tis : OvS n0 W T.ts sT
  xis : OvS n0 W x.ts sx
  low : Below n0 w W
  ne : n0 + 1 < px
theorem OrSt.carry {n0 px : Nat} {w A W : World} {T : Tm} {sT lv : Value} {F : Nat} {x : Tm} {sx : Value} (h : OrSt n0 px w A T sT lv F x sx) (hb : Below A.heap.size A W) : OrSt n0 px w W T sT lv F x sx :=
  ⟨(hb.block _ (Array.getElem?_eq_some_iff.1 h.tb).1).trans h.tb, (hb.block _ (Array.getElem?_eq_some_iff.1 h.qb).1).trans h.qb, (hb.block _ (Array.getElem?_eq_some_iff.1 h.xb).1).trans h.xb, h.tis.keep hb, h.xis.keep hb, h.low.trans (hb.mono (by have := (Array.getElem?_eq_some_iff.1 h.tb).1; omega)), h.ne⟩
theorem OrSt.next {n0 px : Nat} {w W : World} {T y : Tm} {sT sy lv : Value} {F : Nat} {x : Tm} {sx : Value} (h : OrSt n0 px w W T sT lv F x sx) (hy : OvS n0 W y.ts sy) : OrSt n0 px w (((W.setCell ⟨n0, 0, none⟩ (.string y.nm)).setCell ⟨n0, 1, none⟩ (.bool y.vr)).setCell ⟨n0, 2, none⟩ sy) y sy lv F x sx :=
  ⟨box3_set h.tb _ _ _, (heap_set3 _ _ _ _ _ _ (by omega)).trans h.qb, (heap_set3 _ _ _ _ _ _ (by have := h.ne; omega)).trans h.xb, hy.set0 _ _ _, h.xis.set0 _ _ _, below_set3 h.low (Nat.le_refl _) _ _ _, h.ne⟩
structure Cp9 (n0 : Nat) (w0 : World) (R : List RlV) (T : Tm) (sT rv lv : Value) (F kk : Nat) (rule : Int) (pos : List Int) (pv : Value) (bl ol : Nat) (f : Nat → Bool) (w : World) (v40 v41 v42 v43 v44 v45 v46 v39 v47 v48 v12 v13 : Value) : Prop where
  low : Below w0.heap.size w0 w
  f0 : f 0 = true → v40 = rv
  f1 : f 1 = true → v41 = (.agg #[.string T.nm, .bool T.vr, sT])
  f2 : f 2 = true → v42 = lv
  f3 : f 3 = true → v43 = (.int .i64 (kk : Int))
  f4 : f 4 = true → v44 = (.pointer (some ⟨bl, ol + kk * 2, none⟩))
  f5 : f 5 = true → v45 = (.agg #[.int .i64 rule, pv])
  f6 : f 6 = true → StN n0 R T rule pos w v46
  f7 : f 7 = true → f 6 = true ∧ v39 = v46
  f8 : f 8 = true → f 6 = true ∧ ∃ a b, v46 = .tuple #[a, b] ∧ v47 = a
  f9 : f 9 = true → f 6 = true ∧ ∃ a b, v46 = .tuple #[a, b] ∧ v48 = b
  f10 : f 10 = true → ∃ p, v12 = ptr p ∧ w0.heap.size ≤ p ∧ p < w.heap.size ∧ (f 11 = false → w.heap[p]? = some zeroBx) ∧ (f 11 = true → StNB n0 R T rule pos w p v46)
  f12 : f 12 = true → f 9 = true ∧ v13 = v48
  o11 : f 11 = true → f 10 = true ∧ f 6 = true
theorem Cp9.keep {n0 : Nat} {w0 : World} {R : List RlV} {T : Tm} {sT rv lv : Value} {F kk : Nat} {rule : Int} {pos : List Int} {pv : Value} {bl ol : Nat} {A W : World} {f : Nat → Bool} {v40 v41 v42 v43 v44 v45 v46 v39 v47 v48 v12 v13 : Value} (h : Cp9 n0 w0 R T sT rv lv F kk rule pos pv bl ol f A v40 v41 v42 v43 v44 v45 v46 v39 v47 v48 v12 v13) (hb : Below A.heap.size A W) : Cp9 n0 w0 R T sT rv lv F kk rule pos pv bl ol f W v40 v41 v42 v43 v44 v45 v46 v39 v47 v48 v12 v13 :=
  ⟨h.low.trans (hb.mono h.low.size),
   h.f0,
   h.f1,
   h.f2,
   h.f3,
   h.f4,
   h.f5,
   fun k => (h.f6 k).keep hb,
   h.f7,
   h.f8,
   h.f9,
   fun k => by obtain ⟨p, h1, h2, h3, h4, h5⟩ := h.f10 k; exact ⟨p, h1, h2, Nat.lt_of_lt_of_le h3 hb.size, fun e => (hb.block p h3).trans (h4 e), fun e => (h5 e).keep hb⟩,
   h.f12,
   h.o11⟩
def Cp9nv (n0 : Nat) (w0 : World) (R : List RlV) (T : Tm) (sT rv lv : Value) (F kk : Nat) (rule : Int) (pos : List Int) (pv : Value) (bl ol : Nat) (z : Nat → Value) (f : Nat → Bool) (a : Act) (w : World) : Prop :=
  ∃ v40 v41 v42 v43 v44 v45 v46 v39 v47 v48 v12 v13, a = { tmps := #[rv, z 1, z 2, z 3, .pointer (some ⟨n0, 0, none⟩), .pointer (some ⟨n0 + 1, 0, none⟩), z 6, lv, z 8, z 9, z 10, .int .i64 (kk : Int), v12, v13, z 14, z 15, z 16, z 17, z 18, z 19, z 20, z 21, z 22, z 23, z 24, z 25, z 26, z 27, z 28, z 29, z 30, z 31, z 32, z 33, z 34, z 35, z 36, z 37, z 38, v39, v40, v41, v42, v43, v44, v45, v46, v47, v48, z 49, z 50, z 51, z 52, z 53, z 54, z 55, z 56, z 57, z 58, z 59, z 60, z 61, z 62, z 63], defers := [] } ∧ Cp9 n0 w0 R T sT rv lv F kk rule pos pv bl ol f w v40 v41 v42 v43 v44 v45 v46 v39 v47 v48 v12 v13
set_option maxRecDepth 100000 in
set_option maxHeartbeats 16000000 in
theorem rewriteOrders_any (R : List RlV) (rv : Value) (t : Tm) (tv : Value) (l : List Stp) (lv : Value) (F : Nat) (w : World) (hR : RulV w.heap.size w R rv) (hRl : R.length ≤ 1048576) (hRb : ∀ x ∈ sidesV R, x.1.bulk ≤ 1048576)
    (ht : SlIs w.heap.size w t.ts tv) (htb : t.bulk ≤ 1048576) (hl : StpsIs w.heap.size w l lv) (hll : l.length ≤ 1048576) (hF : F < 256) :
    Calls Tryz.prog 3 #[rv, .agg #[.string t.nm, .bool t.vr, tv], .agg #[lv, .int .u8 F]] w fun e w' => e = .returned (.bool true) ∧ Below w.heap.size w w' := by
  obtain ⟨orr, cr, rfl⟩ := hR.shape
  obtain ⟨ot, ct, rfl, -⟩ := ht.form
  obtain ⟨ol, cl, rfl, -, -⟩ := id hl
  have HT := Lib.hid ht
  have HL := Lib.hid hl
  have HST : Hid (∀ (W : World) (T : Tm) (sT : Value) (rule : Int) (ps : List Int) (v : Value), Below w.heap.size w W → SlIs W.heap.size W T.ts sT → T.bulk ≤ 1048576 → PosC W.heap.size W ps v → ps.length ≤ 1048576 → Calls Tryz.prog 13 #[.slice orr R.length cr, .agg #[.string T.nm, .bool T.vr, sT], .agg #[.int .i64 rule, v]] W fun e w' => ∃ u k, TmFr W w' e u k ∧ StepPost R T rule ps u k) := Lib.hid fun W T sT rule ps v hW h1 h2 h3 h4 => rwstep_new R _ T sT rule ps v W (hR.carry hW hW.size) h1 h3 hRl hRb h2 h4
  have HAL : Hid (∀ W, Below w.heap.size w W → Calls Tryz.prog 12 #[] W fun e w' => e = .returned (.bool true) ∧ Below w.heap.size w w') := Lib.hid fun W hW => (alive_any W).mono fun e w' h => ⟨h.1, hW.trans (h.2.mono hW.size)⟩
  have HPA : Hid (∀ W, Below w.heap.size w W → Calls Tryz.prog 11 #[.slice orr R.length cr, .agg #[.string t.nm, .bool t.vr, .slice ot t.ts.length ct], .slice ol l.length cl] W fun e w' => ∃ u k, TmFr W w' e u k ∧ ParPost R t l u k) := Lib.hid fun W hW => rwpar_any R _ t _ l _ W (hR.carry hW hW.size) (ht.carry hW hW.size) (hl.carry hW hW.size) hRl hRb htb hll
  clear hR ht hl hRb
  go_enter Tryz.func3, Tryz.ntmps3
  go_wp2_with fail
  have hA : Below w.heap.size w ((w.alloc (.cells #[.string t.nm, .bool t.vr, .slice ot t.ts.length ct] 25)).alloc (.cells #[.slice ol l.length cl, .int .u8 F] 28)) := by go_grown
  have ha0 : ((w.alloc (.cells #[.string t.nm, .bool t.vr, .slice ot t.ts.length ct] 25)).alloc (.cells #[.slice ol l.length cl, .int .u8 F] 28)).heap[w.heap.size]? = some (.cells #[.string t.nm, .bool t.vr, .slice ot t.ts.length ct] 25 (0, 0)) := (Below.heap_alloc _ _ _ (by simp)).trans (heap_new_at _ _ _ rfl)
  have ha1 : ((w.alloc (.cells #[.string t.nm, .bool t.vr, .slice ot t.ts.length ct] 25)).alloc (.cells #[.slice ol l.length cl, .int .u8 F] 28)).heap[w.heap.size + 1]? = some (.cells #[.slice ol l.length cl, .int .u8 F] 28 (0, 0)) := heap_new_at _ _ _ (by simp)
  refine (HPA.out _ hA).mono ?_
  rintro e w1 ⟨u, k, ⟨⟨su, rfl, hsu⟩, hb⟩, hpost⟩
  obtain ⟨ou, cu, rfl⟩ := hsu.form
  dsimp only [tmv]
  have hz1 := hb.size
  simp only [World.size_alloc] at hz1
  have HM1 : Hid (OrSt w.heap.size w1.heap.size w (w1.alloc (.cells #[.string u.nm, .bool u.vr, .slice ou u.ts.length cu] 25)) t (.slice ot t.ts.length ct) (.slice ol l.length cl) F u (.slice ou u.ts.length cu)) := Lib.hid
    ⟨(Below.heap_alloc _ _ _ (by omega)).trans ((hb.block _ (by simp; omega)).trans ha0), (Below.heap_alloc _ _ _ (by omega)).trans ((hb.block _ (by simp)).trans ha1), heap_new_at _ _ _ rfl,
     HT.out.toP.carry fun b hb' => ⟨((hA.trans (hb.mono hA.size)).alloc (by omega) _).block b hb', by omega, by simp; omega⟩,
     hsu.carry fun b hb' => ⟨Below.heap_alloc _ _ _ hb'.2, by have := hb'.1; simp at this; omega, by have := hb'.2; simp; omega⟩, (hA.trans (hb.mono hA.size)).alloc (by omega) _, by omega⟩
  have HPO := Lib.hid hpost
  clear hA ha0 ha1 hb hsu hpost
  by_cases hk0 : k = 0
  rotate_left
  · have hk1 : (k == 0) = false := by simpa using hk0
    have hk2 : (k != 0) = true := by simpa using hk0
    clear hk0
    go_wp2_with fail
    refine (HAL.out _ HM1.out.low).mono ?_
    rintro e w9 ⟨rfl, hb⟩
    go_wp2_with fail
    go_ret
    exact ⟨rfl, hb⟩
  subst hk0
  obtain ⟨hsys, hto, huo, hpar, hsome, hue⟩ := HPO.out.zero rfl
  have HSYS := Lib.hid hsys
  have HTO := Lib.hid hto
  have HUO := Lib.hid huo
  have HPAR := Lib.hid hpar
  have HSOME := Lib.hid hsome
  have HUE := Lib.hid hue
  clear hsys hto huo hpar hsome hue HPO
  go_wp2_with fail
  have hpx : w.heap.size + 1 < w1.heap.size := HM1.out.ne
  go_loopw [28] (fun i wr => ∃ (k : Nat) (sT : Value), k ≤ l.length ∧ i = .int .i64 k ∧ Hid (OrSt w.heap.size w1.heap.size w wr (((rot (F % l.length) l).take k).foldl (ptStep R t) t) sT (.slice ol l.length cl) F u (.slice ou u.ts.length cu)) ∧ Hid (((rot (F % l.length) l).take k).foldl (ptStep R t) t).ok) (fun i _ => l.length - (intOf i).toNat)
  case atStart => exact ⟨0, _, by omega, rfl, HM1, HTO⟩
  case round =>
    obtain ⟨k, sT, hk, rfl, HM, HOK⟩ := hrel
    clear HM1
    by_cases hlt : k < l.length
    · have hn0 : ¬ ((l.length : Int) = 0) := by omega
      have hf1 : wr.cell? ⟨w.heap.size + 1, 1, none⟩ = some (.int .u8 F) := cells_of' HM.out.qb 1
      have hkk : ((k : Int) + (F : Int)) % (l.length : Int) = (((k + F) % l.length : Nat) : Int) := by push_cast; rfl
      have hkl : (k + F) % l.length < l.length := Nat.mod_lt _ (by omega)
      have HAT : Hid ((rot (F % l.length) l)[k]? = l[(k + F) % l.length]?) := Lib.hid (by rw [rot_at (Nat.mod_lt _ (by omega)) hlt, Nat.add_mod_mod])
      go_wp2_with fail
      rw [hkk]
      clear hkk hf1
      generalize (k + F) % l.length = kk at *
      obtain ⟨bl, oo, p, ov, cv, rfl, hbn, hpk, c0, c1, hpos, hpl⟩ := HL.out.get hkl
      obtain ⟨rule, pos⟩ := p
      simp only at c0 c1 hpos hpl
      have HSTEP : Hid (stepR R (((rot (F % l.length) l).take k).foldl (ptStep R t) t) rule pos = some (((rot (F % l.length) l).take (k + 1)).foldl (ptStep R t) t)) := Lib.hid (seq_step (s := (rule, pos)) (HPAR.out.perm (rot_perm _ l)) (fun s hs => HSOME.out s ((rot_perm _ l).mem_iff.1 hs)) (HAT.out.trans hpk))
      generalize ((rot (F % l.length) l).take k).foldl (ptStep R t) t = T at *
      obtain ⟨T1, hT1⟩ : ∃ T1, ((rot (F % l.length) l).take (k + 1)).foldl (ptStep R t) t = T1 := ⟨_, rfl⟩
      rw [hT1] at HSTEP
      have HT1 := Lib.hid hT1
      clear hT1
      obtain ⟨oT, cT, rfl⟩ := HM.out.tis.form
      have HTC : Hid (∀ W, Below wr.heap.size wr W → W.cell? ⟨w.heap.size, 0, none⟩ = some (.string T.nm) ∧ W.cell? ⟨w.heap.size, 1, none⟩ = some (.bool T.vr) ∧ W.cell? ⟨w.heap.size, 2, none⟩ = some (.slice oT T.ts.length cT)) := Lib.hid fun W hW => (box3 (HM.out.carry hW).tb).1
      have HSC : Hid (∀ W, Below wr.heap.size wr W → W.cell? ⟨bl, oo + kk * 2, none⟩ = some (.int .i64 rule) ∧ W.cell? ⟨bl, oo + kk * 2 + 1, none⟩ = some (.slice ov pos.length cv)) := Lib.hid fun W hW => ⟨((HM.out.carry hW).low.cell (p := ⟨bl, _, none⟩) hbn).trans c0, ((HM.out.carry hW).low.cell (p := ⟨bl, _, none⟩) hbn).trans c1⟩
      have HSW : Hid (∀ W, Below wr.heap.size wr W → Calls Tryz.prog 13 #[.slice orr R.length cr, .agg #[.string T.nm, .bool T.vr, .slice oT T.ts.length cT], .agg #[.int .i64 rule, .slice ov pos.length cv]] W fun e w' => ∃ u k, TmFr W w' e u k ∧ StepPost R T rule pos u k) := Lib.hid fun W hW => HST.out W T _ rule pos _ (HM.out.carry hW).low (HM.out.carry hW).tis.is (by have := HOK.out.bulk; omega) (hpos.carry (HM.out.carry hW).low (HM.out.carry hW).low.size) hpl
      have HN0 : Hid (∀ (W W' : World) (y : List Tm) (sl : Value), Below wr.heap.size wr W → SlP (fun b => W.heap.size ≤ b ∧ b < W'.heap.size) W' y sl → OvS w.heap.size W' y sl) := Lib.hid fun W W' y sl hW hs => hs.carry fun b hb => ⟨rfl, by have := hW.size; have := (Array.getElem?_eq_some_iff.1 HM.out.tb).1; have := hb.1; omega, hb.2⟩
      have hkr : (kk : Int) < (l.length : Int) := by omega
      clear hpk hpos c0 c1 HAT
      refine wp_region_invE (Cp9nv w.heap.size wr R T (.slice oT T.ts.length cT) (.slice orr R.length cr) (.slice (some ⟨bl, oo, none⟩) l.length cl) F kk rule pos (.slice ov pos.length cv) bl oo) (by kernel_rfl) (by kernel_rfl) ?h0 ?hend ?hstep
      case h0 => exact ⟨_, _, _, _, _, _, _, _, _, _, _, _, rfl, (Below.refl _ wr).drew, nofun, nofun, nofun, nofun, nofun, nofun, nofun, nofun, nofun, nofun, nofun, nofun, nofun⟩
      case hend =>
        rintro z f a W9 HZ ⟨v40, v41, v42, v43, v44, v45, v46, v39, v47, v48, v12, v13, rfl, h⟩ hall
        obtain ⟨p, rfl, hp0, -, -, h5⟩ := h.f10 (hall 10 (by simp))
        obtain ⟨y, c, yo, yn, yc, rfl, hbx, hpost⟩ := h5 (hall 11 (by simp))
        obtain ⟨-, rfl⟩ := h.f12 (hall 12 (by simp))
        obtain ⟨-, a1, b1, e1, rfl⟩ := h.f9 (hall 9 (by simp))
        cases e1
        have HM9 := Lib.hid (HM.out.carry h.low)
        have HBX := Lib.hid hbx
        have HPO := Lib.hid hpost
        clear h h5 hall hbx hpost
        have hz := HZ.out
        clear HZ
        subst hz
        by_cases hc : c = 0
        · subst hc
          have hy : y = T1 := by
            have h1 := (HPO.out.zero rfl).2.2.2
            rw [HSTEP.out] at h1
            exact (Option.some.inj h1).symm
          have HY := Lib.hid hy
          clear hy
          obtain ⟨⟨x0, x1, x2⟩, -⟩ := box3 HBX.out.1
          obtain ⟨⟨t0, t1, t2⟩, g0, g1, g2⟩ := box3 HM9.out.tb
          have q1 : ¬ (p = w.heap.size) := by have := (Array.getElem?_eq_some_iff.1 HM.out.tb).1; omega
          have q2 : ¬ (w.heap.size = p) := fun e => q1 e.symm
          unfold ptr
          go_wp2_with fail
          have h9 : ∀ z, y = z → OrSt w.heap.size w1.heap.size w (((W9.setCell ⟨w.heap.size, 0, none⟩ (.string y.nm)).setCell ⟨w.heap.size, 1, none⟩ (.bool y.vr)).setCell ⟨w.heap.size, 2, none⟩ (.slice yo yn yc)) z (.slice yo yn yc) (.slice (some ⟨bl, oo, none⟩) l.length cl) F u (.slice ou u.ts.length cu) ∧ z.ok := fun z e => by
            subst e
            exact ⟨HM9.out.next HBX.out.2, (HPO.out.zero rfl).2.2.1⟩
          have h8 := h9 _ (HY.out.trans HT1.out.symm)
          refine ⟨⟨_, _, _, _, _, _, _, _, _, _, _, _, _, _, _, _, _, _, _, _, _, _, _, _, _, _, _, _, _, _, _, _, _, _, _, ⟨k + 1, _, by omega, ?_, Lib.hid h8.1, Lib.hid h8.2⟩, rfl⟩, ?_⟩
          · push_cast; rfl
          · simp [intOf]; omega
        · have hc3 : c = 3 := by
            by_cases hs : T1.size ≤ 4000 ∧ T1.depth ≤ 200
            · exact absurd (HPO.out.yes HSYS.out HOK.out _ HSTEP.out hs.1 hs.2) hc
            · exact HPO.out.big HSYS.out HOK.out _ HSTEP.out hs
          subst hc3
          clear hc
          unfold ptr
          go_wp2_with fail
          refine (HAL.out _ HM9.out.low).mono ?_
          rintro e w9 ⟨rfl, hb⟩
          go_wp2_with fail
          go_ret
          exact ⟨rfl, hb⟩
      case hstep =>
        rintro z i o ho f a W ⟨v40, v41, v42, v43, v44, v45, v46, v39, v47, v48, v12, v13, rfl, h⟩ hfi hd K' hK
        have HI := Lib.hid h
        match i, ho with
        | 0, ho =>
          cases ho
          clear h
          go_simp
          exact hK.out _ _ ⟨_, v41, v42, v43, v44, v45, v46, v39, v47, v48, v12, v13, rfl, HI.out.low, (fun _ => rfl), HI.out.f1, HI.out.f2, HI.out.f3, HI.out.f4, HI.out.f5, HI.out.f6, HI.out.f7, HI.out.f8, HI.out.f9, HI.out.f10, HI.out.f12, HI.out.o11⟩
        | 1, ho =>
          cases ho
          obtain ⟨c0, c1, c2⟩ := HTC.out _ h.low
          clear h
          go_simp
          exact hK.out _ _ ⟨v40, _, v42, v43, v44, v45, v46, v39, v47, v48, v12, v13, rfl, HI.out.low, HI.out.f0, (fun _ => rfl), HI.out.f2, HI.out.f3, HI.out.f4, HI.out.f5, HI.out.f6, HI.out.f7, HI.out.f8, HI.out.f9, HI.out.f10, HI.out.f12, HI.out.o11⟩
        | 2, ho =>
          cases ho
          clear h
          go_simp
          exact hK.out _ _ ⟨v40, v41, _, v43, v44, v45, v46, v39, v47, v48, v12, v13, rfl, HI.out.low, HI.out.f0, HI.out.f1, (fun _ => rfl), HI.out.f3, HI.out.f4, HI.out.f5, HI.out.f6, HI.out.f7, HI.out.f8, HI.out.f9, HI.out.f10, HI.out.f12, HI.out.o11⟩
        | 3, ho =>
          cases ho
          clear h
          go_simp
          exact hK.out _ _ ⟨v40, v41, v42, _, v44, v45, v46, v39, v47, v48, v12, v13, rfl, HI.out.low, HI.out.f0, HI.out.f1, HI.out.f2, (fun _ => rfl), HI.out.f4, HI.out.f5, HI.out.f6, HI.out.f7, HI.out.f8, HI.out.f9, HI.out.f10, HI.out.f12, HI.out.o11⟩
        | 4, ho =>
          cases ho
          have e := h.f2 (hd ⟨2, .data⟩ (by simp) rfl)
          subst e
          have e := h.f3 (hd ⟨3, .data⟩ (by simp) rfl)
          subst e
          clear h
          go_simp
          exact hK.out _ _ ⟨v40, v41, _, _, _, v45, v46, v39, v47, v48, v12, v13, rfl, HI.out.low, HI.out.f0, HI.out.f1, HI.out.f2, HI.out.f3, (fun _ => rfl), HI.out.f5, HI.out.f6, HI.out.f7, HI.out.f8, HI.out.f9, HI.out.f10, HI.out.f12, HI.out.o11⟩
        | 5, ho =>
          cases ho
          have e := h.f4 (hd ⟨4, .data⟩ (by simp) rfl)
          subst e
          obtain ⟨c0, c1⟩ := HSC.out _ h.low
          clear h
          go_simp
          exact hK.out _ _ ⟨v40, v41, v42, v43, _, _, v46, v39, v47, v48, v12, v13, rfl, HI.out.low, HI.out.f0, HI.out.f1, HI.out.f2, HI.out.f3, HI.out.f4, (fun _ => rfl), HI.out.f6, HI.out.f7, HI.out.f8, HI.out.f9, HI.out.f10, HI.out.f12, HI.out.o11⟩
        | 6, ho =>
          cases ho
          have e := h.f0 (hd ⟨0, .data⟩ (by simp) rfl)
          subst e
          have e := h.f1 (hd ⟨1, .data⟩ (by simp) rfl)
          subst e
          have e := h.f5 (hd ⟨5, .data⟩ (by simp) rfl)
          subst e
          have HLw := Lib.hid h.low
          clear h hd
          go_simp
          refine (HSW.out W HLw.out).mono ?_
          rintro e W' ⟨y, k, ⟨⟨sl, rfl, hsl⟩, hb⟩, hpost⟩
          obtain ⟨yo, yc, rfl⟩ := hsl.form
          have H1 := HI.out.keep hb
          exact hK.out _ _ ⟨_, _, v42, v43, v44, _, _, v39, v47, v48, v12, v13, rfl, H1.low, H1.f0, H1.f1, H1.f2, H1.f3, H1.f4, H1.f5, (fun _ => ⟨_, _, _, _, _, rfl, HN0.out _ _ _ _ HLw.out hsl, hpost⟩), (fun k => by have := (HI.out.f7 k).1; rw [hfi] at this; cases this), (fun k => by have := (HI.out.f8 k).1; rw [hfi] at this; cases this), (fun k => by have := (HI.out.f9 k).1; rw [hfi] at this; cases this), (fun k => by obtain ⟨p, h1, h2, h3, h4, h5⟩ := H1.f10 k; exact ⟨p, h1, h2, h3, h4, fun e => by have := HI.out.o11 e; rw [hfi] at this; simp at this⟩), H1.f12, (fun k => by have := HI.out.o11 k; rw [hfi] at this; simp at this)⟩
        | 7, ho =>
          cases ho
          have d := hd ⟨6, .data⟩ (by simp) rfl
          clear h
          go_simp
          exact hK.out _ _ ⟨v40, v41, v42, v43, v44, v45, v46, _, v47, v48, v12, v13, rfl, HI.out.low, HI.out.f0, HI.out.f1, HI.out.f2, HI.out.f3, HI.out.f4, HI.out.f5, HI.out.f6, (fun _ => ⟨d, rfl⟩), HI.out.f8, HI.out.f9, HI.out.f10, HI.out.f12, HI.out.o11⟩
        | 8, ho =>
          cases ho
          obtain ⟨d, e⟩ := h.f7 (hd ⟨7, .data⟩ (by simp) rfl)
          obtain ⟨y, k, yo, yn, yc, e7, hy⟩ := h.f6 d
          subst e7
          subst e
          clear h hy
          go_simp
          exact hK.out _ _ ⟨v40, v41, v42, v43, v44, v45, _, _, _, v48, v12, v13, rfl, HI.out.low, HI.out.f0, HI.out.f1, HI.out.f2, HI.out.f3, HI.out.f4, HI.out.f5, HI.out.f6, HI.out.f7, (fun _ => ⟨d, _, _, rfl, rfl⟩), HI.out.f9, HI.out.f10, HI.out.f12, HI.out.o11⟩
        | 9, ho =>
          cases ho
          obtain ⟨d, e⟩ := h.f7 (hd ⟨7, .data⟩ (by simp) rfl)
          obtain ⟨y, k, yo, yn, yc, e7, hy⟩ := h.f6 d
          subst e7
          subst e
          clear h hy
          go_simp
          exact hK.out _ _ ⟨v40, v41, v42, v43, v44, v45, _, _, v47, _, v12, v13, rfl, HI.out.low, HI.out.f0, HI.out.f1, HI.out.f2, HI.out.f3, HI.out.f4, HI.out.f5, HI.out.f6, HI.out.f7, HI.out.f8, (fun _ => ⟨d, _, _, rfl, rfl⟩), HI.out.f10, (fun k => by have := (HI.out.f12 k).1; rw [hfi] at this; cases this), HI.out.o11⟩
        | 10, ho =>
          cases ho
          clear h
          go_simp
          have hb := (Below.refl W.heap.size W).alloc (Nat.le_refl _) zeroBx
          have H1 := HI.out.keep hb
          exact hK.out _ (W.alloc zeroBx) ⟨v40, v41, v42, v43, v44, v45, v46, v39, v47, v48, (ptr W.heap.size), v13, rfl, H1.low, H1.f0, H1.f1, H1.f2, H1.f3, H1.f4, H1.f5, H1.f6, H1.f7, H1.f8, H1.f9, (fun _ => ⟨_, rfl, HI.out.low.size, by simp, fun _ => heap_new_at _ _ _ rfl, (fun k => by have := HI.out.o11 k; rw [hfi] at this; simp at this)⟩), H1.f12, ((fun k => by have := HI.out.o11 k; rw [hfi] at this; simp at this))⟩
        | 11, ho =>
          cases ho
          have dal := hd ⟨10, .data⟩ (by simp) rfl
          obtain ⟨d7, a0, b0, ea, eb⟩ := h.f8 (hd ⟨8, .data⟩ (by simp) rfl)
          obtain ⟨p, e7, h2, h3, h4, -⟩ := h.f10 (hd ⟨10, .data⟩ (by simp) rfl)
          obtain ⟨y, k, oq, nq, cq, e, hq, hpost⟩ := h.f6 d7
          subst eb
          subst e
          cases ea
          subst e7
          have hz := h4 hfi
          have HZ := Lib.hid hz
          have HQ := Lib.hid hq
          have HPO := Lib.hid hpost
          obtain ⟨⟨c0, c1, c2⟩, g0, g1, g2⟩ := box3 hz
          clear h hd h4 hz hq hpost
          unfold ptr
          go_simp
          exact hK.out _ _ ⟨v40, v41, v42, v43, v44, v45, _, v39, _, v48, (ptr p), v13, rfl, below_set3 HI.out.low (b := p) h2 (.string y.nm) (.bool y.vr) (.slice oq nq cq), HI.out.f0, HI.out.f1, HI.out.f2, HI.out.f3, HI.out.f4, HI.out.f5, (fun _ => ⟨y, k, oq, nq, cq, rfl, HQ.out.setz HZ.out HPO.out.fts (.string y.nm) (.bool y.vr) (.slice oq nq cq), HPO.out⟩), HI.out.f7, HI.out.f8, HI.out.f9, (fun _ => ⟨p, rfl, h2, by simp [World.setCell]; omega, nofun, fun _ => ⟨y, k, oq, nq, cq, rfl, ⟨box3_set HZ.out (.string y.nm) (.bool y.vr) (.slice oq nq cq), HQ.out.setz HZ.out HPO.out.fts (.string y.nm) (.bool y.vr) (.slice oq nq cq)⟩, HPO.out⟩⟩), HI.out.f12, (fun _ => ⟨dal, d7⟩)⟩
        | 12, ho =>
          cases ho
          have d := hd ⟨9, .data⟩ (by simp) rfl
          clear h
          go_simp
          exact hK.out _ _ ⟨v40, v41, v42, v43, v44, v45, v46, v39, v47, v48, v12, _, rfl, HI.out.low, HI.out.f0, HI.out.f1, HI.out.f2, HI.out.f3, HI.out.f4, HI.out.f5, HI.out.f6, HI.out.f7, HI.out.f8, HI.out.f9, HI.out.f10, (fun _ => ⟨d, rfl⟩), HI.out.o11⟩
        | i + 13, ho => simp at ho

    · obtain rfl : k = l.length := by omega
      have HFIN : Hid (((rot (F % l.length) l).take l.length).foldl (ptStep R t) t = u) := Lib.hid (by
        rw [List.take_of_length_le (by rw [rot_len]; exact Nat.le_refl _), ptAll_perm HPAR.out (rot_perm _ l), HUE.out])
      generalize ((rot (F % l.length) l).take l.length).foldl (ptStep R t) t = T at *
      obtain ⟨oT, cT, rfl⟩ := HM.out.tis.form
      obtain ⟨⟨t0, t1, t2⟩, -⟩ := box3 HM.out.tb
      obtain ⟨⟨x0, x1, x2⟩, -⟩ := box3 HM.out.xb
      have hbT := HOK.out.bulk
      have hbU := HUO.out.bulk
      go_wp2_with fail
      refine (requal_any T u _ _ wr (by omega) (by omega) HM.out.tis.is HM.out.xis.is).mono ?_
      rintro e w8 ⟨⟨b, rfl, hb⟩, hbw⟩
      obtain rfl : b = true := hb.2 HFIN.out
      have HM8 := Lib.hid (HM.out.carry hbw)
      clear hb hbw t0 t1 t2 x0 x1 x2
      go_wp2_with fail
      refine (HAL.out _ HM8.out.low).mono ?_
      rintro e w9 ⟨rfl, hb⟩
      go_wp2_with fail
      go_ret
      exact ⟨rfl, hb⟩
end Go.Proofs.YtamddagmlanijaaGreat
namespace Go.Proofs.YtamddagmlanijaaGreat
open Go.RowKit Go.ChangeShapes Go.WideShapes Go.ChangeAt Go.Deep

set_option maxRecDepth 100000 in
set_option maxHeartbeats 1000000 in
theorem contractP (H : Type) (enc : TypeId × Value → H) (W : World) (base : Nat) (args : Array Value) (ds gs : List (DataW H)) (before : List MemPlace)
    (hval : ∀ (j : Nat) t v, Tryz.f3.params[j]? = some t → args[j]? = some v → Value.okWide Tryz.prog W .any base t v)
    (hW : DataW.Whole enc Tryz.prog Tryz.f3.params.toList Rows.rewriteOrdersSpec.vars false W args.toList ds gs before) (hk : Rows.uptoSmall H (ds ++ gs) = true) :
    Calls Tryz.prog 3 args W fun e W' => ∃ v, e = .returned v ∧ Rows.rewriteOrdersSpec.post enc Tryz.prog Tryz.f3 false true false false W args v W' := by
  have hW' := hW
  obtain ⟨p, q, hA0, hV, rfl, hfz, hnd⟩ := hW
  have hA : DataW.TrodAll enc Tryz.prog W 0 (fun _ => true) true Tryz.f3.params.toList args.toList ds p := hA0
  rw [Tryz.params3] at hA hval
  obtain ⟨v0, vs0, d0, ds0, p0, q0, hargs, rfl, rfl, h0, r0⟩ := trodAll_cons hA
  obtain ⟨v1, vs1, d1, ds1, p1, q1, hargs1, rfl, rfl, h1, r1⟩ := trodAll_cons r0
  obtain ⟨v2, vs2, d2, ds2, p2, q2, hargs2, rfl, rfl, h2, r2⟩ := trodAll_cons r1
  obtain ⟨rfl, rfl, rfl⟩ := trodAll_nil r2
  subst hargs2
  subst hargs1
  obtain rfl : args = #[v0, v1, v2] := by cases args; simp_all
  obtain ⟨rfl, rfl⟩ := trodVars_none hV
  clear hA0
  simp only [List.append_nil] at hW' hk hfz
  have hv0 := hval 0 _ v0 rfl rfl
  have hv1 := hval 1 _ v1 rfl rfl
  have hv2 := hval 2 _ v2 rfl rfl
  simp only [Value.okWide] at hv1 hv2
  obtain ⟨oy, ny, ky, rfl⟩ := okWide_slice Tryz.underlying22 hv0
  obtain ⟨c1, rfl, -, -⟩ := hv1
  obtain ⟨c2, rfl, -, -⟩ := hv2
  have H0 := h0
  have H1 := h1
  have H2 := h2
  obtain ⟨n0, k0⟩ := h0
  obtain ⟨n1, k1⟩ := h1
  obtain ⟨n2, k2⟩ := h2
  simp only [Value.cells] at k0 k1 k2
  obtain ⟨R, hR, hRl, hRb⟩ := rules_open enc W n0 _ _ k0 (fun b off hp => hfz b off (by simp [hp]))
  obtain ⟨t, tv, e1, ht, hb1⟩ := term_open enc W n1 _ _ k1 (fun b off hp => hfz b off (by simp [hp]))
  have hbound : Rows.uptoBulkAll [d0, d1, d2] ≤ 1048576 := of_decide_eq_true hk
  simp only [Rows.uptoBulkAll] at hbound
  obtain ⟨l, lv, F, e2, hl, hll, hF⟩ := some_open enc W n2 _ _ k2 (fun b off hp => hfz b off (by simp [hp])) (show Rows.uptoBulk d2 ≤ 1048576 by omega)
  obtain rfl : c1 = #[.string t.nm, .bool t.vr, tv] := by cases c1; simp_all
  obtain rfl : c2 = #[lv, .int .u8 F] := by cases c2; simp_all
  have hRl' : R.length < Rows.uptoBulk d0 := hRl
  have hRb' : ∀ x ∈ sidesV R, x.1.bulk < Rows.uptoBulk d0 := hRb
  have hb1' : t.bulk ≤ Rows.uptoBulk d1 := hb1
  have hll' : l.length < Rows.uptoBulk d2 := hll
  refine (rewriteOrders_any R _ t tv l lv F W hR (by omega) (fun x hx => by have := hRb' x hx; omega) ht (by omega) hl (by omega) hF).mono ?_
  rintro e W' ⟨rfl, hb⟩
  have hsame : ∀ b : MemPlace, b.block < W.heap.size → W.sameAt W' b := fun b hbl => by
    cases b with
    | cell b off => exact hb.cell (p := ⟨b, off, none⟩) hbl
    | map b => exact hb.block b hbl
  have hlt := hW'.lt
  refine ⟨_, rfl, _, _, _, [], p0 ++ (p1 ++ (p2 ++ [])), [], hW', ?_, ?_, ?_, hb.frame _, fun h => by cases h⟩
  · exact trodAll_cons_mk (shut_bool Tryz.underlying4 _) trodAll_mk0
  · exact trodAll_cons_mk (trod_again _ (sp_rules _) H0 (fun p hp => by have := hlt p (by simp [hp]); simpa using this) (fun p hp => hsame p (hlt p (by simp [hp]))))
        (trodAll_cons_mk (trod_again _ (sp_term _) H1 (fun p hp => by have := hlt p (by simp [hp]); simpa using this) (fun p hp => hsame p (hlt p (by simp [hp]))))
          (trodAll_cons_mk (trod_again _ (sp_some _) H2 (fun p hp => by have := hlt p (by simp [hp]); simpa using this) (fun p hp => hsame p (hlt p (by simp [hp])))) trodAll_mk0))
  · exact rfl

theorem ownGodebug : ownKnob Tryz.prog.godebug = none := by kernel_rfl
set_option maxRecDepth 100000 in
theorem liftedP (os : Os) (started : os.Started) (H : Type) (enc : TypeId × Value → H) (F : Stop.Interp) :
    ReturnsInHanded {} Tryz.checked os 3 .any ((Rows.OpenSpec.upto Rows.rewriteOrdersSpec).pre6 enc Tryz.prog Tryz.f3 Rows.rewriteOrdersUptoRow.domain false) (((Rows.OpenSpec.upto Rows.rewriteOrdersSpec).at F).post enc Tryz.prog Tryz.f3 false true false false) := by
  refine returnsInHanded_of_cond (C := Tryz.checked) (s := Rows.OpenSpec.upto Rows.rewriteOrdersSpec) (k := Rows.uptoSmall) rfl ownGodebug started (by kernel_rfl) Tryz.func3
    (OpenSpec.witness (enc := enc) (C := Tryz.checked) (s := Rows.OpenSpec.upto Rows.rewriteOrdersSpec) (k := Rows.uptoSmall) rfl false ⟨#[], #[.slice none 0 0, .agg #[.string .empty, .bool false, .slice none 0 0], .agg #[.slice none 0 0, .int .u8 0]], []⟩ 9 (by kernel_rfl) (by kernel_rfl) (by kernel_rfl)
      (x := ([.nil, .agg [.lit (.string []), .lit (.bool false), .nil], .agg [.nil, .lit (.int .u8 0)]], [], [])) (by kernel_rfl) rfl (by kernel_rfl)) ?_
  intro W base args ds gs before hval hW _ hk _
  exact contractP H enc W base args ds gs before hval hW hk

/-- The law. -/
theorem rewriteOrders_holds : Rows.RewriteOrdersUptoSaid :=
  OpenClaim.holds_of_cond 3 Tryz.f3 rfl rfl rfl rfl rfl rfl rfl ⟨rfl, rfl, rfl, rfl, rfl⟩ rfl rfl rfl rfl rfl (by kernel_rfl) Tryz.func3 (by kernel_rfl)
    (of_decide_eq_true (by kernel_rfl)) (by unfold Func.isWrapper; first | (rw [if_pos (by decide +kernel)]; kernel_rfl) | (rw [if_neg (by decide +kernel)]; exact ⟨rfl, rfl⟩))
    (fun os started H enc _ F => liftedP os started H enc F)
end Go.Proofs.YtamddagmlanijaaGreat
