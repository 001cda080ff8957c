/- Packed: Gro, Fit, Elm, Blk, Lpo, ApF, PutM, At, Lpo2, Rks. -/
import Derived.WalkKit
import Derived.ProofKit
import Derived.OpenShut
import Derived.Handy
import Derived.Lib.Hide
import Derived.Deep.RegionHeld3
import Derived.Test.YtnomppdmhgefiaaGreatF06
import Derived.Test.YtnomppdmhgefiaaGreatF08
import Derived.Maps.OwnIn
import Derived.Test.YtnomppdmhgefiaaGreatF05
import Derived.Test.YtnomppdmhgefiaaGreatF04
import Derived.Test.YtnomppdmhgefiaaGreatF01
import Derived.Laws.Cover1
import Derived.Sort.Walk0
/- The reference's Grown and Fits. -/
namespace Go.Proofs.YtnomppdmhgefiaaGreat
open Go.RowKit

theorem imageOf_or (bl : List Bd) (k : Key) : (∃ q ∈ bl, imageOf bl k = q.2) ∨ imageOf bl k = .mk (kb k) true [] := by
  unfold imageOf
  cases hf : bl.find? (fun p => decide (p.1 = k)) with
  | none => exact .inr rfl
  | some q => exact .inl ⟨q, List.mem_of_find?_eq_some hf, rfl⟩
theorem grown_small {bl : List Bd} (h : ∀ q ∈ bl, q.2.size ≤ 4000) (t : Tm) : (apB bl t).size ≤ 4000 * t.size := by
  induction t using Tm.ind with
  | h t ih =>
    have hp := Tm.size_eq t
    cases hv : t.vr
    · rw [apB_fun bl hv, Tm.size_eq, hp]
      have key : ∀ l : List Tm, (∀ u ∈ l, (apB bl u).size ≤ 4000 * u.size) → Tm.sizes (l.map (apB bl)) ≤ 4000 * Tm.sizes l := by
        intro l
        induction l with
        | nil => intro _; simp [Tm.sizes]
        | cons x l ihl =>
          intro hl
          have h1 := hl x (by simp)
          have h2 := ihl fun u hu => hl u (by simp [hu])
          simp only [List.map_cons, Tm.sizes]; omega
      have := key t.ts ih
      show 1 + Tm.sizes (t.ts.map (apB bl)) ≤ _
      omega
    · rw [apB_var bl hv]
      rcases imageOf_or bl t.nm.data.toList with ⟨q, hq, e⟩ | e
      · rw [e]; have := h q hq; omega
      · rw [e, Tm.size_eq]; show 1 + 0 ≤ _; omega
set_option maxRecDepth 100000 in
set_option maxHeartbeats 4000000 in
theorem rgrown_sz (bl : List Bd) (sv : Value) (n₀ : Nat) (hlen : bl.length ≤ 100000000) (hsz : ∀ q ∈ bl, q.2.size ≤ 4000) (t : Tm) : ∀ (s : Value) (w : World), n₀ ≤ w.heap.size → BindsIs n₀ w bl sv → SlIs w.heap.size w t.ts s → t.bulk ≤ 1048576 →
    Calls Tryz.prog 53 #[sv, tmv t s] w fun e w' => e = .returned (.tuple #[.int .i64 (apB bl t).size, .int .i64 (apB bl t).depth]) ∧ Below w.heap.size w w' := by
  induction t using Tm.ind with
  | h t ih =>
    intro s w hn hbi hs hb
    obtain ⟨oa, ca, rfl, -⟩ := hs.form
    have hbi' := hbi
    obtain ⟨ob, cb, rfl, -, -⟩ := hbi'
    cases hv : t.vr with
    | true =>
      have hA : Below w.heap.size w (w.alloc (.cells #[.string t.nm, .bool true, .slice oa t.ts.length ca] 25)) := by go_grown
      have himg := rimage_any bl t.nm.data.toList (.slice ob bl.length cb) _ n₀ (Nat.le_trans hn hA.size) (hbi.carry (hA.mono hn) (Nat.le_refl _)) hlen
      rw [kb_key] at himg
      have hib : (imageOf bl t.nm.data.toList).size ≤ 1048576 := by
        rcases imageOf_or bl t.nm.data.toList with ⟨q, hq, e⟩ | e
        · rw [e]; have := hsz q hq; omega
        · rw [e, Tm.size_eq]; show 1 + 0 ≤ _; omega
      have HAP := Lib.hid (apB_var bl hv)
      have HIMG := Lib.hid himg
      have HA := Lib.hid hA
      clear ih hs hbi himg hA hsz
      go_enter Tryz.func53, Tryz.ntmps53
      rw [show tmv t (.slice oa t.ts.length ca) = .agg #[.string t.nm, .bool true, .slice oa t.ts.length ca] from by rw [tmv, hv]]
      clear hv
      go_wp2_with fail
      refine HIMG.out.mono ?_
      rintro e w1 ⟨⟨sl, rfl, h1⟩, hb1⟩
      obtain ⟨x, hx⟩ : ∃ x, x = imageOf bl t.nm.data.toList := ⟨_, rfl⟩
      rw [← hx] at h1 hib
      have HX : Hid (apB bl t = x) := Lib.hid (by rw [HAP.out, hx])
      rw [← hx]
      clear hx HAP HIMG
      obtain ⟨ox, cx, rfl, -⟩ := h1.form
      dsimp only [tmv]
      have hz1 := hb1.size
      have HTX : Hid (TBx (w1.alloc (.cells #[.string x.nm, .bool x.vr, .slice ox x.ts.length cx] 25)) w1.heap.size x (.slice ox x.ts.length cx)) := Lib.hid (TBx.new (h1.carry (Below.refl _ _) (Nat.le_trans hn (Nat.le_trans HA.out.size hz1))))
      have HW : Hid (Below w.heap.size w (w1.alloc (.cells #[.string x.nm, .bool x.vr, .slice ox x.ts.length cx] 25))) := Lib.hid ((HA.out.trans (hb1.mono HA.out.size)).alloc (Nat.le_trans HA.out.size hz1) _)
      clear h1 hb1
      go_wp2_with fail
      generalize w1.heap.size = m at HTX ⊢
      generalize (w1.alloc (.cells #[.string x.nm, .bool x.vr, .slice ox x.ts.length cx] 25)) = W0 at HTX HW ⊢
      obtain ⟨⟨x0, x1, x2⟩, -⟩ := box3 HTX.out.box
      have HTX0 := Lib.hid (HTX.out.carry (Below.refl _ W0).drew)
      have HW0 := Lib.hid (HW.out.trans ((Below.refl _ W0).drew.mono HW.out.size))
      clear HTX HW
      go_region_held3 (fun w' => w'.cell? ⟨m, 0, none⟩ = some (.string x.nm) ∧ w'.cell? ⟨m, 1, none⟩ = some (.bool x.vr) ∧ w'.cell? ⟨m, 2, none⟩ = some (.slice ox x.ts.length cx)) (go_keep) ((first
        | (go_at_call 58
           refine (rdepth_sz x (.slice ox x.ts.length cx) _ hib HTX4.out.is).mono ?_
           rintro e w5 ⟨rfl, hb5⟩
           have HTX5 := Lib.hid (HTX4.out.carry hb5); have HW5 := Lib.hid (HW4.out.trans (hb5.mono HW4.out.size)); obtain ⟨⟨x0, x1, x2⟩, -⟩ := box3 HTX5.out.box
           clear hb5)
        | (go_at_call 57
           refine (rsize_sz x (.slice ox x.ts.length cx) _ hib HTX4.out.is).mono ?_
           rintro e w5 ⟨rfl, hb5⟩
           have HTX5 := Lib.hid (HTX4.out.carry hb5); have HW5 := Lib.hid (HW4.out.trans (hb5.mono HW4.out.size)); obtain ⟨⟨x0, x1, x2⟩, -⟩ := box3 HTX5.out.box
           clear hb5)
        | (go_at_call 58
           refine (rdepth_sz x (.slice ox x.ts.length cx) _ hib HTX0.out.is).mono ?_
           rintro e w4 ⟨rfl, hb4⟩
           have HTX4 := Lib.hid (HTX0.out.carry hb4); have HW4 := Lib.hid (HW0.out.trans (hb4.mono HW0.out.size)); obtain ⟨⟨x0, x1, x2⟩, -⟩ := box3 HTX4.out.box
           clear hb4)
        | (go_at_call 57
           refine (rsize_sz x (.slice ox x.ts.length cx) _ hib HTX0.out.is).mono ?_
           rintro e w4 ⟨rfl, hb4⟩
           have HTX4 := Lib.hid (HTX0.out.carry hb4); have HW4 := Lib.hid (HW0.out.trans (hb4.mono HW0.out.size)); obtain ⟨⟨x0, x1, x2⟩, -⟩ := box3 HTX4.out.box
           clear hb4)))
      all_goals
        go_wp2_with fail
        refine bodyPost_ret (v := .tuple #[.int .i64 x.size, .int .i64 x.depth]) (by simp [results, Tryz.f53, go_sem]) rfl ?_
        exact ⟨by rw [HX.out], HW5.out⟩
    | false =>
      have HAP := Lib.hid (apB_fun bl hv)
      have hsml := grown_small (fun q hq => hsz q hq) t
      rw [apB_fun bl hv, Tm.size_eq] at hsml
      have hsb := Tm.size_bulk t
      have hls := Tm.length_sizes t.ts
      have hse := Tm.size_eq t
      have HSM : Hid (1 + Tm.sizes (t.ts.map (apB bl)) ≤ 4194304000) := Lib.hid (by have : (1 + Tm.sizes (t.ts.map (apB bl))) ≤ 4000 * t.size := hsml; omega)
      have htl : t.ts.length ≤ 1048576 := by omega
      have IH : Hid (∀ u ∈ t.ts, ∀ (s : Value) (w : World), n₀ ≤ w.heap.size → BindsIs n₀ w bl (.slice ob bl.length cb) → SlIs w.heap.size w u.ts s → u.bulk ≤ 1048576 → Calls Tryz.prog 53 #[.slice ob bl.length cb, tmv u s] w fun e w' => e = .returned (.tuple #[.int .i64 (apB bl u).size, .int .i64 (apB bl u).depth]) ∧ Below w.heap.size w w') := Lib.hid fun u hu s w h1 h2 h3 h4 => ih u hu s w h1 h2 h3 h4 
      have HBI := Lib.hid hbi
      have HSL := Lib.hid hs
      have HBK := Lib.hid hb
      have HTK : Hid (∀ (k : Nat) (u : Tm), t.ts[k]? = some u → Tm.sizes ((t.ts.take (k + 1)).map (apB bl)) = Tm.sizes ((t.ts.take k).map (apB bl)) + (apB bl u).size ∧ Tm.depths ((t.ts.take (k + 1)).map (apB bl)) = max (Tm.depths ((t.ts.take k).map (apB bl))) (apB bl u).depth ∧ Tm.sizes ((t.ts.take (k + 1)).map (apB bl)) ≤ Tm.sizes (t.ts.map (apB bl))) := Lib.hid fun k u hu => by
        refine ⟨?_, ?_, ?_⟩
        · rw [Tm.take_snoc hu, List.map_append, Tm.sizes_append]; simp [Tm.sizes]
        · rw [Tm.take_snoc hu, List.map_append, Tm.depths_append]; simp [Tm.depths]
        · have h := Tm.sizes_append ((t.ts.take (k + 1)).map (apB bl)) ((t.ts.drop (k + 1)).map (apB bl))
          rw [← List.map_append, List.take_append_drop] at h
          omega
      have HDS : Hid (∀ u : Tm, u.depth ≤ u.size) := Lib.hid Tm.depth_le
      clear ih hs hbi hb hsz hsml hsb hls hse
      go_enter Tryz.func53, Tryz.ntmps53
      rw [show tmv t (.slice oa t.ts.length ca) = .agg #[.string t.nm, .bool t.vr, .slice oa t.ts.length ca] from rfl, hv]
      clear hv
      go_wp2_with fail
      go_loopw [7, 8, 26] (fun a d i wr => ∃ (k A D : Nat), k ≤ t.ts.length ∧ a = .int .i64 A ∧ d = .int .i64 D ∧ i = .int .i64 k ∧ Hid (A = 1 + Tm.sizes ((t.ts.take k).map (apB bl)) ∧ D = Tm.depths ((t.ts.take k).map (apB bl))) ∧ A ≤ 4194304000 ∧ D ≤ 4194304000 ∧ Hid (Below w.heap.size w wr)) (fun _ _ i _ => t.ts.length - (intOf i).toNat)
      case atStart => exact ⟨0, 1, 0, by omega, rfl, rfl, rfl, Lib.hid ⟨by simp [Tm.sizes], by simp [Tm.depths]⟩, by omega, by omega, Lib.hid (by go_grown)⟩
      case round =>
        obtain ⟨k, A, D, hk, rfl, rfl, rfl, HAD, hA, hD, HBW⟩ := hrel
        by_cases hlt : k < t.ts.length
        · have hz := HBW.out.size
          obtain ⟨b, o, u, su, rfl, hbb, hu, hum, hus, c1, c2, c3⟩ := (HSL.out.carry HBW.out hz).get (k := k) hlt
          obtain ⟨ou, cu, rfl, -⟩ := hus.form
          have hub : u.bulk ≤ 1048576 := by have := Tm.bulk_mem hum; have := Tm.bulk_eq t; have := HBK.out; omega
          have hstep := HTK.out k u hu
          have HST := Lib.hid hstep
          have hsu : A + (apB bl u).size ≤ 4194304000 := by have := HAD.out.1; have := HSM.out; have := hstep.1; have := hstep.2.2; omega
          have hdu : (apB bl u).depth ≤ 4194304000 := by have := HDS.out (apB bl u); omega
          have IHu : ∀ W1, Below wr.heap.size wr W1 → Hid (Calls Tryz.prog 53 #[.slice ob bl.length cb, tmv u (.slice ou u.ts.length cu)] W1 fun e w' => e = .returned (.tuple #[.int .i64 (apB bl u).size, .int .i64 (apB bl u).depth]) ∧ Below W1.heap.size W1 w') := fun W1 hW => Lib.hid
            (IH.out u hum _ W1 (Nat.le_trans hn (Nat.le_trans hz hW.size)) (HBI.out.carry ((HBW.out.trans (hW.mono hz)).mono hn) (Nat.le_refl _)) (hus.carry hW hW.size) hub)
          clear hu hus hstep
          generalize hgs : (apB bl u).size = gs at hsu HST IHu
          generalize hgd : (apB bl u).depth = gd at hdu HST IHu
          clear hgs hgd
          go_wp2_with fail
          refine (IHu _ (by go_grown)).out.mono ?_
          rintro e w1 ⟨rfl, hb1⟩
          have HB1 : Hid (Below w.heap.size w w1) := Lib.hid (HBW.out.trans ((show Below wr.heap.size wr _ from by go_grown).trans (hb1.mono (by simp)) |>.mono hz))
          clear hb1 IHu
          go_wp2_with fail
          exact ⟨⟨k + 1, A + gs, max D gd, by omega, by go_num, by go_num, by go_num, Lib.hid (by have h1 := HAD.out; have h2 := HST.out; exact ⟨by omega, by rw [h1.2]; exact h2.2.1.symm⟩), by omega, by omega, HB1⟩, by simp [intOf]; omega⟩
        · obtain rfl : k = t.ts.length := by omega
          have HE : Hid (A = (apB bl t).size ∧ D + 1 = (apB bl t).depth) := Lib.hid (by
            have h := HAD.out
            rw [List.take_length] at h
            rw [HAP.out, Tm.size_eq, Tm.depth_eq]
            exact ⟨h.1, by rw [h.2, Nat.add_comm]; rfl⟩)
          go_wp2_with fail
          refine bodyPost_ret (v := .tuple #[.int .i64 A, .int .i64 (D + 1)]) (by simp [results, Tryz.f53, go_sem]) rfl ?_
          exact ⟨by rw [← HE.out.1, ← HE.out.2]; rfl, HBW.out⟩
end Go.Proofs.YtnomppdmhgefiaaGreat
/- What fits measures: plain facts; look-ups in the map of images. fits: does the term with its bindings applied stay small? -/
namespace Go.Proofs.YtnomppdmhgefiaaGreat
open Go.RowKit Go.Maps

section
variable {w : World} {ops : Array Oper} {rest : List Oper} {o : Oper} {a : Act} {Q : Exit → Act → World → Prop} {F : Fence} {nF : Nat}
end
end Go.Proofs.YtnomppdmhgefiaaGreat
namespace Go.Proofs.YtnomppdmhgefiaaGreat
open Go.RowKit Go.Shelf
attribute [local go_sem] Oper.semAt_some

/-- the variables of fits, as they lie -/
structure FitMem (w W : World) (mv : Value) (sz dp : Int) : Prop where
  mb : Boxed W w.heap.size 231 mv
  sb : Boxed W (w.heap.size + 1 + 1) 3 (.int .i64 sz)
  db : Boxed W (w.heap.size + 1 + 1 + 1) 3 (.int .i64 dp)
  bl : Below w.heap.size w W
theorem FitMem.kept {w W W' : World} {mv : Value} {sz dp : Int} {row : Option Nat} (h : FitMem w W mv sz dp) (hg : W.grownBy W' row) (hr : ∀ r, row = some r → w.heap.size ≤ r ∧ ∃ o : Obj, W.heap[r]? = some o ∧ o.isCells = false) : FitMem w W' mv sz dp :=
  ⟨held_kept h.mb hg fun r e => (hr r e).2, held_kept h.sb hg fun r e => (hr r e).2, held_kept h.db hg fun r e => (hr r e).2, h.bl.grown hg h.bl.size fun r e => (hr r e).1⟩
theorem FitMem.below {w W W' : World} {mv : Value} {sz dp : Int} (h : FitMem w W mv sz dp) (hb : Below W.heap.size W W') : FitMem w W' mv sz dp :=
  h.kept (row := none) ⟨hb.os, hb.tape, hb.output, hb.size, fun i hi _ => hb.block i hi⟩ (fun r e => by cases e)
theorem FitMem.setS {w W : World} {mv : Value} {sz dp : Int} (h : FitMem w W mv sz dp) (v : Int) : FitMem w (W.setCell ⟨w.heap.size + 1 + 1, 0, none⟩ (.int .i64 v)) mv v dp :=
  ⟨(heap_set_other _ _ _ _ (by omega)).trans h.mb, h.sb.set _, (heap_set_other _ _ _ _ (by omega)).trans h.db, h.bl.setCell (p := ⟨w.heap.size + 1 + 1, 0, none⟩) (by simp; omega) _⟩
theorem FitMem.setD {w W : World} {mv : Value} {sz dp : Int} (h : FitMem w W mv sz dp) (v : Int) : FitMem w (W.setCell ⟨w.heap.size + 1 + 1 + 1, 0, none⟩ (.int .i64 v)) mv sz v :=
  ⟨(heap_set_other _ _ _ _ (by omega)).trans h.mb, (heap_set_other _ _ _ _ (by omega)).trans h.sb, h.db.set _, h.bl.setCell (p := ⟨w.heap.size + 1 + 1 + 1, 0, none⟩) (by simp; omega) _⟩

end Go.Proofs.YtnomppdmhgefiaaGreat
/- Bindings being appended, each with a term in new memory. -/
namespace Go.Proofs.YtnomppdmhgefiaaGreat
open Go.RowKit

/-- a binding as it lies: its name, its term, the slice of the term's arguments -/
abbrev Elem := Bd × (Option Addr × Nat × Nat)
instance : Inhabited Elem := ⟨(([], .mk ⟨#[]⟩ true []), (none, 0, 0))⟩
def Elem.sl (x : Elem) : Value := .slice x.2.1 x.2.2.1 x.2.2.2
def encE (x : Elem) : List Value := [.string (kb x.1.1), .string x.1.2.nm, .bool x.1.2.vr, .slice x.2.1 x.2.2.1 x.2.2.2]
def ecells (l : List Elem) : List Value := l.flatMap encE
theorem ecells_append (a b : List Elem) : ecells (a ++ b) = ecells a ++ ecells b := by simp [ecells]
theorem ecells_length (a : List Elem) : (ecells a).length = a.length * 4 := by
  induction a with
  | nil => rfl
  | cons p a ih => simp [ecells, encE] at ih ⊢; omega
theorem ecells_at (l : List Elem) (i c : Nat) (x : Elem) (h : l[i]? = some x) (hc : c < 4) : (ecells l)[i * 4 + c]? = (encE x)[c]? := by
  induction l generalizing i with
  | nil => simp at h
  | cons q l ih =>
    cases i with
    | zero =>
      simp at h; subst h
      rw [show ecells (q :: l) = encE q ++ ecells l from rfl, Nat.zero_mul, Nat.zero_add, List.getElem?_append_left (by show c < 4; exact hc)]
    | succ i =>
      rw [show ecells (q :: l) = encE q ++ ecells l from rfl, List.getElem?_append_right (by show 4 ≤ _; omega), show (i + 1) * 4 + c - (encE q).length = i * 4 + c by show (i + 1) * 4 + c - 4 = _; omega]
      exact ih i (by simpa using h)
/-- the elements that have been made -/
structure CmpSt (w W : World) (v : Value) (es : List Elem) : Prop where
  row : W.ownsRow w.heap.size 105 4 v es.length (ecells es)
  kids : ∀ x ∈ es, SlP (fun b => w.heap.size ≤ b ∧ b < W.heap.size ∧ some b ≠ v.ownBlock) W x.1.2.ts (Elem.sl x)
  low : Below w.heap.size w W
theorem CmpSt.below {w W A : World} {v : Value} {es : List Elem} (h : CmpSt w W v es) (hb : Below W.heap.size W A) : CmpSt w A v es :=
  ⟨h.row.kept (below_grown hb) (own_none _), fun x hx => (h.kids x hx).carry fun b hb' => ⟨hb.block b hb'.2.1, hb'.1, Nat.lt_of_lt_of_le hb'.2.1 hb.size, hb'.2.2⟩, h.low.trans (hb.mono h.low.size)⟩
/-- one more -/
theorem CmpSt.step {w W B W5 : World} {v v5 : Value} {es : List Elem} {x : Elem} (h : CmpSt w W v es) (hB : Below W.heap.size W B) (hx : SlP (fun b => W.heap.size ≤ b ∧ b < B.heap.size) B x.1.2.ts (Elem.sl x)) (h5 : B.grownBy W5 v.ownBlock)
    (ho : W5.ownsRow w.heap.size 105 4 v5 (es.length + 1) (ecells es ++ encE x)) (hat : v5.ownBlock = v.ownBlock ∨ v5.ownBlock = some B.heap.size) : CmpSt w W5 v5 (es ++ [x]) := by
  have z0 := h.low.size
  have zB := hB.size
  have z5 := h5.size
  have own : ∀ j, v.ownBlock = some j → w.heap.size ≤ j ∧ j < W.heap.size := fun j hj => h.row.lt j hj
  refine ⟨?_, ?_, ?_⟩
  · rw [List.length_append, ecells_append, show ecells [x] = encE x by simp [ecells]]; exact ho
  · intro y hy
    rcases List.mem_append.1 hy with hy | hy
    · refine (h.kids y hy).carry fun b hb => ⟨(h5.block b (by omega) hb.2.2).trans (hB.block b hb.2.1), hb.1, by omega, ?_⟩
      rcases hat with e | e
      · rw [e]; exact hb.2.2
      · rw [e]; intro hh; cases hh; omega
    · obtain rfl := List.mem_singleton.1 hy
      refine hx.carry fun b hb => ⟨h5.block b hb.2 (fun e => by have := own _ e.symm; omega), by omega, by omega, ?_⟩
      rcases hat with e | e
      · rw [e]; intro hh; have := own _ hh.symm; omega
      · rw [e]; intro hh; cases hh; omega
  · exact (h.low.trans (hB.mono z0)).grown h5 (by omega) (fun j hj => (own j hj).1)
theorem CmpSt.start (w : World) : CmpSt w w (.slice none 0 0) [] := ⟨World.ownsRow_nil _ _ _ _, by simp, Below.refl _ _⟩

theorem cells_new4 (W : World) (x : Elem) (e : TypeId) : ∀ j u, (encE x)[j]? = some u → (W.alloc (.cells #[.string (kb x.1.1), .string x.1.2.nm, .bool x.1.2.vr, .slice x.2.1 x.2.2.1 x.2.2.2] e)).cell? ((⟨W.heap.size, 0, none⟩ : Addr).add j) = some u := cells_new W _ _ _ _ e
theorem encE_one (x : Elem) : ∀ v ∈ encE x, v.oneCell' = true := fun v hv => by simp [encE] at hv; rcases hv with rfl | rfl | rfl | rfl <;> rfl

/-- the row as bindings -/
theorem BindsIs.ofE {W : World} {m n : Nat} {e : TypeId} {v : Value} {es : List Elem} (h : W.ownsRow m e 4 v es.length (ecells es)) (hn : W.heap.size ≤ n) (hk : ∀ x ∈ es, SlIs n W x.1.2.ts (Elem.sl x)) : BindsIs n W (es.map (·.1)) v := by
  have h0 := h
  rcases h.2 with ⟨rfl, hl⟩ | ⟨g, cap, cur, rfl, hb, hg, hle, _⟩
  · obtain rfl : es = [] := List.length_eq_zero_iff.1 hl
    exact ⟨none, 0, rfl, Nat.le_refl _, fun h => absurd rfl h⟩
  · refine ⟨_, cap, by rw [List.length_map], by rw [List.length_map]; exact hle, fun _ => ⟨g, 0, rfl, Nat.lt_of_lt_of_le (Array.getElem?_eq_some_iff.1 hg).1 hn, fun i p hp => ?_⟩⟩
    rw [List.getElem?_map, Option.map_eq_some_iff] at hp
    obtain ⟨x, hx, rfl⟩ := hp
    have key : ∀ c v, (encE x)[c]? = some v → c < 4 → W.cell? ⟨g, 0 + i * 4 + c, none⟩ = some v := fun c v hv hc => by
      have h1 := ecells_at es i c x hx hc
      rw [hv] at h1
      have := h0.cells (g := g) rfl _ v h1
      rw [ad_add] at this
      rwa [Nat.zero_add] at this ⊢
    exact ⟨Elem.sl x, key 0 _ rfl (by omega), key 1 _ rfl (by omega), key 2 _ rfl (by omega), key 3 _ rfl (by omega), hk x (List.mem_of_getElem? hx)⟩
end Go.Proofs.YtnomppdmhgefiaaGreat
/- How many letters a term takes that is formed and small. -/
namespace Go.Proofs.YtnomppdmhgefiaaGreat
open Go.RowKit

theorem Tm.bulks_by_sizes (l : List Tm) (k : Nat) (h : ∀ u ∈ l, u.bulk ≤ k * u.size) : Tm.bulks l ≤ k * Tm.sizes l := by
  induction l with
  | nil => simp [Tm.bulks]
  | cons x l ih =>
    have h1 := h x (by simp)
    have h2 := ih fun u hu => h u (by simp [hu])
    simp only [Tm.bulks, Tm.sizes, Nat.mul_add]
    omega
theorem isName_le24 {s : ByteArray} {m : Bool} (h : isName s m = true) : s.size ≤ 24 := by
  unfold isName at h
  simp only [Bool.and_eq_true, decide_eq_true_eq] at h
  exact h.1.2
theorem Tm.formed.bulk25 {t : Tm} (h : t.formed) : t.bulk ≤ 25 * t.size := by
  induction t using Tm.ind with
  | h t ih =>
    obtain ⟨h1, h2⟩ := (Tm.formed_iff t).1 h
    have hn : t.nm.size ≤ 24 := by
      unfold nodeOk at h1
      split at h1
      · simp only [Bool.and_eq_true] at h1; exact isName_le24 h1.1
      · simp only [Bool.and_eq_true] at h1; exact isName_le24 h1.1
    have := Tm.bulks_by_sizes t.ts 25 fun u hu => ih u hu (h2 u hu)
    rw [Tm.bulk_eq, Tm.size_eq]
    omega

theorem Tm.ok.bulk {t : Tm} (h : t.ok) : t.bulk ≤ 100000 := by
  have h1 := h.1.bulk25
  have h2 := h.2.1
  omega
theorem SubOk.bulk {bl : List Bd} (h : SubOk bl) (hl : bl.length ≤ 1048576) : bdBulk bl ≤ 1048576 :=
  bdBulk_le hl fun p hp => by
    have h1 := (h.terms p hp).bulk
    have h2 := isName_le24 (h.names p hp)
    have h3 : (kb p.1).size = p.1.length := by show p.1.toArray.size = _; simp
    omega
end Go.Proofs.YtnomppdmhgefiaaGreat
/- The lexicographic path order of terms: plain mathematics. No program stands here. -/
namespace Go.Proofs.YtnomppdmhgefiaaGreat
open Go.RowKit

/-- s is greater than t; rk: the rank of a name -/
inductive Lpo (rk : ByteArray → Int) : Tm → Tm → Prop
  | arg (s t : Tm) : s.vr = false → t ∈ s.ts → Lpo rk s t
  | sub (s t a : Tm) : s.vr = false → a ∈ s.ts → Lpo rk a t → Lpo rk s t
  | top (s t : Tm) : s.vr = false → t.vr = false → rk t.nm < rk s.nm → (∀ b ∈ t.ts, Lpo rk s b) → Lpo rk s t
  | lex (s t : Tm) (i : Nat) (a b : Tm) : s.vr = false → t.vr = false → s.nm = t.nm → s.ts.length = t.ts.length → (∀ b ∈ t.ts, Lpo rk s b) → s.ts[i]? = some a → t.ts[i]? = some b → s.ts.take i = t.ts.take i → Lpo rk a b → Lpo rk s t
section
variable {rk : ByteArray → Int}
theorem Lpo.fun {s t : Tm} (h : Lpo rk s t) : s.vr = false := by cases h <;> assumption
theorem mem_size {t u : Tm} (h : u ∈ t.ts) : u.size < t.size := by rw [Tm.size_eq t]; have := Tm.size_mem h; omega
/-- the ways in which a term is greater, not by an argument -/
theorem Lpo.cases' {s t : Tm} (h : Lpo rk s t) : (∃ a ∈ s.ts, a = t ∨ Lpo rk a t) ∨ (t.vr = false ∧ (∀ b ∈ t.ts, Lpo rk s b) ∧ (rk t.nm < rk s.nm ∨ (s.nm = t.nm ∧ s.ts.length = t.ts.length ∧ ∃ i a b, s.ts[i]? = some a ∧ t.ts[i]? = some b ∧ s.ts.take i = t.ts.take i ∧ Lpo rk a b))) := by
  cases h with
  | arg _ _ _ h => exact .inl ⟨t, h, .inl rfl⟩
  | sub _ _ a _ h1 h2 => exact .inl ⟨a, h1, .inr h2⟩
  | top _ _ _ h1 h2 h3 => exact .inr ⟨h1, h3, .inl h2⟩
  | lex _ _ i a b _ h1 h2 h3 h4 h5 h6 h7 h8 => exact .inr ⟨h1, h4, .inr ⟨h2, h3, i, a, b, h5, h6, h7, h8⟩⟩
theorem take_eq_of_lt {l r : List Tm} {i j : Nat} (h : l.take j = r.take j) (hi : i < j) : l[i]? = r[i]? := by
  have := congrArg (fun x : List Tm => x[i]?) h
  simpa [List.getElem?_take, hi] using this
theorem take_eq_le {l r : List Tm} {i j : Nat} (h : l.take j = r.take j) (hi : i ≤ j) : l.take i = r.take i := by
  have := congrArg (List.take i) h
  rwa [List.take_take, List.take_take, Nat.min_eq_left hi] at this
theorem Lpo.trans_n (n : Nat) : ∀ s t u : Tm, s.size + t.size + u.size ≤ n → Lpo rk s t → Lpo rk t u → Lpo rk s u := by
  induction n with
  | zero => intro s t u h; have := s.size_pos; omega
  | succ n ih =>
    intro s t u hn hst htu
    have hs := hst.fun
    rcases hst.cases' with ⟨a, ha, rfl | h⟩ | ⟨ht, hb, hc⟩
    · exact .sub s u a hs ha htu
    · have := mem_size ha
      exact .sub s u a hs ha (ih a t u (by omega) h htu)
    · rcases htu.cases' with ⟨b, hbm, rfl | h⟩ | ⟨hu, hd, he⟩
      · exact hb b hbm
      · have := mem_size hbm
        exact ih s b u (by omega) (hb b hbm) h
      · have hall : ∀ c ∈ u.ts, Lpo rk s c := fun c hcm => by
          have := mem_size hcm
          exact ih s t c (by omega) hst (hd c hcm)
        rcases hc with hc | ⟨hc1, hc2, i, a, b, ha, hb', hti, hab⟩
        · rcases he with he | ⟨he1, -⟩
          · exact .top s u hs hu (by omega) hall
          · exact .top s u hs hu (by rw [← he1]; exact hc) hall
        · rcases he with he | ⟨he1, he2, j, b2, c, hb2, hcm, htj, hbc⟩
          · exact .top s u hs hu (by rw [hc1]; exact he) hall
          · have hsu : s.nm = u.nm := hc1.trans he1
            have hlu : s.ts.length = u.ts.length := hc2.trans he2
            rcases Nat.lt_trichotomy i j with hij | hij | hij
            · refine .lex s u i a b hs hu hsu hlu hall ha ?_ (hti.trans (take_eq_le htj (Nat.le_of_lt hij))) hab
              rw [← take_eq_of_lt htj hij]; exact hb'
            · subst hij
              obtain rfl : b = b2 := by rw [hb'] at hb2; exact Option.some.inj hb2
              have h1 := mem_size (List.mem_of_getElem? ha)
              have h2 := mem_size (List.mem_of_getElem? hb')
              have h3 := mem_size (List.mem_of_getElem? hcm)
              exact .lex s u i a c hs hu hsu hlu hall ha hcm (hti.trans htj) (ih a b c (by omega) hab hbc)
            · refine .lex s u j b2 c hs hu hsu hlu hall ?_ hcm ((take_eq_le hti (Nat.le_of_lt hij)).trans htj) hbc
              rw [take_eq_of_lt hti hij]; exact hb2
theorem Lpo.trans {s t u : Tm} (h : Lpo rk s t) (k : Lpo rk t u) : Lpo rk s u := Lpo.trans_n _ s t u (Nat.le_refl _) h k
theorem Lpo.irrefl (s : Tm) : ¬ Lpo rk s s := by
  induction s using Tm.ind with
  | h s ih =>
    intro h
    have hs := h.fun
    rcases h.cases' with ⟨a, ha, rfl | h1⟩ | ⟨-, -, h1 | ⟨-, -, i, a, b, ha, hb, -, hab⟩⟩
    · have := mem_size ha; omega
    · exact ih a ha (h1.trans (.arg s a hs ha))
    · omega
    · obtain rfl : a = b := by rw [ha] at hb; exact Option.some.inj hb
      exact ih a (List.mem_of_getElem? ha) hab
end
end Go.Proofs.YtnomppdmhgefiaaGreat
/- A function on names, applied to a term: plain mathematics. No program stands here. -/
namespace Go.Proofs.YtnomppdmhgefiaaGreat
open Go.RowKit

mutual
/-- a function on names, applied to a term -/
def apF (f : Key → Tm) : Tm → Tm
  | .mk nm vr l => if vr = true then f nm.data.toList else .mk nm false (apFs f l)
def apFs (f : Key → Tm) : List Tm → List Tm
  | [] => []
  | t :: r => apF f t :: apFs f r
end
theorem apFs_eq (f : Key → Tm) (l : List Tm) : apFs f l = l.map (apF f) := by
  induction l with
  | nil => rfl
  | cons t l ih => rw [apFs, ih, List.map_cons]
theorem apF_var (f : Key → Tm) {t : Tm} (h : t.vr = true) : apF f t = f t.nm.data.toList := by
  cases t; simp only [Tm.vr] at h; subst h; rw [apF, if_pos rfl]; rfl
theorem apF_fun (f : Key → Tm) {t : Tm} (h : t.vr = false) : apF f t = .mk t.nm false (t.ts.map (apF f)) := by
  cases t; simp only [Tm.vr] at h; subst h; rw [apF, if_neg (by simp), apFs_eq]; rfl
theorem apB_apF (bl : List Bd) (t : Tm) : apB bl t = apF (imageOf bl) t := by
  induction t using Tm.ind with
  | h t ih =>
    cases hv : t.vr
    · rw [apB_fun bl hv, apF_fun _ hv, List.map_congr_left ih]
    · rw [apB_var bl hv, apF_var _ hv]
mutual
/-- the names of a term's variables -/
def Tm.vs : Tm → List Key
  | .mk nm vr l => if vr = true then [nm.data.toList] else Tm.vss l
def Tm.vss : List Tm → List Key
  | [] => []
  | t :: r => t.vs ++ Tm.vss r
end
theorem Tm.vss_mem {l : List Tm} {k : Key} : k ∈ Tm.vss l ↔ ∃ u ∈ l, k ∈ u.vs := by
  induction l with
  | nil => simp [Tm.vss]
  | cons t l ih => rw [Tm.vss, List.mem_append, ih]; simp
theorem Tm.vs_var {t : Tm} (h : t.vr = true) : t.vs = [t.nm.data.toList] := by
  cases t; simp only [Tm.vr] at h; subst h; rw [Tm.vs, if_pos rfl]; rfl
theorem Tm.vs_fun {t : Tm} (h : t.vr = false) : t.vs = Tm.vss t.ts := by
  cases t; simp only [Tm.vr] at h; subst h; rw [Tm.vs, if_neg (by simp)]; rfl
end Go.Proofs.YtnomppdmhgefiaaGreat
/- A store at a place of a term of its own: the slice then holds the term with that place replaced. No program stands here. -/
namespace Go.Proofs.YtnomppdmhgefiaaGreat
open Go.RowKit

/-- a row of cells, as terms -/
theorem SlIs.ofRow {e : TypeId} {W : World} {n₀ g : Nat} {ch : List Child} {cur : Array Value} (hne : ch ≠ []) (hg : W.heap[g]? = some (.cells cur e (0, 0))) (hgn : g < n₀) (hc : cur.toList = chCells ch)
    (hk : ∀ c ∈ ch, SlIs n₀ W c.1.ts c.2.1) : SlIs n₀ W (ch.map (·.1)) (.slice (some ⟨g, 0, none⟩) ch.length ch.length) := by
  have hlen : (ch.map (·.1)).length = ch.length := by simp
  have hcell : ∀ j, W.cell? ⟨g, j, none⟩ = (chCells ch)[j]? := fun j => by
    unfold World.cell?
    simp only [hg]
    rw [← hc, Array.getElem?_toList]; rfl
  have hch : ∀ i t, (ch.map (·.1))[i]? = some t → ∃ c : Child, ch[i]? = some c ∧ c.1 = t := fun i t ht => by rw [List.getElem?_map, Option.map_eq_some_iff] at ht; exact ht
  have key := SlIs.row (n₀ := n₀) (W := W) g 0 ch.length (ch.map (·.1)) (fun i => ((ch[i]?).map (·.2.1)).getD (.bool false)) (by simpa using hne) hgn (by simp)
    (fun i t ht => by
      obtain ⟨c, hci, rfl⟩ := hch i t ht
      obtain ⟨h1, h2, h3⟩ := chCells_at ch i c hci
      simp only [Nat.zero_add, hcell, hci, Option.map_some, Option.getD_some]
      exact ⟨h1, h2, h3⟩)
    (fun i t ht => by
      obtain ⟨c, hci, rfl⟩ := hch i t ht
      simp only [hci, Option.map_some, Option.getD_some]
      exact hk c (List.mem_of_getElem? hci))
    (fun i _ => by unfold World.frozen?; simp [hg])
  rw [hlen] at key
  exact key

end Go.Proofs.YtnomppdmhgefiaaGreat
/- At. -/
namespace Go.Proofs.YtnomppdmhgefiaaGreat
open Go.RowKit

theorem Tm.kid_mem {t : Tm} {i : Int} {u : Tm} (h : t.kid i = some u) : u ∈ t.ts := by
  unfold Tm.kid at h; split at h
  · exact List.mem_of_getElem? h
  · cases h
theorem Tm.formed.at {t u : Tm} (ht : t.formed) {l : List Int} (h : t.at l = some u) : u.formed := by
  induction l generalizing t with
  | nil => simp only [Tm.at, Option.some.injEq] at h; subst h; exact ht
  | cons i l ih =>
    simp only [Tm.at] at h
    split at h
    · rename_i x hx
      exact ih (((Tm.formed_iff t).1 ht).2 x (Tm.kid_mem hx)) h
    · cases h

end Go.Proofs.YtnomppdmhgefiaaGreat
/- The lexicographic path order: substitutions, contexts, ground terms. No program stands here. -/
namespace Go.Proofs.YtnomppdmhgefiaaGreat
open Go.RowKit
section
variable {rk : ByteArray → Int}
/-- closed under substitutions -/
theorem Lpo.subst (σ : Key → Tm) {s t : Tm} (h : Lpo rk s t) : Lpo rk (apF σ s) (apF σ t) := by
  induction h with
  | arg s t hs ht =>
    rw [apF_fun σ hs]
    exact .arg _ _ rfl (List.mem_map.2 ⟨t, ht, rfl⟩)
  | sub s t a hs ha _ ih =>
    rw [apF_fun σ hs]
    exact .sub _ _ (apF σ a) rfl (List.mem_map.2 ⟨a, ha, rfl⟩) ih
  | top s t hs ht hr _ ih =>
    rw [apF_fun σ hs] at ih ⊢
    rw [apF_fun σ ht]
    refine .top _ _ rfl rfl hr fun b hb => ?_
    obtain ⟨c, hc, rfl⟩ := List.mem_map.1 (show b ∈ t.ts.map (apF σ) from hb)
    exact ih c hc
  | lex s t i a b hs ht hn hl _ ha hb hti _ ih ihab =>
    rw [apF_fun σ hs] at ih ⊢
    rw [apF_fun σ ht]
    refine .lex _ _ i (apF σ a) (apF σ b) rfl rfl hn ?_ (fun c hc => ?_) ?_ ?_ ?_ ihab
    · show (s.ts.map (apF σ)).length = (t.ts.map (apF σ)).length
      rw [List.length_map, List.length_map, hl]
    · obtain ⟨d, hd, rfl⟩ := List.mem_map.1 (show c ∈ t.ts.map (apF σ) from hc)
      exact ih d hd
    · show (s.ts.map (apF σ))[i]? = _
      rw [List.getElem?_map, ha]; rfl
    · show (t.ts.map (apF σ))[i]? = _
      rw [List.getElem?_map, hb]; rfl
    · show (s.ts.map (apF σ)).take i = (t.ts.map (apF σ)).take i
      rw [← List.map_take, ← List.map_take, hti]
/-- closed under contexts: one argument -/
theorem Lpo.context {s t : Tm} (h : Lpo rk s t) (nm : ByteArray) (l r : List Tm) : Lpo rk (.mk nm false (l ++ s :: r)) (.mk nm false (l ++ t :: r)) := by
  refine .lex _ _ l.length s t rfl rfl rfl (by simp [Tm.ts]) (fun b hb => ?_) (by simp [Tm.ts]) (by simp [Tm.ts]) (by simp [Tm.ts]) h
  have hb : b ∈ l ++ t :: r := hb
  rw [List.mem_append, List.mem_cons] at hb
  rcases hb with hb | rfl | hb
  · exact .arg _ b rfl (List.mem_append.2 (.inl hb))
  · exact .sub _ b s rfl (List.mem_append.2 (.inr (by simp))) h
  · exact .arg _ b rfl (List.mem_append.2 (.inr (by simp [hb])))
/-- function symbols below a term -/
inductive Tm.sym (p : ByteArray → Nat → Prop) : Tm → Prop
  | mk (t : Tm) : t.vr = false → p t.nm t.ts.length → (∀ u ∈ t.ts, u.sym p) → t.sym p
theorem Tm.sym.vr {p : ByteArray → Nat → Prop} {t : Tm} (h : t.sym p) : t.vr = false := by cases h; assumption
theorem Tm.sym.top {p : ByteArray → Nat → Prop} {t : Tm} (h : t.sym p) : p t.nm t.ts.length := by cases h; assumption
theorem Tm.sym.kids {p : ByteArray → Nat → Prop} {t : Tm} (h : t.sym p) : ∀ u ∈ t.ts, u.sym p := by cases h; assumption
/-- closed under contexts -/
theorem Lpo.put {s t : Tm} (h : Lpo rk s t) {c : Tm} (hc : c.bare) : ∀ {pos : List Int} {x : Tm}, c.at pos = some x → Lpo rk (c.put pos s) (c.put pos t) := by
  induction c using Tm.ind with
  | h c ih =>
    intro pos x hx
    cases pos with
    | nil => simpa [Tm.put] using h
    | cons i l =>
      simp only [Tm.at] at hx
      cases hk : c.kid i with
      | none => rw [hk] at hx; cases hx
      | some u =>
        rw [hk] at hx
        have hu := Tm.kid_mem hk
        have hv : c.vr = false := by
          cases hv : c.vr with
          | false => rfl
          | true => rw [hc.vr0 hv] at hu; cases hu
        have h1 := ih u hu (hc.kids u hu) hx
        have hk' := hk
        unfold Tm.kid at hk'
        split at hk'
        · simp only [Tm.put, hk]
          have hlt : i.toNat < c.ts.length := (List.getElem?_eq_some_iff.1 hk').1
          have e : ∀ v : Tm, c.ts.set i.toNat v = c.ts.take i.toNat ++ v :: c.ts.drop (i.toNat + 1) := fun v => List.set_eq_take_append_cons_drop .. |>.trans (by rw [if_pos hlt])
          rw [e, e, hv]
          exact h1.context c.nm _ _
        · cases hk'
end
end Go.Proofs.YtnomppdmhgefiaaGreat
/- Merged: Rkw, Rkc, Rks. -/
/- Package path: the small functions on entries. -/
namespace Go.Proofs.YtnomppdmhgefiaaGreat
open Go.RowKit Go.Shelf

/-- an entry as a value -/
@[reducible] def rkv (p : Rk) : Value := .agg #[.string (kb p.1), .int .i64 p.2.1, .int .i64 p.2.2]
end Go.Proofs.YtnomppdmhgefiaaGreat
/- Package path: checkList at entries, Check. -/
namespace Go.Proofs.YtnomppdmhgefiaaGreat
open Go.RowKit Go.Shelf

/-- the cells of an entry -/
def RkAt (W : World) (b o : Nat) (p : Rk) : Prop := W.cell? ⟨b, o, none⟩ = some (.string (kb p.1)) ∧ W.cell? ⟨b, o + 1, none⟩ = some (.int .i64 p.2.1) ∧ W.cell? ⟨b, o + 2, none⟩ = some (.int .i64 p.2.2)
theorem RkAt.carry {n : Nat} {A W : World} {b o : Nat} {p : Rk} (h : RkAt A b o p) (hb : Below n A W) (hn : b < n) : RkAt W b o p :=
  ⟨(hb.cell (p := ⟨b, _, none⟩) hn).trans h.1, (hb.cell (p := ⟨b, _, none⟩) hn).trans h.2.1, (hb.cell (p := ⟨b, _, none⟩) hn).trans h.2.2⟩
theorem RkAt.box {W : World} {b : Nat} {p : Rk} {t : TypeId} {fr : Nat × Nat} (h : W.heap[b]? = some (.cells #[.string (kb p.1), .int .i64 p.2.1, .int .i64 p.2.2] t fr)) : RkAt W b 0 p :=
  ⟨cells_of' h 0, cells_of' h 1, cells_of' h 2⟩
theorem gtB_yes {a b : Key} (h : a < b) : (!Op.bytesLess (kb a).toList (kb b).toList) = false := by rw [kb_toList, kb_toList, bytesLess_eq, decide_eq_true h]; rfl
theorem gtB_no {a b : Key} (h : ¬ a < b) : (!Op.bytesLess (kb a).toList (kb b).toList) = true := by rw [kb_toList, kb_toList, bytesLess_eq, decide_eq_false h]; rfl
/-- the box of an entry, and what lay before -/
structure CkSt (w W : World) (X : Nat) (p : Rk) : Prop where
  box : W.heap[X]? = some (.cells #[.string (kb p.1), .int .i64 p.2.1, .int .i64 p.2.2] 137 (0, 0))
  low : Below w.heap.size w W
theorem CkSt.carry {w A W : World} {X : Nat} {p : Rk} (h : CkSt w A X p) (hb : Below A.heap.size A W) : CkSt w W X p :=
  ⟨(hb.block X (Array.getElem?_eq_some_iff.1 h.box).1).trans h.box, h.low.trans (hb.mono h.low.size)⟩
theorem CkSt.drew {w A : World} {X : Nat} {p : Rk} (h : CkSt w A X p) : CkSt w A.drew X p := h.carry (Below.refl _ A).drew
theorem CkSt.three {w W : World} {X : Nat} {p : Rk} (h : CkSt w W X p) : W.cell? ⟨X, 0, none⟩ = some (.string (kb p.1)) ∧ W.cell? ⟨X, 1, none⟩ = some (.int .i64 p.2.1) ∧ W.cell? ⟨X, 2, none⟩ = some (.int .i64 p.2.2) := (box3 h.box).1
theorem CkSt.six {w W : World} {X : Nat} {p q : Rk} (h : CkSt w W X p) {b o : Nat} (hq : RkAt w b o q) (hb : b < w.heap.size) : W.cell? ⟨X, 0, none⟩ = some (.string (kb p.1)) ∧ W.cell? ⟨X, 1, none⟩ = some (.int .i64 p.2.1) ∧ W.cell? ⟨X, 2, none⟩ = some (.int .i64 p.2.2) ∧ W.cell? ⟨b, o, none⟩ = some (.string (kb q.1)) ∧ W.cell? ⟨b, o + 1, none⟩ = some (.int .i64 q.2.1) ∧ W.cell? ⟨b, o + 2, none⟩ = some (.int .i64 q.2.2) :=
  ⟨h.three.1, h.three.2.1, h.three.2.2, (hq.carry h.low hb).1, (hq.carry h.low hb).2.1, (hq.carry h.low hb).2.2⟩
/-- the names up to k are in order -/
def NmsTo (l : List Rk) (k : Nat) : Prop := ∀ i p, i < k → l[i]? = some p → isName (kb p.1) true = true ∧ ∀ q, 0 < i → l[i - 1]? = some q → q.1 < p.1
theorem NmsTo.all {l : List Rk} (h : NmsTo l l.length) : NmsOk l := fun i p hp => h i p (List.getElem?_eq_some_iff.1 hp).1 hp
theorem NmsTo.step {l : List Rk} {k : Nat} (h : NmsTo l k) {p : Rk} (hp : l[k]? = some p) (h1 : isName (kb p.1) true = true) (h2 : ∀ q, 0 < k → l[k - 1]? = some q → q.1 < p.1) : NmsTo l (k + 1) := fun i x hi hx => by
  by_cases e : i = k
  · subst e; rw [hp] at hx; cases hx; exact ⟨h1, h2⟩
  · exact h i x (by omega) hx
end Go.Proofs.YtnomppdmhgefiaaGreat
/- Package path: the rank of a name (a search by halves). -/
namespace Go.Proofs.YtnomppdmhgefiaaGreat
open Go.RowKit Go.Shelf

theorem cmpB_lt : ∀ (a b : Key), Lib.compareBytes a b < 0 ↔ a < b
  | [], [] => by simp [Lib.compareBytes]
  | [], b :: y => by simp [Lib.compareBytes]
  | a :: x, [] => by simp [Lib.compareBytes]
  | a :: x, b :: y => by
    have ih := cmpB_lt x y
    unfold Lib.compareBytes
    rw [List.cons_lt_cons_iff]
    by_cases h1 : a < b
    · simp [h1]
    · rw [if_neg h1]
      by_cases h2 : b < a
      · have hne : a ≠ b := fun e => by subst e; exact h1 h2
        simp [h1, h2, hne]
      · have he : a = b := UInt8.le_antisymm (UInt8.not_lt.1 h2) (UInt8.not_lt.1 h1)
        rw [if_neg h2, ih]
        simp [he]
theorem cmpB_eq : ∀ (a b : Key), Lib.compareBytes a b = 0 ↔ a = b
  | [], [] => by simp [Lib.compareBytes]
  | [], b :: y => by simp [Lib.compareBytes]
  | a :: x, [] => by simp [Lib.compareBytes]
  | a :: x, b :: y => by
    have ih := cmpB_eq x y
    unfold Lib.compareBytes
    by_cases h1 : a < b
    · have hne : a ≠ b := fun e => by subst e; exact absurd h1 (UInt8.lt_irrefl _)
      simp [h1, hne]
    · rw [if_neg h1]
      by_cases h2 : b < a
      · have hne : a ≠ b := fun e => by subst e; exact absurd h2 (UInt8.lt_irrefl _)
        simp [h2, hne]
      · have he : a = b := UInt8.le_antisymm (UInt8.not_lt.1 h2) (UInt8.not_lt.1 h1)
        rw [if_neg h2, ih]
        simp [he]
/-- what the search by halves knows -/
structure BsSt (l : List Rk) (k : Key) (lo hi : Nat) : Prop where
  le : lo ≤ hi
  top : hi ≤ l.length
  low : ∀ j p, j < lo → l[j]? = some p → p.1 < k
  high : ∀ j p, hi ≤ j → l[j]? = some p → ¬ p.1 < k
end Go.Proofs.YtnomppdmhgefiaaGreat
