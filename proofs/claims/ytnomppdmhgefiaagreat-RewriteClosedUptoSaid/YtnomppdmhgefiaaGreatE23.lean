/- Packed: Gro, Isc, Rpg, Shp. -/
import Derived.WalkKit
import Derived.ProofKit
import Derived.OpenShut
import Derived.Handy
import Derived.Lib.Hide
import Derived.Deep.RegionHeld3
import Derived.Test.YtnomppdmhgefiaaGreatE10
import Derived.Test.YtnomppdmhgefiaaGreatE22
import Derived.BigQuiet
import Derived.Test.YtnomppdmhgefiaaGreatE07
import Derived.Test.YtnomppdmhgefiaaGreatE19
import Derived.Test.YtnomppdmhgefiaaGreatE18
import Derived.Test.YtnomppdmhgefiaaGreatE14
/- The reference's Grown and Fits. -/
namespace Go.Proofs.YtnomppdmhgefiaaGreat
open Go.RowKit

theorem imageOf_or (bl : List Bd) (k : Key) : (∃ q ∈ bl, imageOf bl k = q.2) ∨ imageOf bl k = .mk (kb k) true [] := by
  unfold imageOf
  cases hf : bl.find? (fun p => decide (p.1 = k)) with
  | none => exact .inr rfl
  | some q => exact .inl ⟨q, List.mem_of_find?_eq_some hf, rfl⟩
theorem grown_small {bl : List Bd} (h : ∀ q ∈ bl, q.2.size ≤ 4000) (t : Tm) : (apB bl t).size ≤ 4000 * t.size := by
  induction t using Tm.ind with
  | h t ih =>
    have hp := Tm.size_eq t
    cases hv : t.vr
    · rw [apB_fun bl hv, Tm.size_eq, hp]
      have key : ∀ l : List Tm, (∀ u ∈ l, (apB bl u).size ≤ 4000 * u.size) → Tm.sizes (l.map (apB bl)) ≤ 4000 * Tm.sizes l := by
        intro l
        induction l with
        | nil => intro _; simp [Tm.sizes]
        | cons x l ihl =>
          intro hl
          have h1 := hl x (by simp)
          have h2 := ihl fun u hu => hl u (by simp [hu])
          simp only [List.map_cons, Tm.sizes]; omega
      have := key t.ts ih
      show 1 + Tm.sizes (t.ts.map (apB bl)) ≤ _
      omega
    · rw [apB_var bl hv]
      rcases imageOf_or bl t.nm.data.toList with ⟨q, hq, e⟩ | e
      · rw [e]; have := h q hq; omega
      · rw [e, Tm.size_eq]; show 1 + 0 ≤ _; omega
set_option maxRecDepth 100000 in
set_option maxHeartbeats 4000000 in
theorem rgrown_sz (bl : List Bd) (sv : Value) (n₀ : Nat) (hlen : bl.length ≤ 100000000) (hsz : ∀ q ∈ bl, q.2.size ≤ 4000) (t : Tm) : ∀ (s : Value) (w : World), n₀ ≤ w.heap.size → BindsIs n₀ w bl sv → SlIs w.heap.size w t.ts s → t.bulk ≤ 1048576 →
    Calls Tryz.prog 53 #[sv, tmv t s] w fun e w' => e = .returned (.tuple #[.int .i64 (apB bl t).size, .int .i64 (apB bl t).depth]) ∧ Below w.heap.size w w' := by
  induction t using Tm.ind with
  | h t ih =>
    intro s w hn hbi hs hb
    obtain ⟨oa, ca, rfl, -⟩ := hs.form
    have hbi' := hbi
    obtain ⟨ob, cb, rfl, -, -⟩ := hbi'
    cases hv : t.vr with
    | true =>
      have hA : Below w.heap.size w (w.alloc (.cells #[.string t.nm, .bool true, .slice oa t.ts.length ca] 25)) := by go_grown
      have himg := rimage_any bl t.nm.data.toList (.slice ob bl.length cb) _ n₀ (Nat.le_trans hn hA.size) (hbi.carry (hA.mono hn) (Nat.le_refl _)) hlen
      rw [kb_key] at himg
      have hib : (imageOf bl t.nm.data.toList).size ≤ 1048576 := by
        rcases imageOf_or bl t.nm.data.toList with ⟨q, hq, e⟩ | e
        · rw [e]; have := hsz q hq; omega
        · rw [e, Tm.size_eq]; show 1 + 0 ≤ _; omega
      have HAP := Lib.hid (apB_var bl hv)
      have HIMG := Lib.hid himg
      have HA := Lib.hid hA
      clear ih hs hbi himg hA hsz
      go_enter Tryz.func53, Tryz.ntmps53
      rw [show tmv t (.slice oa t.ts.length ca) = .agg #[.string t.nm, .bool true, .slice oa t.ts.length ca] from by rw [tmv, hv]]
      clear hv
      go_wp2_with fail
      refine HIMG.out.mono ?_
      rintro e w1 ⟨⟨sl, rfl, h1⟩, hb1⟩
      obtain ⟨x, hx⟩ : ∃ x, x = imageOf bl t.nm.data.toList := ⟨_, rfl⟩
      rw [← hx] at h1 hib
      have HX : Hid (apB bl t = x) := Lib.hid (by rw [HAP.out, hx])
      rw [← hx]
      clear hx HAP HIMG
      obtain ⟨ox, cx, rfl, -⟩ := h1.form
      dsimp only [tmv]
      have hz1 := hb1.size
      have HTX : Hid (TBx (w1.alloc (.cells #[.string x.nm, .bool x.vr, .slice ox x.ts.length cx] 25)) w1.heap.size x (.slice ox x.ts.length cx)) := Lib.hid (TBx.new (h1.carry (Below.refl _ _) (Nat.le_trans hn (Nat.le_trans HA.out.size hz1))))
      have HW : Hid (Below w.heap.size w (w1.alloc (.cells #[.string x.nm, .bool x.vr, .slice ox x.ts.length cx] 25))) := Lib.hid ((HA.out.trans (hb1.mono HA.out.size)).alloc (Nat.le_trans HA.out.size hz1) _)
      clear h1 hb1
      go_wp2_with fail
      generalize w1.heap.size = m at HTX ⊢
      generalize (w1.alloc (.cells #[.string x.nm, .bool x.vr, .slice ox x.ts.length cx] 25)) = W0 at HTX HW ⊢
      obtain ⟨⟨x0, x1, x2⟩, -⟩ := box3 HTX.out.box
      have HTX0 := Lib.hid (HTX.out.carry (Below.refl _ W0).drew)
      have HW0 := Lib.hid (HW.out.trans ((Below.refl _ W0).drew.mono HW.out.size))
      clear HTX HW
      go_region_held3 (fun w' => w'.cell? ⟨m, 0, none⟩ = some (.string x.nm) ∧ w'.cell? ⟨m, 1, none⟩ = some (.bool x.vr) ∧ w'.cell? ⟨m, 2, none⟩ = some (.slice ox x.ts.length cx)) (go_keep) ((first
        | (go_at_call 58
           refine (rdepth_sz x (.slice ox x.ts.length cx) _ hib HTX4.out.is).mono ?_
           rintro e w5 ⟨rfl, hb5⟩
           have HTX5 := Lib.hid (HTX4.out.carry hb5); have HW5 := Lib.hid (HW4.out.trans (hb5.mono HW4.out.size)); obtain ⟨⟨x0, x1, x2⟩, -⟩ := box3 HTX5.out.box
           clear hb5)
        | (go_at_call 57
           refine (rsize_sz x (.slice ox x.ts.length cx) _ hib HTX4.out.is).mono ?_
           rintro e w5 ⟨rfl, hb5⟩
           have HTX5 := Lib.hid (HTX4.out.carry hb5); have HW5 := Lib.hid (HW4.out.trans (hb5.mono HW4.out.size)); obtain ⟨⟨x0, x1, x2⟩, -⟩ := box3 HTX5.out.box
           clear hb5)
        | (go_at_call 58
           refine (rdepth_sz x (.slice ox x.ts.length cx) _ hib HTX0.out.is).mono ?_
           rintro e w4 ⟨rfl, hb4⟩
           have HTX4 := Lib.hid (HTX0.out.carry hb4); have HW4 := Lib.hid (HW0.out.trans (hb4.mono HW0.out.size)); obtain ⟨⟨x0, x1, x2⟩, -⟩ := box3 HTX4.out.box
           clear hb4)
        | (go_at_call 57
           refine (rsize_sz x (.slice ox x.ts.length cx) _ hib HTX0.out.is).mono ?_
           rintro e w4 ⟨rfl, hb4⟩
           have HTX4 := Lib.hid (HTX0.out.carry hb4); have HW4 := Lib.hid (HW0.out.trans (hb4.mono HW0.out.size)); obtain ⟨⟨x0, x1, x2⟩, -⟩ := box3 HTX4.out.box
           clear hb4)))
      all_goals
        go_wp2_with fail
        refine bodyPost_ret (v := .tuple #[.int .i64 x.size, .int .i64 x.depth]) (by simp [results, Tryz.f53, go_sem]) rfl ?_
        exact ⟨by rw [HX.out], HW5.out⟩
    | false =>
      have HAP := Lib.hid (apB_fun bl hv)
      have hsml := grown_small (fun q hq => hsz q hq) t
      rw [apB_fun bl hv, Tm.size_eq] at hsml
      have hsb := Tm.size_bulk t
      have hls := Tm.length_sizes t.ts
      have hse := Tm.size_eq t
      have HSM : Hid (1 + Tm.sizes (t.ts.map (apB bl)) ≤ 4194304000) := Lib.hid (by have : (1 + Tm.sizes (t.ts.map (apB bl))) ≤ 4000 * t.size := hsml; omega)
      have htl : t.ts.length ≤ 1048576 := by omega
      have IH : Hid (∀ u ∈ t.ts, ∀ (s : Value) (w : World), n₀ ≤ w.heap.size → BindsIs n₀ w bl (.slice ob bl.length cb) → SlIs w.heap.size w u.ts s → u.bulk ≤ 1048576 → Calls Tryz.prog 53 #[.slice ob bl.length cb, tmv u s] w fun e w' => e = .returned (.tuple #[.int .i64 (apB bl u).size, .int .i64 (apB bl u).depth]) ∧ Below w.heap.size w w') := Lib.hid fun u hu s w h1 h2 h3 h4 => ih u hu s w h1 h2 h3 h4 
      have HBI := Lib.hid hbi
      have HSL := Lib.hid hs
      have HBK := Lib.hid hb
      have HTK : Hid (∀ (k : Nat) (u : Tm), t.ts[k]? = some u → Tm.sizes ((t.ts.take (k + 1)).map (apB bl)) = Tm.sizes ((t.ts.take k).map (apB bl)) + (apB bl u).size ∧ Tm.depths ((t.ts.take (k + 1)).map (apB bl)) = max (Tm.depths ((t.ts.take k).map (apB bl))) (apB bl u).depth ∧ Tm.sizes ((t.ts.take (k + 1)).map (apB bl)) ≤ Tm.sizes (t.ts.map (apB bl))) := Lib.hid fun k u hu => by
        refine ⟨?_, ?_, ?_⟩
        · rw [Tm.take_snoc hu, List.map_append, Tm.sizes_append]; simp [Tm.sizes]
        · rw [Tm.take_snoc hu, List.map_append, Tm.depths_append]; simp [Tm.depths]
        · have h := Tm.sizes_append ((t.ts.take (k + 1)).map (apB bl)) ((t.ts.drop (k + 1)).map (apB bl))
          rw [← List.map_append, List.take_append_drop] at h
          omega
      have HDS : Hid (∀ u : Tm, u.depth ≤ u.size) := Lib.hid Tm.depth_le
      clear ih hs hbi hb hsz hsml hsb hls hse
      go_enter Tryz.func53, Tryz.ntmps53
      rw [show tmv t (.slice oa t.ts.length ca) = .agg #[.string t.nm, .bool t.vr, .slice oa t.ts.length ca] from rfl, hv]
      clear hv
      go_wp2_with fail
      go_loopw [7, 8, 26] (fun a d i wr => ∃ (k A D : Nat), k ≤ t.ts.length ∧ a = .int .i64 A ∧ d = .int .i64 D ∧ i = .int .i64 k ∧ Hid (A = 1 + Tm.sizes ((t.ts.take k).map (apB bl)) ∧ D = Tm.depths ((t.ts.take k).map (apB bl))) ∧ A ≤ 4194304000 ∧ D ≤ 4194304000 ∧ Hid (Below w.heap.size w wr)) (fun _ _ i _ => t.ts.length - (intOf i).toNat)
      case atStart => exact ⟨0, 1, 0, by omega, rfl, rfl, rfl, Lib.hid ⟨by simp [Tm.sizes], by simp [Tm.depths]⟩, by omega, by omega, Lib.hid (by go_grown)⟩
      case round =>
        obtain ⟨k, A, D, hk, rfl, rfl, rfl, HAD, hA, hD, HBW⟩ := hrel
        by_cases hlt : k < t.ts.length
        · have hz := HBW.out.size
          obtain ⟨b, o, u, su, rfl, hbb, hu, hum, hus, c1, c2, c3⟩ := (HSL.out.carry HBW.out hz).get (k := k) hlt
          obtain ⟨ou, cu, rfl, -⟩ := hus.form
          have hub : u.bulk ≤ 1048576 := by have := Tm.bulk_mem hum; have := Tm.bulk_eq t; have := HBK.out; omega
          have hstep := HTK.out k u hu
          have HST := Lib.hid hstep
          have hsu : A + (apB bl u).size ≤ 4194304000 := by have := HAD.out.1; have := HSM.out; have := hstep.1; have := hstep.2.2; omega
          have hdu : (apB bl u).depth ≤ 4194304000 := by have := HDS.out (apB bl u); omega
          have IHu : ∀ W1, Below wr.heap.size wr W1 → Hid (Calls Tryz.prog 53 #[.slice ob bl.length cb, tmv u (.slice ou u.ts.length cu)] W1 fun e w' => e = .returned (.tuple #[.int .i64 (apB bl u).size, .int .i64 (apB bl u).depth]) ∧ Below W1.heap.size W1 w') := fun W1 hW => Lib.hid
            (IH.out u hum _ W1 (Nat.le_trans hn (Nat.le_trans hz hW.size)) (HBI.out.carry ((HBW.out.trans (hW.mono hz)).mono hn) (Nat.le_refl _)) (hus.carry hW hW.size) hub)
          clear hu hus hstep
          generalize hgs : (apB bl u).size = gs at hsu HST IHu
          generalize hgd : (apB bl u).depth = gd at hdu HST IHu
          clear hgs hgd
          go_wp2_with fail
          refine (IHu _ (by go_grown)).out.mono ?_
          rintro e w1 ⟨rfl, hb1⟩
          have HB1 : Hid (Below w.heap.size w w1) := Lib.hid (HBW.out.trans ((show Below wr.heap.size wr _ from by go_grown).trans (hb1.mono (by simp)) |>.mono hz))
          clear hb1 IHu
          go_wp2_with fail
          exact ⟨⟨k + 1, A + gs, max D gd, by omega, by go_num, by go_num, by go_num, Lib.hid (by have h1 := HAD.out; have h2 := HST.out; exact ⟨by omega, by rw [h1.2]; exact h2.2.1.symm⟩), by omega, by omega, HB1⟩, by simp [intOf]; omega⟩
        · obtain rfl : k = t.ts.length := by omega
          have HE : Hid (A = (apB bl t).size ∧ D + 1 = (apB bl t).depth) := Lib.hid (by
            have h := HAD.out
            rw [List.take_length] at h
            rw [HAP.out, Tm.size_eq, Tm.depth_eq]
            exact ⟨h.1, by rw [h.2, Nat.add_comm]; rfl⟩)
          go_wp2_with fail
          refine bodyPost_ret (v := .tuple #[.int .i64 A, .int .i64 (D + 1)]) (by simp [results, Tryz.f53, go_sem]) rfl ?_
          exact ⟨by rw [← HE.out.1, ← HE.out.2]; rfl, HBW.out⟩
theorem rgrown_any (bl : List Bd) (sv : Value) (n₀ : Nat) (hlen : bl.length ≤ 100000000) (hsz : ∀ q ∈ bl, q.2.size ≤ 4000 ∧ q.2.bulk ≤ 1048576) (t : Tm) : ∀ (s : Value) (w : World), n₀ ≤ w.heap.size → BindsIs n₀ w bl sv → SlIs w.heap.size w t.ts s → t.bulk ≤ 1048576 → t.bare →
    Calls Tryz.prog 53 #[sv, tmv t s] w fun e w' => e = .returned (.tuple #[.int .i64 (apB bl t).size, .int .i64 (apB bl t).depth]) ∧ Below w.heap.size w w' :=
  fun s w hn hbi hs hb _ => rgrown_sz bl sv n₀ hlen (fun q hq => (hsz q hq).1) t s w hn hbi hs hb
set_option maxRecDepth 100000 in
set_option maxHeartbeats 4000000 in
theorem rfits_any (bl : List Bd) (sv : Value) (n₀ : Nat) (hlen : bl.length ≤ 100000000) (hsz : ∀ q ∈ bl, q.2.size ≤ 4000 ∧ q.2.bulk ≤ 1048576) (t : Tm) (s : Value) (w : World) (hn : n₀ ≤ w.heap.size) (hbi : BindsIs n₀ w bl sv) (hs : SlIs w.heap.size w t.ts s) (hb : t.bulk ≤ 1048576) (hbare : t.bare) :
    Calls Tryz.prog 14 #[sv, tmv t s] w fun e w' => e = .returned (.bool (decide ((apB bl t).size ≤ 4000 ∧ (apB bl t).depth ≤ 200))) ∧ Below w.heap.size w w' := by
  obtain ⟨oa, ca, rfl, -⟩ := hs.form
  have hbi' := hbi
  obtain ⟨ob, cb, rfl, -, -⟩ := hbi'
  have hA : Below w.heap.size w (w.alloc (.cells #[.string t.nm, .bool t.vr, .slice oa t.ts.length ca] 25)) := by go_grown
  have HGR := Lib.hid (rgrown_any bl (.slice ob bl.length cb) n₀ hlen hsz t _ _ (Nat.le_trans hn hA.size) (hbi.carry (hA.mono hn) (Nat.le_refl _)) (hs.carry hA hA.size) hb hbare)
  have HA := Lib.hid hA
  clear hbi hs hsz hA
  generalize (apB bl t).size = gs at HGR ⊢
  generalize (apB bl t).depth = gd at HGR ⊢
  go_enter Tryz.func14, Tryz.ntmps14
  go_wp2_with fail
  refine HGR.out.mono ?_
  rintro e w1 ⟨rfl, hb1⟩
  have HB1 : Hid (Below w.heap.size w w1) := Lib.hid (HA.out.trans (hb1.mono HA.out.size))
  clear hb1 HGR
  go_wp2_with fail
  · go_ret
    exact ⟨congrArg (fun b => Ending.returned (.bool b)) (show decide ((gd : Int) ≤ 200) = decide (gs ≤ 4000 ∧ gd ≤ 200) from decide_eq_decide.2 (by omega)), HB1.out⟩
  · go_ret
    exact ⟨congrArg (fun b => Ending.returned (.bool b)) (show false = (decide (gs ≤ 4000) && decide (gd ≤ 200)) from by rw [decide_eq_false (show ¬ gs ≤ 4000 by omega)]; rfl), HB1.out⟩
end Go.Proofs.YtnomppdmhgefiaaGreat
/- is: the wanted term, or the wanted error with the zero term. -/
namespace Go.Proofs.YtnomppdmhgefiaaGreat
open Go.RowKit

set_option maxRecDepth 100000 in
set_option maxHeartbeats 2000000 in
theorem is_any (t v : Tm) (st sv : Value) (c d : Int) (w : World) (hs : SlIs w.heap.size w t.ts st) (hv : SlIs w.heap.size w v.ts sv) (hbt : t.bulk ≤ 1048576) (hbv : v.bulk ≤ 1048576) :
    Calls Tryz.prog 20 #[tmv t st, .int .i64 c, tmv v sv, .int .i64 d] w fun e w' => (∃ b : Bool, e = .returned (.bool b) ∧ (b = true ↔ (d ≠ 0 ∧ c = d ∧ t = Tm.zero) ∨ (d = 0 ∧ c = 0 ∧ t = v))) ∧ Below w.heap.size w w' := by
  obtain ⟨to, tc, rfl, -⟩ := hs.form
  obtain ⟨vo, vc, rfl, -⟩ := hv.form
  have hG : Below w.heap.size w ((w.alloc (.cells #[.string t.nm, .bool t.vr, .slice to t.ts.length tc] 25)).alloc (.cells #[.string v.nm, .bool v.vr, .slice vo v.ts.length vc] 25)) := by go_grown
  have HG := Lib.hid hG
  have HS := Lib.hid (hs.carry hG hG.size)
  have HV := Lib.hid (hv.carry hG hG.size)
  have h0 : ((w.alloc (.cells #[.string t.nm, .bool t.vr, .slice to t.ts.length tc] 25)).alloc (.cells #[.string v.nm, .bool v.vr, .slice vo v.ts.length vc] 25)).heap[w.heap.size]? = some (.cells #[.string t.nm, .bool t.vr, .slice to t.ts.length tc] 25 (0, 0)) := (Below.heap_alloc _ _ _ (by simp)).trans (World.alloc_heap_new w _)
  obtain ⟨⟨x0, x1, x2⟩, -⟩ := box3 h0
  obtain ⟨⟨y0, y1, y2⟩, -⟩ := box3 (heap_new_at (w.alloc (.cells #[.string t.nm, .bool t.vr, .slice to t.ts.length tc] 25)) (.cells #[.string v.nm, .bool v.vr, .slice vo v.ts.length vc] 25) (w.heap.size + 1) (by simp))
  clear hG hs hv h0
  by_cases hd : d = 0
  · have hd0 : (d != 0) = false := by rw [bne_eq_false_iff_eq]; exact hd
    have HD := Lib.hid hd
    clear hd
    by_cases hc : c = 0
    · have hc0 : (c == 0) = true := by simpa using hc
      have HC := Lib.hid hc
      clear hc
      go_enter Tryz.func20, Tryz.ntmps20
      simp only [tmv]
      go_wp2_with (go_at_call 16; refine (requal_any t v (.slice to t.ts.length tc) (.slice vo v.ts.length vc) _ hbt hbv HS.out HV.out).mono ?_; rintro e w2 ⟨⟨b, rfl, hb⟩, hb2⟩; have HB := Lib.hid hb; have HB2 := Lib.hid hb2; clear hb hb2)
      refine bodyPost_ret (v := .bool b) (by simp [results, Tryz.f20, go_sem]) rfl ⟨⟨b, rfl, ?_⟩, HG.out.trans (HB2.out.mono HG.out.size)⟩
      rw [HB.out]
      exact ⟨fun h => .inr ⟨HD.out, HC.out, h⟩, fun h => by rcases h with ⟨h1, -⟩ | ⟨-, -, h1⟩; exact absurd HD.out h1; exact h1⟩
    · have hc0 : (c == 0) = false := by simpa using hc
      have HC := Lib.hid hc
      clear hc
      go_enter Tryz.func20, Tryz.ntmps20
      simp only [tmv]
      go_wp2_with fail
      refine bodyPost_ret (v := .bool false) (by simp [results, Tryz.f20, go_sem]) rfl ⟨⟨false, rfl, ?_⟩, HG.out⟩
      exact ⟨fun h => (by cases h), fun h => by rcases h with ⟨h1, -⟩ | ⟨-, h1, -⟩; exact absurd HD.out h1; exact absurd h1 HC.out⟩
  · have hd0 : (d != 0) = true := by rw [bne_iff_ne]; exact hd
    have HD := Lib.hid hd
    clear hd
    by_cases hc : c = d
    · have hc0 : (c == d) = true := by simpa using hc
      have HC := Lib.hid hc
      clear hc
      go_enter Tryz.func20, Tryz.ntmps20
      simp only [tmv]
      go_wp2_with (go_at_call 16; refine (requal_any t Tm.zero (.slice to t.ts.length tc) (.slice none 0 0) _ hbt (by decide) HS.out .nil0).mono ?_; rintro e w2 ⟨⟨b, rfl, hb⟩, hb2⟩; have HB := Lib.hid hb; have HB2 := Lib.hid hb2; clear hb hb2)
      refine bodyPost_ret (v := .bool b) (by simp [results, Tryz.f20, go_sem]) rfl ⟨⟨b, rfl, ?_⟩, HG.out.trans (HB2.out.mono HG.out.size)⟩
      rw [HB.out]
      exact ⟨fun h => .inl ⟨HD.out, HC.out, h⟩, fun h => by rcases h with ⟨-, -, h1⟩ | ⟨h1, -⟩; exact h1; exact absurd h1 HD.out⟩
    · have hc0 : (c == d) = false := by simpa using hc
      have HC := Lib.hid hc
      clear hc
      go_enter Tryz.func20, Tryz.ntmps20
      simp only [tmv]
      go_wp2_with fail
      refine bodyPost_ret (v := .bool false) (by simp [results, Tryz.f20, go_sem]) rfl ⟨⟨false, rfl, ?_⟩, HG.out⟩
      exact ⟨fun h => (by cases h), fun h => by rcases h with ⟨-, h1, -⟩ | ⟨h1, -⟩; exact absurd h1 HC.out; exact absurd h1 HD.out⟩
end Go.Proofs.YtnomppdmhgefiaaGreat
/- perform, with a word on the blocks in which its result lies. -/
namespace Go.Proofs.YtnomppdmhgefiaaGreat
open Go.RowKit

/-- how perform answers, by blocks: p holds what the given term lies in, n on is new -/
def PfPostP (p : Nat → Prop) (n : Nat) (x : PfR) (w' : World) (e : Ending) : Prop :=
  match x with
  | .ok r _ => (r.ok ∧ ∃ sr, e = .returned (.tuple #[tmv r sr, .int .i64 0]) ∧ SlP (fun b => (p b ∨ n ≤ b) ∧ b < w'.heap.size) w' r.ts sr) ∨ (¬ r.ok ∧ ∃ c : Int, c ≠ 0 ∧ (r.formed → c = 3) ∧ e = .returned (.tuple #[.agg #[.string ⟨#[]⟩, .bool false, .slice none 0 0], .int .i64 c]))
  | .big => e = .returned (.tuple #[.agg #[.string ⟨#[]⟩, .bool false, .slice none 0 0], .int .i64 3])
  | .bad => ∃ c : Int, c ≠ 0 ∧ e = .returned (.tuple #[.agg #[.string ⟨#[]⟩, .bool false, .slice none 0 0], .int .i64 c])
/-- the variables of perform, as they lie -/
structure PfMq (p : Nat → Prop) (w wr : World) (t : Tm) (st : Value) (r : Tm) (sr : Value) : Prop where
  tb : wr.heap[w.heap.size]? = some (.cells #[.string t.nm, .bool t.vr, st] 25 (0, 0))
  rb : wr.heap[w.heap.size + 1]? = some (.cells #[.string ⟨#[]⟩, .bool false, .slice none 0 0] 25 (0, 0))
  vb : wr.heap[w.heap.size + 1 + 1]? = some (.cells #[.string r.nm, .bool r.vr, sr] 25 (0, 0))
  is : SlP (fun b => (p b ∨ w.heap.size + 1 + 1 < b) ∧ b < wr.heap.size) wr r.ts sr
  bl : Below w.heap.size w wr
theorem PfMq.next {p : Nat → Prop} {w wr wr' : World} {t : Tm} {st : Value} {r : Tm} {sr : Value} (h : PfMq p w wr t st r sr) (hb : Below wr.heap.size wr wr') : PfMq p w wr' t st r sr :=
  ⟨(hb.block _ (Array.getElem?_eq_some_iff.1 h.tb).1).trans h.tb, (hb.block _ (Array.getElem?_eq_some_iff.1 h.rb).1).trans h.rb, (hb.block _ (Array.getElem?_eq_some_iff.1 h.vb).1).trans h.vb, h.is.carry (fun b hb' => ⟨hb.block b hb'.2, hb'.1, Nat.lt_of_lt_of_le hb'.2 hb.size⟩), h.bl.trans (hb.mono h.bl.size)⟩
theorem PfMq.is' {p : Nat → Prop} {w wr : World} {t : Tm} {st : Value} {r : Tm} {sr : Value} (h : PfMq p w wr t st r sr) : SlIs wr.heap.size wr r.ts sr := h.is.toIs fun _ hb => hb.2
theorem PfMq.lt {p : Nat → Prop} {w wr : World} {t : Tm} {st : Value} {r : Tm} {sr : Value} (h : PfMq p w wr t st r sr) : w.heap.size + 1 + 1 < wr.heap.size := (Array.getElem?_eq_some_iff.1 h.vb).1

set_option maxRecDepth 100000 in
set_option maxHeartbeats 4000000 in
theorem perform_p (pB : Nat → Prop) (L : List RlV) (rv : Value) (t : Tm) (s : Value) (l : List Stp) (lv : Value) (w : World) (hr : RulV w.heap.size w L rv) (hpw : ∀ b, pB b → b < w.heap.size) (hq : SlP pB w t.ts s) (hl : StpsIs w.heap.size w l lv)
    (hok : SysOk L) (ht : t.ok) (hlb : ∀ x ∈ sidesV L, x.1.bulk ≤ 1048576) (hll : l.length ≤ 1048576) (hg : PfGood L t t l) :
    Calls Tryz.prog 46 #[rv, tmv t s, lv] w fun e w' => PfPostP pB w.heap.size (pfRun L t t 0 l) w' e ∧ Below w.heap.size w w' := by
  have hs : SlIs w.heap.size w t.ts s := hq.toIs hpw
  obtain ⟨oa, cap, rfl, -⟩ := hs.form
  have HQ := Lib.hid hq
  have HPW := Lib.hid hpw
  clear hq hpw
  obtain ⟨ol, cl, rfl⟩ := hr.shape
  obtain ⟨ov, cv, rfl, hcv, -⟩ := id hl
  have HR := Lib.hid hr
  have HS := Lib.hid hs
  have HL := Lib.hid hl
  have HOK := Lib.hid hok
  have HT := Lib.hid ht
  have HLB := Lib.hid hlb
  have HG := Lib.hid hg
  have htb := ht.bulk
  clear hr hs hl hok ht hlb hg
  rw [show tmv t (.slice oa t.ts.length cap) = .agg #[.string t.nm, .bool t.vr, .slice oa t.ts.length cap] from rfl]
  go_enter Tryz.func46, Tryz.ntmps46
  go_wp2_with fail
  go_loopw [9, 19] (fun sz i wr => ∃ (j : Nat) (r : Tm) (n : Nat) (sr : Value), j ≤ l.length ∧ i = .int .i64 j ∧ sz = .int .i64 n ∧ n ≤ 4000 ∧ Hid (PfMq pB w wr t (.slice oa t.ts.length cap) r sr) ∧ Hid (pfRun L t t 0 l = pfRun L t r n (l.drop j)) ∧ Hid (PfGood L t r (l.drop j)) ∧ Hid (r.formed ∧ r.size ≤ 4000 + n)) (fun _ i _ => l.length - (intOf i).toNat)
  case atStart => exact ⟨0, t, 0, _, by omega, rfl, rfl, by omega, Lib.hid ⟨(Below.heap_alloc _ _ _ (by simp <;> omega)).trans ((Below.heap_alloc _ _ _ (by simp <;> omega)).trans (heap_new_at _ _ _ rfl)), (Below.heap_alloc _ _ _ (by simp <;> omega)).trans (heap_new_at _ _ _ (by simp)), heap_new_at _ _ _ (by simp), HQ.out.carry (fun b hb => ⟨(show Below w.heap.size w _ from by go_grown).block b (HPW.out b hb), .inl hb, by have := HPW.out b hb; simp; omega⟩), by go_grown⟩, Lib.hid (by simp), Lib.hid (by simpa using HG.out), Lib.hid ⟨HT.out.1, by have := HT.out.2.1; omega⟩⟩
  case round =>
    obtain ⟨j, r, n, sr, hj, rfl, rfl, hn4, HM, HRUN, HGOOD, HF⟩ := hrel
    obtain ⟨or, cr, rfl⟩ := HM.out.is.form
    obtain ⟨⟨t0, t1, t2⟩, -⟩ := box3 HM.out.tb
    obtain ⟨⟨r0, r1, r2⟩, f0, f1, f2⟩ := box3 HM.out.rb
    obtain ⟨⟨v0, v1, v2⟩, g0, g1, g2⟩ := box3 HM.out.vb
    have hwz := HM.out.lt
    by_cases hlt : j < l.length
    · obtain ⟨b, o, p, op, cp, rfl, hbn, hpk, c0, c1, hpos, hpl⟩ := (HL.out.carry HM.out.bl (Nat.le_refl _)).get hlt
      have HDR : Hid (l.drop j = p :: l.drop (j + 1)) := Lib.hid (by rw [List.drop_eq_getElem_cons hlt]; rw [List.getElem?_eq_getElem hlt] at hpk; cases hpk; rfl)
      obtain ⟨rule, pos⟩ := p
      simp only at c0 c1 hpos hpl
      have hba : Below wr.heap.size wr (wr.alloc (.cells #[.int .i64 rule, .slice op pos.length cp] 28)) := by go_grown
      have HSB := Lib.hid (rwsubst_any L (.slice ol L.length cl) t (.slice oa t.ts.length cap) rule pos (.slice op pos.length cp) _ (HR.out.carry ((HM.out.next hba).bl) (HM.out.next hba).bl.size) (HS.out.carry ((HM.out.next hba).bl) (HM.out.next hba).bl.size) (hpos.1.carry (hba.mono HM.out.bl.size) (by simp; omega)) HOK.out HT.out HLB.out hpl (by omega))
      have HPOS := Lib.hid (hpos.carry (hba.mono HM.out.bl.size) (Nat.le_refl _))
      have HM1 := Lib.hid (HM.out.next hba)
      clear hba hpk hpos t0 t1 t2
      obtain ⟨⟨t0, t1, t2⟩, -⟩ := box3 HM1.out.tb
      obtain ⟨⟨s0, s1⟩, -⟩ := box2g (heap_new_at wr (.cells #[.int .i64 rule, .slice op pos.length cp] 28) _ rfl)
      go_wp2_with fail
      refine HSB.out.mono ?_
      rintro e w1 ⟨hpost, hb1⟩
      have hsb := (hb1.block wr.heap.size (by simp)).trans (heap_new_at wr (.cells #[.int .i64 rule, .slice op pos.length cp] 28) _ rfl)
      have HM2 := Lib.hid (HM1.out.next hb1)
      have HSBX := Lib.hid hsb
      have HPOS1 := Lib.hid (HPOS.out.carry (hb1.mono (by simp; omega)) (Nat.le_refl _))
      have hz1 := hb1.size
      simp only [World.size_alloc] at hz1
      clear hb1 HSB HM1 HPOS t0 t1 t2 r0 r1 r2 f0 f1 f2 v0 v1 v2 g0 g1 g2 s0 s1
      obtain ⟨⟨t0, t1, t2⟩, -⟩ := box3 HM2.out.tb
      obtain ⟨⟨r0, r1, r2⟩, f0, f1, f2⟩ := box3 HM2.out.rb
      obtain ⟨⟨v0, v1, v2⟩, g0, g1, g2⟩ := box3 HM2.out.vb
      obtain ⟨⟨s0, s1⟩, -⟩ := box2g HSBX.out
      rcases hpost with ⟨bs, q, bv, rfl, hstep, hbi⟩ | ⟨c, rfl, hc, hstep⟩
      · have HST := Lib.hid hstep
        have HBI := Lib.hid hbi
        clear hstep hbi
        obtain ⟨hsub, hql, xx, -, -⟩ := stepM_sub HST.out HOK.out HT.out
        obtain ⟨k, x, m, rfl, hkq, hx, hm, rfl⟩ := stepM_some HST.out
        have hkl : k < L.length := (List.getElem?_eq_some_iff.1 hkq).1
        have hbl : (subK m).length ≤ 1048576 := by
          have h1 := (match_len (HOK.out.2.1 _ (sidesV_mem hql).1).1.bare hm).2
          have h2 := (HOK.out.2.1 _ (sidesV_mem hql).1).2.1
          rw [subK_len]; omega
        obtain ⟨b', o', pl, pr, olx, orx, clx, crx, rfl, hbn', hpk', -, hsr, -, -, -, d3, d4, d5⟩ := (HR.out.carry HM2.out.bl (Nat.le_refl _)).get hkl
        rw [hkq] at hpk'
        obtain rfl : q = _ := Option.some.inj hpk'
        have hpro := HOK.out.2.1 _ (sidesV_mem hql).2
        have HAP := Lib.hid (tapply_new (subK m) bv pr (.slice orx pr.ts.length crx) w1 HBI.out (hsub.bulk hbl) (hsr.carry (Below.refl _ _) HM2.out.bl.size) (by have := hpro.bulk; simp only at this; omega))
        have HSUB := Lib.hid hsub
        have HPRO := Lib.hid hpro
        obtain ⟨obv, cbv, rfl, -, -⟩ := id HBI.out
        clear hsub hql hkq hx hm hbl hpk' hsr hpro
        go_wp2_with fail
        refine HAP.out.mono ?_
        rintro e w2 ⟨u, c, ⟨⟨su, rfl, hsu⟩, hb2⟩, hc⟩
        obtain ⟨ou, cu, rfl⟩ := hsu.form
        dsimp only [tmv]
        have hsb2 := (hb2.block wr.heap.size (Array.getElem?_eq_some_iff.1 HSBX.out).1).trans HSBX.out
        have hbx : Below w2.heap.size w2 (w2.alloc (.cells #[.string u.nm, .bool u.vr, .slice ou u.ts.length cu] 25)) := by go_grown
        have HM3 := Lib.hid ((HM2.out.next hb2).next hbx)
        have HSB3 := Lib.hid ((hbx.block wr.heap.size (Array.getElem?_eq_some_iff.1 hsb2).1).trans hsb2)
        have HPOS3 := Lib.hid ((HPOS1.out.carry (hb2.mono HM2.out.bl.size) (Nat.le_refl _)).carry (hbx.mono (by have := (HM2.out.next hb2).bl.size; omega)) (Nat.le_refl _))
        have HSU := Lib.hid hsu
        have HBX := Lib.hid hbx
        have hz2 := hb2.size
        clear hsb2 hbx hb2 hsu t0 t1 t2 r0 r1 r2 f0 f1 f2 v0 v1 v2 g0 g1 g2 s0 s1
        obtain ⟨⟨r0, r1, r2⟩, f0, f1, f2⟩ := box3 HM3.out.rb
        obtain ⟨⟨v0, v1, v2⟩, g0, g1, g2⟩ := box3 HM3.out.vb
        obtain ⟨⟨s0, s1⟩, -⟩ := box2g HSB3.out
        obtain ⟨⟨x0, x1, x2⟩, -⟩ := box3 (heap_new_at w2 (.cells #[.string u.nm, .bool u.vr, .slice ou u.ts.length cu] 25) _ rfl)
        rcases hc with ⟨rfl, -, -, hsm, hu⟩ | ⟨hc, hu, hbig⟩
        · have HSM := Lib.hid hsm
          have HU := Lib.hid hu
          clear hsm hu
          have huf : u.formed := by rw [HU.out]; exact apB_formed (fun q hq => (HSUB.out.terms q hq).1) HPRO.out.1
          have husz : u.size ≤ 4000 ∧ u.depth ≤ 200 := by rw [HU.out]; exact HSM.out
          have hub : u.bulk ≤ 100000 := (show u.ok from ⟨huf, husz.1, husz.2⟩).bulk
          have HUF := Lib.hid huf
          have husz1 := husz.1
          clear huf husz
          have HSZ := Lib.hid (tsize_any u (.slice ou u.ts.length cu) _ ((HSU.out.toIs fun b hb => hb.2).carry HBX.out HBX.out.size) (by omega))
          go_wp2_with fail
          refine HSZ.out.mono ?_
          rintro e w4 ⟨rfl, hb4⟩
          have hsb4 := (hb4.block wr.heap.size (Array.getElem?_eq_some_iff.1 HSB3.out).1).trans HSB3.out
          have hxb4 := (hb4.block w2.heap.size (by simp)).trans (heap_new_at w2 (.cells #[.string u.nm, .bool u.vr, .slice ou u.ts.length cu] 25) _ rfl)
          have HM4 := Lib.hid (HM3.out.next hb4)
          have HPOS4 := Lib.hid (HPOS3.out.carry (hb4.mono HM3.out.bl.size) (Nat.le_refl _))
          have HBX4 := Lib.hid (HBX.out.trans (hb4.mono HBX.out.size))
          have hz4 := hb4.size
          clear hb4 HSZ r0 r1 r2 f0 f1 f2 v0 v1 v2 g0 g1 g2 s0 s1 x0 x1 x2
          obtain ⟨⟨r0, r1, r2⟩, f0, f1, f2⟩ := box3 HM4.out.rb
          obtain ⟨⟨v0, v1, v2⟩, g0, g1, g2⟩ := box3 HM4.out.vb
          obtain ⟨⟨s0, s1⟩, -⟩ := box2g hsb4
          obtain ⟨⟨x0, x1, x2⟩, -⟩ := box3 hxb4
          by_cases hbg : 4000 < n + u.size
          · have HBR : Hid (pfRun L t t 0 l = .big) := Lib.hid (by rw [HRUN.out, HDR.out]; simp only [pfRun, HST.out]; rw [if_neg (fun h => by have := h.2; rw [← HU.out] at this; omega)])
            clear hsb4 hxb4
            go_wp2_with fail
            obtain ⟨⟨q0, q1, q2⟩, -⟩ := box3 (box3_set HM4.out.rb (.string ⟨#[]⟩) (.bool false) (.slice none 0 0))
            refine bodyPost_ret (v := .tuple #[.agg #[.string ⟨#[]⟩, .bool false, .slice none 0 0], .int .i64 3]) (by simp [results, Tryz.f46, go_sem, q0, q1, q2]) rfl ?_
            rw [HBR.out]
            exact ⟨rfl, below_set3 HM4.out.bl (by omega) _ _ _⟩
          · have hgd := HGOOD.out
            rw [HDR.out] at hgd
            have hgn := (hgd _ _ HST.out).2
            have hga := (hgd _ _ HST.out).1
            have HRUN2 : Hid (pfRun L t t 0 l = pfRun L t (r.put pos u) (n + u.size) (l.drop (j + 1))) := Lib.hid (by rw [HRUN.out, HDR.out, HU.out]; simp only [pfRun, HST.out]; rw [if_pos ⟨HSM.out, by have := hbg; rw [HU.out] at this; omega⟩])
            rw [← show u = apB (subK m) pr from HU.out] at hgn
            have HPT := Lib.hid (rwput_any w.heap.size (fun b => (pB b ∨ w.heap.size + 1 + 1 < b) ∧ b < w4.heap.size) pos r (.slice or r.ts.length cr) (.slice op pos.length cp) u (.slice ou u.ts.length cu) w4 HM4.out.bl.size (fun b hb => hb.2) HM4.out.is HPOS4.out.1 HPOS4.out.2
              (HSU.out.carry fun b hb => ⟨HBX4.out.block b hb.2, .inr (by have := HM2.out.lt; omega), by simp at hz4; omega⟩) hga hpl (by have := HF.out.1.bulk25; have := HF.out.2; omega))
            have HGN := Lib.hid hgn
            clear hsb4 hxb4 hgd hgn hga
            go_wp2_with fail
            refine HPT.out.mono ?_
            rintro e w5 ⟨⟨sr5, rfl, hsr5⟩, hb5⟩
            obtain ⟨o5, c5, rfl⟩ := hsr5.form
            dsimp only [tmv]
            have HM5 := Lib.hid (HM4.out.next hb5)
            have HS5 := Lib.hid hsr5
            have hz5 := hb5.size
            clear hb5 hsr5 r0 r1 r2 f0 f1 f2 v0 v1 v2 g0 g1 g2 s0 s1 x0 x1 x2
            obtain ⟨⟨v0, v1, v2⟩, g0, g1, g2⟩ := box3 HM5.out.vb
            go_wp2_with fail
            have hlt4 := HM4.out.lt
            refine ⟨⟨j + 1, r.put pos u, n + u.size, _, by omega, by go_num, by push_cast; rfl, by omega, Lib.hid ⟨(heap_set3 _ _ _ _ _ _ (by omega)).trans HM5.out.tb, (heap_set3 _ _ _ _ _ _ (by omega)).trans HM5.out.rb, box3_set HM5.out.vb _ _ _, ?_, below_set3 HM5.out.bl (by omega) _ _ _⟩, HRUN2, HGN, Lib.hid ⟨Tm.put_formed HF.out.1 HUF.out pos, by have := Tm.put_size r pos u; have := HF.out.2; omega⟩⟩, by simp only [intOf]; omega⟩
            exact HS5.out.carry fun b hb => ⟨heap_set3 _ _ _ _ _ _ (by rcases hb.1 with ⟨h | h, h2⟩ | h; (have := HPW.out b h; omega); omega; omega), by rcases hb.1 with ⟨h | h, h2⟩ | h; exact .inl h; exact .inr h; exact .inr (by omega), by simpa [World.setCell] using hb.2⟩
        · have HBIG := Lib.hid (hbig HSUB.out HPRO.out)
          obtain rfl : c = 3 := HBIG.out.2
          have HBR : Hid (pfRun L t t 0 l = .big) := Lib.hid (by rw [HRUN.out, HDR.out]; simp only [pfRun, HST.out]; rw [if_neg (fun h => HBIG.out.1 h.1)])
          clear hbig hc hu
          go_wp2_with fail
          obtain ⟨⟨q0, q1, q2⟩, -⟩ := box3 (box3_set HM3.out.rb (.string ⟨#[]⟩) (.bool false) (.slice none 0 0))
          refine bodyPost_ret (v := .tuple #[.agg #[.string ⟨#[]⟩, .bool false, .slice none 0 0], .int .i64 3]) (by simp [results, Tryz.f46, go_sem, q0, q1, q2]) rfl ?_
          rw [HBR.out]
          exact ⟨rfl, below_set3 HM3.out.bl (by omega) _ _ _⟩
      · have HBAD : Hid (pfRun L t t 0 l = .bad) := Lib.hid (by rw [HRUN.out, HDR.out]; simp only [pfRun, hstep])
        clear hstep
        have hcb : (c != 0) = true := by simpa using hc
        go_wp2_with fail
        obtain ⟨⟨q0, q1, q2⟩, -⟩ := box3 (box3_set HM2.out.rb (.string ⟨#[]⟩) (.bool false) (.slice none 0 0))
        refine bodyPost_ret (v := .tuple #[.agg #[.string ⟨#[]⟩, .bool false, .slice none 0 0], .int .i64 c]) (by simp [results, Tryz.f46, go_sem, q0, q1, q2]) rfl ?_
        rw [HBAD.out]
        exact ⟨⟨c, hc, rfl⟩, below_set3 HM2.out.bl (by omega) _ _ _⟩
    · have hd : l.drop j = [] := List.drop_eq_nil_of_le (by omega)
      have HEND : Hid (pfRun L t t 0 l = .ok r n) := Lib.hid (by rw [HRUN.out, hd]; rfl)
      clear hd
      have HCK := Lib.hid (check_full r (.slice or r.ts.length cr) wr HM.out.is' (by have := HF.out.1.bulk25; have := HF.out.2; omega))
      go_wp2_with fail
      refine HCK.out.mono ?_
      rintro e w1 ⟨⟨c, rfl, hc⟩, hb1⟩
      have HM2 := Lib.hid (HM.out.next hb1)
      clear hb1 t0 t1 t2 r0 r1 r2 f0 f1 f2 v0 v1 v2 g0 g1 g2
      obtain ⟨⟨r0, r1, r2⟩, f0, f1, f2⟩ := box3 HM2.out.rb
      obtain ⟨⟨v0, v1, v2⟩, -⟩ := box3 HM2.out.vb
      by_cases hc0 : c = 0
      · have HOKR := Lib.hid (hc.1.1 hc0)
        subst hc0
        clear hc
        go_wp2_with fail
        obtain ⟨⟨q0, q1, q2⟩, -⟩ := box3 (box3_set HM2.out.rb (.string r.nm) (.bool r.vr) (.slice or r.ts.length cr))
        refine bodyPost_ret (v := .tuple #[.agg #[.string r.nm, .bool r.vr, .slice or r.ts.length cr], .int .i64 0]) (by simp [results, Tryz.f46, go_sem, q0, q1, q2]) rfl ?_
        rw [HEND.out]
        exact ⟨.inl ⟨HOKR.out, _, rfl, HM2.out.is.carry fun b hb => ⟨heap_set3 _ _ _ _ _ _ (by rcases hb.1 with h | h; (have := HPW.out b h; omega); omega), by rcases hb.1 with h | h; exact .inl h; exact .inr (by omega), by simpa [World.setCell] using hb.2⟩⟩, below_set3 HM2.out.bl (by omega) _ _ _⟩
      · have hcb : (c != 0) = true := by simpa using hc0
        have HC := Lib.hid hc
        clear hc
        go_wp2_with fail
        obtain ⟨⟨q0, q1, q2⟩, -⟩ := box3 (box3_set HM2.out.rb (.string ⟨#[]⟩) (.bool false) (.slice none 0 0))
        refine bodyPost_ret (v := .tuple #[.agg #[.string ⟨#[]⟩, .bool false, .slice none 0 0], .int .i64 c]) (by simp [results, Tryz.f46, go_sem, q0, q1, q2]) rfl ?_
        rw [HEND.out]
        have hno : ¬ r.ok := fun h => hc0 (HC.out.1.2 h)
        exact ⟨.inr ⟨hno, c, hc0, fun hf => HC.out.2.1 hf.allOk hno, rfl⟩, below_set3 HM2.out.bl (by omega) _ _ _⟩
end Go.Proofs.YtnomppdmhgefiaaGreat
/- hasShape: would t be an instance of the pattern if all variables of the pattern were different? -/
namespace Go.Proofs.YtnomppdmhgefiaaGreat
open Go.RowKit

mutual
def Tm.shape : Tm → Tm → Bool
  | .mk n v l, u => v || (!u.vr && (decide (n = u.nm) && Tm.shapes l u.ts))
def Tm.shapes : List Tm → List Tm → Bool
  | [], [] => true
  | a :: l, b :: r => Tm.shape a b && Tm.shapes l r
  | _, _ => false
end
theorem Tm.shape_eq (p u : Tm) : p.shape u = (p.vr || (!u.vr && (decide (p.nm = u.nm) && Tm.shapes p.ts u.ts))) := by cases p; rfl
theorem Tm.shapes_length {l r : List Tm} (h : l.length ≠ r.length) : Tm.shapes l r = false := by
  induction l generalizing r with
  | nil => cases r with | nil => exact absurd rfl h | cons b r => rfl
  | cons a l ih =>
    cases r with
    | nil => rfl
    | cons b r => simp only [Tm.shapes]; rw [ih (by simpa using h), Bool.and_false]
theorem Tm.shapes_drop {l r : List Tm} {k : Nat} {a b : Tm} (ha : l[k]? = some a) (hb : r[k]? = some b) : Tm.shapes (l.drop k) (r.drop k) = (a.shape b && Tm.shapes (l.drop (k + 1)) (r.drop (k + 1))) := by
  rw [drop_at ha, drop_at hb]; rfl

set_option maxRecDepth 100000 in
set_option maxHeartbeats 2000000 in
theorem equalShape_any (k : Nat) (hcf : ∀ args w, (callFunc k args).run Tryz.prog w = .ok (.enter k args) w) (L R : List Tm)
    (HC : Hid (∀ t ∈ L, ∀ u ∈ R, ∀ (su sv : Value) (W : World), SlIs W.heap.size W t.ts su → SlIs W.heap.size W u.ts sv → Calls Tryz.prog k #[tmv t su, tmv u sv] W fun e W' => e = .returned (.bool (t.shape u)) ∧ Below W.heap.size W W'))
    (o1 o2 : Option Addr) (k1 k2 : Nat) (w : World) (hl : L.length ≤ 1048576) (h1 : SlIs w.heap.size w L (.slice o1 L.length k1)) (h2 : SlIs w.heap.size w R (.slice o2 R.length k2)) :
    Calls Tryz.prog 244 #[.slice o1 L.length k1, .slice o2 R.length k2, .func (.func k) #[] #[]] w fun e w' => e = .returned (.bool (Tm.shapes L R)) ∧ Below w.heap.size w w' := by
  by_cases hlen : L.length = R.length
  case neg =>
    have hb : ((L.length : Int) != (R.length : Int)) = true := by rw [bne_iff_ne]; omega
    have HS := Lib.hid (Tm.shapes_length hlen)
    clear hlen
    go_enter Tryz.func244, Tryz.ntmps244
    go_wp2_with fail
    go_ret
    rw [HS.out]
    exact ⟨rfl, Below.refl _ _⟩
  have hb : ((L.length : Int) != (R.length : Int)) = false := by rw [bne_eq_false_iff_eq]; omega
  have H1 := Lib.hid h1
  have H2 := Lib.hid h2
  have HL := Lib.hid hlen
  clear h1 h2 hlen
  go_enter Tryz.func244, Tryz.ntmps244
  go_wp2_with fail
  go_loopw [17] (fun i wr => ∃ (j : Nat), j ≤ L.length ∧ i = .int .i64 j ∧ Hid (Tm.shapes L R = Tm.shapes (L.drop j) (R.drop j)) ∧ Hid (Below w.heap.size w wr)) (fun i _ => L.length - (intOf i).toNat)
  case atStart => exact ⟨0, by omega, rfl, Lib.hid (by simp), Lib.hid (Below.refl _ _)⟩
  case round =>
    obtain ⟨j, hj, rfl, HE, HW⟩ := hrel
    have hz := HW.out.size
    by_cases hlt : j < L.length
    · have hlt2 : j < R.length := by have := HL.out; omega
      obtain ⟨b1, p1, u, su, rfl, hbb1, hu, hum, hus, c1, c2, c3⟩ := (H1.out.carry HW.out hz).get hlt
      obtain ⟨b2, p2, v, sv, rfl, hbb2, hv, hvm, hvs, d1, d2, d3⟩ := (H2.out.carry HW.out hz).get hlt2
      obtain ⟨ou, cu, rfl, -⟩ := hus.form
      obtain ⟨ov, cv, rfl, -⟩ := hvs.form
      have e1 := (cell_old wr (.cells #[.string u.nm, .bool u.vr, .slice ou u.ts.length cu] 25) b2 _ (by omega)).trans d1
      have e2 := (cell_old wr (.cells #[.string u.nm, .bool u.vr, .slice ou u.ts.length cu] 25) b2 _ (by omega)).trans d2
      have e3 := (cell_old wr (.cells #[.string u.nm, .bool u.vr, .slice ou u.ts.length cu] 25) b2 _ (by omega)).trans d3
      have HSD := Lib.hid (HE.out.trans (Tm.shapes_drop hu hv))
      have HCU := fun W (hW : Below wr.heap.size wr W) => Lib.hid (HC.out u hum v hvm (.slice ou u.ts.length cu) (.slice ov v.ts.length cv) W (hus.carry hW hW.size) (hvs.carry hW hW.size))
      clear hu hv hus hvs HE
      go_wp2_with fail
      refine (HCU _ (by go_grown)).out.mono ?_
      rintro e w2 ⟨rfl, hk2⟩
      have HK2 : Hid (Below w.heap.size w w2) := Lib.hid (HW.out.trans (Below.trans (show Below w.heap.size wr _ from by go_grown) (hk2.mono (by simp; omega))))
      clear hk2
      cases hsh : u.shape v
      · have HF := Lib.hid (HSD.out.trans (by rw [hsh, Bool.false_and]))
        clear hsh
        go_wp2_with fail
        go_ret
        rw [HF.out]
        exact ⟨rfl, HK2.out⟩
      · have HT := Lib.hid (HSD.out.trans (by rw [hsh, Bool.true_and]))
        clear hsh
        go_wp2_with fail
        exact ⟨⟨j + 1, by omega, by go_num, HT, HK2⟩, by simp [intOf]; omega⟩
    · obtain rfl : j = L.length := by omega
      have HT : Hid (Tm.shapes L R = true) := Lib.hid (by rw [HE.out, List.drop_length, HL.out, List.drop_length]; rfl)
      clear HE
      go_wp2_with fail
      go_ret
      rw [HT.out]
      exact ⟨rfl, HW.out⟩

set_option maxRecDepth 100000 in
set_option maxHeartbeats 2000000 in
theorem hasShape_any (p : Tm) : ∀ (t : Tm) (sp st : Value) (w : World), SlIs w.heap.size w p.ts sp → SlIs w.heap.size w t.ts st → p.bulk ≤ 1048576 → t.bulk ≤ 1048576 →
    Calls Tryz.prog 225 #[tmv p sp, tmv t st] w fun e w' => e = .returned (.bool (p.shape t)) ∧ Below w.heap.size w w' := by
  induction p using Tm.ind with
  | h p ih =>
    intro t sp st w hsp hss hpb htb
    obtain ⟨op, cp, rfl, -⟩ := hsp.form
    obtain ⟨ot, ct, rfl, -⟩ := hss.form
    have hlp : p.ts.length ≤ 1048576 := by have := Tm.length_sizes p.ts; have := Tm.size_bulk p; have := Tm.size_eq p; omega
    have hkids : ∀ u ∈ p.ts, u.bulk ≤ 1048576 := fun u hu => by have := Tm.bulk_mem hu; have := Tm.bulk_eq p; omega
    have hkidt : ∀ u ∈ t.ts, u.bulk ≤ 1048576 := fun u hu => by have := Tm.bulk_mem hu; have := Tm.bulk_eq t; omega
    have HSP := Lib.hid hsp
    have HSS := Lib.hid hss
    have HS := Lib.hid (Tm.shape_eq p t)
    have HC : Hid (∀ a ∈ p.ts, ∀ u ∈ t.ts, ∀ (su sv : Value) (W : World), SlIs W.heap.size W a.ts su → SlIs W.heap.size W u.ts sv → Calls Tryz.prog 225 #[tmv a su, tmv u sv] W fun e W' => e = .returned (.bool (a.shape u)) ∧ Below W.heap.size W W') :=
      Lib.hid fun a ha u hu su sv W h1 h2 => ih a ha u su sv W h1 h2 (hkids a ha) (hkidt u hu)
    have HEF := fun W (hW : Below w.heap.size w W) => Lib.hid (equalShape_any 225 Tryz.call225 p.ts t.ts HC op ot cp ct W hlp (HSP.out.carry hW hW.size) (HSS.out.carry hW hW.size))
    clear ih hkids hkidt hsp hss
    go_enter Tryz.func225, Tryz.ntmps225
    rw [show tmv p (.slice op p.ts.length cp) = .agg #[.string p.nm, .bool p.vr, .slice op p.ts.length cp] from rfl, show tmv t (.slice ot t.ts.length ct) = .agg #[.string t.nm, .bool t.vr, .slice ot t.ts.length ct] from rfl]
    cases hv : p.vr
    · rw [hv, Bool.false_or] at HS
      cases hvt : t.vr
      · rw [hvt, Bool.not_false, Bool.true_and] at HS
        by_cases hnm : p.nm = t.nm
        · have hbb := name_beq hnm
          rw [decide_eq_true hnm, Bool.true_and] at HS
          clear hnm hv hvt
          go_wp2_with fail
          refine (HEF _ (by go_grown)).out.mono ?_
          rintro e w3 ⟨rfl, hb3⟩
          have HB3 : Hid (Below w.heap.size w w3) := Lib.hid ((show Below w.heap.size w _ from by go_grown).trans (hb3.mono (by simp; omega)))
          clear hb3
          go_wp2_with fail
          go_ret
          rw [HS.out]
          exact ⟨rfl, HB3.out⟩
        · have hbb := name_bne hnm
          rw [decide_eq_false hnm, Bool.false_and] at HS
          clear hnm hv hvt
          go_wp2_with fail
          go_ret
          rw [HS.out]
          exact ⟨rfl, by go_grown⟩
      · rw [hvt, Bool.not_true, Bool.false_and] at HS
        clear hv hvt
        go_wp2_with fail
        go_ret
        rw [HS.out]
        exact ⟨rfl, by go_grown⟩
    · rw [hv, Bool.true_or] at HS
      clear hv
      go_wp2_with fail
      go_ret
      rw [HS.out]
      exact ⟨rfl, by go_grown⟩
end Go.Proofs.YtnomppdmhgefiaaGreat
