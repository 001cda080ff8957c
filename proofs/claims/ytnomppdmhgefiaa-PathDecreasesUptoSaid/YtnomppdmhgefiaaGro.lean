/- The reference's Grown and Fits. -/
import Derived.WalkKit
import Derived.ProofKit
import Derived.OpenShut
import Derived.Handy
import Derived.Lib.Hide
import Derived.Deep.RegionHeld3
import Derived.Test.YtnomppdmhgefiaaRnp
import Derived.Test.YtnomppdmhgefiaaRChk
import Derived.Test.YtnomppdmhgefiaaWks
namespace Go.Proofs.Ytnomppdmhgefiaa
open Go.RowKit

theorem imageOf_or (bl : List Bd) (k : Key) : (∃ q ∈ bl, imageOf bl k = q.2) ∨ imageOf bl k = .mk (kb k) true [] := by
  unfold imageOf
  cases hf : bl.find? (fun p => decide (p.1 = k)) with
  | none => exact .inr rfl
  | some q => exact .inl ⟨q, List.mem_of_find?_eq_some hf, rfl⟩
theorem grown_small {bl : List Bd} (h : ∀ q ∈ bl, q.2.size ≤ 4000) (t : Tm) : (apB bl t).size ≤ 4000 * t.size := by
  induction t using Tm.ind with
  | h t ih =>
    have hp := Tm.size_eq t
    cases hv : t.vr
    · rw [apB_fun bl hv, Tm.size_eq, hp]
      have key : ∀ l : List Tm, (∀ u ∈ l, (apB bl u).size ≤ 4000 * u.size) → Tm.sizes (l.map (apB bl)) ≤ 4000 * Tm.sizes l := by
        intro l
        induction l with
        | nil => intro _; simp [Tm.sizes]
        | cons x l ihl =>
          intro hl
          have h1 := hl x (by simp)
          have h2 := ihl fun u hu => hl u (by simp [hu])
          simp only [List.map_cons, Tm.sizes]; omega
      have := key t.ts ih
      show 1 + Tm.sizes (t.ts.map (apB bl)) ≤ _
      omega
    · rw [apB_var bl hv]
      rcases imageOf_or bl t.nm.data.toList with ⟨q, hq, e⟩ | e
      · rw [e]; have := h q hq; omega
      · rw [e, Tm.size_eq]; show 1 + 0 ≤ _; omega
set_option maxRecDepth 100000 in
set_option maxHeartbeats 4000000 in
theorem rgrown_sz (bl : List Bd) (sv : Value) (n₀ : Nat) (hlen : bl.length ≤ 100000000) (hsz : ∀ q ∈ bl, q.2.size ≤ 4000) (t : Tm) : ∀ (s : Value) (w : World), n₀ ≤ w.heap.size → BindsIs n₀ w bl sv → SlIs w.heap.size w t.ts s → t.bulk ≤ 1048576 →
    Calls Try.prog 29 #[sv, tmv t s] w fun e w' => e = .returned (.tuple #[.int .i64 (apB bl t).size, .int .i64 (apB bl t).depth]) ∧ Below w.heap.size w w' := by
  induction t using Tm.ind with
  | h t ih =>
    intro s w hn hbi hs hb
    obtain ⟨oa, ca, rfl, -⟩ := hs.form
    have hbi' := hbi
    obtain ⟨ob, cb, rfl, -, -⟩ := hbi'
    cases hv : t.vr with
    | true =>
      have hA : Below w.heap.size w (w.alloc (.cells #[.string t.nm, .bool true, .slice oa t.ts.length ca] 26)) := by go_grown
      have himg := rimage_any bl t.nm.data.toList (.slice ob bl.length cb) _ n₀ (Nat.le_trans hn hA.size) (hbi.carry (hA.mono hn) (Nat.le_refl _)) hlen
      rw [kb_key] at himg
      have hib : (imageOf bl t.nm.data.toList).size ≤ 1048576 := by
        rcases imageOf_or bl t.nm.data.toList with ⟨q, hq, e⟩ | e
        · rw [e]; have := hsz q hq; omega
        · rw [e, Tm.size_eq]; show 1 + 0 ≤ _; omega
      have HAP := Lib.hid (apB_var bl hv)
      have HIMG := Lib.hid himg
      have HA := Lib.hid hA
      clear ih hs hbi himg hA hsz
      go_enter Try.func29, Try.ntmps29
      rw [show tmv t (.slice oa t.ts.length ca) = .agg #[.string t.nm, .bool true, .slice oa t.ts.length ca] from by rw [tmv, hv]]
      clear hv
      go_wp2_with fail
      refine HIMG.out.mono ?_
      rintro e w1 ⟨⟨sl, rfl, h1⟩, hb1⟩
      obtain ⟨x, hx⟩ : ∃ x, x = imageOf bl t.nm.data.toList := ⟨_, rfl⟩
      rw [← hx] at h1 hib
      have HX : Hid (apB bl t = x) := Lib.hid (by rw [HAP.out, hx])
      rw [← hx]
      clear hx HAP HIMG
      obtain ⟨ox, cx, rfl, -⟩ := h1.form
      dsimp only [tmv]
      have hz1 := hb1.size
      have HTX : Hid (TBx (w1.alloc (.cells #[.string x.nm, .bool x.vr, .slice ox x.ts.length cx] 26)) w1.heap.size x (.slice ox x.ts.length cx)) := Lib.hid (TBx.new (h1.carry (Below.refl _ _) (Nat.le_trans hn (Nat.le_trans HA.out.size hz1))))
      have HW : Hid (Below w.heap.size w (w1.alloc (.cells #[.string x.nm, .bool x.vr, .slice ox x.ts.length cx] 26))) := Lib.hid ((HA.out.trans (hb1.mono HA.out.size)).alloc (Nat.le_trans HA.out.size hz1) _)
      clear h1 hb1
      go_wp2_with fail
      generalize w1.heap.size = m at HTX ⊢
      generalize (w1.alloc (.cells #[.string x.nm, .bool x.vr, .slice ox x.ts.length cx] 26)) = W0 at HTX HW ⊢
      obtain ⟨⟨x0, x1, x2⟩, -⟩ := box3 HTX.out.box
      have HTX0 := Lib.hid (HTX.out.carry (Below.refl _ W0).drew)
      have HW0 := Lib.hid (HW.out.trans ((Below.refl _ W0).drew.mono HW.out.size))
      clear HTX HW
      go_region_held3 (fun w' => w'.cell? ⟨m, 0, none⟩ = some (.string x.nm) ∧ w'.cell? ⟨m, 1, none⟩ = some (.bool x.vr) ∧ w'.cell? ⟨m, 2, none⟩ = some (.slice ox x.ts.length cx)) (go_keep) ((first
        | (go_at_call 27
           refine (rdepth_sz x (.slice ox x.ts.length cx) _ hib HTX4.out.is).mono ?_
           rintro e w5 ⟨rfl, hb5⟩
           have HTX5 := Lib.hid (HTX4.out.carry hb5); have HW5 := Lib.hid (HW4.out.trans (hb5.mono HW4.out.size)); obtain ⟨⟨x0, x1, x2⟩, -⟩ := box3 HTX5.out.box
           clear hb5)
        | (go_at_call 26
           refine (rsize_sz x (.slice ox x.ts.length cx) _ hib HTX4.out.is).mono ?_
           rintro e w5 ⟨rfl, hb5⟩
           have HTX5 := Lib.hid (HTX4.out.carry hb5); have HW5 := Lib.hid (HW4.out.trans (hb5.mono HW4.out.size)); obtain ⟨⟨x0, x1, x2⟩, -⟩ := box3 HTX5.out.box
           clear hb5)
        | (go_at_call 27
           refine (rdepth_sz x (.slice ox x.ts.length cx) _ hib HTX0.out.is).mono ?_
           rintro e w4 ⟨rfl, hb4⟩
           have HTX4 := Lib.hid (HTX0.out.carry hb4); have HW4 := Lib.hid (HW0.out.trans (hb4.mono HW0.out.size)); obtain ⟨⟨x0, x1, x2⟩, -⟩ := box3 HTX4.out.box
           clear hb4)
        | (go_at_call 26
           refine (rsize_sz x (.slice ox x.ts.length cx) _ hib HTX0.out.is).mono ?_
           rintro e w4 ⟨rfl, hb4⟩
           have HTX4 := Lib.hid (HTX0.out.carry hb4); have HW4 := Lib.hid (HW0.out.trans (hb4.mono HW0.out.size)); obtain ⟨⟨x0, x1, x2⟩, -⟩ := box3 HTX4.out.box
           clear hb4)))
      all_goals
        go_wp2_with fail
        refine bodyPost_ret (v := .tuple #[.int .i64 x.size, .int .i64 x.depth]) (by simp [results, Try.f29, go_sem]) rfl ?_
        exact ⟨by rw [HX.out], HW5.out⟩
    | false =>
      have HAP := Lib.hid (apB_fun bl hv)
      have hsml := grown_small (fun q hq => hsz q hq) t
      rw [apB_fun bl hv, Tm.size_eq] at hsml
      have hsb := Tm.size_bulk t
      have hls := Tm.length_sizes t.ts
      have hse := Tm.size_eq t
      have HSM : Hid (1 + Tm.sizes (t.ts.map (apB bl)) ≤ 4194304000) := Lib.hid (by have : (1 + Tm.sizes (t.ts.map (apB bl))) ≤ 4000 * t.size := hsml; omega)
      have htl : t.ts.length ≤ 1048576 := by omega
      have IH : Hid (∀ u ∈ t.ts, ∀ (s : Value) (w : World), n₀ ≤ w.heap.size → BindsIs n₀ w bl (.slice ob bl.length cb) → SlIs w.heap.size w u.ts s → u.bulk ≤ 1048576 → Calls Try.prog 29 #[.slice ob bl.length cb, tmv u s] w fun e w' => e = .returned (.tuple #[.int .i64 (apB bl u).size, .int .i64 (apB bl u).depth]) ∧ Below w.heap.size w w') := Lib.hid fun u hu s w h1 h2 h3 h4 => ih u hu s w h1 h2 h3 h4 
      have HBI := Lib.hid hbi
      have HSL := Lib.hid hs
      have HBK := Lib.hid hb
      have HTK : Hid (∀ (k : Nat) (u : Tm), t.ts[k]? = some u → Tm.sizes ((t.ts.take (k + 1)).map (apB bl)) = Tm.sizes ((t.ts.take k).map (apB bl)) + (apB bl u).size ∧ Tm.depths ((t.ts.take (k + 1)).map (apB bl)) = max (Tm.depths ((t.ts.take k).map (apB bl))) (apB bl u).depth ∧ Tm.sizes ((t.ts.take (k + 1)).map (apB bl)) ≤ Tm.sizes (t.ts.map (apB bl))) := Lib.hid fun k u hu => by
        refine ⟨?_, ?_, ?_⟩
        · rw [Tm.take_snoc hu, List.map_append, Tm.sizes_append]; simp [Tm.sizes]
        · rw [Tm.take_snoc hu, List.map_append, Tm.depths_append]; simp [Tm.depths]
        · have h := Tm.sizes_append ((t.ts.take (k + 1)).map (apB bl)) ((t.ts.drop (k + 1)).map (apB bl))
          rw [← List.map_append, List.take_append_drop] at h
          omega
      have HDS : Hid (∀ u : Tm, u.depth ≤ u.size) := Lib.hid Tm.depth_le
      clear ih hs hbi hb hsz hsml hsb hls hse
      go_enter Try.func29, Try.ntmps29
      rw [show tmv t (.slice oa t.ts.length ca) = .agg #[.string t.nm, .bool t.vr, .slice oa t.ts.length ca] from rfl, hv]
      clear hv
      go_wp2_with fail
      go_loopw [7, 8, 26] (fun a d i wr => ∃ (k A D : Nat), k ≤ t.ts.length ∧ a = .int .i64 A ∧ d = .int .i64 D ∧ i = .int .i64 k ∧ Hid (A = 1 + Tm.sizes ((t.ts.take k).map (apB bl)) ∧ D = Tm.depths ((t.ts.take k).map (apB bl))) ∧ A ≤ 4194304000 ∧ D ≤ 4194304000 ∧ Hid (Below w.heap.size w wr)) (fun _ _ i _ => t.ts.length - (intOf i).toNat)
      case atStart => exact ⟨0, 1, 0, by omega, rfl, rfl, rfl, Lib.hid ⟨by simp [Tm.sizes], by simp [Tm.depths]⟩, by omega, by omega, Lib.hid (by go_grown)⟩
      case round =>
        obtain ⟨k, A, D, hk, rfl, rfl, rfl, HAD, hA, hD, HBW⟩ := hrel
        by_cases hlt : k < t.ts.length
        · have hz := HBW.out.size
          obtain ⟨b, o, u, su, rfl, hbb, hu, hum, hus, c1, c2, c3⟩ := (HSL.out.carry HBW.out hz).get (k := k) hlt
          obtain ⟨ou, cu, rfl, -⟩ := hus.form
          have hub : u.bulk ≤ 1048576 := by have := Tm.bulk_mem hum; have := Tm.bulk_eq t; have := HBK.out; omega
          have hstep := HTK.out k u hu
          have HST := Lib.hid hstep
          have hsu : A + (apB bl u).size ≤ 4194304000 := by have := HAD.out.1; have := HSM.out; have := hstep.1; have := hstep.2.2; omega
          have hdu : (apB bl u).depth ≤ 4194304000 := by have := HDS.out (apB bl u); omega
          have IHu : ∀ W1, Below wr.heap.size wr W1 → Hid (Calls Try.prog 29 #[.slice ob bl.length cb, tmv u (.slice ou u.ts.length cu)] W1 fun e w' => e = .returned (.tuple #[.int .i64 (apB bl u).size, .int .i64 (apB bl u).depth]) ∧ Below W1.heap.size W1 w') := fun W1 hW => Lib.hid
            (IH.out u hum _ W1 (Nat.le_trans hn (Nat.le_trans hz hW.size)) (HBI.out.carry ((HBW.out.trans (hW.mono hz)).mono hn) (Nat.le_refl _)) (hus.carry hW hW.size) hub)
          clear hu hus hstep
          generalize hgs : (apB bl u).size = gs at hsu HST IHu
          generalize hgd : (apB bl u).depth = gd at hdu HST IHu
          clear hgs hgd
          go_wp2_with fail
          refine (IHu _ (by go_grown)).out.mono ?_
          rintro e w1 ⟨rfl, hb1⟩
          have HB1 : Hid (Below w.heap.size w w1) := Lib.hid (HBW.out.trans ((show Below wr.heap.size wr _ from by go_grown).trans (hb1.mono (by simp)) |>.mono hz))
          clear hb1 IHu
          go_wp2_with fail
          exact ⟨⟨k + 1, A + gs, max D gd, by omega, by go_num, by go_num, by go_num, Lib.hid (by have h1 := HAD.out; have h2 := HST.out; exact ⟨by omega, by rw [h1.2]; exact h2.2.1.symm⟩), by omega, by omega, HB1⟩, by simp [intOf]; omega⟩
        · obtain rfl : k = t.ts.length := by omega
          have HE : Hid (A = (apB bl t).size ∧ D + 1 = (apB bl t).depth) := Lib.hid (by
            have h := HAD.out
            rw [List.take_length] at h
            rw [HAP.out, Tm.size_eq, Tm.depth_eq]
            exact ⟨h.1, by rw [h.2, Nat.add_comm]; rfl⟩)
          go_wp2_with fail
          refine bodyPost_ret (v := .tuple #[.int .i64 A, .int .i64 (D + 1)]) (by simp [results, Try.f29, go_sem]) rfl ?_
          exact ⟨by rw [← HE.out.1, ← HE.out.2]; rfl, HBW.out⟩
theorem rgrown_any (bl : List Bd) (sv : Value) (n₀ : Nat) (hlen : bl.length ≤ 100000000) (hsz : ∀ q ∈ bl, q.2.size ≤ 4000 ∧ q.2.bulk ≤ 1048576) (t : Tm) : ∀ (s : Value) (w : World), n₀ ≤ w.heap.size → BindsIs n₀ w bl sv → SlIs w.heap.size w t.ts s → t.bulk ≤ 1048576 → t.bare →
    Calls Try.prog 29 #[sv, tmv t s] w fun e w' => e = .returned (.tuple #[.int .i64 (apB bl t).size, .int .i64 (apB bl t).depth]) ∧ Below w.heap.size w w' :=
  fun s w hn hbi hs hb _ => rgrown_sz bl sv n₀ hlen (fun q hq => (hsz q hq).1) t s w hn hbi hs hb
end Go.Proofs.Ytnomppdmhgefiaa
