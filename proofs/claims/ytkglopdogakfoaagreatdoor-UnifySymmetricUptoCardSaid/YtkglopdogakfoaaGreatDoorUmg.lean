/- What the laws on unifiers call besides: Vars and CheckAll of the reference at any terms; Unify at terms that are not valid. -/
import Derived.WalkKit
import Derived.ProofKit
import Derived.OpenShut
import Derived.Handy
import Derived.Lib.Hide
import Derived.Test.YtkglopdogakfoaaGreatDoorGk
import Derived.Test.YtkglopdogakfoaaGreatDoorVrs
import Derived.Test.YtkglopdogakfoaaGreatDoorRChk
import Derived.Test.YtkglopdogakfoaaGreatDoorOcc2
namespace Go.Proofs.YtkglopdogakfoaaGreatDoor
open Go.RowKit

theorem addKey_iff' {ss : List Key} {k x : Key} : x ∈ addKey ss k ↔ x ∈ ss ∨ x = k := addKey_iff
theorem firsts_vs (t : Tm) : ∀ (ss : List Key) (x : Key), x ∈ firsts ss t ↔ x ∈ ss ∨ x ∈ t.vs := by
  induction t using Tm.ind with
  | h t ih =>
    intro ss x
    cases hv : t.vr
    · rw [firsts_fun ss hv, Tm.vs_fun hv]
      have key : ∀ (l : List Tm) (ss : List Key), (∀ u ∈ l, u ∈ t.ts) → (x ∈ firstsL ss l ↔ x ∈ ss ∨ x ∈ Tm.vss l) := by
        intro l
        induction l with
        | nil => intro ss _; simp [firstsL, Tm.reps, Tm.vss]
        | cons y l ihl =>
          intro ss hs
          rw [firstsL_cons, ihl _ fun u hu => hs u (by simp [hu]), ih y (hs y (by simp)), Tm.vss, List.mem_append, or_assoc]
      exact key t.ts ss fun u hu => hu
    · rw [firsts_var ss hv, Tm.vs_var hv, addKey_iff]; simp
theorem firstsL_vs (l : List Tm) : ∀ (ss : List Key) (x : Key), x ∈ firstsL ss l ↔ x ∈ ss ∨ x ∈ Tm.vss l := by
  induction l with
  | nil => intro ss x; simp [firstsL, Tm.reps, Tm.vss]
  | cons y l ihl => intro ss x; rw [firstsL_cons, ihl, firsts_vs, Tm.vss, List.mem_append, or_assoc]
theorem Tm.vs_names (t : Tm) : ∀ x ∈ t.vs, x.length ≤ t.bulk := by
  induction t using Tm.ind with
  | h t ih =>
    intro x hx
    rw [Tm.bulk_eq]
    cases hv : t.vr
    · rw [Tm.vs_fun hv, Tm.vss_mem] at hx
      obtain ⟨u, hu, hx⟩ := hx
      have := ih u hu x hx
      have := Tm.bulk_mem hu
      omega
    · rw [Tm.vs_var hv] at hx
      obtain rfl := List.mem_singleton.1 hx
      rw [bytes_len]; omega
theorem vss_names {l : List Tm} {x : Key} (h : x ∈ Tm.vss l) : x.length ≤ Tm.bulks l := by
  obtain ⟨u, hu, hx⟩ := Tm.vss_mem.1 h
  exact Nat.le_trans (u.vs_names x hx) (Tm.bulk_mem hu)
theorem vss_take {l : List Tm} {k : Nat} {x : Key} (h : x ∈ Tm.vss (l.take k)) : x ∈ Tm.vss l := by
  obtain ⟨u, hu, hx⟩ := Tm.vss_mem.1 h
  exact Tm.vss_mem.2 ⟨u, List.mem_of_mem_take hu, hx⟩

set_option maxRecDepth 100000 in
set_option maxHeartbeats 4000000 in
theorem rvars_any (L : List Tm) (hbare : ∀ t ∈ L, t.bare) (s : Value) (w : World) (hs : SlIs w.heap.size w L s) (hb : Tm.bulks L ≤ 1048576) :
    Calls Tryz.prog 24 #[s] w fun e w' => (∃ (v' : Value) (r : List Key), e = .returned v' ∧ StrIs w'.heap.size w' r v' ∧ r.Pairwise (· < ·) ∧ ∀ x, x ∈ r ↔ x ∈ Tm.vss L) ∧ Below w.heap.size w w' := by
  obtain ⟨oa, ca, rfl, -⟩ := hs.form
  have HSL := Lib.hid hs
  have HBR := Lib.hid hbare
  have hsz := Tm.sizes_bulks L fun u _ => Tm.size_bulk u
  have hlen := Tm.length_sizes L
  clear hs hbare
  go_enter Tryz.func24, Tryz.ntmps24
  go_wp2_with fail
  go_loopw [3, 8] (fun l i wr => ∃ (k : Nat) (r : List Key), k ≤ L.length ∧ i = .int .i64 k ∧ Hid (StrIs wr.heap.size wr r l) ∧ Hid (r.Pairwise (· < ·)) ∧ Hid (∀ x, x ∈ r ↔ x ∈ firstsL [] (L.take k)) ∧ Hid (Below w.heap.size w wr)) (fun _ i _ => L.length - (intOf i).toNat)
  case atStart => exact ⟨0, [], by omega, rfl, Lib.hid (StrIs.nil _ _), Lib.hid List.Pairwise.nil, Lib.hid (fun x => Iff.rfl), Lib.hid (Below.refl _ _)⟩
  case round =>
    obtain ⟨k, r, hk, rfl, HS, HO, HMR, HBW⟩ := hrel
    by_cases hlt : k < L.length
    · have hz := HBW.out.size
      obtain ⟨b, o, u, su, rfl, hbb, hu, hum, hus, c1, c2, c3⟩ := (HSL.out.carry HBW.out hz).get hlt
      obtain ⟨ou, cu, rfl, -⟩ := hus.form
      have hs2 := HS.out
      obtain ⟨of, cf, rfl, -, -, -⟩ := hs2
      have hub := Tm.bulk_mem hum
      have htk := Tm.take_snoc hu
      have h1 := Tm.sizes_take L (k + 1)
      rw [htk, Tm.sizes_append, Tm.sizes, Tm.sizes] at h1
      have h2 := firstsL_length (L.take k) []
      rw [List.length_nil] at h2
      have h3 : ∀ x ∈ firsts (firstsL [] (L.take k)) u, x.length ≤ 1048576 := fun x hx => by
        rw [← firstsL_snoc, ← htk, firstsL_vs] at hx
        have := vss_names (vss_take (hx.resolve_left (by simp)))
        omega
      have IHu : ∀ W1, Below wr.heap.size wr W1 → Hid (Calls Tryz.prog 57 #[tmv u (.slice ou u.ts.length cu), .slice of r.length cf] W1 fun e w' => (∃ (v' : Value) (r : List Key), e = .returned v' ∧ StrIs w'.heap.size w' r v' ∧ r.Pairwise (· < ·) ∧ ∀ x, x ∈ r ↔ x ∈ firsts (firstsL [] (L.take k)) u) ∧ Below W1.heap.size W1 w') := fun W1 hW => Lib.hid
        (rcollect_any u (HBR.out u hum) _ _ (firstsL [] (L.take k)) r W1 (hus.carry hW hW.size) (HS.out.carry hW hW.size) HO.out HMR.out (by omega) (by omega) h3)
      have HTK : Hid (firsts (firstsL [] (L.take k)) u = firstsL [] (L.take (k + 1))) := Lib.hid (by rw [htk, firstsL_snoc])
      clear hu hum hus htk h1 h2 h3
      go_wp2_with fail
      refine (IHu _ (by go_grown)).out.mono ?_
      rintro e w1 ⟨⟨v1, r1, rfl, h1, h2, h3⟩, hb1⟩
      rw [HTK.out] at h3
      have HS1 := Lib.hid h1
      have H2 := Lib.hid h2
      have H3 := Lib.hid h3
      have HB1 : Hid (Below w.heap.size w w1) := Lib.hid (HBW.out.trans ((show Below wr.heap.size wr _ from by go_grown).trans (hb1.mono (by simp)) |>.mono hz))
      clear h1 h2 h3 hb1 IHu
      go_wp2_with fail
      exact ⟨⟨k + 1, r1, by omega, by go_num, HS1, H2, H3, HB1⟩, by simp [intOf]; omega⟩
    · obtain rfl : k = L.length := by omega
      have HM : Hid (∀ x, x ∈ r ↔ x ∈ Tm.vss L) := Lib.hid fun x => by
        rw [HMR.out x, List.take_length, firstsL_vs]; simp
      go_wp2_with fail
      go_ret
      exact ⟨⟨_, r, rfl, HS.out, HO.out, HM.out⟩, HBW.out⟩

set_option maxRecDepth 100000 in
set_option maxHeartbeats 4000000 in
theorem rcheckAll_any (L : List Tm) (s : Value) (w : World) (hs : SlIs w.heap.size w L s) (hb : Tm.bulks L ≤ 1048576) :
    Calls Tryz.prog 28 #[s] w fun e w' => (∃ c : Int, e = .returned (.int .i64 c) ∧ (c = 0 ↔ ∀ t ∈ L, t.ok)) ∧ Below w.heap.size w w' := by
  obtain ⟨oa, ca, rfl, -⟩ := hs.form
  have HSL := Lib.hid hs
  have hsz := Tm.sizes_bulks L fun u _ => Tm.size_bulk u
  have hlen := Tm.length_sizes L
  clear hs
  go_enter Tryz.func28, Tryz.ntmps28
  go_wp2_with fail
  go_loopw [2, 8] (fun _ i wr => ∃ k : Nat, k ≤ L.length ∧ i = .int .i64 k ∧ Hid (∀ t ∈ L.take k, t.ok) ∧ Hid (Below w.heap.size w wr)) (fun _ i _ => L.length - (intOf i).toNat)
  case atStart => exact ⟨0, by omega, rfl, Lib.hid (by simp), Lib.hid (Below.refl _ _)⟩
  case round =>
    obtain ⟨k, hk, rfl, HOK, HBW⟩ := hrel
    by_cases hlt : k < L.length
    · have hz := HBW.out.size
      obtain ⟨b, o, u, su, rfl, hbb, hu, hum, hus, c1, c2, c3⟩ := (HSL.out.carry HBW.out hz).get hlt
      obtain ⟨ou, cu, rfl, -⟩ := hus.form
      have hub := Tm.bulk_mem hum
      have HTK := Lib.hid (Tm.take_snoc hu)
      have HUM := Lib.hid hum
      have IHu : ∀ W1, Below wr.heap.size wr W1 → Hid (Calls Tryz.prog 42 #[tmv u (.slice ou u.ts.length cu)] W1 fun e w' => (∃ c : Int, e = .returned (.int .i64 c) ∧ (c = 0 ↔ u.ok)) ∧ Below W1.heap.size W1 w') := fun W1 hW => Lib.hid
        (rcheck_iff u _ W1 (hus.carry hW hW.size) (by omega))
      clear hu hum hus
      go_wp2_with fail
      refine (IHu _ (by go_grown)).out.mono ?_
      rintro e w1 ⟨⟨c, rfl, hc⟩, hb1⟩
      have HC := Lib.hid hc
      have HB1 : Hid (Below w.heap.size w w1) := Lib.hid (HBW.out.trans ((show Below wr.heap.size wr _ from by go_grown).trans (hb1.mono (by simp)) |>.mono hz))
      clear hc hb1 IHu
      by_cases hc0 : c = 0
      · subst hc0
        have HU := Lib.hid (HC.out.1 rfl)
        go_wp2_with fail
        refine ⟨⟨k + 1, by omega, by go_num, Lib.hid (fun t ht => ?_), HB1⟩, by simp [intOf]; omega⟩
        rw [HTK.out] at ht
        rcases List.mem_append.1 ht with ht | ht
        · exact HOK.out t ht
        · obtain rfl := List.mem_singleton.1 ht; exact HU.out
      · have hcn : (c != 0) = true := by rw [bne_iff_ne]; exact hc0
        have HNO : Hid (¬ ∀ t ∈ L, t.ok) := Lib.hid fun h => hc0 (HC.out.2 (h u HUM.out))
        have HC0 := Lib.hid hc0
        clear hc0
        go_wp2_with fail
        go_ret
        exact ⟨⟨c, rfl, fun h => absurd h HC0.out, fun h => absurd h HNO.out⟩, HB1.out⟩
    · obtain rfl : k = L.length := by omega
      have HALL : Hid (∀ t ∈ L, t.ok) := Lib.hid fun t ht => HOK.out t (by rw [List.take_length]; exact ht)
      go_wp2_with fail
      go_ret
      exact ⟨⟨0, rfl, fun _ => HALL.out, fun _ => rfl⟩, HBW.out⟩

set_option maxRecDepth 100000 in
set_option maxHeartbeats 8000000 in
theorem uunifyall_bad (a b : Tm) (hno : ¬ (a.ok ∧ b.ok)) (bl : Nat) (sa sc : Value) (w : World) (hsa : SlIs w.heap.size w a.ts sa) (hsb : SlIs w.heap.size w b.ts sc) (hba : a.bulk ≤ 1048576) (hbb : b.bulk ≤ 1048576) (hw : w.heap[bl]? = some (.cells #[.string a.nm, .bool a.vr, sa, .string b.nm, .bool b.vr, sc] 81 (0, 0))) :
    Calls Tryz.prog 66 #[.slice (some ⟨bl, 0, none⟩) 1 1] w fun e w' => (∃ c : Int, c ≠ 0 ∧ e = .returned (.tuple #[.slice none 0 0, .bool false, .int .i64 c])) ∧ Below w.heap.size w w' := by
  obtain ⟨oa, ca, rfl, -⟩ := hsa.form
  obtain ⟨ob, cb, rfl, -⟩ := hsb.form
  have HSA := Lib.hid hsa
  have HSB := Lib.hid hsb
  have HNO := Lib.hid hno
  have HW := Lib.hid hw
  have hz0 := (Array.getElem?_eq_some_iff.1 hw).1
  have hmm := @run_makeMap Tryz.prog
  clear hsa hsb hno hw
  go_enter Tryz.func66, Tryz.ntmps66
  go_wp2_with fail
  go_loopw [16] (fun i wr => i = .int .i64 0 ∧ Hid (Below w.heap.size w wr)) (fun i _ => 1 - (intOf i).toNat)
  case atStart => exact ⟨rfl, Lib.hid (Below.refl _ _)⟩
  case round =>
    obtain ⟨rfl, HB⟩ := hrel
    have hzr := HB.out.size
    have hwr := (HB.out.block bl hz0).trans HW.out
    have c0 := cells_of' hwr 0
    have c1 := cells_of' hwr 1
    have c2 := cells_of' hwr 2
    have c3 := cells_of' hwr 3
    have c4 := cells_of' hwr 4
    have c5 := cells_of' hwr 5
    simp only [List.getElem?_toArray, List.getElem?_cons_zero, List.getElem?_cons_succ] at c0 c1 c2 c3 c4 c5
    have HCK : ∀ W, Below w.heap.size w W → Hid (Calls Tryz.prog 111 #[tmv a (.slice oa a.ts.length ca), tmv b (.slice ob b.ts.length cb)] W fun e w' => (∃ c : Int, e = .returned (.int .i64 c) ∧ c ≠ 0) ∧ Below W.heap.size W w') := fun W hW => Lib.hid ((ucheck_any a b _ _ W (HSA.out.carry hW hW.size) (HSB.out.carry hW hW.size) hba hbb).mono fun e w' ⟨⟨c, h1, h2⟩, h3⟩ => ⟨⟨c, h1, fun h => HNO.out (h2.1 h)⟩, h3⟩)
    clear hwr
    go_wp2_with fail
    refine (HCK _ (HB.out.alloc (by omega) _)).out.mono ?_
    rintro e w2 ⟨⟨c, rfl, hc⟩, hb2⟩
    have HB2 : Hid (Below w.heap.size w w2) := Lib.hid ((HB.out.alloc (by omega) _).trans (hb2.mono (by simp; omega)))
    have hcn : (c != 0) = true := by rw [bne_iff_ne]; exact hc
    have HC := Lib.hid hc
    clear hb2 HCK hc
    go_wp2_with fail
    refine bodyPost_ret (v := .tuple #[.slice none 0 0, .bool false, .int .i64 c]) (by simp [results, Tryz.f66, go_sem]) rfl ?_
    exact ⟨⟨c, HC.out, rfl⟩, HB2.out⟩
set_option maxRecDepth 100000 in
set_option maxHeartbeats 8000000 in
theorem uunify_bad (a b : Tm) (hno : ¬ (a.ok ∧ b.ok)) (sa sc : Value) (w : World) (hsa : SlIs w.heap.size w a.ts sa) (hsb : SlIs w.heap.size w b.ts sc) (hba : a.bulk ≤ 1048576) (hbb : b.bulk ≤ 1048576) :
    Calls Tryz.prog 27 #[tmv a sa, tmv b sc] w fun e w' => (∃ c : Int, c ≠ 0 ∧ e = .returned (.tuple #[.slice none 0 0, .bool false, .int .i64 c])) ∧ Below w.heap.size w w' := by
  obtain ⟨oa, ca, rfl, -⟩ := hsa.form
  obtain ⟨ob, cb, rfl, -⟩ := hsb.form
  have hB : Below w.heap.size w (((w.alloc (.cells #[.string a.nm, .bool a.vr, .slice oa a.ts.length ca] 25)).alloc (.cells #[.string b.nm, .bool b.vr, .slice ob b.ts.length cb] 25)).alloc (.cells #[.string a.nm, .bool a.vr, .slice oa a.ts.length ca, .string b.nm, .bool b.vr, .slice ob b.ts.length cb] 81)) := by go_grown
  have HALL := Lib.hid (uunifyall_bad a b hno (w.heap.size + 1 + 1) (.slice oa a.ts.length ca) (.slice ob b.ts.length cb) _ (hsa.carry hB hB.size) (hsb.carry hB hB.size) hba hbb (heap_new_at _ _ _ (by simp)))
  have HB := Lib.hid hB
  clear hB hsa hsb hno
  go_enter Tryz.func27, Tryz.ntmps27
  go_wp2_with fail
  refine HALL.out.mono ?_
  rintro e w1 ⟨⟨c, hc, rfl⟩, hb1⟩
  have HB1 : Hid (Below w.heap.size w w1) := Lib.hid (HB.out.trans (hb1.mono HB.out.size))
  have HC := Lib.hid hc
  clear hb1 HALL hc
  go_wp2_with fail
  refine bodyPost_ret (v := .tuple #[.slice none 0 0, .bool false, .int .i64 c]) (by simp [results, Tryz.f27, go_sem]) rfl ?_
  exact ⟨⟨c, HC.out, rfl⟩, HB1.out⟩

/-- how Unify ends at any two terms -/
def UnPost (a b : Tm) (e : Ending) (w' : World) : Prop :=
  (∃ c : Int, c ≠ 0 ∧ e = .returned (.tuple #[.slice none 0 0, .bool false, .int .i64 c]) ∧ ¬ (a.ok ∧ b.ok)) ∨
  (a.ok ∧ b.ok ∧ (∀ θ, apF θ a ≠ apF θ b) ∧ e = .returned (.tuple #[.slice none 0 0, .bool false, .int .i64 0])) ∨
  (a.ok ∧ b.ok ∧ ∃ (S : Sv) (rk : Key → Nat), Mgu a b S rk ∧ ((¬ FitS S rk ∧ e = .returned (.tuple #[.slice none 0 0, .bool false, .int .i64 3])) ∨
    (FitS S rk ∧ ∃ (v : Value) (L : List Key), e = .returned (.tuple #[v, .bool true, .int .i64 0]) ∧ BindsIs w'.heap.size w' (subS S rk L) v ∧ Chg S L)))
theorem uunify_full {N : Nat} {GW : World → Prop} (HG : Hid (ItoaOk N GW)) (hN : 8000 ≤ N) (a b : Tm) (sa sc : Value) (w : World) (hgw : GW w) (hsa : SlIs w.heap.size w a.ts sa) (hsb : SlIs w.heap.size w b.ts sc) (hba : a.bulk ≤ 1048576) (hbb : b.bulk ≤ 1048576) :
    Calls Tryz.prog 27 #[tmv a sa, tmv b sc] w fun e w' => UnPost a b e w' ∧ Below w.heap.size w w' := by
  by_cases hok : a.ok ∧ b.ok
  · obtain ⟨ha, hb⟩ := hok
    obtain ⟨n, r, S, hsol, hinv, hnin, hbl, hel⟩ := unify_state a b ha hb
    by_cases hk : ∃ rk, Acy S rk
    · obtain ⟨rk, hk⟩ := hk
      refine (uunify_any HG a b ha hb n r false S rk hsol (by omega) (by omega) (by omega) (CycIs.no HG hk (by omega) (by omega)) sa sc w hgw hsa hsb hba hbb).mono ?_
      rintro e w' ⟨hp, hb'⟩
      refine ⟨?_, hb'⟩
      rcases hp with ⟨h1, rfl⟩ | ⟨h1, -, h3, rfl⟩ | ⟨h1, -, h3, v, L, rfl, h4, h5⟩
      · exact .inr (.inl ⟨ha, hb, no_unifier ha hb hsol hinv hbl fun h => h1 ⟨h.1, rfl⟩, rfl⟩)
      · subst h1
        exact .inr (.inr ⟨ha, hb, S, rk, Mgu.of ha hb hsol hinv hnin hbl hel hk, .inl ⟨(fun h => by rw [fitB_yes h] at h3; cases h3), rfl⟩⟩)
      · subst h1
        exact .inr (.inr ⟨ha, hb, S, rk, Mgu.of ha hb hsol hinv hnin hbl hel hk, .inr ⟨fitB_of h3, v, L, rfl, h4, h5⟩⟩)
    · refine (uunify_any HG a b ha hb n r true S (fun _ => 0) hsol (by omega) (by omega) (by omega) (CycIs.yes HG (fun _ => 0) hk (by omega) (by omega)) sa sc w hgw hsa hsb hba hbb).mono ?_
      rintro e w' ⟨hp, hb'⟩
      refine ⟨?_, hb'⟩
      rcases hp with ⟨h1, rfl⟩ | ⟨_, h2, _⟩ | ⟨_, h2, _⟩
      · exact .inr (.inl ⟨ha, hb, no_unifier ha hb hsol hinv hbl fun h => hk h.2, rfl⟩)
      · cases h2
      · cases h2
  · exact (uunify_bad a b hok sa sc w hsa hsb hba hbb).mono fun e w' ⟨⟨c, h1, h2⟩, h3⟩ => ⟨.inl ⟨c, h1, h2, hok⟩, h3⟩
end Go.Proofs.YtkglopdogakfoaaGreatDoor
