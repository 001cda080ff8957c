/- The law's 'renamed'. -/
import Derived.WalkKit
import Derived.ProofKit
import Derived.OpenShut
import Derived.Handy
import Derived.Lib.Hide
import Derived.Deep.RegionHeld3
import Derived.Test.YtdeaehkdhghfkaaDoorApp2
import Derived.Test.YtdeaehkdhghfkaaDoorFst2
import Derived.Test.YtdeaehkdhghfkaaDoorCmp2
namespace Go.Proofs.YtdeaehkdhghfkaaDoor
open Go.RowKit

theorem addKey_nodup {ss : List Key} (h : ss.Nodup) (k : Key) : (addKey ss k).Nodup := by
  unfold addKey
  split
  · exact h
  · rename_i hk
    rw [List.nodup_append]
    exact ⟨h, by simp, fun a ha b hb e => by simp only [List.mem_singleton] at hb; subst hb; subst e; exact hk ha⟩
theorem firsts_nodup (t : Tm) : ∀ ss : List Key, ss.Nodup → (firsts ss t).Nodup := by
  induction t using Tm.ind with
  | h t ih =>
    intro ss hs
    cases hv : t.vr
    · rw [firsts_fun ss hv]
      revert ih hs ss
      generalize t.ts = l
      intro ih ss hs
      induction l generalizing ss with
      | nil => exact hs
      | cons x l ihl => rw [firstsL_cons]; exact ihl (fun u hu => ih u (by simp [hu])) _ (ih x (by simp) ss hs)
    · rw [firsts_var ss hv]; exact addKey_nodup hs _
theorem imageOf_of {bl : List Bd} {k : Key} {x : Tm} (h : ∃ p ∈ bl, p.1 = k) (hx : ∀ p ∈ bl, p.1 = k → p.2 = x) : imageOf bl k = x := by
  unfold imageOf
  cases hf : bl.find? (fun p => decide (p.1 = k)) with
  | none =>
    obtain ⟨p, hp, e⟩ := h
    exact absurd e (by simpa using List.find?_eq_none.1 hf p hp)
  | some p => exact hx p (List.mem_of_find?_eq_some hf) (by simpa using List.find?_some hf)
theorem apB_ren (bl : List Bd) (g : Key → ByteArray) (t : Tm) : ∀ ss, (∀ k ∈ firsts ss t, imageOf bl k = .mk (g k) true []) → apB bl t = ren g t := by
  induction t using Tm.ind with
  | h t ih =>
    intro ss hk
    cases hv : t.vr
    · rw [apB_fun bl hv, ren_fun _ hv, rens_eq]
      rw [firsts_fun ss hv] at hk
      simp only [Tm.mk.injEq, true_and]
      revert ih hk ss
      generalize t.ts = l
      intro ih ss hk
      induction l generalizing ss with
      | nil => rfl
      | cons x l ihl =>
        rw [firstsL_cons] at hk
        rw [List.map_cons, List.map_cons, ih x (by simp) ss (fun k hk' => hk k ((firstsL_pre l (fun u _ => firsts_pre u) _).subset hk')), ihl (fun u hu => ih u (by simp [hu])) _ hk]
    · rw [firsts_var ss hv] at hk
      rw [apB_var bl hv, ren_var _ hv, hk _ (addKey_mem _ _)]
theorem idx_nodup {l : List Key} (h : l.Nodup) {m : Nat} {k : Key} (hm : l[m]? = some k) : l.idxOf k = m := by
  induction l generalizing m with
  | nil => simp at hm
  | cons x l ih =>
    rw [List.nodup_cons] at h
    rw [List.idxOf_cons]
    cases m with
    | zero => simp at hm; subst hm; simp
    | succ m =>
      have hm' : l[m]? = some k := by simpa using hm
      have hne : (x == k) = false := by rw [beq_eq_false_iff_ne]; rintro rfl; exact h.1 (List.mem_of_getElem? hm')
      rw [hne, cond_false, ih h.2 hm']
/-- a term renamed as Renaming says is its canonical form -/
theorem apB_canon (bl : List Bd) (t : Tm) (h1 : ∀ p ∈ bl, ∃ m, (firsts [] t)[m]? = some p.1 ∧ p.2 = .mk (xname digN m) true []) (h2 : ∀ k ∈ firsts [] t, ∃ p ∈ bl, p.1 = k) : apB bl t = canon t := by
  rw [canon_ren]
  refine apB_ren bl _ t [] fun k hk => imageOf_of (h2 k hk) fun p hp e => ?_
  obtain ⟨m, hm, hx⟩ := h1 p hp
  rw [hx]
  have hnd := firsts_nodup t [] List.nodup_nil
  rw [idx_nodup hnd (by rw [hm, e])]

/-- a term in a box -/
structure TBx (W : World) (b : Nat) (t : Tm) (s : Value) : Prop where
  box : W.heap[b]? = some (.cells #[.string t.nm, .bool t.vr, s] 24 (0, 0))
  is : SlIs W.heap.size W t.ts s
theorem TBx.carry {A W : World} {b : Nat} {t : Tm} {s : Value} (h : TBx A b t s) (hb : Below A.heap.size A W) : TBx W b t s :=
  ⟨(hb.block b (Array.getElem?_eq_some_iff.1 h.box).1).trans h.box, h.is.carry hb hb.size⟩
theorem TBx.new {A : World} {t : Tm} {s : Value} (h : SlIs A.heap.size A t.ts s) : TBx (A.alloc (.cells #[.string t.nm, .bool t.vr, s] 24)) A.heap.size t s :=
  ⟨heap_new_at _ _ _ rfl, h.carry ((Below.refl _ A).alloc (Nat.le_refl _) _) (by simp)⟩
theorem firsts_names (t : Tm) : ∀ ss : List Key, (∀ x ∈ ss, x.length ≤ 1048576) → t.bulk ≤ 1048576 → ∀ x ∈ firsts ss t, x.length ≤ 1048576 := by
  induction t using Tm.ind with
  | h t ih =>
    intro ss hs hb
    have hbe := Tm.bulk_eq t
    cases hv : t.vr
    · rw [firsts_fun ss hv]
      have hkid : ∀ u ∈ t.ts, u.bulk ≤ 1048576 := fun u hu => by have := Tm.bulk_mem hu; omega
      revert ih hs ss hkid
      generalize t.ts = l
      intro ih ss hs hkid
      induction l generalizing ss with
      | nil => exact hs
      | cons x l ihl => rw [firstsL_cons]; exact ihl (fun u hu => ih u (by simp [hu])) _ (ih x (by simp) ss hs (hkid x (by simp))) (fun u hu => hkid u (by simp [hu]))
    · rw [firsts_var ss hv]
      intro x hx
      unfold addKey at hx
      split at hx
      · exact hs x hx
      · rcases List.mem_append.1 hx with hx | hx
        · exact hs x hx
        · obtain rfl := List.mem_singleton.1 hx
          rw [bytes_len]; omega

set_option maxRecDepth 100000 in
set_option maxHeartbeats 4000000 in
theorem renamed_any (a b : Tm) (sa sb : Value) (w : World) (ha : SlIs w.heap.size w a.ts sa) (hb : SlIs w.heap.size w b.ts sb) (hsa : a.size ≤ 4000) (hsb : b.size ≤ 4000) (hba : a.bulk ≤ 1048576) (hbb : b.bulk ≤ 1048576) (hca : (canon a).bulk ≤ 1048576) (hcb : (canon b).bulk ≤ 1048576) :
    Calls Tryd.prog 55 #[tmv a sa, tmv b sb] w fun e w' => (∃ x : Bool, e = .returned (.bool x) ∧ (x = true ↔ canon a = canon b)) ∧ Below w.heap.size w w' := by
  obtain ⟨oa, ca, rfl, -⟩ := ha.form
  obtain ⟨ob, cb, rfl, -⟩ := hb.form
  have HLA : Hid ((firsts [] a).length ≤ 4000) := Lib.hid (by have := firsts_length a []; simp at this; omega)
  have HLB : Hid ((firsts [] b).length ≤ 4000) := Lib.hid (by have := firsts_length b []; simp at this; omega)
  have HNA := Lib.hid (firsts_names a [] (by simp) hba)
  have HNB := Lib.hid (firsts_names b [] (by simp) hbb)
  have HIFF := Lib.hid (renamed_iff a b (by omega) (by omega))
  have HSA := Lib.hid hsa
  have HSB := Lib.hid hsb
  have HBA := Lib.hid hba
  have HBB := Lib.hid hbb
  have HCA := Lib.hid hca
  have HCB := Lib.hid hcb
  obtain ⟨fa, hfa⟩ : ∃ l, l = firsts [] a := ⟨_, rfl⟩
  obtain ⟨fb, hfb⟩ : ∃ l, l = firsts [] b := ⟨_, rfl⟩
  rw [← hfa] at HLA HNA HIFF
  rw [← hfb] at HLB HNB HIFF
  have HFA := Lib.hid hfa
  have HFB := Lib.hid hfb
  have hb0 : Below w.heap.size w ((w.alloc (.cells #[.string a.nm, .bool a.vr, .slice oa a.ts.length ca] 24)).alloc (.cells #[.string b.nm, .bool b.vr, .slice ob b.ts.length cb] 24)) := by go_grown
  have HW := Lib.hid hb0
  have HTA : Hid (TBx ((w.alloc (.cells #[.string a.nm, .bool a.vr, .slice oa a.ts.length ca] 24)).alloc (.cells #[.string b.nm, .bool b.vr, .slice ob b.ts.length cb] 24)) w.heap.size a (.slice oa a.ts.length ca)) :=
    Lib.hid ⟨(Below.heap_alloc _ _ _ (by simp)).trans (heap_new_at _ _ _ rfl), ha.carry hb0 hb0.size⟩
  have HTB : Hid (TBx ((w.alloc (.cells #[.string a.nm, .bool a.vr, .slice oa a.ts.length ca] 24)).alloc (.cells #[.string b.nm, .bool b.vr, .slice ob b.ts.length cb] 24)) (w.heap.size + 1) b (.slice ob b.ts.length cb)) :=
    Lib.hid ⟨heap_new_at _ _ _ (by simp), hb.carry hb0 hb0.size⟩
  clear ha hb hfa hfb hsa hsb hba hbb hca hcb hb0
  go_enter Tryd.func55, Tryd.ntmps55
  rw [show tmv a (.slice oa a.ts.length ca) = .agg #[.string a.nm, .bool a.vr, .slice oa a.ts.length ca] from rfl, show tmv b (.slice ob b.ts.length cb) = .agg #[.string b.nm, .bool b.vr, .slice ob b.ts.length cb] from rfl]
  go_wp2_with fail
  generalize ((w.alloc (.cells #[.string a.nm, .bool a.vr, .slice oa a.ts.length ca] 24)).alloc (.cells #[.string b.nm, .bool b.vr, .slice ob b.ts.length cb] 24)) = W0 at HW HTA HTB ⊢
  obtain ⟨⟨x0, x1, x2⟩, -⟩ := box3 HTA.out.box
  obtain ⟨⟨y0, y1, y2⟩, -⟩ := box3 HTB.out.box
  have HTA0 := Lib.hid (HTA.out.carry (Below.refl _ W0).drew)
  have HTB0 := Lib.hid (HTB.out.carry (Below.refl _ W0).drew)
  have HW0 := Lib.hid (HW.out.trans ((Below.refl _ W0).drew.mono HW.out.size))
  clear HTA HTB HW
  go_region_held3 (fun w' => w'.cell? ⟨w.heap.size, 0, none⟩ = some (.string a.nm) ∧ w'.cell? ⟨w.heap.size, 1, none⟩ = some (.bool a.vr) ∧ w'.cell? ⟨w.heap.size, 2, none⟩ = some (.slice oa a.ts.length ca) ∧ w'.cell? ⟨w.heap.size + 1, 0, none⟩ = some (.string b.nm) ∧ w'.cell? ⟨w.heap.size + 1, 1, none⟩ = some (.bool b.vr) ∧ w'.cell? ⟨w.heap.size + 1, 2, none⟩ = some (.slice ob b.ts.length cb)) (go_keep) ((first
    | (go_at_call 80
       refine (rfirst_any b _ _ [] _ HTB1.out.is (StrIs.nil _ _) HBB.out (by have := HSB.out; simp; omega)).mono ?_
       rintro e w2 ⟨⟨v2, rfl, h2⟩, hb2⟩
       rw [← HFB.out] at h2
       have h2' := h2
       obtain ⟨o2, c2, rfl, -⟩ := h2'
       have HM2 := Lib.hid h2
       have HTA2 := Lib.hid (HTA1.out.carry hb2); have HTB2 := Lib.hid (HTB1.out.carry hb2); have HW2 := Lib.hid (HW1.out.trans (hb2.mono HW1.out.size)); obtain ⟨⟨x0, x1, x2⟩, -⟩ := box3 HTA2.out.box; obtain ⟨⟨y0, y1, y2⟩, -⟩ := box3 HTB2.out.box; have HL2 := Lib.hid (HL1.out.carry hb2 hb2.size)
       clear hb2 h2)
    | (go_at_call 80
       refine (rfirst_any a _ _ [] _ HTA0.out.is (StrIs.nil _ _) HBA.out (by have := HSA.out; simp; omega)).mono ?_
       rintro e w1 ⟨⟨v1, rfl, h1⟩, hb1⟩
       rw [← HFA.out] at h1
       have h1' := h1
       obtain ⟨o1, c1, rfl, -⟩ := h1'
       have HL1 := Lib.hid h1
       have HTA1 := Lib.hid (HTA0.out.carry hb1); have HTB1 := Lib.hid (HTB0.out.carry hb1); have HW1 := Lib.hid (HW0.out.trans (hb1.mono HW0.out.size)); obtain ⟨⟨x0, x1, x2⟩, -⟩ := box3 HTA1.out.box; obtain ⟨⟨y0, y1, y2⟩, -⟩ := box3 HTB1.out.box
       clear hb1 h1)))
  by_cases hlen : fa.length = fb.length
  · have hne : ((fa.length : Int) != (fb.length : Int)) = false := by rw [bne_eq_false_iff_eq]; omega
    have HLEN := Lib.hid hlen
    clear hlen
    go_wp2_with fail
    have HTA3 := Lib.hid (HTA2.out.carry (Below.refl _ w2).drew)
    have HTB3 := Lib.hid (HTB2.out.carry (Below.refl _ w2).drew)
    have HL3 := Lib.hid (HL2.out.carry (Below.refl _ w2).drew (Nat.le_refl _))
    have HM3 := Lib.hid (HM2.out.carry (Below.refl _ w2).drew (Nat.le_refl _))
    have HW3 := Lib.hid (HW2.out.trans ((Below.refl _ w2).drew.mono HW2.out.size))
    go_region_held3? (fun w' => w'.cell? ⟨w.heap.size, 0, none⟩ = some (.string a.nm) ∧ w'.cell? ⟨w.heap.size, 1, none⟩ = some (.bool a.vr) ∧ w'.cell? ⟨w.heap.size, 2, none⟩ = some (.slice oa a.ts.length ca) ∧ w'.cell? ⟨w.heap.size + 1, 0, none⟩ = some (.string b.nm) ∧ w'.cell? ⟨w.heap.size + 1, 1, none⟩ = some (.bool b.vr) ∧ w'.cell? ⟨w.heap.size + 1, 2, none⟩ = some (.slice ob b.ts.length cb)) (go_keep) ((first
      | (go_at_call 20
         refine (requal_any (canon a) (canon b) _ _ _ HCA.out HCB.out HX7.out HY7.out).mono ?_
         rintro e w8 ⟨⟨x8, rfl, h8⟩, hb8⟩
         have HR8 := Lib.hid h8
         have HTA8 := Lib.hid (HTA7.out.carry hb8); have HTB8 := Lib.hid (HTB7.out.carry hb8); have HW8 := Lib.hid (HW7.out.trans (hb8.mono HW7.out.size)); obtain ⟨⟨x0, x1, x2⟩, -⟩ := box3 HTA8.out.box; obtain ⟨⟨y0, y1, y2⟩, -⟩ := box3 HTB8.out.box
         clear h8 hb8)
      | (go_at_call 35
         refine (rapply_any bl6 _ _ HLB6.out b _ _ (Nat.le_refl _) HBI6.out HTB6.out.is HBB.out).mono ?_
         rintro e w7 ⟨⟨sl7, rfl, h7⟩, hb7⟩
         rw [HCN6.out] at h7 ⊢
         have h7 := h7.lt.toIs fun b hb => hb.2
         obtain ⟨o7, c7, rfl, -⟩ := h7.form
         dsimp only [tmv]
         have HY7 := Lib.hid h7
         have HTA7 := Lib.hid (HTA6.out.carry hb7); have HTB7 := Lib.hid (HTB6.out.carry hb7); have HW7 := Lib.hid (HW6.out.trans (hb7.mono HW6.out.size)); obtain ⟨⟨x0, x1, x2⟩, -⟩ := box3 HTA7.out.box; obtain ⟨⟨y0, y1, y2⟩, -⟩ := box3 HTB7.out.box; have HX7 := Lib.hid (HX6.out.carry hb7 hb7.size)
         clear h7 hb7)
      | (go_at_call 79
         refine (rrenaming_any fb _ _ HM5.out (by have := HLB.out; omega) HNB.out).mono ?_
         rintro e w6 ⟨⟨v6, bl6, rfl, hbi, hlb, hsay, hall⟩, hb6⟩
         have hbi' := hbi
         obtain ⟨o6, c6, rfl, -⟩ := hbi'
         have HBI6 := Lib.hid hbi
         have HLB6 := Lib.hid hlb
         have HCN6 := Lib.hid (apB_canon bl6 b (by rw [← HFB.out]; exact hsay) (by rw [← HFB.out]; exact hall))
         have HTA6 := Lib.hid (HTA5.out.carry hb6); have HTB6 := Lib.hid (HTB5.out.carry hb6); have HW6 := Lib.hid (HW5.out.trans (hb6.mono HW5.out.size)); obtain ⟨⟨x0, x1, x2⟩, -⟩ := box3 HTA6.out.box; obtain ⟨⟨y0, y1, y2⟩, -⟩ := box3 HTB6.out.box; have HX6 := Lib.hid (HX5.out.carry hb6 hb6.size)
         clear hbi hlb hsay hall hb6)
      | (go_at_call 35
         refine (rapply_any bl4 _ _ HLB4.out a _ _ (Nat.le_refl _) HBI4.out HTA4.out.is HBA.out).mono ?_
         rintro e w5 ⟨⟨sl5, rfl, h5⟩, hb5⟩
         rw [HCN4.out] at h5 ⊢
         have h5 := h5.lt.toIs fun b hb => hb.2
         obtain ⟨o5, c5, rfl, -⟩ := h5.form
         dsimp only [tmv]
         have HX5 := Lib.hid h5
         have HTA5 := Lib.hid (HTA4.out.carry hb5); have HTB5 := Lib.hid (HTB4.out.carry hb5); have HW5 := Lib.hid (HW4.out.trans (hb5.mono HW4.out.size)); obtain ⟨⟨x0, x1, x2⟩, -⟩ := box3 HTA5.out.box; obtain ⟨⟨y0, y1, y2⟩, -⟩ := box3 HTB5.out.box; have HM5 := Lib.hid (HM4.out.carry hb5 hb5.size)
         clear h5 hb5)
      | (go_at_call 79
         refine (rrenaming_any fa _ w2.drew HL3.out (by have := HLA.out; omega) HNA.out).mono ?_
         rintro e w4 ⟨⟨v4, bl4, rfl, hbi, hlb, hsay, hall⟩, hb4⟩
         have hbi' := hbi
         obtain ⟨o4, c4, rfl, -⟩ := hbi'
         have HBI4 := Lib.hid hbi
         have HLB4 := Lib.hid hlb
         have HCN4 := Lib.hid (apB_canon bl4 a (by rw [← HFA.out]; exact hsay) (by rw [← HFA.out]; exact hall))
         have HTA4 := Lib.hid (HTA3.out.carry hb4); have HTB4 := Lib.hid (HTB3.out.carry hb4); have HW4 := Lib.hid (HW3.out.trans (hb4.mono HW3.out.size)); obtain ⟨⟨x0, x1, x2⟩, -⟩ := box3 HTA4.out.box; obtain ⟨⟨y0, y1, y2⟩, -⟩ := box3 HTB4.out.box; have HM4 := Lib.hid (HM3.out.carry hb4 hb4.size)
         clear hbi hlb hsay hall hb4)
      ))
    go_wp2_with fail
    go_ret
    exact ⟨⟨x8, rfl, HR8.out⟩, HW8.out⟩
  · have hne : ((fa.length : Int) != (fb.length : Int)) = true := by rw [bne_iff_ne]; omega
    have HLEN := Lib.hid hlen
    clear hlen
    go_wp2_with fail
    go_ret
    exact ⟨⟨false, rfl, Iff.intro (fun h => by cases h) (fun h => absurd (HIFF.out.2 h).1 HLEN.out)⟩, HW2.out⟩
end Go.Proofs.YtdeaehkdhghfkaaDoor
