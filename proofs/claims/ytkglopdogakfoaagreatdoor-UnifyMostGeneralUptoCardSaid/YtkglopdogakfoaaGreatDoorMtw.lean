/- Match's walk through pattern and term. -/
import Derived.WalkKit
import Derived.ProofKit
import Derived.OpenShut
import Derived.Handy
import Derived.Lib.Hide
import Derived.Test.YtkglopdogakfoaaGreatDoorTcmp
import Derived.Test.YtkglopdogakfoaaGreatDoorEqf
import Derived.Test.YtkglopdogakfoaaGreatDoorTlk
namespace Go.Proofs.YtkglopdogakfoaaGreatDoor
open Go.RowKit Go.Maps

/-- block mb holds the bindings m -/
structure MtI (K : List Key) (mb : Nat) (m : List Bd) (W : World) : Prop where
  map : TMap W.heap.size W mb m
  bulk : ∀ q ∈ m, q.2.bulk ≤ 1048576
  keys : ∀ q ∈ m, q.1 ∈ K
/-- all variables are among these names -/
inductive Tm.vin (K : List Key) : Tm → Prop
  | mk (t : Tm) : (t.vr = true → t.nm.data.toList ∈ K) → (∀ u ∈ t.ts, u.vin K) → t.vin K
theorem Tm.vin.var {K : List Key} {t : Tm} (h : t.vin K) : t.vr = true → t.nm.data.toList ∈ K := by cases h with | mk _ h1 h2 => exact h1
theorem Tm.vin.kids {K : List Key} {t : Tm} (h : t.vin K) : ∀ u ∈ t.ts, u.vin K := by cases h with | mk _ h1 h2 => exact h2
theorem vin_firsts (t : Tm) (ht : t.bare) : ∀ (ss K : List Key), (∀ k ∈ firsts ss t, k ∈ K) → t.vin K := by
  induction t using Tm.ind with
  | h t ih =>
    intro ss K h
    cases hv : t.vr
    · rw [firsts_fun ss hv] at h
      refine .mk t (fun e => by rw [hv] at e; cases e) ?_
      have key : ∀ (l : List Tm) (ss : List Key), (∀ u ∈ l, u ∈ t.ts) → (∀ k ∈ firstsL ss l, k ∈ K) → ∀ u ∈ l, u.vin K := by
        intro l
        induction l with
        | nil => intro ss _ _ u hu; cases hu
        | cons x l ihl =>
          intro ss hs h u hu
          rw [firstsL_cons] at h
          rcases List.mem_cons.1 hu with rfl | hu
          · exact ih u (hs u (by simp)) (ht.kids u (hs u (by simp))) ss K fun k hk => h k ((firstsL_pre l (fun y _ => firsts_pre y) _).subset hk)
          · exact ihl _ (fun u hu => hs u (by simp [hu])) h u hu
      exact key t.ts ss (fun u hu => hu) h
    · rw [firsts_var ss hv] at h
      exact .mk t (fun _ => h _ (addKey_mem _ _)) fun u hu => by rw [ht.vr0 hv] at hu; cases hu
theorem nodup_len {l : List Key} : ∀ {K : List Key}, l.Nodup → (∀ x ∈ l, x ∈ K) → l.length ≤ K.length := by
  induction l with
  | nil => intro K _ _; simp
  | cons a l ih =>
    intro K hn hs
    rw [List.nodup_cons] at hn
    have ha := hs a (by simp)
    have h1 := ih (K := K.erase a) hn.2 fun x hx => (List.mem_erase_of_ne (fun e => hn.1 (by rw [← e]; exact hx))).2 (hs x (by simp [hx]))
    rw [List.length_erase_of_mem ha] at h1
    have h2 := List.length_pos_of_mem ha
    rw [List.length_cons]; omega
theorem MtI.len {K : List Key} {mb : Nat} {m : List Bd} {W : World} (h : MtI K mb m W) : m.length ≤ K.length := by
  have := nodup_len h.map.nodup (K := K) (fun x hx => by obtain ⟨q, hq, rfl⟩ := List.mem_map.1 hx; exact h.keys q hq)
  simpa using this
theorem TMap.below {mb : Nat} {A B : World} {l : List Bd} (h : TMap A.heap.size A mb l) (hb : Below A.heap.size A B) : TMap B.heap.size B mb l :=
  h.kept (KpC.of_below hb (Nat.le_refl _)) hb.size (hb.block mb h.lt)
theorem MtI.below {K : List Key} {mb : Nat} {m : List Bd} {A B : World} (h : MtI K mb m A) (hb : Below A.heap.size A B) : MtI K mb m B := ⟨h.map.below hb, h.bulk, h.keys⟩
noncomputable def mstep (m : List Bd) (p t : Tm) : Option (Bool × List Bd) := some (match mtc p m t with | some m' => (true, m') | none => (false, m))
theorem mstep_yes {m m' : List Bd} {p t : Tm} (h : mtc p m t = some m') : mstep m p t = some (true, m') := by unfold mstep; rw [h]
theorem mstep_no {m : List Bd} {p t : Tm} (h : mtc p m t = none) : mstep m p t = some (false, m) := by unfold mstep; rw [h]
theorem eqf_yes (L : List Tm) : ∀ (m : List Bd) (R : List Tm) (m' : List Bd), mtcs L m R = some m' → eqf mstep m L R = some (true, m') := by
  induction L with
  | nil => intro m R m' h; simp only [mtcs, Option.some.injEq] at h; subst h; rfl
  | cons x L ih =>
    intro m R m' h
    cases R with
    | nil => simp [mtcs] at h
    | cons y R =>
      simp only [mtcs] at h
      cases hx : mtc x m y with
      | none => rw [hx] at h; cases h
      | some m1 => rw [hx] at h; rw [eqf, mstep_yes hx]; exact ih m1 R m' h
theorem eqf_no (L : List Tm) : ∀ (m : List Bd) (R : List Tm), L.length = R.length → mtcs L m R = none → ∃ m', eqf mstep m L R = some (false, m') := by
  induction L with
  | nil => intro m R _ h; simp [mtcs] at h
  | cons x L ih =>
    intro m R hl h
    cases R with
    | nil => cases hl
    | cons y R =>
      simp only [mtcs] at h
      cases hx : mtc x m y with
      | none => exact ⟨m, by rw [eqf, mstep_no hx]⟩
      | some m1 =>
        rw [hx] at h
        obtain ⟨m', h'⟩ := ih m1 R (by simpa using hl) h
        exact ⟨m', by rw [eqf, mstep_yes hx]; exact h'⟩
theorem _root_.Go.World.mapTurned.kpc {n b : Nat} {A B : World} (h : A.mapTurned B b) (hn : n ≤ b) : KpC n A B := KpC.turned h hn
theorem name_beq {a b : ByteArray} (h : a = b) : (a.toList == b.toList) = true := by rw [h]; exact beq_self_eq_true _
theorem name_bne {a b : ByteArray} (h : a ≠ b) : (a.toList == b.toList) = false := by
  rw [beq_eq_false_iff_ne]
  intro e
  rw [Lib.toList_data, Lib.toList_data] at e
  exact h (nm_ext e)

set_option maxRecDepth 100000 in
set_option maxHeartbeats 4000000 in
theorem match_any (K : List Key) (hKl : K.length ≤ 1048576) (mb n₀ : Nat) (hnb : n₀ ≤ mb) (p : Tm) : ∀ (m : List Bd) (t : Tm) (sp st : Value) (w : World) (r : Bool) (S' : List Bd), mstep m p t = some (r, S') → MtI K mb m w → n₀ ≤ w.heap.size →
    SlIs w.heap.size w p.ts sp → SlIs w.heap.size w t.ts st → p.bulk ≤ 1048576 → t.bulk ≤ 1048576 → p.vin K →
    Calls Tryz.prog 116 #[.map (some mb), tmv p sp, tmv t st] w (EqPost n₀ (MtI K mb) r S' w) := by
  induction p using Tm.ind with
  | h p ih =>
    intro m t sp st w r S' hst hI hn hsp hss hpb htb hvin
    obtain ⟨op, cp, rfl, -⟩ := hsp.form
    obtain ⟨ot, ct, rfl, -⟩ := hss.form
    have hpn : p.nm.size ≤ 1048576 := by have := Tm.bulk_eq p; omega
    have hml := Nat.le_trans hI.len hKl
    have HB0 : Hid (Below w.heap.size w ((w.alloc (.cells #[.string p.nm, .bool p.vr, .slice op p.ts.length cp] 25)).alloc (.cells #[.string t.nm, .bool t.vr, .slice ot t.ts.length ct] 25))) := Lib.hid (by go_grown)
    have HKEY : Hid (keyOf Tryz.prog 9 (.string p.nm) = some (.string p.nm.data.toList)) := Lib.hid (WideMaps.keyOf_string_mk Tryz.underlying9 (by unfold maxLen; omega))
    have HI := Lib.hid hI
    have HSP := Lib.hid hsp
    have HSS := Lib.hid hss
    have HST := Lib.hid hst
    have HPB := Lib.hid hpb
    have HTB := Lib.hid htb
    have hmlt := hI.map.lt
    have HN := Lib.hid hn
    have HVIN := Lib.hid hvin
    clear hvin hI hsp hss hst hn
    cases hv : p.vr
    · have HV := Lib.hid hv
      have hkids : ∀ u ∈ p.ts, u.bulk ≤ 1048576 := fun u hu => by have := Tm.bulk_mem hu; have := Tm.bulk_eq p; have := HPB.out; omega
      have hkidt : ∀ u ∈ t.ts, u.bulk ≤ 1048576 := fun u hu => by have := Tm.bulk_mem hu; have := Tm.bulk_eq t; have := HTB.out; omega
      have hlp : p.ts.length ≤ 1048576 := by have := Tm.length_sizes p.ts; have := Tm.size_bulk p; have := Tm.size_eq p; have := HPB.out; omega
      have hlt : t.ts.length ≤ 1048576 := by have := Tm.length_sizes t.ts; have := Tm.size_bulk t; have := Tm.size_eq t; have := HTB.out; omega
      have HC : Hid (∀ u ∈ p.ts, ∀ v ∈ t.ts, ∀ (S : List Bd) (su sv : Value) (W : World) (r : Bool) (S' : List Bd), mstep S u v = some (r, S') → MtI K mb S W → n₀ ≤ W.heap.size → SlIs W.heap.size W u.ts su → SlIs W.heap.size W v.ts sv → Calls Tryz.prog 116 #[.map (some mb), tmv u su, tmv v sv] W (EqPost n₀ (MtI K mb) r S' W)) :=
        Lib.hid fun u hu v hv S su sv W r S' hst hI hn hus hvs => ih u hu S v su sv W r S' hst hI hn hus hvs (hkids u hu) (hkidt v hv) (HVIN.out.kids u hu)
      clear ih hkids hkidt hv
      cases hvt : t.vr
      · by_cases hnm : p.nm = t.nm
        · have hbb := name_beq hnm
          by_cases hln : p.ts.length = t.ts.length
          · obtain ⟨S1, hS1, hyes⟩ : ∃ S1, eqf mstep m p.ts t.ts = some (r, S1) ∧ (r = true → S1 = S') := by
              have h := HST.out
              cases hx : mtcs p.ts m t.ts with
              | none =>
                rw [mstep_no (by rw [mtc_fun HV.out ⟨hvt, hnm, hln⟩]; exact hx)] at h
                simp only [Option.some.injEq, Prod.mk.injEq] at h
                obtain ⟨m1, hm1⟩ := eqf_no p.ts m t.ts hln hx
                exact ⟨m1, by rw [hm1, h.1], fun e => by rw [← h.1] at e; cases e⟩
              | some m1 =>
                rw [mstep_yes (by rw [mtc_fun HV.out ⟨hvt, hnm, hln⟩]; exact hx)] at h
                simp only [Option.some.injEq, Prod.mk.injEq] at h
                exact ⟨m1, by rw [eqf_yes p.ts m t.ts m1 hx, h.1], fun _ => h.2⟩
            have HYES := Lib.hid hyes
            have HEF := fun W (hW : Below w.heap.size w W) => Lib.hid (equalFunc_any 116 (.map (some mb)) Tryz.call116 n₀ mstep (MtI K mb) (fun S A B h hb => h.below hb) p.ts t.ts HC op ot cp ct m r S1 W hln hlp (Nat.le_trans HN.out hW.size) (HSP.out.carry hW hW.size) (HSS.out.carry hW hW.size) hS1 (HI.out.below hW))
            clear hnm hln hS1 hyes
            go_enter Tryz.func116, Tryz.ntmps116
            rw [show tmv p (.slice op p.ts.length cp) = .agg #[.string p.nm, .bool p.vr, .slice op p.ts.length cp] from rfl, HV.out, show tmv t (.slice ot t.ts.length ct) = .agg #[.string t.nm, .bool t.vr, .slice ot t.ts.length ct] from rfl, hvt]
            go_wp2_with fail
            refine (HEF _ (by go_grown)).out.mono ?_
            rintro e w3 ⟨rfl, hi3, hk3⟩
            have HI3 := Lib.hid hi3
            have HK3 := Lib.hid (KpC.trans (KpC.of_below (show Below w.heap.size w _ from by go_grown) HN.out) hk3)
            clear hi3 hk3
            go_wp2_with fail
            go_ret
            exact ⟨rfl, (fun h => by rw [← HYES.out h]; exact HI3.out h), HK3.out⟩
          · have HRF : Hid (r = false) := Lib.hid (by
              have h := HST.out
              rw [mstep_no (mtc_not HV.out fun h => hln h.2.2)] at h
              simp only [Option.some.injEq, Prod.mk.injEq] at h
              exact h.1.symm)
            have HEF := fun W => Lib.hid (equalFunc_not p.ts t.ts op ot cp ct (.func (.func 116) #[.map (some mb)] #[]) W hln)
            clear hnm hln
            go_enter Tryz.func116, Tryz.ntmps116
            rw [show tmv p (.slice op p.ts.length cp) = .agg #[.string p.nm, .bool p.vr, .slice op p.ts.length cp] from rfl, HV.out, show tmv t (.slice ot t.ts.length ct) = .agg #[.string t.nm, .bool t.vr, .slice ot t.ts.length ct] from rfl, hvt]
            go_wp2_with fail
            refine (HEF _).out.mono ?_
            rintro e w3 ⟨rfl, rfl⟩
            go_wp2_with fail
            go_ret
            rw [HRF.out]
            exact ⟨rfl, (fun h => by cases h), KpC.of_below (by go_grown) HN.out⟩
        · have hbb := name_bne hnm
          have HRF : Hid (r = false) := Lib.hid (by
            have h := HST.out
            rw [mstep_no (mtc_not HV.out fun h => hnm h.2.1)] at h
            simp only [Option.some.injEq, Prod.mk.injEq] at h
            exact h.1.symm)
          clear hnm
          go_enter Tryz.func116, Tryz.ntmps116
          rw [show tmv p (.slice op p.ts.length cp) = .agg #[.string p.nm, .bool p.vr, .slice op p.ts.length cp] from rfl, HV.out, show tmv t (.slice ot t.ts.length ct) = .agg #[.string t.nm, .bool t.vr, .slice ot t.ts.length ct] from rfl, hvt]
          go_wp2_with fail
          go_ret
          rw [HRF.out]
          exact ⟨rfl, (fun h => by cases h), KpC.of_below (by go_grown) HN.out⟩
      · have HRF : Hid (r = false) := Lib.hid (by
          have h := HST.out
          rw [mstep_no (mtc_not HV.out fun h => by rw [hvt] at h; cases h.1)] at h
          simp only [Option.some.injEq, Prod.mk.injEq] at h
          exact h.1.symm)
        go_enter Tryz.func116, Tryz.ntmps116
        rw [show tmv p (.slice op p.ts.length cp) = .agg #[.string p.nm, .bool p.vr, .slice op p.ts.length cp] from rfl, HV.out, show tmv t (.slice ot t.ts.length ct) = .agg #[.string t.nm, .bool t.vr, .slice ot t.ts.length ct] from rfl, hvt]
        go_wp2_with fail
        go_ret
        rw [HRF.out]
        exact ⟨rfl, (fun h => by cases h), KpC.of_below (by go_grown) HN.out⟩
    · have HV := Lib.hid hv
      clear ih hv
      cases hg : getA m p.nm.data.toList with
      | none =>
        have HNM : Hid (p.nm.data.toList ∉ m.map (·.1)) := Lib.hid (getA_none.1 hg)
        obtain ⟨D, hown, hhas, hinv⟩ := HI.out.map.no hg
        have HR : Hid (r = true ∧ S' = m ++ [(p.nm.data.toList, t)]) := Lib.hid (by
          have h := HST.out; rw [mstep_yes (mtc_new HV.out HNM.out)] at h
          simp only [Option.some.injEq, Prod.mk.injEq] at h; exact ⟨h.1.symm, h.2.symm⟩)
        have HOWN := Lib.hid hown
        have HHAS := Lib.hid hhas
        have HINV := Lib.hid hinv
        have hmz : m.length < maxLen := by unfold maxLen; omega
        clear hg hown hhas hinv
        go_enter Tryz.func116, Tryz.ntmps116
        rw [show tmv p (.slice op p.ts.length cp) = .agg #[.string p.nm, .bool p.vr, .slice op p.ts.length cp] from rfl, HV.out]
        go_wp2_with (first
          | (at_lookup
             refine tlook_miss _ 152 Tryz.underlying152 rfl _ _ rfl mb m.length D rfl ((HOWN.out.alloc _).alloc _) _ _ rfl HKEY.out HHAS.out ?_)
          | (at_mapUpdate
             refine wpList_mapUpdate_in _ rfl _ _ _ 152 rfl 9 25 strKeyed Tryz.underlying152 imgR mb m.length D rfl (((HOWN.out.alloc _).alloc _).alloc _) hmz _ _ _ rfl rfl HKEY.out (.held (tmv t (.slice ot t.ts.length ct))) [] rfl ?_
             intro w3 hown3 hturn3
             have HO3 := Lib.hid hown3
             have HT3 := Lib.hid hturn3
             clear hown3 hturn3))
        go_ret
        have hkp : KpC n₀ w w3 := KpC.trans (KpC.of_below (by go_grown) HN.out) (HT3.out.kpc hnb)
        rw [HR.out.1, HR.out.2]
        refine ⟨rfl, fun _ => ⟨?_, ?_, ?_⟩, hkp⟩
        · have h := TMap.store HINV.out HSS.out HO3.out hkp hkp.size
          rwa [putA_new t HNM.out] at h
        · intro q hq
          rcases List.mem_append.1 hq with hq | hq
          · exact HI.out.bulk q hq
          · obtain rfl := List.mem_singleton.1 hq; exact HTB.out
        · intro q hq
          rcases List.mem_append.1 hq with hq | hq
          · exact HI.out.keys q hq
          · obtain rfl := List.mem_singleton.1 hq; exact HVIN.out.var HV.out
      | some u =>
        obtain ⟨D, su, hown, hhas, hat, hsu⟩ := HI.out.map.at hg
        have hub : u.bulk ≤ 1048576 := HI.out.bulk _ (getA_some hg)
        have HKM : Hid (p.nm.data.toList ∈ m.map (·.1)) := Lib.hid (getA_mem.2 ⟨u, hg⟩)
        have HIM : Hid (imageOf m p.nm.data.toList = u) := Lib.hid (imageOf_get hg)
        obtain ⟨ou, cu, rfl, -⟩ := hsu.form
        have HOWN := Lib.hid hown
        have HHAS := Lib.hid hhas
        have HAT := Lib.hid hat
        have HSU := Lib.hid hsu
        clear hg hown hhas hat hsu
        have HEQ := fun W (hW : Below w.heap.size w W) => Lib.hid (tequal_any u t (.slice ou u.ts.length cu) (.slice ot t.ts.length ct) W hub HTB.out (HSU.out.carry hW hW.size) (HSS.out.carry hW hW.size))
        go_enter Tryz.func116, Tryz.ntmps116
        rw [show tmv p (.slice op p.ts.length cp) = .agg #[.string p.nm, .bool p.vr, .slice op p.ts.length cp] from rfl, HV.out]
        go_wp2_with (first
          | (at_lookup
             refine tlook_hit _ 152 Tryz.underlying152 rfl _ _ rfl mb m.length D rfl ((HOWN.out.alloc _).alloc _) _ _ rfl HKEY.out (.agg #[.string u.nm, .bool u.vr, .slice ou u.ts.length cu]) HAT.out HHAS.out ?_)
          | (go_at_call 147
             refine (HEQ _ (by go_grown)).out.mono ?_
             rintro e w3 ⟨⟨x, rfl, hx⟩, hb3⟩
             have HX := Lib.hid hx
             have HB3 : Hid (Below w.heap.size w w3) := Lib.hid (Below.trans (by go_grown) (hb3.mono (by simp; omega)))
             clear hx hb3))
        go_ret
        have hkp : KpC n₀ w w3 := KpC.of_below HB3.out HN.out
        by_cases hut : u = t
        · have hx1 : x = true := HX.out.2 hut
          have h := HST.out
          rw [mstep_yes (mtc_old HV.out HKM.out (HIM.out.trans hut))] at h
          simp only [Option.some.injEq, Prod.mk.injEq] at h
          rw [← h.1, ← h.2, hx1]
          exact ⟨rfl, fun _ => HI.out.below HB3.out, hkp⟩
        · have hx1 : x = false := by cases x; rfl; exact absurd (HX.out.1 rfl) hut
          have h := HST.out
          rw [mstep_no (mtc_clash HV.out HKM.out (fun e => hut (HIM.out.symm.trans e)))] at h
          simp only [Option.some.injEq, Prod.mk.injEq] at h
          rw [← h.1, hx1]
          exact ⟨rfl, (fun h => by cases h), hkp⟩
end Go.Proofs.YtkglopdogakfoaaGreatDoor
