/- Canonical: the names in the order of their first showing. -/
import Derived.WalkKit
import Derived.ProofKit
import Derived.OpenShut
import Derived.Handy
import Derived.Lib.Hide
import Derived.StringKeys
import Derived.Maps.OwnSet
import Derived.Maps.OwnOps
import Derived.Maps.StringElems
import Derived.Test.YtdeaehkdhghfkaaDoorCln
namespace Go.Proofs.YtdeaehkdhghfkaaDoor
open Go.RowKit Go.Maps

abbrev Key := List UInt8
def xname (dig : Nat → ByteArray) (i : Nat) : ByteArray := ⟨#[120]⟩ ++ dig i
/-- the variable's canonical name, given the names seen -/
def canImg (dig : Nat → ByteArray) (ss : List Key) (nm : ByteArray) : Tm × List Key :=
  if nm.data.toList ∈ ss then (.mk (xname dig (ss.idxOf nm.data.toList)) true [], ss) else (.mk (xname dig ss.length) true [], ss ++ [nm.data.toList])

/-- the map's datum and the names seen -/
structure MapInv (dig : Nat → ByteArray) (D : DataW Unit) (ss : List Key) : Prop where
  tidy : Tidy D
  size : Maps.size D = ss.length
  has : ∀ k, Maps.has D (.string k) = decide (k ∈ ss)
  at_ : ∀ i k, ss[i]? = some k → ∀ z, D.atKey (.string k) z = .lit (.string (xname dig i).data.toList)
theorem MapInv.empty (dig : Nat → ByteArray) : MapInv dig (.map []) [] := ⟨tidy_empty, rfl, fun k => by simp [Maps.has_eq], fun i k h => by simp at h⟩
theorem MapInv.put {dig : Nat → ByteArray} {D : DataW Unit} {ss : List Key} (h : MapInv dig D ss) {k : Key} (hk : k ∉ ss) : MapInv dig (D.put (.string k) (.lit (.string (xname dig ss.length).data.toList))) (ss ++ [k]) := by
  have hl : WideAt.IsKeyLit (.string k) := trivial
  refine ⟨h.tidy.put hl _, ?_, fun k' => ?_, fun i k' hi z => ?_⟩
  · rw [size_put h.tidy, h.has, h.size]; simp [hk]
  · by_cases e : k' = k
    · subst e; rw [has_put_same h.tidy.isMap hl]; simp
    · rw [has_put_other (by simpa using e), h.has]; simp [e]
  · by_cases e : k' = k
    · subst e
      rw [atKey_put_same h.tidy.isMap hl]
      have hlt := (List.getElem?_eq_some_iff.1 hi).1
      by_cases hil : i < ss.length
      · rw [List.getElem?_append_left hil] at hi; exact absurd (List.mem_of_getElem? hi) hk
      · simp at hlt; rw [show i = ss.length by omega]
    · rw [atKey_put_other (by simpa using e)]
      refine h.at_ i k' ?_ z
      by_cases hil : i < ss.length
      · rwa [List.getElem?_append_left hil] at hi
      · rw [List.getElem?_append_right (by omega)] at hi
        have hlt := (List.getElem?_eq_some_iff.1 hi).1
        simp at hlt
        rw [show i - ss.length = 0 by omega] at hi
        simp at hi; exact absurd hi.symm e
theorem idxOf_at {ss : List Key} {k : Key} (h : k ∈ ss) : ss[ss.idxOf k]? = some k := by
  have hlt := List.idxOf_lt_length_iff.2 h
  rw [List.getElem?_eq_getElem hlt]
  exact congrArg some (List.getElem_idxOf hlt)

section
variable {H : Type} {P : Program} (w : World) {ops : Array Oper} {rest : List Oper} {o : Oper} {a : Act} {Q : Exit → Act → World → Prop}
theorem wpList_lookup_own_plain (hg : o.guard = none) (m x : Operand) (t : TypeId) (hop : o.op = Op.lookup t m x false)
    (k e : TypeId) (K : Keyed P k) (ht : P.underlying t = some (.map k e)) (R : Value → Option (DataW H × List MemPlace)) {z : Value} (hz : (zeroValue e).run P w = .ok z w) (zd : DataW H) (zp : List MemPlace) (hzd : R z = some (zd, zp)) (b n : Nat) (D : DataW H)
    (hm : a.eval m = .map (some b)) (hown : w.ownsMap P k R b n D) (key : Value) (kl : Lit) (hx : a.eval x = key) (hkey : keyOf P k key = some kl)
    (hK : ∀ v ps, R v = some (D.atKey kl zd, ps) → wpList P ops Q rest (a.put o.dst v) w) :
    wpList P ops Q (o :: rest) a w := by
  refine wpList_plain hg fun K' hK' => ?_
  obtain ⟨v, ps, hrun, hv⟩ := hown.lookup K ht hz hzd hkey
  unfold Oper.wp
  simp [execOp, hop, hm, hx, hrun, Result.andThen]
  exact hK' _ _ (hK v ps hv)
end

theorem strKeyed : Keyed Tryd.prog 9 := string_keyed Tryd.underlying9
theorem zeroStr (w : World) : (zeroValue 9).run Tryd.prog w = .ok (.string ⟨#[]⟩) w := Tryd.zeroValue9 w
theorem zeroRead : plainElem (H := Unit) Tryd.prog 9 (.string ⟨#[]⟩) = some (.lit (.string []), []) := plainElem_string Tryd.underlying9 (by decide)
theorem xname_size (dig : Nat → ByteArray) (i : Nat) (h : (dig i).size ≤ 30) : (({ data := #[120] } : ByteArray) ++ dig i).size ≤ maxLen := by rw [ByteArray.size_append]; have : ({ data := #[120] } : ByteArray).size = 1 := rfl; unfold maxLen; omega
theorem bytes_ext {a b : ByteArray} (h : a.data.toList = b.data.toList) : a = b := by cases a; cases b; simpa using h

/-- the closure's state: the map and its variable -/
def CanI (dig : Nat → ByteArray) (GW : World → Prop) (n₀ m b mb : Nat) (ss : List Key) (W : World) : Prop :=
  GW W ∧ n₀ ≤ b ∧ b < m ∧ mb < m ∧ W.heap[mb]? = some (.cells #[.map (some b)] 106 (0, 0)) ∧ ∃ D : DataW Unit, W.ownsMap Tryd.prog 9 (plainElem Tryd.prog 9) b ss.length D ∧ MapInv dig D ss
theorem CanI.stable {dig : Nat → ByteArray} {GW : World → Prop} {n₀ m b mb : Nat} (hG : ∀ A B, GW A → Below m A B → GW B) {ss : List Key} {A B : World} (h : CanI dig GW n₀ m b mb ss A) (hb : Below m A B) : CanI dig GW n₀ m b mb ss B := by
  obtain ⟨h1, h2, h3, h4, h5, D, ⟨es, cl, hes, h6⟩, h7⟩ := h
  exact ⟨hG _ _ h1 hb, h2, h3, h4, (hb.block mb h4).trans h5, D, ⟨es, cl, (hb.block b h3).trans hes, h6⟩, h7⟩

set_option maxRecDepth 100000 in
set_option maxHeartbeats 2000000 in
theorem canonical1_any (dig : Nat → ByteArray) (GW : World → Prop) (n₀ m b mb N : Nat) (hG : ∀ A B, GW A → Below m A B → GW B) (hGm : ∀ A B, GW A → Fr n₀ m A B → GW B) (hdig : ∀ i, (dig i).size ≤ 30) (hN : N ≤ 1048576)
    (HIT : Hid (∀ (i : Nat) (W : World), i < N → GW W → Calls Tryd.prog 78 #[.int .i64 i] W fun e W' => e = .returned (.string (dig i)) ∧ Below W.heap.size W W'))
    (ss : List Key) (nm : ByteArray) (W : World) (hI : CanI dig GW n₀ m b mb ss W) (hmW : m ≤ W.heap.size) (hnm : nm.size ≤ 1048576) (hss : ss.length < N) :
    Calls Tryd.prog 77 #[.string nm, .pointer (some ⟨mb, 0, none⟩)] W fun e W' => Fresh 24 W W' (canImg dig ss nm).1 e ∧ CanI dig GW n₀ m b mb (canImg dig ss nm).2 W' ∧ Fr n₀ m W W' := by
  have HI := Lib.hid hI
  obtain ⟨h1, h2, h3, h4, h5, D, hown, hinv⟩ := hI
  have hmb5 : (W.alloc (.cells #[.string ⟨#[]⟩, .bool false, .slice none 0 0] 24)).heap[mb]? = some (.cells #[.map (some b)] 106 (0, 0)) := (Below.heap_alloc _ _ _ (by omega)).trans h5
  have hmc : (W.alloc (.cells #[.string ⟨#[]⟩, .bool false, .slice none 0 0] 24)).cell? ⟨mb, 0, none⟩ = some (.map (some b)) := by have := cells_of' hmb5 0; simpa using this
  have hkey : keyOf Tryd.prog 9 (.string nm) = some (.string nm.data.toList) := WideMaps.keyOf_string_mk Tryd.underlying9 (by unfold maxLen; omega)
  have HNE : Hid (mb ≠ b) := Lib.hid (by rintro rfl; obtain ⟨es, cl, hes, _⟩ := hown; rw [h5] at hes; cases hes)
  have HOWN := Lib.hid hown
  have HINV := Lib.hid hinv
  have HKEY := Lib.hid hkey
  have HMB := Lib.hid h5
  have HGW := Lib.hid h1
  have HG := Lib.hid hG
  have HGM := Lib.hid hGm
  have HDIG := Lib.hid hdig
  clear h1 h5 hmb5 hown hinv hkey hG hGm hdig
  by_cases hin : nm.data.toList ∈ ss
  · have HHAS : Hid (Maps.has D (.string nm.data.toList) = true) := Lib.hid (by rw [HINV.out.has]; simpa using hin)
    have HIN := Lib.hid hin
    clear hin
    go_enter Tryd.func77, Tryd.ntmps77
    go_wp2_with (first
      | (at_lookup
         refine wpList_lookup_own_ok _ rfl _ _ 106 rfl 9 9 strKeyed Tryd.underlying106 _ (zeroStr _) (.lit (.string [])) [] zeroRead b ss.length D rfl (HOWN.out.alloc _) _ _ rfl HKEY.out ?_
         intro v ps hv
         obtain ⟨s, rfl, -, -⟩ := plainElem_string_inv Tryd.underlying9 hv
         rw [HHAS.out]
         clear hv)
      | (at_lookup
         refine wpList_lookup_own_plain _ rfl _ _ 106 rfl 9 9 strKeyed Tryd.underlying106 _ (zeroStr _) (.lit (.string [])) [] zeroRead b ss.length D rfl (HOWN.out.alloc _) _ _ rfl HKEY.out ?_
         intro v ps hv
         obtain ⟨s, rfl, hs2, -⟩ := plainElem_string_inv Tryd.underlying9 hv
         have HS := Lib.hid hs2
         clear hv hs2))
    have hse : s = xname dig (ss.idxOf nm.data.toList) := by
      have h1 := HS.out
      rw [HINV.out.at_ _ _ (idxOf_at HIN.out)] at h1
      simp only [Prod.mk.injEq, DataW.lit.injEq, Lit.string.injEq] at h1
      exact (bytes_ext h1.1).symm
    subst hse
    clear HS
    refine (variable_any _ _).mono ?_
    rintro e w1 ⟨rfl, hb1⟩
    have hr := (hb1.block W.heap.size (by simp)).trans (heap_new_at _ _ _ rfl)
    obtain ⟨⟨r0, r1, r2⟩, f0, f1, f2⟩ := box3 hr
    have HR := Lib.hid hr
    have HB1 := Lib.hid ((show Below W.heap.size W (W.alloc (.cells #[.string ⟨#[]⟩, .bool false, .slice none 0 0] 24)) from by go_grown).trans (hb1.mono (by simp)))
    clear hr hb1 hmc
    dsimp only [tmv, Tm.nm, Tm.vr]
    go_wp2_with fail
    have HE : Hid (canImg dig ss nm = (.mk (xname dig (ss.idxOf nm.data.toList)) true [], ss)) := Lib.hid (by rw [canImg, if_pos HIN.out])
    have hq := box3_set HR.out (.string (xname dig (ss.idxOf nm.data.toList))) (.bool true) (.slice none 0 0)
    obtain ⟨⟨q0, q1, q2⟩, -⟩ := box3 hq
    have hbw := below_set3 HB1.out (Nat.le_refl _) (.string (xname dig (ss.idxOf nm.data.toList))) (.bool true) (.slice none 0 0)
    refine bodyPost_ret (v := tmv (.mk (xname dig (ss.idxOf nm.data.toList)) true []) (.slice none 0 0)) (by simp [results, Tryd.f77, go_sem, q0, q1, q2, tmv, Tm.nm, Tm.vr]) rfl ?_
    rw [HE.out]
    exact ⟨⟨_, [], rfl, .nil, by simp, by simp⟩, HI.out.stable HG.out (hbw.mono hmW), Fr.of_below hbw⟩
  · have HHAS : Hid (Maps.has D (.string nm.data.toList) = false) := Lib.hid (by rw [HINV.out.has]; simpa using hin)
    have HIN := Lib.hid hin
    have hsz : ((ss.length : Nat) : Int) = (ss.length : Int) := rfl
    have hd := HDIG.out ss.length
    clear hin
    go_enter Tryd.func77, Tryd.ntmps77
    go_wp2_with (first
      | (at_lookup
         refine wpList_lookup_own_ok _ rfl _ _ 106 rfl 9 9 strKeyed Tryd.underlying106 _ (zeroStr _) (.lit (.string [])) [] zeroRead b ss.length D rfl (HOWN.out.alloc _) _ _ rfl HKEY.out ?_
         intro v ps hv
         obtain ⟨s, rfl, -, -⟩ := plainElem_string_inv Tryd.underlying9 hv
         rw [HHAS.out]
         clear hv)
      | (at_len
         refine wpList_len_own _ rfl _ 106 rfl 9 9 Tryd.underlying106 _ b ss.length D rfl (HOWN.out.alloc _) ?_
         rw [HINV.out.size])
      | (go_at_call 78
         refine (HIT.out ss.length _ hss (HG.out _ _ HGW.out ((Below.refl _ W).alloc hmW _))).mono ?_
         rintro e w1 ⟨rfl, hb1⟩
         have hmb1 := (hb1.block mb (by simp; omega)).trans ((Below.heap_alloc _ _ _ (by omega)).trans HMB.out)
         have hr1 := (hb1.block W.heap.size (by simp)).trans (heap_new_at _ _ _ rfl)
         have hmc1 : w1.cell? ⟨mb, 0, none⟩ = some (.map (some b)) := by have := cells_of' hmb1 0; simpa using this
         have HMB1 := Lib.hid hmb1
         have HR1 := Lib.hid hr1
         have HOWN1 := Lib.hid ((HOWN.out.alloc (.cells #[.string ⟨#[]⟩, .bool false, .slice none 0 0] 24)).kept (below_grown hb1) (by simp))
         have HB1 := Lib.hid ((show Below W.heap.size W (W.alloc (.cells #[.string ⟨#[]⟩, .bool false, .slice none 0 0] 24)) from by go_grown).trans (hb1.mono (by simp)))
         clear hb1 hmb1 hr1)
      | (at_mapUpdate
         refine wpList_mapUpdate_in _ rfl _ _ _ 106 rfl 9 9 strKeyed Tryd.underlying106 _ b ss.length D rfl HOWN1.out (by unfold maxLen; omega) _ _ _ rfl rfl HKEY.out _ [] (plainElem_string Tryd.underlying9 (xname_size dig _ hd)) ?_
         intro w3 hown3 hturn3
         have hg3 := hturn3.grown
         have hmb3 := (hg3.block mb (by have := HB1.out.size; omega) (fun e => HNE.out (by cases e; rfl))).trans HMB1.out
         have hr3 := (hg3.block W.heap.size (by have := (Array.getElem?_eq_some_iff.1 HR1.out).1; omega) (fun e => by cases e; omega)).trans HR1.out
         have hmc3 : w3.cell? ⟨mb, 0, none⟩ = some (.map (some b)) := by have := cells_of' hmb3 0; simpa using this
         have HMB3 := Lib.hid hmb3
         have HR3 := Lib.hid hr3
         have HOWN3 := Lib.hid hown3
         have HG3 := Lib.hid hg3
         clear hown3 hturn3 hg3 hmb3 hr3 hmc1)
      | (at_lookup
         refine wpList_lookup_own_plain _ rfl _ _ 106 rfl 9 9 strKeyed Tryd.underlying106 _ (zeroStr _) (.lit (.string [])) [] zeroRead b (ss.length + 1) _ rfl HOWN3.out _ _ rfl HKEY.out ?_
         intro v ps hv
         obtain ⟨s2, rfl, hs2, -⟩ := plainElem_string_inv Tryd.underlying9 hv
         have HS := Lib.hid hs2
         clear hv hs2))
    have hse : s2 = xname dig ss.length := by
      have h1 := HS.out
      rw [atKey_put_same HINV.out.tidy.isMap (show WideAt.IsKeyLit (.string nm.data.toList) from trivial)] at h1
      simp only [Prod.mk.injEq, DataW.lit.injEq, Lit.string.injEq] at h1
      exact (bytes_ext h1.1).symm
    subst hse
    clear HS
    refine (variable_any _ _).mono ?_
    rintro e w4 ⟨rfl, hb4⟩
    have hz3 := (Array.getElem?_eq_some_iff.1 HR3.out).1
    have hmW' : m ≤ w3.heap.size := by omega
    have hr4 := (hb4.block W.heap.size hz3).trans HR3.out
    obtain ⟨⟨r0, r1, r2⟩, f0, f1, f2⟩ := box3 hr4
    have HR4 := Lib.hid hr4
    have HB4 := Lib.hid hb4
    clear hr4 hb4 hmc3
    dsimp only [tmv, Tm.nm, Tm.vr]
    go_wp2_with fail
    have HE : Hid (canImg dig ss nm = (.mk (xname dig ss.length) true [], ss ++ [nm.data.toList])) := Lib.hid (by rw [canImg, if_neg HIN.out])
    have hq := box3_set HR4.out (.string (xname dig ss.length)) (.bool true) (.slice none 0 0)
    obtain ⟨⟨q0, q1, q2⟩, -⟩ := box3 hq
    refine bodyPost_ret (v := tmv (.mk (xname dig ss.length) true []) (.slice none 0 0)) (by simp [results, Tryd.f77, go_sem, q0, q1, q2, tmv, Tm.nm, Tm.vr]) rfl ?_
    rw [HE.out]
    have hfr3 : Fr n₀ m W w3 := (Fr.of_below HB1.out).trans ⟨HG3.out.os, HG3.out.tape, HG3.out.output, HG3.out.size, fun k hk hc => HG3.out.block k hk (fun e => by cases e; omega)⟩
    have hb34 := (HB4.out.mono hmW' ).trans (below_set3 (Below.refl m w4) hmW (.string (xname dig ss.length)) (.bool true) (.slice none 0 0))
    have hfr : Fr n₀ m W (((w4.setCell ⟨W.heap.size, 0, none⟩ (.string (xname dig ss.length))).setCell ⟨W.heap.size, 1, none⟩ (.bool true)).setCell ⟨W.heap.size, 2, none⟩ (.slice none 0 0)) :=
      (((hfr3.trans (Fr.of_below HB4.out)).setNew (p := ⟨W.heap.size, 0, none⟩) (Nat.le_refl _) _).setNew (p := ⟨W.heap.size, 1, none⟩) (Nat.le_refl _) _).setNew (p := ⟨W.heap.size, 2, none⟩) (Nat.le_refl _) _
    refine ⟨⟨_, [], rfl, .nil, by simp, by simp⟩, ?_, hfr⟩
    have hc3 : CanI dig (fun _ => True) n₀ m b mb (ss ++ [nm.data.toList]) w3 := ⟨trivial, h2, h3, h4, HMB3.out, _, by rw [List.length_append]; exact HOWN3.out, HINV.out.put HIN.out⟩
    obtain ⟨_, hc⟩ := hc3.stable (fun _ _ _ _ => trivial) hb34
    exact ⟨HGM.out _ _ HGW.out hfr, hc⟩
end Go.Proofs.YtdeaehkdhghfkaaDoor
