/- The occurs check at any state: what it says when it finds nothing. -/
import Derived.WalkKit
import Derived.ProofKit
import Derived.OpenShut
import Derived.Handy
import Derived.Lib.Hide
import Derived.Maps.RangeWalk
import Derived.Test.YtkglopdogakfoaaGreatDoorHcy
import Derived.Test.YtkglopdogakfoaaGreatDoorGj
import Derived.Sort.MapsRangeIn
namespace Go.Proofs.YtkglopdogakfoaaGreatDoor
open Go.RowKit Go.Maps

/-- how a function ends that may find something; I: behind a 'no', J: behind a 'yes' -/
def GenPost (X : Nat → Prop) (I J : World → Prop) (w : World) (e : Ending) (w' : World) : Prop := ∃ c : Bool, e = .returned (.bool c) ∧ (c = false → I w') ∧ (c = true → J w') ∧ FrX X w w'
def IdxPost (X : Nat → Prop) (I J : World → Prop) (w : World) (e : Ending) (w' : World) : Prop := ∃ i : Int, e = .returned (.int .i64 i) ∧ (i = -1 → I w') ∧ (i ≠ -1 → 0 ≤ i ∧ J w') ∧ FrX X w w'
set_option maxRecDepth 100000 in
set_option maxHeartbeats 2000000 in
theorem indexFunc_gen (k : Nat) (cap : Array Value) (hcf : ∀ args w, (callFunc k args).run Tryz.prog w = .ok (.enter k args) w) (X : Nat → Prop) (I : Nat → World → Prop) (J : World → Prop) (hI : ∀ j A B, I j A → Below A.heap.size A B → I j B) (hJ : ∀ A B, J A → Below A.heap.size A B → J B) (L : List Tm) (w : World)
    (HX : Hid (∀ j W, I j W → FrX X w W → KpC 0 w W))
    (HC : Hid (∀ (j : Nat) (u : Tm), L[j]? = some u → ∀ (su : Value) (W : World), I j W → SlIs W.heap.size W u.ts su → Calls Tryz.prog k (#[tmv u su] ++ cap) W (GenPost X (I (j + 1)) J W)))
    (o1 : Option Addr) (k1 : Nat) (hl : L.length ≤ 1048576) (h1 : SlIs w.heap.size w L (.slice o1 L.length k1)) (hS : I 0 w) :
    Calls Tryz.prog 191 #[.slice o1 L.length k1, .func (.func k) #[] cap] w (IdxPost X (I L.length) J w) := by
  have H1 := Lib.hid h1
  have HS := Lib.hid hS
  have HI := Lib.hid hI
  have HJ := Lib.hid hJ
  clear h1 hS hI hJ
  go_enter Tryz.func191, Tryz.ntmps191
  go_wp2_with fail
  go_loopw [8] (fun i wr => ∃ j : Nat, j ≤ L.length ∧ i = .int .i64 j ∧ Hid (I j wr) ∧ Hid (FrX X w wr)) (fun i _ => L.length - (intOf i).toNat)
  case atStart => exact ⟨0, by omega, rfl, HS, Lib.hid (FrX.refl _ _)⟩
  case round =>
    obtain ⟨j, hj, rfl, HS1, HF⟩ := hrel
    by_cases hlt : j < L.length
    · obtain ⟨b1, p1, u, su, rfl, hbb1, hu, hum, hus, c1, c2, c3⟩ := (H1.out.kp (HX.out _ _ HS1.out HF.out) HF.out.size).get hlt
      obtain ⟨ou, cu, rfl, -⟩ := hus.form
      have HCU := Lib.hid (HC.out j u hu (.slice ou u.ts.length cu) wr HS1.out hus)
      clear hu hus
      go_wp2_with fail
      refine HCU.out.mono ?_
      rintro e w2 ⟨c, rfl, hi2, hj2, hk2⟩
      have HI2 := Lib.hid hi2
      have HJ2 := Lib.hid hj2
      have HK2 := Lib.hid (HF.out.trans hk2)
      clear hi2 hj2 hk2
      cases c
      · go_wp2_with fail
        exact ⟨⟨j + 1, by omega, by go_num, Lib.hid (HI2.out (by first | rfl | trivial)), HK2⟩, by simp [intOf]; omega⟩
      · go_wp2_with fail
        go_ret
        exact ⟨_, rfl, fun h => by omega, fun _ => ⟨by omega, HJ2.out (by first | rfl | trivial)⟩, HK2.out⟩
    · obtain rfl : j = L.length := by omega
      go_wp2_with fail
      go_ret
      exact ⟨_, rfl, fun _ => HS1.out, fun h => absurd rfl h, HF.out⟩
set_option maxRecDepth 100000 in
set_option maxHeartbeats 2000000 in
theorem containsFunc_gen (k : Nat) (cap : Array Value) (hcf : ∀ args w, (callFunc k args).run Tryz.prog w = .ok (.enter k args) w) (X : Nat → Prop) (I : Nat → World → Prop) (J : World → Prop) (hI : ∀ j A B, I j A → Below A.heap.size A B → I j B) (hJ : ∀ A B, J A → Below A.heap.size A B → J B) (L : List Tm) (w : World)
    (HX : Hid (∀ j W, I j W → FrX X w W → KpC 0 w W))
    (HC : Hid (∀ (j : Nat) (u : Tm), L[j]? = some u → ∀ (su : Value) (W : World), I j W → SlIs W.heap.size W u.ts su → Calls Tryz.prog k (#[tmv u su] ++ cap) W (GenPost X (I (j + 1)) J W)))
    (o1 : Option Addr) (k1 : Nat) (hl : L.length ≤ 1048576) (h1 : SlIs w.heap.size w L (.slice o1 L.length k1)) (hS : I 0 w) :
    Calls Tryz.prog 168 #[.slice o1 L.length k1, .func (.func k) #[] cap] w (GenPost X (I L.length) J w) := by
  have HIN := Lib.hid (indexFunc_gen k cap hcf X I J hI hJ L w HX HC o1 k1 hl h1 hS)
  clear h1 hS hI hJ hcf
  go_enter Tryz.func168, Tryz.ntmps168
  go_wp2_with fail
  refine HIN.out.mono ?_
  rintro e w2 ⟨i, rfl, hi2, hj2, hk2⟩
  have HI2 := Lib.hid hi2
  have HJ2 := Lib.hid hj2
  have HK2 := Lib.hid hk2
  clear hi2 hj2 hk2
  by_cases hi : i = -1
  · subst hi
    go_wp2_with fail
    go_ret
    exact ⟨_, rfl, (fun _ => HI2.out (by first | rfl | trivial)), (fun h => by cases h), HK2.out⟩
  · obtain ⟨hi0, hj⟩ := HJ2.out hi
    have HJ3 := Lib.hid hj
    have hge : decide (0 ≤ i) = true := decide_eq_true hi0
    clear hj hi HI2 HJ2
    go_wp2_with fail
    go_ret
    exact ⟨_, rfl, fun h => by simp at h, fun _ => HJ3.out, HK2.out⟩

set_option maxRecDepth 100000 in
set_option maxHeartbeats 2000000 in
theorem occurs1_gen (sb mi b0 b1 : Nat) (X : Nat → Prop) (I J : World → Prop) (u : Tm) (su : Value) (W : World) (hn : ∃ oa n c, su = .slice oa n c)
    (h0 : W.heap[b0]? = some (.cells #[.pointer (some ⟨sb, 0, none⟩)] 166 (0, 0))) (h1 : W.heap[b1]? = some (.cells #[.map (some mi)] 64 (0, 0)))
    (HO : Hid (∀ W', Below W.heap.size W W' → Calls Tryz.prog 143 #[.pointer (some ⟨sb, 0, none⟩), .string u.nm, .map (some mi)] W' (GenPost X I J W'))) :
    Calls Tryz.prog 169 (#[tmv u su] ++ #[.pointer (some ⟨b0, 0, none⟩), .pointer (some ⟨b1, 0, none⟩)]) W (GenPost X I J W) := by
  obtain ⟨oa, n, c, rfl⟩ := hn
  have hb0 := (Array.getElem?_eq_some_iff.1 h0).1
  have hb1 := (Array.getElem?_eq_some_iff.1 h1).1
  have x0 : (W.alloc (.cells #[.string u.nm, .bool u.vr, .slice oa n c] 25)).cell? ⟨b0, 0, none⟩ = some (.pointer (some ⟨sb, 0, none⟩)) := (cell_old _ _ _ _ hb0).trans (by have := cells_of' h0 0; simpa using this)
  have x1 : (W.alloc (.cells #[.string u.nm, .bool u.vr, .slice oa n c] 25)).cell? ⟨b1, 0, none⟩ = some (.map (some mi)) := (cell_old _ _ _ _ hb1).trans (by have := cells_of' h1 0; simpa using this)
  clear h0 h1
  show Calls Tryz.prog 169 #[.agg #[.string u.nm, .bool u.vr, .slice oa n c], .pointer (some ⟨b0, 0, none⟩), .pointer (some ⟨b1, 0, none⟩)] W _
  go_enter Tryz.func169, Tryz.ntmps169
  go_wp2_with fail
  refine (HO.out _ (by go_grown)).mono ?_
  rintro e w2 ⟨c, rfl, hi2, hj2, hk2⟩
  have HI2 := Lib.hid hi2
  have HJ2 := Lib.hid hj2
  have HK2 := Lib.hid (FrX.trans (FrX.of_below (show Below W.heap.size W _ from by go_grown)) hk2)
  clear hi2 hj2 hk2
  go_wp2_with fail
  go_ret
  exact ⟨c, rfl, HI2.out, HJ2.out, HK2.out⟩

/-- names that were left for good: what they stand for contains names left before -/
def Fin (S : Sv) (l : List (Key × Bool)) : Prop := ∃ rk : Key → Nat, ∀ k t, getA l k = some false → getA S.bd k = some t → ∀ u ∈ t.ts, getA l (repE S.eq u.nm.data.toList) = some false ∧ rk (repE S.eq u.nm.data.toList) < rk k
theorem Fin.start (S : Sv) : Fin S [] := ⟨fun _ => 0, fun k t h => by cases h⟩
theorem below_some (l : List Tm) (f : Tm → Nat) : ∃ m, ∀ u ∈ l, f u < m := by
  induction l with
  | nil => exact ⟨0, by simp⟩
  | cons x l ih =>
    obtain ⟨m, hm⟩ := ih
    refine ⟨max m (f x + 1), fun u hu => ?_⟩
    rcases List.mem_cons.1 hu with rfl | hu
    · omega
    · have := hm u hu; omega
theorem Fin.enter {S : Sv} {l : List (Key × Bool)} (h : Fin S l) {r : Key} (hr : getA l r = none) : Fin S (putA l r true) := by
  obtain ⟨rk, h⟩ := h
  refine ⟨rk, fun k t hk hg u hu => ?_⟩
  rw [getA_put] at hk
  split at hk
  · cases hk
  · obtain ⟨h1, h2⟩ := h k t hk hg u hu
    refine ⟨?_, h2⟩
    rw [getA_put, if_neg (fun e => by rw [e, hr] at h1; cases h1)]
    exact h1
theorem Fin.leave {S : Sv} {l : List (Key × Bool)} (h : Fin S l) {r : Key} (hr : getA l r = some true) (hk : ∀ t, getA S.bd r = some t → ∀ u ∈ t.ts, getA l (repE S.eq u.nm.data.toList) = some false) : Fin S (putA l r false) := by
  obtain ⟨rk, h⟩ := h
  obtain ⟨m, hm⟩ : ∃ m, ∀ t, getA S.bd r = some t → ∀ u ∈ t.ts, rk (repE S.eq u.nm.data.toList) < m := by
    cases hg : getA S.bd r with
    | none => exact ⟨0, fun t h => by cases h⟩
    | some t =>
      obtain ⟨m, hm⟩ := below_some t.ts fun u => rk (repE S.eq u.nm.data.toList)
      exact ⟨m, fun t' h => by cases h; exact hm⟩
  have old : ∀ k, getA l k = some false → getA (putA l r false) k = some false ∧ (if k = r then m else rk k) = rk k := fun k hk => by
    have hne : k ≠ r := fun e => by rw [e, hr] at hk; cases hk
    rw [getA_put, if_neg hne, if_neg hne]; exact ⟨hk, rfl⟩
  refine ⟨fun k => if k = r then m else rk k, fun k t hd hg u hu => ?_⟩
  by_cases e : k = r
  · subst e
    obtain ⟨h1, h2⟩ := old _ (hk t hg u hu)
    refine ⟨h1, ?_⟩
    show (if repE S.eq u.nm.data.toList = k then m else rk (repE S.eq u.nm.data.toList)) < if k = k then m else rk k
    rw [h2, if_pos rfl]; exact hm t hg u hu
  · rw [getA_put, if_neg e] at hd
    obtain ⟨h1, h2⟩ := h k t hd hg u hu
    obtain ⟨h3, h4⟩ := old _ h1
    refine ⟨h3, ?_⟩
    show (if repE S.eq u.nm.data.toList = r then m else rk (repE S.eq u.nm.data.toList)) < if k = r then m else rk k
    rw [h4, if_neg e]; exact h2
/-- what is known stays known -/
def Kns (l l' : List (Key × Bool)) : Prop := ∀ k b, getA l k = some b → getA l' k = some b
theorem Kns.len {l l' : List (Key × Bool)} (h : Kns l l') (hn : (l.map (·.1)).Nodup) : l.length ≤ l'.length := by
  have := nodup_len hn (K := l'.map (·.1)) fun x hx => by
    obtain ⟨b, hb⟩ := getA_mem.1 hx
    exact getA_mem.2 ⟨b, h x b hb⟩
  simpa using this
/-- a visit that found nothing -/
structure Oc2 (GW : World → Prop) (sb m1 m2 mi : Nat) (p : Nat → Prop) (S : Sv) (l l' : List (Key × Bool)) (W : World) : Prop where
  oc : OcI GW sb m1 m2 mi p S l' W
  fin : Fin S l'
  kns : Kns l l'
def OcF (GW : World → Prop) (sb m1 m2 mi : Nat) (p : Nat → Prop) (S : Sv) (l : List (Key × Bool)) (u : Key) (W : World) : Prop := ∃ l', Oc2 GW sb m1 m2 mi p S l l' W ∧ getA l' (repE S.eq u) = some false
def OcT (GW : World → Prop) (sb m1 m2 mi : Nat) (p : Nat → Prop) (S : Sv) (W : World) : Prop := ∃ l', OcI GW sb m1 m2 mi p S l' W

set_option maxRecDepth 100000 in
set_option maxHeartbeats 8000000 in
theorem occurs_gen {N : Nat} {GW : World → Prop} (HG : Hid (ItoaOk N GW)) (sb m1 m2 mi : Nat) (S : Sv) (hbl : S.bd.length ≤ 1048576) (hel : S.eq.length ≤ 1048576) (n : Nat) :
    ∀ (p : Nat → Prop) (u : Key) (l : List (Key × Bool)) (w : World), (reps S).length - l.length = n → u ∈ univ S → OcI GW sb m1 m2 mi p S l w → Fin S l →
    Calls Tryz.prog 143 #[.pointer (some ⟨sb, 0, none⟩), .string (kb u), .map (some mi)] w (GenPost (ocX m2 mi) (OcF GW sb m1 m2 mi p S l u) (OcT GW sb m1 m2 mi p S) w) := by
  induction n using Nat.strongRecOn with
  | ind n ih =>
    intro p u l w hrk hu hI ht
    have hul : u.length ≤ 24 := univ_len hI.sv.ok hu
    have hrl : (repE S.eq u).length ≤ 1048576 := by have := repE_len hI.sv.ok hul; omega
    have hrr : repE S.eq u ∈ reps S := List.mem_map.2 ⟨u, hu, rfl⟩
    have hA : Below w.heap.size w ((w.alloc (.cells #[.pointer (some ⟨sb, 0, none⟩)] 166)).alloc (.cells #[.map (some mi)] 64)) := by go_grown
    have hIA := hI.below HG.out hA
    have HLAST := Lib.hid (last_any HG sb m1 m2 p S u _ hIA.sv (by omega) hel)
    have HIA := Lib.hid hIA
    have HA := Lib.hid hA
    have HKEY := Lib.hid (keyOf_kb hrl)
    have HI := Lib.hid hI
    have HT := Lib.hid ht
    have HRK := Lib.hid hrk
    have HRR := Lib.hid hrr
    have HFREE : Hid (repE S.eq (repE S.eq u) = repE S.eq u) := Lib.hid (by obtain ⟨E, _, he⟩ := hI.sv.eql; exact repE_free (he.free u))
    have IH := Lib.hid ih
    clear hA hIA hI ht hrk hrr ih hu
    have hfd : ∀ (x y z : Value) (w : World), (Instr.field 25 (.agg #[x, y, z]) 2).run Tryz.prog w = .ok z w := fun _ _ _ _ => by kernel_rfl
    go_enter Tryz.func143, Tryz.ntmps143
    go_wp2_with fail
    refine HLAST.out.mono ?_
    rintro e w1 ⟨rfl, hsv1, hf1⟩
    have hk1 : KpC 0 ((w.alloc (.cells #[.pointer (some ⟨sb, 0, none⟩)] 166)).alloc (.cells #[.map (some mi)] 64)) w1 := hf1.kpc (Nat.zero_le _) fun k hk => ⟨Nat.zero_le _, by subst hk; exact HIA.out.sv.m2map⟩
    have hb0 := hk1.cells _ _ _ _ ((Below.heap_alloc _ (.cells #[.map (some mi)] 64) _ (by simp)).trans (heap_new_at w (.cells #[.pointer (some ⟨sb, 0, none⟩)] 166) w.heap.size rfl))
    have hb1 := hk1.cells _ _ _ _ (heap_new_at (w.alloc (.cells #[.pointer (some ⟨sb, 0, none⟩)] 166)) (.cells #[.map (some mi)] 64) (w.heap.size + 1) (by simp))
    have hI1 : OcI GW sb m1 m2 mi p S l w1 := ⟨hsv1, HIA.out.map.kept (hf1.block mi HIA.out.map.lt HIA.out.ne2), HIA.out.keys, HIA.out.ne1, HIA.out.ne2⟩
    have HF1 : Hid (FrX (ocX m2 mi) w w1) := Lib.hid (FrX.trans (FrX.of_below HA.out) (hf1.mono fun k hk => .inl hk))
    have x0 : w1.cell? ⟨w.heap.size, 0, none⟩ = some (.pointer (some ⟨sb, 0, none⟩)) := by have := cells_of' hb0 0; simpa using this
    have x1 : w1.cell? ⟨w.heap.size + 1, 0, none⟩ = some (.map (some mi)) := by have := cells_of' hb1 0; simpa using this
    have HB0 := Lib.hid hb0
    have HB1 := Lib.hid hb1
    have HI1 := Lib.hid hI1
    clear hsv1 hf1 hk1 hb0 hb1 hI1 HLAST
    have hUR : ∀ W, (∃ l', Oc2 GW sb m1 m2 mi p S l l' W ∧ getA l' (repE S.eq u) = some false) → OcF GW sb m1 m2 mi p S l u W := fun W h => h
    generalize hr : repE S.eq u = r at *
    have HUR := Lib.hid hUR
    clear hUR
    cases hg : getA l r with
    | some b =>
      obtain ⟨D, hown, hhas, hat⟩ := HI1.out.map.at hg
      have HG1 := Lib.hid hg
      have HOWN := Lib.hid hown
      have HHAS := Lib.hid hhas
      have HAT := Lib.hid hat
      clear hg hown hhas hat
      go_wp2_with (at_lookup; refine hlook_hit _ 64 4 (.bool false) Tryz.underlying64 (zeroBool _) rfl _ _ rfl mi l.length D rfl HOWN.out _ _ rfl HKEY.out (.bool b) HAT.out HHAS.out ?_)
      go_ret
      exact ⟨b, rfl, fun h => HUR.out _ ⟨l, ⟨HI1.out, HT.out, fun k b h => h⟩, by rw [HG1.out, h]⟩, fun _ => ⟨l, HI1.out⟩, HF1.out⟩
    | none =>
      obtain ⟨D0, hown0, hinv0⟩ := HI1.out.map
      have hl0 := HI1.out.len hbl hel
      obtain ⟨D, hown, hhas⟩ := HI1.out.map.no hg
      have HOWN := Lib.hid hown
      have HHAS := Lib.hid hhas
      have HOWN0 := Lib.hid hown0
      have HINV0 := Lib.hid hinv0
      have HFE := Lib.hid (HT.out.enter hg)
      have HGR : Hid (getA (putA l r true) r = some true) := Lib.hid (by rw [getA_put, if_pos rfl])
      have HOLD : Hid (∀ k b, getA l k = some b → getA (putA l r true) k = some b ∧ k ≠ r) := Lib.hid fun k b hk => by
        have e : k ≠ r := fun e => by rw [e, hg] at hk; cases hk
        exact ⟨by rw [getA_put, if_neg e]; exact hk, e⟩
      have HLT : Hid (∀ l', Kns (putA l r true) l' → (∀ k ∈ l'.map (·.1), k ∈ reps S) → (l'.map (·.1)).Nodup → (reps S).length - l'.length < n) := Lib.hid fun l' h1 h2 h3 => by
        have hn := (HI1.out.map.nodup)
        have hput : ((putA l r true).map (·.1)).Nodup := by rw [putA_keys]; exact addKey_nodup hn r
        have e1 := h1.len hput
        have e2 : (putA l r true).length = l.length + 1 := by
          have h0 : (putA l r true).length = ((putA l r true).map (·.1)).length := by rw [List.length_map]
          rw [h0, putA_keys]
          unfold addKey
          rw [if_neg (getA_none.1 hg), List.length_append, List.length_map]; rfl
        have e3 := nodup_len h3 h2
        rw [List.length_map] at e3
        have := HRK.out
        omega
      clear hg hown hhas hown0 hinv0
      have hcf := Tryz.call169
      have step : ∀ (L : List Tm) (w2 : World), OcI GW sb m1 m2 mi p S (putA l r true) w2 → w2.heap[w.heap.size]? = some (.cells #[.pointer (some ⟨sb, 0, none⟩)] 166 (0, 0)) → w2.heap[w.heap.size + 1]? = some (.cells #[.map (some mi)] 64 (0, 0)) →
          (∀ v ∈ L, v.nm.data.toList ∈ univ S) → L.length ≤ 1048576 → ∀ (o1 : Option Addr) (k1 : Nat), SlIs w2.heap.size w2 L (.slice o1 L.length k1) →
          Calls Tryz.prog 168 #[.slice o1 L.length k1, .func (.func 169) #[] #[.pointer (some ⟨w.heap.size, 0, none⟩), .pointer (some ⟨w.heap.size + 1, 0, none⟩)]] w2
            (GenPost (ocX m2 mi) (fun W => (∃ l', Oc2 GW sb m1 m2 mi p S (putA l r true) l' W ∧ ∀ v ∈ L.take L.length, getA l' (repE S.eq v.nm.data.toList) = some false) ∧ W.heap[w.heap.size]? = some (.cells #[.pointer (some ⟨sb, 0, none⟩)] 166 (0, 0)) ∧ W.heap[w.heap.size + 1]? = some (.cells #[.map (some mi)] 64 (0, 0)))
              (fun W => OcT GW sb m1 m2 mi p S W ∧ W.heap[w.heap.size]? = some (.cells #[.pointer (some ⟨sb, 0, none⟩)] 166 (0, 0)) ∧ W.heap[w.heap.size + 1]? = some (.cells #[.map (some mi)] 64 (0, 0))) w2) := by
        intro L w2 hI2 hq0 hq1 hL hLl o1 k1 hsl
        refine containsFunc_gen _ _ hcf (ocX m2 mi) (fun j W => (∃ l', Oc2 GW sb m1 m2 mi p S (putA l r true) l' W ∧ ∀ v ∈ L.take j, getA l' (repE S.eq v.nm.data.toList) = some false) ∧ W.heap[w.heap.size]? = some (.cells #[.pointer (some ⟨sb, 0, none⟩)] 166 (0, 0)) ∧ W.heap[w.heap.size + 1]? = some (.cells #[.map (some mi)] 64 (0, 0))) _ ?_ ?_ L w2 (Lib.hid fun _ W _ hf => hI2.kpc hf) (Lib.hid ?_) o1 k1 hLl hsl ⟨⟨_, ⟨hI2, HFE.out, fun k b h => h⟩, by simp⟩, hq0, hq1⟩
        · rintro j A B ⟨⟨l', h1, h2⟩, h3, h4⟩ hb
          exact ⟨⟨l', ⟨h1.oc.below HG.out hb, h1.fin, h1.kns⟩, h2⟩, (hb.block _ (Array.getElem?_eq_some_iff.1 h3).1).trans h3, (hb.block _ (Array.getElem?_eq_some_iff.1 h4).1).trans h4⟩
        · rintro A B ⟨⟨l', h1⟩, h3, h4⟩ hb
          exact ⟨⟨l', h1.below HG.out hb⟩, (hb.block _ (Array.getElem?_eq_some_iff.1 h3).1).trans h3, (hb.block _ (Array.getElem?_eq_some_iff.1 h4).1).trans h4⟩
        · rintro j v hjv su W ⟨⟨l', h1, h2⟩, h3, h4⟩ hsv
          have hv := List.mem_of_getElem? hjv
          refine occurs1_gen sb mi _ _ _ _ _ v su W (by obtain ⟨oa, ca, e, _⟩ := hsv.form; exact ⟨oa, _, ca, e⟩) h3 h4 (Lib.hid fun W' hW' => ?_)
          have h5 := h1.oc.below HG.out hW'
          have h := IH.out _ (HLT.out l' h1.kns h1.oc.keys h1.oc.map.nodup) p v.nm.data.toList l' W' rfl (hL v hv) h5 h1.fin
          rw [kb_key] at h
          refine h.mono ?_
          rintro e W'' ⟨c, rfl, hF, hT, hf⟩
          have hkp := h5.kpc hf
          have hb0 := hkp.cells _ _ _ _ ((hW'.block _ (Array.getElem?_eq_some_iff.1 h3).1).trans h3)
          have hb1 := hkp.cells _ _ _ _ ((hW'.block _ (Array.getElem?_eq_some_iff.1 h4).1).trans h4)
          refine ⟨c, rfl, fun hc => ?_, fun hc => ⟨hT hc, hb0, hb1⟩, hf⟩
          obtain ⟨l'', h6, h7⟩ := hF hc
          refine ⟨⟨l'', ⟨h6.oc, h6.fin, fun k b hk => h6.kns k b (h1.kns k b hk)⟩, fun x hx => ?_⟩, hb0, hb1⟩
          rw [Tm.take_snoc hjv] at hx
          rcases List.mem_append.1 hx with hx | hx
          · exact h6.kns _ _ (h2 x hx)
          · obtain rfl := List.mem_singleton.1 hx; exact h7
      have HSTEP := Lib.hid step
      clear step
      cases hgb : getA S.bd r with
      | some t =>
        have hkids : ∀ v ∈ t.ts, v.nm.data.toList ∈ univ S := fun v hv => univ_arg hgb hv
        have h8 : t.ts.length ≤ 1048576 := by have := (flat_kn HI1.out.sv.ok hgb).2.1.node.2; omega
        have HKIDS := Lib.hid hkids
        have HGB := Lib.hid hgb
        clear hkids hgb
        go_wp2_with (first
          | (at_lookup; refine hlook_miss _ 64 4 (.bool false) Tryz.underlying64 (zeroBool _) rfl (.tmp 14) (.tmp 15) rfl mi l.length D rfl HOWN.out (.string (kb r)) (.string r) rfl HKEY.out HHAS.out ?_)
          | (at_mapUpdate
             refine wpList_mapUpdate_in _ rfl (.tmp 21) (.tmp 22) (.const (.bool true)) 64 rfl 9 4 strKeyed Tryz.underlying64 imgR mi l.length D0 rfl HOWN0.out hl0 (.string (kb r)) (.bool true) (.string r) rfl rfl HKEY.out (.held (.bool true)) [] rfl ?_
             intro w2 ho0 ht0
             have hI2 := HI1.out.put HG.out rfl ⟨rfl, rfl, rfl⟩ HINV0.out HRR.out ho0 ht0
             have hk2 : KpC 0 w1 w2 := KpC.turned ht0 (Nat.zero_le _)
             have hq0 := hk2.cells _ _ _ _ HB0.out
             have hq1 := hk2.cells _ _ _ _ HB1.out
             obtain ⟨y0, -⟩ := box2 hI2.sv.box
             have x0 : w2.cell? ⟨w.heap.size, 0, none⟩ = some (.pointer (some ⟨sb, 0, none⟩)) := by have := cells_of' hq0 0; simpa using this
             have x1 : w2.cell? ⟨w.heap.size + 1, 0, none⟩ = some (.map (some mi)) := by have := cells_of' hq1 0; simpa using this
             obtain ⟨D4, s4, hown4, -, hat4, hs4⟩ := hI2.sv.bnd.at HGB.out
             obtain ⟨o4, k4, rfl⟩ := hs4.form
             have HAT4 := Lib.hid hat4
             have HS4 := Lib.hid (hs4.lt.toIs fun b hb => hb.2)
             clear hat4 hs4
             have HOWN4 := Lib.hid hown4
             have HI2 := Lib.hid hI2
             have HQ0 := Lib.hid hq0
             have HQ1 := Lib.hid hq1
             have HF2 : Hid (FrX (ocX m2 mi) w w2) := Lib.hid (HF1.out.trans (FrX.grown ht0.grown (.inr rfl)))
             clear ho0 ht0 hI2 hk2 hq0 hq1 hown4)
          | (at_lookup; refine tlook_plain _ 147 Tryz.underlying147 rfl (.tmp 26) (.tmp 27) rfl m1 S.bd.length D4 rfl HOWN4.out (.string (kb r)) (.string r) rfl HKEY.out (.agg #[.string t.nm, .bool t.vr, .slice o4 t.ts.length k4]) HAT4.out ?_))
        refine (HSTEP.out t.ts w2 HI2.out HQ0.out HQ1.out HKIDS.out h8 o4 k4 HS4.out).mono ?_
        rintro e w3 ⟨c, rfl, hno, hyes, hf3⟩
        obtain ⟨l3, hI3, hq0, hq1, hres⟩ : ∃ l3, OcI GW sb m1 m2 mi p S l3 w3 ∧ w3.heap[w.heap.size]? = some (.cells #[.pointer (some ⟨sb, 0, none⟩)] 166 (0, 0)) ∧ w3.heap[w.heap.size + 1]? = some (.cells #[.map (some mi)] 64 (0, 0)) ∧ (c = false → Fin S l3 ∧ Kns (putA l r true) l3 ∧ ∀ v ∈ t.ts, getA l3 (repE S.eq v.nm.data.toList) = some false) := by
          cases c
          · obtain ⟨⟨l3, h1, h2⟩, h3, h4⟩ := hno rfl
            exact ⟨l3, h1.oc, h3, h4, fun _ => ⟨h1.fin, h1.kns, by rw [List.take_length] at h2; exact h2⟩⟩
          · obtain ⟨⟨l3, h1⟩, h3, h4⟩ := hyes rfl
            exact ⟨l3, h1, h3, h4, fun h => by cases h⟩
        have HRES := Lib.hid hres
        clear hno hyes hres
        have hl5 := hI3.len hbl hel
        obtain ⟨D5, hown5, hinv5⟩ := id hI3.map
        have x0 : w3.cell? ⟨w.heap.size, 0, none⟩ = some (.pointer (some ⟨sb, 0, none⟩)) := by have := cells_of' hq0 0; simpa using this
        have x1 : w3.cell? ⟨w.heap.size + 1, 0, none⟩ = some (.map (some mi)) := by have := cells_of' hq1 0; simpa using this
        have HOWN5 := Lib.hid hown5
        have HINV5 := Lib.hid hinv5
        have HI3 := Lib.hid hI3
        have HF3 := Lib.hid (HF2.out.trans hf3)
        clear hown5 hinv5 hI3 hq0 hq1 hf3 y0
        go_wp2_with (first
          | (at_mapUpdate
             refine wpList_mapUpdate_in _ rfl (.tmp 32) (.tmp 33) (.const (.bool false)) 64 rfl 9 4 strKeyed Tryz.underlying64 imgR mi l3.length D5 rfl HOWN5.out hl5 (.string (kb r)) (.bool false) (.string r) rfl rfl HKEY.out (.held (.bool false)) [] rfl ?_
             intro w4 ho5 ht5
             have hI4 := HI3.out.put HG.out rfl ⟨rfl, rfl, rfl⟩ HINV5.out HRR.out ho5 ht5
             have HI4 := Lib.hid hI4
             have HF4 : Hid (FrX (ocX m2 mi) w w4) := Lib.hid (HF3.out.trans (FrX.grown ht5.grown (.inr rfl)))
             clear ho5 ht5 hI4))
        go_ret
        refine ⟨c, rfl, fun hc => HUR.out _ ⟨putA l3 r false, ⟨HI4.out, ?_, fun k b hk => ?_⟩, by rw [getA_put, if_pos rfl]⟩, fun _ => ⟨_, HI4.out⟩, HF4.out⟩
        · obtain ⟨q1, q2, q3⟩ := HRES.out hc
          exact q1.leave (q2 _ _ HGR.out) fun t' ht' => by rw [HGB.out] at ht'; cases ht'; exact q3
        · obtain ⟨q1, q2, q3⟩ := HRES.out hc
          obtain ⟨e1, e2⟩ := HOLD.out k b hk
          rw [getA_put, if_neg e2]; exact q2 _ _ e1
      | none =>
        have HGB := Lib.hid hgb
        clear hgb
        go_wp2_with (first
          | (at_lookup; refine hlook_miss _ 64 4 (.bool false) Tryz.underlying64 (zeroBool _) rfl (.tmp 14) (.tmp 15) rfl mi l.length D rfl HOWN.out (.string (kb r)) (.string r) rfl HKEY.out HHAS.out ?_)
          | (at_mapUpdate
             refine wpList_mapUpdate_in _ rfl (.tmp 21) (.tmp 22) (.const (.bool true)) 64 rfl 9 4 strKeyed Tryz.underlying64 imgR mi l.length D0 rfl HOWN0.out hl0 (.string (kb r)) (.bool true) (.string r) rfl rfl HKEY.out (.held (.bool true)) [] rfl ?_
             intro w2 ho0 ht0
             have hI2 := HI1.out.put HG.out rfl ⟨rfl, rfl, rfl⟩ HINV0.out HRR.out ho0 ht0
             have hk2 : KpC 0 w1 w2 := KpC.turned ht0 (Nat.zero_le _)
             have hq0 := hk2.cells _ _ _ _ HB0.out
             have hq1 := hk2.cells _ _ _ _ HB1.out
             obtain ⟨y0, -⟩ := box2 hI2.sv.box
             have x0 : w2.cell? ⟨w.heap.size, 0, none⟩ = some (.pointer (some ⟨sb, 0, none⟩)) := by have := cells_of' hq0 0; simpa using this
             have x1 : w2.cell? ⟨w.heap.size + 1, 0, none⟩ = some (.map (some mi)) := by have := cells_of' hq1 0; simpa using this
             obtain ⟨D4, hown4, hhas4, -⟩ := hI2.sv.bnd.no HGB.out
             have HHAS4 := Lib.hid hhas4
             clear hhas4
             have HOWN4 := Lib.hid hown4
             have HI2 := Lib.hid hI2
             have HQ0 := Lib.hid hq0
             have HQ1 := Lib.hid hq1
             have HF2 : Hid (FrX (ocX m2 mi) w w2) := Lib.hid (HF1.out.trans (FrX.grown ht0.grown (.inr rfl)))
             clear ho0 ht0 hI2 hk2 hq0 hq1 hown4)
          | (at_lookup; refine tlook_none _ 147 Tryz.underlying147 rfl (.tmp 26) (.tmp 27) rfl m1 S.bd.length D4 rfl HOWN4.out (.string (kb r)) (.string r) rfl HKEY.out HHAS4.out ?_))
        refine (HSTEP.out [] w2 HI2.out HQ0.out HQ1.out (fun v hv => by cases hv) (by simp) none 0 .nil0).mono ?_
        rintro e w3 ⟨c, rfl, hno, hyes, hf3⟩
        obtain ⟨l3, hI3, hq0, hq1, hres⟩ : ∃ l3, OcI GW sb m1 m2 mi p S l3 w3 ∧ w3.heap[w.heap.size]? = some (.cells #[.pointer (some ⟨sb, 0, none⟩)] 166 (0, 0)) ∧ w3.heap[w.heap.size + 1]? = some (.cells #[.map (some mi)] 64 (0, 0)) ∧ (c = false → Fin S l3 ∧ Kns (putA l r true) l3 ∧ ∀ v ∈ ([] : List Tm), getA l3 (repE S.eq v.nm.data.toList) = some false) := by
          cases c
          · obtain ⟨⟨l3, h1, h2⟩, h3, h4⟩ := hno rfl
            exact ⟨l3, h1.oc, h3, h4, fun _ => ⟨h1.fin, h1.kns, by rw [List.take_length] at h2; exact h2⟩⟩
          · obtain ⟨⟨l3, h1⟩, h3, h4⟩ := hyes rfl
            exact ⟨l3, h1, h3, h4, fun h => by cases h⟩
        have HRES := Lib.hid hres
        clear hno hyes hres
        have hl5 := hI3.len hbl hel
        obtain ⟨D5, hown5, hinv5⟩ := id hI3.map
        have x0 : w3.cell? ⟨w.heap.size, 0, none⟩ = some (.pointer (some ⟨sb, 0, none⟩)) := by have := cells_of' hq0 0; simpa using this
        have x1 : w3.cell? ⟨w.heap.size + 1, 0, none⟩ = some (.map (some mi)) := by have := cells_of' hq1 0; simpa using this
        have HOWN5 := Lib.hid hown5
        have HINV5 := Lib.hid hinv5
        have HI3 := Lib.hid hI3
        have HF3 := Lib.hid (HF2.out.trans hf3)
        clear hown5 hinv5 hI3 hq0 hq1 hf3 y0
        go_wp2_with (first
          | (at_mapUpdate
             refine wpList_mapUpdate_in _ rfl (.tmp 32) (.tmp 33) (.const (.bool false)) 64 rfl 9 4 strKeyed Tryz.underlying64 imgR mi l3.length D5 rfl HOWN5.out hl5 (.string (kb r)) (.bool false) (.string r) rfl rfl HKEY.out (.held (.bool false)) [] rfl ?_
             intro w4 ho5 ht5
             have hI4 := HI3.out.put HG.out rfl ⟨rfl, rfl, rfl⟩ HINV5.out HRR.out ho5 ht5
             have HI4 := Lib.hid hI4
             have HF4 : Hid (FrX (ocX m2 mi) w w4) := Lib.hid (HF3.out.trans (FrX.grown ht5.grown (.inr rfl)))
             clear ho5 ht5 hI4))
        go_ret
        refine ⟨c, rfl, fun hc => HUR.out _ ⟨putA l3 r false, ⟨HI4.out, ?_, fun k b hk => ?_⟩, by rw [getA_put, if_pos rfl]⟩, fun _ => ⟨_, HI4.out⟩, HF4.out⟩
        · obtain ⟨q1, q2, q3⟩ := HRES.out hc
          exact q1.leave (q2 _ _ HGR.out) fun t' ht' => by rw [HGB.out] at ht'; cases ht'
        · obtain ⟨q1, q2, q3⟩ := HRES.out hc
          obtain ⟨e1, e2⟩ := HOLD.out k b hk
          rw [getA_put, if_neg e2]; exact q2 _ _ e1
set_option maxRecDepth 100000 in
set_option maxHeartbeats 4000000 in
theorem hasCycle_gen {N : Nat} {GW : World → Prop} (HG : Hid (ItoaOk N GW)) (sb m1 m2 : Nat) (S : Sv) (hbl : S.bd.length ≤ 1048576) (hel : S.eq.length ≤ 1048576) (p : Nat → Prop) (w : World) (hS : SvIs GW sb m1 m2 p S w) :
    Calls Tryz.prog 113 #[.pointer (some ⟨sb, 0, none⟩)] w fun e w' => (∃ c : Bool, e = .returned (.bool c) ∧ (c = false → ∃ rk, Acy S rk)) ∧ SvIs GW sb m1 m2 p S w' ∧ FrX (· = m2) w w' := by
  have hA : Below w.heap.size w (w.alloc (.map #[] 0)) := by go_grown
  have hSA := hS.below HG.out hA
  obtain ⟨x0, x1⟩ := box2 hSA.box
  obtain ⟨D, hown, hinv⟩ := id hSA.bnd
  have HOWN := Lib.hid hown
  have HINV := Lib.hid hinv
  have h1 := hS.bnd.lt
  have h2 := hS.m2lt
  have HIA : Hid (OcI GW sb m1 m2 w.heap.size p S [] (w.alloc (.map #[] 0))) := Lib.hid ⟨hSA, HMap.made w, (fun k hk => by cases hk), by omega, by omega⟩
  have HA := Lib.hid hA
  clear hA hSA hown hinv hS
  have hmm := @run_makeMap Tryz.prog
  go_enter Tryz.func113, Tryz.ntmps113
  go_wp2_with (first
    | (at_range; refine wpList_range_own _ rfl _ 147 rfl 9 25 strKeyed Tryz.underlying147 imgR m1 S.bd.length D rfl HOWN.out ?_; intro w0 hrg0 hg0 hs0)
    | go_in)
  go_frame
  have hB0 : Below (w.alloc (.map #[] 0)).heap.size (w.alloc (.map #[] 0)) w0 := ⟨hg0.os, hg0.tape, hg0.output, hg0.size, fun k hk => hg0.block k hk (by simp)⟩
  generalize hr : (w.alloc (Obj.map #[] 0)).heap.size = r at hrg0 hs0 ⊢
  have hr1 : w.heap.size < r := by rw [← hr]; simp
  clear hr
  go_loopw [4] (fun _ wr => ∃ (left : Lit → Bool) (cnt : Nat) (l : List (Key × Bool)), Hid (wr.ranges Tryz.prog 9 imgR m1 r S.bd.length D left cnt) ∧ Hid (∀ kl, left kl = true → Maps.has D kl = true) ∧ Hid (OcI GW sb m1 m2 w.heap.size p S l wr) ∧ Hid (Fin S l ∧ ∀ k ∈ S.bd.map (·.1), left (.string k) = false → getA l (repE S.eq k) = some false) ∧ Hid (FrX (· = m2) w wr))
    (fun _ wr => wr.rangeLeft m1 r)
  case atStart => exact ⟨_, _, [], Lib.hid hrg0, Lib.hid (fun kl h => h), Lib.hid (HIA.out.below HG.out hB0), Lib.hid ⟨Fin.start S, fun k hk h => by have h2 := HINV.out.has k; rw [decide_eq_true hk] at h2; rw [h2] at h; cases h⟩, Lib.hid ((FrX.of_below HA.out).trans ((FrX.of_below hB0)))⟩
  case round =>
    obtain ⟨left, cnt, l, HRG, HSUB, HI, HT, HF⟩ := hrel
    go_wp2_with (first
      | (at_next; refine wpList_next_ranges _ rfl _ rfl 9 strKeyed imgR Value.string id (fun key kl hk => Maps.keyOf_string_inv Tryz.underlying9 hk) (fun v y _ => ⟨v, rfl⟩) m1 r S.bd.length D left cnt rfl HRG.out ?_ ?_)
      | go_in)
    · intro _ hdone
      have HDONE := Lib.hid hdone
      clear hdone
      go_wp2_with fail
      go_ret
      refine ⟨⟨false, rfl, (fun _ => ?_)⟩, HI.out.sv, HF.out⟩
      obtain ⟨⟨rk, h1⟩, h2⟩ := HT.out
      refine ⟨rk, fun x t hg hx u hu => ?_⟩
      have hd := h2 x (getA_mem.2 ⟨t, hg⟩) (HDONE.out _)
      rw [hx] at hd
      exact (h1 x t hd hg u hu).2
    · intro x c kl yd yp w1 cnt1 hkey hlx hR hat hrg1 hlt hg1 hs1 hen
      have hkl := key_of_str hkey
      have hmem : x.data.toList ∈ S.bd.map (·.1) := by
        have := HSUB.out kl hlx
        rw [hkl, HINV.out.has] at this
        simpa using this
      have hI1 := HI.out.turned HG.out (ranges_nocell HRG.out) hg1 (by omega) (by omega) (by omega)
      have hocc := occurs_gen HG sb m1 m2 w.heap.size S hbl hel _ p x.data.toList l w1 rfl (univ_bd hmem) hI1 HT.out.1
      have HKL := Lib.hid hkl
      rw [kb_key] at hocc
      have HOCC := Lib.hid hocc
      have HRG1 := Lib.hid hrg1
      have HF1 : Hid (FrX (· = m2) w w1) := Lib.hid (HF.out.next (FrX.grown (X := (· = r)) hg1 rfl) (fun i hi he => by omega))
      have hlef := HRG.out.left_eq
      have HI1 := Lib.hid hI1
      have hlt1 := hrg1.lt
      clear hocc hrg1 hg1 hmem hkl hkey hlx hR hat hI1
      go_wp2_with fail
      refine HOCC.out.mono ?_
      rintro e w2 ⟨c, rfl, hno, hyes, hf2⟩
      have hrg2 := ranges_keep2 HRG1.out (hf2.block m1 HI1.out.sv.bnd.lt (by unfold ocX; have := HI1.out.ne1; have := HI1.out.sv.ne; omega)) (hf2.block r hlt1 (by unfold ocX; omega))
      have hrel2 := hrg2.left_eq
      have HRG2 := Lib.hid hrg2
      have HF2 : Hid (FrX (· = m2) w w2) := Lib.hid (HF1.out.next hf2 (fun i hi he => by unfold ocX at he; omega))
      have HNO := Lib.hid hno
      have HYES := Lib.hid hyes
      clear hrg2 hno hyes hf2
      cases c
      · obtain ⟨l2, h2, h3⟩ := HNO.out rfl
        have HI2 := Lib.hid h2.oc
        have HT2 : Hid (Fin S l2 ∧ ∀ k ∈ S.bd.map (·.1), (left (.string k) && !(Lit.string k).sameKey kl) = false → getA l2 (repE S.eq k) = some false) := Lib.hid ⟨h2.fin, fun k hk hl => by
          by_cases e : left (.string k) = false
          · exact h2.kns _ _ (HT.out.2 k hk e)
          · have e' : left (.string k) = true := by simpa using e
            rw [e', HKL.out] at hl
            have : k = x.data.toList := Classical.byContradiction fun hne => by
              have h4 := sameKey_ne (a := .string k) (b := .string x.data.toList) (by simpa using hne)
              rw [h4] at hl
              simp at hl
            rw [this]; exact h3⟩
        clear h2 h3 HNO HYES
        go_wp2_with fail
        exact ⟨⟨_, cnt1, l2, HRG2, Lib.hid (fun kl h => HSUB.out kl (by simp only [Bool.and_eq_true] at h; exact h.1)), HI2, HT2, HF2⟩, by omega⟩
      · obtain ⟨l2, h2⟩ := HYES.out rfl
        have HI2 := Lib.hid h2
        clear h2 HNO HYES
        go_wp2_with fail
        go_ret
        exact ⟨⟨true, rfl, fun h => by cases h⟩, HI2.out.sv, HF2.out⟩
/-- the occurs check answers whether a name stands for a term that contains it -/
theorem CycIs.yes {N : Nat} {GW : World → Prop} (HG : Hid (ItoaOk N GW)) {S : Sv} (rk : Key → Nat) (ha : ¬ ∃ rk, Acy S rk) (hbl : S.bd.length ≤ 1048576) (hel : S.eq.length ≤ 1048576) : CycIs GW S rk true :=
  ⟨(fun h => by cases h), fun sb m1 m2 p w hS => (hasCycle_gen HG sb m1 m2 S hbl hel p w hS).mono fun e w' ⟨⟨c, h1, h2⟩, h3, h4⟩ => ⟨(by
    cases c
    · exact absurd (h2 rfl) ha
    · exact h1), h3, h4⟩⟩
end Go.Proofs.YtkglopdogakfoaaGreatDoor
