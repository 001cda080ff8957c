/- The occurs check, where no name stands for a term that contains it. -/
import Derived.WalkKit
import Derived.ProofKit
import Derived.OpenShut
import Derived.Handy
import Derived.Lib.Hide
import Derived.Maps.RangeWalk
import Derived.Test.YtkglopdogakfoaaGreatDoorHmp
namespace Go.Proofs.YtkglopdogakfoaaGreatDoor
open Go.RowKit Go.Maps

/-- the solver, and the names that are visited -/
structure OcI (GW : World → Prop) (sb m1 m2 mi : Nat) (p : Nat → Prop) (S : Sv) (l : List (Key × Bool)) (W : World) : Prop where
  sv : SvIs GW sb m1 m2 p S W
  map : HMap Value.bool W mi l
  keys : ∀ k ∈ l.map (·.1), k ∈ reps S
  ne1 : mi ≠ m1
  ne2 : mi ≠ m2
theorem OcI.below {N : Nat} {GW : World → Prop} (hg : ItoaOk N GW) {sb m1 m2 mi : Nat} {p : Nat → Prop} {S : Sv} {l : List (Key × Bool)} {A B : World} (h : OcI GW sb m1 m2 mi p S l A) (hb : Below A.heap.size A B) : OcI GW sb m1 m2 mi p S l B :=
  ⟨h.sv.below hg hb, h.map.kept (hb.block mi h.map.lt), h.keys, h.ne1, h.ne2⟩
def ocX (m2 mi : Nat) (k : Nat) : Prop := k = m2 ∨ k = mi
theorem OcI.kpc {GW : World → Prop} {sb m1 m2 mi : Nat} {p : Nat → Prop} {S : Sv} {l : List (Key × Bool)} {A B : World} (h : OcI GW sb m1 m2 mi p S l A) (hf : FrX (ocX m2 mi) A B) : KpC 0 A B :=
  hf.kpc (Nat.zero_le _) fun k hk => ⟨Nat.zero_le _, by rcases hk with rfl | rfl; exact h.sv.m2map; exact h.map.nocell⟩
theorem SvIs.kpc {GW : World → Prop} {sb m1 m2 n : Nat} {p : Nat → Prop} {S : Sv} {A B : World} (h : SvIs GW sb m1 m2 p S A) (hg : GW B) (hk : KpC n A B) (h1 : B.heap[m1]? = A.heap[m1]?) (h2 : B.heap[m2]? = A.heap[m2]?) : SvIs GW sb m1 m2 p S B := by
  obtain ⟨E, hE, he⟩ := h.eql
  exact ⟨hg, hk.cells _ _ _ _ h.box, h.bnd.map h1 fun t s hs => hs.kpc hk, ⟨E, hE.kept h2, he⟩, h.ne, h.ok⟩
/-- the map of names is written -/
theorem OcI.put {N : Nat} {GW : World → Prop} (hg : ItoaOk N GW) {sb m1 m2 mi : Nat} {p : Nat → Prop} {S : Sv} {l : List (Key × Bool)} {A A' B : World} {D : DataW Value} (h : OcI GW sb m1 m2 mi p S l A) (hA : A'.heap = A.heap) (hA2 : A'.os = A.os ∧ A'.tape = A.tape ∧ A'.output = A.output) (hi : HInv Value.bool D l) {k : Key} {b : Bool} (hk : k ∈ reps S) {j : Nat} (ho : B.ownsMap Tryz.prog 9 imgR mi j (D.put (.string k) (.held (.bool b)))) (ht : A'.mapTurned B mi) :
    OcI GW sb m1 m2 mi p S (putA l k b) B := by
  have hgr := ht.grown
  have hfr : FrX (· = mi) A B := ⟨hgr.os.trans hA2.1, hgr.tape.trans hA2.2.1, hgr.output.trans hA2.2.2, by have := hgr.size; rw [hA] at this; exact this, fun k hk hc => by have := hgr.block k (by rw [hA]; exact hk) (fun e => hc (by cases e; rfl)); rw [this, hA]⟩
  have hkp : KpC 0 A B := hfr.kpc (Nat.zero_le _) fun k hk => ⟨Nat.zero_le _, by subst hk; exact h.map.nocell⟩
  refine ⟨h.sv.kpc (hg.keep _ _ h.sv.gw hkp) hkp (hfr.block m1 h.sv.bnd.lt (Ne.symm h.ne1)) (hfr.block m2 h.sv.m2lt (Ne.symm h.ne2)), HMap.store hi ho, fun k' hk' => ?_, h.ne1, h.ne2⟩
  · rw [putA_keys, addKey_iff] at hk'
    rcases hk' with hk' | rfl
    · exact h.keys _ hk'
    · exact hk

theorem zeroBool (w : World) : (zeroValue 4).run Tryz.prog w = .ok (.bool false) w := Tryz.zeroValue4 w
theorem OcI.len {GW : World → Prop} {sb m1 m2 mi : Nat} {p : Nat → Prop} {S : Sv} {l : List (Key × Bool)} {W : World} (h : OcI GW sb m1 m2 mi p S l W) (hb : S.bd.length ≤ 1048576) (he : S.eq.length ≤ 1048576) : l.length < maxLen := by
  have h1 := nodup_len h.map.nodup (K := reps S) h.keys
  have h2 := reps_len h.sv.ok
  rw [List.length_map] at h1
  unfold maxLen
  omega

set_option maxRecDepth 100000 in
set_option maxHeartbeats 2000000 in
theorem occurs1_any (sb mi b0 b1 : Nat) (X : Nat → Prop) (I : World → Prop) (u : Tm) (su : Value) (W : World) (hn : ∃ oa n c, su = .slice oa n c)
    (h0 : W.heap[b0]? = some (.cells #[.pointer (some ⟨sb, 0, none⟩)] 166 (0, 0))) (h1 : W.heap[b1]? = some (.cells #[.map (some mi)] 64 (0, 0)))
    (HO : Hid (∀ W', Below W.heap.size W W' → Calls Tryz.prog 143 #[.pointer (some ⟨sb, 0, none⟩), .string u.nm, .map (some mi)] W' (NoPost X I (.bool false) W'))) :
    Calls Tryz.prog 169 (#[tmv u su] ++ #[.pointer (some ⟨b0, 0, none⟩), .pointer (some ⟨b1, 0, none⟩)]) W (NoPost X I (.bool false) W) := by
  obtain ⟨oa, n, c, rfl⟩ := hn
  have hb0 := (Array.getElem?_eq_some_iff.1 h0).1
  have hb1 := (Array.getElem?_eq_some_iff.1 h1).1
  have x0 : (W.alloc (.cells #[.string u.nm, .bool u.vr, .slice oa n c] 25)).cell? ⟨b0, 0, none⟩ = some (.pointer (some ⟨sb, 0, none⟩)) := (cell_old _ _ _ _ hb0).trans (by have := cells_of' h0 0; simpa using this)
  have x1 : (W.alloc (.cells #[.string u.nm, .bool u.vr, .slice oa n c] 25)).cell? ⟨b1, 0, none⟩ = some (.map (some mi)) := (cell_old _ _ _ _ hb1).trans (by have := cells_of' h1 0; simpa using this)
  clear h0 h1
  show Calls Tryz.prog 169 #[.agg #[.string u.nm, .bool u.vr, .slice oa n c], .pointer (some ⟨b0, 0, none⟩), .pointer (some ⟨b1, 0, none⟩)] W _
  go_enter Tryz.func169, Tryz.ntmps169
  go_wp2_with fail
  refine (HO.out _ (by go_grown)).mono ?_
  rintro e w2 ⟨rfl, hi2, hk2⟩
  have HI2 := Lib.hid hi2
  have HK2 := Lib.hid (FrX.trans (FrX.of_below (show Below W.heap.size W _ from by go_grown)) hk2)
  clear hi2 hk2
  go_wp2_with fail
  go_ret
  exact ⟨rfl, HI2.out, HK2.out⟩

/-- the state behind a visit -/
def OcR (GW : World → Prop) (sb m1 m2 mi : Nat) (p : Nat → Prop) (S : Sv) (l : List (Key × Bool)) (W : World) : Prop := ∃ l', OcI GW sb m1 m2 mi p S l' W ∧ ∀ k, getA l' k = some true → getA l k = some true

set_option maxRecDepth 100000 in
set_option maxHeartbeats 8000000 in
theorem occurs_any {N : Nat} {GW : World → Prop} (HG : Hid (ItoaOk N GW)) (sb m1 m2 mi : Nat) (S : Sv) (rk : Key → Nat) (ha : Acy S rk) (hbl : S.bd.length ≤ 1048576) (hel : S.eq.length ≤ 1048576) (n : Nat) :
    ∀ (p : Nat → Prop) (u : Key) (l : List (Key × Bool)) (w : World), rk (repE S.eq u) = n → u ∈ univ S → OcI GW sb m1 m2 mi p S l w → (∀ k, getA l k = some true → n < rk k) →
    Calls Tryz.prog 143 #[.pointer (some ⟨sb, 0, none⟩), .string (kb u), .map (some mi)] w (NoPost (ocX m2 mi) (OcR GW sb m1 m2 mi p S l) (.bool false) w) := by
  induction n using Nat.strongRecOn with
  | ind n ih =>
    intro p u l w hrk hu hI ht
    have hul : u.length ≤ 24 := univ_len hI.sv.ok hu
    have hrl : (repE S.eq u).length ≤ 1048576 := by have := repE_len hI.sv.ok hul; omega
    have hrr : repE S.eq u ∈ reps S := List.mem_map.2 ⟨u, hu, rfl⟩
    have hA : Below w.heap.size w ((w.alloc (.cells #[.pointer (some ⟨sb, 0, none⟩)] 166)).alloc (.cells #[.map (some mi)] 64)) := by go_grown
    have hIA := hI.below HG.out hA
    have HLAST := Lib.hid (last_any HG sb m1 m2 p S u _ hIA.sv (by omega) hel)
    have HIA := Lib.hid hIA
    have HA := Lib.hid hA
    have HKEY := Lib.hid (keyOf_kb hrl)
    have HI := Lib.hid hI
    have HT := Lib.hid ht
    have HRK := Lib.hid hrk
    have HRR := Lib.hid hrr
    have HFREE : Hid (repE S.eq (repE S.eq u) = repE S.eq u) := Lib.hid (by obtain ⟨E, _, he⟩ := hI.sv.eql; exact repE_free (he.free u))
    have IH := Lib.hid ih
    have HACY := Lib.hid ha
    clear hA hIA hI ht hrk hrr ih ha hu
    have hfd : ∀ (x y z : Value) (w : World), (Instr.field 25 (.agg #[x, y, z]) 2).run Tryz.prog w = .ok z w := fun _ _ _ _ => by kernel_rfl
    go_enter Tryz.func143, Tryz.ntmps143
    go_wp2_with fail
    refine HLAST.out.mono ?_
    rintro e w1 ⟨rfl, hsv1, hf1⟩
    have hk1 : KpC 0 ((w.alloc (.cells #[.pointer (some ⟨sb, 0, none⟩)] 166)).alloc (.cells #[.map (some mi)] 64)) w1 := hf1.kpc (Nat.zero_le _) fun k hk => ⟨Nat.zero_le _, by subst hk; exact HIA.out.sv.m2map⟩
    have hb0 := hk1.cells _ _ _ _ ((Below.heap_alloc _ (.cells #[.map (some mi)] 64) _ (by simp)).trans (heap_new_at w (.cells #[.pointer (some ⟨sb, 0, none⟩)] 166) w.heap.size rfl))
    have hb1 := hk1.cells _ _ _ _ (heap_new_at (w.alloc (.cells #[.pointer (some ⟨sb, 0, none⟩)] 166)) (.cells #[.map (some mi)] 64) (w.heap.size + 1) (by simp))
    have hI1 : OcI GW sb m1 m2 mi p S l w1 := ⟨hsv1, HIA.out.map.kept (hf1.block mi HIA.out.map.lt HIA.out.ne2), HIA.out.keys, HIA.out.ne1, HIA.out.ne2⟩
    have HF1 : Hid (FrX (ocX m2 mi) w w1) := Lib.hid (FrX.trans (FrX.of_below HA.out) (hf1.mono fun k hk => .inl hk))
    have x0 : w1.cell? ⟨w.heap.size, 0, none⟩ = some (.pointer (some ⟨sb, 0, none⟩)) := by have := cells_of' hb0 0; simpa using this
    have x1 : w1.cell? ⟨w.heap.size + 1, 0, none⟩ = some (.map (some mi)) := by have := cells_of' hb1 0; simpa using this
    have HB0 := Lib.hid hb0
    have HB1 := Lib.hid hb1
    have HI1 := Lib.hid hI1
    clear hsv1 hf1 hk1 hb0 hb1 hI1 HLAST
    generalize hr : repE S.eq u = r at *
    cases hg : getA l r with
    | some b =>
      have hbf : b = false := by
        cases b
        · rfl
        · have := HT.out _ hg; have := HRK.out; omega
      subst hbf
      obtain ⟨D, hown, hhas, hat⟩ := HI1.out.map.at hg
      have HOWN := Lib.hid hown
      have HHAS := Lib.hid hhas
      have HAT := Lib.hid hat
      clear hg hown hhas hat
      go_wp2_with (at_lookup; refine hlook_hit _ 64 4 (.bool false) Tryz.underlying64 (zeroBool _) rfl _ _ rfl mi l.length D rfl HOWN.out _ _ rfl HKEY.out (.bool false) HAT.out HHAS.out ?_)
      go_ret
      exact ⟨rfl, ⟨l, HI1.out, fun k h => h⟩, HF1.out⟩
    | none =>
      obtain ⟨D0, hown0, hinv0⟩ := HI1.out.map
      have hl0 := HI1.out.len hbl hel
      obtain ⟨D, hown, hhas⟩ := HI1.out.map.no hg
      have HOWN := Lib.hid hown
      have HHAS := Lib.hid hhas
      have HOWN0 := Lib.hid hown0
      have HINV0 := Lib.hid hinv0
      have HTR : Hid (∀ k, getA (putA l r true) k = some true → n ≤ rk k ∧ (k ≠ r → getA l k = some true)) := Lib.hid (by
        intro k hk
        rw [getA_put] at hk
        by_cases e : k = r
        · exact ⟨by subst e; have := HRK.out; omega, fun h => absurd e h⟩
        · rw [if_neg e] at hk; exact ⟨by have := HT.out k hk; omega, fun _ => hk⟩)
      clear hg hown hhas hown0 hinv0
      have hcf := Tryz.call169
      have step : ∀ (L : List Tm) (w2 : World), OcI GW sb m1 m2 mi p S (putA l r true) w2 → w2.heap[w.heap.size]? = some (.cells #[.pointer (some ⟨sb, 0, none⟩)] 166 (0, 0)) → w2.heap[w.heap.size + 1]? = some (.cells #[.map (some mi)] 64 (0, 0)) →
          (∀ v ∈ L, rk (repE S.eq v.nm.data.toList) < n ∧ v.nm.data.toList ∈ univ S) → L.length ≤ 1048576 → ∀ (o1 : Option Addr) (k1 : Nat), SlIs w2.heap.size w2 L (.slice o1 L.length k1) →
          Calls Tryz.prog 168 #[.slice o1 L.length k1, .func (.func 169) #[] #[.pointer (some ⟨w.heap.size, 0, none⟩), .pointer (some ⟨w.heap.size + 1, 0, none⟩)]] w2
            (NoPost (ocX m2 mi) (fun W => OcR GW sb m1 m2 mi p S (putA l r true) W ∧ W.heap[w.heap.size]? = some (.cells #[.pointer (some ⟨sb, 0, none⟩)] 166 (0, 0)) ∧ W.heap[w.heap.size + 1]? = some (.cells #[.map (some mi)] 64 (0, 0))) (.bool false) w2) := by
        intro L w2 hI2 hq0 hq1 hL hLl o1 k1 hsl
        refine containsFunc_no _ _ hcf (ocX m2 mi) _ ?_ L w2 (Lib.hid fun W _ hf => hI2.kpc hf) (Lib.hid ?_) o1 k1 hLl hsl ⟨⟨_, hI2, fun k h => h⟩, hq0, hq1⟩
        · rintro A B ⟨⟨l', h1, h2⟩, h3, h4⟩ hb
          exact ⟨⟨l', h1.below HG.out hb, h2⟩, (hb.block _ (Array.getElem?_eq_some_iff.1 h3).1).trans h3, (hb.block _ (Array.getElem?_eq_some_iff.1 h4).1).trans h4⟩
        · rintro v hv su W ⟨⟨l', h1, h2⟩, h3, h4⟩ hsv
          obtain ⟨hr1, hr2⟩ := hL v hv
          refine occurs1_any sb mi _ _ _ _ v su W (by obtain ⟨oa, ca, e, _⟩ := hsv.form; exact ⟨oa, _, ca, e⟩) h3 h4 (Lib.hid fun W' hW' => ?_)
          have h5 := h1.below HG.out hW'
          have h := IH.out _ hr1 p v.nm.data.toList l' W' rfl hr2 h5 (fun k hk => by have := (HTR.out k (h2 k hk)).1; omega)
          rw [kb_key] at h
          refine h.mono ?_
          rintro e W'' ⟨rfl, ⟨l'', h6, h7⟩, hf⟩
          have hkp := h5.kpc hf
          exact ⟨rfl, ⟨⟨l'', h6, fun k hk => h2 k (h7 k hk)⟩, hkp.cells _ _ _ _ ((hW'.block _ (Array.getElem?_eq_some_iff.1 h3).1).trans h3), hkp.cells _ _ _ _ ((hW'.block _ (Array.getElem?_eq_some_iff.1 h4).1).trans h4)⟩, hf⟩
      have HSTEP := Lib.hid step
      clear step
      cases hgb : getA S.bd r with
      | some t =>
        have hkids : ∀ v ∈ t.ts, rk (repE S.eq v.nm.data.toList) < n ∧ v.nm.data.toList ∈ univ S := fun v hv => ⟨by have := HACY.out r t hgb HFREE.out v hv; have := HRK.out; omega, univ_arg hgb hv⟩
        have h8 : t.ts.length ≤ 1048576 := by have := (flat_kn HI1.out.sv.ok hgb).2.1.node.2; omega
        have HKIDS := Lib.hid hkids
        have HGB := Lib.hid hgb
        clear hkids hgb
        go_wp2_with (first
          | (at_lookup; refine hlook_miss _ 64 4 (.bool false) Tryz.underlying64 (zeroBool _) rfl (.tmp 14) (.tmp 15) rfl mi l.length D rfl HOWN.out (.string (kb r)) (.string r) rfl HKEY.out HHAS.out ?_)
          | (at_mapUpdate
             refine wpList_mapUpdate_in _ rfl (.tmp 21) (.tmp 22) (.const (.bool true)) 64 rfl 9 4 strKeyed Tryz.underlying64 imgR mi l.length D0 rfl HOWN0.out hl0 (.string (kb r)) (.bool true) (.string r) rfl rfl HKEY.out (.held (.bool true)) [] rfl ?_
             intro w2 ho0 ht0
             have hI2 := HI1.out.put HG.out rfl ⟨rfl, rfl, rfl⟩ HINV0.out HRR.out ho0 ht0
             have hk2 : KpC 0 w1 w2 := KpC.turned ht0 (Nat.zero_le _)
             have hq0 := hk2.cells _ _ _ _ HB0.out
             have hq1 := hk2.cells _ _ _ _ HB1.out
             obtain ⟨y0, -⟩ := box2 hI2.sv.box
             have x0 : w2.cell? ⟨w.heap.size, 0, none⟩ = some (.pointer (some ⟨sb, 0, none⟩)) := by have := cells_of' hq0 0; simpa using this
             have x1 : w2.cell? ⟨w.heap.size + 1, 0, none⟩ = some (.map (some mi)) := by have := cells_of' hq1 0; simpa using this
             obtain ⟨D4, s4, hown4, -, hat4, hs4⟩ := hI2.sv.bnd.at HGB.out
             obtain ⟨o4, k4, rfl⟩ := hs4.form
             have HAT4 := Lib.hid hat4
             have HS4 := Lib.hid (hs4.lt.toIs fun b hb => hb.2)
             clear hat4 hs4
             have HOWN4 := Lib.hid hown4
             have HI2 := Lib.hid hI2
             have HQ0 := Lib.hid hq0
             have HQ1 := Lib.hid hq1
             have HF2 : Hid (FrX (ocX m2 mi) w w2) := Lib.hid (HF1.out.trans (FrX.grown ht0.grown (.inr rfl)))
             clear ho0 ht0 hI2 hk2 hq0 hq1 hown4)
          | (at_lookup; refine tlook_plain _ 147 Tryz.underlying147 rfl (.tmp 26) (.tmp 27) rfl m1 S.bd.length D4 rfl HOWN4.out (.string (kb r)) (.string r) rfl HKEY.out (.agg #[.string t.nm, .bool t.vr, .slice o4 t.ts.length k4]) HAT4.out ?_))
        refine (HSTEP.out t.ts w2 HI2.out HQ0.out HQ1.out HKIDS.out h8 o4 k4 HS4.out).mono ?_
        rintro e w3 ⟨rfl, ⟨⟨l3, hI3, ht3⟩, hq0, hq1⟩, hf3⟩
        have hl5 := hI3.len hbl hel
        obtain ⟨D5, hown5, hinv5⟩ := id hI3.map
        have x0 : w3.cell? ⟨w.heap.size, 0, none⟩ = some (.pointer (some ⟨sb, 0, none⟩)) := by have := cells_of' hq0 0; simpa using this
        have x1 : w3.cell? ⟨w.heap.size + 1, 0, none⟩ = some (.map (some mi)) := by have := cells_of' hq1 0; simpa using this
        have HOWN5 := Lib.hid hown5
        have HINV5 := Lib.hid hinv5
        have HI3 := Lib.hid hI3
        have HT3 := Lib.hid ht3
        have HF3 := Lib.hid (HF2.out.trans hf3)
        clear hown5 hinv5 hI3 ht3 hq0 hq1 hf3 y0
        go_wp2_with (first
          | (at_mapUpdate
             refine wpList_mapUpdate_in _ rfl (.tmp 32) (.tmp 33) (.const (.bool false)) 64 rfl 9 4 strKeyed Tryz.underlying64 imgR mi l3.length D5 rfl HOWN5.out hl5 (.string (kb r)) (.bool false) (.string r) rfl rfl HKEY.out (.held (.bool false)) [] rfl ?_
             intro w4 ho5 ht5
             have hI4 := HI3.out.put HG.out rfl ⟨rfl, rfl, rfl⟩ HINV5.out HRR.out ho5 ht5
             have HI4 := Lib.hid hI4
             have HF4 : Hid (FrX (ocX m2 mi) w w4) := Lib.hid (HF3.out.trans (FrX.grown ht5.grown (.inr rfl)))
             clear ho5 ht5 hI4))
        go_ret
        refine ⟨rfl, ⟨putA l3 r false, HI4.out, fun k hk => ?_⟩, HF4.out⟩
        rw [getA_put] at hk
        by_cases e : k = r
        · rw [if_pos e] at hk; cases hk
        · rw [if_neg e] at hk; exact (HTR.out k (HT3.out k hk)).2 e
      | none =>
        have HGB := Lib.hid hgb
        clear hgb
        go_wp2_with (first
          | (at_lookup; refine hlook_miss _ 64 4 (.bool false) Tryz.underlying64 (zeroBool _) rfl (.tmp 14) (.tmp 15) rfl mi l.length D rfl HOWN.out (.string (kb r)) (.string r) rfl HKEY.out HHAS.out ?_)
          | (at_mapUpdate
             refine wpList_mapUpdate_in _ rfl (.tmp 21) (.tmp 22) (.const (.bool true)) 64 rfl 9 4 strKeyed Tryz.underlying64 imgR mi l.length D0 rfl HOWN0.out hl0 (.string (kb r)) (.bool true) (.string r) rfl rfl HKEY.out (.held (.bool true)) [] rfl ?_
             intro w2 ho0 ht0
             have hI2 := HI1.out.put HG.out rfl ⟨rfl, rfl, rfl⟩ HINV0.out HRR.out ho0 ht0
             have hk2 : KpC 0 w1 w2 := KpC.turned ht0 (Nat.zero_le _)
             have hq0 := hk2.cells _ _ _ _ HB0.out
             have hq1 := hk2.cells _ _ _ _ HB1.out
             obtain ⟨y0, -⟩ := box2 hI2.sv.box
             have x0 : w2.cell? ⟨w.heap.size, 0, none⟩ = some (.pointer (some ⟨sb, 0, none⟩)) := by have := cells_of' hq0 0; simpa using this
             have x1 : w2.cell? ⟨w.heap.size + 1, 0, none⟩ = some (.map (some mi)) := by have := cells_of' hq1 0; simpa using this
             obtain ⟨D4, hown4, hhas4, -⟩ := hI2.sv.bnd.no HGB.out
             have HHAS4 := Lib.hid hhas4
             clear hhas4
             have HOWN4 := Lib.hid hown4
             have HI2 := Lib.hid hI2
             have HQ0 := Lib.hid hq0
             have HQ1 := Lib.hid hq1
             have HF2 : Hid (FrX (ocX m2 mi) w w2) := Lib.hid (HF1.out.trans (FrX.grown ht0.grown (.inr rfl)))
             clear ho0 ht0 hI2 hk2 hq0 hq1 hown4)
          | (at_lookup; refine tlook_none _ 147 Tryz.underlying147 rfl (.tmp 26) (.tmp 27) rfl m1 S.bd.length D4 rfl HOWN4.out (.string (kb r)) (.string r) rfl HKEY.out HHAS4.out ?_))
        refine (HSTEP.out [] w2 HI2.out HQ0.out HQ1.out (fun v hv => by cases hv) (by simp) none 0 .nil0).mono ?_
        rintro e w3 ⟨rfl, ⟨⟨l3, hI3, ht3⟩, hq0, hq1⟩, hf3⟩
        have hl5 := hI3.len hbl hel
        obtain ⟨D5, hown5, hinv5⟩ := id hI3.map
        have x0 : w3.cell? ⟨w.heap.size, 0, none⟩ = some (.pointer (some ⟨sb, 0, none⟩)) := by have := cells_of' hq0 0; simpa using this
        have x1 : w3.cell? ⟨w.heap.size + 1, 0, none⟩ = some (.map (some mi)) := by have := cells_of' hq1 0; simpa using this
        have HOWN5 := Lib.hid hown5
        have HINV5 := Lib.hid hinv5
        have HI3 := Lib.hid hI3
        have HT3 := Lib.hid ht3
        have HF3 := Lib.hid (HF2.out.trans hf3)
        clear hown5 hinv5 hI3 ht3 hq0 hq1 hf3 y0
        go_wp2_with (first
          | (at_mapUpdate
             refine wpList_mapUpdate_in _ rfl (.tmp 32) (.tmp 33) (.const (.bool false)) 64 rfl 9 4 strKeyed Tryz.underlying64 imgR mi l3.length D5 rfl HOWN5.out hl5 (.string (kb r)) (.bool false) (.string r) rfl rfl HKEY.out (.held (.bool false)) [] rfl ?_
             intro w4 ho5 ht5
             have hI4 := HI3.out.put HG.out rfl ⟨rfl, rfl, rfl⟩ HINV5.out HRR.out ho5 ht5
             have HI4 := Lib.hid hI4
             have HF4 : Hid (FrX (ocX m2 mi) w w4) := Lib.hid (HF3.out.trans (FrX.grown ht5.grown (.inr rfl)))
             clear ho5 ht5 hI4))
        go_ret
        refine ⟨rfl, ⟨putA l3 r false, HI4.out, fun k hk => ?_⟩, HF4.out⟩
        rw [getA_put] at hk
        by_cases e : k = r
        · rw [if_pos e] at hk; cases hk
        · rw [if_neg e] at hk; exact (HTR.out k (HT3.out k hk)).2 e
end Go.Proofs.YtkglopdogakfoaaGreatDoor
