/- The solver in memory; 'last'. -/
import Derived.WalkKit
import Derived.ProofKit
import Derived.OpenShut
import Derived.Handy
import Derived.Lib.Hide
import Derived.Deep.LoopGhost
import Derived.Test.YtgmloanagpkjeaaGreatDoorSvP
import Derived.Test.YtgmloanagpkjeaaGreatDoorTlk
import Derived.Test.YtgmloanagpkjeaaGreatDoorMtw
namespace Go.Proofs.YtgmloanagpkjeaaGreatDoor
open Go.RowKit Go.Maps

/-- all blocks that are there, but those of which X holds, are as they were -/
structure FrX (X : Nat → Prop) (A B : World) : Prop where
  os : B.os = A.os
  tape : B.tape = A.tape
  output : B.output = A.output
  size : A.heap.size ≤ B.heap.size
  block : ∀ k, k < A.heap.size → ¬ X k → B.heap[k]? = A.heap[k]?
theorem FrX.refl (X : Nat → Prop) (A : World) : FrX X A A := ⟨rfl, rfl, rfl, Nat.le_refl _, fun _ _ _ => rfl⟩
theorem FrX.trans {X : Nat → Prop} {A B C : World} (h : FrX X A B) (k : FrX X B C) : FrX X A C :=
  ⟨k.os.trans h.os, k.tape.trans h.tape, k.output.trans h.output, Nat.le_trans h.size k.size, fun i hi hc => (k.block i (Nat.lt_of_lt_of_le hi h.size) hc).trans (h.block i hi hc)⟩
theorem FrX.of_below {X : Nat → Prop} {A B : World} (h : Below A.heap.size A B) : FrX X A B := ⟨h.os, h.tape, h.output, h.size, fun k hk _ => h.block k hk⟩
theorem FrX.mono {X Y : Nat → Prop} {A B : World} (h : FrX X A B) (hx : ∀ k, X k → Y k) : FrX Y A B := ⟨h.os, h.tape, h.output, h.size, fun k hk hc => h.block k hk (fun e => hc (hx k e))⟩
theorem FrX.grown {X : Nat → Prop} {A B : World} {b : Nat} (h : A.grownBy B (some b)) (hb : X b) : FrX X A B := ⟨h.os, h.tape, h.output, h.size, fun k hk hc => h.block k hk (fun e => by cases e; exact hc hb)⟩
/-- what X marks are no cells -/
theorem FrX.kpc {X : Nat → Prop} {A B : World} {n : Nat} (h : FrX X A B) (hn : n ≤ A.heap.size) (hx : ∀ k, X k → n ≤ k ∧ ∀ c t f, A.heap[k]? ≠ some (Obj.cells c t f)) : KpC n A B :=
  ⟨⟨h.os, h.tape, h.output, h.size, fun k hk => h.block k (by omega) (fun e => by have := (hx k e).1; omega)⟩, fun k c t f hk => (h.block k (Array.getElem?_eq_some_iff.1 hk).1 (fun e => (hx k e).2 c t f hk)).trans hk⟩

theorem KMap.at {W : World} {mb : Nat} {l : List (Key × Key)} (h : KMap W mb l) {k v : Key} (hk : getA l k = some v) :
    ∃ D : DataW Unit, W.ownsMap Tryz.prog 9 (plainElem Tryz.prog 9) mb l.length D ∧ Maps.has D (.string k) = true ∧ (∀ z, D.atKey (.string k) z = .lit (.string v)) := by
  obtain ⟨D, h1, h2⟩ := h
  exact ⟨D, h1, by rw [h2.has]; exact decide_eq_true (getA_mem.2 ⟨v, hk⟩), h2.at_ k v hk⟩
theorem KMap.no {W : World} {mb : Nat} {l : List (Key × Key)} (h : KMap W mb l) {k : Key} (hk : getA l k = none) :
    ∃ D : DataW Unit, W.ownsMap Tryz.prog 9 (plainElem Tryz.prog 9) mb l.length D ∧ Maps.has D (.string k) = false ∧ KInv D l := by
  obtain ⟨D, h1, h2⟩ := h
  exact ⟨D, h1, by rw [h2.has]; exact decide_eq_false (getA_none.1 hk), h2⟩
section
variable (w : World) {ops : Array Oper} {rest : List Oper} {o : Oper} {a : Act} {Q : Exit → Act → World → Prop}
theorem klook_hit (hg : o.guard = none) (m x : Operand) (hop : o.op = Op.lookup 131 m x true) (b n : Nat) (D : DataW Unit) (hm : a.eval m = .map (some b)) (hown : w.ownsMap Tryz.prog 9 (plainElem Tryz.prog 9) b n D)
    (key : Value) (kl : Lit) (hx : a.eval x = key) (hkey : keyOf Tryz.prog 9 key = some kl) (val : Key) (hat : ∀ z, D.atKey kl z = .lit (.string val)) (hh : Maps.has D kl = true)
    (hK : wpList Tryz.prog ops Q rest (a.put o.dst (.tuple #[.string (kb val), .bool true])) w) : wpList Tryz.prog ops Q (o :: rest) a w :=
  wpList_lookup_own_ok _ hg m x 131 hop 9 9 strKeyed Tryz.underlying131 _ (zeroStr w) (.lit (.string [])) [] zeroRead b n D hm hown key kl hx hkey fun v ps hv => by
    obtain ⟨s, rfl, hs, -⟩ := plainElem_string_inv Tryz.underlying9 hv
    rw [hat] at hs
    simp only [Prod.mk.injEq, DataW.lit.injEq, Lit.string.injEq] at hs
    rw [hh]
    have e : s = kb val := by rw [hs.1, kb_key]
    rw [e]; exact hK
theorem klook_miss (hg : o.guard = none) (m x : Operand) (hop : o.op = Op.lookup 131 m x true) (b n : Nat) (D : DataW Unit) (hm : a.eval m = .map (some b)) (hown : w.ownsMap Tryz.prog 9 (plainElem Tryz.prog 9) b n D)
    (key : Value) (kl : Lit) (hx : a.eval x = key) (hkey : keyOf Tryz.prog 9 key = some kl) (hh : Maps.has D kl = false)
    (hK : wpList Tryz.prog ops Q rest (a.put o.dst (.tuple #[.string ⟨#[]⟩, .bool false])) w) : wpList Tryz.prog ops Q (o :: rest) a w :=
  wpList_lookup_own_ok _ hg m x 131 hop 9 9 strKeyed Tryz.underlying131 _ (zeroStr w) (.lit (.string [])) [] zeroRead b n D hm hown key kl hx hkey fun v ps hv => by
    obtain ⟨s, rfl, hs, -⟩ := plainElem_string_inv Tryz.underlying9 hv
    rw [atKey_of_not_has hh] at hs
    simp only [Prod.mk.injEq, DataW.lit.injEq, Lit.string.injEq] at hs
    rw [hh]
    have e : s = ⟨#[]⟩ := bytes_ext hs.1.symm
    rw [e]; exact hK
end
theorem KMap.store {W' : World} {mb : Nat} {l : List (Key × Key)} {D : DataW Unit} (hi : KInv D l) {k v : Key} {j : Nat} (ho : W'.ownsMap Tryz.prog 9 (plainElem Tryz.prog 9) mb j (D.put (.string k) (.lit (.string v)))) : KMap W' mb (putA l k v) := by
  have h := hi.put k v
  exact ⟨_, ho.tight h.size, h⟩

/-- Itoa below N, in worlds of which GW holds -/
structure ItoaOk (N : Nat) (GW : World → Prop) : Prop where
  le : N ≤ 1048576
  keep : ∀ A B, GW A → KpC 0 A B → GW B
  itoa : ∀ (i : Nat) (W : World), i < N → GW W → Calls Tryz.prog 83 #[.int .i64 i] W fun e W' => e = .returned (.string (digN i)) ∧ Below W.heap.size W W'
theorem itoa_small : ItoaOk 100 (fun _ => True) := ⟨by omega, fun _ _ _ _ => trivial, fun i W hi _ => (Tryz.strconv_Itoa_small i hi W).mono fun e w' ⟨h1, h2⟩ => ⟨by rw [h1]; unfold digN; rw [if_pos (by omega)]; rfl, by rw [h2]; exact Below.refl _ _⟩⟩

/-- the solver as it lies, its terms in blocks of which p holds -/
structure SvIs (GW : World → Prop) (sb m1 m2 : Nat) (p : Nat → Prop) (S : Sv) (W : World) : Prop where
  gw : GW W
  box : W.heap[sb]? = some (.cells #[.map (some m1), .map (some m2)] 133 (0, 0))
  bnd : TMapP p W m1 S.bd
  eql : ∃ E, KMap W m2 E ∧ EqRel E S.eq
  ne : m1 ≠ m2
  ok : SvOk S
theorem SvIs.m1map {GW : World → Prop} {sb m1 m2 : Nat} {p : Nat → Prop} {S : Sv} {W : World} (h : SvIs GW sb m1 m2 p S W) : ∀ c t f, W.heap[m1]? ≠ some (Obj.cells c t f) := by
  intro c t f e
  obtain ⟨D, ⟨es, cl, hes, _⟩, _⟩ := h.bnd
  rw [hes] at e; cases e
theorem SvIs.m2map {GW : World → Prop} {sb m1 m2 : Nat} {p : Nat → Prop} {S : Sv} {W : World} (h : SvIs GW sb m1 m2 p S W) : ∀ c t f, W.heap[m2]? ≠ some (Obj.cells c t f) := by
  intro c t f e
  obtain ⟨E, ⟨D, ⟨es, cl, hes, _⟩, _⟩, _⟩ := h.eql
  rw [hes] at e; cases e
theorem SvIs.m2lt {GW : World → Prop} {sb m1 m2 : Nat} {p : Nat → Prop} {S : Sv} {W : World} (h : SvIs GW sb m1 m2 p S W) : m2 < W.heap.size := by obtain ⟨E, hk, _⟩ := h.eql; exact hk.lt
theorem SvIs.sblt {GW : World → Prop} {sb m1 m2 : Nat} {p : Nat → Prop} {S : Sv} {W : World} (h : SvIs GW sb m1 m2 p S W) : sb < W.heap.size := (Array.getElem?_eq_some_iff.1 h.box).1
/-- whatever else has turned -/
theorem SvIs.carry {GW : World → Prop} {sb m1 m2 : Nat} {p q : Nat → Prop} {S : Sv} {A B : World} (h : SvIs GW sb m1 m2 p S A) (hg : GW B) (hs : B.heap[sb]? = A.heap[sb]?) (h1 : B.heap[m1]? = A.heap[m1]?) (h2 : B.heap[m2]? = A.heap[m2]?) (hp : ∀ b, p b → b < A.heap.size → B.heap[b]? = A.heap[b]? ∧ q b) : SvIs GW sb m1 m2 q S B := by
  obtain ⟨E, hk, he⟩ := h.eql
  exact ⟨hg, hs.trans h.box, h.bnd.map h1 fun t s hs => hs.lt.carry fun b hb => hp b hb.1 hb.2, ⟨E, hk.kept h2, he⟩, h.ne, h.ok⟩
theorem SvIs.below {N : Nat} {GW : World → Prop} (hg : ItoaOk N GW) {sb m1 m2 : Nat} {p : Nat → Prop} {S : Sv} {A B : World} (h : SvIs GW sb m1 m2 p S A) (hb : Below A.heap.size A B) : SvIs GW sb m1 m2 p S B :=
  h.carry (hg.keep _ _ h.gw (KpC.of_below hb (Nat.zero_le _))) (hb.block sb h.sblt) (hb.block m1 h.bnd.lt) (hb.block m2 h.m2lt) fun b hp hl => ⟨hb.block b hl, hp⟩
theorem SvIs.weak {GW : World → Prop} {sb m1 m2 : Nat} {p q : Nat → Prop} {S : Sv} {A : World} (h : SvIs GW sb m1 m2 p S A) (hp : ∀ b, p b → b < A.heap.size → q b) : SvIs GW sb m1 m2 q S A :=
  h.carry h.gw rfl rfl rfl fun b h1 h2 => ⟨rfl, hp b h1 h2⟩
theorem box2 {W : World} {b : Nat} {x y : Value} {e : TypeId} (h : W.heap[b]? = some (.cells #[x, y] e (0, 0))) : W.cell? ⟨b, 0, none⟩ = some x ∧ W.cell? ⟨b, 1, none⟩ = some y := ⟨cells_of' h 0, cells_of' h 1⟩
theorem EqRel.len {E' E : List (Key × Key)} (h : EqRel E' E) (hn : (E'.map (·.1)).Nodup) : E'.length ≤ E.length := by
  have := nodup_len (l := E'.map (·.1)) (K := E.map (·.1)) hn (fun x hx => (h.keys x).1 hx)
  simpa using this
theorem SvOk.vlen {S : Sv} (h : SvOk S) {E' : List (Key × Key)} (he : EqRel E' S.eq) {k v : Key} (hg : getA E' k = some v) : v.length ≤ 1048576 := by
  obtain ⟨p, hp, rfl⟩ := List.mem_map.1 (he.vals k v hg)
  have := (h.eqs p hp).2.1
  omega

set_option maxRecDepth 100000 in
set_option maxHeartbeats 4000000 in
theorem last_any {N : Nat} {GW : World → Prop} (HG : Hid (ItoaOk N GW)) (sb m1 m2 : Nat) (p : Nat → Prop) (S : Sv) (u : Key) (w : World) (hS : SvIs GW sb m1 m2 p S w) (hu : u.length ≤ 1048576) (hl : S.eq.length ≤ 1048576) :
    Calls Tryz.prog 187 #[.pointer (some ⟨sb, 0, none⟩), .string (kb u)] w fun e w' => e = .returned (.string (kb (repE S.eq u))) ∧ SvIs GW sb m1 m2 p S w' ∧ FrX (· = m2) w w' := by
  obtain ⟨E0, hk0, he0⟩ := hS.eql
  obtain ⟨n0, hr0⟩ := he0.rep u
  have hm2 : sb ≠ m2 := fun e => hS.m2map _ _ _ (by rw [← e]; exact hS.box)
  have HK0 := Lib.hid hk0
  have HE0 := Lib.hid he0
  have HR0 := Lib.hid hr0
  have HS := Lib.hid hS
  clear hk0 he0 hr0 hS
  go_enter Tryz.func187, Tryz.ntmps187
  go_wp2_with fail
  go_loopg [1] n0 (fun n x wr => ∃ (u' : Key) (E : List (Key × Key)), x = .string (kb u') ∧ u'.length ≤ 1048576 ∧ Hid (KMap wr m2 E) ∧ Hid (EqRel E S.eq) ∧ Hid (Rep E n u' (repE S.eq u)) ∧ Hid (FrX (· = m2) w wr))
  case atStart => exact ⟨u, E0, rfl, hu, HK0, HE0, HR0, Lib.hid (FrX.refl _ _)⟩
  case round =>
    obtain ⟨u', E, rfl, hu', HK, HE, HR, HF⟩ := hrel
    have hbx := (HF.out.block sb (Array.getElem?_eq_some_iff.1 HS.out.box).1 hm2).trans HS.out.box
    obtain ⟨x0, x1⟩ := box2 hbx
    have HKEY := Lib.hid (keyOf_kb hu')
    have hend : SvIs GW sb m1 m2 p S wr := by
      have hkp : KpC 0 w wr := HF.out.kpc (Nat.zero_le _) (fun k e => ⟨Nat.zero_le _, by subst e; exact HS.out.m2map⟩)
      exact ⟨HG.out.keep _ _ HS.out.gw hkp, hbx, HS.out.bnd.map (HF.out.block m1 HS.out.bnd.lt HS.out.ne) (fun t s h => h.kpc hkp), ⟨E, HK.out, HE.out⟩, HS.out.ne, HS.out.ok⟩
    have HEND := Lib.hid hend
    clear hend hbx
    cases hg : getA E u' with
    | none =>
      obtain ⟨D, hown, hhas, hinv⟩ := HK.out.no hg
      have HRU : Hid (repE S.eq u = u') := Lib.hid (by
        have h := HR.out
        cases h with
        | stop _ _ => rfl
        | step _ v _ n h0 _ => rw [hg] at h0; cases h0)
      have HOWN := Lib.hid hown
      have HHAS := Lib.hid hhas
      clear hg hown hhas hinv
      go_wp2_with (at_lookup; refine klook_miss _ rfl _ _ rfl m2 E.length D rfl HOWN.out _ _ rfl HKEY.out HHAS.out ?_)
      go_ret
      rw [HRU.out]
      exact ⟨rfl, HEND.out, HF.out⟩
    | some v =>
      have hvl := HS.out.ok.vlen HE.out hg
      have HKEY2 := Lib.hid (keyOf_kb hvl)
      obtain ⟨n', hgk, hrv⟩ : ∃ n', gk = n' + 1 ∧ Rep E n' v (repE S.eq u) := by
        have h := HR.out
        cases h with
        | stop _ h0 => rw [hg] at h0; cases h0
        | step _ v' _ n h0 h1 => rw [hg] at h0; cases h0; exact ⟨n, rfl, h1⟩
      obtain ⟨D, hown, hhas, hat⟩ := HK.out.at hg
      have HOWN := Lib.hid hown
      have HHAS := Lib.hid hhas
      have HAT := Lib.hid hat
      have HRV := Lib.hid hrv
      have HG1 := Lib.hid hg
      clear hown hhas hat hrv hg
      cases hg2 : getA E v with
      | none =>
        obtain ⟨D2, hown2, hhas2, -⟩ := HK.out.no hg2
        have HOWN2 := Lib.hid hown2
        have HHAS2 := Lib.hid hhas2
        clear hg2 hown2 hhas2
        go_wp2_with (at_lookup; first | (refine klook_hit _ rfl (.tmp 13) (.tmp 14) rfl m2 E.length D rfl HOWN.out (.string (kb u')) (.string u') rfl HKEY.out v HAT.out HHAS.out ?_) | (refine klook_miss _ rfl (.tmp 25) (.tmp 26) rfl m2 E.length D2 rfl HOWN2.out (.string (kb v)) (.string v) rfl HKEY2.out HHAS2.out ?_))
        go_roundg n'
        case measure => omega
        case rel => exact ⟨v, E, rfl, hvl, HK, HE, HRV, HF⟩
      | some z =>
        obtain ⟨D2, hown2, hhas2, hat2⟩ := HK.out.at hg2
        have HOWN2 := Lib.hid hown2
        have HHAS2 := Lib.hid hhas2
        have HAT2 := Lib.hid hat2
        have HG2 := Lib.hid hg2
        have HLEN : Hid (E.length ≤ 1048576) := Lib.hid (by
          obtain ⟨D9, h9, i9⟩ := HK.out
          exact Nat.le_trans (HE.out.len i9.nodup) hl)
        have HZL : Hid (z.length ≤ 1048576) := Lib.hid (HS.out.ok.vlen HE.out hg2)
        clear hg2 hown2 hhas2 hat2
        obtain ⟨D3, hown3, hinv3⟩ := HK.out
        have HOWN3 := Lib.hid hown3
        have HINV3 := Lib.hid hinv3
        clear hown3 hinv3
        go_wp2_with (first
          | (at_lookup; first | (refine klook_hit _ rfl (.tmp 13) (.tmp 14) rfl m2 E.length D rfl HOWN.out (.string (kb u')) (.string u') rfl HKEY.out v HAT.out HHAS.out ?_) | (refine klook_hit _ rfl (.tmp 25) (.tmp 26) rfl m2 E.length D2 rfl HOWN2.out (.string (kb v)) (.string v) rfl HKEY2.out z HAT2.out HHAS2.out ?_))
          | (at_mapUpdate
             refine wpList_mapUpdate_in _ rfl _ _ _ 131 rfl 9 9 strKeyed Tryz.underlying131 _ m2 E.length D3 rfl HOWN3.out (by have := HLEN.out; unfold maxLen; omega) _ _ _ rfl rfl HKEY.out (.lit (.string z)) [] (plainElem_string Tryz.underlying9 (by have := HZL.out; show z.toArray.size ≤ _; unfold maxLen; simp; omega)) ?_
             intro w3 hown4 hturn3
             have HO4 := Lib.hid hown4
             have HT3 := Lib.hid hturn3
             clear hown4 hturn3))
        obtain ⟨m', hmn, hm'⟩ := Rep.short HG1.out HG2.out n' v _ HRV.out
        go_roundg m'
        case measure => omega
        case rel => exact ⟨v, putA E u' z, rfl, hvl, Lib.hid (KMap.store HINV3.out HO4.out), Lib.hid (HE.out.short HG1.out HG2.out), Lib.hid hm', Lib.hid (HF.out.trans (FrX.grown HT3.out.grown rfl))⟩
end Go.Proofs.YtgmloanagpkjeaaGreatDoor
