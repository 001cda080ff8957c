/- Merged: Svm, Keep, Slv. -/
import Derived.WalkKit
import Derived.ProofKit
import Derived.OpenShut
import Derived.Handy
import Derived.Lib.Hide
import Derived.Deep.LoopGhost
import Derived.Test.YtkglopdogakfoaaGreatDoorSvP
import Derived.Test.YtkglopdogakfoaaGreatDoorTlk
import Derived.Test.YtkglopdogakfoaaGreatDoorMtw
import Derived.Deep.RegionHeld3
import Derived.Test.YtkglopdogakfoaaGreatDoorGh
/- The solver in memory; 'last'. -/
namespace Go.Proofs.YtkglopdogakfoaaGreatDoor
open Go.RowKit Go.Maps

/-- all blocks that are there, but those of which X holds, are as they were -/
structure FrX (X : Nat → Prop) (A B : World) : Prop where
  os : B.os = A.os
  tape : B.tape = A.tape
  output : B.output = A.output
  size : A.heap.size ≤ B.heap.size
  block : ∀ k, k < A.heap.size → ¬ X k → B.heap[k]? = A.heap[k]?
theorem FrX.refl (X : Nat → Prop) (A : World) : FrX X A A := ⟨rfl, rfl, rfl, Nat.le_refl _, fun _ _ _ => rfl⟩
theorem FrX.trans {X : Nat → Prop} {A B C : World} (h : FrX X A B) (k : FrX X B C) : FrX X A C :=
  ⟨k.os.trans h.os, k.tape.trans h.tape, k.output.trans h.output, Nat.le_trans h.size k.size, fun i hi hc => (k.block i (Nat.lt_of_lt_of_le hi h.size) hc).trans (h.block i hi hc)⟩
theorem FrX.of_below {X : Nat → Prop} {A B : World} (h : Below A.heap.size A B) : FrX X A B := ⟨h.os, h.tape, h.output, h.size, fun k hk _ => h.block k hk⟩
theorem FrX.mono {X Y : Nat → Prop} {A B : World} (h : FrX X A B) (hx : ∀ k, X k → Y k) : FrX Y A B := ⟨h.os, h.tape, h.output, h.size, fun k hk hc => h.block k hk (fun e => hc (hx k e))⟩
theorem FrX.grown {X : Nat → Prop} {A B : World} {b : Nat} (h : A.grownBy B (some b)) (hb : X b) : FrX X A B := ⟨h.os, h.tape, h.output, h.size, fun k hk hc => h.block k hk (fun e => by cases e; exact hc hb)⟩
/-- what X marks are no cells -/
theorem FrX.kpc {X : Nat → Prop} {A B : World} {n : Nat} (h : FrX X A B) (hn : n ≤ A.heap.size) (hx : ∀ k, X k → n ≤ k ∧ ∀ c t f, A.heap[k]? ≠ some (Obj.cells c t f)) : KpC n A B :=
  ⟨⟨h.os, h.tape, h.output, h.size, fun k hk => h.block k (by omega) (fun e => by have := (hx k e).1; omega)⟩, fun k c t f hk => (h.block k (Array.getElem?_eq_some_iff.1 hk).1 (fun e => (hx k e).2 c t f hk)).trans hk⟩

theorem KMap.at {W : World} {mb : Nat} {l : List (Key × Key)} (h : KMap W mb l) {k v : Key} (hk : getA l k = some v) :
    ∃ D : DataW Unit, W.ownsMap Tryz.prog 9 (plainElem Tryz.prog 9) mb l.length D ∧ Maps.has D (.string k) = true ∧ (∀ z, D.atKey (.string k) z = .lit (.string v)) := by
  obtain ⟨D, h1, h2⟩ := h
  exact ⟨D, h1, by rw [h2.has]; exact decide_eq_true (getA_mem.2 ⟨v, hk⟩), h2.at_ k v hk⟩
theorem KMap.no {W : World} {mb : Nat} {l : List (Key × Key)} (h : KMap W mb l) {k : Key} (hk : getA l k = none) :
    ∃ D : DataW Unit, W.ownsMap Tryz.prog 9 (plainElem Tryz.prog 9) mb l.length D ∧ Maps.has D (.string k) = false ∧ KInv D l := by
  obtain ⟨D, h1, h2⟩ := h
  exact ⟨D, h1, by rw [h2.has]; exact decide_eq_false (getA_none.1 hk), h2⟩
section
variable (w : World) {ops : Array Oper} {rest : List Oper} {o : Oper} {a : Act} {Q : Exit → Act → World → Prop}
theorem klook_hit (hg : o.guard = none) (m x : Operand) (hop : o.op = Op.lookup 148 m x true) (b n : Nat) (D : DataW Unit) (hm : a.eval m = .map (some b)) (hown : w.ownsMap Tryz.prog 9 (plainElem Tryz.prog 9) b n D)
    (key : Value) (kl : Lit) (hx : a.eval x = key) (hkey : keyOf Tryz.prog 9 key = some kl) (val : Key) (hat : ∀ z, D.atKey kl z = .lit (.string val)) (hh : Maps.has D kl = true)
    (hK : wpList Tryz.prog ops Q rest (a.put o.dst (.tuple #[.string (kb val), .bool true])) w) : wpList Tryz.prog ops Q (o :: rest) a w :=
  wpList_lookup_own_ok _ hg m x 148 hop 9 9 strKeyed Tryz.underlying148 _ (zeroStr w) (.lit (.string [])) [] zeroRead b n D hm hown key kl hx hkey fun v ps hv => by
    obtain ⟨s, rfl, hs, -⟩ := plainElem_string_inv Tryz.underlying9 hv
    rw [hat] at hs
    simp only [Prod.mk.injEq, DataW.lit.injEq, Lit.string.injEq] at hs
    rw [hh]
    have e : s = kb val := by rw [hs.1, kb_key]
    rw [e]; exact hK
theorem klook_miss (hg : o.guard = none) (m x : Operand) (hop : o.op = Op.lookup 148 m x true) (b n : Nat) (D : DataW Unit) (hm : a.eval m = .map (some b)) (hown : w.ownsMap Tryz.prog 9 (plainElem Tryz.prog 9) b n D)
    (key : Value) (kl : Lit) (hx : a.eval x = key) (hkey : keyOf Tryz.prog 9 key = some kl) (hh : Maps.has D kl = false)
    (hK : wpList Tryz.prog ops Q rest (a.put o.dst (.tuple #[.string ⟨#[]⟩, .bool false])) w) : wpList Tryz.prog ops Q (o :: rest) a w :=
  wpList_lookup_own_ok _ hg m x 148 hop 9 9 strKeyed Tryz.underlying148 _ (zeroStr w) (.lit (.string [])) [] zeroRead b n D hm hown key kl hx hkey fun v ps hv => by
    obtain ⟨s, rfl, hs, -⟩ := plainElem_string_inv Tryz.underlying9 hv
    rw [atKey_of_not_has hh] at hs
    simp only [Prod.mk.injEq, DataW.lit.injEq, Lit.string.injEq] at hs
    rw [hh]
    have e : s = ⟨#[]⟩ := bytes_ext hs.1.symm
    rw [e]; exact hK
end
theorem KMap.store {W' : World} {mb : Nat} {l : List (Key × Key)} {D : DataW Unit} (hi : KInv D l) {k v : Key} {j : Nat} (ho : W'.ownsMap Tryz.prog 9 (plainElem Tryz.prog 9) mb j (D.put (.string k) (.lit (.string v)))) : KMap W' mb (putA l k v) := by
  have h := hi.put k v
  exact ⟨_, ho.tight h.size, h⟩

/-- Itoa below N, in worlds of which GW holds -/
structure ItoaOk (N : Nat) (GW : World → Prop) : Prop where
  le : N ≤ 1048576
  keep : ∀ A B, GW A → KpC 0 A B → GW B
  itoa : ∀ (i : Nat) (W : World), i < N → GW W → Calls Tryz.prog 51 #[.int .i64 i] W fun e W' => e = .returned (.string (digN i)) ∧ Below W.heap.size W W'
theorem itoa_small : ItoaOk 100 (fun _ => True) := ⟨by omega, fun _ _ _ _ => trivial, fun i W hi _ => (Tryz.strconv_Itoa_small i hi W).mono fun e w' ⟨h1, h2⟩ => ⟨by rw [h1]; unfold digN; rw [if_pos (by omega)]; rfl, by rw [h2]; exact Below.refl _ _⟩⟩

/-- the solver as it lies, its terms in blocks of which p holds -/
structure SvIs (GW : World → Prop) (sb m1 m2 : Nat) (p : Nat → Prop) (S : Sv) (W : World) : Prop where
  gw : GW W
  box : W.heap[sb]? = some (.cells #[.map (some m1), .map (some m2)] 150 (0, 0))
  bnd : TMapP p W m1 S.bd
  eql : ∃ E, KMap W m2 E ∧ EqRel E S.eq
  ne : m1 ≠ m2
  ok : SvOk S
theorem SvIs.m1map {GW : World → Prop} {sb m1 m2 : Nat} {p : Nat → Prop} {S : Sv} {W : World} (h : SvIs GW sb m1 m2 p S W) : ∀ c t f, W.heap[m1]? ≠ some (Obj.cells c t f) := by
  intro c t f e
  obtain ⟨D, ⟨es, cl, hes, _⟩, _⟩ := h.bnd
  rw [hes] at e; cases e
theorem SvIs.m2map {GW : World → Prop} {sb m1 m2 : Nat} {p : Nat → Prop} {S : Sv} {W : World} (h : SvIs GW sb m1 m2 p S W) : ∀ c t f, W.heap[m2]? ≠ some (Obj.cells c t f) := by
  intro c t f e
  obtain ⟨E, ⟨D, ⟨es, cl, hes, _⟩, _⟩, _⟩ := h.eql
  rw [hes] at e; cases e
theorem SvIs.m2lt {GW : World → Prop} {sb m1 m2 : Nat} {p : Nat → Prop} {S : Sv} {W : World} (h : SvIs GW sb m1 m2 p S W) : m2 < W.heap.size := by obtain ⟨E, hk, _⟩ := h.eql; exact hk.lt
theorem SvIs.sblt {GW : World → Prop} {sb m1 m2 : Nat} {p : Nat → Prop} {S : Sv} {W : World} (h : SvIs GW sb m1 m2 p S W) : sb < W.heap.size := (Array.getElem?_eq_some_iff.1 h.box).1
/-- whatever else has turned -/
theorem SvIs.carry {GW : World → Prop} {sb m1 m2 : Nat} {p q : Nat → Prop} {S : Sv} {A B : World} (h : SvIs GW sb m1 m2 p S A) (hg : GW B) (hs : B.heap[sb]? = A.heap[sb]?) (h1 : B.heap[m1]? = A.heap[m1]?) (h2 : B.heap[m2]? = A.heap[m2]?) (hp : ∀ b, p b → b < A.heap.size → B.heap[b]? = A.heap[b]? ∧ q b) : SvIs GW sb m1 m2 q S B := by
  obtain ⟨E, hk, he⟩ := h.eql
  exact ⟨hg, hs.trans h.box, h.bnd.map h1 fun t s hs => hs.lt.carry fun b hb => hp b hb.1 hb.2, ⟨E, hk.kept h2, he⟩, h.ne, h.ok⟩
theorem SvIs.below {N : Nat} {GW : World → Prop} (hg : ItoaOk N GW) {sb m1 m2 : Nat} {p : Nat → Prop} {S : Sv} {A B : World} (h : SvIs GW sb m1 m2 p S A) (hb : Below A.heap.size A B) : SvIs GW sb m1 m2 p S B :=
  h.carry (hg.keep _ _ h.gw (KpC.of_below hb (Nat.zero_le _))) (hb.block sb h.sblt) (hb.block m1 h.bnd.lt) (hb.block m2 h.m2lt) fun b hp hl => ⟨hb.block b hl, hp⟩
theorem SvIs.weak {GW : World → Prop} {sb m1 m2 : Nat} {p q : Nat → Prop} {S : Sv} {A : World} (h : SvIs GW sb m1 m2 p S A) (hp : ∀ b, p b → b < A.heap.size → q b) : SvIs GW sb m1 m2 q S A :=
  h.carry h.gw rfl rfl rfl fun b h1 h2 => ⟨rfl, hp b h1 h2⟩
theorem box2 {W : World} {b : Nat} {x y : Value} {e : TypeId} (h : W.heap[b]? = some (.cells #[x, y] e (0, 0))) : W.cell? ⟨b, 0, none⟩ = some x ∧ W.cell? ⟨b, 1, none⟩ = some y := ⟨cells_of' h 0, cells_of' h 1⟩
theorem EqRel.len {E' E : List (Key × Key)} (h : EqRel E' E) (hn : (E'.map (·.1)).Nodup) : E'.length ≤ E.length := by
  have := nodup_len (l := E'.map (·.1)) (K := E.map (·.1)) hn (fun x hx => (h.keys x).1 hx)
  simpa using this
theorem SvOk.vlen {S : Sv} (h : SvOk S) {E' : List (Key × Key)} (he : EqRel E' S.eq) {k v : Key} (hg : getA E' k = some v) : v.length ≤ 1048576 := by
  obtain ⟨p, hp, rfl⟩ := List.mem_map.1 (he.vals k v hg)
  have := (h.eqs p hp).2.1
  omega

set_option maxRecDepth 100000 in
set_option maxHeartbeats 4000000 in
theorem last_any {N : Nat} {GW : World → Prop} (HG : Hid (ItoaOk N GW)) (sb m1 m2 : Nat) (p : Nat → Prop) (S : Sv) (u : Key) (w : World) (hS : SvIs GW sb m1 m2 p S w) (hu : u.length ≤ 1048576) (hl : S.eq.length ≤ 1048576) :
    Calls Tryz.prog 166 #[.pointer (some ⟨sb, 0, none⟩), .string (kb u)] w fun e w' => e = .returned (.string (kb (repE S.eq u))) ∧ SvIs GW sb m1 m2 p S w' ∧ FrX (· = m2) w w' := by
  obtain ⟨E0, hk0, he0⟩ := hS.eql
  obtain ⟨n0, hr0⟩ := he0.rep u
  have hm2 : sb ≠ m2 := fun e => hS.m2map _ _ _ (by rw [← e]; exact hS.box)
  have HK0 := Lib.hid hk0
  have HE0 := Lib.hid he0
  have HR0 := Lib.hid hr0
  have HS := Lib.hid hS
  clear hk0 he0 hr0 hS
  go_enter Tryz.func166, Tryz.ntmps166
  go_wp2_with fail
  go_loopg [1] n0 (fun n x wr => ∃ (u' : Key) (E : List (Key × Key)), x = .string (kb u') ∧ u'.length ≤ 1048576 ∧ Hid (KMap wr m2 E) ∧ Hid (EqRel E S.eq) ∧ Hid (Rep E n u' (repE S.eq u)) ∧ Hid (FrX (· = m2) w wr))
  case atStart => exact ⟨u, E0, rfl, hu, HK0, HE0, HR0, Lib.hid (FrX.refl _ _)⟩
  case round =>
    obtain ⟨u', E, rfl, hu', HK, HE, HR, HF⟩ := hrel
    have hbx := (HF.out.block sb (Array.getElem?_eq_some_iff.1 HS.out.box).1 hm2).trans HS.out.box
    obtain ⟨x0, x1⟩ := box2 hbx
    have HKEY := Lib.hid (keyOf_kb hu')
    have hend : SvIs GW sb m1 m2 p S wr := by
      have hkp : KpC 0 w wr := HF.out.kpc (Nat.zero_le _) (fun k e => ⟨Nat.zero_le _, by subst e; exact HS.out.m2map⟩)
      exact ⟨HG.out.keep _ _ HS.out.gw hkp, hbx, HS.out.bnd.map (HF.out.block m1 HS.out.bnd.lt HS.out.ne) (fun t s h => h.kpc hkp), ⟨E, HK.out, HE.out⟩, HS.out.ne, HS.out.ok⟩
    have HEND := Lib.hid hend
    clear hend hbx
    cases hg : getA E u' with
    | none =>
      obtain ⟨D, hown, hhas, hinv⟩ := HK.out.no hg
      have HRU : Hid (repE S.eq u = u') := Lib.hid (by
        have h := HR.out
        cases h with
        | stop _ _ => rfl
        | step _ v _ n h0 _ => rw [hg] at h0; cases h0)
      have HOWN := Lib.hid hown
      have HHAS := Lib.hid hhas
      clear hg hown hhas hinv
      go_wp2_with (at_lookup; refine klook_miss _ rfl _ _ rfl m2 E.length D rfl HOWN.out _ _ rfl HKEY.out HHAS.out ?_)
      go_ret
      rw [HRU.out]
      exact ⟨rfl, HEND.out, HF.out⟩
    | some v =>
      have hvl := HS.out.ok.vlen HE.out hg
      have HKEY2 := Lib.hid (keyOf_kb hvl)
      obtain ⟨n', hgk, hrv⟩ : ∃ n', gk = n' + 1 ∧ Rep E n' v (repE S.eq u) := by
        have h := HR.out
        cases h with
        | stop _ h0 => rw [hg] at h0; cases h0
        | step _ v' _ n h0 h1 => rw [hg] at h0; cases h0; exact ⟨n, rfl, h1⟩
      obtain ⟨D, hown, hhas, hat⟩ := HK.out.at hg
      have HOWN := Lib.hid hown
      have HHAS := Lib.hid hhas
      have HAT := Lib.hid hat
      have HRV := Lib.hid hrv
      have HG1 := Lib.hid hg
      clear hown hhas hat hrv hg
      cases hg2 : getA E v with
      | none =>
        obtain ⟨D2, hown2, hhas2, -⟩ := HK.out.no hg2
        have HOWN2 := Lib.hid hown2
        have HHAS2 := Lib.hid hhas2
        clear hg2 hown2 hhas2
        go_wp2_with (at_lookup; first | (refine klook_hit _ rfl (.tmp 13) (.tmp 14) rfl m2 E.length D rfl HOWN.out (.string (kb u')) (.string u') rfl HKEY.out v HAT.out HHAS.out ?_) | (refine klook_miss _ rfl (.tmp 25) (.tmp 26) rfl m2 E.length D2 rfl HOWN2.out (.string (kb v)) (.string v) rfl HKEY2.out HHAS2.out ?_))
        go_roundg n'
        case measure => omega
        case rel => exact ⟨v, E, rfl, hvl, HK, HE, HRV, HF⟩
      | some z =>
        obtain ⟨D2, hown2, hhas2, hat2⟩ := HK.out.at hg2
        have HOWN2 := Lib.hid hown2
        have HHAS2 := Lib.hid hhas2
        have HAT2 := Lib.hid hat2
        have HG2 := Lib.hid hg2
        have HLEN : Hid (E.length ≤ 1048576) := Lib.hid (by
          obtain ⟨D9, h9, i9⟩ := HK.out
          exact Nat.le_trans (HE.out.len i9.nodup) hl)
        have HZL : Hid (z.length ≤ 1048576) := Lib.hid (HS.out.ok.vlen HE.out hg2)
        clear hg2 hown2 hhas2 hat2
        obtain ⟨D3, hown3, hinv3⟩ := HK.out
        have HOWN3 := Lib.hid hown3
        have HINV3 := Lib.hid hinv3
        clear hown3 hinv3
        go_wp2_with (first
          | (at_lookup; first | (refine klook_hit _ rfl (.tmp 13) (.tmp 14) rfl m2 E.length D rfl HOWN.out (.string (kb u')) (.string u') rfl HKEY.out v HAT.out HHAS.out ?_) | (refine klook_hit _ rfl (.tmp 25) (.tmp 26) rfl m2 E.length D2 rfl HOWN2.out (.string (kb v)) (.string v) rfl HKEY2.out z HAT2.out HHAS2.out ?_))
          | (at_mapUpdate
             refine wpList_mapUpdate_in _ rfl _ _ _ 148 rfl 9 9 strKeyed Tryz.underlying148 _ m2 E.length D3 rfl HOWN3.out (by have := HLEN.out; unfold maxLen; omega) _ _ _ rfl rfl HKEY.out (.lit (.string z)) [] (plainElem_string Tryz.underlying9 (by have := HZL.out; show z.toArray.size ≤ _; unfold maxLen; simp; omega)) ?_
             intro w3 hown4 hturn3
             have HO4 := Lib.hid hown4
             have HT3 := Lib.hid hturn3
             clear hown4 hturn3))
        obtain ⟨m', hmn, hm'⟩ := Rep.short HG1.out HG2.out n' v _ HRV.out
        go_roundg m'
        case measure => omega
        case rel => exact ⟨v, putA E u' z, rfl, hvl, Lib.hid (KMap.store HINV3.out HO4.out), Lib.hid (HE.out.short HG1.out HG2.out), Lib.hid hm', Lib.hid (HF.out.trans (FrX.grown HT3.out.grown rfl))⟩
end Go.Proofs.YtkglopdogakfoaaGreatDoor
/- The solver's 'keep'. -/
namespace Go.Proofs.YtkglopdogakfoaaGreatDoor
open Go.RowKit Go.Maps

theorem keepsP_append (a b : List Tm) : ∀ S, (keepsP (a ++ b) S).1 = (keepsP b (keepsP a S).1).1 := by
  induction a with
  | nil => intro S; rfl
  | cons x a ih => intro S; rw [List.cons_append, keepsP, ih, keepsP]
theorem keepsP_take (l : List Tm) (k : Nat) (S : Sv) : (keepsP (l.take k) S).1.bd.length ≤ (keepsP l S).1.bd.length := by
  have h := keepsP_append (l.take k) (l.drop k) S
  rw [List.take_append_drop] at h
  rw [h]
  exact (keepsP_pre _ _).length_le
theorem uvariable_any (nm : ByteArray) (w : World) : Calls Tryz.prog 167 #[.string nm] w fun e w' => e = .returned (.agg #[.string nm, .bool true, .slice none 0 0]) ∧ Below w.heap.size w w' := by
  go_enter Tryz.func167, Tryz.ntmps167
  go_wp2_with fail
  exact bodyPost_ret (v := .agg #[.string nm, .bool true, .slice none 0 0]) (by simp [results, Tryz.f167, go_sem]) rfl ⟨rfl, by go_grown⟩
/-- variables one after the other, as they lie -/
def vch (ks : List Key) : List (Tm × Value) := ks.map fun k => (vrk k, .slice none 0 0)
theorem vch_snoc (ks : List Key) (k : Key) : stCells (vch (ks ++ [k])) = stCells (vch ks) ++ [.string (kb k), .bool true, .slice none 0 0] := by simp [vch, stCells, vrk, Tm.nm, Tm.vr]
theorem vch_len (ks : List Key) : (vch ks).length = ks.length := by simp [vch]
theorem vch_map (ks : List Key) : (vch ks).map (·.1) = ks.map vrk := by simp [vch, Function.comp_def]
theorem vch_kids {q : Nat → Prop} {W : World} (ks : List Key) : ∀ c ∈ vch ks, SlP q W c.1.ts c.2 := by
  intro c hc
  obtain ⟨k, _, rfl⟩ := List.mem_map.1 hc
  exact .nil0
theorem ownsRow_kpc {A B : World} {n m j size : Nat} {e : TypeId} {v : Value} {xs : List Value} (h : A.ownsRow m e size v j xs) (hk : KpC n A B) : B.ownsRow m e size v j xs := by
  refine ⟨h.1, ?_⟩
  rcases h.2 with h0 | ⟨g, cap, cur, hv, hb, hg, hr⟩
  · exact .inl h0
  · exact .inr ⟨g, cap, cur, hv, hb, hk.cells _ _ _ _ hg, hr⟩
/-- k arguments being kept -/
structure KeSt (GW : World → Prop) (sb m1 m2 : Nat) (p : Nat → Prop) (n₀ : Nat) (w : World) (nm : ByteArray) (S : Sv) (l : List Tm) (k : Nat) (W : World) (v : Value) : Prop where
  sv : SvIs GW sb m1 m2 (fun b => (b < w.heap.size → p b) ∧ b ≠ w.heap.size + 1 ∧ some b ≠ v.ownBlock) (keepsP (l.take k) S).1 W
  row : W.ownsRow (w.heap.size + 2) 25 3 v k (stCells (vch (keepsP (l.take k) S).2))
  kp : KpC n₀ w W
  out : W.heap[w.heap.size + 1]? = some (.cells #[.string nm, .bool false, v] 25 (0, 0))
theorem KeSt.step {N : Nat} {GW : World → Prop} (hG : ItoaOk N GW) {sb m1 m2 : Nat} {p : Nat → Prop} {n₀ : Nat} {w W A W4 B W5 : World} {nm : ByteArray} {S : Sv} {l : List Tm} {k : Nat} {v v5 : Value} {u : Tm}
    (st : KeSt GW sb m1 m2 p n₀ w nm S l k W v) (hgw : GW w) (hn : n₀ ≤ w.heap.size) (hsb : sb < w.heap.size) (hm1 : m1 < w.heap.size) (hm2 : m2 < w.heap.size) (hu : l[k]? = some u) (hA : Below W.heap.size W A)
    (h4 : SvIs GW sb m1 m2 (fun b => b < A.heap.size → (b < w.heap.size → p b) ∧ b ≠ w.heap.size + 1 ∧ some b ≠ v.ownBlock) (keepP u (keepsP (l.take k) S).1).1 W4) (hk4 : KpC n₀ A W4) (hB : Below W4.heap.size W4 B) (h5 : B.grownBy W5 v.ownBlock)
    (ho : W5.ownsRow (w.heap.size + 2) 25 3 v5 (k + 1) (stCells (vch (keepsP (l.take k) S).2) ++ [.string (kb (keepP u (keepsP (l.take k) S).1).2), .bool true, .slice none 0 0])) (hat : v5.ownBlock = v.ownBlock ∨ v5.ownBlock = some B.heap.size) :
    KeSt GW sb m1 m2 p n₀ w nm S l (k + 1) (W5.setCell ⟨w.heap.size + 1, 2, none⟩ v5) v5 := by
  have zA := hA.size
  have z4 := hk4.size
  have zB := hB.size
  have z5 := h5.size
  have zo := (Array.getElem?_eq_some_iff.1 st.out).1
  have zs : (W5.setCell ⟨w.heap.size + 1, 2, none⟩ v5).heap.size = W5.heap.size := by simp [World.setCell]
  have own : ∀ j, v.ownBlock = some j → w.heap.size + 2 ≤ j ∧ j < W.heap.size := fun j hj => st.row.lt j hj
  have late : ∀ b, b < W4.heap.size → b ≠ w.heap.size + 1 → some b ≠ v.ownBlock → (W5.setCell ⟨w.heap.size + 1, 2, none⟩ v5).heap[b]? = W4.heap[b]? := fun b hb h1 h2 => by
    rw [Below.heap_setCell _ _ _ _ h1]
    exact (h5.block b (by omega) h2).trans (hB.block b hb)
  have kp4 : KpC n₀ w W4 := (st.kp.trans (KpC.of_below hA (Nat.le_trans hn st.kp.size))).trans hk4
  have notown : ∀ b, b < w.heap.size → some b ≠ v.ownBlock := fun b hb e => by have := (own b e.symm).1; omega
  have z40 := kp4.size
  have hkp : KpC n₀ w (W5.setCell ⟨w.heap.size + 1, 2, none⟩ v5) :=
    ⟨⟨h5.os.trans (hB.os.trans kp4.low.os), h5.tape.trans (hB.tape.trans kp4.low.tape), h5.output.trans (hB.output.trans kp4.low.output), by rw [zs]; omega, fun b hb => (late b (by omega) (by omega) (notown b (by omega))).trans (kp4.low.block b hb)⟩,
      fun b c t f hb => by
        have hlt := (Array.getElem?_eq_some_iff.1 hb).1
        exact (late b (by omega) (by omega) (notown b hlt)).trans (kp4.cells b c t f hb)⟩
  have hks : keepsP (l.take (k + 1)) S = ((keepP u (keepsP (l.take k) S).1).1, (keepsP (l.take k) S).2 ++ [(keepP u (keepsP (l.take k) S).1).2]) := by rw [Tm.take_snoc hu, keepsP_snoc]
  refine ⟨?_, ?_, hkp, ?_⟩
  · rw [hks]
    refine h4.carry (hG.keep _ _ hgw (hkp.mono (Nat.zero_le _))) (late sb (by omega) (by omega) (notown sb hsb)) (late m1 (by omega) (by omega) (notown m1 hm1)) (late m2 (by omega) (by omega) (notown m2 hm2)) fun b hb hlt => ?_
    by_cases hbA : b < A.heap.size
    · obtain ⟨q1, q2, q3⟩ := hb hbA
      refine ⟨late b hlt q2 q3, q1, q2, ?_⟩
      rcases hat with e | e
      · rw [e]; exact q3
      · rw [e]; intro h; cases h; omega
    · have q2 : b ≠ w.heap.size + 1 := by omega
      have q3 : some b ≠ v.ownBlock := fun e => by have := (own b e.symm).2; omega
      refine ⟨late b hlt q2 q3, fun h => by omega, q2, ?_⟩
      rcases hat with e | e
      · rw [e]; exact q3
      · rw [e]; intro h; cases h; omega
  · rw [hks, vch_snoc]
    have hlt : (⟨w.heap.size + 1, 2, none⟩ : Addr).block < w.heap.size + 2 := Nat.lt_succ_self _
    exact ownsRow_setCell_below ho hlt _
  · have hout4 : W4.heap[w.heap.size + 1]? = some (.cells #[.string nm, .bool false, v] 25 (0, 0)) := hk4.cells _ _ _ _ ((hA.block _ zo).trans st.out)
    have hout5 : W5.heap[w.heap.size + 1]? = some (.cells #[.string nm, .bool false, v] 25 (0, 0)) := (h5.block _ (by omega) (fun e => by have := (own _ e.symm).1; omega)).trans ((hB.block _ (by omega)).trans hout4)
    have := set1 hout5 2 v5
    simpa using this
theorem hname_cat (n : Nat) : ({ data := #[35] } : ByteArray) ++ digN n = kb (hname n) := by
  apply bytes_ext
  rw [show ({ data := #[35] } ++ digN n : ByteArray).data.toList = [35] ++ (digN n).data.toList from by rw [ByteArray.data_append, Array.toList_append]]
  rfl

set_option maxRecDepth 100000 in
set_option maxHeartbeats 4000000 in
theorem keep_var {N : Nat} {GW : World → Prop} (HG : Hid (ItoaOk N GW)) (sb m1 m2 n₀ : Nat) (t : Tm) (p : Nat → Prop) (S : Sv) (s : Value) (w : World) (hS : SvIs GW sb m1 m2 p S w) (hn : n₀ ≤ w.heap.size) (hn2 : n₀ ≤ m2) (hs : SlIs w.heap.size w t.ts s) (hkn : t.kn S) (hl : S.eq.length ≤ 1048576) (hv : t.vr = true) :
    Calls Tryz.prog 141 #[.pointer (some ⟨sb, 0, none⟩), tmv t s] w fun e w' => e = .returned (.string (kb (keepP t S).2)) ∧ SvIs GW sb m1 m2 (fun b => b < w.heap.size → p b) (keepP t S).1 w' ∧ KpC n₀ w w' := by
  obtain ⟨oa, ca, rfl, -⟩ := hs.form
  have hA : Below w.heap.size w (w.alloc (.cells #[.string t.nm, .bool true, .slice oa t.ts.length ca] 25)) := by go_grown
  have hl1 := last_any HG sb m1 m2 p S t.nm.data.toList _ (hS.below HG.out hA) (by have := (hkn.var hv).1; omega) hl
  rw [kb_key] at hl1
  have HL := Lib.hid hl1
  have HA := Lib.hid hA
  have HK := Lib.hid (keepP_var hv S)
  have HS := Lib.hid hS
  clear hl1 hA hS hkn
  go_enter Tryz.func141, Tryz.ntmps141
  rw [show tmv t (.slice oa t.ts.length ca) = .agg #[.string t.nm, .bool t.vr, .slice oa t.ts.length ca] from rfl, hv]
  go_wp2_with fail
  refine HL.out.mono ?_
  rintro e w1 ⟨rfl, h1, hf1⟩
  have H1 := Lib.hid h1
  have HF1 := Lib.hid hf1
  clear h1 hf1
  go_wp2_with fail
  go_ret
  rw [HK.out]
  refine ⟨rfl, H1.out.weak fun b hb _ _ => hb, KpC.trans (KpC.of_below HA.out hn) (HF1.out.kpc (by simp; omega) fun k e => ⟨by omega, ?_⟩)⟩
  subst e
  exact (HS.out.below HG.out HA.out).m2map

set_option maxRecDepth 100000 in
set_option maxHeartbeats 8000000 in
theorem keep_any {N : Nat} {GW : World → Prop} (HG : Hid (ItoaOk N GW)) (sb m1 m2 n₀ : Nat) (hn1 : n₀ ≤ m1) (hn2 : n₀ ≤ m2) (t : Tm) : ∀ (p : Nat → Prop) (S : Sv) (s : Value) (w : World), SvIs GW sb m1 m2 p S w → n₀ ≤ w.heap.size → SlIs w.heap.size w t.ts s → t.kn S → t.bulk ≤ 1048576 → (keepP t S).1.bd.length ≤ N → S.eq.length ≤ 1048576 →
    Calls Tryz.prog 141 #[.pointer (some ⟨sb, 0, none⟩), tmv t s] w fun e w' => e = .returned (.string (kb (keepP t S).2)) ∧ SvIs GW sb m1 m2 (fun b => b < w.heap.size → p b) (keepP t S).1 w' ∧ KpC n₀ w w' := by
  induction t using Tm.ind with
  | h t ih =>
    intro p S s w hS hn hs hkn hb hN hl
    by_cases hv : t.vr = true
    · exact keep_var HG sb m1 m2 n₀ t p S s w hS hn hn2 hs hkn hl hv
    · have hv : t.vr = false := by simpa using hv
      obtain ⟨oa, ca, rfl, -⟩ := hs.form
      obtain ⟨i0, hi, hz, hs1, hb1⟩ := info_parts infoTerm
      have HI := Lib.hid hi
      have HZ := Lib.hid hz
      have HS1 := Lib.hid hs1
      have HB1 := Lib.hid hb1
      have HKP := Lib.hid (keepP_fun hv S)
      have hNN := HG.out.le
      have hNs : (keepsP t.ts S).1.bd.length + 1 ≤ N := by rw [keepP_fun hv] at hN; simpa using hN
      have htl : t.ts.length ≤ 1048576 := by have := Tm.length_sizes t.ts; have := Tm.size_bulk t; have := Tm.size_eq t; omega
      have IH := Lib.hid ih
      have HSL := Lib.hid hs
      have HBK := Lib.hid hb
      have HSV := Lib.hid hS
      have HKN := Lib.hid hkn
      have hsb := hS.sblt
      have hm1 := hS.bnd.lt
      have hm2 := hS.m2lt
      clear ih hs hb hi hz hs1 hb1 hS hkn hN
      go_enter Tryz.func141, Tryz.ntmps141
      rw [show tmv t (.slice oa t.ts.length ca) = .agg #[.string t.nm, .bool t.vr, .slice oa t.ts.length ca] from rfl, hv]
      go_wp2_with fail
      have hb0 : Below w.heap.size w ((w.alloc (.cells #[.string t.nm, .bool false, .slice oa t.ts.length ca] 25)).alloc (.cells #[.string t.nm, .bool false, .slice none 0 0] 25)) := by go_grown
      have HST0 : Hid (KeSt GW sb m1 m2 p n₀ w t.nm S t.ts 0 ((w.alloc (.cells #[.string t.nm, .bool false, .slice oa t.ts.length ca] 25)).alloc (.cells #[.string t.nm, .bool false, .slice none 0 0] 25)) (.slice none 0 0)) :=
        Lib.hid ⟨HSV.out.carry (HG.out.keep _ _ HSV.out.gw (KpC.of_below hb0 (Nat.zero_le _))) (hb0.block sb hsb) (hb0.block m1 hm1) (hb0.block m2 hm2) (fun b hb hl => ⟨hb0.block b hl, fun _ => hb, by omega, by simp [Value.ownBlock]⟩), World.ownsRow_nil _ _ _ _, KpC.of_below hb0 hn, heap_new_at _ _ _ (by simp)⟩
      clear hb0
      go_loopw [21] (fun i wr => ∃ (k : Nat) (v : Value), k ≤ t.ts.length ∧ i = .int .i64 k ∧ Hid (KeSt GW sb m1 m2 p n₀ w t.nm S t.ts k wr v)) (fun i _ => t.ts.length - (intOf i).toNat)
      case atStart => exact ⟨0, _, by omega, rfl, HST0⟩
      case round =>
        obtain ⟨k, v, hk, rfl, HST⟩ := hrel
        have hst := HST.out
        have hzo := (Array.getElem?_eq_some_iff.1 hst.out).1
        have hkl : (keepsP (t.ts.take k) S).2.length = k := by rw [keepsP_len, List.length_take]; omega
        have HVL : Hid ((vch (keepsP (t.ts.take k) S).2).length = k) := Lib.hid (by rw [vch_len, hkl])
        clear hkl
        by_cases hlt : k < t.ts.length
        · have hz := hst.kp.size
          obtain ⟨b, o, u, su, rfl, hbb, hu, hum, hus, c1, c2, c3⟩ := (HSL.out.kp hst.kp hz).get (k := k) hlt
          obtain ⟨ou, cu, rfl, -⟩ := hus.form
          obtain ⟨ov, cv, rfl⟩ := ownsRow_shape hst.row
          have HLOWA : Hid (Below wr.heap.size wr (wr.alloc (.cells #[.string u.nm, .bool u.vr, .slice ou u.ts.length cu] 25)).drew) := Lib.hid (by go_grown)
          have hub : u.bulk ≤ 1048576 := by have := Tm.bulk_mem hum; have := Tm.bulk_eq t; have := HBK.out; omega
          have hout := (Below.heap_alloc wr (.cells #[.string u.nm, .bool u.vr, .slice ou u.ts.length cu] 25) (w.heap.size + 1) (by omega)).trans hst.out
          obtain ⟨⟨x0, x1, x2⟩, f0, f1, f2⟩ := box3 hout
          have hown : ∀ j, (Value.slice ov k cv).ownBlock = some j → w.heap.size + 2 ≤ j ∧ j < wr.heap.size := fun j hj => hst.row.lt j hj
          have HOWN := Lib.hid hown
          have HOUT := Lib.hid hout
          have HU := Lib.hid hu
          have hsv := hst.sv
          have hks : keepsP (t.ts.take (k + 1)) S = ((keepP u (keepsP (t.ts.take k) S).1).1, (keepsP (t.ts.take k) S).2 ++ [(keepP u (keepsP (t.ts.take k) S).1).2]) := by rw [Tm.take_snoc hu, keepsP_snoc]
          have hbd : (keepP u (keepsP (t.ts.take k) S).1).1.bd.length ≤ N := by have := keepsP_take t.ts (k + 1) S; rw [hks] at this; simp only at this; omega
          have hkn1 : u.kn (keepsP (t.ts.take k) S).1 := (HKN.out.kids u hum).mono (keepsP_pre _ _).length_le
          have heq1 : (keepsP (t.ts.take k) S).1.eq.length ≤ 1048576 := by rw [keepsP_eq]; exact hl
          have IHu := fun W1 (hW : Below wr.heap.size wr W1) => Lib.hid (IH.out u hum _ _ (.slice ou u.ts.length cu) W1 (hsv.below HG.out hW) (Nat.le_trans hn (Nat.le_trans hz hW.size)) (hus.carry hW hW.size) hkn1 hub hbd heq1)
          have HROW := Lib.hid hst.row
          clear hst hu hus hown hout hsv hks hbd hkn1 heq1
          go_wp2_with fail
          have hxA := (box3 HOUT.out).1.2.2
          have HYA := Lib.hid (box3 (heap_new_at wr (.cells #[.string u.nm, .bool u.vr, .slice ou u.ts.length cu] 25) _ rfl)).1
          refine wp_region_noPanic ?_
          refine wp_region_held_drew (S := fun w' => w'.cell? ⟨wr.heap.size, 0, none⟩ = some (.string u.nm) ∧ w'.cell? ⟨wr.heap.size, 1, none⟩ = some (.bool u.vr) ∧ w'.cell? ⟨wr.heap.size, 2, none⟩ = some (.slice ou u.ts.length cu)) (by kernel_rfl) HYA.out (fun _ => ?_)
          simp only [List.size_toArray, List.length_cons, List.length_nil, Nat.reduceAdd]
          refine wpAnyH_take (i := 0) (v := ?_) (by simp only [List.getElem?_toArray, List.getElem?_cons_zero]; rfl) (by kernel_rfl) (by kernel_rfl) (by kernel_rfl) (fun _ _ _ h => h) (Or.inl ⟨by rfl, ?_⟩) HYA.out ?_
          case refine_2 => (intro ww hSw; obtain ⟨s1, s2, s3⟩ := hSw; go_simp; try with_reducible rfl)
          try simp only [Act.put, List.setIfInBounds_toArray, List.set_cons_zero, List.set_cons_succ]
          refine wpAnyH_take (i := 2) (v := ?_) (by simp only [List.getElem?_toArray, List.getElem?_cons_zero, List.getElem?_cons_succ]; rfl) (by kernel_rfl) (by kernel_rfl) (by kernel_rfl) (fun _ _ _ h => h) (Or.inl ⟨by rfl, ?_⟩) HYA.out ?_
          case refine_2 => (intro ww hSw; obtain ⟨s1, s2, s3⟩ := hSw; go_simp; try with_reducible rfl)
          try simp only [Act.put, List.setIfInBounds_toArray, List.set_cons_zero, List.set_cons_succ]
          refine wpAnyH_take (i := 3) (v := ?_) (by simp only [List.getElem?_toArray, List.getElem?_cons_zero, List.getElem?_cons_succ]; rfl) (by kernel_rfl) (by kernel_rfl) (by kernel_rfl) (fun _ _ _ h => h) (Or.inl ⟨by rfl, ?_⟩) HYA.out ?_
          case refine_2 => (intro ww hSw; obtain ⟨s1, s2, s3⟩ := hSw; go_simp; try with_reducible rfl)
          try simp only [Act.put, List.setIfInBounds_toArray, List.set_cons_zero, List.set_cons_succ]
          refine wpAnyH_ready (rs := [1, 4]) (by kernel_rfl) (by simp) ?_
          refine AllReadyH.cons (by simp only [List.getElem?_toArray, List.getElem?_cons_zero, List.getElem?_cons_succ]; rfl) (fun K' hK => ?_) ?_
          · go_simp
            refine hK.out _ _ HYA.out (fun _ => ?_)
            clear hK
            try simp only [Act.put, List.setIfInBounds_toArray, List.set_cons_zero, List.set_cons_succ]
            refine wpAnyH_ready (rs := [4]) (by kernel_rfl) (by simp) ?_
            refine AllReadyH.cons (by simp only [List.getElem?_toArray, List.getElem?_cons_zero, List.getElem?_cons_succ]; rfl) (fun K' hK => ?_) AllReadyH.nil
            go_simp
            refine (IHu _ HLOWA.out).out.mono ?_
            rintro e w4 ⟨rfl, hsv4, hk4⟩
            have hout4 := hk4.cells _ _ _ _ HOUT.out
            have hbx4 := hk4.cells _ _ _ _ (heap_new_at wr (.cells #[.string u.nm, .bool u.vr, .slice ou u.ts.length cu] 25) _ rfl)
            obtain ⟨⟨x0, x1, x2⟩, f0, f1, f2⟩ := box3 hout4
            have HY4 := Lib.hid (box3 hbx4).1
            have HSV4 := Lib.hid hsv4
            have HK4 := Lib.hid hk4
            have HOUT4 := Lib.hid hout4
            have HBX4 := Lib.hid hbx4
            have HZ4 := Lib.hid (show wr.heap.size < w4.heap.size from (Array.getElem?_eq_some_iff.1 hbx4).1)
            clear hsv4 hk4 hout4 hbx4
            refine hK.out _ _ HY4.out (fun _ => ?_)
            clear hK
            try simp only [Act.put, List.setIfInBounds_toArray, List.set_cons_zero, List.set_cons_succ]
            refine wpAnyH_ready (rs := [5]) (by kernel_rfl) (by simp) ?_
            refine AllReadyH.cons (by simp only [List.getElem?_toArray, List.getElem?_cons_zero, List.getElem?_cons_succ]; rfl) (fun K' hK => ?_) AllReadyH.nil
            go_simp
            refine (uvariable_any (kb (keepP u (keepsP (t.ts.take k) S).1).2) _).mono ?_
            rintro e wv ⟨rfl, hbv⟩
            have houtv := (hbv.block _ (Array.getElem?_eq_some_iff.1 HOUT4.out).1).trans HOUT4.out
            have hbxv := (hbv.block _ HZ4.out).trans HBX4.out
            obtain ⟨⟨x0, x1, x2⟩, f0, f1, f2⟩ := box3 houtv
            have HYV := Lib.hid (box3 hbxv).1
            have HBV := Lib.hid hbv
            have HOUTV := Lib.hid houtv
            have HBXV := Lib.hid hbxv
            have HZV := Lib.hid (show wr.heap.size < wv.heap.size from (Array.getElem?_eq_some_iff.1 hbxv).1)
            have HZ4V := Lib.hid hbv.size
            clear hbv houtv hbxv
            refine hK.out _ _ HYV.out (fun _ => ?_)
            clear hK
            try simp only [Act.put, List.setIfInBounds_toArray, List.set_cons_zero, List.set_cons_succ]
            refine wpAnyH_ready (rs := [6]) (by kernel_rfl) (by simp) ?_
            refine AllReadyH.cons (by simp only [List.getElem?_toArray, List.getElem?_cons_zero, List.getElem?_cons_succ]; rfl) (fun K' hK => ?_) AllReadyH.nil
            go_simp
            have hy5 := (box3 ((Below.heap_alloc wv (.cells #[.string (kb (keepP u (keepsP (t.ts.take k) S).1).2), .bool true, .slice none 0 0] 25) _ HZV.out).trans HBXV.out)).1
            have hx5 := (box3 ((Below.heap_alloc wv (.cells #[.string (kb (keepP u (keepsP (t.ts.take k) S).1).2), .bool true, .slice none 0 0] 25) (w.heap.size + 1) (Array.getElem?_eq_some_iff.1 HOUTV.out).1).trans HOUTV.out)).1.2.2
            have HY5 := Lib.hid hy5
            clear hy5
            refine hK.out _ _ HY5.out (fun _ => ?_)
            clear hK
            try simp only [Act.put, List.setIfInBounds_toArray, List.set_cons_zero, List.set_cons_succ]
            refine wpAnyH_ready (rs := [7]) (by kernel_rfl) (by simp) ?_
            refine AllReadyH.cons (by simp only [List.getElem?_toArray, List.getElem?_cons_zero, List.getElem?_cons_succ]; rfl) (fun K' hK => ?_) AllReadyH.nil
            refine step_append_opt rfl (.tmp 26) (.tmp 31) 23 rfl (w.heap.size + 2) 25 i0 (.agg #[.string ⟨#[]⟩, .bool false, .slice none 0 0]) 3 48 Tryz.underlying23 HI.out HZ.out HS1.out HB1.out rfl (by decide) (.slice ov k cv) k (stCells (vch (keepsP (t.ts.take k) S).2)) rfl (((ownsRow_kpc (HROW.out.kept (below_grown HLOWA.out) (own_none _)) HK4.out).kept (below_grown HBV.out) (own_none _)).kept (below_grown ((Below.refl _ _).alloc (Nat.le_refl _) _)) (own_none _)) (some ⟨wv.heap.size, 0, none⟩) 1 1 [.string (kb (keepP u (keepsP (t.ts.take k) S).1).2), .bool true, .slice none 0 0] rfl rfl (fun h => by cases h) (fun ad had => by cases had; exact cells_new3 _ _ _ _ _) (by simp [Value.oneCell']) (by unfold maxLen; omega) (by omega) (by have := HZV.out; simp; omega) ?_
            intro v5 w5 ho5 hg5 hat5
            obtain ⟨o5, c5, rfl⟩ := ownsRow_shape ho5
            have hout5 := (hg5.block (w.heap.size + 1) (by have := (Array.getElem?_eq_some_iff.1 HOUTV.out).1; simp; omega) (fun e => by have := (HOWN.out _ e.symm).1; omega)).trans ((Below.heap_alloc _ _ _ (Array.getElem?_eq_some_iff.1 HOUTV.out).1).trans HOUTV.out)
            have hbx5 := (hg5.block wr.heap.size (by have := HZV.out; simp; omega) (fun e => by have := (HOWN.out _ e.symm).2; omega)).trans ((Below.heap_alloc _ _ _ HZV.out).trans HBXV.out)
            obtain ⟨⟨x0, x1, x2⟩, f0, f1, f2⟩ := box3 hout5
            have HBX5 := Lib.hid hbx5
            have HY6 := Lib.hid (box3 hbx5).1
            have HST5 := Lib.hid (HST.out.step HG.out HSV.out.gw hn hsb hm1 hm2 HU.out HLOWA.out HSV4.out HK4.out (HBV.out.trans ((Below.refl _ wv).alloc HZ4V.out _)) hg5 ho5 hat5)
            clear ho5 hg5 hat5 hout5 hbx5
            refine hK.out _ _ HY6.out (fun _ => ?_)
            clear hK
            try simp only [Act.put, List.setIfInBounds_toArray, List.set_cons_zero, List.set_cons_succ]
            refine wpAnyH_take (i := 8) (v := ?_) (by simp only [List.getElem?_toArray, List.getElem?_cons_zero, List.getElem?_cons_succ]; rfl) (by kernel_rfl) (by kernel_rfl) (by kernel_rfl) (fun _ _ _ h => h) (Or.inl ⟨by rfl, ?_⟩) HY6.out ?_
            case refine_2 => (intro ww hSw; obtain ⟨s1, s2, s3⟩ := hSw; go_simp; try with_reducible rfl)
            try simp only [Act.put, List.setIfInBounds_toArray, List.set_cons_zero, List.set_cons_succ]
            refine wpAnyH_ready (rs := [9]) (by kernel_rfl) (by simp) ?_
            refine AllReadyH.cons (by simp only [List.getElem?_toArray, List.getElem?_cons_zero, List.getElem?_cons_succ]; rfl) (fun K' hK => ?_) AllReadyH.nil
            go_simp
            have HY7 := Lib.hid (box3 ((Below.heap_setCell w5 ⟨w.heap.size + 1, 2, none⟩ (.slice o5 (k + 1) c5) wr.heap.size (by show wr.heap.size ≠ w.heap.size + 1; omega)).trans HBX5.out)).1
            refine hK.out _ _ HY7.out (fun _ => ?_)
            clear hK
            try simp only [Act.put, List.setIfInBounds_toArray, List.set_cons_zero, List.set_cons_succ]
            refine wpAnyH_done (by kernel_rfl) ?_ _
            refine NoPanic.normal ?_
            go_wp2_with fail
            exact ⟨⟨k + 1, _, by omega, by go_num, HST5⟩, by simp [intOf]; omega⟩
          · refine AllReadyH.cons (by simp only [List.getElem?_toArray, List.getElem?_cons_zero, List.getElem?_cons_succ]; rfl) (fun K' hK => ?_) AllReadyH.nil
            go_simp
            refine (IHu _ HLOWA.out).out.mono ?_
            rintro e w4 ⟨rfl, hsv4, hk4⟩
            have hout4 := hk4.cells _ _ _ _ HOUT.out
            have hbx4 := hk4.cells _ _ _ _ (heap_new_at wr (.cells #[.string u.nm, .bool u.vr, .slice ou u.ts.length cu] 25) _ rfl)
            obtain ⟨⟨x0, x1, x2⟩, f0, f1, f2⟩ := box3 hout4
            have HY4 := Lib.hid (box3 hbx4).1
            have HSV4 := Lib.hid hsv4
            have HK4 := Lib.hid hk4
            have HOUT4 := Lib.hid hout4
            have HBX4 := Lib.hid hbx4
            have HZ4 := Lib.hid (show wr.heap.size < w4.heap.size from (Array.getElem?_eq_some_iff.1 hbx4).1)
            clear hsv4 hk4 hout4 hbx4
            refine hK.out _ _ HY4.out (fun _ => ?_)
            clear hK
            try simp only [Act.put, List.setIfInBounds_toArray, List.set_cons_zero, List.set_cons_succ]
            refine wpAnyH_ready (rs := [1, 5]) (by kernel_rfl) (by simp) ?_
            refine AllReadyH.cons (by simp only [List.getElem?_toArray, List.getElem?_cons_zero, List.getElem?_cons_succ]; rfl) (fun K' hK => ?_) ?_
            · go_simp
              refine hK.out _ _ HY4.out (fun _ => ?_)
              clear hK
              try simp only [Act.put, List.setIfInBounds_toArray, List.set_cons_zero, List.set_cons_succ]
              refine wpAnyH_ready (rs := [5]) (by kernel_rfl) (by simp) ?_
              refine AllReadyH.cons (by simp only [List.getElem?_toArray, List.getElem?_cons_zero, List.getElem?_cons_succ]; rfl) (fun K' hK => ?_) AllReadyH.nil
              go_simp
              refine (uvariable_any (kb (keepP u (keepsP (t.ts.take k) S).1).2) _).mono ?_
              rintro e wv ⟨rfl, hbv⟩
              have houtv := (hbv.block _ (Array.getElem?_eq_some_iff.1 HOUT4.out).1).trans HOUT4.out
              have hbxv := (hbv.block _ HZ4.out).trans HBX4.out
              obtain ⟨⟨x0, x1, x2⟩, f0, f1, f2⟩ := box3 houtv
              have HYV := Lib.hid (box3 hbxv).1
              have HBV := Lib.hid hbv
              have HOUTV := Lib.hid houtv
              have HBXV := Lib.hid hbxv
              have HZV := Lib.hid (show wr.heap.size < wv.heap.size from (Array.getElem?_eq_some_iff.1 hbxv).1)
              have HZ4V := Lib.hid hbv.size
              clear hbv houtv hbxv
              refine hK.out _ _ HYV.out (fun _ => ?_)
              clear hK
              try simp only [Act.put, List.setIfInBounds_toArray, List.set_cons_zero, List.set_cons_succ]
              refine wpAnyH_ready (rs := [6]) (by kernel_rfl) (by simp) ?_
              refine AllReadyH.cons (by simp only [List.getElem?_toArray, List.getElem?_cons_zero, List.getElem?_cons_succ]; rfl) (fun K' hK => ?_) AllReadyH.nil
              go_simp
              have hy5 := (box3 ((Below.heap_alloc wv (.cells #[.string (kb (keepP u (keepsP (t.ts.take k) S).1).2), .bool true, .slice none 0 0] 25) _ HZV.out).trans HBXV.out)).1
              have hx5 := (box3 ((Below.heap_alloc wv (.cells #[.string (kb (keepP u (keepsP (t.ts.take k) S).1).2), .bool true, .slice none 0 0] 25) (w.heap.size + 1) (Array.getElem?_eq_some_iff.1 HOUTV.out).1).trans HOUTV.out)).1.2.2
              have HY5 := Lib.hid hy5
              clear hy5
              refine hK.out _ _ HY5.out (fun _ => ?_)
              clear hK
              try simp only [Act.put, List.setIfInBounds_toArray, List.set_cons_zero, List.set_cons_succ]
              refine wpAnyH_ready (rs := [7]) (by kernel_rfl) (by simp) ?_
              refine AllReadyH.cons (by simp only [List.getElem?_toArray, List.getElem?_cons_zero, List.getElem?_cons_succ]; rfl) (fun K' hK => ?_) AllReadyH.nil
              refine step_append_opt rfl (.tmp 26) (.tmp 31) 23 rfl (w.heap.size + 2) 25 i0 (.agg #[.string ⟨#[]⟩, .bool false, .slice none 0 0]) 3 48 Tryz.underlying23 HI.out HZ.out HS1.out HB1.out rfl (by decide) (.slice ov k cv) k (stCells (vch (keepsP (t.ts.take k) S).2)) rfl (((ownsRow_kpc (HROW.out.kept (below_grown HLOWA.out) (own_none _)) HK4.out).kept (below_grown HBV.out) (own_none _)).kept (below_grown ((Below.refl _ _).alloc (Nat.le_refl _) _)) (own_none _)) (some ⟨wv.heap.size, 0, none⟩) 1 1 [.string (kb (keepP u (keepsP (t.ts.take k) S).1).2), .bool true, .slice none 0 0] rfl rfl (fun h => by cases h) (fun ad had => by cases had; exact cells_new3 _ _ _ _ _) (by simp [Value.oneCell']) (by unfold maxLen; omega) (by omega) (by have := HZV.out; simp; omega) ?_
              intro v5 w5 ho5 hg5 hat5
              obtain ⟨o5, c5, rfl⟩ := ownsRow_shape ho5
              have hout5 := (hg5.block (w.heap.size + 1) (by have := (Array.getElem?_eq_some_iff.1 HOUTV.out).1; simp; omega) (fun e => by have := (HOWN.out _ e.symm).1; omega)).trans ((Below.heap_alloc _ _ _ (Array.getElem?_eq_some_iff.1 HOUTV.out).1).trans HOUTV.out)
              have hbx5 := (hg5.block wr.heap.size (by have := HZV.out; simp; omega) (fun e => by have := (HOWN.out _ e.symm).2; omega)).trans ((Below.heap_alloc _ _ _ HZV.out).trans HBXV.out)
              obtain ⟨⟨x0, x1, x2⟩, f0, f1, f2⟩ := box3 hout5
              have HBX5 := Lib.hid hbx5
              have HY6 := Lib.hid (box3 hbx5).1
              have HST5 := Lib.hid (HST.out.step HG.out HSV.out.gw hn hsb hm1 hm2 HU.out HLOWA.out HSV4.out HK4.out (HBV.out.trans ((Below.refl _ wv).alloc HZ4V.out _)) hg5 ho5 hat5)
              clear ho5 hg5 hat5 hout5 hbx5
              refine hK.out _ _ HY6.out (fun _ => ?_)
              clear hK
              try simp only [Act.put, List.setIfInBounds_toArray, List.set_cons_zero, List.set_cons_succ]
              refine wpAnyH_take (i := 8) (v := ?_) (by simp only [List.getElem?_toArray, List.getElem?_cons_zero, List.getElem?_cons_succ]; rfl) (by kernel_rfl) (by kernel_rfl) (by kernel_rfl) (fun _ _ _ h => h) (Or.inl ⟨by rfl, ?_⟩) HY6.out ?_
              case refine_2 => (intro ww hSw; obtain ⟨s1, s2, s3⟩ := hSw; go_simp; try with_reducible rfl)
              try simp only [Act.put, List.setIfInBounds_toArray, List.set_cons_zero, List.set_cons_succ]
              refine wpAnyH_ready (rs := [9]) (by kernel_rfl) (by simp) ?_
              refine AllReadyH.cons (by simp only [List.getElem?_toArray, List.getElem?_cons_zero, List.getElem?_cons_succ]; rfl) (fun K' hK => ?_) AllReadyH.nil
              go_simp
              have HY7 := Lib.hid (box3 ((Below.heap_setCell w5 ⟨w.heap.size + 1, 2, none⟩ (.slice o5 (k + 1) c5) wr.heap.size (by show wr.heap.size ≠ w.heap.size + 1; omega)).trans HBX5.out)).1
              refine hK.out _ _ HY7.out (fun _ => ?_)
              clear hK
              try simp only [Act.put, List.setIfInBounds_toArray, List.set_cons_zero, List.set_cons_succ]
              refine wpAnyH_done (by kernel_rfl) ?_ _
              refine NoPanic.normal ?_
              go_wp2_with fail
              exact ⟨⟨k + 1, _, by omega, by go_num, HST5⟩, by simp [intOf]; omega⟩
            · refine AllReadyH.cons (by simp only [List.getElem?_toArray, List.getElem?_cons_zero, List.getElem?_cons_succ]; rfl) (fun K' hK => ?_) AllReadyH.nil
              go_simp
              refine (uvariable_any (kb (keepP u (keepsP (t.ts.take k) S).1).2) _).mono ?_
              rintro e wv ⟨rfl, hbv⟩
              have houtv := (hbv.block _ (Array.getElem?_eq_some_iff.1 HOUT4.out).1).trans HOUT4.out
              have hbxv := (hbv.block _ HZ4.out).trans HBX4.out
              obtain ⟨⟨x0, x1, x2⟩, f0, f1, f2⟩ := box3 houtv
              have HYV := Lib.hid (box3 hbxv).1
              have HBV := Lib.hid hbv
              have HOUTV := Lib.hid houtv
              have HBXV := Lib.hid hbxv
              have HZV := Lib.hid (show wr.heap.size < wv.heap.size from (Array.getElem?_eq_some_iff.1 hbxv).1)
              have HZ4V := Lib.hid hbv.size
              clear hbv houtv hbxv
              refine hK.out _ _ HYV.out (fun _ => ?_)
              clear hK
              try simp only [Act.put, List.setIfInBounds_toArray, List.set_cons_zero, List.set_cons_succ]
              refine wpAnyH_ready (rs := [1, 6]) (by kernel_rfl) (by simp) ?_
              refine AllReadyH.cons (by simp only [List.getElem?_toArray, List.getElem?_cons_zero, List.getElem?_cons_succ]; rfl) (fun K' hK => ?_) ?_
              · go_simp
                refine hK.out _ _ HYV.out (fun _ => ?_)
                clear hK
                try simp only [Act.put, List.setIfInBounds_toArray, List.set_cons_zero, List.set_cons_succ]
                refine wpAnyH_ready (rs := [6]) (by kernel_rfl) (by simp) ?_
                refine AllReadyH.cons (by simp only [List.getElem?_toArray, List.getElem?_cons_zero, List.getElem?_cons_succ]; rfl) (fun K' hK => ?_) AllReadyH.nil
                go_simp
                have hy5 := (box3 ((Below.heap_alloc wv (.cells #[.string (kb (keepP u (keepsP (t.ts.take k) S).1).2), .bool true, .slice none 0 0] 25) _ HZV.out).trans HBXV.out)).1
                have hx5 := (box3 ((Below.heap_alloc wv (.cells #[.string (kb (keepP u (keepsP (t.ts.take k) S).1).2), .bool true, .slice none 0 0] 25) (w.heap.size + 1) (Array.getElem?_eq_some_iff.1 HOUTV.out).1).trans HOUTV.out)).1.2.2
                have HY5 := Lib.hid hy5
                clear hy5
                refine hK.out _ _ HY5.out (fun _ => ?_)
                clear hK
                try simp only [Act.put, List.setIfInBounds_toArray, List.set_cons_zero, List.set_cons_succ]
                refine wpAnyH_ready (rs := [7]) (by kernel_rfl) (by simp) ?_
                refine AllReadyH.cons (by simp only [List.getElem?_toArray, List.getElem?_cons_zero, List.getElem?_cons_succ]; rfl) (fun K' hK => ?_) AllReadyH.nil
                refine step_append_opt rfl (.tmp 26) (.tmp 31) 23 rfl (w.heap.size + 2) 25 i0 (.agg #[.string ⟨#[]⟩, .bool false, .slice none 0 0]) 3 48 Tryz.underlying23 HI.out HZ.out HS1.out HB1.out rfl (by decide) (.slice ov k cv) k (stCells (vch (keepsP (t.ts.take k) S).2)) rfl (((ownsRow_kpc (HROW.out.kept (below_grown HLOWA.out) (own_none _)) HK4.out).kept (below_grown HBV.out) (own_none _)).kept (below_grown ((Below.refl _ _).alloc (Nat.le_refl _) _)) (own_none _)) (some ⟨wv.heap.size, 0, none⟩) 1 1 [.string (kb (keepP u (keepsP (t.ts.take k) S).1).2), .bool true, .slice none 0 0] rfl rfl (fun h => by cases h) (fun ad had => by cases had; exact cells_new3 _ _ _ _ _) (by simp [Value.oneCell']) (by unfold maxLen; omega) (by omega) (by have := HZV.out; simp; omega) ?_
                intro v5 w5 ho5 hg5 hat5
                obtain ⟨o5, c5, rfl⟩ := ownsRow_shape ho5
                have hout5 := (hg5.block (w.heap.size + 1) (by have := (Array.getElem?_eq_some_iff.1 HOUTV.out).1; simp; omega) (fun e => by have := (HOWN.out _ e.symm).1; omega)).trans ((Below.heap_alloc _ _ _ (Array.getElem?_eq_some_iff.1 HOUTV.out).1).trans HOUTV.out)
                have hbx5 := (hg5.block wr.heap.size (by have := HZV.out; simp; omega) (fun e => by have := (HOWN.out _ e.symm).2; omega)).trans ((Below.heap_alloc _ _ _ HZV.out).trans HBXV.out)
                obtain ⟨⟨x0, x1, x2⟩, f0, f1, f2⟩ := box3 hout5
                have HBX5 := Lib.hid hbx5
                have HY6 := Lib.hid (box3 hbx5).1
                have HST5 := Lib.hid (HST.out.step HG.out HSV.out.gw hn hsb hm1 hm2 HU.out HLOWA.out HSV4.out HK4.out (HBV.out.trans ((Below.refl _ wv).alloc HZ4V.out _)) hg5 ho5 hat5)
                clear ho5 hg5 hat5 hout5 hbx5
                refine hK.out _ _ HY6.out (fun _ => ?_)
                clear hK
                try simp only [Act.put, List.setIfInBounds_toArray, List.set_cons_zero, List.set_cons_succ]
                refine wpAnyH_take (i := 8) (v := ?_) (by simp only [List.getElem?_toArray, List.getElem?_cons_zero, List.getElem?_cons_succ]; rfl) (by kernel_rfl) (by kernel_rfl) (by kernel_rfl) (fun _ _ _ h => h) (Or.inl ⟨by rfl, ?_⟩) HY6.out ?_
                case refine_2 => (intro ww hSw; obtain ⟨s1, s2, s3⟩ := hSw; go_simp; try with_reducible rfl)
                try simp only [Act.put, List.setIfInBounds_toArray, List.set_cons_zero, List.set_cons_succ]
                refine wpAnyH_ready (rs := [9]) (by kernel_rfl) (by simp) ?_
                refine AllReadyH.cons (by simp only [List.getElem?_toArray, List.getElem?_cons_zero, List.getElem?_cons_succ]; rfl) (fun K' hK => ?_) AllReadyH.nil
                go_simp
                have HY7 := Lib.hid (box3 ((Below.heap_setCell w5 ⟨w.heap.size + 1, 2, none⟩ (.slice o5 (k + 1) c5) wr.heap.size (by show wr.heap.size ≠ w.heap.size + 1; omega)).trans HBX5.out)).1
                refine hK.out _ _ HY7.out (fun _ => ?_)
                clear hK
                try simp only [Act.put, List.setIfInBounds_toArray, List.set_cons_zero, List.set_cons_succ]
                refine wpAnyH_done (by kernel_rfl) ?_ _
                refine NoPanic.normal ?_
                go_wp2_with fail
                exact ⟨⟨k + 1, _, by omega, by go_num, HST5⟩, by simp [intOf]; omega⟩
              · refine AllReadyH.cons (by simp only [List.getElem?_toArray, List.getElem?_cons_zero, List.getElem?_cons_succ]; rfl) (fun K' hK => ?_) AllReadyH.nil
                go_simp
                have hy5 := (box3 ((Below.heap_alloc wv (.cells #[.string (kb (keepP u (keepsP (t.ts.take k) S).1).2), .bool true, .slice none 0 0] 25) _ HZV.out).trans HBXV.out)).1
                have hx5 := (box3 ((Below.heap_alloc wv (.cells #[.string (kb (keepP u (keepsP (t.ts.take k) S).1).2), .bool true, .slice none 0 0] 25) (w.heap.size + 1) (Array.getElem?_eq_some_iff.1 HOUTV.out).1).trans HOUTV.out)).1.2.2
                have HY5 := Lib.hid hy5
                clear hy5
                refine hK.out _ _ HY5.out (fun _ => ?_)
                clear hK
                try simp only [Act.put, List.setIfInBounds_toArray, List.set_cons_zero, List.set_cons_succ]
                refine wpAnyH_ready (rs := [1]) (by kernel_rfl) (by simp) ?_
                refine AllReadyH.cons (by simp only [List.getElem?_toArray, List.getElem?_cons_zero, List.getElem?_cons_succ]; rfl) (fun K' hK => ?_) AllReadyH.nil
                go_simp
                refine hK.out _ _ HY5.out (fun _ => ?_)
                clear hK
                try simp only [Act.put, List.setIfInBounds_toArray, List.set_cons_zero, List.set_cons_succ]
                refine wpAnyH_ready (rs := [7]) (by kernel_rfl) (by simp) ?_
                refine AllReadyH.cons (by simp only [List.getElem?_toArray, List.getElem?_cons_zero, List.getElem?_cons_succ]; rfl) (fun K' hK => ?_) AllReadyH.nil
                refine step_append_opt rfl (.tmp 26) (.tmp 31) 23 rfl (w.heap.size + 2) 25 i0 (.agg #[.string ⟨#[]⟩, .bool false, .slice none 0 0]) 3 48 Tryz.underlying23 HI.out HZ.out HS1.out HB1.out rfl (by decide) (.slice ov k cv) k (stCells (vch (keepsP (t.ts.take k) S).2)) rfl (((ownsRow_kpc (HROW.out.kept (below_grown HLOWA.out) (own_none _)) HK4.out).kept (below_grown HBV.out) (own_none _)).kept (below_grown ((Below.refl _ _).alloc (Nat.le_refl _) _)) (own_none _)) (some ⟨wv.heap.size, 0, none⟩) 1 1 [.string (kb (keepP u (keepsP (t.ts.take k) S).1).2), .bool true, .slice none 0 0] rfl rfl (fun h => by cases h) (fun ad had => by cases had; exact cells_new3 _ _ _ _ _) (by simp [Value.oneCell']) (by unfold maxLen; omega) (by omega) (by have := HZV.out; simp; omega) ?_
                intro v5 w5 ho5 hg5 hat5
                obtain ⟨o5, c5, rfl⟩ := ownsRow_shape ho5
                have hout5 := (hg5.block (w.heap.size + 1) (by have := (Array.getElem?_eq_some_iff.1 HOUTV.out).1; simp; omega) (fun e => by have := (HOWN.out _ e.symm).1; omega)).trans ((Below.heap_alloc _ _ _ (Array.getElem?_eq_some_iff.1 HOUTV.out).1).trans HOUTV.out)
                have hbx5 := (hg5.block wr.heap.size (by have := HZV.out; simp; omega) (fun e => by have := (HOWN.out _ e.symm).2; omega)).trans ((Below.heap_alloc _ _ _ HZV.out).trans HBXV.out)
                obtain ⟨⟨x0, x1, x2⟩, f0, f1, f2⟩ := box3 hout5
                have HBX5 := Lib.hid hbx5
                have HY6 := Lib.hid (box3 hbx5).1
                have HST5 := Lib.hid (HST.out.step HG.out HSV.out.gw hn hsb hm1 hm2 HU.out HLOWA.out HSV4.out HK4.out (HBV.out.trans ((Below.refl _ wv).alloc HZ4V.out _)) hg5 ho5 hat5)
                clear ho5 hg5 hat5 hout5 hbx5
                refine hK.out _ _ HY6.out (fun _ => ?_)
                clear hK
                try simp only [Act.put, List.setIfInBounds_toArray, List.set_cons_zero, List.set_cons_succ]
                refine wpAnyH_take (i := 8) (v := ?_) (by simp only [List.getElem?_toArray, List.getElem?_cons_zero, List.getElem?_cons_succ]; rfl) (by kernel_rfl) (by kernel_rfl) (by kernel_rfl) (fun _ _ _ h => h) (Or.inl ⟨by rfl, ?_⟩) HY6.out ?_
                case refine_2 => (intro ww hSw; obtain ⟨s1, s2, s3⟩ := hSw; go_simp; try with_reducible rfl)
                try simp only [Act.put, List.setIfInBounds_toArray, List.set_cons_zero, List.set_cons_succ]
                refine wpAnyH_ready (rs := [9]) (by kernel_rfl) (by simp) ?_
                refine AllReadyH.cons (by simp only [List.getElem?_toArray, List.getElem?_cons_zero, List.getElem?_cons_succ]; rfl) (fun K' hK => ?_) AllReadyH.nil
                go_simp
                have HY7 := Lib.hid (box3 ((Below.heap_setCell w5 ⟨w.heap.size + 1, 2, none⟩ (.slice o5 (k + 1) c5) wr.heap.size (by show wr.heap.size ≠ w.heap.size + 1; omega)).trans HBX5.out)).1
                refine hK.out _ _ HY7.out (fun _ => ?_)
                clear hK
                try simp only [Act.put, List.setIfInBounds_toArray, List.set_cons_zero, List.set_cons_succ]
                refine wpAnyH_done (by kernel_rfl) ?_ _
                refine NoPanic.normal ?_
                go_wp2_with fail
                exact ⟨⟨k + 1, _, by omega, by go_num, HST5⟩, by simp [intOf]; omega⟩
        · obtain rfl : k = t.ts.length := by omega
          obtain ⟨ov, cv, rfl⟩ := ownsRow_shape hst.row
          have htk : t.ts.take t.ts.length = t.ts := List.take_length
          have hsvw := hst.sv
          rw [htk] at hsvw
          have hroww := hst.row
          rw [htk] at hroww
          have hkp := hst.kp
          have hbxs := hkp.cells _ _ _ _ HSV.out.box
          obtain ⟨y0, y1⟩ := box2 hbxs
          obtain ⟨D, hown, hinv⟩ := hsvw.bnd
          have HD := Lib.hid hinv.size
          have HOWND := Lib.hid hown
          have HIT := fun W (hW : GW W) => Lib.hid (HG.out.itoa (keepsP t.ts S).1.bd.length W (by omega) hW)
          have HSVW := Lib.hid hsvw
          have HROWW := Lib.hid hroww
          have HKPW := Lib.hid hkp
          have HOUTW := Lib.hid hst.out
          have HCAT := Lib.hid (hname_cat (keepsP t.ts S).1.bd.length)
          have hlen0 : ((keepsP t.ts S).1.bd.length : Int) = ((keepsP t.ts S).1.bd.length : Int) := rfl
          clear hst hsvw hroww hkp hown hinv htk hlen0
          go_wp2_with (at_len; refine wpList_len_own _ rfl _ 147 rfl 9 25 Tryz.underlying147 _ m1 _ D rfl HOWND.out ?_; rw [HD.out])
          refine (HIT _ HSVW.out.gw).out.mono ?_
          rintro e w4 ⟨rfl, hb4⟩
          have HB4 := Lib.hid hb4
          have HSV4 := Lib.hid (HSVW.out.below HG.out hb4)
          have hbxs4 := (hb4.block sb (Array.getElem?_eq_some_iff.1 hbxs).1).trans hbxs
          have hout4 := (hb4.block _ hzo).trans HOUTW.out
          obtain ⟨y0, y1⟩ := box2 hbxs4
          obtain ⟨⟨x0, x1, x2⟩, -⟩ := box3 hout4
          have HY4 := Lib.hid (And.intro y0 (box3 hout4).1)
          have HOUT4 := Lib.hid hout4
          have HROW4 := Lib.hid (HROWW.out.kept (below_grown hb4) (own_none _))
          have hdg := digN_size (keepsP t.ts S).1.bd.length
          clear hb4 hbxs hbxs4 hout4
          go_wp2_with fail
          rw [HCAT.out]
          obtain ⟨D4, hown4, hinv4⟩ := HSV4.out.bnd
          have HOWN4 := Lib.hid hown4
          have HINV4 := Lib.hid hinv4
          clear hown4 hinv4
          refine wp_region_noPanic ?_
          refine wp_region_held_drew (S := fun w' => w'.cell? ⟨sb, 0, none⟩ = some (.map (some m1)) ∧ w'.cell? ⟨w.heap.size + 1, 0, none⟩ = some (.string t.nm) ∧ w'.cell? ⟨w.heap.size + 1, 1, none⟩ = some (.bool false) ∧ w'.cell? ⟨w.heap.size + 1, 2, none⟩ = some (.slice ov t.ts.length cv)) (by kernel_rfl) HY4.out (fun _ => ?_)
          simp only [List.size_toArray, List.length_cons, List.length_nil, Nat.reduceAdd]
          refine wpAnyH_take (i := 0) (v := ?_) (by simp only [List.getElem?_toArray, List.getElem?_cons_zero]; rfl) (by kernel_rfl) (by kernel_rfl) (by kernel_rfl) (fun _ _ _ h => h) (Or.inl ⟨by rfl, ?_⟩) HY4.out ?_
          case refine_2 => (intro ww hSw; obtain ⟨s0, s1, s2, s3⟩ := hSw; go_simp; try with_reducible rfl)
          try simp only [Act.put, List.setIfInBounds_toArray, List.set_cons_zero, List.set_cons_succ]
          refine wpAnyH_take (i := 1) (v := ?_) (by simp only [List.getElem?_toArray, List.getElem?_cons_zero, List.getElem?_cons_succ]; rfl) (by kernel_rfl) (by kernel_rfl) (by kernel_rfl) (fun _ _ _ h => h) (Or.inl ⟨by rfl, ?_⟩) HY4.out ?_
          case refine_2 => (intro ww hSw; obtain ⟨s0, s1, s2, s3⟩ := hSw; go_simp; try with_reducible rfl)
          try simp only [Act.put, List.setIfInBounds_toArray, List.set_cons_zero, List.set_cons_succ]
          refine wpAnyH_take (i := 2) (v := ?_) (by simp only [List.getElem?_toArray, List.getElem?_cons_zero, List.getElem?_cons_succ]; rfl) (by kernel_rfl) (by kernel_rfl) (by kernel_rfl) (fun _ _ _ h => h) (Or.inl ⟨by rfl, ?_⟩) HY4.out ?_
          case refine_2 => (intro ww hSw; obtain ⟨s0, s1, s2, s3⟩ := hSw; go_simp; try with_reducible rfl)
          try simp only [Act.put, List.setIfInBounds_toArray, List.set_cons_zero, List.set_cons_succ]
          refine wpAnyH_take (i := 3) (v := ?_) (by simp only [List.getElem?_toArray, List.getElem?_cons_zero, List.getElem?_cons_succ]; rfl) (by kernel_rfl) (by kernel_rfl) (by kernel_rfl) (fun _ _ _ h => h) (Or.inl ⟨by rfl, ?_⟩) HY4.out ?_
          case refine_2 => (intro ww hSw; obtain ⟨s0, s1, s2, s3⟩ := hSw; go_simp; try with_reducible rfl)
          try simp only [Act.put, List.setIfInBounds_toArray, List.set_cons_zero, List.set_cons_succ]
          refine wpAnyH_take (i := 4) (v := ?_) (by simp only [List.getElem?_toArray, List.getElem?_cons_zero, List.getElem?_cons_succ]; rfl) (by kernel_rfl) (by kernel_rfl) (by kernel_rfl) (fun _ _ _ h => h) (Or.inl ⟨by rfl, ?_⟩) HY4.out ?_
          case refine_2 => (intro ww hSw; obtain ⟨s0, s1, s2, s3⟩ := hSw; go_simp; try with_reducible rfl)
          try simp only [Act.put, List.setIfInBounds_toArray, List.set_cons_zero, List.set_cons_succ]
          refine wpAnyH_take (i := 5) (v := ?_) (by simp only [List.getElem?_toArray, List.getElem?_cons_zero, List.getElem?_cons_succ]; rfl) (by kernel_rfl) (by kernel_rfl) (by kernel_rfl) (fun _ _ _ h => h) (Or.inl ⟨by rfl, ?_⟩) HY4.out ?_
          case refine_2 => (intro ww hSw; obtain ⟨s0, s1, s2, s3⟩ := hSw; go_simp; try with_reducible rfl)
          try simp only [Act.put, List.setIfInBounds_toArray, List.set_cons_zero, List.set_cons_succ]
          refine wpAnyH_ready (rs := [6]) (by kernel_rfl) (by simp) ?_
          refine AllReadyH.cons (by simp only [List.getElem?_toArray, List.getElem?_cons_zero, List.getElem?_cons_succ]; rfl) (fun K' hK => ?_) AllReadyH.nil
          refine step_mapUpdate_in rfl (.tmp 45) (.tmp 46) (.tmp 47) 147 rfl 9 25 strKeyed Tryz.underlying147 imgR m1 (keepsP t.ts S).1.bd.length D4 rfl HOWN4.out (by unfold maxLen; omega) (.string (kb (hname (keepsP t.ts S).1.bd.length))) (.agg #[.string t.nm, .bool false, .slice ov t.ts.length cv]) (.string (hname (keepsP t.ts S).1.bd.length)) rfl rfl (keyOf_kb (by have := hname_len (keepsP t.ts S).1.bd.length; omega)) (.held (tmv (.mk t.nm false ((keepsP t.ts S).2.map vrk)) (.slice ov t.ts.length cv))) [] rfl ?_
          intro w5 ho5 ht5
          have HO5 := Lib.hid ho5
          have HT5 := Lib.hid ht5
          have hg5 := ht5.grown
          have hbs5 := (hg5.block sb HSV4.out.sblt (fun e => by cases e; exact HSV4.out.m1map _ _ _ HSV4.out.box)).trans HSV4.out.box
          have hbo5 := (hg5.block (w.heap.size + 1) (Array.getElem?_eq_some_iff.1 HOUT4.out).1 (fun e => by cases e; exact HSV4.out.m1map _ _ _ HOUT4.out)).trans HOUT4.out
          have HY5 := Lib.hid (And.intro (box2 hbs5).1 (box3 hbo5).1)
          clear ho5 ht5 hg5 hbs5 hbo5
          refine hK.out _ _ HY5.out (fun _ => ?_)
          clear hK
          refine wpAnyH_done (by kernel_rfl) ?_ _
          refine NoPanic.normal ?_
          go_wp2_with fail
          go_ret
          rw [HKP.out]
          have hS4 := HSV4.out
          have hl4 : (keepsP t.ts S).1.bd.length < 1048576 := by omega
          have hks : ∀ a ∈ (keepsP t.ts S).2, Kn (keepsP t.ts S).1 a := by
            have := keepP_ok t S HSV.out.ok HKN.out (fun u => by obtain ⟨E, _, he⟩ := HSV.out.eql; exact he.free u) (by rw [HKP.out]; simp; omega)
            exact this.2.2.2 hv
          have hfr := hS4.ok.fresh hl4
          have hk45 : KpC n₀ w4 w5 := KpC.trans (B := w4.drew) ⟨(Below.refl _ _).drew, fun _ _ _ _ h => h⟩ (KpC.turned HT5.out hn1)
          have hk04 : KpC n₀ w w4 := HKPW.out.trans (KpC.of_below HB4.out (Nat.le_trans hn HKPW.out.size))
          refine ⟨rfl, ⟨HG.out.keep _ _ HSV.out.gw ((hk04.trans hk45).mono (Nat.zero_le _)), hk45.cells _ _ _ _ hS4.box, ?_, ?_, hS4.ne, ?_⟩, hk04.trans hk45⟩
          · have hrow := SlP.ofRow (p := fun b => b < w.heap.size → p b) (ch := vch (keepsP t.ts S).2) (by rw [vch_len, keepsP_len]; exact HROW4.out) (fun b hb hlt => by omega) (vch_kids _)
            rw [vch_map] at hrow
            have h := TMapP.store (k := hname (keepsP t.ts S).1.bd.length) (t := .mk t.nm false ((keepsP t.ts S).2.map vrk)) (p := fun b => b < w.heap.size → p b) (W := w4) (W' := w5) (s := .slice ov t.ts.length cv) ⟨HINV4.out.tidy, HINV4.out.nodup, HINV4.out.size, HINV4.out.has, fun k u hg => by obtain ⟨s', h1, h2⟩ := HINV4.out.at_ k u hg; exact ⟨s', h1, h2.carry fun b hb => ⟨rfl, hb.1⟩⟩⟩ hrow HO5.out hk45
            rwa [putA_new _ hfr.1] at h
          · obtain ⟨E, hE, he⟩ := hS4.eql
            exact ⟨E, hE.kept (HT5.out.grown.block m2 hE.lt (fun e => by cases e; exact hS4.ne rfl)), he⟩
          · exact hS4.ok.add hks HKN.out.node.1 (by rw [keepsP_len]; exact HKN.out.node.2)
end Go.Proofs.YtkglopdogakfoaaGreatDoor
/- The solver's 'join' and 'solve'. -/
namespace Go.Proofs.YtkglopdogakfoaaGreatDoor
open Go.RowKit Go.Maps

/-- how 'solve' ends -/
def SolPost (GW : World → Prop) (sb m1 m2 n₀ : Nat) (p : Nat → Prop) (r : Bool) (S : Sv) (w : World) (e : Ending) (w' : World) : Prop :=
  e = .returned (.bool r) ∧ (r = true → SvIs GW sb m1 m2 (fun b => b < w.heap.size → p b) S w') ∧ KpC n₀ w w'
/-- 'solve' does what solveP n says -/
def HSol (N : Nat) (GW : World → Prop) (sb m1 m2 n₀ n : Nat) : Prop :=
  ∀ (p : Nat → Prop) (S : Sv) (a b : Tm) (sa sc : Value) (w : World) (r : Bool) (S' : Sv), solveP n S a b = some (r, S') → SvIs GW sb m1 m2 p S w → n₀ ≤ w.heap.size → SlIs w.heap.size w a.ts sa → SlIs w.heap.size w b.ts sc → a.kn S → b.kn S → a.bulk ≤ 1048576 → b.bulk ≤ 1048576 → S'.bd.length ≤ N → S'.eq.length ≤ 1048576 →
    Calls Tryz.prog 112 #[.pointer (some ⟨sb, 0, none⟩), tmv a sa, tmv b sc] w (SolPost GW sb m1 m2 n₀ p r S' w)
theorem flat_kn {S : Sv} (h : SvOk S) {k : Key} {t : Tm} (hk : getA S.bd k = some t) : t.vr = false ∧ t.kn S ∧ t.bulk ≤ 1048576 := by
  obtain ⟨h1, h2, ks, h3, h4, h5⟩ := h.flat k t (getA_some hk)
  refine ⟨h1, .mk t ⟨h2, by rw [h3, List.length_map]; exact h4⟩ (fun e => by rw [h1] at e; cases e) fun u hu => ?_, ?_⟩
  · rw [h3] at hu
    obtain ⟨a, ha, rfl⟩ := List.mem_map.1 hu
    refine .mk _ ⟨?_, by show 0 ≤ 8; omega⟩ (fun _ => h5 a ha) fun u hu => by cases hu
    have := (h5 a ha).1
    show a.toArray.size ≤ 24
    simpa using this
  · have hb : ∀ l : List Key, (∀ a ∈ l, Kn S a) → Tm.bulks (l.map vrk) ≤ 25 * l.length := by
      intro l
      induction l with
      | nil => intro _; simp [Tm.bulks]
      | cons a l ih =>
        intro hl
        have h6 := ih fun b hb => hl b (by simp [hb])
        have h7 := (hl a (by simp)).1
        have h8 : (vrk a).bulk = 1 + a.length := by show Tm.bulk (.mk (kb a) true []) = _; simp only [Tm.bulk, Tm.bulks]; show 1 + a.toArray.size + 0 = _; simp
        simp only [List.map_cons, Tm.bulks, List.length_cons]
        omega
    have := hb ks h5
    rw [Tm.bulk_eq, h3]
    omega

set_option maxRecDepth 100000 in
set_option maxHeartbeats 4000000 in
theorem join_any {N : Nat} {GW : World → Prop} (HG : Hid (ItoaOk N GW)) (sb m1 m2 n₀ : Nat) (hn2 : n₀ ≤ m2) (n : Nat) (HS : Hid (HSol N GW sb m1 m2 n₀ n)) (p : Nat → Prop) (S : Sv) (x y : Key) (w : World) (r : Bool) (S' : Sv) (h : joinP (solveP n) S x y = some (r, S')) (hS : SvIs GW sb m1 m2 p S w) (hn : n₀ ≤ w.heap.size)
    (hx : Kn S x) (hy : Kn S y) (hxe : x ∉ S.eq.map (·.1)) (hye : y ∉ S.eq.map (·.1)) (hne : x ≠ y) (hN : S'.bd.length ≤ N) (hM : S'.eq.length ≤ 1048576) :
    Calls Tryz.prog 142 #[.pointer (some ⟨sb, 0, none⟩), .string (kb x), .string (kb y)] w (SolPost GW sb m1 m2 n₀ p r S' w) := by
  have hbs := hS.box
  obtain ⟨y0, y1⟩ := box2 hbs
  have hsb := hS.sblt
  have HX := Lib.hid (keyOf_kb (k := x) (by have := hx.1; omega))
  have HY := Lib.hid (keyOf_kb (k := y) (by have := hy.1; omega))
  have hm1 := hS.bnd.lt
  have hm2 := hS.m2lt
  obtain ⟨E, hE, he⟩ := hS.eql
  obtain ⟨De, howne, hinve⟩ := hE
  have hEl : E.length ≤ S.eq.length := he.len hinve.nodup
  have HOWNE := Lib.hid howne
  have HINVE := Lib.hid hinve
  have HE := Lib.hid he
  have HSV := Lib.hid hS
  have HH := Lib.hid h
  have HXK := Lib.hid hx
  have HYK := Lib.hid hy
  have HXE := Lib.hid hxe
  have HYE := Lib.hid hye
  have HNE := Lib.hid hne
  have hz : sb < w.heap.size + 1 := by omega
  have k0 := cell_old w (.cells #[.string ⟨#[]⟩, .bool false, .slice none 0 0] 25) sb 0 hsb
  clear hbs howne hinve he h hx hy hxe hye hne
  cases hgx : getA S.bd x with
  | none =>
    obtain ⟨D1, hown1, hhas1, -⟩ := HSV.out.bnd.no hgx
    have HOWN1 := Lib.hid hown1
    have HHAS1 := Lib.hid hhas1
    have HR : Hid (r = true ∧ S' = ⟨S.bd, S.eq ++ [(x, y)]⟩) := Lib.hid (by
      have h := HH.out
      unfold joinP at h
      rw [hgx] at h
      simp only [Option.some.injEq, Prod.mk.injEq] at h
      exact ⟨h.1.symm, h.2.symm⟩)
    have hEb : E.length < maxLen := by have h := HR.out.2; rw [h] at hM; simp at hM; unfold maxLen; omega
    clear hgx hown1 hhas1
    have key : ∀ (w0 w3 : World) (D3 : DataW Unit), Below w.heap.size w w0 → w3.ownsMap Tryz.prog 9 (plainElem Tryz.prog 9) m2 (E.length + 1) (De.put (.string x) (.lit (.string y))) → w0.mapTurned w3 m2 → SolPost GW sb m1 m2 n₀ p r S' w (.returned (.bool true)) w3 := by
      intro w0 w3 D3 h0 ho ht
      have hg := ht.grown
      have hk : KpC n₀ w w3 := KpC.trans (KpC.of_below h0 hn) (KpC.turned ht hn2)
      rw [HR.out.1, HR.out.2]
      refine ⟨rfl, fun _ => ?_, hk⟩
      refine ⟨HG.out.keep _ _ HSV.out.gw (hk.mono (Nat.zero_le _)), hk.cells _ _ _ _ HSV.out.box, ?_, ⟨putA E x y, KMap.store HINVE.out ho, HE.out.join HXE.out HYE.out HNE.out⟩, HSV.out.ne, HSV.out.ok.join HXK.out HYK.out⟩
      exact HSV.out.bnd.map ((hg.block m1 (Nat.lt_of_lt_of_le hm1 h0.size) (fun e => by cases e; exact HSV.out.ne rfl)).trans (h0.block m1 hm1)) fun t s hs => (hs.kpc hk).carry fun b hb => ⟨rfl, fun _ => hb⟩
    have HKEY := Lib.hid key
    clear key
    cases hgy : getA S.bd y with
    | none =>
      obtain ⟨D2, hown2, hhas2, -⟩ := HSV.out.bnd.no hgy
      have HOWN2 := Lib.hid hown2
      have HHAS2 := Lib.hid hhas2
      clear hgy hown2 hhas2
      go_enter Tryz.func142, Tryz.ntmps142
      go_wp2_with (first
        | (at_lookup; first | (refine tlook_miss _ 147 Tryz.underlying147 rfl (.tmp 15) (.tmp 16) rfl m1 S.bd.length D1 rfl HOWN1.out (.string (kb x)) (.string x) rfl HX.out HHAS1.out ?_) | (refine tlook_miss _ 147 Tryz.underlying147 rfl (.tmp 24) (.tmp 25) rfl m1 S.bd.length D2 rfl (HOWN2.out.alloc _) (.string (kb y)) (.string y) rfl HY.out HHAS2.out ?_))
        | (at_mapUpdate
           refine wpList_mapUpdate_in _ rfl _ _ _ 148 rfl 9 9 strKeyed Tryz.underlying148 _ m2 E.length De rfl ((HOWNE.out.alloc _).alloc _) hEb _ _ _ rfl rfl HX.out (.lit (.string y)) [] (plainElem_string Tryz.underlying9 (by have := HYK.out.1; show y.toArray.size ≤ _; unfold maxLen; simp; omega)) ?_
           intro w3 hown4 hturn3
           have HO4 := Lib.hid hown4
           have HT3 := Lib.hid hturn3
           clear hown4 hturn3))
      go_ret
      exact HKEY.out _ w3 De (by go_grown) HO4.out HT3.out
    | some ty =>
      obtain ⟨D2, sy, hown2, hhas2, hat2, hsy⟩ := HSV.out.bnd.at hgy
      obtain ⟨o2, k2, rfl⟩ := hsy.form
      have HOWN2 := Lib.hid hown2
      have HHAS2 := Lib.hid hhas2
      have HAT2 := Lib.hid hat2
      have HSY := Lib.hid hsy
      clear hgy hown2 hhas2 hat2 hsy
      go_enter Tryz.func142, Tryz.ntmps142
      go_wp2_with (first
        | (at_lookup; first | (refine tlook_miss _ 147 Tryz.underlying147 rfl (.tmp 15) (.tmp 16) rfl m1 S.bd.length D1 rfl HOWN1.out (.string (kb x)) (.string x) rfl HX.out HHAS1.out ?_) | (refine tlook_hit _ 147 Tryz.underlying147 rfl (.tmp 24) (.tmp 25) rfl m1 S.bd.length D2 rfl (HOWN2.out.alloc _) (.string (kb y)) (.string y) rfl HY.out (.agg #[.string ty.nm, .bool ty.vr, .slice o2 ty.ts.length k2]) HAT2.out HHAS2.out ?_))
        | (at_mapUpdate
           refine wpList_mapUpdate_in _ rfl _ _ _ 148 rfl 9 9 strKeyed Tryz.underlying148 _ m2 E.length De rfl ((HOWNE.out.alloc _).alloc _) hEb _ _ _ rfl rfl HX.out (.lit (.string y)) [] (plainElem_string Tryz.underlying9 (by have := HYK.out.1; show y.toArray.size ≤ _; unfold maxLen; simp; omega)) ?_
           intro w3 hown4 hturn3
           have HO4 := Lib.hid hown4
           have HT3 := Lib.hid hturn3
           clear hown4 hturn3))
      go_ret
      exact HKEY.out _ w3 De (by go_grown) HO4.out HT3.out
  | some tx =>
    obtain ⟨D1, sx, hown1, hhas1, hat1, hsx⟩ := HSV.out.bnd.at hgx
    obtain ⟨o1, k1, rfl⟩ := hsx.form
    have HOWN1 := Lib.hid hown1
    have HHAS1 := Lib.hid hhas1
    have HAT1 := Lib.hid hat1
    have HSX := Lib.hid hsx
    clear hown1 hhas1 hat1 hsx
    cases hgy : getA S.bd y with
    | none =>
      obtain ⟨D2, hown2, hhas2, -⟩ := HSV.out.bnd.no hgy
      have HOWN2 := Lib.hid hown2
      have HHAS2 := Lib.hid hhas2
      have HR : Hid (r = true ∧ S' = ⟨S.bd, S.eq ++ [(y, x)]⟩) := Lib.hid (by
        have h := HH.out
        unfold joinP at h
        rw [hgx, hgy] at h
        simp only [Option.some.injEq, Prod.mk.injEq] at h
        exact ⟨h.1.symm, h.2.symm⟩)
      have hEb : E.length < maxLen := by have h := HR.out.2; rw [h] at hM; simp at hM; unfold maxLen; omega
      clear hgx hgy hown2 hhas2
      go_enter Tryz.func142, Tryz.ntmps142
      go_wp2_with (first
        | (at_lookup; first | (refine tlook_hit _ 147 Tryz.underlying147 rfl (.tmp 15) (.tmp 16) rfl m1 S.bd.length D1 rfl HOWN1.out (.string (kb x)) (.string x) rfl HX.out (.agg #[.string tx.nm, .bool tx.vr, .slice o1 tx.ts.length k1]) HAT1.out HHAS1.out ?_) | (refine tlook_miss _ 147 Tryz.underlying147 rfl (.tmp 24) (.tmp 25) rfl m1 S.bd.length D2 rfl (HOWN2.out.alloc _) (.string (kb y)) (.string y) rfl HY.out HHAS2.out ?_))
        | (at_mapUpdate
           refine wpList_mapUpdate_in _ rfl _ _ _ 148 rfl 9 9 strKeyed Tryz.underlying148 _ m2 E.length De rfl ((HOWNE.out.alloc _).alloc _) hEb _ _ _ rfl rfl HY.out (.lit (.string x)) [] (plainElem_string Tryz.underlying9 (by have := HXK.out.1; show x.toArray.size ≤ _; unfold maxLen; simp; omega)) ?_
           intro w3 hown4 hturn3
           have HO4 := Lib.hid hown4
           have HT3 := Lib.hid hturn3
           clear hown4 hturn3))
      go_ret
      have hg := HT3.out.grown
      have h0 : Below w.heap.size w ((w.alloc (.cells #[.string tx.nm, .bool tx.vr, .slice o1 tx.ts.length k1] 25)).alloc (.cells #[.string ⟨#[]⟩, .bool false, .slice none 0 0] 25)) := by go_grown
      have hk : KpC n₀ w w3 := KpC.trans (KpC.of_below h0 hn) (KpC.turned HT3.out hn2)
      rw [HR.out.1, HR.out.2]
      refine ⟨rfl, fun _ => ?_, hk⟩
      refine ⟨HG.out.keep _ _ HSV.out.gw (hk.mono (Nat.zero_le _)), hk.cells _ _ _ _ HSV.out.box, ?_, ⟨putA E y x, KMap.store HINVE.out HO4.out, HE.out.join HYE.out HXE.out (Ne.symm HNE.out)⟩, HSV.out.ne, HSV.out.ok.join HYK.out HXK.out⟩
      exact HSV.out.bnd.map ((hg.block m1 (Nat.lt_of_lt_of_le hm1 h0.size) (fun e => by cases e; exact HSV.out.ne rfl)).trans (h0.block m1 hm1)) fun t s hs => (hs.kpc hk).carry fun b hb => ⟨rfl, fun _ => hb⟩
    | some ty =>
      obtain ⟨D2, sy, hown2, hhas2, hat2, hsy⟩ := HSV.out.bnd.at hgy
      obtain ⟨o2, k2, rfl⟩ := hsy.form
      have HOWN2 := Lib.hid hown2
      have HHAS2 := Lib.hid hhas2
      have HAT2 := Lib.hid hat2
      have HSY := Lib.hid hsy
      have HR : Hid (solveP n ⟨S.bd, S.eq ++ [(x, y)]⟩ tx ty = some (r, S')) := Lib.hid (by
        have h := HH.out
        unfold joinP at h
        rw [hgx, hgy] at h
        exact h)
      have hEb : E.length < maxLen := by
        have h := (solveP_le n _ _ _ _ _ HR.out).2
        simp at h; unfold maxLen; omega
      obtain ⟨-, hkx, hbx⟩ := flat_kn HSV.out.ok hgx
      obtain ⟨-, hky, hby⟩ := flat_kn HSV.out.ok hgy
      have HKX : Hid (tx.kn ⟨S.bd, S.eq ++ [(x, y)]⟩) := Lib.hid (hkx.mono (Nat.le_refl _))
      have HKY : Hid (ty.kn ⟨S.bd, S.eq ++ [(x, y)]⟩) := Lib.hid (hky.mono (Nat.le_refl _))
      have HSOL : Hid (∀ w3 : World, w3.ownsMap Tryz.prog 9 (plainElem Tryz.prog 9) m2 (E.length + 1) (De.put (.string x) (.lit (.string y))) → ((w.alloc (.cells #[.string tx.nm, .bool tx.vr, .slice o1 tx.ts.length k1] 25)).alloc (.cells #[.string ty.nm, .bool ty.vr, .slice o2 ty.ts.length k2] 25)).mapTurned w3 m2 →
          KpC n₀ w w3 ∧ Calls Tryz.prog 112 #[.pointer (some ⟨sb, 0, none⟩), tmv tx (.slice o1 tx.ts.length k1), tmv ty (.slice o2 ty.ts.length k2)] w3 (SolPost GW sb m1 m2 n₀ p r S' w3)) := Lib.hid fun w3 ho ht => by
        have hg := ht.grown
        have h0 : Below w.heap.size w ((w.alloc (.cells #[.string tx.nm, .bool tx.vr, .slice o1 tx.ts.length k1] 25)).alloc (.cells #[.string ty.nm, .bool ty.vr, .slice o2 ty.ts.length k2] 25)) := by go_grown
        have hk : KpC n₀ w w3 := KpC.trans (KpC.of_below h0 hn) (KpC.turned ht hn2)
        have hsv : SvIs GW sb m1 m2 p ⟨S.bd, S.eq ++ [(x, y)]⟩ w3 := by
          refine ⟨HG.out.keep _ _ HSV.out.gw (hk.mono (Nat.zero_le _)), hk.cells _ _ _ _ HSV.out.box, ?_, ⟨putA E x y, KMap.store HINVE.out ho, HE.out.join HXE.out HYE.out HNE.out⟩, HSV.out.ne, HSV.out.ok.join HXK.out HYK.out⟩
          exact HSV.out.bnd.map ((hg.block m1 (Nat.lt_of_lt_of_le hm1 h0.size) (fun e => by cases e; exact HSV.out.ne rfl)).trans (h0.block m1 hm1)) fun t s hs => hs.kpc hk
        exact ⟨hk, HS.out p _ tx ty _ _ w3 r S' HR.out hsv (Nat.le_trans hn hk.size) ((HSX.out.kpc hk).lt.toIs fun b hb => hb.2) ((HSY.out.kpc hk).lt.toIs fun b hb => hb.2) HKX.out HKY.out hbx hby hN hM⟩
      clear hgx hgy hown2 hhas2 hat2 hsy hkx hky
      go_enter Tryz.func142, Tryz.ntmps142
      go_wp2_with (first
        | (at_lookup; first | (refine tlook_hit _ 147 Tryz.underlying147 rfl (.tmp 15) (.tmp 16) rfl m1 S.bd.length D1 rfl HOWN1.out (.string (kb x)) (.string x) rfl HX.out (.agg #[.string tx.nm, .bool tx.vr, .slice o1 tx.ts.length k1]) HAT1.out HHAS1.out ?_) | (refine tlook_hit _ 147 Tryz.underlying147 rfl (.tmp 24) (.tmp 25) rfl m1 S.bd.length D2 rfl (HOWN2.out.alloc _) (.string (kb y)) (.string y) rfl HY.out (.agg #[.string ty.nm, .bool ty.vr, .slice o2 ty.ts.length k2]) HAT2.out HHAS2.out ?_))
        | (at_mapUpdate
           refine wpList_mapUpdate_in _ rfl _ _ _ 148 rfl 9 9 strKeyed Tryz.underlying148 _ m2 E.length De rfl ((HOWNE.out.alloc _).alloc _) hEb _ _ _ rfl rfl HX.out (.lit (.string y)) [] (plainElem_string Tryz.underlying9 (by have := HYK.out.1; show y.toArray.size ≤ _; unfold maxLen; simp; omega)) ?_
           intro w3 hown4 hturn3
           have HO4 := Lib.hid hown4
           have HT3 := Lib.hid hturn3
           have q0 := (hturn3.grown.block w.heap.size (by simp; omega) (fun e => by simp at e; omega)).trans ((Below.heap_alloc _ _ _ (by simp)).trans (heap_new_at w (.cells #[.string tx.nm, .bool tx.vr, .slice o1 tx.ts.length k1] 25) _ rfl))
           have q1 := (hturn3.grown.block (w.heap.size + 1) (by simp) (fun e => by simp at e; omega)).trans (heap_new_at _ (.cells #[.string ty.nm, .bool ty.vr, .slice o2 ty.ts.length k2] 25) _ (by simp))
           obtain ⟨⟨r0, r1, r2⟩, -⟩ := box3 q0
           obtain ⟨⟨z0, z1, z2⟩, -⟩ := box3 q1
           clear q0 q1
           clear hown4 hturn3))
      obtain ⟨hk3, hsol⟩ := HSOL.out w3 HO4.out HT3.out
      have HK3 := Lib.hid hk3
      clear hk3
      refine hsol.mono ?_
      rintro e w5 ⟨rfl, h5, hk5⟩
      have H5 := Lib.hid h5
      have HK5 := Lib.hid hk5
      clear h5 hk5 hsol
      go_wp2_with fail
      go_ret
      exact ⟨rfl, fun h => (H5.out h).weak fun b hb _ hlt => hb (Nat.lt_of_lt_of_le hlt HK3.out.size), HK3.out.trans HK5.out⟩

theorem joinP_le {n : Nat} {S S' : Sv} {x y : Key} {r : Bool} (h : joinP (solveP n) S x y = some (r, S')) : S.le S' := by
  unfold joinP at h
  split at h
  · simp only [Option.some.injEq, Prod.mk.injEq] at h; rw [← h.2]; exact ⟨Nat.le_refl _, by simp⟩
  · simp only [Option.some.injEq, Prod.mk.injEq] at h; rw [← h.2]; exact ⟨Nat.le_refl _, by simp⟩
  · have h2 := solveP_le n _ _ _ _ _ h
    exact ⟨h2.1, by have := h2.2; simp at this; omega⟩
/-- what holds between the pairs -/
structure SolI (GW : World → Prop) (sb m1 m2 : Nat) (p : Nat → Prop) (w : World) (L R : List Tm) (S : Sv) (W : World) : Prop where
  sv : SvIs GW sb m1 m2 (fun b => b < w.heap.size → p b) S W
  size : w.heap.size ≤ W.heap.size
  l : ∀ u ∈ L, u.kn S
  r : ∀ u ∈ R, u.kn S

set_option maxRecDepth 100000 in
set_option maxHeartbeats 8000000 in
theorem solve_any {N : Nat} {GW : World → Prop} (HG : Hid (ItoaOk N GW)) (sb m1 m2 n₀ : Nat) (hn1 : n₀ ≤ m1) (hn2 : n₀ ≤ m2) (n : Nat) : HSol N GW sb m1 m2 n₀ n := by
  induction n with
  | zero => intro p S a b sa sc w r S' h; cases h
  | succ n ih =>
    intro p S a b sa sc w r S' h hS hn hsa hsc hka hkb hba hbb hN hM
    obtain ⟨oa, ca, rfl, -⟩ := hsa.form
    obtain ⟨ob, cb, rfl, -⟩ := hsc.form
    have IH := Lib.hid ih
    have HSV := Lib.hid hS
    have HSA := Lib.hid hsa
    have HSB := Lib.hid hsc
    have HKA := Lib.hid hka
    have HKB := Lib.hid hkb
    have hkids : ∀ u ∈ a.ts, u.bulk ≤ 1048576 := fun u hu => by have := Tm.bulk_mem hu; have := Tm.bulk_eq a; omega
    have hkidb : ∀ u ∈ b.ts, u.bulk ≤ 1048576 := fun u hu => by have := Tm.bulk_mem hu; have := Tm.bulk_eq b; omega
    have h8 := hka.node.2
    have hnn := HG.out.le
    rw [solveP] at h
    clear ih hS hsa hsc hka hkb
    by_cases hv : a.vr = false ∧ b.vr = false
    · rw [if_pos hv] at h
      obtain ⟨hva, hvb⟩ := hv
      by_cases hnm : a.nm = b.nm
      · have hbq := name_beq hnm
        by_cases hln : a.ts.length = b.ts.length
        · rw [if_pos ⟨hnm, hln⟩] at h
          have hE := bstep_eqf (N := N) (M := 1048576) (solveP_le n) a.ts S b.ts r S' h hN hM
          have HC : Hid (∀ u ∈ a.ts, ∀ v ∈ b.ts, ∀ (S1 : Sv) (su sv : Value) (W : World) (r1 : Bool) (S2 : Sv), bstep N 1048576 (solveP n) S1 u v = some (r1, S2) → SolI GW sb m1 m2 p w a.ts b.ts S1 W → n₀ ≤ W.heap.size → SlIs W.heap.size W u.ts su → SlIs W.heap.size W v.ts sv → Calls Tryz.prog 112 #[.pointer (some ⟨sb, 0, none⟩), tmv u su, tmv v sv] W (EqPost n₀ (SolI GW sb m1 m2 p w a.ts b.ts) r1 S2 W)) := Lib.hid fun u hu v hv S1 su sv W r1 S2 hst hI hnW hus hvs => by
            obtain ⟨h1, h2, h3⟩ := bstep_some hst
            have hle := solveP_le n _ _ _ _ _ h1
            refine (IH.out _ S1 u v su sv W r1 S2 h1 hI.sv hnW hus hvs (hI.l u hu) (hI.r v hv) (hkids u hu) (hkidb v hv) h2 h3).mono ?_
            rintro e W' ⟨rfl, hi, hk⟩
            exact ⟨rfl, fun hr => ⟨(hi hr).weak fun b hb _ hlt => hb (Nat.lt_of_lt_of_le hlt hI.size) hlt, Nat.le_trans hI.size hk.size, fun u hu => (hI.l u hu).mono hle.1, fun u hu => (hI.r u hu).mono hle.1⟩, hk⟩
          have hI0 : SolI GW sb m1 m2 p w a.ts b.ts S w := ⟨HSV.out.weak fun b hb _ _ => hb, Nat.le_refl _, HKA.out.kids, HKB.out.kids⟩
          have HEF := fun W (hW : Below w.heap.size w W) => Lib.hid (equalFunc_any 112 (.pointer (some ⟨sb, 0, none⟩)) Tryz.call112 n₀ (bstep N 1048576 (solveP n)) (SolI GW sb m1 m2 p w a.ts b.ts) (fun S A B h hb => ⟨h.sv.below HG.out hb, Nat.le_trans h.size hb.size, h.l, h.r⟩) a.ts b.ts HC oa ob ca cb S r S' W hln (by omega) (Nat.le_trans hn hW.size) (HSA.out.carry hW hW.size) (HSB.out.carry hW hW.size) hE
            ⟨hI0.sv.below HG.out hW, hW.size, hI0.l, hI0.r⟩)
          clear hnm hln hE hI0 h
          go_enter Tryz.func112, Tryz.ntmps112
          rw [show tmv a (.slice oa a.ts.length ca) = .agg #[.string a.nm, .bool a.vr, .slice oa a.ts.length ca] from rfl, hva, show tmv b (.slice ob b.ts.length cb) = .agg #[.string b.nm, .bool b.vr, .slice ob b.ts.length cb] from rfl, hvb]
          go_wp2_with fail
          refine (HEF _ (by go_grown)).out.mono ?_
          rintro e w3 ⟨rfl, hi3, hk3⟩
          have HI3 := Lib.hid hi3
          have HK3 := Lib.hid (KpC.trans (KpC.of_below (show Below w.heap.size w _ from by go_grown) hn) hk3)
          clear hi3 hk3
          go_wp2_with fail
          go_ret
          exact ⟨rfl, fun h => (HI3.out h).sv, HK3.out⟩
        · rw [if_neg (fun h => hln h.2)] at h
          have HRF : Hid (r = false) := Lib.hid (by simp only [Option.some.injEq, Prod.mk.injEq] at h; exact h.1.symm)
          have HEF := fun W => Lib.hid (equalFunc_not a.ts b.ts oa ob ca cb (.func (.func 112) #[.pointer (some ⟨sb, 0, none⟩)] #[]) W hln)
          clear hnm hln h
          go_enter Tryz.func112, Tryz.ntmps112
          rw [show tmv a (.slice oa a.ts.length ca) = .agg #[.string a.nm, .bool a.vr, .slice oa a.ts.length ca] from rfl, hva, show tmv b (.slice ob b.ts.length cb) = .agg #[.string b.nm, .bool b.vr, .slice ob b.ts.length cb] from rfl, hvb]
          go_wp2_with fail
          refine (HEF _).out.mono ?_
          rintro e w3 ⟨rfl, rfl⟩
          go_wp2_with fail
          go_ret
          rw [HRF.out]
          exact ⟨rfl, (fun h => by cases h), KpC.of_below (by go_grown) hn⟩
      · rw [if_neg (fun h => hnm h.1)] at h
        have hbq := name_bne hnm
        have HRF : Hid (r = false) := Lib.hid (by simp only [Option.some.injEq, Prod.mk.injEq] at h; exact h.1.symm)
        clear hnm h
        go_enter Tryz.func112, Tryz.ntmps112
        rw [show tmv a (.slice oa a.ts.length ca) = .agg #[.string a.nm, .bool a.vr, .slice oa a.ts.length ca] from rfl, hva, show tmv b (.slice ob b.ts.length cb) = .agg #[.string b.nm, .bool b.vr, .slice ob b.ts.length cb] from rfl, hvb]
        go_wp2_with fail
        go_ret
        rw [HRF.out]
        exact ⟨rfl, (fun h => by cases h), KpC.of_below (by go_grown) hn⟩
    · rw [if_neg hv] at h
      have hS2 : (keepP b (keepP a S).1).1.le S' := by
        split at h
        · simp only [Option.some.injEq, Prod.mk.injEq] at h; rw [← h.2]; exact Sv.le_refl _
        · exact joinP_le h
      have h12 := keepP_le b (keepP a S).1
      have h01 := keepP_le a S
      have hfree : ∀ u, repE S.eq u ∉ S.eq.map (·.1) := fun u => by obtain ⟨E, _, he⟩ := HSV.out.eql; exact he.free u
      have hN2 : (keepP b (keepP a S).1).1.bd.length ≤ N := Nat.le_trans hS2.1 hN
      have hN1 : (keepP a S).1.bd.length ≤ N := Nat.le_trans h12.1 hN2
      have hM0 : S.eq.length ≤ 1048576 := Nat.le_trans h01.2 (Nat.le_trans h12.2 (Nat.le_trans hS2.2 hM))
      have hM1 : (keepP a S).1.eq.length ≤ 1048576 := by rw [keepP_eq]; exact hM0
      obtain ⟨ok1, kx, fx, -⟩ := keepP_ok a S HSV.out.ok HKA.out hfree (Nat.le_trans hN1 hnn)
      obtain ⟨ok2, ky, fy, -⟩ := keepP_ok b (keepP a S).1 ok1 (HKB.out.mono h01.1) (by rw [keepP_eq]; exact hfree) (Nat.le_trans hN2 hnn)
      have HKX : Hid (Kn (keepP b (keepP a S).1).1 (keepP a S).2) := Lib.hid (kx.mono h12.1)
      have HKY := Lib.hid ky
      have HFX : Hid ((keepP a S).2 ∉ (keepP b (keepP a S).1).1.eq.map (·.1)) := Lib.hid (by rw [keepP_eq, keepP_eq]; exact fx)
      have HFY : Hid ((keepP b (keepP a S).1).2 ∉ (keepP b (keepP a S).1).1.eq.map (·.1)) := Lib.hid (by rw [keepP_eq]; exact fy)
      have HH := Lib.hid h
      have HKA1 := fun W (hW : Below w.heap.size w W) => Lib.hid (keep_any HG sb m1 m2 n₀ hn1 hn2 a p S (.slice oa a.ts.length ca) W (HSV.out.below HG.out hW) (Nat.le_trans hn hW.size) (HSA.out.carry hW hW.size) HKA.out hba hN1 hM0)
      have HKB1 := fun (q : Nat → Prop) W (hk : KpC n₀ w W) (hs : SvIs GW sb m1 m2 q (keepP a S).1 W) => Lib.hid (keep_any HG sb m1 m2 n₀ hn1 hn2 b q (keepP a S).1 (.slice ob b.ts.length cb) W hs (Nat.le_trans hn hk.size) (HSB.out.kp hk hk.size) (HKB.out.mono h01.1) hbb hN2 hM1)
      clear kx ky fx fy ok1 ok2 h hfree h01 h12 hS2
      generalize keepP b (keepP a S).1 = q2 at *
      generalize keepP a S = q1 at *
      obtain ⟨S1, x⟩ := q1
      obtain ⟨S2, y⟩ := q2
      have HWA : Hid (Below w.heap.size w ((w.alloc (.cells #[.string a.nm, .bool a.vr, .slice oa a.ts.length ca] 25)).alloc (.cells #[.string b.nm, .bool b.vr, .slice ob b.ts.length cb] 25))) := Lib.hid (by go_grown)
      have HJ := fun (q : Nat → Prop) W (hk : KpC n₀ w W) (hs : SvIs GW sb m1 m2 q S2 W) (hne : x ≠ y) (hj : joinP (solveP n) S2 x y = some (r, S')) => Lib.hid (join_any HG sb m1 m2 n₀ hn2 n IH q S2 x y W r S' hj hs (Nat.le_trans hn hk.size) HKX.out HKY.out HFX.out HFY.out hne hN hM)
      cases hva : a.vr
      all_goals cases hvb : b.vr
      all_goals first | (exfalso; exact hv ⟨hva, hvb⟩) | skip
      all_goals clear hv
      all_goals simp only [tmv, hva] at HKA1
      all_goals simp only [tmv, hvb] at HKB1
      all_goals go_enter Tryz.func112, Tryz.ntmps112
      all_goals rw [show tmv a (.slice oa a.ts.length ca) = .agg #[.string a.nm, .bool a.vr, .slice oa a.ts.length ca] from rfl, hva, show tmv b (.slice ob b.ts.length cb) = .agg #[.string b.nm, .bool b.vr, .slice ob b.ts.length cb] from rfl, hvb]
      all_goals simp only [hva, hvb] at HWA
      all_goals clear hva hvb
      all_goals go_wp2_with fail
      all_goals
        refine (HKA1 _ HWA.out).out.mono ?_
        rintro e w1 ⟨rfl, h1, hk1⟩
        have hbx := hk1.cells _ _ _ _ (heap_new_at (w.alloc (.cells #[.string a.nm, .bool _, .slice oa a.ts.length ca] 25)) (.cells #[.string b.nm, .bool _, .slice ob b.ts.length cb] 25) (w.heap.size + 1) (by simp))
        obtain ⟨⟨x0, x1, x2⟩, -⟩ := box3 hbx
        have H1 := Lib.hid h1
        have HK1 : Hid (KpC n₀ w w1) := Lib.hid (KpC.trans (KpC.of_below HWA.out hn) hk1)
        have HZ1 := Lib.hid hk1.size
        clear h1 hk1 hbx
        go_wp2_with fail
        refine (HKB1 _ _ HK1.out H1.out).out.mono ?_
        rintro e w2 ⟨rfl, h2, hk2⟩
        have H2 := Lib.hid h2
        have HK2 := Lib.hid (HK1.out.trans hk2)
        have HZ2 := Lib.hid hk2.size
        clear h2 hk2 x0 x1 x2
        by_cases hxy : x = y
        · have hbb := kb_beq_yes hxy
          have HR : Hid (r = true ∧ S' = S2) := Lib.hid (by
            have h := HH.out
            rw [if_pos hxy] at h
            simp only [Option.some.injEq, Prod.mk.injEq] at h
            exact ⟨h.1.symm, h.2.symm⟩)
          clear hxy
          go_wp2_with fail
          go_ret
          rw [HR.out.1, HR.out.2]
          refine ⟨rfl, fun _ => H2.out.weak fun b hb _ hlt => ?_, HK2.out⟩
          have hz1 := HK1.out.size
          exact hb (by omega) (by simp; omega)
        · have hbb := kb_beq_no hxy
          have hj : joinP (solveP n) S2 x y = some (r, S') := by
            have h := HH.out
            rwa [if_neg hxy] at h
          have HJ2 := HJ _ _ HK2.out H2.out hxy hj
          clear hxy hj
          go_wp2_with fail
          refine HJ2.out.mono ?_
          rintro e w3 ⟨rfl, h3, hk3⟩
          have H3 := Lib.hid h3
          have HK3 := Lib.hid (HK2.out.trans hk3)
          clear h3 hk3
          go_wp2_with fail
          go_ret
          refine ⟨rfl, fun h => (H3.out h).weak fun b hb _ hlt => ?_, HK3.out⟩
          have hz1 := HK1.out.size
          have hz2 := HK2.out.size
          exact hb (by omega) (by omega) (by simp; omega)
end Go.Proofs.YtkglopdogakfoaaGreatDoor
