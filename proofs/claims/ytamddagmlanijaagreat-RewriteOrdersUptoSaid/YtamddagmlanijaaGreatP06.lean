/- Packed: Sub, Loc, Rkp, RdK, RdW. -/
import Derived.WalkKit
import Derived.ProofKit
import Derived.OpenShut
import Derived.Handy
import Derived.Lib.Hide
import Derived.BigQuiet
import Derived.Sort.Walk0
import Derived.Laws.Cover1
import Derived.Test.YtamddagmlanijaaGreatP05
import Derived.Test.YtamddagmlanijaaGreatP03
import Derived.Deep.RegionHeld3
import Derived.StringKeys
import Derived.Maps.OwnSet
import Derived.Maps.OwnOps
import Derived.Test.YtamddagmlanijaaGreatP04
import Derived.Test.YtamddagmlanijaaGreatP01
/- CheckSubst. images: a map from names to terms with their measures. -/
namespace Go.Proofs.YtamddagmlanijaaGreat
open Go.RowKit

/-- the substitutions that CheckSubst lets by -/
structure SubOk (bl : List Bd) : Prop where
  names : ∀ p ∈ bl, isName (kb p.1) false = true
  order : ∀ i p q, bl[i]? = some p → bl[i + 1]? = some q → p.1 < q.1
  terms : ∀ p ∈ bl, p.2.ok
theorem less_yes {a b : Key} (h : a < b) : Op.bytesLess (kb a).toList (kb b).toList = true := by rw [kb_toList, kb_toList, bytesLess_eq]; exact decide_eq_true h
theorem less_no {a b : Key} (h : ¬ a < b) : Op.bytesLess (kb a).toList (kb b).toList = false := by rw [kb_toList, kb_toList, bytesLess_eq]; exact decide_eq_false h
def bdBulk (bl : List Bd) : Nat := max bl.length (bl.foldr (fun p a => max (1 + p.1.length + p.2.bulk) a) 0)
theorem bdBulk_mem {bl : List Bd} {p : Bd} (h : p ∈ bl) : 1 + p.1.length + p.2.bulk ≤ bdBulk bl := by
  unfold bdBulk
  refine Nat.le_trans ?_ (Nat.le_max_right _ _)
  induction bl with
  | nil => cases h
  | cons x l ih =>
    rw [List.foldr_cons]
    rcases List.mem_cons.1 h with rfl | h
    · exact Nat.le_max_left _ _
    · exact Nat.le_trans (ih h) (Nat.le_max_right _ _)
theorem bdBulk_len (bl : List Bd) : bl.length ≤ bdBulk bl := Nat.le_max_left _ _
theorem bdBulk_le {bl : List Bd} {k : Nat} (h1 : bl.length ≤ k) (h2 : ∀ p ∈ bl, 1 + p.1.length + p.2.bulk ≤ k) : bdBulk bl ≤ k := by
  unfold bdBulk
  refine Nat.max_le.2 ⟨h1, ?_⟩
  clear h1
  induction bl with
  | nil => exact Nat.zero_le _
  | cons x l ih => rw [List.foldr_cons]; exact Nat.max_le.2 ⟨h2 x (by simp), ih fun p hp => h2 p (by simp [hp])⟩
/-- a binding's cells -/
theorem BindsIs.get {n : Nat} {W : World} {bl : List Bd} {oa : Option Addr} {cap k : Nat} (h : BindsIs n W bl (.slice oa bl.length cap)) (hk : k < bl.length) :
    ∃ (b o : Nat) (p : Bd) (s : Value), oa = some ⟨b, o, none⟩ ∧ b < n ∧ bl[k]? = some p ∧ p ∈ bl ∧ SlIs n W p.2.ts s ∧
      W.cell? ⟨b, o + k * 4, none⟩ = some (.string (kb p.1)) ∧ W.cell? ⟨b, o + k * 4 + 1, none⟩ = some (.string p.2.nm) ∧ W.cell? ⟨b, o + k * 4 + 2, none⟩ = some (.bool p.2.vr) ∧ W.cell? ⟨b, o + k * 4 + 3, none⟩ = some s := by
  obtain ⟨oa', cap', he, -, h3⟩ := h
  simp only [Value.slice.injEq, true_and] at he
  obtain ⟨rfl, rfl⟩ := he
  obtain ⟨b, o, rfl, hb, hc⟩ := h3 (by rintro rfl; simp at hk)
  have hp : bl[k]? = some bl[k] := List.getElem?_eq_getElem hk
  obtain ⟨s, c0, c1, c2, c3, hs⟩ := hc k _ hp
  exact ⟨b, o, bl[k], s, rfl, hb, hp, List.getElem_mem hk, hs, c0, c1, c2, c3⟩

/-- what the first loop has seen -/
structure SubSt (bl : List Bd) (j : Nat) : Prop where
  names : ∀ p ∈ bl.take j, isName (kb p.1) false = true
  order : ∀ i p q, i + 1 < j → bl[i]? = some p → bl[i + 1]? = some q → p.1 < q.1
theorem take_one_more {bl : List Bd} {j : Nat} {p : Bd} (hp : bl[j]? = some p) : bl.take (j + 1) = bl.take j ++ [p] := by rw [List.take_add_one, hp]; rfl
theorem SubSt.first {bl : List Bd} {p : Bd} (hp : bl[0]? = some p) (hn : isName (kb p.1) false = true) : SubSt bl 1 := by
  refine ⟨fun q hq => ?_, fun i _ _ h => by omega⟩
  rw [take_one_more hp] at hq
  simp only [List.take_zero, List.nil_append, List.mem_singleton] at hq
  subst hq; exact hn
theorem SubSt.more {bl : List Bd} {j : Nat} (h : SubSt bl (j + 1)) {p q : Bd} (hq : bl[j]? = some q) (hp : bl[j + 1]? = some p) (hn : isName (kb p.1) false = true) (hl : q.1 < p.1) : SubSt bl (j + 1 + 1) := by
  refine ⟨fun x hx => ?_, fun i a b hi ha hb => ?_⟩
  · rw [take_one_more hp] at hx
    rcases List.mem_append.1 hx with hx | hx
    · exact h.names x hx
    · simp only [List.mem_singleton] at hx; subst hx; exact hn
  · by_cases e : i = j
    · subst e
      rw [hq] at ha; rw [hp] at hb
      cases ha; cases hb
      exact hl
    · exact h.order i a b (by omega) ha hb

set_option maxRecDepth 100000 in
set_option maxHeartbeats 4000000 in
theorem checkSubst_any (bl : List Bd) (v : Value) (w : World) (hl : BindsIs w.heap.size w bl v) (hb : bdBulk bl ≤ 1048576) :
    Calls Tryz.prog 175 #[v] w fun e w' => (∃ c : Int, e = .returned (.int .i64 c) ∧ (c = 0 ↔ SubOk bl)) ∧ Below w.heap.size w w' := by
  have hl' := hl
  obtain ⟨oa, cap, rfl, hcap, -⟩ := hl'
  have HL := Lib.hid hl
  have HB := Lib.hid hb
  have hlen := Nat.le_trans (bdBulk_len bl) hb
  clear hl hb
  go_enter Tryz.func175, Tryz.ntmps175
  go_wp2_with fail
  go_loopw [3, 4, 10] (fun _ _ i wr => ∃ j : Nat, j ≤ bl.length ∧ i = .int .i64 j ∧ Hid (SubSt bl j) ∧ Hid (Below w.heap.size w wr)) (fun _ _ i _ => bl.length - (intOf i).toNat)
  case atStart => exact ⟨0, by omega, rfl, Lib.hid ⟨by simp, fun i _ _ h => by omega⟩, Lib.hid (Below.refl _ _)⟩
  case round =>
    obtain ⟨j, hj, rfl, HST, HBW⟩ := hrel
    by_cases hlt : j < bl.length
    · obtain ⟨b, o, p, s, rfl, hbn, hp, hpm, hs, c0, c1, c2, c3⟩ := (HL.out.carry HBW.out (Nat.le_refl _)).get hlt
      obtain ⟨os, cs, rfl, -⟩ := hs.form
      have HP := Lib.hid hp
      have hps : (kb p.1).size ≤ 1048576 := by have := bdBulk_mem hpm; have := HB.out; show p.1.toArray.size ≤ _; simp; omega
      have hbx := box4 (heap_new_at wr (.cells #[.string (kb p.1), .string p.2.nm, .bool p.2.vr, .slice os p.2.ts.length cs] 134) wr.heap.size rfl)
      have hba : Below w.heap.size w (wr.alloc (.cells #[.string (kb p.1), .string p.2.nm, .bool p.2.vr, .slice os p.2.ts.length cs] 134)) := HBW.out.alloc HBW.out.size _
      obtain ⟨d0, -⟩ := hbx
      have hzz := HBW.out.size
      have HBA := Lib.hid hba
      cases hn : isName (kb p.1) false
      · have HNO : Hid (¬ SubOk bl) := Lib.hid (fun h => by have := h.names p hpm; rw [hn] at this; cases this)
        clear hp hpm hs hba
        go_wp2_with fail
        generalize wr.alloc (.cells #[.string (kb p.1), .string p.2.nm, .bool p.2.vr, .slice os p.2.ts.length cs] 134) = wx at d0 HBA ⊢
        go_quiet ((go_at_call 59; exact Calls.quiet_of_same ((isName_any _ _ _ hps).mono fun _ _ h => ⟨h.1, h.2.symm⟩)))
        go_wp2_with fail
        go_ret
        exact ⟨⟨4, rfl, Iff.intro (fun h => by omega) (fun h => absurd h HNO.out)⟩, below_drewN nq HBA.out⟩
      · cases j with
        | zero =>
          have HNX := Lib.hid (SubSt.first HP.out hn)
          simp only [Nat.zero_mul, Nat.add_zero] at c0 c1 c2 c3
          clear hp hpm hs hba
          go_wp2_with fail
          generalize wr.alloc (.cells #[.string (kb p.1), .string p.2.nm, .bool p.2.vr, .slice os p.2.ts.length cs] 134) = wx at d0 HBA ⊢
          go_quiet ((go_at_call 59; exact Calls.quiet_of_same ((isName_any _ _ _ hps).mono fun _ _ h => ⟨h.1, h.2.symm⟩)))
          go_wp2_with fail
          exact ⟨⟨1, by omega, by go_num, HNX, Lib.hid (below_drewN nq HBA.out)⟩, by simp [intOf]; omega⟩
        | succ k =>
          obtain ⟨b', o', q, s', he, hbn', hq, hqm, -, e0, -, -, -⟩ := (HL.out.carry HBW.out (Nat.le_refl _)).get (k := k) (by omega)
          cases he
          have e0 := (Below.cell (p := ⟨b, o + k * 4, none⟩) ((Below.refl wr.heap.size wr).alloc (Nat.le_refl _) (.cells #[.string (kb p.1), .string p.2.nm, .bool p.2.vr, .slice os p.2.ts.length cs] 134)) (Nat.lt_of_lt_of_le hbn hzz)).trans e0
          have HQ := Lib.hid hq
          have hk0 : (0 : Int) ≤ (k : Int) := by omega
          have hk1 : (k : Int) < (bl.length : Int) := by omega
          have hk2 : (0 : Int) < (k : Int) + 1 := by omega
          have hk3 : IntKind.i64.wrap ((k : Int) + 1 - 1) = (k : Int) := by rw [Int.add_sub_cancel]; exact IntWalk.i64_in _ (by omega)
          have hk4 : IntKind.i64.wrap (k : Int) = (k : Int) := IntWalk.i64_in _ (by omega)
          by_cases hqp : q.1 < p.1
          · have hless := less_yes hqp
            have HNX := Lib.hid (HST.out.more HQ.out HP.out hn hqp)
            clear hp hpm hs hba hq hqm hqp
            go_wp2_with fail
            generalize wr.alloc (.cells #[.string (kb p.1), .string p.2.nm, .bool p.2.vr, .slice os p.2.ts.length cs] 134) = wx at d0 e0 HBA ⊢
            go_quiet ((go_at_call 59; exact Calls.quiet_of_same ((isName_any _ _ _ hps).mono fun _ _ h => ⟨h.1, h.2.symm⟩)))
            go_wp2_with fail
            exact ⟨⟨k + 1 + 1, by omega, by go_num, HNX, Lib.hid (below_drewN nq HBA.out)⟩, by simp [intOf]; omega⟩
          · have hless := less_no hqp
            have HNO : Hid (¬ SubOk bl) := Lib.hid (fun h => hqp (h.order k q p HQ.out HP.out))
            clear hp hpm hs hba hq hqm hqp
            go_wp2_with fail
            generalize wr.alloc (.cells #[.string (kb p.1), .string p.2.nm, .bool p.2.vr, .slice os p.2.ts.length cs] 134) = wx at d0 e0 HBA ⊢
            go_quiet ((go_at_call 59; exact Calls.quiet_of_same ((isName_any _ _ _ hps).mono fun _ _ h => ⟨h.1, h.2.symm⟩)))
            go_wp2_with fail
            go_ret
            exact ⟨⟨4, rfl, Iff.intro (fun h => by omega) (fun h => absurd h HNO.out)⟩, below_drewN nq HBA.out⟩
    · obtain rfl : j = bl.length := by omega
      have HS1 : Hid ((∀ p ∈ bl, isName (kb p.1) false = true) ∧ ∀ i p q, bl[i]? = some p → bl[i + 1]? = some q → p.1 < q.1) := Lib.hid ⟨by have h := HST.out.names; rwa [List.take_length] at h, fun i p q h1 h2 => HST.out.order i p q (List.getElem?_eq_some_iff.1 h2).1 h1 h2⟩
      go_wp2_with fail
      go_loopw [6, 7, 37] (fun _ _ i wr' => ∃ j : Nat, j ≤ bl.length ∧ i = .int .i64 j ∧ Hid (∀ p ∈ bl.take j, p.2.ok) ∧ Hid (Below w.heap.size w wr')) (fun _ _ i _ => bl.length - (intOf i).toNat)
      case atStart => exact ⟨0, by omega, rfl, Lib.hid (by simp), HBW⟩
      case round =>
        obtain ⟨j, hj, rfl, HT, HBW'⟩ := hrel
        by_cases hlt : j < bl.length
        · obtain ⟨b, o, p, s, rfl, hbn, hp, hpm, hs, c0, c1, c2, c3⟩ := (HL.out.carry HBW'.out (Nat.le_refl _)).get hlt
          obtain ⟨os, cs, rfl, -⟩ := hs.form
          have HP := Lib.hid hp
          have HPM := Lib.hid hpm
          have hpb : p.2.bulk ≤ 1048576 := by have := bdBulk_mem hpm; have := HB.out; omega
          have hbx := box4 (heap_new_at wr (.cells #[.string (kb p.1), .string p.2.nm, .bool p.2.vr, .slice os p.2.ts.length cs] 134) wr.heap.size rfl)
          obtain ⟨d0, d1, d2, d3⟩ := hbx
          have HBA : Hid (Below w.heap.size w (wr.alloc (.cells #[.string (kb p.1), .string p.2.nm, .bool p.2.vr, .slice os p.2.ts.length cs] 134))) := Lib.hid (HBW'.out.alloc HBW'.out.size _)
          have HCH := Lib.hid (check_any p.2 (.slice os p.2.ts.length cs) (wr.alloc (.cells #[.string (kb p.1), .string p.2.nm, .bool p.2.vr, .slice os p.2.ts.length cs] 134)) (hs.carry (HBW'.out.size |> fun h => ((Below.refl wr.heap.size wr).alloc (Nat.le_refl _) _).mono h) (by have := HBW'.out.size; simp; omega)) hpb)
          clear hp hpm hs
          go_wp2_with fail
          refine HCH.out.mono ?_
          rintro e w2 ⟨⟨c, rfl, hc⟩, hb2⟩
          have HC2 := Lib.hid hc
          have HB2 := Lib.hid (HBA.out.trans (hb2.mono HBA.out.size))
          clear hc hb2 HCH
          by_cases hc0 : c = 0
          · subst hc0
            have HOK := Lib.hid (HC2.out.1 rfl)
            go_wp2_with fail
            exact ⟨⟨j + 1, by omega, by go_num, Lib.hid (fun x hx => by
              rw [take_one_more HP.out] at hx
              rcases List.mem_append.1 hx with hx | hx
              · exact HT.out x hx
              · simp only [List.mem_singleton] at hx; subst hx; exact HOK.out), HB2⟩, by simp [intOf]; omega⟩
          · have hcn : (c != 0) = true := by rw [bne_iff_ne]; exact hc0
            have HC0 := Lib.hid hc0
            clear hc0
            go_wp2_with fail
            go_ret
            exact ⟨⟨c, rfl, Iff.intro (fun h => absurd h HC0.out) (fun h => HC2.out.2 (h.terms p HPM.out))⟩, HB2.out⟩
        · obtain rfl : j = bl.length := by omega
          have HOK : Hid (SubOk bl) := Lib.hid ⟨HS1.out.1, HS1.out.2, by have h := HT.out; rwa [List.take_length] at h⟩
          go_wp2_with fail
          go_ret
          exact ⟨⟨0, rfl, Iff.intro (fun _ => HOK.out) (fun _ => rfl)⟩, HBW'.out⟩
end Go.Proofs.YtamddagmlanijaaGreat
namespace Go.Proofs.YtamddagmlanijaaGreat
open Go.RowKit Go.Maps

/-- how an element of the map reads: as itself -/
def imgR (v : Value) : Option (DataW Value × List MemPlace) := some (.held v, [])
/-- a term with its measures -/
def imgVal (t : Tm) (s : Value) : Value := .agg #[.string t.nm, .bool t.vr, s, .int .i64 t.size, .int .i64 t.depth]
/-- what the map's datum D says of the bindings bl, their terms lying below n -/
structure ImgInv (n : Nat) (W : World) (D : DataW Value) (bl : List Bd) : Prop where
  tidy : Tidy D
  has : ∀ k, Maps.has D (.string k) = decide (k ∈ bl.map (·.1))
  at_ : ∀ p ∈ bl, ∃ s, (∀ z, D.atKey (.string p.1) z = .held (imgVal p.2 s)) ∧ SlIs n W p.2.ts s
theorem ImgInv.empty (n : Nat) (W : World) : ImgInv n W (.map []) [] := ⟨tidy_empty, fun k => by simp [Maps.has_eq], fun p h => by cases h⟩
theorem ImgInv.put {n : Nat} {W : World} {D : DataW Value} {bl : List Bd} (h : ImgInv n W D bl) {p : Bd} (hp : p.1 ∉ bl.map (·.1)) {s : Value} (hs : SlIs n W p.2.ts s) : ImgInv n W (D.put (.string p.1) (.held (imgVal p.2 s))) (bl ++ [p]) := by
  have hl : WideAt.IsKeyLit (.string p.1) := trivial
  refine ⟨h.tidy.put hl _, fun k => ?_, fun q hq => ?_⟩
  · by_cases e : k = p.1
    · subst e; rw [has_put_same h.tidy.isMap hl]; simp
    · rw [has_put_other (by simpa using e), h.has]; simp [e]
  · rcases List.mem_append.1 hq with hq | hq
    · obtain ⟨s', h1, h2⟩ := h.at_ q hq
      have e : q.1 ≠ p.1 := fun e => hp (by rw [← e]; exact List.mem_map.2 ⟨q, hq, rfl⟩)
      exact ⟨s', fun z => by rw [atKey_put_other (by simpa using e)]; exact h1 z, h2⟩
    · obtain rfl := List.mem_singleton.1 hq
      exact ⟨s, fun z => atKey_put_same h.tidy.isMap hl _ z, hs⟩
theorem ImgInv.carry {n m : Nat} {A B : World} {D : DataW Value} {bl : List Bd} (h : ImgInv n A D bl) (hb : Below n A B) (hn : n ≤ m) : ImgInv m B D bl :=
  ⟨h.tidy, h.has, fun p hp => by obtain ⟨s, h1, h2⟩ := h.at_ p hp; exact ⟨s, h1, h2.carry hb hn⟩⟩
/-- block mb holds the images of bl -/
def ImgMap (n mb : Nat) (W : World) (bl : List Bd) : Prop := ∃ D : DataW Value, W.ownsMap Tryz.prog 9 imgR mb bl.length D ∧ ImgInv n W D bl
theorem ImgMap.carry {n m mb : Nat} {A B : World} {bl : List Bd} (h : ImgMap n mb A bl) (hb : Below n A B) (hn : n ≤ m) (hm : B.heap[mb]? = A.heap[mb]?) : ImgMap m mb B bl := by
  obtain ⟨D, ⟨es, cl, hes, h1⟩, h2⟩ := h
  exact ⟨D, ⟨es, cl, hm.trans hes, h1⟩, h2.carry hb hn⟩
theorem keyOf_kb {k : Key} (h : k.length ≤ 1048576) : keyOf Tryz.prog 9 (.string (kb k)) = some (.string k) := by
  have := WideMaps.keyOf_string_mk (P := Tryz.prog) (s := kb k) Tryz.underlying9 (by show k.toArray.size ≤ _; unfold maxLen; simp; omega)
  rw [this, key_kb]
theorem SubOk.nodup {bl : List Bd} (h : SubOk bl) : (bl.map (·.1)).Nodup := by
  have key : ∀ (l : List Bd), (∀ i p q, l[i]? = some p → l[i + 1]? = some q → p.1 < q.1) → (l.map (·.1)).Pairwise (· < ·) := by
    intro l
    induction l with
    | nil => intro _; exact .nil
    | cons x l ih =>
      intro h
      have h2 := ih fun i p q hp hq => h (i + 1) p q (by simpa using hp) (by simpa using hq)
      refine List.Pairwise.cons (fun y hy => ?_) h2
      cases l with
      | nil => cases hy
      | cons z l =>
        have hxz := h 0 x z rfl rfl
        rcases List.mem_cons.1 hy with rfl | hy
        · exact hxz
        · exact List.lt_trans hxz ((List.pairwise_cons.1 h2).1 y hy)
  exact (key bl h.order).imp fun h e => by subst e; exact absurd h (List.lt_irrefl _)

theorem run_makeMap_hint {P : Program} (w : World) (t k e : TypeId) (n : Nat) (ht : P.underlying t = some (.map k e)) : (Instr.makeMap t (some (.int .i64 n))).run P w = .ok (.map (some w.heap.size)) (w.alloc (.map #[] 0)) := by
  simp [Instr.makeMap, run_underlying ht, asInt, asIntOf, Result.andThen]
theorem step_mapUpdate_in {H : Type} {P : Program} {w : World} {ops : Array Oper} {o : Oper} {a : Act} {K : Act → World → Prop} {Q : Exit → Act → World → Prop} {E : Prop} (hg : o.guard = none) (m x v : Operand) (t : TypeId) (hop : o.op = Op.mapUpdate t m x v)
    (k e : TypeId) (Ky : Keyed P k) (ht : P.underlying t = some (.map k e)) (R : Value → Option (DataW H × List MemPlace)) (b n : Nat) (D : DataW H)
    (hm : a.eval m = .map (some b)) (hown : w.ownsMap P k R b n D) (hn : n < maxLen) (key val : Value) (kl : Lit) (hx : a.eval x = key) (hv : a.eval v = val) (hkey : keyOf P k key = some kl)
    (d : DataW H) (ps : List MemPlace) (hval : R val = some (d, ps))
    (hK : ∀ w', w'.ownsMap P k R b (n + 1) (D.put kl d) → w.mapTurned w' b → K (a.put o.dst undef) w') :
    if Region.wanted o (yielded ops a.tmps) = true then Oper.wp P o a w K Q else E := by
  have hw : Region.wanted o (yielded ops a.tmps) = true := by simp [Region.wanted, hg]
  rw [if_pos hw]
  obtain ⟨w', hrun, r1, r2⟩ := hown.store Ky ht hn hkey hval
  unfold Oper.wp
  simp [execOp, hop, hm, hx, hv, hrun, Result.andThen]
  exact hK w' r1 r2

set_option maxRecDepth 100000 in
set_option maxHeartbeats 4000000 in
theorem images_any (bl : List Bd) (v : Value) (w : World) (hl : BindsIs w.heap.size w bl v) (hb : bdBulk bl ≤ 1048576) (hnd : (bl.map (·.1)).Nodup) :
    Calls Tryz.prog 177 #[v] w fun e w' => (e = .returned (.map (some w.heap.size)) ∧ ImgMap w.heap.size w.heap.size w' bl) ∧ Below w.heap.size w w' := by
  have hl' := hl
  obtain ⟨oa, cap, rfl, hcap, -⟩ := hl'
  have HL := Lib.hid hl
  have HB := Lib.hid hb
  have HND := Lib.hid hnd
  have hlen := Nat.le_trans (bdBulk_len bl) hb
  have hmm := run_makeMap_hint (P := Tryz.prog) w 238 9 301 bl.length Tryz.underlying238
  clear hl hb hnd
  go_enter Tryz.func177, Tryz.ntmps177
  go_wp2_with fail
  have hmb : w.heap.size ≤ w.heap.size := Nat.le_refl _
  obtain ⟨mb, hmbe⟩ : ∃ mb, mb = w.heap.size := ⟨_, rfl⟩
  go_loopw [5, 11] (fun _ i wr => ∃ j : Nat, j ≤ bl.length ∧ i = .int .i64 j ∧ (∃ D : DataW Value, Hid (wr.ownsMap Tryz.prog 9 imgR w.heap.size j D) ∧ Hid (ImgInv w.heap.size w D (bl.take j))) ∧ Hid (Below w.heap.size w wr)) (fun _ i _ => bl.length - (intOf i).toNat)
  case atStart => exact ⟨0, by omega, rfl, ⟨_, Lib.hid (World.ownsMap_made w _ _ _), Lib.hid (ImgInv.empty _ _)⟩, Lib.hid (by go_grown)⟩
  case round =>
    obtain ⟨j, hj, rfl, ⟨D, HO, HINV⟩, HBW⟩ := hrel
    by_cases hlt : j < bl.length
    · obtain ⟨b, o, p, s, rfl, hbn, hp, hpm, HS', c0, c1, c2, c3⟩ := HL.out.get hlt
      obtain ⟨os, cs, rfl, -⟩ := HS'.form
      have HS := Lib.hid HS'
      have c0 := (HBW.out.cell (p := ⟨b, _, none⟩) hbn).trans c0
      have c1 := (HBW.out.cell (p := ⟨b, _, none⟩) hbn).trans c1
      have c2 := (HBW.out.cell (p := ⟨b, _, none⟩) hbn).trans c2
      have c3 := (HBW.out.cell (p := ⟨b, _, none⟩) hbn).trans c3
      have hpb : p.2.bulk ≤ 1048576 := by have := bdBulk_mem hpm; have := HB.out; omega
      have hpk : p.1.length ≤ 1048576 := by have := bdBulk_mem hpm; have := HB.out; omega
      have hbw : w.heap.size < wr.heap.size := by
        obtain ⟨es, cl, hes, _⟩ := HO.out
        exact (Array.getElem?_eq_some_iff.1 hes).1
      have hnot : p.1 ∉ (bl.take j).map (·.1) := by
        intro hm
        have h := HND.out
        rw [← List.take_append_drop (j + 1) bl, take_one_more hp, List.map_append, List.map_append] at h
        have h2 := (List.nodup_append.1 h).1
        exact (List.nodup_append.1 h2).2.2 _ hm _ (by simp) rfl
      have HINV2 : Hid (ImgInv w.heap.size w (D.put (.string p.1) (.held (imgVal p.2 (.slice os p.2.ts.length cs)))) (bl.take (j + 1))) := Lib.hid (by rw [take_one_more hp]; exact HINV.out.put hnot HS')
      clear HS' hnot hp hpm
      go_wp2_with fail
      have hbx := box4 (heap_new_at wr (.cells #[.string (kb p.1), .string p.2.nm, .bool p.2.vr, .slice os p.2.ts.length cs] 134) wr.heap.size rfl)
      have HBX := Lib.hid hbx
      have HA0 : Hid (Below wr.heap.size wr (wr.alloc (.cells #[.string (kb p.1), .string p.2.nm, .bool p.2.vr, .slice os p.2.ts.length cs] 134)).drew) := Lib.hid (by go_grown)
      have HHP := Lib.hid (heap_new_at wr (.cells #[.string (kb p.1), .string p.2.nm, .bool p.2.vr, .slice os p.2.ts.length cs] 134) wr.heap.size rfl)
      clear hbx
      refine wp_region_noPanic ?_
      refine wp_region_held_drew (S := fun w' => w'.cell? ⟨wr.heap.size, 0, none⟩ = some (.string (kb p.1)) ∧ w'.cell? ⟨wr.heap.size, 1, none⟩ = some (.string p.2.nm) ∧ w'.cell? ⟨wr.heap.size, 2, none⟩ = some (.bool p.2.vr) ∧ w'.cell? ⟨wr.heap.size, 3, none⟩ = some (.slice os p.2.ts.length cs)) (by kernel_rfl) HBX.out (fun _ => ?_)
      simp only [List.size_toArray, List.length_cons, List.length_nil, Nat.reduceAdd]
      refine wpAnyH_take (i := 0) (v := ?_) (by simp only [List.getElem?_toArray, List.getElem?_cons_zero]; rfl) (by kernel_rfl) (by kernel_rfl) (by kernel_rfl) (fun _ _ _ h => h) (Or.inl ⟨by rfl, ?_⟩) HBX.out ?_
      case refine_2 => (intro ww hSw; obtain ⟨s0, s1, s2, s3⟩ := hSw; go_simp; try with_reducible rfl)
      try simp only [Act.put, List.setIfInBounds_toArray, List.set_cons_zero, List.set_cons_succ]
      refine wpAnyH_take (i := 1) (v := ?_) (by simp only [List.getElem?_toArray, List.getElem?_cons_zero, List.getElem?_cons_succ]; rfl) (by kernel_rfl) (by kernel_rfl) (by kernel_rfl) (fun _ _ _ h => h) (Or.inl ⟨by rfl, ?_⟩) HBX.out ?_
      case refine_2 => (intro ww hSw; obtain ⟨s0, s1, s2, s3⟩ := hSw; go_simp; try with_reducible rfl)
      try simp only [Act.put, List.setIfInBounds_toArray, List.set_cons_zero, List.set_cons_succ]
      refine wpAnyH_take (i := 2) (v := ?_) (by simp only [List.getElem?_toArray, List.getElem?_cons_zero, List.getElem?_cons_succ]; rfl) (by kernel_rfl) (by kernel_rfl) (by kernel_rfl) (fun _ _ _ h => h) (Or.inl ⟨by rfl, ?_⟩) HBX.out ?_
      case refine_2 => (intro ww hSw; obtain ⟨s0, s1, s2, s3⟩ := hSw; go_simp; try with_reducible rfl)
      try simp only [Act.put, List.setIfInBounds_toArray, List.set_cons_zero, List.set_cons_succ]
      refine wpAnyH_take (i := 3) (v := ?_) (by simp only [List.getElem?_toArray, List.getElem?_cons_zero, List.getElem?_cons_succ]; rfl) (by kernel_rfl) (by kernel_rfl) (by kernel_rfl) (fun _ _ _ h => h) (Or.inl ⟨by rfl, ?_⟩) HBX.out ?_
      case refine_2 => (intro ww hSw; obtain ⟨s0, s1, s2, s3⟩ := hSw; go_simp; try with_reducible rfl)
      try simp only [Act.put, List.setIfInBounds_toArray, List.set_cons_zero, List.set_cons_succ]
      refine wpAnyH_take (i := 4) (v := ?_) (by simp only [List.getElem?_toArray, List.getElem?_cons_zero, List.getElem?_cons_succ]; rfl) (by kernel_rfl) (by kernel_rfl) (by kernel_rfl) (fun _ _ _ h => h) (Or.inl ⟨by rfl, ?_⟩) HBX.out ?_
      case refine_2 => (intro ww hSw; obtain ⟨s0, s1, s2, s3⟩ := hSw; go_simp; try with_reducible rfl)
      try simp only [Act.put, List.setIfInBounds_toArray, List.set_cons_zero, List.set_cons_succ]
      refine wpAnyH_take (i := 5) (v := ?_) (by simp only [List.getElem?_toArray, List.getElem?_cons_zero, List.getElem?_cons_succ]; rfl) (by kernel_rfl) (by kernel_rfl) (by kernel_rfl) (fun _ _ _ h => h) (Or.inl ⟨by rfl, ?_⟩) HBX.out ?_
      case refine_2 => (intro ww hSw; obtain ⟨s0, s1, s2, s3⟩ := hSw; go_simp; try with_reducible rfl)
      try simp only [Act.put, List.setIfInBounds_toArray, List.set_cons_zero, List.set_cons_succ]
      refine wpAnyH_take (i := 6) (v := ?_) (by simp only [List.getElem?_toArray, List.getElem?_cons_zero, List.getElem?_cons_succ]; rfl) (by kernel_rfl) (by kernel_rfl) (by kernel_rfl) (fun _ _ _ h => h) (Or.inl ⟨by rfl, ?_⟩) HBX.out ?_
      case refine_2 => (intro ww hSw; obtain ⟨s0, s1, s2, s3⟩ := hSw; go_simp; try with_reducible rfl)
      try simp only [Act.put, List.setIfInBounds_toArray, List.set_cons_zero, List.set_cons_succ]
      refine wpAnyH_take (i := 8) (v := ?_) (by simp only [List.getElem?_toArray, List.getElem?_cons_zero, List.getElem?_cons_succ]; rfl) (by kernel_rfl) (by kernel_rfl) (by kernel_rfl) (fun _ _ _ h => h) (Or.inl ⟨by rfl, ?_⟩) HBX.out ?_
      case refine_2 => (intro ww hSw; obtain ⟨s0, s1, s2, s3⟩ := hSw; go_simp; try with_reducible rfl)
      try simp only [Act.put, List.setIfInBounds_toArray, List.set_cons_zero, List.set_cons_succ]
      refine wpAnyH_take (i := 9) (v := ?_) (by simp only [List.getElem?_toArray, List.getElem?_cons_zero, List.getElem?_cons_succ]; rfl) (by kernel_rfl) (by kernel_rfl) (by kernel_rfl) (fun _ _ _ h => h) (Or.inl ⟨by rfl, ?_⟩) HBX.out ?_
      case refine_2 => (intro ww hSw; obtain ⟨s0, s1, s2, s3⟩ := hSw; go_simp; try with_reducible rfl)
      try simp only [Act.put, List.setIfInBounds_toArray, List.set_cons_zero, List.set_cons_succ]
      refine wpAnyH_ready (rs := [7]) (by kernel_rfl) (by simp) ?_
      refine AllReadyH.cons (by simp only [List.getElem?_toArray, List.getElem?_cons_zero, List.getElem?_cons_succ]; rfl) (fun K' hK => ?_) AllReadyH.nil
      go_simp
      refine (tsize_any p.2 _ _ (HS.out.carry ((HBW.out.trans (HA0.out.mono HBW.out.size))) (Nat.le_trans HBW.out.size HA0.out.size)) hpb).mono ?_
      rintro e V1 ⟨rfl, hb1⟩
      have hh1 := (hb1.block wr.heap.size (by simp)).trans HHP.out
      have HHP1 := Lib.hid hh1
      have HBX1 := Lib.hid (box4 hh1)
      have HA1 := Lib.hid (HA0.out.trans (hb1.mono HA0.out.size))
      clear hb1 hh1
      refine hK.out _ _ HBX1.out (fun _ => ?_)
      clear hK
      try simp only [Act.put, List.setIfInBounds_toArray, List.set_cons_zero, List.set_cons_succ]
      refine wpAnyH_ready (rs := [10]) (by kernel_rfl) (by simp) ?_
      refine AllReadyH.cons (by simp only [List.getElem?_toArray, List.getElem?_cons_zero, List.getElem?_cons_succ]; rfl) (fun K' hK => ?_) AllReadyH.nil
      go_simp
      refine (tdepth_any p.2 _ _ (HS.out.carry ((HBW.out.trans (HA1.out.mono HBW.out.size))) (Nat.le_trans HBW.out.size HA1.out.size)) hpb).mono ?_
      rintro e V2 ⟨rfl, hb2⟩
      have hh2 := (hb2.block wr.heap.size (by have := HA1.out.size; have := (Array.getElem?_eq_some_iff.1 HHP1.out).1; omega)).trans HHP1.out
      have HHP2 := Lib.hid hh2
      have HBX2 := Lib.hid (box4 hh2)
      have HA2 := Lib.hid (HA1.out.trans (hb2.mono HA1.out.size))
      clear hb2 hh2
      refine hK.out _ _ HBX2.out (fun _ => ?_)
      clear hK
      try simp only [Act.put, List.setIfInBounds_toArray, List.set_cons_zero, List.set_cons_succ]
      refine wpAnyH_take (i := 11) (v := ?_) (by simp only [List.getElem?_toArray, List.getElem?_cons_zero, List.getElem?_cons_succ]; rfl) (by kernel_rfl) (by kernel_rfl) (by kernel_rfl) (fun _ _ _ h => h) (Or.inl ⟨by rfl, ?_⟩) HBX2.out ?_
      case refine_2 => (intro ww hSw; obtain ⟨s0, s1, s2, s3⟩ := hSw; go_simp; try with_reducible rfl)
      try simp only [Act.put, List.setIfInBounds_toArray, List.set_cons_zero, List.set_cons_succ]
      refine wpAnyH_ready (rs := [12]) (by kernel_rfl) (by simp) ?_
      refine AllReadyH.cons (by simp only [List.getElem?_toArray, List.getElem?_cons_zero, List.getElem?_cons_succ]; rfl) (fun K' hK => ?_) AllReadyH.nil
      refine step_mapUpdate_in rfl (.tmp 15) (.tmp 17) (.tmp 26) 238 rfl 9 301 strKeyed Tryz.underlying238 imgR w.heap.size j D rfl (HO.out.kept (below_grown HA2.out) (by simp)) (by unfold maxLen; omega) (.string (kb p.1)) (imgVal p.2 (.slice os p.2.ts.length cs)) (.string p.1) rfl rfl (keyOf_kb hpk) (.held (imgVal p.2 (.slice os p.2.ts.length cs))) [] rfl ?_
      intro V3 ho3 ht3
      have hg3 := ht3.grown
      have hz2 := HA2.out.size
      have hh3 := (hg3.block wr.heap.size (by have := (Array.getElem?_eq_some_iff.1 HHP2.out).1; omega) (fun e => by simp at e; omega)).trans HHP2.out
      have HBX3 := Lib.hid (box4 hh3)
      have HB3 := Lib.hid ((HBW.out.trans (HA2.out.mono HBW.out.size)).grown hg3 (by have := HBW.out.size; omega) (fun k hk => by simp at hk; omega))
      have HO3 := Lib.hid ho3
      clear hg3 hh3 ho3 ht3
      refine hK.out _ _ HBX3.out (fun _ => ?_)
      clear hK
      refine wpAnyH_done (by kernel_rfl) ?_ _
      refine NoPanic.normal ?_
      go_wp2_with fail
      exact ⟨⟨j + 1, by omega, by go_num, ⟨_, HO3, HINV2⟩, HB3⟩, by simp [intOf]; omega⟩
    · obtain rfl : j = bl.length := by omega
      have HE : Hid (bl.take bl.length = bl) := Lib.hid (List.take_length)
      go_wp2_with fail
      go_ret
      exact ⟨⟨rfl, D, HO.out, by have h := HINV.out; rw [HE.out] at h; exact h.carry HBW.out (Nat.le_refl _)⟩, HBW.out⟩
end Go.Proofs.YtamddagmlanijaaGreat
/- Places in a term: locate, and a store at a place of a term of its own. -/
namespace Go.Proofs.YtamddagmlanijaaGreat
open Go.RowKit

/-- the argument number i -/
def Tm.kid (t : Tm) (i : Int) : Option Tm := if 0 ≤ i then t.ts[i.toNat]? else none
def Tm.at : Tm → List Int → Option Tm
  | t, [] => some t
  | t, i :: l => match t.kid i with | some u => u.at l | none => none
def Tm.put : Tm → List Int → Tm → Tm
  | _, [], u => u
  | t, i :: l, u => match t.kid i with | some x => .mk t.nm t.vr (t.ts.set i.toNat (x.put l u)) | none => t
/-- the slice value v holds the integers l -/
structure PosIs (n₀ : Nat) (W : World) (l : List Int) (v : Value) : Prop where
  form : ∃ oa cap, v = .slice oa l.length cap ∧ (l ≠ [] → ∃ b o, oa = some ⟨b, o, none⟩ ∧ b < n₀ ∧ ∀ (i : Nat) x, l[i]? = some x → W.cell? ⟨b, o + i, none⟩ = some (.int .i64 x))
theorem PosIs.carry {n₀ n₁ : Nat} {A B : World} (h : Below n₀ A B) (hn : n₀ ≤ n₁) {l : List Int} {s : Value} (hs : PosIs n₀ A l s) : PosIs n₁ B l s := by
  obtain ⟨oa, cap, rfl, hf⟩ := hs.form
  refine ⟨oa, cap, rfl, fun hne => ?_⟩
  obtain ⟨b, o, rfl, hb, hc⟩ := hf hne
  exact ⟨b, o, rfl, by omega, fun i x hx => (h.cell (p := ⟨b, _, none⟩) hb).trans (hc i x hx)⟩

/-- the cells at an address are the term's -/
structure Loc (n₀ : Nat) (W : World) (t : Tm) (b o : Nat) : Prop where
  cells : ∃ s, W.cell? ⟨b, o, none⟩ = some (.string t.nm) ∧ W.cell? ⟨b, o + 1, none⟩ = some (.bool t.vr) ∧ W.cell? ⟨b, o + 2, none⟩ = some s ∧ SlIs n₀ W t.ts s

/-- from address to address, argument by argument -/
inductive Steps (W : World) : Nat → Nat → List Int → Nat → Nat → Prop
  | nil (b o : Nat) : Steps W b o [] b o
  | cons (b o : Nat) (i : Int) (l : List Int) (b1 o1 n cap b' o' : Nat) : 0 ≤ i → W.cell? ⟨b, o + 2, none⟩ = some (.slice (some ⟨b1, o1, none⟩) n cap) → Steps W b1 (o1 + i.toNat * 3) l b' o' → Steps W b o (i :: l) b' o'

set_option maxRecDepth 100000 in
set_option maxHeartbeats 1000000 in
theorem locate_any (t : Tm) (b o n₀ : Nat) (l : List Int) (v : Value) (w : World) (ht : Loc n₀ w t b o) (hl : PosIs n₀ w l v) (hll : l.length ≤ 1048576) (hb : t.bulk ≤ 1048576) :
    Calls Tryz.prog 179 #[.pointer (some ⟨b, o, none⟩), v] w fun e w' =>
      ((∃ u b' o', e = .returned (.pointer (some ⟨b', o', none⟩)) ∧ t.at l = some u ∧ Loc n₀ w u b' o' ∧ Steps w b o l b' o') ∨ (e = .returned (.pointer none) ∧ t.at l = none)) ∧ w' = w := by
  obtain ⟨oa, cap, rfl, hp⟩ := hl.form
  have HP := Lib.hid hp
  have HT := Lib.hid ht
  clear hp hl ht
  go_enter Tryz.func179, Tryz.ntmps179
  go_wp2_with fail
  go_loopw [0, 9] (fun at_ i wr => ∃ (j : Nat) (u : Tm) (b1 o1 : Nat), j ≤ l.length ∧ at_ = .pointer (some ⟨b1, o1, none⟩) ∧ i = .int .i64 j ∧ wr = w ∧ u.bulk ≤ 1048576 ∧
      Hid (Loc n₀ w u b1 o1 ∧ t.at l = u.at (l.drop j) ∧ ∀ b2 o2, Steps w b1 o1 (l.drop j) b2 o2 → Steps w b o l b2 o2)) (fun _ i _ => l.length - (intOf i).toNat)
  case atStart => exact ⟨0, t, b, o, by omega, rfl, rfl, rfl, hb, Lib.hid ⟨HT.out, by simp, fun _ _ h => by simpa using h⟩⟩
  case round =>
    obtain ⟨j, u, b1, o1, hj, rfl, rfl, rfl, hub, HH⟩ := hrel
    by_cases hlt : j < l.length
    · obtain ⟨x, hx⟩ : ∃ x, l[j]? = some x := ⟨_, List.getElem?_eq_getElem hlt⟩
      have hne : l ≠ [] := by rintro rfl; simp at hlt
      obtain ⟨b3, o3, rfl, hb3, hc3⟩ := HP.out hne
      have hcx := hc3 j x hx
      obtain ⟨s, c0, c1, c2, hs⟩ := HH.out.1.cells
      have hsz := Tm.size_bulk u
      have hls := Tm.length_sizes u.ts
      have hse := Tm.size_eq u
      have hul : u.ts.length ≤ 1048576 := by omega
      obtain ⟨oa2, cap2, rfl, -⟩ := hs.form
      have HDR : Hid (l.drop j = x :: l.drop (j + 1)) := Lib.hid (by rw [List.drop_eq_getElem_cons hlt]; rw [List.getElem?_eq_getElem hlt] at hx; cases hx; rfl)
      have HS := Lib.hid hs
      clear hs hx hc3 hsz hls hse
      by_cases hneg : x < 0
      · go_wp2_with fail
        go_ret
        refine ⟨.inr ⟨rfl, ?_⟩, rfl⟩
        rw [HH.out.2.1, HDR.out]
        simp only [Tm.at, Tm.kid, if_neg (show ¬ (0 ≤ x) by omega)]
      · by_cases hge : (u.ts.length : Int) ≤ x
        · go_wp2_with fail
          go_ret
          refine ⟨.inr ⟨rfl, ?_⟩, rfl⟩
          rw [HH.out.2.1, HDR.out]
          simp only [Tm.at, Tm.kid, if_pos (show (0 ≤ x) by omega), List.getElem?_eq_none (show u.ts.length ≤ x.toNat by omega)]
        · obtain ⟨k, rfl⟩ : ∃ k : Nat, x = (k : Int) := ⟨x.toNat, by omega⟩
          have hk : k < u.ts.length := by omega
          obtain ⟨b4, o4, u2, s2, rfl, hb4, hu2, hum2, hus2, d1, d2, d3⟩ := HS.out.get hk
          have HU2 := Lib.hid hu2
          have HM2 := Lib.hid hum2
          have HS2 := Lib.hid hus2
          clear hu2 hum2 hus2
          go_wp2_with fail
          refine ⟨⟨j + 1, u2, b4, o4 + k * 3, by omega, rfl, by push_cast; rfl, trivial, by have := Tm.bulk_mem HM2.out; have := Tm.bulk_eq u; omega, Lib.hid ⟨⟨s2, d1, d2, d3, HS2.out⟩, ?_, fun b2 o2 h => ?_⟩⟩, by simp only [intOf]; omega⟩
          · rw [HH.out.2.1, HDR.out]
            simp only [Tm.at, Tm.kid, if_pos (show (0 : Int) ≤ (k : Int) by omega), Int.toNat_natCast, HU2.out]
          · refine HH.out.2.2 b2 o2 ?_
            rw [HDR.out]
            exact .cons _ _ _ _ b4 o4 _ _ _ _ (by omega) c2 (by rw [Int.toNat_natCast]; exact h)
    · go_wp2_with fail
      go_ret
      have hd : l.drop j = [] := List.drop_eq_nil_of_le (by omega)
      have h1 := HH.out
      rw [hd] at h1
      exact ⟨.inl ⟨u, b1, o1, rfl, h1.2.1, h1.1, h1.2.2 _ _ (.nil _ _)⟩, rfl⟩
end Go.Proofs.YtamddagmlanijaaGreat
/- Precedences: what is said of them, and how they lie. No program stands here. -/
namespace Go.Proofs.YtamddagmlanijaaGreat
open Go.RowKit

/-- an entry: name, rank, weight -/
abbrev Rk := Key × Int × Int
/-- the slice value v holds these entries, in blocks below n -/
def RksIs (n : Nat) (W : World) (l : List Rk) (v : Value) : Prop :=
  ∃ oa cap, v = .slice oa l.length cap ∧ l.length ≤ cap ∧
    (l ≠ [] → ∃ b o, oa = some ⟨b, o, none⟩ ∧ b < n ∧ ∀ i p, l[i]? = some p → W.cell? ⟨b, o + i * 3, none⟩ = some (.string (kb p.1)) ∧ W.cell? ⟨b, o + i * 3 + 1, none⟩ = some (.int .i64 p.2.1) ∧ W.cell? ⟨b, o + i * 3 + 2, none⟩ = some (.int .i64 p.2.2))
theorem RksIs.carry {n m : Nat} {A B : World} {l : List Rk} {v : Value} (h : RksIs n A l v) (hb : Below n A B) (hn : n ≤ m) : RksIs m B l v := by
  obtain ⟨oa, cap, rfl, h1, h3⟩ := h
  refine ⟨oa, cap, rfl, h1, fun hne => ?_⟩
  obtain ⟨b, o, rfl, hbn, hc⟩ := h3 hne
  refine ⟨b, o, rfl, by omega, fun i p hk => ?_⟩
  obtain ⟨c0, c1, c2⟩ := hc i p hk
  exact ⟨(hb.cell (p := ⟨b, _, none⟩) hbn).trans c0, (hb.cell (p := ⟨b, _, none⟩) hbn).trans c1, (hb.cell (p := ⟨b, _, none⟩) hbn).trans c2⟩

/-- the names are those of symbols, and increase -/
def NmsOk (l : List Rk) : Prop := ∀ i p, l[i]? = some p → isName (kb p.1) true = true ∧ ∀ q, 0 < i → l[i - 1]? = some q → q.1 < p.1
/-- the ranks fit, and there are no weights -/
def RksOk (l : List Rk) : Prop := ∀ p ∈ l, 0 ≤ p.2.1 ∧ p.2.1 ≤ 1000 ∧ p.2.2 = 0
structure PrecOk (l : List Rk) : Prop where
  len : l.length ≤ 256
  nms : NmsOk l
  rks : RksOk l
/-- names increase from any to any later -/
theorem NmsOk.lt {l : List Rk} (h : NmsOk l) {i j : Nat} {p q : Rk} (hij : i < j) (hp : l[i]? = some p) (hq : l[j]? = some q) : p.1 < q.1 := by
  induction j generalizing q with
  | zero => omega
  | succ j ih =>
    have hj := (List.getElem?_eq_some_iff.1 hq).1
    have hm : l[j]? = some l[j] := List.getElem?_eq_getElem (by omega)
    have h1 := (h (j + 1) q hq).2 l[j] (by omega) hm
    rcases Nat.lt_or_ge i j with e | e
    · exact List.lt_trans (ih e hm) h1
    · obtain rfl : i = j := by omega
      rw [hm] at hp; cases hp; exact h1
end Go.Proofs.YtamddagmlanijaaGreat
/- What an argument reads as: precedences, three terms. -/
namespace Go.Proofs.YtamddagmlanijaaGreat
open Go.RowKit Go.ChangeShapes Go.WideShapes Go.ChangeAt Go.Deep

instance : Inhabited Rk := ⟨([], 0, 0)⟩
section
variable {H : Type} {enc : TypeId × Value → H} {w : World} (sp : Nat → Bool)
end
end Go.Proofs.YtamddagmlanijaaGreat
/- Merged: RdB, RdX, RdW. -/
/- What an argument reads as: bindings in memory. -/
namespace Go.Proofs.YtamddagmlanijaaGreat
open Go.RowKit Go.ChangeShapes Go.WideShapes Go.ChangeAt Go.Deep

instance : Inhabited Bd := ⟨([], .mk ⟨#[]⟩ false [])⟩
section
variable {H : Type} {enc : TypeId × Value → H} {w : World} (sp : Nat → Bool)
end
end Go.Proofs.YtamddagmlanijaaGreat
/- What an argument reads as: two terms; a substitution, a term and a position. -/
namespace Go.Proofs.YtamddagmlanijaaGreat
open Go.RowKit Go.ChangeShapes Go.WideShapes Go.ChangeAt Go.Deep

theorem cellsIntX : Tryz.prog.cellsOf 3 = 1 := by kernel_rfl
theorem bulk_posX {H : Type} (d : DataW H) : 1 ≤ Rows.uptoBulk d := by
  cases d with
  | lit l => cases l <;> simp [Rows.uptoBulk]
  | nil => simp [Rows.uptoBulk]
  | ptr d => simp [Rows.uptoBulk]
  | slice elems spare => simp [Rows.uptoBulk]
  | agg parts => simp [Rows.uptoBulk]
  | iface t d => simp [Rows.uptoBulk]
  | map entries => simp [Rows.uptoBulk]
  | held h => simp [Rows.uptoBulk]
theorem bulk_lengthX {H : Type} (l : List (DataW H)) : l.length ≤ Rows.uptoBulkAll l := by
  induction l with
  | nil => simp [Rows.uptoBulkAll]
  | cons x r ih => have := bulk_posX x; simp only [Rows.uptoBulkAll, List.length_cons]; omega
theorem pos_openX {H : Type} (enc : TypeId × Value → H) (W : World) (n : Nat) (cs : List Value) (x : DataW H × List MemPlace) (h : DataW.trod enc Tryz.prog W 0 (fun _ => true) true n 34 cs = some x) :
    ∃ (l : List Int) (v : Value), cs = [v] ∧ PosIs W.heap.size W l v ∧ l.length ≤ Rows.uptoBulk x.1 ∧ (∀ oa m k, v = .slice oa m k → m ≤ k) := by
  rcases open_ints Tryz.underlying34 Tryz.underlying3 cellsIntX h with ⟨rfl, rfl⟩ | ⟨a, len, cap, zs, rfl, hba, hlc, hcm, hzl, rfl, hcell, -⟩
  · exact ⟨[], _, rfl, ⟨_, _, rfl, fun h => absurd rfl h⟩, by simp, by rintro oa m k ⟨⟩; exact Nat.le_refl _⟩
  · simp only [if_true] at hzl
    have hll : (zs.take len).length = len := by simp; omega
    refine ⟨zs.take len, _, rfl, ⟨some a, cap, by rw [hll], fun hne => ?_⟩, ?_, by rintro oa m k ⟨⟩; exact hlc⟩
    · have hpos : 0 < len := by
        cases len with
        | zero => exact absurd rfl hne
        | succ n => omega
      have h0 := hcell 0 (by omega)
      have e0 : a.add 0 = a := by simp [Addr.add]
      rw [e0] at h0
      have hsp := World.cell?_spot h0
      obtain ⟨ab, ao, asp⟩ := a
      simp only at hsp; subst hsp
      refine ⟨ab, ao, rfl, World.block_lt_of_cell? W _ h0, fun i x hx => ?_⟩
      have hi : i < len := by have := (List.getElem?_eq_some_iff.1 hx).1; omega
      have hc := hcell i (by omega)
      rw [addr_add] at hc
      rw [hc]
      rw [List.getElem?_take, if_pos hi] at hx
      rw [List.getD_eq_getElem?_getD, hx]; rfl
    · rw [hll]
      simp only [Rows.uptoBulk]
      have := bulk_lengthX (H := H) (lits .i64 (zs.take len))
      rw [show (lits (H := H) IntKind.i64 (zs.take len)).length = len by rw [lits, List.length_map]; exact hll] at this
      omega
section
variable {H : Type} {enc : TypeId × Value → H} {w : World} (sp : Nat → Bool)
theorem sp_intsX (k : Nat) : SpAt enc Tryz.prog w sp k 34 := by
  match k with
  | 0 => exact sp_zero sp _
  | k + 1 => exact sp_slice sp Tryz.underlying34 (by rw [cellsIntX]; omega) (sp_int sp Tryz.underlying3 k)
end
end Go.Proofs.YtamddagmlanijaaGreat
/- What an argument reads as: a weight order. -/
namespace Go.Proofs.YtamddagmlanijaaGreat
open Go.RowKit Go.ChangeShapes Go.WideShapes Go.ChangeAt Go.Deep

section
variable {H : Type} {enc : TypeId × Value → H} {w : World} (sp : Nat → Bool)
end
end Go.Proofs.YtamddagmlanijaaGreat
