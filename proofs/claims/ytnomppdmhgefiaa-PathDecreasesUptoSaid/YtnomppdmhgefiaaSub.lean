/- CheckSubst. images: a map from names to terms with their measures. -/
import Derived.WalkKit
import Derived.ProofKit
import Derived.OpenShut
import Derived.Handy
import Derived.Lib.Hide
import Derived.BigQuiet
import Derived.Sort.Walk0
import Derived.Laws.Cover1
import Derived.Test.YtnomppdmhgefiaaBind
import Derived.Test.YtnomppdmhgefiaaRck
import Derived.Deep.RegionHeld3
import Derived.StringKeys
import Derived.Maps.OwnSet
import Derived.Maps.OwnOps
import Derived.Test.YtnomppdmhgefiaaVarP
namespace Go.Proofs.Ytnomppdmhgefiaa
open Go.RowKit

/-- the substitutions that CheckSubst lets by -/
structure SubOk (bl : List Bd) : Prop where
  names : ∀ p ∈ bl, isName (kb p.1) false = true
  order : ∀ i p q, bl[i]? = some p → bl[i + 1]? = some q → p.1 < q.1
  terms : ∀ p ∈ bl, p.2.ok
theorem less_yes {a b : Key} (h : a < b) : Op.bytesLess (kb a).toList (kb b).toList = true := by rw [kb_toList, kb_toList, bytesLess_eq]; exact decide_eq_true h
theorem less_no {a b : Key} (h : ¬ a < b) : Op.bytesLess (kb a).toList (kb b).toList = false := by rw [kb_toList, kb_toList, bytesLess_eq]; exact decide_eq_false h
def bdBulk (bl : List Bd) : Nat := max bl.length (bl.foldr (fun p a => max (1 + p.1.length + p.2.bulk) a) 0)
theorem bdBulk_mem {bl : List Bd} {p : Bd} (h : p ∈ bl) : 1 + p.1.length + p.2.bulk ≤ bdBulk bl := by
  unfold bdBulk
  refine Nat.le_trans ?_ (Nat.le_max_right _ _)
  induction bl with
  | nil => cases h
  | cons x l ih =>
    rw [List.foldr_cons]
    rcases List.mem_cons.1 h with rfl | h
    · exact Nat.le_max_left _ _
    · exact Nat.le_trans (ih h) (Nat.le_max_right _ _)
theorem bdBulk_len (bl : List Bd) : bl.length ≤ bdBulk bl := Nat.le_max_left _ _
theorem bdBulk_le {bl : List Bd} {k : Nat} (h1 : bl.length ≤ k) (h2 : ∀ p ∈ bl, 1 + p.1.length + p.2.bulk ≤ k) : bdBulk bl ≤ k := by
  unfold bdBulk
  refine Nat.max_le.2 ⟨h1, ?_⟩
  clear h1
  induction bl with
  | nil => exact Nat.zero_le _
  | cons x l ih => rw [List.foldr_cons]; exact Nat.max_le.2 ⟨h2 x (by simp), ih fun p hp => h2 p (by simp [hp])⟩
/-- a binding's cells -/
theorem BindsIs.get {n : Nat} {W : World} {bl : List Bd} {oa : Option Addr} {cap k : Nat} (h : BindsIs n W bl (.slice oa bl.length cap)) (hk : k < bl.length) :
    ∃ (b o : Nat) (p : Bd) (s : Value), oa = some ⟨b, o, none⟩ ∧ b < n ∧ bl[k]? = some p ∧ p ∈ bl ∧ SlIs n W p.2.ts s ∧
      W.cell? ⟨b, o + k * 4, none⟩ = some (.string (kb p.1)) ∧ W.cell? ⟨b, o + k * 4 + 1, none⟩ = some (.string p.2.nm) ∧ W.cell? ⟨b, o + k * 4 + 2, none⟩ = some (.bool p.2.vr) ∧ W.cell? ⟨b, o + k * 4 + 3, none⟩ = some s := by
  obtain ⟨oa', cap', he, -, h3⟩ := h
  simp only [Value.slice.injEq, true_and] at he
  obtain ⟨rfl, rfl⟩ := he
  obtain ⟨b, o, rfl, hb, hc⟩ := h3 (by rintro rfl; simp at hk)
  have hp : bl[k]? = some bl[k] := List.getElem?_eq_getElem hk
  obtain ⟨s, c0, c1, c2, c3, hs⟩ := hc k _ hp
  exact ⟨b, o, bl[k], s, rfl, hb, hp, List.getElem_mem hk, hs, c0, c1, c2, c3⟩

/-- what the first loop has seen -/
structure SubSt (bl : List Bd) (j : Nat) : Prop where
  names : ∀ p ∈ bl.take j, isName (kb p.1) false = true
  order : ∀ i p q, i + 1 < j → bl[i]? = some p → bl[i + 1]? = some q → p.1 < q.1
theorem take_one_more {bl : List Bd} {j : Nat} {p : Bd} (hp : bl[j]? = some p) : bl.take (j + 1) = bl.take j ++ [p] := by rw [List.take_add_one, hp]; rfl
theorem SubSt.first {bl : List Bd} {p : Bd} (hp : bl[0]? = some p) (hn : isName (kb p.1) false = true) : SubSt bl 1 := by
  refine ⟨fun q hq => ?_, fun i _ _ h => by omega⟩
  rw [take_one_more hp] at hq
  simp only [List.take_zero, List.nil_append, List.mem_singleton] at hq
  subst hq; exact hn
theorem SubSt.more {bl : List Bd} {j : Nat} (h : SubSt bl (j + 1)) {p q : Bd} (hq : bl[j]? = some q) (hp : bl[j + 1]? = some p) (hn : isName (kb p.1) false = true) (hl : q.1 < p.1) : SubSt bl (j + 1 + 1) := by
  refine ⟨fun x hx => ?_, fun i a b hi ha hb => ?_⟩
  · rw [take_one_more hp] at hx
    rcases List.mem_append.1 hx with hx | hx
    · exact h.names x hx
    · simp only [List.mem_singleton] at hx; subst hx; exact hn
  · by_cases e : i = j
    · subst e
      rw [hq] at ha; rw [hp] at hb
      cases ha; cases hb
      exact hl
    · exact h.order i a b (by omega) ha hb

end Go.Proofs.Ytnomppdmhgefiaa
namespace Go.Proofs.Ytnomppdmhgefiaa
open Go.RowKit Go.Maps

/-- how an element of the map reads: as itself -/
def imgR (v : Value) : Option (DataW Value × List MemPlace) := some (.held v, [])
/-- a term with its measures -/
def imgVal (t : Tm) (s : Value) : Value := .agg #[.string t.nm, .bool t.vr, s, .int .i64 t.size, .int .i64 t.depth]
/-- what the map's datum D says of the bindings bl, their terms lying below n -/
structure ImgInv (n : Nat) (W : World) (D : DataW Value) (bl : List Bd) : Prop where
  tidy : Tidy D
  has : ∀ k, Maps.has D (.string k) = decide (k ∈ bl.map (·.1))
  at_ : ∀ p ∈ bl, ∃ s, (∀ z, D.atKey (.string p.1) z = .held (imgVal p.2 s)) ∧ SlIs n W p.2.ts s
theorem ImgInv.empty (n : Nat) (W : World) : ImgInv n W (.map []) [] := ⟨tidy_empty, fun k => by simp [Maps.has_eq], fun p h => by cases h⟩
theorem ImgInv.put {n : Nat} {W : World} {D : DataW Value} {bl : List Bd} (h : ImgInv n W D bl) {p : Bd} (hp : p.1 ∉ bl.map (·.1)) {s : Value} (hs : SlIs n W p.2.ts s) : ImgInv n W (D.put (.string p.1) (.held (imgVal p.2 s))) (bl ++ [p]) := by
  have hl : WideAt.IsKeyLit (.string p.1) := trivial
  refine ⟨h.tidy.put hl _, fun k => ?_, fun q hq => ?_⟩
  · by_cases e : k = p.1
    · subst e; rw [has_put_same h.tidy.isMap hl]; simp
    · rw [has_put_other (by simpa using e), h.has]; simp [e]
  · rcases List.mem_append.1 hq with hq | hq
    · obtain ⟨s', h1, h2⟩ := h.at_ q hq
      have e : q.1 ≠ p.1 := fun e => hp (by rw [← e]; exact List.mem_map.2 ⟨q, hq, rfl⟩)
      exact ⟨s', fun z => by rw [atKey_put_other (by simpa using e)]; exact h1 z, h2⟩
    · obtain rfl := List.mem_singleton.1 hq
      exact ⟨s, fun z => atKey_put_same h.tidy.isMap hl _ z, hs⟩
theorem ImgInv.carry {n m : Nat} {A B : World} {D : DataW Value} {bl : List Bd} (h : ImgInv n A D bl) (hb : Below n A B) (hn : n ≤ m) : ImgInv m B D bl :=
  ⟨h.tidy, h.has, fun p hp => by obtain ⟨s, h1, h2⟩ := h.at_ p hp; exact ⟨s, h1, h2.carry hb hn⟩⟩
/-- block mb holds the images of bl -/
def ImgMap (n mb : Nat) (W : World) (bl : List Bd) : Prop := ∃ D : DataW Value, W.ownsMap Try.prog 9 imgR mb bl.length D ∧ ImgInv n W D bl
theorem ImgMap.carry {n m mb : Nat} {A B : World} {bl : List Bd} (h : ImgMap n mb A bl) (hb : Below n A B) (hn : n ≤ m) (hm : B.heap[mb]? = A.heap[mb]?) : ImgMap m mb B bl := by
  obtain ⟨D, ⟨es, cl, hes, h1⟩, h2⟩ := h
  exact ⟨D, ⟨es, cl, hm.trans hes, h1⟩, h2.carry hb hn⟩
theorem keyOf_kb {k : Key} (h : k.length ≤ 1048576) : keyOf Try.prog 9 (.string (kb k)) = some (.string k) := by
  have := WideMaps.keyOf_string_mk (P := Try.prog) (s := kb k) Try.underlying9 (by show k.toArray.size ≤ _; unfold maxLen; simp; omega)
  rw [this, key_kb]
theorem SubOk.nodup {bl : List Bd} (h : SubOk bl) : (bl.map (·.1)).Nodup := by
  have key : ∀ (l : List Bd), (∀ i p q, l[i]? = some p → l[i + 1]? = some q → p.1 < q.1) → (l.map (·.1)).Pairwise (· < ·) := by
    intro l
    induction l with
    | nil => intro _; exact .nil
    | cons x l ih =>
      intro h
      have h2 := ih fun i p q hp hq => h (i + 1) p q (by simpa using hp) (by simpa using hq)
      refine List.Pairwise.cons (fun y hy => ?_) h2
      cases l with
      | nil => cases hy
      | cons z l =>
        have hxz := h 0 x z rfl rfl
        rcases List.mem_cons.1 hy with rfl | hy
        · exact hxz
        · exact List.lt_trans hxz ((List.pairwise_cons.1 h2).1 y hy)
  exact (key bl h.order).imp fun h e => by subst e; exact absurd h (List.lt_irrefl _)

theorem run_makeMap_hint {P : Program} (w : World) (t k e : TypeId) (n : Nat) (ht : P.underlying t = some (.map k e)) : (Instr.makeMap t (some (.int .i64 n))).run P w = .ok (.map (some w.heap.size)) (w.alloc (.map #[] 0)) := by
  simp [Instr.makeMap, run_underlying ht, asInt, asIntOf, Result.andThen]
theorem step_mapUpdate_in {H : Type} {P : Program} {w : World} {ops : Array Oper} {o : Oper} {a : Act} {K : Act → World → Prop} {Q : Exit → Act → World → Prop} {E : Prop} (hg : o.guard = none) (m x v : Operand) (t : TypeId) (hop : o.op = Op.mapUpdate t m x v)
    (k e : TypeId) (Ky : Keyed P k) (ht : P.underlying t = some (.map k e)) (R : Value → Option (DataW H × List MemPlace)) (b n : Nat) (D : DataW H)
    (hm : a.eval m = .map (some b)) (hown : w.ownsMap P k R b n D) (hn : n < maxLen) (key val : Value) (kl : Lit) (hx : a.eval x = key) (hv : a.eval v = val) (hkey : keyOf P k key = some kl)
    (d : DataW H) (ps : List MemPlace) (hval : R val = some (d, ps))
    (hK : ∀ w', w'.ownsMap P k R b (n + 1) (D.put kl d) → w.mapTurned w' b → K (a.put o.dst undef) w') :
    if Region.wanted o (yielded ops a.tmps) = true then Oper.wp P o a w K Q else E := by
  have hw : Region.wanted o (yielded ops a.tmps) = true := by simp [Region.wanted, hg]
  rw [if_pos hw]
  obtain ⟨w', hrun, r1, r2⟩ := hown.store Ky ht hn hkey hval
  unfold Oper.wp
  simp [execOp, hop, hm, hx, hv, hrun, Result.andThen]
  exact hK w' r1 r2

end Go.Proofs.Ytnomppdmhgefiaa
