/- Packed: Sub, Loc, Rkp, RdK, RdW, Sid, RdR, Mon, Cfn, Mxr. -/
import Derived.WalkKit
import Derived.ProofKit
import Derived.OpenShut
import Derived.Handy
import Derived.Lib.Hide
import Derived.BigQuiet
import Derived.Sort.Walk0
import Derived.Laws.Cover1
import Derived.Test.YtamddagmlanijaaGreatC04
import Derived.Test.YtamddagmlanijaaGreatC03
import Derived.Deep.RegionHeld3
import Derived.StringKeys
import Derived.Maps.OwnSet
import Derived.Maps.OwnOps
import Derived.Test.YtamddagmlanijaaGreatC01
import Derived.Test.YtamddagmlanijaaGreatC02
/- CheckSubst. images: a map from names to terms with their measures. -/
namespace Go.Proofs.YtamddagmlanijaaGreat
open Go.RowKit

/-- the substitutions that CheckSubst lets by -/
structure SubOk (bl : List Bd) : Prop where
  names : ∀ p ∈ bl, isName (kb p.1) false = true
  order : ∀ i p q, bl[i]? = some p → bl[i + 1]? = some q → p.1 < q.1
  terms : ∀ p ∈ bl, p.2.ok
def bdBulk (bl : List Bd) : Nat := max bl.length (bl.foldr (fun p a => max (1 + p.1.length + p.2.bulk) a) 0)
theorem bdBulk_le {bl : List Bd} {k : Nat} (h1 : bl.length ≤ k) (h2 : ∀ p ∈ bl, 1 + p.1.length + p.2.bulk ≤ k) : bdBulk bl ≤ k := by
  unfold bdBulk
  refine Nat.max_le.2 ⟨h1, ?_⟩
  clear h1
  induction bl with
  | nil => exact Nat.zero_le _
  | cons x l ih => rw [List.foldr_cons]; exact Nat.max_le.2 ⟨h2 x (by simp), ih fun p hp => h2 p (by simp [hp])⟩
/-- a binding's cells -/
theorem BindsIs.get {n : Nat} {W : World} {bl : List Bd} {oa : Option Addr} {cap k : Nat} (h : BindsIs n W bl (.slice oa bl.length cap)) (hk : k < bl.length) :
    ∃ (b o : Nat) (p : Bd) (s : Value), oa = some ⟨b, o, none⟩ ∧ b < n ∧ bl[k]? = some p ∧ p ∈ bl ∧ SlIs n W p.2.ts s ∧
      W.cell? ⟨b, o + k * 4, none⟩ = some (.string (kb p.1)) ∧ W.cell? ⟨b, o + k * 4 + 1, none⟩ = some (.string p.2.nm) ∧ W.cell? ⟨b, o + k * 4 + 2, none⟩ = some (.bool p.2.vr) ∧ W.cell? ⟨b, o + k * 4 + 3, none⟩ = some s := by
  obtain ⟨oa', cap', he, -, h3⟩ := h
  simp only [Value.slice.injEq, true_and] at he
  obtain ⟨rfl, rfl⟩ := he
  obtain ⟨b, o, rfl, hb, hc⟩ := h3 (by rintro rfl; simp at hk)
  have hp : bl[k]? = some bl[k] := List.getElem?_eq_getElem hk
  obtain ⟨s, c0, c1, c2, c3, hs⟩ := hc k _ hp
  exact ⟨b, o, bl[k], s, rfl, hb, hp, List.getElem_mem hk, hs, c0, c1, c2, c3⟩

/-- what the first loop has seen -/
structure SubSt (bl : List Bd) (j : Nat) : Prop where
  names : ∀ p ∈ bl.take j, isName (kb p.1) false = true
  order : ∀ i p q, i + 1 < j → bl[i]? = some p → bl[i + 1]? = some q → p.1 < q.1
theorem take_one_more {bl : List Bd} {j : Nat} {p : Bd} (hp : bl[j]? = some p) : bl.take (j + 1) = bl.take j ++ [p] := by rw [List.take_add_one, hp]; rfl
theorem SubSt.first {bl : List Bd} {p : Bd} (hp : bl[0]? = some p) (hn : isName (kb p.1) false = true) : SubSt bl 1 := by
  refine ⟨fun q hq => ?_, fun i _ _ h => by omega⟩
  rw [take_one_more hp] at hq
  simp only [List.take_zero, List.nil_append, List.mem_singleton] at hq
  subst hq; exact hn
theorem SubSt.more {bl : List Bd} {j : Nat} (h : SubSt bl (j + 1)) {p q : Bd} (hq : bl[j]? = some q) (hp : bl[j + 1]? = some p) (hn : isName (kb p.1) false = true) (hl : q.1 < p.1) : SubSt bl (j + 1 + 1) := by
  refine ⟨fun x hx => ?_, fun i a b hi ha hb => ?_⟩
  · rw [take_one_more hp] at hx
    rcases List.mem_append.1 hx with hx | hx
    · exact h.names x hx
    · simp only [List.mem_singleton] at hx; subst hx; exact hn
  · by_cases e : i = j
    · subst e
      rw [hq] at ha; rw [hp] at hb
      cases ha; cases hb
      exact hl
    · exact h.order i a b (by omega) ha hb

end Go.Proofs.YtamddagmlanijaaGreat
namespace Go.Proofs.YtamddagmlanijaaGreat
open Go.RowKit Go.Maps

/-- how an element of the map reads: as itself -/
def imgR (v : Value) : Option (DataW Value × List MemPlace) := some (.held v, [])
/-- a term with its measures -/
def imgVal (t : Tm) (s : Value) : Value := .agg #[.string t.nm, .bool t.vr, s, .int .i64 t.size, .int .i64 t.depth]
/-- what the map's datum D says of the bindings bl, their terms lying below n -/
structure ImgInv (n : Nat) (W : World) (D : DataW Value) (bl : List Bd) : Prop where
  tidy : Tidy D
  has : ∀ k, Maps.has D (.string k) = decide (k ∈ bl.map (·.1))
  at_ : ∀ p ∈ bl, ∃ s, (∀ z, D.atKey (.string p.1) z = .held (imgVal p.2 s)) ∧ SlIs n W p.2.ts s
theorem ImgInv.put {n : Nat} {W : World} {D : DataW Value} {bl : List Bd} (h : ImgInv n W D bl) {p : Bd} (hp : p.1 ∉ bl.map (·.1)) {s : Value} (hs : SlIs n W p.2.ts s) : ImgInv n W (D.put (.string p.1) (.held (imgVal p.2 s))) (bl ++ [p]) := by
  have hl : WideAt.IsKeyLit (.string p.1) := trivial
  refine ⟨h.tidy.put hl _, fun k => ?_, fun q hq => ?_⟩
  · by_cases e : k = p.1
    · subst e; rw [has_put_same h.tidy.isMap hl]; simp
    · rw [has_put_other (by simpa using e), h.has]; simp [e]
  · rcases List.mem_append.1 hq with hq | hq
    · obtain ⟨s', h1, h2⟩ := h.at_ q hq
      have e : q.1 ≠ p.1 := fun e => hp (by rw [← e]; exact List.mem_map.2 ⟨q, hq, rfl⟩)
      exact ⟨s', fun z => by rw [atKey_put_other (by simpa using e)]; exact h1 z, h2⟩
    · obtain rfl := List.mem_singleton.1 hq
      exact ⟨s, fun z => atKey_put_same h.tidy.isMap hl _ z, hs⟩
theorem ImgInv.carry {n m : Nat} {A B : World} {D : DataW Value} {bl : List Bd} (h : ImgInv n A D bl) (hb : Below n A B) (hn : n ≤ m) : ImgInv m B D bl :=
  ⟨h.tidy, h.has, fun p hp => by obtain ⟨s, h1, h2⟩ := h.at_ p hp; exact ⟨s, h1, h2.carry hb hn⟩⟩
/-- block mb holds the images of bl -/
def ImgMap (n mb : Nat) (W : World) (bl : List Bd) : Prop := ∃ D : DataW Value, W.ownsMap Tryz.prog 9 imgR mb bl.length D ∧ ImgInv n W D bl
theorem ImgMap.carry {n m mb : Nat} {A B : World} {bl : List Bd} (h : ImgMap n mb A bl) (hb : Below n A B) (hn : n ≤ m) (hm : B.heap[mb]? = A.heap[mb]?) : ImgMap m mb B bl := by
  obtain ⟨D, ⟨es, cl, hes, h1⟩, h2⟩ := h
  exact ⟨D, ⟨es, cl, hm.trans hes, h1⟩, h2.carry hb hn⟩
theorem SubOk.nodup {bl : List Bd} (h : SubOk bl) : (bl.map (·.1)).Nodup := by
  have key : ∀ (l : List Bd), (∀ i p q, l[i]? = some p → l[i + 1]? = some q → p.1 < q.1) → (l.map (·.1)).Pairwise (· < ·) := by
    intro l
    induction l with
    | nil => intro _; exact .nil
    | cons x l ih =>
      intro h
      have h2 := ih fun i p q hp hq => h (i + 1) p q (by simpa using hp) (by simpa using hq)
      refine List.Pairwise.cons (fun y hy => ?_) h2
      cases l with
      | nil => cases hy
      | cons z l =>
        have hxz := h 0 x z rfl rfl
        rcases List.mem_cons.1 hy with rfl | hy
        · exact hxz
        · exact List.lt_trans hxz ((List.pairwise_cons.1 h2).1 y hy)
  exact (key bl h.order).imp fun h e => by subst e; exact absurd h (List.lt_irrefl _)

end Go.Proofs.YtamddagmlanijaaGreat
/- Places in a term: locate, and a store at a place of a term of its own. -/
namespace Go.Proofs.YtamddagmlanijaaGreat
open Go.RowKit

/-- the argument number i -/
def Tm.kid (t : Tm) (i : Int) : Option Tm := if 0 ≤ i then t.ts[i.toNat]? else none
def Tm.at : Tm → List Int → Option Tm
  | t, [] => some t
  | t, i :: l => match t.kid i with | some u => u.at l | none => none
def Tm.put : Tm → List Int → Tm → Tm
  | _, [], u => u
  | t, i :: l, u => match t.kid i with | some x => .mk t.nm t.vr (t.ts.set i.toNat (x.put l u)) | none => t
/-- the slice value v holds the integers l -/
structure PosIs (n₀ : Nat) (W : World) (l : List Int) (v : Value) : Prop where
  form : ∃ oa cap, v = .slice oa l.length cap ∧ (l ≠ [] → ∃ b o, oa = some ⟨b, o, none⟩ ∧ b < n₀ ∧ ∀ (i : Nat) x, l[i]? = some x → W.cell? ⟨b, o + i, none⟩ = some (.int .i64 x))
theorem PosIs.carry {n₀ n₁ : Nat} {A B : World} (h : Below n₀ A B) (hn : n₀ ≤ n₁) {l : List Int} {s : Value} (hs : PosIs n₀ A l s) : PosIs n₁ B l s := by
  obtain ⟨oa, cap, rfl, hf⟩ := hs.form
  refine ⟨oa, cap, rfl, fun hne => ?_⟩
  obtain ⟨b, o, rfl, hb, hc⟩ := hf hne
  exact ⟨b, o, rfl, by omega, fun i x hx => (h.cell (p := ⟨b, _, none⟩) hb).trans (hc i x hx)⟩

/-- the cells at an address are the term's -/
structure Loc (n₀ : Nat) (W : World) (t : Tm) (b o : Nat) : Prop where
  cells : ∃ s, W.cell? ⟨b, o, none⟩ = some (.string t.nm) ∧ W.cell? ⟨b, o + 1, none⟩ = some (.bool t.vr) ∧ W.cell? ⟨b, o + 2, none⟩ = some s ∧ SlIs n₀ W t.ts s

/-- from address to address, argument by argument -/
inductive Steps (W : World) : Nat → Nat → List Int → Nat → Nat → Prop
  | nil (b o : Nat) : Steps W b o [] b o
  | cons (b o : Nat) (i : Int) (l : List Int) (b1 o1 n cap b' o' : Nat) : 0 ≤ i → W.cell? ⟨b, o + 2, none⟩ = some (.slice (some ⟨b1, o1, none⟩) n cap) → Steps W b1 (o1 + i.toNat * 3) l b' o' → Steps W b o (i :: l) b' o'

end Go.Proofs.YtamddagmlanijaaGreat
/- Precedences: what is said of them, and how they lie. No program stands here. -/
namespace Go.Proofs.YtamddagmlanijaaGreat
open Go.RowKit

/-- an entry: name, rank, weight -/
abbrev Rk := Key × Int × Int
/-- the slice value v holds these entries, in blocks below n -/
def RksIs (n : Nat) (W : World) (l : List Rk) (v : Value) : Prop :=
  ∃ oa cap, v = .slice oa l.length cap ∧ l.length ≤ cap ∧
    (l ≠ [] → ∃ b o, oa = some ⟨b, o, none⟩ ∧ b < n ∧ ∀ i p, l[i]? = some p → W.cell? ⟨b, o + i * 3, none⟩ = some (.string (kb p.1)) ∧ W.cell? ⟨b, o + i * 3 + 1, none⟩ = some (.int .i64 p.2.1) ∧ W.cell? ⟨b, o + i * 3 + 2, none⟩ = some (.int .i64 p.2.2))
theorem RksIs.carry {n m : Nat} {A B : World} {l : List Rk} {v : Value} (h : RksIs n A l v) (hb : Below n A B) (hn : n ≤ m) : RksIs m B l v := by
  obtain ⟨oa, cap, rfl, h1, h3⟩ := h
  refine ⟨oa, cap, rfl, h1, fun hne => ?_⟩
  obtain ⟨b, o, rfl, hbn, hc⟩ := h3 hne
  refine ⟨b, o, rfl, by omega, fun i p hk => ?_⟩
  obtain ⟨c0, c1, c2⟩ := hc i p hk
  exact ⟨(hb.cell (p := ⟨b, _, none⟩) hbn).trans c0, (hb.cell (p := ⟨b, _, none⟩) hbn).trans c1, (hb.cell (p := ⟨b, _, none⟩) hbn).trans c2⟩

/-- the names are those of symbols, and increase -/
def NmsOk (l : List Rk) : Prop := ∀ i p, l[i]? = some p → isName (kb p.1) true = true ∧ ∀ q, 0 < i → l[i - 1]? = some q → q.1 < p.1
/-- the ranks fit, and there are no weights -/
def RksOk (l : List Rk) : Prop := ∀ p ∈ l, 0 ≤ p.2.1 ∧ p.2.1 ≤ 1000 ∧ p.2.2 = 0
structure PrecOk (l : List Rk) : Prop where
  len : l.length ≤ 256
  nms : NmsOk l
  rks : RksOk l
/-- names increase from any to any later -/
theorem NmsOk.lt {l : List Rk} (h : NmsOk l) {i j : Nat} {p q : Rk} (hij : i < j) (hp : l[i]? = some p) (hq : l[j]? = some q) : p.1 < q.1 := by
  induction j generalizing q with
  | zero => omega
  | succ j ih =>
    have hj := (List.getElem?_eq_some_iff.1 hq).1
    have hm : l[j]? = some l[j] := List.getElem?_eq_getElem (by omega)
    have h1 := (h (j + 1) q hq).2 l[j] (by omega) hm
    rcases Nat.lt_or_ge i j with e | e
    · exact List.lt_trans (ih e hm) h1
    · obtain rfl : i = j := by omega
      rw [hm] at hp; cases hp; exact h1
end Go.Proofs.YtamddagmlanijaaGreat
/- What an argument reads as: precedences, three terms. -/
namespace Go.Proofs.YtamddagmlanijaaGreat
open Go.RowKit Go.ChangeShapes Go.WideShapes Go.ChangeAt Go.Deep

instance : Inhabited Rk := ⟨([], 0, 0)⟩
section
variable {H : Type} {enc : TypeId × Value → H} {w : World} (sp : Nat → Bool)
end
end Go.Proofs.YtamddagmlanijaaGreat
/- Merged: RdB, RdX, RdW. -/
/- What an argument reads as: bindings in memory. -/
namespace Go.Proofs.YtamddagmlanijaaGreat
open Go.RowKit Go.ChangeShapes Go.WideShapes Go.ChangeAt Go.Deep

instance : Inhabited Bd := ⟨([], .mk ⟨#[]⟩ false [])⟩
section
variable {H : Type} {enc : TypeId × Value → H} {w : World} (sp : Nat → Bool)
end
end Go.Proofs.YtamddagmlanijaaGreat
/- What an argument reads as: two terms; a substitution, a term and a position. -/
namespace Go.Proofs.YtamddagmlanijaaGreat
open Go.RowKit Go.ChangeShapes Go.WideShapes Go.ChangeAt Go.Deep

theorem bulk_posX {H : Type} (d : DataW H) : 1 ≤ Rows.uptoBulk d := by
  cases d with
  | lit l => cases l <;> simp [Rows.uptoBulk]
  | nil => simp [Rows.uptoBulk]
  | ptr d => simp [Rows.uptoBulk]
  | slice elems spare => simp [Rows.uptoBulk]
  | agg parts => simp [Rows.uptoBulk]
  | iface t d => simp [Rows.uptoBulk]
  | map entries => simp [Rows.uptoBulk]
  | held h => simp [Rows.uptoBulk]
theorem bulk_lengthX {H : Type} (l : List (DataW H)) : l.length ≤ Rows.uptoBulkAll l := by
  induction l with
  | nil => simp [Rows.uptoBulkAll]
  | cons x r ih => have := bulk_posX x; simp only [Rows.uptoBulkAll, List.length_cons]; omega
section
variable {H : Type} {enc : TypeId × Value → H} {w : World} (sp : Nat → Bool)
end
end Go.Proofs.YtamddagmlanijaaGreat
/- What an argument reads as: a weight order. -/
namespace Go.Proofs.YtamddagmlanijaaGreat
open Go.RowKit Go.ChangeShapes Go.WideShapes Go.ChangeAt Go.Deep

section
variable {H : Type} {enc : TypeId × Value → H} {w : World} (sp : Nat → Bool)
end
end Go.Proofs.YtamddagmlanijaaGreat
/- Rules in memory; sides(r) gives an iterator over the terms of the rules. -/
namespace Go.Proofs.YtamddagmlanijaaGreat
open Go.RowKit Go.Shelf
attribute [local go_sem] Oper.semAt_some

/-- a term with the slice value of its arguments -/
abbrev TmV := Tm × Value
abbrev RlV := TmV × TmV
/-- the slice value v holds these rules, in blocks below n -/
def RulV (n : Nat) (W : World) (l : List RlV) (v : Value) : Prop :=
  ∃ oa cap, v = .slice oa l.length cap ∧ l.length ≤ cap ∧
    (l ≠ [] → ∃ b o, oa = some ⟨b, o, none⟩ ∧ b < n ∧ ∀ i p, l[i]? = some p → (W.cell? ⟨b, o + i * 6, none⟩ = some (.string p.1.1.nm) ∧ W.cell? ⟨b, o + i * 6 + 1, none⟩ = some (.bool p.1.1.vr) ∧ W.cell? ⟨b, o + i * 6 + 2, none⟩ = some p.1.2 ∧
      W.cell? ⟨b, o + i * 6 + 3, none⟩ = some (.string p.2.1.nm) ∧ W.cell? ⟨b, o + i * 6 + 4, none⟩ = some (.bool p.2.1.vr) ∧ W.cell? ⟨b, o + i * 6 + 5, none⟩ = some p.2.2) ∧ SlIs n W p.1.1.ts p.1.2 ∧ SlIs n W p.2.1.ts p.2.2)
theorem RulV.carry {n m : Nat} {A B : World} {l : List RlV} {v : Value} (h : RulV n A l v) (hb : Below n A B) (hn : n ≤ m) : RulV m B l v := by
  obtain ⟨oa, cap, rfl, h1, h3⟩ := h
  refine ⟨oa, cap, rfl, h1, fun hne => ?_⟩
  obtain ⟨b, o, rfl, hbn, hc⟩ := h3 hne
  refine ⟨b, o, rfl, by omega, fun i p hk => ?_⟩
  obtain ⟨⟨c0, c1, c2, c3, c4, c5⟩, hs, ht⟩ := hc i p hk
  exact ⟨⟨(hb.cell (p := ⟨b, _, none⟩) hbn).trans c0, (hb.cell (p := ⟨b, _, none⟩) hbn).trans c1, (hb.cell (p := ⟨b, _, none⟩) hbn).trans c2, (hb.cell (p := ⟨b, _, none⟩) hbn).trans c3, (hb.cell (p := ⟨b, _, none⟩) hbn).trans c4, (hb.cell (p := ⟨b, _, none⟩) hbn).trans c5⟩, hs.carry hb hn, ht.carry hb hn⟩
theorem RulV.shape {n : Nat} {W : World} {l : List RlV} {v : Value} (h : RulV n W l v) : ∃ oa cap, v = .slice oa l.length cap := by obtain ⟨oa, cap, rfl, -⟩ := h; exact ⟨oa, cap, rfl⟩
/-- a rule's cells -/
theorem RulV.get {n : Nat} {W : World} {l : List RlV} {oa : Option Addr} {cap k : Nat} (h : RulV n W l (.slice oa l.length cap)) (hk : k < l.length) :
    ∃ (b o : Nat) (s t : Tm) (os ot : Option Addr) (cs ct : Nat), oa = some ⟨b, o, none⟩ ∧ b < n ∧ l[k]? = some ((s, .slice os s.ts.length cs), (t, .slice ot t.ts.length ct)) ∧ SlIs n W s.ts (.slice os s.ts.length cs) ∧ SlIs n W t.ts (.slice ot t.ts.length ct) ∧
      W.cell? ⟨b, o + k * 6, none⟩ = some (.string s.nm) ∧ W.cell? ⟨b, o + k * 6 + 1, none⟩ = some (.bool s.vr) ∧ W.cell? ⟨b, o + k * 6 + 2, none⟩ = some (.slice os s.ts.length cs) ∧
      W.cell? ⟨b, o + k * 6 + 3, none⟩ = some (.string t.nm) ∧ W.cell? ⟨b, o + k * 6 + 4, none⟩ = some (.bool t.vr) ∧ W.cell? ⟨b, o + k * 6 + 5, none⟩ = some (.slice ot t.ts.length ct) := by
  obtain ⟨oa', cap', he, -, h3⟩ := h
  simp only [Value.slice.injEq, true_and] at he
  obtain ⟨rfl, rfl⟩ := he
  obtain ⟨b, o, rfl, hb, hc⟩ := h3 (by rintro rfl; simp at hk)
  have hp : l[k]? = some l[k] := List.getElem?_eq_getElem hk
  obtain ⟨⟨c0, c1, c2, c3, c4, c5⟩, hs, ht⟩ := hc k _ hp
  obtain ⟨os, cs, e1, -⟩ := hs.form
  obtain ⟨ot, ct, e2, -⟩ := ht.form
  refine ⟨b, o, l[k].1.1, l[k].2.1, os, ot, cs, ct, rfl, hb, ?_, by rw [← e1]; exact hs, by rw [← e2]; exact ht, c0, c1, by rw [← e1]; exact c2, c3, c4, by rw [← e2]; exact c5⟩
  rw [hp, ← e1, ← e2]
@[reducible] def TmV.encs (x : TmV) : Array Value := #[.agg #[.string x.1.nm, .bool x.1.vr, x.2]]

end Go.Proofs.YtamddagmlanijaaGreat
/- What an argument reads as: rules; rows in general. -/
namespace Go.Proofs.YtamddagmlanijaaGreat
open Go.RowKit Go.ChangeShapes Go.WideShapes Go.ChangeAt Go.Deep

set_option maxRecDepth 100000 in
set_option maxHeartbeats 1000000 in
/-- a slice of elements of c cells each, read as a row -/
theorem row_open {H : Type} (enc : TypeId × Value → H) (W : World) {t e : TypeId} {c : Nat} {α : Type} [Inhabited α] (ht : Tryz.prog.underlying t = some (.slice e)) (hce : Tryz.prog.cellsOf e = c) (hc0 : 0 < c) (Q : α → List Value → Prop) (bd : α → Nat)
    (elem : ∀ n cs x, DataW.trod enc Tryz.prog W 0 (fun _ => true) true n e cs = some x → W.noneFrozen x.2 → ∃ a, Q a cs ∧ 1 + bd a ≤ Rows.uptoBulk x.1)
    (n : Nat) (v : Value) (x : DataW H × List MemPlace) (h : DataW.trod enc Tryz.prog W 0 (fun _ => true) true n t [v] = some x) (hfz : W.noneFrozen x.2) :
    ∃ (l : List α) (oa : Option Addr) (cap : Nat), v = .slice oa l.length cap ∧ l.length ≤ cap ∧ l.length < Rows.uptoBulk x.1 ∧ (∀ a ∈ l, bd a < Rows.uptoBulk x.1) ∧
      (l ≠ [] → ∃ b o, oa = some ⟨b, o, none⟩ ∧ b < W.heap.size ∧ (∀ i, i < l.length * c → W.frozen? ⟨b, o + i, none⟩ = false) ∧ ∀ i a, l[i]? = some a → ∃ cs, Q a cs ∧ cs.length = c ∧ ∀ j, j < c → W.cell? ⟨b, o + i * c + j, none⟩ = cs[j]?) := by
  rcases DataW.trod_slice ht h with ⟨hc, rfl⟩ | ⟨a, len, cap, elems, rest, k, rfl, hc, rfl, hba, hlc, hcm, hel, hall, -, -⟩
  · cases hc
    exact ⟨[], none, 0, rfl, Nat.le_refl _, by simp [Rows.uptoBulk], by simp, fun h => absurd rfl h⟩
  · cases hc
    rw [hce] at hall hfz
    have key : ∀ i, i < len → ∃ ps : α × List Value, W.cells? 0 (a.add (i * c)) c = some ps.2 ∧ Q ps.1 ps.2 ∧ ∃ e, elems[i]? = some e ∧ 1 + bd ps.1 ≤ Rows.uptoBulk e.1 := fun i hi => by
      have hi2 : i < elems.length := by omega
      have hh := hall i hi
      rw [List.getElem?_eq_getElem hi2] at hh
      obtain ⟨cs', g1, g2⟩ := Option.bind_eq_some_iff.1 hh
      obtain ⟨p, hq, hbk⟩ := elem k cs' _ g2 (fun b' off hp => hfz b' off (List.mem_append.2 (.inr (List.mem_flatMap.2 ⟨elems[i], List.mem_append.2 (.inl (List.getElem_mem hi2)), hp⟩))))
      exact ⟨(p, cs'), g1, hq, _, List.getElem?_eq_getElem hi2, hbk⟩
    obtain ⟨TS, hTS⟩ := choose_lt (α := α × List Value) key
    have hlen : ((List.range len).map fun i => (TS i).1).length = len := by simp
    have hle : len ≤ Rows.uptoBulkAll (elems.map (·.1)) := by
      have := bulk_lengthX (elems.map (·.1))
      rw [List.length_map] at this
      omega
    have hup : Rows.uptoBulkAll (elems.map (·.1)) < Rows.uptoBulk (DataW.slice (elems.map (·.1)) (rest.map (·.1))) := by simp only [Rows.uptoBulk]; omega
    refine ⟨(List.range len).map fun i => (TS i).1, some a, cap, by rw [hlen], by rw [hlen]; exact hlc, by rw [hlen]; exact Nat.lt_of_le_of_lt hle hup, fun p hp => ?_, fun hne => ?_⟩
    · obtain ⟨i, hi, rfl⟩ := List.mem_map.1 hp
      have hi := List.mem_range.1 hi
      obtain ⟨_, _, e, he, hb⟩ := hTS i hi
      have := uptoBulk_mem (d := e.1) (l := elems.map (·.1)) (List.mem_map.2 ⟨e, List.mem_of_getElem? he, rfl⟩)
      show bd (TS i).1 < Rows.uptoBulk (DataW.slice (elems.map (·.1)) (rest.map (·.1)))
      omega
    · have hz0 : len ≠ 0 := by rintro rfl; simp at hne
      obtain ⟨c0, _, _⟩ := hTS 0 (by omega)
      have hsp : a.spot = none := by
        have := (World.cells?_some c0).2.2 0 hc0
        simp only [Nat.zero_mul] at this
        have e : (a.add 0).add 0 = a := by simp [Addr.add]
        rw [e] at this
        have hl0 := (World.cells?_some c0).2.1
        rw [List.getElem?_eq_getElem (by omega)] at this
        exact World.cell?_spot this
      obtain ⟨ab, ao, asp⟩ := a
      simp only at hsp; subst hsp
      have hlt : ab < W.heap.size := by
        have := (World.cells?_some c0).2.2 0 hc0
        have hl0 := (World.cells?_some c0).2.1
        rw [List.getElem?_eq_getElem (by omega)] at this
        have := World.block_lt_of_cell? W _ this
        simpa [addr_add] using this
      refine ⟨ab, ao, rfl, hlt, fun i hi => hfz ab (ao + i) (List.mem_append.2 (.inl ?_)), fun i p hp => ?_⟩
      · rw [hlen] at hi
        simp only [MemPlace.row, List.mem_map, List.mem_range]
        exact ⟨i, Nat.lt_of_lt_of_le hi (Nat.mul_le_mul_right c (show len ≤ elems.length + rest.length by omega)), rfl⟩
      · have hi : i < len := by have := (List.getElem?_eq_some_iff.1 hp).1; simpa using this
        rw [List.getElem?_map, List.getElem?_range hi] at hp
        cases hp
        have hc := World.cells?_some (hTS i hi).1
        refine ⟨_, (hTS i hi).2.1, hc.2.1, fun j hj => ?_⟩
        have k0 := hc.2.2 j hj
        simp only [addr_add] at k0
        exact k0

instance : Inhabited RlV := ⟨((.mk ⟨#[]⟩ false [], .bool false), (.mk ⟨#[]⟩ false [], .bool false))⟩
section
variable {H : Type} {enc : TypeId × Value → H} {w : World} (sp : Nat → Bool)
end
end Go.Proofs.YtamddagmlanijaaGreat
/- Rows of records in memory; monomials, polynomials; lexicographic comparison of exponents. -/
namespace Go.Proofs.YtamddagmlanijaaGreat
open Go.RowKit

/-- the slice value v holds these records of c cells each, in blocks below n; Q says what a record's cells are -/
def RecIs {α : Type} (c : Nat) (Q : Nat → World → α → List Value → Prop) (n : Nat) (W : World) (l : List α) (v : Value) : Prop :=
  ∃ oa cap, v = .slice oa l.length cap ∧ l.length ≤ cap ∧
    (l ≠ [] → ∃ b o, oa = some ⟨b, o, none⟩ ∧ b < n ∧ ∀ i p, l[i]? = some p → ∃ cs, Q n W p cs ∧ cs.length = c ∧ ∀ j, j < c → W.cell? ⟨b, o + i * c + j, none⟩ = cs[j]?)
/-- Q goes on where memory below n is kept -/
def Keeps {α : Type} (Q : Nat → World → α → List Value → Prop) : Prop := ∀ (n m : Nat) (A B : World) (p : α) (cs : List Value), Q n A p cs → Below n A B → n ≤ m → Q m B p cs
theorem RecIs.carry {α : Type} {c : Nat} {Q : Nat → World → α → List Value → Prop} (hQ : Keeps Q) {n m : Nat} {A B : World} {l : List α} {v : Value} (h : RecIs c Q n A l v) (hb : Below n A B) (hn : n ≤ m) : RecIs c Q m B l v := by
  obtain ⟨oa, cap, rfl, h1, h3⟩ := h
  refine ⟨oa, cap, rfl, h1, fun hne => ?_⟩
  obtain ⟨b, o, rfl, hbn, hc⟩ := h3 hne
  refine ⟨b, o, rfl, by omega, fun i p hp => ?_⟩
  obtain ⟨cs, hq, hl, hj⟩ := hc i p hp
  exact ⟨cs, hQ n m A B p cs hq hb hn, hl, fun j hjc => (hb.cell (p := ⟨b, _, none⟩) hbn).trans (hj j hjc)⟩
theorem RecIs.shape {α : Type} {c : Nat} {Q : Nat → World → α → List Value → Prop} {n : Nat} {W : World} {l : List α} {v : Value} (h : RecIs c Q n W l v) : ∃ oa cap, v = .slice oa l.length cap := by obtain ⟨oa, cap, rfl, -⟩ := h; exact ⟨oa, cap, rfl⟩
theorem RecIs.get {α : Type} {c : Nat} {Q : Nat → World → α → List Value → Prop} {n : Nat} {W : World} {l : List α} {oa : Option Addr} {cap k : Nat} (h : RecIs c Q n W l (.slice oa l.length cap)) (hk : k < l.length) :
    ∃ (b o : Nat) (p : α) (cs : List Value), oa = some ⟨b, o, none⟩ ∧ b < n ∧ l[k]? = some p ∧ Q n W p cs ∧ cs.length = c ∧ ∀ j, j < c → W.cell? ⟨b, o + k * c + j, none⟩ = cs[j]? := by
  obtain ⟨oa', cap', e, -, h3⟩ := h
  simp only [Value.slice.injEq, true_and] at e
  obtain ⟨rfl, rfl⟩ := e
  obtain ⟨b, o, rfl, hbn, hc⟩ := h3 (by rintro rfl; simp at hk)
  obtain ⟨cs, hq, hl, hj⟩ := hc k _ (List.getElem?_eq_getElem hk)
  exact ⟨b, o, _, cs, rfl, hbn, List.getElem?_eq_getElem hk, hq, hl, hj⟩
theorem PosIs.at {n : Nat} {W : World} {l : List Int} {oa : Option Addr} {cap k : Nat} (h : PosIs n W l (.slice oa l.length cap)) (hk : k < l.length) : ∃ b o x, oa = some ⟨b, o, none⟩ ∧ b < n ∧ l[k]? = some x ∧ W.cell? ⟨b, o + k, none⟩ = some (.int .i64 x) := by
  obtain ⟨oa', cap', e, h3⟩ := h
  simp only [Value.slice.injEq, true_and] at e
  obtain ⟨rfl, rfl⟩ := e
  obtain ⟨b, o, rfl, hbn, hc⟩ := h3 (by rintro rfl; simp at hk)
  exact ⟨b, o, _, rfl, hbn, List.getElem?_eq_getElem hk, hc k _ (List.getElem?_eq_getElem hk)⟩

end Go.Proofs.YtamddagmlanijaaGreat
/- slices.IndexFunc, slices.ContainsFunc at rows of numbers, by a predicate that calls a closure. -/
namespace Go.Proofs.YtamddagmlanijaaGreat
open Go.RowKit
theorem PosIs.sh {n : Nat} {W : World} {l : List Int} {v : Value} (h : PosIs n W l v) : ∃ oa cap, v = .slice oa l.length cap := by obtain ⟨oa, cap, rfl, -⟩ := h; exact ⟨oa, cap, rfl⟩
/-- the slice value v holds these numbers (uint64) -/
def U64Is (n : Nat) (W : World) (l : List Nat) (v : Value) : Prop := ∃ oa cap, v = .slice oa l.length cap ∧ (l ≠ [] → ∃ b o, oa = some ⟨b, o, none⟩ ∧ b < n ∧ ∀ (i : Nat) (x : Nat), l[i]? = some x → W.cell? ⟨b, o + i, none⟩ = some (.int .u64 x))
theorem U64Is.carry {n m : Nat} {A B : World} {l : List Nat} {v : Value} (h : U64Is n A l v) (hb : Below n A B) (hn : n ≤ m) : U64Is m B l v := by
  obtain ⟨oa, cap, rfl, h3⟩ := h
  refine ⟨oa, cap, rfl, fun hne => ?_⟩
  obtain ⟨b, o, rfl, hbn, hc⟩ := h3 hne
  exact ⟨b, o, rfl, by omega, fun i x hx => (hb.cell (p := ⟨b, _, none⟩) hbn).trans (hc i x hx)⟩
theorem U64Is.sh {n : Nat} {W : World} {l : List Nat} {v : Value} (h : U64Is n W l v) : ∃ oa cap, v = .slice oa l.length cap := by obtain ⟨oa, cap, rfl, -⟩ := h; exact ⟨oa, cap, rfl⟩
theorem U64Is.at {n : Nat} {W : World} {l : List Nat} {oa : Option Addr} {cap k : Nat} (h : U64Is n W l (.slice oa l.length cap)) (hk : k < l.length) : ∃ b o x, oa = some ⟨b, o, none⟩ ∧ b < n ∧ l[k]? = some x ∧ W.cell? ⟨b, o + k, none⟩ = some (.int .u64 x) := by
  obtain ⟨oa', cap', e, h3⟩ := h
  simp only [Value.slice.injEq, true_and] at e
  obtain ⟨rfl, rfl⟩ := e
  obtain ⟨b, o, rfl, hbn, hc⟩ := h3 (by rintro rfl; simp at hk)
  exact ⟨b, o, _, rfl, hbn, List.getElem?_eq_getElem hk, hc k _ (List.getElem?_eq_getElem hk)⟩

set_option maxRecDepth 100000 in
set_option maxHeartbeats 2000000 in
theorem idxU_any (k : Nat) (cap : Array Value) (hcf : ∀ args w, (callFunc k args).run Tryz.prog w = .ok (.enter k args) w) (pr : Nat → Bool) (l : List Nat) (v : Value) (w : World) (hl : U64Is w.heap.size w l v) (hll : l.length ≤ 1048576)
    (HC : Hid (∀ x ∈ l, ∀ W, Below w.heap.size w W → Calls Tryz.prog k (#[.int .u64 x] ++ cap) W fun e w' => e = .returned (.bool (pr x)) ∧ Below W.heap.size W w')) :
    Calls Tryz.prog 194 #[v, .func (.func k) #[] cap] w fun e w' => (∃ i : Int, e = .returned (.int .i64 i) ∧ (0 ≤ i ↔ l.any pr = true)) ∧ Below w.heap.size w w' := by
  obtain ⟨ol, cl, rfl⟩ := hl.sh
  have HL := Lib.hid hl
  clear hl
  go_enter Tryz.func194, Tryz.ntmps194
  go_wp2_with fail
  go_loopw [8] (fun i wr => ∃ j : Nat, j ≤ l.length ∧ i = .int .i64 j ∧ Hid ((l.take j).any pr = false) ∧ Hid (Below w.heap.size w wr)) (fun i _ => l.length - (intOf i).toNat)
  case atStart => exact ⟨0, by omega, rfl, Lib.hid (by simp), Lib.hid (Below.refl _ _)⟩
  case round =>
    obtain ⟨j, hj, rfl, HN, HBW⟩ := hrel
    by_cases hlt : j < l.length
    · obtain ⟨b1, o1, x, rfl, hb1, hx, c0⟩ := (HL.out.carry HBW.out HBW.out.size).at hlt
      have HX := Lib.hid hx
      have HCU := Lib.hid (HC.out x (List.mem_of_getElem? hx) wr HBW.out)
      clear hx
      go_wp2_with fail
      refine HCU.out.mono ?_
      rintro e w2 ⟨rfl, hb⟩
      have HB2 := Lib.hid (HBW.out.trans (hb.mono HBW.out.size))
      clear hb
      cases hpr : pr x with
      | true =>
        have HY : Hid (l.any pr = true) := Lib.hid (List.any_eq_true.2 ⟨x, List.mem_of_getElem? HX.out, hpr⟩)
        clear hpr
        go_wp2_with fail
        go_ret
        exact ⟨⟨_, rfl, fun _ => HY.out, fun _ => by omega⟩, HB2.out⟩
      | false =>
        have HN2 : Hid ((l.take (j + 1)).any pr = false) := Lib.hid (by rw [List.take_add_one, HX.out, List.any_append, HN.out]; simp [hpr])
        clear hpr
        go_wp2_with fail
        exact ⟨⟨j + 1, by omega, by go_num, HN2, HB2⟩, by simp [intOf]; omega⟩
    · obtain rfl : j = l.length := by omega
      go_wp2_with fail
      go_ret
      have h := HN.out
      rw [List.take_of_length_le (Nat.le_refl _)] at h
      exact ⟨⟨_, rfl, fun h1 => absurd h1 (by decide), fun h1 => by rw [h] at h1; cases h1⟩, HBW.out⟩
set_option maxRecDepth 100000 in
theorem cfU_any (k : Nat) (cap : Array Value) (hcf : ∀ args w, (callFunc k args).run Tryz.prog w = .ok (.enter k args) w) (pr : Nat → Bool) (l : List Nat) (v : Value) (w : World) (hl : U64Is w.heap.size w l v) (hll : l.length ≤ 1048576)
    (HC : Hid (∀ x ∈ l, ∀ W, Below w.heap.size w W → Calls Tryz.prog k (#[.int .u64 x] ++ cap) W fun e w' => e = .returned (.bool (pr x)) ∧ Below W.heap.size W w')) :
    Calls Tryz.prog 134 #[v, .func (.func k) #[] cap] w fun e w' => e = .returned (.bool (l.any pr)) ∧ Below w.heap.size w w' := by
  have HIN := Lib.hid (idxU_any k cap hcf pr l v w hl hll HC)
  obtain ⟨ol, cl, rfl⟩ := hl.sh
  clear hl hcf
  go_enter Tryz.func134, Tryz.ntmps134
  go_wp2_with fail
  refine HIN.out.mono ?_
  rintro e w2 ⟨⟨i, rfl, hi⟩, hb⟩
  have HB := Lib.hid hb
  clear hb
  have hb : decide (0 ≤ i) = l.any pr := by
    cases h : l.any pr with
    | true => exact decide_eq_true (hi.2 h)
    | false => exact decide_eq_false fun h1 => by rw [hi.1 h1] at h; cases h
  have HD := Lib.hid hb
  clear hb hi
  go_wp2_with fail
  go_ret
  exact ⟨by rw [← HD.out]; rfl, HB.out⟩
end Go.Proofs.YtamddagmlanijaaGreat
/- Rows of rows of numbers in memory, matrices; slices.IndexFunc, slices.ContainsFunc at them. -/
namespace Go.Proofs.YtamddagmlanijaaGreat
open Go.RowKit
/-- a row of rows of numbers -/
def RowQ (n : Nat) (W : World) (p : List Nat) (cs : List Value) : Prop := ∃ op cp, cs = [.slice op p.length cp] ∧ U64Is n W p (.slice op p.length cp)
theorem keeps_RowsU : Keeps RowQ := by
  rintro n m A B p cs ⟨op, cp, rfl, h1⟩ hb hn
  exact ⟨op, cp, rfl, h1.carry hb hn⟩
abbrev RowsU := RecIs 1 RowQ
/-- a row of matrices, each by its rows -/
def MatQ1 (n : Nat) (W : World) (p : List (List Nat)) (cs : List Value) : Prop := ∃ op cp, cs = [.slice op p.length cp] ∧ (op = none → cp = 0) ∧ RowsU n W p (.slice op p.length cp)
theorem keeps_MatsU : Keeps MatQ1 := by
  rintro n m A B p cs ⟨op, cp, rfl, h0, h1⟩ hb hn
  exact ⟨op, cp, rfl, h0, h1.carry keeps_RowsU hb hn⟩
abbrev MatsU := RecIs 1 MatQ1
theorem RowsU.at1 {n : Nat} {W : World} {l : List (List Nat)} {oa : Option Addr} {cap k : Nat} (h : RowsU n W l (.slice oa l.length cap)) (hk : k < l.length) :
    ∃ (b o : Nat) (x : List Nat) (ov : Option Addr) (cv : Nat), oa = some ⟨b, o, none⟩ ∧ b < n ∧ l[k]? = some x ∧ U64Is n W x (.slice ov x.length cv) ∧ W.cell? ⟨b, o + k, none⟩ = some (.slice ov x.length cv) := by
  obtain ⟨b, o, x, cs, rfl, hb, hx, ⟨ov, cv, rfl, hq⟩, -, hj⟩ := h.get hk
  refine ⟨b, o, x, ov, cv, rfl, hb, hx, hq, ?_⟩
  have := hj 0 (by omega)
  simpa using this
theorem MatsU.at2 {n : Nat} {W : World} {l : List (List (List Nat))} {oa : Option Addr} {cap k : Nat} (h : MatsU n W l (.slice oa l.length cap)) (hk : k < l.length) :
    ∃ (b o : Nat) (x : List (List Nat)) (ov : Option Addr) (cv : Nat), oa = some ⟨b, o, none⟩ ∧ b < n ∧ l[k]? = some x ∧ (ov = none → x.length = 0 ∧ cv = 0) ∧ RowsU n W x (.slice ov x.length cv) ∧ W.cell? ⟨b, o + k, none⟩ = some (.slice ov x.length cv) := by
  obtain ⟨b, o, x, cs, rfl, hb, hx, ⟨ov, cv, rfl, h0, hq⟩, -, hj⟩ := h.get hk
  refine ⟨b, o, x, ov, cv, rfl, hb, hx, fun e => ⟨?_, h0 e⟩, hq, ?_⟩
  · subst e
    obtain ⟨oa', cap', e', -, h3⟩ := hq
    by_cases hne : x = []
    · rw [hne]; rfl
    · obtain ⟨b', o', e2, -⟩ := h3 hne
      subst e2
      cases e'
  · have := hj 0 (by omega)
    simpa using this
theorem MatsU.at1 {n : Nat} {W : World} {l : List (List (List Nat))} {oa : Option Addr} {cap k : Nat} (h : MatsU n W l (.slice oa l.length cap)) (hk : k < l.length) :
    ∃ (b o : Nat) (x : List (List Nat)) (ov : Option Addr) (cv : Nat), oa = some ⟨b, o, none⟩ ∧ b < n ∧ l[k]? = some x ∧ RowsU n W x (.slice ov x.length cv) ∧ W.cell? ⟨b, o + k, none⟩ = some (.slice ov x.length cv) := by
  obtain ⟨b, o, x, ov, cv, h1, h2, h3, -, h4, h5⟩ := h.at2 hk
  exact ⟨b, o, x, ov, cv, h1, h2, h3, h4, h5⟩
/-- the interpretation of a symbol: its vector, its matrices -/
abbrev Mx := Key × List Nat × List (List (List Nat))
def MatQ (n : Nat) (W : World) (p : Mx) (cs : List Value) : Prop := ∃ ov cv om cm, cs = [.string (kb p.1), .slice ov p.2.1.length cv, .slice om p.2.2.length cm] ∧ U64Is n W p.2.1 (.slice ov p.2.1.length cv) ∧ MatsU n W p.2.2 (.slice om p.2.2.length cm)
theorem keeps_MxsIs : Keeps MatQ := by
  rintro n m A B p cs ⟨ov, cv, om, cm, rfl, h1, h2⟩ hb hn
  exact ⟨ov, cv, om, cm, rfl, h1.carry hb hn, h2.carry keeps_MatsU hb hn⟩
abbrev MxsIs := RecIs 3 MatQ

set_option maxRecDepth 100000 in
set_option maxHeartbeats 2000000 in
theorem idxR_any (k : Nat) (cap : Array Value) (hcf : ∀ args w, (callFunc k args).run Tryz.prog w = .ok (.enter k args) w) (pr : (List Nat) → Bool) (l : List (List Nat)) (v : Value) (w : World) (hl : RowsU w.heap.size w l v) (hll : l.length ≤ 1048576)
    (HC : Hid (∀ x ∈ l, ∀ W u, Below w.heap.size w W → U64Is W.heap.size W x u → Calls Tryz.prog k (#[u] ++ cap) W fun e w' => e = .returned (.bool (pr x)) ∧ Below W.heap.size W w')) :
    Calls Tryz.prog 213 #[v, .func (.func k) #[] cap] w fun e w' => (∃ i : Int, e = .returned (.int .i64 i) ∧ (0 ≤ i ↔ l.any pr = true)) ∧ Below w.heap.size w w' := by
  obtain ⟨ol, cl, rfl⟩ := hl.shape
  have HL := Lib.hid hl
  clear hl
  go_enter Tryz.func213, Tryz.ntmps213
  go_wp2_with fail
  go_loopw [8] (fun i wr => ∃ j : Nat, j ≤ l.length ∧ i = .int .i64 j ∧ Hid ((l.take j).any pr = false) ∧ Hid (Below w.heap.size w wr)) (fun i _ => l.length - (intOf i).toNat)
  case atStart => exact ⟨0, by omega, rfl, Lib.hid (by simp), Lib.hid (Below.refl _ _)⟩
  case round =>
    obtain ⟨j, hj, rfl, HN, HBW⟩ := hrel
    by_cases hlt : j < l.length
    · obtain ⟨b1, o1, x, ov, cv, rfl, hb1, hx, hq, c0⟩ := RowsU.at1 (HL.out.carry keeps_RowsU HBW.out HBW.out.size) hlt
      have HX := Lib.hid hx
      have HCU := Lib.hid (HC.out x (List.mem_of_getElem? hx) wr _ HBW.out hq)
      clear hx hq
      go_wp2_with fail
      refine HCU.out.mono ?_
      rintro e w2 ⟨rfl, hb⟩
      have HB2 := Lib.hid (HBW.out.trans (hb.mono HBW.out.size))
      clear hb
      cases hpr : pr x with
      | true =>
        have HY : Hid (l.any pr = true) := Lib.hid (List.any_eq_true.2 ⟨x, List.mem_of_getElem? HX.out, hpr⟩)
        clear hpr
        go_wp2_with fail
        go_ret
        exact ⟨⟨_, rfl, fun _ => HY.out, fun _ => by omega⟩, HB2.out⟩
      | false =>
        have HN2 : Hid ((l.take (j + 1)).any pr = false) := Lib.hid (by rw [List.take_add_one, HX.out, List.any_append, HN.out]; simp [hpr])
        clear hpr
        go_wp2_with fail
        exact ⟨⟨j + 1, by omega, by go_num, HN2, HB2⟩, by simp [intOf]; omega⟩
    · obtain rfl : j = l.length := by omega
      go_wp2_with fail
      go_ret
      have h := HN.out
      rw [List.take_of_length_le (Nat.le_refl _)] at h
      exact ⟨⟨_, rfl, fun h1 => absurd h1 (by decide), fun h1 => by rw [h] at h1; cases h1⟩, HBW.out⟩
set_option maxRecDepth 100000 in
theorem cfR_any (k : Nat) (cap : Array Value) (hcf : ∀ args w, (callFunc k args).run Tryz.prog w = .ok (.enter k args) w) (pr : (List Nat) → Bool) (l : List (List Nat)) (v : Value) (w : World) (hl : RowsU w.heap.size w l v) (hll : l.length ≤ 1048576)
    (HC : Hid (∀ x ∈ l, ∀ W u, Below w.heap.size w W → U64Is W.heap.size W x u → Calls Tryz.prog k (#[u] ++ cap) W fun e w' => e = .returned (.bool (pr x)) ∧ Below W.heap.size W w')) :
    Calls Tryz.prog 157 #[v, .func (.func k) #[] cap] w fun e w' => e = .returned (.bool (l.any pr)) ∧ Below w.heap.size w w' := by
  have HIN := Lib.hid (idxR_any k cap hcf pr l v w hl hll HC)
  obtain ⟨ol, cl, rfl⟩ := hl.shape
  clear hl hcf
  go_enter Tryz.func157, Tryz.ntmps157
  go_wp2_with fail
  refine HIN.out.mono ?_
  rintro e w2 ⟨⟨i, rfl, hi⟩, hb⟩
  have HB := Lib.hid hb
  clear hb
  have hb : decide (0 ≤ i) = l.any pr := by
    cases h : l.any pr with
    | true => exact decide_eq_true (hi.2 h)
    | false => exact decide_eq_false fun h1 => by rw [hi.1 h1] at h; cases h
  have HD := Lib.hid hb
  clear hb hi
  go_wp2_with fail
  go_ret
  exact ⟨by rw [← HD.out]; rfl, HB.out⟩

set_option maxRecDepth 100000 in
set_option maxHeartbeats 2000000 in
theorem idxM_any (k : Nat) (cap : Array Value) (hcf : ∀ args w, (callFunc k args).run Tryz.prog w = .ok (.enter k args) w) (pr : (List (List Nat)) → Bool) (l : List (List (List Nat))) (v : Value) (w : World) (hl : MatsU w.heap.size w l v) (hll : l.length ≤ 1048576)
    (HC : Hid (∀ x ∈ l, ∀ W u, Below w.heap.size w W → RowsU W.heap.size W x u → Calls Tryz.prog k (#[u] ++ cap) W fun e w' => e = .returned (.bool (pr x)) ∧ Below W.heap.size W w')) :
    Calls Tryz.prog 212 #[v, .func (.func k) #[] cap] w fun e w' => (∃ i : Int, e = .returned (.int .i64 i) ∧ (0 ≤ i ↔ l.any pr = true)) ∧ Below w.heap.size w w' := by
  obtain ⟨ol, cl, rfl⟩ := hl.shape
  have HL := Lib.hid hl
  clear hl
  go_enter Tryz.func212, Tryz.ntmps212
  go_wp2_with fail
  go_loopw [8] (fun i wr => ∃ j : Nat, j ≤ l.length ∧ i = .int .i64 j ∧ Hid ((l.take j).any pr = false) ∧ Hid (Below w.heap.size w wr)) (fun i _ => l.length - (intOf i).toNat)
  case atStart => exact ⟨0, by omega, rfl, Lib.hid (by simp), Lib.hid (Below.refl _ _)⟩
  case round =>
    obtain ⟨j, hj, rfl, HN, HBW⟩ := hrel
    by_cases hlt : j < l.length
    · obtain ⟨b1, o1, x, ov, cv, rfl, hb1, hx, hq, c0⟩ := MatsU.at1 (HL.out.carry keeps_MatsU HBW.out HBW.out.size) hlt
      have HX := Lib.hid hx
      have HCU := Lib.hid (HC.out x (List.mem_of_getElem? hx) wr _ HBW.out hq)
      clear hx hq
      go_wp2_with fail
      refine HCU.out.mono ?_
      rintro e w2 ⟨rfl, hb⟩
      have HB2 := Lib.hid (HBW.out.trans (hb.mono HBW.out.size))
      clear hb
      cases hpr : pr x with
      | true =>
        have HY : Hid (l.any pr = true) := Lib.hid (List.any_eq_true.2 ⟨x, List.mem_of_getElem? HX.out, hpr⟩)
        clear hpr
        go_wp2_with fail
        go_ret
        exact ⟨⟨_, rfl, fun _ => HY.out, fun _ => by omega⟩, HB2.out⟩
      | false =>
        have HN2 : Hid ((l.take (j + 1)).any pr = false) := Lib.hid (by rw [List.take_add_one, HX.out, List.any_append, HN.out]; simp [hpr])
        clear hpr
        go_wp2_with fail
        exact ⟨⟨j + 1, by omega, by go_num, HN2, HB2⟩, by simp [intOf]; omega⟩
    · obtain rfl : j = l.length := by omega
      go_wp2_with fail
      go_ret
      have h := HN.out
      rw [List.take_of_length_le (Nat.le_refl _)] at h
      exact ⟨⟨_, rfl, fun h1 => absurd h1 (by decide), fun h1 => by rw [h] at h1; cases h1⟩, HBW.out⟩
set_option maxRecDepth 100000 in
theorem cfM_any (k : Nat) (cap : Array Value) (hcf : ∀ args w, (callFunc k args).run Tryz.prog w = .ok (.enter k args) w) (pr : (List (List Nat)) → Bool) (l : List (List (List Nat))) (v : Value) (w : World) (hl : MatsU w.heap.size w l v) (hll : l.length ≤ 1048576)
    (HC : Hid (∀ x ∈ l, ∀ W u, Below w.heap.size w W → RowsU W.heap.size W x u → Calls Tryz.prog k (#[u] ++ cap) W fun e w' => e = .returned (.bool (pr x)) ∧ Below W.heap.size W w')) :
    Calls Tryz.prog 154 #[v, .func (.func k) #[] cap] w fun e w' => e = .returned (.bool (l.any pr)) ∧ Below w.heap.size w w' := by
  have HIN := Lib.hid (idxM_any k cap hcf pr l v w hl hll HC)
  obtain ⟨ol, cl, rfl⟩ := hl.shape
  clear hl hcf
  go_enter Tryz.func154, Tryz.ntmps154
  go_wp2_with fail
  refine HIN.out.mono ?_
  rintro e w2 ⟨⟨i, rfl, hi⟩, hb⟩
  have HB := Lib.hid hb
  clear hb
  have hb : decide (0 ≤ i) = l.any pr := by
    cases h : l.any pr with
    | true => exact decide_eq_true (hi.2 h)
    | false => exact decide_eq_false fun h1 => by rw [hi.1 h1] at h; cases h
  have HD := Lib.hid hb
  clear hb hi
  go_wp2_with fail
  go_ret
  exact ⟨by rw [← HD.out]; rfl, HB.out⟩
end Go.Proofs.YtamddagmlanijaaGreat
