/- Packed: Pure, Blw, Mon, Ord, Are. -/
import Derived.Test.YtamddagmlanijaaGreatP16
import Derived.WalkKit
import Derived.ProofKit
import Derived.OpenShut
import Derived.Handy
import Derived.Lib.Hide
import Derived.Test.YtamddagmlanijaaGreatP15
import Derived.Shelf.Small.Bits
import Derived.Shelf.Small.Strs
import Derived.Shelf.Small.Wraps
import Derived.Shelf.Strconv.Itoa0
import Derived.Shelf.Strings.Prefix
import Derived.Shelf.Bits.Mul64
import Derived.Shelf.Slices.Equal
import Derived.Ground.Names2Prog
import Derived.Shelf.Slices.Clone
import Derived.Shelf.Slices.Empties2
import Derived.Ground.SlgnProg
import Derived.Shelf.SlicesE.Clone
import Derived.Ground.SlsfProg
import Derived.Shelf.SlSortCmp.Insertion
import Derived.Shelf.SlSortCmp.SiftDown1
import Derived.Shelf.SlSortCmp.HeapSort1
import Derived.Shelf.SlSortCmp.Insertion1
import Derived.Shelf.SlSortCmp.Median1
import Derived.Shelf.SlSortCmp.Pivot1
import Derived.Shelf.SlSortCmp.ReverseRange1
import Derived.Test.YtamddagmlanijaaGreatProg
import Derived.Test.YtamddagmlanijaaGreatP01
import Derived.BigQuiet
import Derived.Deep.RegionHeld3
import Derived.Test.YtamddagmlanijaaGreatP04
import Derived.Test.YtamddagmlanijaaGreatP05
import Derived.Test.YtamddagmlanijaaGreatP06
import Derived.Shelf.SlSortCmp.Whole1
/- Places replaced: plain facts. -/
namespace Go.Proofs.YtamddagmlanijaaGreat
open Go.RowKit

theorem Tm.put_cons {t x : Tm} {i : Int} (h : t.kid i = some x) (l : List Int) (u : Tm) : t.put (i :: l) u = .mk t.nm t.vr (t.ts.set i.toNat (x.put l u)) := by simp only [Tm.put, h]
theorem Tm.at_cons {t x : Tm} {i : Int} (h : t.kid i = some x) (l : List Int) : t.at (i :: l) = x.at l := by simp only [Tm.at, h]
theorem Tm.at_cons_some {t : Tm} {i : Int} {l : List Int} (h : (t.at (i :: l)).isSome) : ∃ x, t.kid i = some x ∧ (x.at l).isSome := by
  simp only [Tm.at] at h
  cases hk : t.kid i with
  | none => rw [hk] at h; simp at h
  | some x => rw [hk] at h; exact ⟨x, rfl, h⟩
theorem Tm.kid_spec {t x : Tm} {i : Int} (h : t.kid i = some x) : 0 ≤ i ∧ t.ts[i.toNat]? = some x := by
  unfold Tm.kid at h; split at h
  · rename_i h0; exact ⟨h0, h⟩
  · cases h
theorem Tm.kid_set {t x y : Tm} {i : Int} (h : t.kid i = some x) (j : Int) : (Tm.mk t.nm t.vr (t.ts.set i.toNat y)).kid j = if j = i then some y else t.kid j := by
  obtain ⟨h0, h1⟩ := Tm.kid_spec h
  have hlt := (List.getElem?_eq_some_iff.1 h1).1
  unfold Tm.kid
  by_cases e : j = i
  · subst e
    rw [if_pos h0, if_pos rfl]
    exact List.getElem?_set_self hlt
  · rw [if_neg e]
    split
    · exact List.getElem?_set_ne (by omega)
    · rfl
theorem Tm.put_at {t x : Tm} {l : List Int} (h : t.at l = some x) : t.put l x = t := by
  induction l generalizing t with
  | nil => simp only [Tm.at, Option.some.injEq] at h; subst h; rfl
  | cons i l ih =>
    obtain ⟨y, hy, _⟩ := Tm.at_cons_some (t := t) (i := i) (l := l) (by rw [h]; rfl)
    rw [Tm.at_cons hy] at h
    rw [Tm.put_cons hy, ih h]
    obtain ⟨_, h1⟩ := Tm.kid_spec hy
    have : t.ts.set i.toNat y = t.ts := by
      apply List.ext_getElem?
      intro k
      by_cases e : i.toNat = k
      · subst e; rw [List.getElem?_set_self (List.getElem?_eq_some_iff.1 h1).1, h1]
      · rw [List.getElem?_set_ne e]
    rw [this]; cases t; rfl
theorem Parallel.cons {i j : Int} {p q : List Int} (h : Parallel (i :: p) (j :: q)) : i ≠ j ∨ (i = j ∧ Parallel p q) := by
  obtain ⟨k, x, y, h1, h2, h3⟩ := h
  by_cases e : i = j
  · refine .inr ⟨e, ?_⟩
    cases k with
    | zero => simp at h1 h2; subst h1; subst h2; exact absurd e h3
    | succ k => exact ⟨k, x, y, by simpa using h1, by simpa using h2, h3⟩
  · exact .inl e
theorem Tm.at_put_par {t : Tm} {p q : List Int} (hp : Parallel p q) (h : (t.at p).isSome) (u : Tm) : (t.put p u).at q = t.at q := by
  induction p generalizing t q with
  | nil => obtain ⟨k, x, y, h1, _⟩ := hp; simp at h1
  | cons i p ih =>
    cases q with
    | nil => obtain ⟨k, x, y, _, h2, _⟩ := hp; simp at h2
    | cons j q =>
      obtain ⟨x, hx, hl⟩ := Tm.at_cons_some h
      rw [Tm.put_cons hx]
      simp only [Tm.at, Tm.kid_set hx]
      rcases hp.cons with e | ⟨rfl, hp'⟩
      · rw [if_neg (fun h => e h.symm)]
      · rw [if_pos rfl, hx]; exact ih hp' hl
theorem Tm.put_put_par {t : Tm} {p q : List Int} (hp : Parallel p q) (h : (t.at p).isSome) (hq : (t.at q).isSome) (u v : Tm) : (t.put p u).put q v = (t.put q v).put p u := by
  induction p generalizing t q with
  | nil => obtain ⟨k, x, y, h1, _⟩ := hp; simp at h1
  | cons i p ih =>
    cases q with
    | nil => obtain ⟨k, x, y, _, h2, _⟩ := hp; simp at h2
    | cons j q =>
      obtain ⟨x, hx, hl⟩ := Tm.at_cons_some h
      obtain ⟨y, hy, hm⟩ := Tm.at_cons_some hq
      rw [Tm.put_cons hx, Tm.put_cons hy]
      rcases hp.cons with e | ⟨rfl, hp'⟩
      · have hi := (Tm.kid_spec hx).1
        have hj := (Tm.kid_spec hy).1
        rw [Tm.put_cons (x := y) (by rw [Tm.kid_set hx, if_neg (fun h => e h.symm)]; exact hy), Tm.put_cons (x := x) (by rw [Tm.kid_set hy, if_neg e]; exact hx)]
        simp only [Tm.nm, Tm.vr, Tm.ts]
        rw [List.set_comm _ _ (by omega)]
      · rw [hx] at hy; cases hy
        rw [Tm.put_cons (x := x.put p u) (by rw [Tm.kid_set hx, if_pos rfl]), Tm.put_cons (x := x.put q v) (by rw [Tm.kid_set hx, if_pos rfl])]
        simp only [Tm.nm, Tm.vr, Tm.ts, List.set_set, ih hp' hl hm]
theorem Tm.at_size {t u : Tm} {l : List Int} (h : t.at l = some u) : u.size ≤ t.size := by
  induction l generalizing t with
  | nil => simp only [Tm.at, Option.some.injEq] at h; subst h; exact Nat.le_refl _
  | cons i l ih =>
    obtain ⟨y, hy, _⟩ := Tm.at_cons_some (t := t) (i := i) (l := l) (by rw [h]; rfl)
    rw [Tm.at_cons hy] at h
    have h1 := ih h
    have h2 := Tm.size_mem (Tm.kid_mem hy)
    have h3 := Tm.size_eq t
    omega
theorem Tm.at_depth {t u : Tm} {l : List Int} (h : t.at l = some u) : u.depth ≤ t.depth := by
  induction l generalizing t with
  | nil => simp only [Tm.at, Option.some.injEq] at h; subst h; exact Nat.le_refl _
  | cons i l ih =>
    obtain ⟨y, hy, _⟩ := Tm.at_cons_some (t := t) (i := i) (l := l) (by rw [h]; rfl)
    rw [Tm.at_cons hy] at h
    have h1 := ih h
    have h2 := Tm.depth_mem (Tm.kid_mem hy)
    have h3 := Tm.depth_eq t
    omega
theorem Tm.ok.at {t u : Tm} (ht : t.ok) {l : List Int} (h : t.at l = some u) : u.ok :=
  ⟨ht.1.at h, Nat.le_trans (Tm.at_size h) ht.2.1, Nat.le_trans (Tm.at_depth h) ht.2.2⟩

theorem PutSays.bulk {t u r : Tm} {p : List Int} {c : Int} (h : PutSays t p u r c) : r.bulk ≤ t.bulk + u.bulk := by
  rcases h with ⟨_, _, _, _, _, hr⟩ | ⟨_, hr, _⟩
  · rw [hr]; exact Tm.put_bulk t p u
  · rw [hr]; have := Tm.bulk_eq t; have h1 : Tm.zero.bulk = 1 := rfl; omega
/-- a part put back -/
theorem PutSays.back {t x r : Tm} {p : List Int} {c : Int} (h : PutSays t p x r c) (ht : t.ok) (hx : t.at p = some x) : c = 0 ∧ r = t := by
  rcases h with ⟨h0, _, _, _, _, hr⟩ | ⟨_, _, h3⟩
  · exact ⟨h0, by rw [hr, Tm.put_at hx]⟩
  · obtain ⟨_, hn⟩ := h3 ht (by rw [hx]; rfl) (ht.at hx)
    rw [Tm.put_at hx] at hn
    exact absurd ht hn
end Go.Proofs.YtamddagmlanijaaGreat
/- isBelow: is a position below another one? -/
namespace Go.Proofs.YtamddagmlanijaaGreat
open Go.RowKit

def belowB (p o : List Int) : Bool := decide (o.length < p.length) && (p.take o.length == o)
theorem PosC.ofRow {W : World} {m : Nat} {e : TypeId} {v : Value} {l : List Int} (h : W.ownsRow m e 1 v l.length (ints l)) : PosC W.heap.size W l v := by
  refine ⟨PosIs.ofRow h, fun oa n c e => ?_⟩
  rcases h.2 with ⟨rfl, h2⟩ | ⟨g, cap, cur, rfl, hb, hg, hle, -⟩
  · cases e; exact Nat.le_refl _
  · cases e; exact hle

/-- slices.Equal at positions -/
theorem equalPos_any (a b : List Int) (va vb : Value) (w : World) (n : Nat) (ha : PosIs n w a va) (hb : PosIs n w b vb) (hla : a.length ≤ 1048576) (hlb : b.length ≤ 1048576) :
    Calls Tryz.prog 102 #[va, vb] w fun e w' => e = .returned (.bool (a == b)) ∧ Below w.heap.size w w' := by
  obtain ⟨oa, ca, rfl, hpa⟩ := ha.form
  obtain ⟨ob, cb, rfl, hpb⟩ := hb.form
  by_cases hne : a = []
  · subst hne
    refine (Tryz.slices_Equal_int_empty oa ob ca b.length cb w (by omega)).mono ?_
    rintro e w' ⟨rfl, rfl⟩
    refine ⟨?_, Below.refl _ _⟩
    cases b <;> rfl
  · by_cases hlen : a.length = b.length
    · have hne2 : b ≠ [] := by rintro rfl; exact hne (List.eq_nil_of_length_eq_zero hlen)
      obtain ⟨b1, o1, rfl, _, hc1⟩ := hpa hne
      obtain ⟨b2, o2, rfl, _, hc2⟩ := hpb hne2
      refine (Tryz.slices_Equal_int b1 o1 a.length ca b2 o2 b.length cb a b w (Nat.le_refl _) (Nat.le_refl _) (by omega) (by omega) (fun j hj => ?_) (fun j hj => ?_)).mono ?_
      · rw [List.getD_eq_getElem?_getD, List.getElem?_eq_getElem hj]; exact hc1 j _ (List.getElem?_eq_getElem hj)
      · rw [List.getD_eq_getElem?_getD, List.getElem?_eq_getElem hj]; exact hc2 j _ (List.getElem?_eq_getElem hj)
      · rintro e w' ⟨rfl, q, rfl⟩
        rw [List.take_length, List.take_length]
        exact ⟨rfl, below_drewN q (Below.refl _ _)⟩
    · refine (Tryz.slices_Equal_int_lens oa ob a.length ca b.length cb w hlen).mono ?_
      rintro e w' ⟨rfl, rfl⟩
      refine ⟨?_, Below.refl _ _⟩
      rw [show (a == b) = false from by rw [beq_eq_false_iff_ne]; exact fun h => hlen (by rw [h])]

set_option maxRecDepth 100000 in
set_option maxHeartbeats 1000000 in
theorem isBelow_any (p o : List Int) (vp vo : Value) (w : World) (n : Nat) (hp : PosC n w p vp) (ho : PosIs n w o vo) (hlp : p.length ≤ 1048576) (hlo : o.length ≤ 1048576) :
    Calls Tryz.prog 103 #[vp, vo] w fun e w' => e = .returned (.bool (belowB p o)) ∧ Below w.heap.size w w' := by
  obtain ⟨op, cp, rfl, hpp⟩ := hp.1.form
  obtain ⟨oo, co, rfl, hoo⟩ := ho.form
  have hcap := hp.2 _ _ _ rfl
  have HO := Lib.hid ho
  have HPP := Lib.hid hpp
  clear hp ho hpp hoo
  by_cases hlt : o.length < p.length
  · have HB : Hid (belowB p o = (p.take o.length == o)) := Lib.hid (by unfold belowB; rw [decide_eq_true hlt, Bool.true_and])
    have htk : (p.take o.length).length = o.length := by rw [List.length_take]; omega
    have htp : PosIs n w (p.take o.length) (.slice op o.length cp) := by
      refine ⟨op, cp, by rw [htk], fun hne => ?_⟩
      obtain ⟨b, off, h1, h2, h3⟩ := HPP.out (by rintro rfl; simp at hlt)
      refine ⟨b, off, h1, h2, fun i x hx => h3 i x ?_⟩
      rw [List.getElem?_take] at hx
      split at hx
      · exact hx
      · cases hx
    have HTP := Lib.hid htp
    have HEQ := Lib.hid (equalPos_any (p.take o.length) o (.slice op o.length cp) (.slice oo o.length co) w n HTP.out HO.out (by omega) hlo)
    clear htk htp
    go_enter Tryz.func103, Tryz.ntmps103
    go_wp2_with (go_at_call 102; refine HEQ.out.mono ?_; rintro e w1 ⟨rfl, hb1⟩; have HB1 := Lib.hid hb1; clear hb1)
    go_ret
    rw [HB.out]
    exact ⟨rfl, HB1.out⟩
  · have HB : Hid (belowB p o = false) := Lib.hid (by unfold belowB; rw [decide_eq_false hlt, Bool.false_and])
    go_enter Tryz.func103, Tryz.ntmps103
    go_wp2_with fail
    go_ret
    rw [HB.out]
    exact ⟨rfl, Below.refl _ _⟩
end Go.Proofs.YtamddagmlanijaaGreat
/- Rows of records in memory; monomials, polynomials; lexicographic comparison of exponents. -/
namespace Go.Proofs.YtamddagmlanijaaGreat
open Go.RowKit

/-- the slice value v holds these records of c cells each, in blocks below n; Q says what a record's cells are -/
def RecIs {α : Type} (c : Nat) (Q : Nat → World → α → List Value → Prop) (n : Nat) (W : World) (l : List α) (v : Value) : Prop :=
  ∃ oa cap, v = .slice oa l.length cap ∧ l.length ≤ cap ∧
    (l ≠ [] → ∃ b o, oa = some ⟨b, o, none⟩ ∧ b < n ∧ ∀ i p, l[i]? = some p → ∃ cs, Q n W p cs ∧ cs.length = c ∧ ∀ j, j < c → W.cell? ⟨b, o + i * c + j, none⟩ = cs[j]?)
/-- Q goes on where memory below n is kept -/
def Keeps {α : Type} (Q : Nat → World → α → List Value → Prop) : Prop := ∀ (n m : Nat) (A B : World) (p : α) (cs : List Value), Q n A p cs → Below n A B → n ≤ m → Q m B p cs
theorem RecIs.carry {α : Type} {c : Nat} {Q : Nat → World → α → List Value → Prop} (hQ : Keeps Q) {n m : Nat} {A B : World} {l : List α} {v : Value} (h : RecIs c Q n A l v) (hb : Below n A B) (hn : n ≤ m) : RecIs c Q m B l v := by
  obtain ⟨oa, cap, rfl, h1, h3⟩ := h
  refine ⟨oa, cap, rfl, h1, fun hne => ?_⟩
  obtain ⟨b, o, rfl, hbn, hc⟩ := h3 hne
  refine ⟨b, o, rfl, by omega, fun i p hp => ?_⟩
  obtain ⟨cs, hq, hl, hj⟩ := hc i p hp
  exact ⟨cs, hQ n m A B p cs hq hb hn, hl, fun j hjc => (hb.cell (p := ⟨b, _, none⟩) hbn).trans (hj j hjc)⟩
theorem RecIs.shape {α : Type} {c : Nat} {Q : Nat → World → α → List Value → Prop} {n : Nat} {W : World} {l : List α} {v : Value} (h : RecIs c Q n W l v) : ∃ oa cap, v = .slice oa l.length cap := by obtain ⟨oa, cap, rfl, -⟩ := h; exact ⟨oa, cap, rfl⟩
theorem RecIs.get {α : Type} {c : Nat} {Q : Nat → World → α → List Value → Prop} {n : Nat} {W : World} {l : List α} {oa : Option Addr} {cap k : Nat} (h : RecIs c Q n W l (.slice oa l.length cap)) (hk : k < l.length) :
    ∃ (b o : Nat) (p : α) (cs : List Value), oa = some ⟨b, o, none⟩ ∧ b < n ∧ l[k]? = some p ∧ Q n W p cs ∧ cs.length = c ∧ ∀ j, j < c → W.cell? ⟨b, o + k * c + j, none⟩ = cs[j]? := by
  obtain ⟨oa', cap', e, -, h3⟩ := h
  simp only [Value.slice.injEq, true_and] at e
  obtain ⟨rfl, rfl⟩ := e
  obtain ⟨b, o, rfl, hbn, hc⟩ := h3 (by rintro rfl; simp at hk)
  obtain ⟨cs, hq, hl, hj⟩ := hc k _ (List.getElem?_eq_getElem hk)
  exact ⟨b, o, _, cs, rfl, hbn, List.getElem?_eq_getElem hk, hq, hl, hj⟩
theorem PosIs.at {n : Nat} {W : World} {l : List Int} {oa : Option Addr} {cap k : Nat} (h : PosIs n W l (.slice oa l.length cap)) (hk : k < l.length) : ∃ b o x, oa = some ⟨b, o, none⟩ ∧ b < n ∧ l[k]? = some x ∧ W.cell? ⟨b, o + k, none⟩ = some (.int .i64 x) := by
  obtain ⟨oa', cap', e, h3⟩ := h
  simp only [Value.slice.injEq, true_and] at e
  obtain ⟨rfl, rfl⟩ := e
  obtain ⟨b, o, rfl, hbn, hc⟩ := h3 (by rintro rfl; simp at hk)
  exact ⟨b, o, _, rfl, hbn, List.getElem?_eq_getElem hk, hc k _ (List.getElem?_eq_getElem hk)⟩

/-- the lexicographic comparison -/
def cmpI : List Int → List Int → Int
  | [], [] => 0
  | [], _ :: _ => -1
  | _ :: _, [] => 1
  | a :: l, b :: r => if a = b then cmpI l r else if a < b then -1 else 1
def cmpZ (a b : Int) : Int := if a < b then -1 else if b < a then 1 else 0
theorem cmpI_drop : ∀ (k : Nat) {l r : List Int}, k ≤ l.length → k ≤ r.length → l.take k = r.take k → cmpI l r = cmpI (l.drop k) (r.drop k) := by
  intro k
  induction k with
  | zero => intro l r _ _ _; rfl
  | succ k ih =>
    intro l r h1 h2 h
    match l, r, h1, h2, h with
    | a :: l, b :: r, h1, h2, h =>
      simp only [List.take_succ_cons, List.cons.injEq] at h
      obtain ⟨rfl, h⟩ := h
      rw [cmpI, if_pos rfl]
      exact ih (by simpa using h1) (by simpa using h2) h
theorem cmpI_part {k : Nat} {l r : List Int} {a b : Int} (h : l.take k = r.take k) (ha : l[k]? = some a) (hb : r[k]? = some b) (hne : a ≠ b) : cmpI l r = cmpZ a b := by
  have h1 := (List.getElem?_eq_some_iff.1 ha).1
  have h2 := (List.getElem?_eq_some_iff.1 hb).1
  rw [cmpI_drop k (by omega) (by omega) h, List.drop_eq_getElem_cons h1, List.drop_eq_getElem_cons h2, cmpI]
  rw [(List.getElem?_eq_some_iff.1 ha).2, (List.getElem?_eq_some_iff.1 hb).2, if_neg hne]
  unfold cmpZ
  split
  · rfl
  · rw [if_pos (by omega)]
theorem cmpI_short {l r : List Int} (h : l.take r.length = r) (hl : r.length < l.length) : cmpI l r = 1 := by
  rw [cmpI_drop r.length (by omega) (Nat.le_refl _) (by rw [h, List.take_of_length_le (Nat.le_refl _)]), List.drop_of_length_le (Nat.le_refl _)]
  rw [List.drop_eq_getElem_cons hl]; rfl
theorem cmpI_pre {l r : List Int} (h : l = r.take l.length) (hl : l.length ≤ r.length) : cmpI l r = if l.length < r.length then -1 else 0 := by
  rw [cmpI_drop l.length (Nat.le_refl _) hl (by rw [List.take_of_length_le (Nat.le_refl _)]; exact h), List.drop_of_length_le (Nat.le_refl _)]
  split
  · rename_i h1
    rw [List.drop_eq_getElem_cons h1]; rfl
  · rw [List.drop_of_length_le (by omega)]; rfl
theorem take_next {k : Nat} {l r : List Int} {a : Int} (h : l.take k = r.take k) (ha : l[k]? = some a) (hb : r[k]? = some a) : l.take (k + 1) = r.take (k + 1) := by
  rw [List.take_add_one, List.take_add_one, h, ha, hb]
end Go.Proofs.YtamddagmlanijaaGreat
/- Steps at parallel places: plain facts. -/
namespace Go.Proofs.YtamddagmlanijaaGreat
open Go.RowKit

theorem Parallel.symm {a b : List Int} (h : Parallel a b) : Parallel b a := by
  obtain ⟨k, x, y, h1, h2, h3⟩ := h
  exact ⟨k, y, x, h2, h1, fun e => h3 e.symm⟩
theorem Parallel.irrefl {a : List Int} (h : Parallel a a) : False := by
  obtain ⟨k, x, y, h1, h2, h3⟩ := h
  rw [h1] at h2; exact h3 (Option.some.inj h2)
/-- neither starts with the other -/
theorem parallel_of {a b : List Int} (h1 : ¬ a <+: b) (h2 : ¬ b <+: a) : Parallel a b := by
  induction a generalizing b with
  | nil => exact absurd (List.nil_prefix) h1
  | cons x a ih =>
    cases b with
    | nil => exact absurd (List.nil_prefix) h2
    | cons y b =>
      by_cases e : x = y
      · subst e
        obtain ⟨k, u, v, g1, g2, g3⟩ := ih (b := b) (fun h => h1 ((List.prefix_cons_inj x).2 h)) (fun h => h2 ((List.prefix_cons_inj x).2 h))
        exact ⟨k + 1, u, v, by simpa using g1, by simpa using g2, g3⟩
      · exact ⟨0, x, y, rfl, rfl, e⟩
theorem cmpI_between {a b c : List Int} (h : a <+: c) (h1 : ¬ cmpI b a < 0) (h2 : ¬ cmpI c b < 0) : a <+: b := by
  induction a generalizing b c with
  | nil => exact List.nil_prefix
  | cons x a ih =>
    obtain ⟨r, rfl⟩ := h
    cases b with
    | nil => exact absurd (by simp [cmpI]) h1
    | cons y b =>
      simp only [cmpI, List.cons_append] at h1 h2
      by_cases e : y = x
      · subst e
        rw [if_pos rfl] at h1 h2
        exact (List.prefix_cons_inj y).2 (ih (c := a ++ r) (List.prefix_append _ _) h1 h2)
      · rw [if_neg e] at h1
        rw [if_neg (fun h => e h.symm)] at h2
        by_cases hlt : y < x
        · rw [if_pos hlt] at h1; exact absurd (by decide) h1
        · rw [if_pos (by omega)] at h2; exact absurd (by decide) h2
theorem cmpI_back {a c : List Int} (h : c <+: a) (h1 : ¬ cmpI c a < 0) : a <+: c := by
  induction c generalizing a with
  | nil =>
    cases a with
    | nil => exact List.nil_prefix
    | cons x a => exact absurd (by simp [cmpI]) h1
  | cons x c ih =>
    obtain ⟨r, rfl⟩ := h
    simp only [List.cons_append] at h1 ⊢
    rw [cmpI, if_pos rfl] at h1
    exact (List.prefix_cons_inj x).2 (ih (List.prefix_append _ _) h1)
theorem sorted_parallel {ps : List (List Int)} (hs : ∀ (i j : Nat) (a b : List Int), i < j → ps[i]? = some a → ps[j]? = some b → ¬ cmpI b a < 0)
    (hn : ∀ (i : Nat) (a b : List Int), ps[i]? = some a → ps[i + 1]? = some b → ¬ a <+: b) : ps.Pairwise Parallel := by
  have key : ∀ (i j : Nat) (a b : List Int), i < j → ps[i]? = some a → ps[j]? = some b → ¬ a <+: b := by
    intro i j a b hij ha hb h
    by_cases e : j = i + 1
    · subst e; exact hn i a b ha hb h
    · have hj := (List.getElem?_eq_some_iff.1 hb).1
      have hm : ps[i + 1]? = some ps[i + 1] := List.getElem?_eq_getElem (by omega)
      exact hn i a _ ha hm (cmpI_between h (hs i (i + 1) a _ (by omega) ha hm) (hs (i + 1) j _ b (by omega) hm hb))
  refine List.pairwise_iff_getElem.2 fun i j hi hj hij => ?_
  have ha : ps[i]? = some ps[i] := List.getElem?_eq_getElem hi
  have hb : ps[j]? = some ps[j] := List.getElem?_eq_getElem hj
  have h1 := key i j _ _ hij ha hb
  exact parallel_of h1 fun h => h1 (cmpI_back h (hs i j _ _ hij ha hb))
theorem not_prefix_of {p o : List Int} (h1 : p ≠ o) (h2 : belowB p o = false) : ¬ o <+: p := by
  rintro ⟨r, rfl⟩
  cases r with
  | nil => exact h1 (by simp)
  | cons x r => simp [belowB] at h2

theorem Tm.put_none {t : Tm} {l : List Int} (h : t.at l = none) (u : Tm) : t.put l u = t := by
  induction l generalizing t with
  | nil => simp [Tm.at] at h
  | cons i l ih =>
    cases hk : t.kid i with
    | none => simp only [Tm.put, hk]
    | some x =>
      rw [Tm.at_cons hk] at h
      rw [Tm.put_cons hk, ih h]
      obtain ⟨_, h1⟩ := Tm.kid_spec hk
      have : t.ts.set i.toNat x = t.ts := by
        apply List.ext_getElem?
        intro k
        by_cases e : i.toNat = k
        · subst e; rw [List.getElem?_set_self (List.getElem?_eq_some_iff.1 h1).1, h1]
        · rw [List.getElem?_set_ne e]
      rw [this]; cases t; rfl
theorem Tm.at_put_apart {t : Tm} {p q : List Int} (hp : Parallel p q) (u : Tm) : (t.put p u).at q = t.at q := by
  cases h : t.at p with
  | none => rw [Tm.put_none h]
  | some x => exact Tm.at_put_par hp (by rw [h]; rfl) u
theorem Tm.put_put_apart {t : Tm} {p q : List Int} (hp : Parallel p q) (u v : Tm) : (t.put p u).put q v = (t.put q v).put p u := by
  cases h : t.at p with
  | none => rw [Tm.put_none h, Tm.put_none (t := t.put q v) (by rw [Tm.at_put_apart hp.symm, h])]
  | some x =>
    cases hq : t.at q with
    | none => rw [Tm.put_none hq, Tm.put_none (t := t.put p u) (by rw [Tm.at_put_apart hp, hq])]
    | some y => exact Tm.put_put_par hp (by rw [h]; rfl) (by rw [hq]; rfl) u v
/-- one step of t, carried out in r -/
noncomputable def ptStep (L : List RlV) (t r : Tm) (s : Stp) : Tm :=
  match stepM L t s.1 s.2 with
  | some q => r.put s.2 (apB q.1 q.2.2.1)
  | none => r
theorem pf_all {L : List RlV} {t : Tm} : ∀ {l : List Stp} {r : Tm} {n : Nat} {x : Tm} {m : Nat}, pfRun L t r n l = .ok x m → x = l.foldl (ptStep L t) r := by
  intro l
  induction l with
  | nil => intro r n x m h; simp only [pfRun, PfR.ok.injEq] at h; exact h.1.symm
  | cons s l ih =>
    intro r n x m h
    rw [pfRun] at h
    rw [List.foldl_cons]
    cases hs : stepM L t s.1 s.2 with
    | none => rw [hs] at h; cases h
    | some q =>
      obtain ⟨b, p⟩ := q
      rw [hs] at h
      simp only at h
      split at h
      · have := ih h
        rw [this]
        congr 1
        unfold ptStep
        rw [hs]
      · cases h
theorem stepM_same {L : List RlV} {t t' : Tm} {rule : Int} {pos : List Int} (h : t.at pos = t'.at pos) : stepM L t rule pos = stepM L t' rule pos := by
  unfold stepM; rw [h]
theorem ptStep_at {L : List RlV} {t r : Tm} {s : Stp} {q : List Int} (h : Parallel s.2 q) : (ptStep L t r s).at q = r.at q := by
  unfold ptStep
  split
  · exact Tm.at_put_apart h _
  · rfl
theorem ptAll_at {L : List RlV} {t : Tm} {q : List Int} : ∀ {l : List Stp} {r : Tm}, (∀ s ∈ l, Parallel s.2 q) → (l.foldl (ptStep L t) r).at q = r.at q := by
  intro l
  induction l with
  | nil => intro r _; rfl
  | cons s l ih =>
    intro r h
    rw [List.foldl_cons, ih fun x hx => h x (by simp [hx]), ptStep_at (h s (by simp))]
theorem ptStep_comm {L : List RlV} {t r : Tm} {a b : Stp} (h : Parallel a.2 b.2) : ptStep L t (ptStep L t r a) b = ptStep L t (ptStep L t r b) a := by
  unfold ptStep
  cases stepM L t a.1 a.2 with
  | none => rfl
  | some p =>
    cases stepM L t b.1 b.2 with
    | none => rfl
    | some q => exact Tm.put_put_apart h _ _
/-- steps at parallel positions -/
def ParS (l : List Stp) : Prop := l.Pairwise fun a b => Parallel a.2 b.2
theorem ptAll_perm {L : List RlV} {t r : Tm} {l l' : List Stp} (h : ParS l) (hp : l'.Perm l) : l'.foldl (ptStep L t) r = l.foldl (ptStep L t) r := by
  refine (hp.symm.foldl_eq' (f := ptStep L t) ?_ r).symm
  intro a ha b hb z
  by_cases e : a = b
  · rw [e]
  · have : Parallel a.2 b.2 := by
      obtain ⟨i, hi, rfl⟩ := List.getElem_of_mem ha
      obtain ⟨j, hj, rfl⟩ := List.getElem_of_mem hb
      rcases Nat.lt_trichotomy i j with h1 | h1 | h1
      · exact List.pairwise_iff_getElem.1 h i j hi hj h1
      · subst h1; exact absurd rfl e
      · exact (List.pairwise_iff_getElem.1 h j i hj hi h1).symm
    exact ptStep_comm this
theorem pfGood_par {L : List RlV} {t : Tm} : ∀ {l : List Stp} {r : Tm}, ParS l → (∀ s ∈ l, r.at s.2 = t.at s.2) → PfGood L t r l := by
  intro l
  induction l with
  | nil => intro r _ _; trivial
  | cons s l ih =>
    intro r hp ha b p hs
    obtain ⟨h1, h2⟩ := List.pairwise_cons.1 hp
    refine ⟨?_, ih h2 fun x hx => ?_⟩
    · rw [ha s (by simp)]
      obtain ⟨k, x, m, -, -, hx, -⟩ := stepM_some hs
      rw [hx]; rfl
    · rw [Tm.at_put_apart (h1 x hx), ha x (by simp [hx])]
/-- the list from place m on, then its start -/
def rot (m : Nat) (l : List Stp) : List Stp := l.drop m ++ l.take m
theorem rot_perm (m : Nat) (l : List Stp) : (rot m l).Perm l := by
  have := List.perm_append_comm (l₁ := l.drop m) (l₂ := l.take m)
  rwa [List.take_append_drop] at this
theorem rot_len (m : Nat) (l : List Stp) : (rot m l).length = l.length := (rot_perm m l).length_eq
theorem rot_at {m : Nat} {l : List Stp} (hm : m < l.length) {i : Nat} (hi : i < l.length) : (rot m l)[i]? = l[(i + m) % l.length]? := by
  unfold rot
  rw [List.getElem?_append]
  split
  · rename_i h
    rw [List.length_drop] at h
    rw [List.getElem?_drop, Nat.mod_eq_of_lt (by omega), Nat.add_comm]
  · rename_i h
    rw [List.length_drop] at h ⊢
    have e : (i + m) % l.length = i - (l.length - m) := by
      rw [show i + m = (i - (l.length - m)) + l.length by omega, Nat.add_mod_right, Nat.mod_eq_of_lt (by omega)]
    rw [e, List.getElem?_take, if_pos (by omega)]
theorem ParS.perm {l l' : List Stp} (h : ParS l) (hp : l'.Perm l) : ParS l' := (hp.pairwise_iff fun h => h.symm).2 h
/-- one step of the row, after those before it -/
theorem seq_step {L : List RlV} {t : Tm} {l' : List Stp} (hp : ParS l') (hst : ∀ s ∈ l', (stepM L t s.1 s.2).isSome) {i : Nat} {s : Stp} (hs : l'[i]? = some s) :
    stepR L ((l'.take i).foldl (ptStep L t) t) s.1 s.2 = some ((l'.take (i + 1)).foldl (ptStep L t) t) := by
  have hi := (List.getElem?_eq_some_iff.1 hs).1
  have hpar : ∀ x ∈ l'.take i, Parallel x.2 s.2 := by
    intro x hx
    obtain ⟨j, hj, rfl⟩ := List.getElem_of_mem hx
    have hj' : j < i := by rw [List.length_take] at hj; omega
    have := List.pairwise_iff_getElem.1 hp j i (by omega) hi hj'
    rw [List.getElem_take]
    rw [(List.getElem?_eq_some_iff.1 hs).2] at this
    exact this
  have hat : ((l'.take i).foldl (ptStep L t) t).at s.2 = t.at s.2 := ptAll_at hpar
  unfold stepR
  rw [stepM_same hat, List.take_add_one, hs]
  show _ = some (List.foldl (ptStep L t) t (l'.take i ++ [s]))
  rw [List.foldl_append]
  show _ = some (ptStep L t _ s)
  unfold ptStep
  cases hq : stepM L t s.1 s.2 with
  | none => have := hst s (List.mem_of_getElem? hs); rw [hq] at this; cases this
  | some q => rfl
end Go.Proofs.YtamddagmlanijaaGreat
/- areParallel: the positions sorted, then neighbours compared. -/
namespace Go.Proofs.YtamddagmlanijaaGreat
open Go.RowKit Go.Sort

theorem cmpI_self (a : List Int) : cmpI a a = 0 := by
  induction a with
  | nil => rfl
  | cons x a ih => simp [cmpI, ih]
theorem cmpI_trans : ∀ {a b c : List Int}, cmpI a b < 0 → cmpI b c < 0 → cmpI a c < 0 := by
  intro a
  induction a with
  | nil =>
    intro b c h1 h2
    cases c with
    | nil => cases b <;> simp [cmpI] at h1 h2
    | cons z c => simp [cmpI]
  | cons x a ih =>
    intro b c h1 h2
    cases b with
    | nil => simp [cmpI] at h1
    | cons y b =>
      cases c with
      | nil => simp [cmpI] at h2
      | cons z c =>
        simp only [cmpI] at h1 h2 ⊢
        by_cases e1 : x = y
        · subst e1
          rw [if_pos rfl] at h1
          by_cases e2 : x = z
          · rw [if_pos e2] at h2 ⊢; exact ih h1 h2
          · rw [if_neg e2] at h2 ⊢; exact h2
        · rw [if_neg e1] at h1
          have l1 : x < y := by
            by_cases hl : x < y
            · exact hl
            · rw [if_neg hl] at h1; exact absurd h1 (by decide)
          by_cases e2 : y = z
          · subst e2
            rw [if_neg e1, if_pos l1]; decide
          · rw [if_neg e2] at h2
            have l2 : y < z := by
              by_cases hl : y < z
              · exact hl
              · rw [if_neg hl] at h2; exact absurd h2 (by decide)
            rw [if_neg (by omega), if_pos (by omega)]; decide
theorem cmpI_ntrans : ∀ {a b c : List Int}, ¬ cmpI a b < 0 → ¬ cmpI b c < 0 → ¬ cmpI a c < 0 := by
  intro a
  induction a with
  | nil =>
    intro b c h1 h2
    cases b with
    | nil => exact h2
    | cons y b => exact absurd (by simp [cmpI]) h1
  | cons x a ih =>
    intro b c h1 h2
    cases c with
    | nil => simp [cmpI]
    | cons z c =>
      cases b with
      | nil => exact absurd (by simp [cmpI]) h2
      | cons y b =>
        simp only [cmpI] at h1 h2 ⊢
        by_cases e1 : x = y
        · subst e1
          rw [if_pos rfl] at h1
          by_cases e2 : x = z
          · rw [if_pos e2] at h2 ⊢; exact ih h1 h2
          · rw [if_neg e2] at h2 ⊢; exact h2
        · rw [if_neg e1] at h1
          have l1 : y < x := by
            by_cases hl : x < y
            · rw [if_pos hl] at h1; exact absurd (by decide) h1
            · omega
          by_cases e2 : y = z
          · subst e2
            rw [if_neg e1, if_neg (by omega)]; decide
          · rw [if_neg e2] at h2
            have l2 : z < y := by
              by_cases hl : y < z
              · rw [if_pos hl] at h2; exact absurd (by decide) h2
              · omega
            rw [if_neg (by omega), if_neg (by omega)]; decide

/-- slices.Compare reads -/
theorem slcCompare_q (l r : List Int) (lv rv : Value) (w : World) (hl : PosIs w.heap.size w l lv) (hr : PosIs w.heap.size w r rv) (hll : l.length ≤ 1048576) (hrl : r.length ≤ 1048576) :
    Calls Tryz.prog 101 #[lv, rv] w fun e w' => e = .returned (.int .i64 (cmpI l r)) ∧ ∃ q, w' = w.drewN q := by
  obtain ⟨ol, cl, rfl, -⟩ := hl.form
  obtain ⟨or', cr, rfl, -⟩ := hr.form
  have HL := Lib.hid hl
  have HR := Lib.hid hr
  clear hl hr
  go_enter Tryz.func101, Tryz.ntmps101
  go_wp2_with fail
  go_loopw [11] (fun i wr => ∃ k : Nat, k ≤ l.length ∧ i = .int .i64 k ∧ Hid (k ≤ r.length ∧ l.take k = r.take k) ∧ Hid (∃ q, wr = w.drewN q)) (fun i _ => l.length - (intOf i).toNat)
  case atStart => exact ⟨0, by omega, rfl, Lib.hid ⟨by omega, rfl⟩, Lib.hid ⟨0, rfl⟩⟩
  case round =>
    obtain ⟨k, hk, rfl, HE, HQW⟩ := hrel
    have HBW : Hid (Below w.heap.size w wr) := Lib.hid (by obtain ⟨q, rfl⟩ := HQW.out; exact below_drewN q (Below.refl _ _))
    by_cases hlt : k < l.length
    · obtain ⟨b1, o1, a, rfl, hb1, ha, c0⟩ := (HL.out.carry HBW.out HBW.out.size).at hlt
      have HA := Lib.hid ha
      clear ha
      by_cases hrt : k < r.length
      · obtain ⟨b2, o2, b, rfl, hb2, hb, d0⟩ := (HR.out.carry HBW.out HBW.out.size).at hrt
        have HB := Lib.hid hb
        clear hb
        by_cases hab : a = b
        · subst hab
          have hz : Lib.compareInt a a = 0 := by simp [Lib.compareInt]
          have hcmp := Tryz.cmp_Compare_int a a wr
          rw [hz] at hcmp
          go_wp2_with fail
          refine hcmp.mono ?_
          rintro e w1 ⟨rfl, rfl⟩
          clear hcmp hz
          go_wp2_with fail
          exact ⟨⟨k + 1, by omega, by go_num, Lib.hid ⟨by omega, take_next HE.out.2 HA.out HB.out⟩, HQW⟩, by simp [intOf]; omega⟩
        · have hz : Lib.compareInt a b = cmpZ a b := rfl
          have hne : ¬ cmpZ a b = 0 := by
            unfold cmpZ
            split
            · decide
            · rw [if_pos (by omega)]; decide
          have hn1 : (cmpZ a b != 0) = true := by simpa using hne
          have HCP := Lib.hid (cmpI_part HE.out.2 HA.out HB.out hab)
          have hcmp := Tryz.cmp_Compare_int a b wr
          rw [hz] at hcmp
          clear hz
          generalize cmpZ a b = z at *
          go_wp2_with fail
          refine hcmp.mono ?_
          rintro e w1 ⟨rfl, rfl⟩
          clear hcmp
          go_wp2_with fail
          go_ret
          exact ⟨by rw [HCP.out]; rfl, HQW.out⟩
      · have hrk : r.length = k := by have := HE.out.1; omega
        have HSH := Lib.hid (cmpI_short (l := l) (r := r) (by rw [hrk, HE.out.2, List.take_of_length_le (by omega)]) (by omega))
        have hge : (r.length : Int) ≤ (k : Int) := by omega
        clear hrk
        go_wp2_with fail
        go_ret
        exact ⟨by rw [HSH.out]; rfl, HQW.out⟩
    · obtain rfl : k = l.length := by omega
      have HPR := Lib.hid (cmpI_pre (l := l) (r := r) (by have := HE.out.2; rwa [List.take_of_length_le (Nat.le_refl _)] at this) HE.out.1)
      by_cases hlr : l.length < r.length
      · have HQ : Hid (cmpI l r = -1) := Lib.hid (by rw [HPR.out, if_pos hlr])
        go_wp2_with fail
        go_ret
        exact ⟨by rw [HQ.out]; rfl, HQW.out⟩
      · have HQ : Hid (cmpI l r = 0) := Lib.hid (by rw [HPR.out, if_neg hlr])
        go_wp2_with fail
        go_ret
        exact ⟨by rw [HQ.out]; rfl, HQW.out⟩
/-- slices.Equal reads -/
theorem equalPos_q (a b : List Int) (va vb : Value) (w : World) (n : Nat) (ha : PosIs n w a va) (hb : PosIs n w b vb) (hla : a.length ≤ 1048576) (hlb : b.length ≤ 1048576) :
    Calls Tryz.prog 102 #[va, vb] w fun e w' => e = .returned (.bool (a == b)) ∧ ∃ q, w' = w.drewN q := by
  obtain ⟨oa, ca, rfl, hpa⟩ := ha.form
  obtain ⟨ob, cb, rfl, hpb⟩ := hb.form
  by_cases hne : a = []
  · subst hne
    refine (Tryz.slices_Equal_int_empty oa ob ca b.length cb w (by omega)).mono ?_
    rintro e w' ⟨rfl, rfl⟩
    refine ⟨?_, 0, rfl⟩
    cases b <;> rfl
  · by_cases hlen : a.length = b.length
    · have hne2 : b ≠ [] := by rintro rfl; exact hne (List.eq_nil_of_length_eq_zero hlen)
      obtain ⟨b1, o1, rfl, _, hc1⟩ := hpa hne
      obtain ⟨b2, o2, rfl, _, hc2⟩ := hpb hne2
      refine (Tryz.slices_Equal_int b1 o1 a.length ca b2 o2 b.length cb a b w (Nat.le_refl _) (Nat.le_refl _) (by omega) (by omega) (fun j hj => ?_) (fun j hj => ?_)).mono ?_
      · rw [List.getD_eq_getElem?_getD, List.getElem?_eq_getElem hj]; exact hc1 j _ (List.getElem?_eq_getElem hj)
      · rw [List.getD_eq_getElem?_getD, List.getElem?_eq_getElem hj]; exact hc2 j _ (List.getElem?_eq_getElem hj)
      · rintro e w' ⟨rfl, q, rfl⟩
        rw [List.take_length, List.take_length]
        exact ⟨rfl, q, rfl⟩
    · refine (Tryz.slices_Equal_int_lens oa ob a.length ca b.length cb w hlen).mono ?_
      rintro e w' ⟨rfl, rfl⟩
      refine ⟨?_, 0, rfl⟩
      rw [show (a == b) = false from by rw [beq_eq_false_iff_ne]; exact fun h => hlen (by rw [h])]
set_option maxRecDepth 100000 in
set_option maxHeartbeats 1000000 in
theorem isBelow_q (p o : List Int) (vp vo : Value) (w : World) (n : Nat) (hp : PosC n w p vp) (ho : PosIs n w o vo) (hlp : p.length ≤ 1048576) (hlo : o.length ≤ 1048576) :
    Calls Tryz.prog 103 #[vp, vo] w fun e w' => e = .returned (.bool (belowB p o)) ∧ ∃ q, w' = w.drewN q := by
  obtain ⟨op, cp, rfl, hpp⟩ := hp.1.form
  obtain ⟨oo, co, rfl, hoo⟩ := ho.form
  have hcap := hp.2 _ _ _ rfl
  have HO := Lib.hid ho
  have HPP := Lib.hid hpp
  clear hp ho hpp hoo
  by_cases hlt : o.length < p.length
  · have HB : Hid (belowB p o = (p.take o.length == o)) := Lib.hid (by unfold belowB; rw [decide_eq_true hlt, Bool.true_and])
    have htk : (p.take o.length).length = o.length := by rw [List.length_take]; omega
    have htp : PosIs n w (p.take o.length) (.slice op o.length cp) := by
      refine ⟨op, cp, by rw [htk], fun hne => ?_⟩
      obtain ⟨b, off, h1, h2, h3⟩ := HPP.out (by rintro rfl; simp at hlt)
      refine ⟨b, off, h1, h2, fun i x hx => h3 i x ?_⟩
      rw [List.getElem?_take] at hx
      split at hx
      · exact hx
      · cases hx
    have HTP := Lib.hid htp
    have HEQ := Lib.hid (equalPos_q (p.take o.length) o (.slice op o.length cp) (.slice oo o.length co) w n HTP.out HO.out (by omega) hlo)
    clear htk htp
    go_enter Tryz.func103, Tryz.ntmps103
    go_wp2_with (go_at_call 102; refine HEQ.out.mono ?_; rintro e w1 ⟨rfl, hb1⟩; have HB1 := Lib.hid hb1; clear hb1)
    go_ret
    rw [HB.out]
    exact ⟨rfl, HB1.out⟩
  · have HB : Hid (belowB p o = false) := Lib.hid (by unfold belowB; rw [decide_eq_false hlt, Bool.false_and])
    go_enter Tryz.func103, Tryz.ntmps103
    go_wp2_with fail
    go_ret
    rw [HB.out]
    exact ⟨rfl, 0, rfl⟩

/-- a position with its value -/
abbrev PEl (n : Nat) (W : World) := { x : List Int × Value // PosC n W x.1 x.2 ∧ x.1.length ≤ 1048576 }
instance instPEl (n : Nat) (W : World) : Inhabited (PEl n W) := ⟨⟨([], .slice none 0 0), ⟨⟨⟨none, 0, rfl, fun h => absurd rfl h⟩⟩, fun _ _ _ e => by cases e; exact Nat.le_refl _⟩, by simp⟩⟩
def encP {n : Nat} {W : World} (x : PEl n W) : Value := x.1.2
theorem encP_one {n : Nat} {W : World} (x : PEl n W) : (encP x).oneCell' = true := by
  obtain ⟨⟨l, v⟩, ⟨h, -⟩, -⟩ := x
  obtain ⟨oa, cap, e, -⟩ := h.form
  show v.oneCell' = true
  simp only at e
  rw [e]; rfl
def cfP {n : Nat} {W : World} (x y : PEl n W) : Int := cmpI x.1.1 y.1.1
theorem swoP {n : Nat} {W : World} : SWO (ltOf (cfP (n := n) (W := W))) where
  irrefl x := decide_eq_false (by unfold cfP; rw [cmpI_self]; decide)
  trans x y z h1 h2 := decide_eq_true (cmpI_trans (of_decide_eq_true h1) (of_decide_eq_true h2))
  ntrans x y z h1 h2 := decide_eq_false (cmpI_ntrans (of_decide_eq_false h1) (of_decide_eq_false h2))
theorem sortedP_frame {n : Nat} {W0 : World} (W : World) (g m : Nat) (d : Array (PEl n W0)) (os : Array Obj) : W.grownBy (sortWorld encP W g 0 m d os) (some g) := by
  unfold sortWorld putRow
  refine ⟨rfl, rfl, rfl, ?_, fun k hk hne => ?_⟩
  · show W.heap.size ≤ ((W.heap.modify g _) ++ os).size
    simp
  · show ((W.heap.modify g _) ++ os)[k]? = W.heap[k]?
    rw [Array.getElem?_append_left (by simpa using hk), Array.getElem?_modify, if_neg (fun e => hne (by rw [e]))]
theorem sortedP_below {n : Nat} {W0 : World} {W : World} {g : Nat} (h : Below n W0 W) (hn : n ≤ W.heap.size) (hg : n ≤ g) (m : Nat) (d : Array (PEl n W0)) (os : Array Obj) : Below n W0 (sortWorld encP W g 0 m d os) := by
  have hf := sortedP_frame W g m d os
  exact h.trans ⟨hf.os, hf.tape, hf.output, hf.size, fun k hk => hf.block k (by omega) (fun e => by cases e; omega)⟩
set_option maxHeartbeats 1000000 in
theorem sortP_any {n : Nat} {W0 W : World} (es : List (PEl n W0)) (g cap : Nat) (hb : Below n W0 W) (hn : n ≤ W.heap.size) (hg : n ≤ g) (hgs : g < W.heap.size) (hH : Holds encP W g 0 es.toArray) (hl : es.length ≤ 1048576) :
    Calls Tryz.prog 100 #[.slice (some ⟨g, 0, none⟩) es.length cap, .func (.func 101) #[] #[]] W fun e w' => e = .returned (.tuple #[]) ∧ W.grownBy w' (some g) ∧
      ∃ ys : List (PEl n W0), ys.Perm es ∧ (∀ (i j : Nat) (x y : PEl n W0), i < j → ys[i]? = some x → ys[j]? = some y → ¬ cmpI y.1.1 x.1.1 < 0) ∧ Holds encP w' g 0 ys.toArray := by
  have hcon := Any.slices_SortFunc Tryz.laysSort encP encP_one cfP swoP 101 #[] g 0 cap es.toArray W
    (enters_of Tryz.func101 (by kernel_rfl) rfl)
    (fun m os dk _ x y => by
      have hbW := sortedP_below hb hn hg m dk os
      have hsz : n ≤ (sortWorld encP W g 0 m dk os).heap.size := Nat.le_trans hn (sortedP_frame W g m dk os).size
      exact (slcCompare_q x.1.1 y.1.1 x.1.2 y.1.2 _ (x.2.1.1.carry hbW hsz) (y.2.1.1.carry hbW hsz) x.2.2 y.2.2).mono fun _ _ ⟨h, q, e⟩ => ⟨h, q, #[], by rw [e, grow_empty]⟩)
    hH hgs (by simp; omega)
  rw [show es.toArray.size = es.length by simp] at hcon
  refine Calls.mono hcon ?_
  rintro e' w' ⟨rfl, d', m, os, hp, hs, rfl⟩
  have hsz : d'.size = es.length := by have := hp.1; simpa using this
  refine ⟨rfl, sortedP_frame W g m d' os, d'.toList, ?_, ?_, ?_⟩
  · have h1 := hp.2.2
    have h2 := hp.1
    rw [show es.length = es.toArray.size by simp] at h1
    rw [Array.extract_size] at h1
    rw [show es.toArray.size = d'.size from h2.symm, Array.extract_size] at h1
    simpa using h1
  · intro i j x y hij hx hy
    have hj := (List.getElem?_eq_some_iff.1 hy).1
    have hj' : j < d'.size := by simpa using hj
    have h1 := hs i j (Nat.zero_le _) hij (by omega)
    have h2 := of_decide_eq_false h1
    rw [getElem!_pos d' j hj', getElem!_pos d' i (by omega)] at h2
    rw [Array.getElem?_toList, Array.getElem?_eq_getElem (by omega)] at hx hy
    rw [← Option.some.inj hx, ← Option.some.inj hy]
    exact h2
  · have h1 : Holds encP (putRow encP (Sort.ahead W m) g 0 d') g 0 d' := holds_putRow encP _ g 0 es.toArray d' (holds_ahead encP W m g 0 _ hH) (by have := hp.1; simpa using this)
    have h2 := holds_grow encP (putRow encP (Sort.ahead W m) g 0 d') os g 0 d' (by show g < (W.heap.modify g _).size; simpa using hgs) h1
    exact h2

/-- the positions of steps with their values -/
theorem StpsIs.alphas {n : Nat} {W : World} {l : List Stp} {oa : Option Addr} {cap : Nat} (h : StpsIs n W l (.slice oa l.length cap)) :
    ∃ es : List (PEl n W), es.length = l.length ∧ es.map (fun x => x.1.1) = l.map (·.2) ∧
      ∀ (i : Nat) (x : PEl n W), es[i]? = some x → ∃ (b o : Nat) (r : Int), oa = some ⟨b, o, none⟩ ∧ b < n ∧ W.cell? ⟨b, o + i * 2, none⟩ = some (.int .i64 r) ∧ W.cell? ⟨b, o + i * 2 + 1, none⟩ = some x.1.2 := by
  have key : ∀ i : Fin l.length, ∃ x : PEl n W, x.1.1 = l[i].2 ∧ ∃ (b o : Nat) (r : Int), oa = some ⟨b, o, none⟩ ∧ b < n ∧ W.cell? ⟨b, o + i.1 * 2, none⟩ = some (.int .i64 r) ∧ W.cell? ⟨b, o + i.1 * 2 + 1, none⟩ = some x.1.2 := by
    intro i
    obtain ⟨b, o, p, ov, cv, rfl, hb, hp, c0, c1, h2, hl⟩ := h.get i.2
    have e : p = l[i] := by
      rw [List.getElem?_eq_getElem i.2] at hp
      exact (Option.some.inj hp).symm
    exact ⟨⟨(p.2, .slice ov p.2.length cv), h2, hl⟩, by rw [← e], b, o, p.1, rfl, hb, c0, c1⟩
  refine ⟨List.ofFn fun i => Classical.choose (key i), by simp, ?_, ?_⟩
  · apply List.ext_getElem
    · simp
    · intro i h1 h2
      simp only [List.getElem_map, List.getElem_ofFn]
      exact (Classical.choose_spec (key ⟨i, by simpa using h2⟩)).1
  · intro i x hx
    obtain ⟨hi, rfl⟩ := List.getElem?_eq_some_iff.1 hx
    rw [List.getElem_ofFn]
    exact (Classical.choose_spec (key ⟨i, by simpa using hi⟩)).2
/-- the row of positions while it is filled -/
structure AreSt {n : Nat} {w : World} (es : List (PEl n w)) (k : Nat) (wr : World) (cur : Array Value) : Prop where
  blk : wr.heap[w.heap.size]? = some (.cells cur 34 (0, 0))
  size : cur.size = es.length
  have_ : ∀ (j : Nat) (x : PEl n w), j < k → es[j]? = some x → cur[j]? = some x.1.2
  bl : Below w.heap.size w wr
theorem AreSt.lt {n : Nat} {w : World} {es : List (PEl n w)} {k : Nat} {wr : World} {cur : Array Value} (h : AreSt es k wr cur) : w.heap.size < wr.heap.size := (Array.getElem?_eq_some_iff.1 h.blk).1
theorem AreSt.step {n : Nat} {w : World} {es : List (PEl n w)} {k : Nat} {wr wr' : World} {cur : Array Value} {x : PEl n w} (h : AreSt es k wr cur) (hb : Below wr.heap.size wr wr') (hx : es[k]? = some x) :
    AreSt es (k + 1) (wr'.setCell ⟨w.heap.size, k, none⟩ x.1.2) (cur.setIfInBounds k x.1.2) := by
  have hk := (List.getElem?_eq_some_iff.1 hx).1
  have hlt := h.lt
  refine ⟨?_, by simp [h.size], ?_, (h.bl.trans (hb.mono h.bl.size)).setCell (Nat.le_refl _) _⟩
  · have h1 := (hb.block _ hlt).trans h.blk
    simp only [World.setCell, Array.getElem?_modify, if_true, h1]
    rfl
  · intro j y hj hy
    by_cases e : j = k
    · subst e
      rw [hx] at hy; cases hy
      rw [Array.getElem?_setIfInBounds]
      simp [h.size, hk]
    · rw [Array.getElem?_setIfInBounds, if_neg (fun h => e h.symm)]
      exact h.have_ j y (by omega) hy
theorem AreSt.holds {n : Nat} {w : World} {es : List (PEl n w)} {wr : World} {cur : Array Value} (h : AreSt es es.length wr cur) : Holds encP wr w.heap.size 0 es.toArray := by
  intro j hj
  have hj' : j < es.length := by simpa using hj
  refine ⟨?_, frozen_of' h.blk _⟩
  have h1 := cells_of' h.blk (0 + j)
  rw [Nat.zero_add] at h1 ⊢
  rw [h1, h.have_ j es[j] hj' (List.getElem?_eq_getElem hj'), getElem!_pos es.toArray j hj]
  rfl
end Go.Proofs.YtamddagmlanijaaGreat
