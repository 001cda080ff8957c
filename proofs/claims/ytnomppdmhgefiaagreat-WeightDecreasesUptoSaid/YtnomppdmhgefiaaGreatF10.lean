/- Packed: Nd, Inv, Grt, Tmw. -/
import Derived.WalkKit
import Derived.ProofKit
import Derived.OpenShut
import Derived.Handy
import Derived.Lib.Hide
import Derived.Test.YtnomppdmhgefiaaGreatF09
import Derived.Test.YtnomppdmhgefiaaGreatF06
import Derived.Deep.RegionHeld3
import Derived.Orders
import Derived.RegionTactic
import Derived.BigQuiet
import Derived.Test.YtnomppdmhgefiaaGreatF03
/- Package path: terms with the ranks of their symbols, as they lie. -/
namespace Go.Proofs.YtnomppdmhgefiaaGreat
open Go.RowKit

/-- the rank that lies beside a term -/
def ndRank (rk : ByteArray → Int) (t : Tm) : Int := if t.vr then 0 else rk t.nm
/-- the slice value holds the nodes of the terms l, in blocks of which p is said -/
inductive NdP (rk : ByteArray → Int) (p : Nat → Prop) (W : World) : List Tm → Value → Prop
  | nil0 : NdP rk p W [] (.slice none 0 0)
  | nil1 (a : Addr) (cap : Nat) : NdP rk p W [] (.slice (some a) 0 cap)
  | row (b o cap : Nat) (l : List Tm) (u s : Nat → Value) : l ≠ [] → p b → l.length ≤ cap →
      (∀ i t, l[i]? = some t → W.cell? ⟨b, o + i * 5, none⟩ = some (.string t.nm) ∧ W.cell? ⟨b, o + i * 5 + 1, none⟩ = some (.bool t.vr) ∧ W.cell? ⟨b, o + i * 5 + 2, none⟩ = some (u i) ∧ W.cell? ⟨b, o + i * 5 + 3, none⟩ = some (.int .i64 (ndRank rk t)) ∧ W.cell? ⟨b, o + i * 5 + 4, none⟩ = some (s i)) →
      (∀ i t, l[i]? = some t → NdP rk p W t.ts (s i)) → NdP rk p W l (.slice (some ⟨b, o, none⟩) l.length cap)
section
variable {rk : ByteArray → Int}
theorem NdP.carry {p q : Nat → Prop} {A B : World} (h : ∀ b, p b → B.heap[b]? = A.heap[b]? ∧ q b) {l : List Tm} {s : Value} (hs : NdP rk p A l s) : NdP rk q B l s := by
  induction hs with
  | nil0 => exact .nil0
  | nil1 a cap => exact .nil1 a cap
  | row b o cap l u s hl hb hc cells _ ih =>
    obtain ⟨e, hq⟩ := h b hb
    refine .row b o cap l u s hl hq hc (fun i t ht => ?_) ih
    obtain ⟨h1, h2, h3, h4, h5⟩ := cells i t ht
    exact ⟨(World.cell?_of_block (a := ⟨b, _, none⟩) e).trans h1, (World.cell?_of_block (a := ⟨b, _, none⟩) e).trans h2, (World.cell?_of_block (a := ⟨b, _, none⟩) e).trans h3, (World.cell?_of_block (a := ⟨b, _, none⟩) e).trans h4, (World.cell?_of_block (a := ⟨b, _, none⟩) e).trans h5⟩
theorem NdP.form {p : Nat → Prop} {W : World} {l : List Tm} {s : Value} (h : NdP rk p W l s) : ∃ oa cap, s = .slice oa l.length cap := by
  cases h with
  | nil0 => exact ⟨_, _, rfl⟩
  | nil1 a cap => exact ⟨_, _, rfl⟩
  | row => exact ⟨_, _, rfl⟩
theorem NdP.lt {p : Nat → Prop} {W : World} {l : List Tm} {s : Value} (h : NdP rk p W l s) : NdP rk (fun b => p b ∧ b < W.heap.size) W l s := by
  induction h with
  | nil0 => exact .nil0
  | nil1 a cap => exact .nil1 a cap
  | row b o cap l u s hl hb hc cells _ ih =>
    refine .row b o cap l u s hl ⟨hb, ?_⟩ hc cells ih
    obtain ⟨t, r, rfl⟩ : ∃ t r, l = t :: r := by
      cases l with
      | nil => exact absurd rfl hl
      | cons t r => exact ⟨t, r, rfl⟩
    exact World.block_lt_of_cell? W _ (cells 0 t rfl).1
/-- the nodes from number k on -/
theorem NdP.drop {p : Nat → Prop} {W : World} {l : List Tm} {oa : Option Addr} {n cap : Nat} (h : NdP rk p W l (.slice oa n cap)) {k : Nat} (hk : k < l.length) :
    ∃ b o, oa = some ⟨b, o, none⟩ ∧ n = l.length ∧ l.length ≤ cap ∧ ∀ j, j ≤ l.length → NdP rk p W (l.drop j) (.slice (some ⟨b, o + j * 5, none⟩) (l.length - j) (cap - j)) := by
  cases h with
  | nil0 => simp at hk
  | nil1 a cap => simp at hk
  | row b o cap l u s hl hb hc cells kids =>
    refine ⟨b, o, rfl, rfl, hc, fun j hj => ?_⟩
    by_cases e : j = l.length
    · subst e
      rw [List.drop_length, Nat.sub_self]
      exact .nil1 _ _
    · have hne : l.drop j ≠ [] := by rw [ne_eq, List.drop_eq_nil_iff]; omega
      have := NdP.row (rk := rk) (p := p) (W := W) b (o + j * 5) (cap - j) (l.drop j) (fun i => u (j + i)) (fun i => s (j + i)) hne hb (by rw [List.length_drop]; omega)
        (fun i t ht => by
          rw [List.getElem?_drop] at ht
          have e5 : o + j * 5 + i * 5 = o + (j + i) * 5 := by omega
          rw [e5]
          exact cells (j + i) t ht) (fun i t ht => by rw [List.getElem?_drop] at ht; exact kids (j + i) t ht)
      rwa [List.length_drop] at this
/-- a node at a place -/
structure NdAt (rk : ByteArray → Int) (p : Nat → Prop) (W : World) (b o : Nat) (t : Tm) (s : Value) : Prop where
  blk : p b
  nm : W.cell? ⟨b, o, none⟩ = some (.string t.nm)
  vr : W.cell? ⟨b, o + 1, none⟩ = some (.bool t.vr)
  rnk : W.cell? ⟨b, o + 3, none⟩ = some (.int .i64 (ndRank rk t))
  ar : W.cell? ⟨b, o + 4, none⟩ = some s
  is : NdP rk p W t.ts s
theorem NdAt.carry {p q : Nat → Prop} {A B : World} {b o : Nat} {t : Tm} {s : Value} (hs : NdAt rk p A b o t s) (h : ∀ b, p b → B.heap[b]? = A.heap[b]? ∧ q b) : NdAt rk q B b o t s := by
  obtain ⟨e, hq⟩ := h b hs.blk
  exact ⟨hq, (World.cell?_of_block (a := ⟨b, _, none⟩) e).trans hs.nm, (World.cell?_of_block (a := ⟨b, _, none⟩) e).trans hs.vr, (World.cell?_of_block (a := ⟨b, _, none⟩) e).trans hs.rnk, (World.cell?_of_block (a := ⟨b, _, none⟩) e).trans hs.ar, hs.is.carry h⟩
theorem NdP.get {p : Nat → Prop} {W : World} {l : List Tm} {oa : Option Addr} {n cap : Nat} (h : NdP rk p W l (.slice oa n cap)) {k : Nat} (hk : k < l.length) :
    ∃ b o t s, oa = some ⟨b, o, none⟩ ∧ n = l.length ∧ l[k]? = some t ∧ t ∈ l ∧ NdAt rk p W b (o + k * 5) t s := by
  cases h with
  | nil0 => simp at hk
  | nil1 a cap => simp at hk
  | row b o cap l u s hl hb hc cells kids =>
    have ht : l[k]? = some l[k] := List.getElem?_eq_getElem hk
    obtain ⟨h1, h2, h3, h4, h5⟩ := cells k _ ht
    exact ⟨b, o, l[k], s k, rfl, rfl, ht, List.getElem_mem hk, ⟨hb, h1, h2, h4, h5, kids k _ ht⟩⟩

theorem box5 {W : World} {b : Nat} {x y z u v : Value} {e : TypeId} (h : W.heap[b]? = some (.cells #[x, y, z, u, v] e (0, 0))) :
    (W.cell? ⟨b, 0, none⟩ = some x ∧ W.cell? ⟨b, 1, none⟩ = some y ∧ W.cell? ⟨b, 2, none⟩ = some z ∧ W.cell? ⟨b, 3, none⟩ = some u ∧ W.cell? ⟨b, 4, none⟩ = some v) ∧ W.frozen? ⟨b, 0, none⟩ = false ∧ W.frozen? ⟨b, 1, none⟩ = false ∧ W.frozen? ⟨b, 2, none⟩ = false ∧ W.frozen? ⟨b, 3, none⟩ = false ∧ W.frozen? ⟨b, 4, none⟩ = false :=
  ⟨⟨cells_of' h 0, cells_of' h 1, cells_of' h 2, cells_of' h 3, cells_of' h 4⟩, by unfold World.frozen?; simp [h], by unfold World.frozen?; simp [h], by unfold World.frozen?; simp [h], by unfold World.frozen?; simp [h], by unfold World.frozen?; simp [h]⟩
end
end Go.Proofs.YtnomppdmhgefiaaGreat
/- A drawn region walked by one condition: each operation is looked at once, whatever the order. No program stands here. -/
namespace Go.Proofs.YtnomppdmhgefiaaGreat
open Go.RowKit

def ptr (b : Nat) : Value := .pointer (some ⟨b, 0, none⟩)
end Go.Proofs.YtnomppdmhgefiaaGreat
/- Merged: Rel, Cpr, Ndr, Grt. -/
/- How the program compares two terms: plain mathematics. No program stands here. -/
namespace Go.Proofs.YtnomppdmhgefiaaGreat
open Go.RowKit

open Classical in
/-- 1: equal; 2: greater; 0: neither -/
noncomputable def rel (rk : ByteArray → Int) (s t : Tm) : Int := if s = t then 1 else if Lpo rk s t then 2 else 0
section
variable {rk : ByteArray → Int}
theorem rel_gt {s t : Tm} (h : Lpo rk s t) : rel rk s t = 2 := by
  unfold rel; rw [if_neg (fun e => by subst e; exact Lpo.irrefl _ h), if_pos h]
theorem rel_2 {s t : Tm} : rel rk s t = 2 ↔ Lpo rk s t := by
  refine ⟨fun h => ?_, rel_gt⟩
  unfold rel at h
  split at h
  · omega
  · split at h
    · assumption
    · omega
end
end Go.Proofs.YtnomppdmhgefiaaGreat
/- Merged: Wth, Cpr. -/
/- Package path: within, above. -/
namespace Go.Proofs.YtnomppdmhgefiaaGreat
open Go.RowKit

end Go.Proofs.YtnomppdmhgefiaaGreat
/- Package path: inOrder, compare. -/
namespace Go.Proofs.YtnomppdmhgefiaaGreat
open Go.RowKit

theorem NdP.none {rk : ByteArray → Int} {p : Nat → Prop} {W : World} {l : List Tm} (hl : l = []) {n : Nat} (hn : n = 0) (a : Addr) (c : Nat) : NdP rk p W l (.slice (some a) n c) := by subst hl; subst hn; exact .nil1 _ _
theorem nm_beq_yes {a b : ByteArray} (h : a = b) : (a.toList == b.toList) = true := by rw [h, beq_self_eq_true]
theorem nm_beq_no {a b : ByteArray} (h : a ≠ b) : (a.toList == b.toList) = false := by
  rw [beq_eq_false_iff_ne]
  intro e
  apply h
  rw [ByteArray.toList_eq, ByteArray.toList_eq] at e
  have : a.data = b.data := Array.toList_inj.1 e
  cases a; cases b; cases this; rfl
end Go.Proofs.YtnomppdmhgefiaaGreat
/- Package path: ranked. -/
namespace Go.Proofs.YtnomppdmhgefiaaGreat
open Go.RowKit

end Go.Proofs.YtnomppdmhgefiaaGreat
/- Merged: Isg, Grt. -/
/- Package path: isGreater, Greater. -/
namespace Go.Proofs.YtnomppdmhgefiaaGreat
open Go.RowKit

end Go.Proofs.YtnomppdmhgefiaaGreat
/- Package path: Greater; the law's greater. -/
namespace Go.Proofs.YtnomppdmhgefiaaGreat
open Go.RowKit

/-- the call says that s is greater than t -/
def GP (L : List Rk) (s t : Tm) : Prop := PrecOk L ∧ s.ok ∧ t.ok ∧ Lpo (rkB L) s t
open Classical in
noncomputable def gpB (L : List Rk) (s t : Tm) : Bool := decide (GP L s t)
open Classical in
theorem gpB_yes {L : List Rk} {s t : Tm} : gpB L s t = true ↔ GP L s t := by unfold gpB; exact decide_eq_true_iff
open Classical in
theorem gpB_no {L : List Rk} {s t : Tm} : gpB L s t = false ↔ ¬ GP L s t := by unfold gpB; exact decide_eq_false_iff_not
theorem GP.rel {L : List Rk} {s t : Tm} (h : PrecOk L) (hs : s.ok) (ht : t.ok) : (rel (rkB L) s t == 2) = gpB L s t := by
  cases hb : gpB L s t with
  | true => have := (gpB_yes.1 hb).2.2.2; rw [beq_iff_eq]; exact rel_2.2 this
  | false => rw [beq_eq_false_iff_ne]; exact fun e => gpB_no.1 hb ⟨h, hs, ht, rel_2.1 e⟩

end Go.Proofs.YtnomppdmhgefiaaGreat
/- Merged: Plc, Tmw. -/
/- Plain facts on places, puts and substitutions. -/
namespace Go.Proofs.YtnomppdmhgefiaaGreat
open Go.RowKit

theorem Tm.at_cons6 {t x : Tm} {i : Int} (h : t.kid i = some x) (l : List Int) : t.at (i :: l) = x.at l := by simp only [Tm.at, h]
theorem Tm.at_cons_some6 {t : Tm} {i : Int} {l : List Int} (h : (t.at (i :: l)).isSome) : ∃ x, t.kid i = some x ∧ (x.at l).isSome := by
  simp only [Tm.at] at h
  cases hk : t.kid i with
  | none => rw [hk] at h; simp at h
  | some x => rw [hk] at h; exact ⟨x, rfl, h⟩
theorem sizes_set6 {l : List Tm} {i : Nat} {x y : Tm} (h : l[i]? = some x) : Tm.sizes (l.set i y) + x.size = Tm.sizes l + y.size := by
  induction l generalizing i with
  | nil => simp at h
  | cons a l ih =>
    cases i with
    | zero => simp at h; subst h; simp [Tm.sizes]; omega
    | succ i => have := ih (i := i) (by simpa using h); simp [Tm.sizes]; omega
theorem Tm.depth_mem {t : Tm} {l : List Tm} (h : t ∈ l) : t.depth ≤ Tm.depths l := by
  induction l with
  | nil => cases h
  | cons x l ih =>
    simp only [Tm.depths]
    rcases List.mem_cons.1 h with rfl | h
    · omega
    · have := ih h; omega
theorem Tm.at_size6 {t u : Tm} {l : List Int} (h : t.at l = some u) : u.size ≤ t.size := by
  induction l generalizing t with
  | nil => simp only [Tm.at, Option.some.injEq] at h; subst h; exact Nat.le_refl _
  | cons i l ih =>
    obtain ⟨y, hy, _⟩ := Tm.at_cons_some6 (t := t) (i := i) (l := l) (by rw [h]; rfl)
    rw [Tm.at_cons6 hy] at h
    have h1 := ih h
    have h2 := Tm.size_mem (Tm.kid_mem hy)
    have h3 := Tm.size_eq t
    omega
theorem Tm.at_depth6 {t u : Tm} {l : List Int} (h : t.at l = some u) : u.depth ≤ t.depth := by
  induction l generalizing t with
  | nil => simp only [Tm.at, Option.some.injEq] at h; subst h; exact Nat.le_refl _
  | cons i l ih =>
    obtain ⟨y, hy, _⟩ := Tm.at_cons_some6 (t := t) (i := i) (l := l) (by rw [h]; rfl)
    rw [Tm.at_cons6 hy] at h
    have h1 := ih h
    have h2 := Tm.depth_mem (Tm.kid_mem hy)
    have h3 := Tm.depth_eq t
    omega
theorem Tm.ok.at6 {t u : Tm} (ht : t.ok) {l : List Int} (h : t.at l = some u) : u.ok :=
  ⟨ht.1.at h, Nat.le_trans (Tm.at_size6 h) ht.2.1, Nat.le_trans (Tm.at_depth6 h) ht.2.2⟩
theorem Tm.put_size6 (t : Tm) (l : List Int) (u : Tm) : (t.put l u).size ≤ t.size + u.size := by
  induction l generalizing t with
  | nil => simp only [Tm.put]; omega
  | cons i l ih =>
    simp only [Tm.put]
    split
    · rename_i x hx
      have h1 := ih x
      have h2 : t.ts[i.toNat]? = some x := by
        unfold Tm.kid at hx
        split at hx
        · exact hx
        · cases hx
      have h3 := sizes_set6 (y := x.put l u) h2
      rw [Tm.size_eq (Tm.mk t.nm t.vr _), Tm.size_eq t]
      simp only [Tm.ts] at h3 ⊢
      omega
    · omega
theorem Tm.put_formed6 {t : Tm} (ht : t.formed) {u : Tm} (hu : u.formed) (l : List Int) : (t.put l u).formed := by
  induction l generalizing t with
  | nil => exact hu
  | cons i l ih =>
    simp only [Tm.put]
    split
    · rename_i x hx
      obtain ⟨h1, h2⟩ := (Tm.formed_iff t).1 ht
      refine (Tm.formed_iff _).2 ⟨?_, fun y hy => ?_⟩
      · simp only [Tm.nm, Tm.vr, Tm.ts, List.length_set] at h1 ⊢
        exact h1
      · rcases List.mem_or_eq_of_mem_set hy with h | rfl
        · exact h2 y h
        · exact ih (h2 x (Tm.kid_mem hx))
    · exact ht
theorem apB_formed6 {bl : List Bd} (h : ∀ p ∈ bl, p.2.formed) {t : Tm} (ht : t.formed) : (apB bl t).formed := by
  induction t using Tm.ind with
  | h t ih =>
    obtain ⟨h1, h2⟩ := (Tm.formed_iff t).1 ht
    cases hv : t.vr
    · rw [apB_fun bl hv, Tm.formed_iff]
      rw [hv] at h1
      refine ⟨by simpa [Tm.nm, Tm.vr, Tm.ts] using h1, fun u hu => ?_⟩
      obtain ⟨x, hx, rfl⟩ := List.mem_map.1 hu
      exact ih x hx (h2 x hx)
    · rw [apB_var bl hv]
      unfold imageOf
      cases hf : bl.find? (fun p => decide (p.1 = t.nm.data.toList)) with
      | some p => exact h p (List.mem_of_find?_eq_some hf)
      | none =>
        rw [Tm.formed_iff]
        rw [hv] at h1
        refine ⟨?_, fun u hu => by cases hu⟩
        simp only [Tm.nm, Tm.vr, Tm.ts, kb_key]
        simp only [nodeOk, if_true, Bool.and_eq_true] at h1 ⊢
        exact ⟨h1.1, rfl⟩
end Go.Proofs.YtnomppdmhgefiaaGreat
/- Terms and rows of terms between the operations of a drawn region. -/
namespace Go.Proofs.YtnomppdmhgefiaaGreat
open Go.RowKit

/-- a new row of terms -/
def RowW (W : World) (l : List Tm) (v : Value) : Prop := ∃ b, v = .slice (some ⟨b, 0, none⟩) l.length l.length ∧ SlIs W.heap.size W l v
def zeroBx : Obj := .cells #[.string ⟨#[]⟩, .bool false, .slice none 0 0] 25 (0, 0)
theorem ownsRow_block {W : World} {g n k : Nat} {e : TypeId} {c : List Value} (h : W.heap[g]? = some (.cells c.toArray e (0, 0))) (hl : c.length = n * k) (hm : n ≤ maxLen) : W.ownsRow 0 e k (.slice (some ⟨g, 0, none⟩) n n) n c :=
  ⟨by simp [hl], .inr ⟨g, n, c.toArray, rfl, Nat.zero_le _, h, Nat.le_refl _, hm, by simp [hl], by simp [← hl]⟩⟩
theorem rowIs {W : World} {g : Nat} (ch : List (Tm × Value)) (h : W.heap[g]? = some (.cells (stCells ch).toArray 25 (0, 0))) (hm : ch.length ≤ 8) (hk : ∀ c ∈ ch, SlIs W.heap.size W c.1.ts c.2) : SlIs W.heap.size W (ch.map (·.1)) (.slice (some ⟨g, 0, none⟩) ch.length ch.length) := by
  have hl : (stCells ch).length = ch.length * 3 := by
    clear h hm hk
    induction ch with
    | nil => rfl
    | cons p ch ih => rw [show stCells (p :: ch) = [.string p.1.nm, .bool p.1.vr, p.2] ++ stCells ch from rfl, List.length_append, ih]; simp; omega
  have h1 := SlP.ofRow (p := fun _ => True) (ownsRow_block h hl (by unfold maxLen; omega)) (fun _ _ => trivial) (fun c hc => (hk c hc).toP.carry fun b _ => ⟨rfl, trivial⟩)
  exact h1.lt.toIs fun b hb => hb.2
/-- a row of one term, of two, just built -/
theorem RowW.one {W : World} {t : Tm} {s : Value} (h : SlIs W.heap.size W t.ts s) : RowW (W.alloc (.cells #[.string t.nm, .bool t.vr, s] 25)) [t] (.slice (some ⟨W.heap.size, 0, none⟩) 1 1) :=
  ⟨_, rfl, rowIs [(t, s)] (heap_new_at _ _ _ rfl) (by simp) (by
    intro c hc
    obtain rfl := List.mem_singleton.1 hc
    exact h.carry ((Below.refl _ _).alloc (Nat.le_refl _) _) (by simp))⟩
theorem RowW.two {W : World} {t u : Tm} {s r : Value} (h : SlIs W.heap.size W t.ts s) (k : SlIs W.heap.size W u.ts r) : RowW (W.alloc (.cells #[.string t.nm, .bool t.vr, s, .string u.nm, .bool u.vr, r] 25)) [t, u] (.slice (some ⟨W.heap.size, 0, none⟩) 2 2) :=
  ⟨_, rfl, rowIs [(t, s), (u, r)] (heap_new_at _ _ _ rfl) (by simp) (by
    intro c hc
    simp only [List.mem_cons, List.not_mem_nil, or_false] at hc
    rcases hc with rfl | rfl
    · exact h.carry ((Below.refl _ _).alloc (Nat.le_refl _) _) (by simp)
    · exact k.carry ((Below.refl _ _).alloc (Nat.le_refl _) _) (by simp))⟩
end Go.Proofs.YtnomppdmhgefiaaGreat
