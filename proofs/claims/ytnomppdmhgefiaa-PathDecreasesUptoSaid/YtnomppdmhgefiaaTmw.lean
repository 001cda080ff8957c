/- Merged: Plc, Tmw. -/
import Derived.Test.YtnomppdmhgefiaaBlk
import Derived.Test.YtnomppdmhgefiaaAt
import Derived.Test.YtnomppdmhgefiaaGro
import Derived.Test.YtnomppdmhgefiaaApF
import Derived.WalkKit
import Derived.ProofKit
import Derived.OpenShut
import Derived.Handy
import Derived.Lib.Hide
import Derived.Test.YtnomppdmhgefiaaRck
import Derived.Test.YtnomppdmhgefiaaRnp
/- Plain facts on places, puts and substitutions. -/
namespace Go.Proofs.Ytnomppdmhgefiaa
open Go.RowKit

theorem Tm.at_cons6 {t x : Tm} {i : Int} (h : t.kid i = some x) (l : List Int) : t.at (i :: l) = x.at l := by simp only [Tm.at, h]
theorem Tm.at_cons_some6 {t : Tm} {i : Int} {l : List Int} (h : (t.at (i :: l)).isSome) : ∃ x, t.kid i = some x ∧ (x.at l).isSome := by
  simp only [Tm.at] at h
  cases hk : t.kid i with
  | none => rw [hk] at h; simp at h
  | some x => rw [hk] at h; exact ⟨x, rfl, h⟩
theorem bulks_set6 {l : List Tm} {i : Nat} {x y : Tm} (h : l[i]? = some x) : Tm.bulks (l.set i y) + x.bulk = Tm.bulks l + y.bulk := by
  induction l generalizing i with
  | nil => simp at h
  | cons z l ih =>
    cases i with
    | zero => simp at h; subst h; simp [Tm.bulks]; omega
    | succ i => have := ih (i := i) (by simpa using h); simp [Tm.bulks]; omega
theorem sizes_set6 {l : List Tm} {i : Nat} {x y : Tm} (h : l[i]? = some x) : Tm.sizes (l.set i y) + x.size = Tm.sizes l + y.size := by
  induction l generalizing i with
  | nil => simp at h
  | cons a l ih =>
    cases i with
    | zero => simp at h; subst h; simp [Tm.sizes]; omega
    | succ i => have := ih (i := i) (by simpa using h); simp [Tm.sizes]; omega
theorem Tm.depth_mem {t : Tm} {l : List Tm} (h : t ∈ l) : t.depth ≤ Tm.depths l := by
  induction l with
  | nil => cases h
  | cons x l ih =>
    simp only [Tm.depths]
    rcases List.mem_cons.1 h with rfl | h
    · omega
    · have := ih h; omega
theorem Tm.at_size6 {t u : Tm} {l : List Int} (h : t.at l = some u) : u.size ≤ t.size := by
  induction l generalizing t with
  | nil => simp only [Tm.at, Option.some.injEq] at h; subst h; exact Nat.le_refl _
  | cons i l ih =>
    obtain ⟨y, hy, _⟩ := Tm.at_cons_some6 (t := t) (i := i) (l := l) (by rw [h]; rfl)
    rw [Tm.at_cons6 hy] at h
    have h1 := ih h
    have h2 := Tm.size_mem (Tm.kid_mem hy)
    have h3 := Tm.size_eq t
    omega
theorem Tm.at_depth6 {t u : Tm} {l : List Int} (h : t.at l = some u) : u.depth ≤ t.depth := by
  induction l generalizing t with
  | nil => simp only [Tm.at, Option.some.injEq] at h; subst h; exact Nat.le_refl _
  | cons i l ih =>
    obtain ⟨y, hy, _⟩ := Tm.at_cons_some6 (t := t) (i := i) (l := l) (by rw [h]; rfl)
    rw [Tm.at_cons6 hy] at h
    have h1 := ih h
    have h2 := Tm.depth_mem (Tm.kid_mem hy)
    have h3 := Tm.depth_eq t
    omega
theorem Tm.ok.at6 {t u : Tm} (ht : t.ok) {l : List Int} (h : t.at l = some u) : u.ok :=
  ⟨ht.1.at h, Nat.le_trans (Tm.at_size6 h) ht.2.1, Nat.le_trans (Tm.at_depth6 h) ht.2.2⟩
theorem Tm.put_bulk6 (t : Tm) (l : List Int) (u : Tm) : (t.put l u).bulk ≤ t.bulk + u.bulk := by
  induction l generalizing t with
  | nil => simp only [Tm.put]; omega
  | cons i l ih =>
    simp only [Tm.put]
    split
    · rename_i x hx
      have h1 := ih x
      unfold Tm.kid at hx
      split at hx
      · have h2 := bulks_set6 (y := x.put l u) hx
        have h3 := Tm.bulk_eq t
        rw [Tm.bulk_eq]; simp only [Tm.nm, Tm.ts] at h2 h3 ⊢; omega
      · cases hx
    · omega
theorem Tm.put_size6 (t : Tm) (l : List Int) (u : Tm) : (t.put l u).size ≤ t.size + u.size := by
  induction l generalizing t with
  | nil => simp only [Tm.put]; omega
  | cons i l ih =>
    simp only [Tm.put]
    split
    · rename_i x hx
      have h1 := ih x
      have h2 : t.ts[i.toNat]? = some x := by
        unfold Tm.kid at hx
        split at hx
        · exact hx
        · cases hx
      have h3 := sizes_set6 (y := x.put l u) h2
      rw [Tm.size_eq (Tm.mk t.nm t.vr _), Tm.size_eq t]
      simp only [Tm.ts] at h3 ⊢
      omega
    · omega
theorem Tm.put_formed6 {t : Tm} (ht : t.formed) {u : Tm} (hu : u.formed) (l : List Int) : (t.put l u).formed := by
  induction l generalizing t with
  | nil => exact hu
  | cons i l ih =>
    simp only [Tm.put]
    split
    · rename_i x hx
      obtain ⟨h1, h2⟩ := (Tm.formed_iff t).1 ht
      refine (Tm.formed_iff _).2 ⟨?_, fun y hy => ?_⟩
      · simp only [Tm.nm, Tm.vr, Tm.ts, List.length_set] at h1 ⊢
        exact h1
      · rcases List.mem_or_eq_of_mem_set hy with h | rfl
        · exact h2 y h
        · exact ih (h2 x (Tm.kid_mem hx))
    · exact ht
theorem apB_formed6 {bl : List Bd} (h : ∀ p ∈ bl, p.2.formed) {t : Tm} (ht : t.formed) : (apB bl t).formed := by
  induction t using Tm.ind with
  | h t ih =>
    obtain ⟨h1, h2⟩ := (Tm.formed_iff t).1 ht
    cases hv : t.vr
    · rw [apB_fun bl hv, Tm.formed_iff]
      rw [hv] at h1
      refine ⟨by simpa [Tm.nm, Tm.vr, Tm.ts] using h1, fun u hu => ?_⟩
      obtain ⟨x, hx, rfl⟩ := List.mem_map.1 hu
      exact ih x hx (h2 x hx)
    · rw [apB_var bl hv]
      unfold imageOf
      cases hf : bl.find? (fun p => decide (p.1 = t.nm.data.toList)) with
      | some p => exact h p (List.mem_of_find?_eq_some hf)
      | none =>
        rw [Tm.formed_iff]
        rw [hv] at h1
        refine ⟨?_, fun u hu => by cases hu⟩
        simp only [Tm.nm, Tm.vr, Tm.ts, kb_key]
        simp only [nodeOk, if_true, Bool.and_eq_true] at h1 ⊢
        exact ⟨h1.1, rfl⟩
end Go.Proofs.Ytnomppdmhgefiaa
/- Terms and rows of terms between the operations of a drawn region. -/
namespace Go.Proofs.Ytnomppdmhgefiaa
open Go.RowKit

/-- a term as a value -/
def TmW (W : World) (t : Tm) (v : Value) : Prop := ∃ o n c, v = .agg #[.string t.nm, .bool t.vr, .slice o n c] ∧ SlIs W.heap.size W t.ts (.slice o n c)
/-- a new row of terms -/
def RowW (W : World) (l : List Tm) (v : Value) : Prop := ∃ b, v = .slice (some ⟨b, 0, none⟩) l.length l.length ∧ SlIs W.heap.size W l v
def zeroBx : Obj := .cells #[.string ⟨#[]⟩, .bool false, .slice none 0 0] 26 (0, 0)
/-- a formed term's arguments do not lie in a zero term's box -/
theorem SlIs.zbox {n c : Nat} {W : World} {l : List Tm} {s : Value} (h : SlIs n W l s) (hc : W.heap[c]? = some zeroBx) (hf : ∀ u ∈ l, u.formed) : SlP (fun b => b < n ∧ b ≠ c) W l s := by
  induction h with
  | nil0 => exact .nil0
  | nil1 a cap => exact .nil1 a cap
  | row b o cap l s hl hb hcap cells hk hfz ih =>
    refine .row b o cap l s hl ⟨hb, ?_⟩ hcap cells (fun i t ht => ih i t ht fun u hu => ((Tm.formed_iff t).1 (hf t (List.mem_of_getElem? ht))).2 u hu) hfz
    rintro rfl
    obtain ⟨t, ht⟩ : ∃ t, l[0]? = some t := by cases l with
      | nil => exact absurd rfl hl
      | cons t l => exact ⟨t, rfl⟩
    have h1 := (cells 0 t ht).1
    rw [cells_of' hc] at h1
    have hn : t.nm ≠ ⟨#[]⟩ := fun e => by
      have h2 := ((Tm.formed_iff t).1 (hf t (List.mem_of_getElem? ht))).1
      rw [e] at h2
      unfold nodeOk at h2
      split at h2
      · rw [show isName ⟨#[]⟩ false = false by decide] at h2; simp at h2
      · rw [show isName ⟨#[]⟩ true = false by decide] at h2; simp at h2
    rcases o with _ | _ | _ | o
    · simp only [Nat.zero_add, Nat.zero_mul, List.getElem?_toArray, List.getElem?_cons_zero, Option.some.injEq, Value.string.injEq] at h1; exact hn h1.symm
    · simp at h1
    · simp at h1
    · simp at h1
theorem TmW.keep {A W : World} {t : Tm} {v : Value} (h : TmW A t v) (hb : Below A.heap.size A W) : TmW W t v := by
  obtain ⟨o, n, c, rfl, h⟩ := h
  exact ⟨o, n, c, rfl, h.carry hb hb.size⟩
theorem RowW.keep {A W : World} {l : List Tm} {v : Value} (h : RowW A l v) (hb : Below A.heap.size A W) : RowW W l v := by
  obtain ⟨b, rfl, h⟩ := h
  exact ⟨b, rfl, h.carry hb hb.size⟩
theorem SlIs.setz {W : World} {l : List Tm} {v : Value} {p : Nat} (h : SlIs W.heap.size W l v) (hc : W.heap[p]? = some zeroBx) (hf : ∀ u ∈ l, u.formed) (x y z : Value) : SlIs (((W.setCell ⟨p, 0, none⟩ x).setCell ⟨p, 1, none⟩ y).setCell ⟨p, 2, none⟩ z).heap.size (((W.setCell ⟨p, 0, none⟩ x).setCell ⟨p, 1, none⟩ y).setCell ⟨p, 2, none⟩ z) l v := by
  refine ((h.zbox hc hf).carry (q := fun b => b < W.heap.size) fun b hb => ⟨heap_set3 _ _ _ _ _ _ hb.2, hb.1⟩).toIs fun b hb => ?_
  simp [World.setCell]; omega
theorem TmW.setz {W : World} {t : Tm} {v : Value} {p : Nat} (h : TmW W t v) (hc : W.heap[p]? = some zeroBx) (hf : ∀ u ∈ t.ts, u.formed) (x y z : Value) : TmW (((W.setCell ⟨p, 0, none⟩ x).setCell ⟨p, 1, none⟩ y).setCell ⟨p, 2, none⟩ z) t v := by
  obtain ⟨o, n, c, rfl, h⟩ := h
  exact ⟨o, n, c, rfl, h.setz hc hf x y z⟩
theorem RowW.setz {W : World} {l : List Tm} {v : Value} {p : Nat} (h : RowW W l v) (hc : W.heap[p]? = some zeroBx) (hf : ∀ u ∈ l, u.formed) (x y z : Value) : RowW (((W.setCell ⟨p, 0, none⟩ x).setCell ⟨p, 1, none⟩ y).setCell ⟨p, 2, none⟩ z) l v := by
  obtain ⟨b, rfl, h⟩ := h
  exact ⟨b, rfl, h.setz hc hf x y z⟩
theorem ownsRow_block {W : World} {g n k : Nat} {e : TypeId} {c : List Value} (h : W.heap[g]? = some (.cells c.toArray e (0, 0))) (hl : c.length = n * k) (hm : n ≤ maxLen) : W.ownsRow 0 e k (.slice (some ⟨g, 0, none⟩) n n) n c :=
  ⟨by simp [hl], .inr ⟨g, n, c.toArray, rfl, Nat.zero_le _, h, Nat.le_refl _, hm, by simp [hl], by simp [← hl]⟩⟩
theorem rowIs {W : World} {g : Nat} (ch : List (Tm × Value)) (h : W.heap[g]? = some (.cells (stCells ch).toArray 26 (0, 0))) (hm : ch.length ≤ 8) (hk : ∀ c ∈ ch, SlIs W.heap.size W c.1.ts c.2) : SlIs W.heap.size W (ch.map (·.1)) (.slice (some ⟨g, 0, none⟩) ch.length ch.length) := by
  have hl : (stCells ch).length = ch.length * 3 := by
    clear h hm hk
    induction ch with
    | nil => rfl
    | cons p ch ih => rw [show stCells (p :: ch) = [.string p.1.nm, .bool p.1.vr, p.2] ++ stCells ch from rfl, List.length_append, ih]; simp; omega
  have h1 := SlP.ofRow (p := fun _ => True) (ownsRow_block h hl (by unfold maxLen; omega)) (fun _ _ => trivial) (fun c hc => (hk c hc).toP.carry fun b _ => ⟨rfl, trivial⟩)
  exact h1.lt.toIs fun b hb => hb.2
/-- a row of one term, of two, just built -/
theorem RowW.one {W : World} {t : Tm} {s : Value} (h : SlIs W.heap.size W t.ts s) : RowW (W.alloc (.cells #[.string t.nm, .bool t.vr, s] 26)) [t] (.slice (some ⟨W.heap.size, 0, none⟩) 1 1) :=
  ⟨_, rfl, rowIs [(t, s)] (heap_new_at _ _ _ rfl) (by simp) (by
    intro c hc
    obtain rfl := List.mem_singleton.1 hc
    exact h.carry ((Below.refl _ _).alloc (Nat.le_refl _) _) (by simp))⟩
theorem RowW.two {W : World} {t u : Tm} {s r : Value} (h : SlIs W.heap.size W t.ts s) (k : SlIs W.heap.size W u.ts r) : RowW (W.alloc (.cells #[.string t.nm, .bool t.vr, s, .string u.nm, .bool u.vr, r] 26)) [t, u] (.slice (some ⟨W.heap.size, 0, none⟩) 2 2) :=
  ⟨_, rfl, rowIs [(t, s), (u, r)] (heap_new_at _ _ _ rfl) (by simp) (by
    intro c hc
    simp only [List.mem_cons, List.not_mem_nil, or_false] at hc
    rcases hc with rfl | rfl
    · exact h.carry ((Below.refl _ _).alloc (Nat.le_refl _) _) (by simp)
    · exact k.carry ((Below.refl _ _).alloc (Nat.le_refl _) _) (by simp))⟩
end Go.Proofs.Ytnomppdmhgefiaa
