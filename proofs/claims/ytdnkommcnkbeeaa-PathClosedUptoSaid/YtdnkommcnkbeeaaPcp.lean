/- Plain facts on places, puts and substitutions for the law PathClosed. -/
import Derived.Test.YtdnkommcnkbeeaaBlk
import Derived.Test.YtdnkommcnkbeeaaLpo2
import Derived.Test.YtdnkommcnkbeeaaGrt
import Derived.Test.YtdnkommcnkbeeaaGro
namespace Go.Proofs.Ytdnkommcnkbeeaa
open Go.RowKit

theorem Tm.at_cons6 {t x : Tm} {i : Int} (h : t.kid i = some x) (l : List Int) : t.at (i :: l) = x.at l := by simp only [Tm.at, h]
theorem Tm.at_cons_some6 {t : Tm} {i : Int} {l : List Int} (h : (t.at (i :: l)).isSome) : ∃ x, t.kid i = some x ∧ (x.at l).isSome := by
  simp only [Tm.at] at h
  cases hk : t.kid i with
  | none => rw [hk] at h; simp at h
  | some x => rw [hk] at h; exact ⟨x, rfl, h⟩
theorem bulks_set6 {l : List Tm} {i : Nat} {x y : Tm} (h : l[i]? = some x) : Tm.bulks (l.set i y) + x.bulk = Tm.bulks l + y.bulk := by
  induction l generalizing i with
  | nil => simp at h
  | cons z l ih =>
    cases i with
    | zero => simp at h; subst h; simp [Tm.bulks]; omega
    | succ i => have := ih (i := i) (by simpa using h); simp [Tm.bulks]; omega
theorem sizes_set6 {l : List Tm} {i : Nat} {x y : Tm} (h : l[i]? = some x) : Tm.sizes (l.set i y) + x.size = Tm.sizes l + y.size := by
  induction l generalizing i with
  | nil => simp at h
  | cons a l ih =>
    cases i with
    | zero => simp at h; subst h; simp [Tm.sizes]; omega
    | succ i => have := ih (i := i) (by simpa using h); simp [Tm.sizes]; omega
theorem Tm.depth_mem {t : Tm} {l : List Tm} (h : t ∈ l) : t.depth ≤ Tm.depths l := by
  induction l with
  | nil => cases h
  | cons x l ih =>
    simp only [Tm.depths]
    rcases List.mem_cons.1 h with rfl | h
    · omega
    · have := ih h; omega
theorem Tm.at_size6 {t u : Tm} {l : List Int} (h : t.at l = some u) : u.size ≤ t.size := by
  induction l generalizing t with
  | nil => simp only [Tm.at, Option.some.injEq] at h; subst h; exact Nat.le_refl _
  | cons i l ih =>
    obtain ⟨y, hy, _⟩ := Tm.at_cons_some6 (t := t) (i := i) (l := l) (by rw [h]; rfl)
    rw [Tm.at_cons6 hy] at h
    have h1 := ih h
    have h2 := Tm.size_mem (Tm.kid_mem hy)
    have h3 := Tm.size_eq t
    omega
theorem Tm.at_depth6 {t u : Tm} {l : List Int} (h : t.at l = some u) : u.depth ≤ t.depth := by
  induction l generalizing t with
  | nil => simp only [Tm.at, Option.some.injEq] at h; subst h; exact Nat.le_refl _
  | cons i l ih =>
    obtain ⟨y, hy, _⟩ := Tm.at_cons_some6 (t := t) (i := i) (l := l) (by rw [h]; rfl)
    rw [Tm.at_cons6 hy] at h
    have h1 := ih h
    have h2 := Tm.depth_mem (Tm.kid_mem hy)
    have h3 := Tm.depth_eq t
    omega
theorem Tm.ok.at6 {t u : Tm} (ht : t.ok) {l : List Int} (h : t.at l = some u) : u.ok :=
  ⟨ht.1.at h, Nat.le_trans (Tm.at_size6 h) ht.2.1, Nat.le_trans (Tm.at_depth6 h) ht.2.2⟩
theorem Tm.put_bulk6 (t : Tm) (l : List Int) (u : Tm) : (t.put l u).bulk ≤ t.bulk + u.bulk := by
  induction l generalizing t with
  | nil => simp only [Tm.put]; omega
  | cons i l ih =>
    simp only [Tm.put]
    split
    · rename_i x hx
      have h1 := ih x
      unfold Tm.kid at hx
      split at hx
      · have h2 := bulks_set6 (y := x.put l u) hx
        have h3 := Tm.bulk_eq t
        rw [Tm.bulk_eq]; simp only [Tm.nm, Tm.ts] at h2 h3 ⊢; omega
      · cases hx
    · omega
theorem Tm.put_size6 (t : Tm) (l : List Int) (u : Tm) : (t.put l u).size ≤ t.size + u.size := by
  induction l generalizing t with
  | nil => simp only [Tm.put]; omega
  | cons i l ih =>
    simp only [Tm.put]
    split
    · rename_i x hx
      have h1 := ih x
      have h2 : t.ts[i.toNat]? = some x := by
        unfold Tm.kid at hx
        split at hx
        · exact hx
        · cases hx
      have h3 := sizes_set6 (y := x.put l u) h2
      rw [Tm.size_eq (Tm.mk t.nm t.vr _), Tm.size_eq t]
      simp only [Tm.ts] at h3 ⊢
      omega
    · omega
theorem Tm.put_formed6 {t : Tm} (ht : t.formed) {u : Tm} (hu : u.formed) (l : List Int) : (t.put l u).formed := by
  induction l generalizing t with
  | nil => exact hu
  | cons i l ih =>
    simp only [Tm.put]
    split
    · rename_i x hx
      obtain ⟨h1, h2⟩ := (Tm.formed_iff t).1 ht
      refine (Tm.formed_iff _).2 ⟨?_, fun y hy => ?_⟩
      · simp only [Tm.nm, Tm.vr, Tm.ts, List.length_set] at h1 ⊢
        exact h1
      · rcases List.mem_or_eq_of_mem_set hy with h | rfl
        · exact h2 y h
        · exact ih (h2 x (Tm.kid_mem hx))
    · exact ht
theorem apB_formed6 {bl : List Bd} (h : ∀ p ∈ bl, p.2.formed) {t : Tm} (ht : t.formed) : (apB bl t).formed := by
  induction t using Tm.ind with
  | h t ih =>
    obtain ⟨h1, h2⟩ := (Tm.formed_iff t).1 ht
    cases hv : t.vr
    · rw [apB_fun bl hv, Tm.formed_iff]
      rw [hv] at h1
      refine ⟨by simpa [Tm.nm, Tm.vr, Tm.ts] using h1, fun u hu => ?_⟩
      obtain ⟨x, hx, rfl⟩ := List.mem_map.1 hu
      exact ih x hx (h2 x hx)
    · rw [apB_var bl hv]
      unfold imageOf
      cases hf : bl.find? (fun p => decide (p.1 = t.nm.data.toList)) with
      | some p => exact h p (List.mem_of_find?_eq_some hf)
      | none =>
        rw [Tm.formed_iff]
        rw [hv] at h1
        refine ⟨?_, fun u hu => by cases hu⟩
        simp only [Tm.nm, Tm.vr, Tm.ts, kb_key]
        simp only [nodeOk, if_true, Bool.and_eq_true] at h1 ⊢
        exact ⟨h1.1, rfl⟩
theorem gp_proper {L : List Rk} {c x : Tm} {pos : List Int} (hL : PrecOk L) (hc : c.ok) (hp : pos ≠ []) (h : c.at pos = some x) : gpB L c x = true :=
  gpB_yes.2 ⟨hL, hc, hc.at6 h, Lpo.proper hc.1.bare hp h⟩
theorem gp_subst {L : List Rk} {s t : Tm} {bl : List Bd} (h : gpB L s t = true) (hb : SubOk bl) (hs : (apB bl s).size ≤ 4000 ∧ (apB bl s).depth ≤ 200) (ht : (apB bl t).size ≤ 4000 ∧ (apB bl t).depth ≤ 200) : gpB L (apB bl s) (apB bl t) = true := by
  obtain ⟨h1, h2, h3, h4⟩ := gpB_yes.1 h
  refine gpB_yes.2 ⟨h1, ⟨apB_formed6 (fun q hq => (hb.terms q hq).1) h2.1, hs.1, hs.2⟩, ⟨apB_formed6 (fun q hq => (hb.terms q hq).1) h3.1, ht.1, ht.2⟩, ?_⟩
  rw [apB_apF, apB_apF]
  exact h4.subst _
theorem gp_put {L : List Rk} {s t c x : Tm} {pos : List Int} (h : gpB L s t = true) (hc : c.formed) (hx : c.at pos = some x) (h1 : (c.put pos s).ok) (h2 : (c.put pos t).ok) : gpB L (c.put pos s) (c.put pos t) = true :=
  gpB_yes.2 ⟨(gpB_yes.1 h).1, h1, h2, (gpB_yes.1 h).2.2.2.put hc.bare hx⟩
end Go.Proofs.Ytdnkommcnkbeeaa
