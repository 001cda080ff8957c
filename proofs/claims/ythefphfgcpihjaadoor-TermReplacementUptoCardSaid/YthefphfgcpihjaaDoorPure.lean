/- Places replaced: plain facts. -/
import Derived.Test.YthefphfgcpihjaaDoorPut2
import Derived.Test.YthefphfgcpihjaaDoorSame
namespace Go.Proofs.YthefphfgcpihjaaDoor
open Go.RowKit

theorem Tm.put_cons {t x : Tm} {i : Int} (h : t.kid i = some x) (l : List Int) (u : Tm) : t.put (i :: l) u = .mk t.nm t.vr (t.ts.set i.toNat (x.put l u)) := by simp only [Tm.put, h]
theorem Tm.at_cons {t x : Tm} {i : Int} (h : t.kid i = some x) (l : List Int) : t.at (i :: l) = x.at l := by simp only [Tm.at, h]
theorem Tm.at_cons_some {t : Tm} {i : Int} {l : List Int} (h : (t.at (i :: l)).isSome) : ∃ x, t.kid i = some x ∧ (x.at l).isSome := by
  simp only [Tm.at] at h
  cases hk : t.kid i with
  | none => rw [hk] at h; simp at h
  | some x => rw [hk] at h; exact ⟨x, rfl, h⟩
theorem Tm.kid_spec {t x : Tm} {i : Int} (h : t.kid i = some x) : 0 ≤ i ∧ t.ts[i.toNat]? = some x := by
  unfold Tm.kid at h; split at h
  · rename_i h0; exact ⟨h0, h⟩
  · cases h
theorem Tm.kid_set {t x y : Tm} {i : Int} (h : t.kid i = some x) (j : Int) : (Tm.mk t.nm t.vr (t.ts.set i.toNat y)).kid j = if j = i then some y else t.kid j := by
  obtain ⟨h0, h1⟩ := Tm.kid_spec h
  have hlt := (List.getElem?_eq_some_iff.1 h1).1
  unfold Tm.kid
  by_cases e : j = i
  · subst e
    rw [if_pos h0, if_pos rfl]
    exact List.getElem?_set_self hlt
  · rw [if_neg e]
    split
    · exact List.getElem?_set_ne (by omega)
    · rfl
theorem Tm.at_put_same {t : Tm} {l : List Int} (h : (t.at l).isSome) (u : Tm) : (t.put l u).at l = some u := by
  induction l generalizing t with
  | nil => rfl
  | cons i l ih =>
    obtain ⟨x, hx, hl⟩ := Tm.at_cons_some h
    rw [Tm.put_cons hx, Tm.at_cons (x := x.put l u) (by rw [Tm.kid_set hx, if_pos rfl])]
    exact ih hl
theorem Tm.put_at {t x : Tm} {l : List Int} (h : t.at l = some x) : t.put l x = t := by
  induction l generalizing t with
  | nil => simp only [Tm.at, Option.some.injEq] at h; subst h; rfl
  | cons i l ih =>
    obtain ⟨y, hy, _⟩ := Tm.at_cons_some (t := t) (i := i) (l := l) (by rw [h]; rfl)
    rw [Tm.at_cons hy] at h
    rw [Tm.put_cons hy, ih h]
    obtain ⟨_, h1⟩ := Tm.kid_spec hy
    have : t.ts.set i.toNat y = t.ts := by
      apply List.ext_getElem?
      intro k
      by_cases e : i.toNat = k
      · subst e; rw [List.getElem?_set_self (List.getElem?_eq_some_iff.1 h1).1, h1]
      · rw [List.getElem?_set_ne e]
    rw [this]; cases t; rfl
theorem Parallel.cons {i j : Int} {p q : List Int} (h : Parallel (i :: p) (j :: q)) : i ≠ j ∨ (i = j ∧ Parallel p q) := by
  obtain ⟨k, x, y, h1, h2, h3⟩ := h
  by_cases e : i = j
  · refine .inr ⟨e, ?_⟩
    cases k with
    | zero => simp at h1 h2; subst h1; subst h2; exact absurd e h3
    | succ k => exact ⟨k, x, y, by simpa using h1, by simpa using h2, h3⟩
  · exact .inl e
theorem Tm.at_put_par {t : Tm} {p q : List Int} (hp : Parallel p q) (h : (t.at p).isSome) (u : Tm) : (t.put p u).at q = t.at q := by
  induction p generalizing t q with
  | nil => obtain ⟨k, x, y, h1, _⟩ := hp; simp at h1
  | cons i p ih =>
    cases q with
    | nil => obtain ⟨k, x, y, _, h2, _⟩ := hp; simp at h2
    | cons j q =>
      obtain ⟨x, hx, hl⟩ := Tm.at_cons_some h
      rw [Tm.put_cons hx]
      simp only [Tm.at, Tm.kid_set hx]
      rcases hp.cons with e | ⟨rfl, hp'⟩
      · rw [if_neg (fun h => e h.symm)]
      · rw [if_pos rfl, hx]; exact ih hp' hl
theorem Tm.put_put_par {t : Tm} {p q : List Int} (hp : Parallel p q) (h : (t.at p).isSome) (hq : (t.at q).isSome) (u v : Tm) : (t.put p u).put q v = (t.put q v).put p u := by
  induction p generalizing t q with
  | nil => obtain ⟨k, x, y, h1, _⟩ := hp; simp at h1
  | cons i p ih =>
    cases q with
    | nil => obtain ⟨k, x, y, _, h2, _⟩ := hp; simp at h2
    | cons j q =>
      obtain ⟨x, hx, hl⟩ := Tm.at_cons_some h
      obtain ⟨y, hy, hm⟩ := Tm.at_cons_some hq
      rw [Tm.put_cons hx, Tm.put_cons hy]
      rcases hp.cons with e | ⟨rfl, hp'⟩
      · have hi := (Tm.kid_spec hx).1
        have hj := (Tm.kid_spec hy).1
        rw [Tm.put_cons (x := y) (by rw [Tm.kid_set hx, if_neg (fun h => e h.symm)]; exact hy), Tm.put_cons (x := x) (by rw [Tm.kid_set hy, if_neg e]; exact hx)]
        simp only [Tm.nm, Tm.vr, Tm.ts]
        rw [List.set_comm _ _ (by omega)]
      · rw [hx] at hy; cases hy
        rw [Tm.put_cons (x := x.put p u) (by rw [Tm.kid_set hx, if_pos rfl]), Tm.put_cons (x := x.put q v) (by rw [Tm.kid_set hx, if_pos rfl])]
        simp only [Tm.nm, Tm.vr, Tm.ts, List.set_set, ih hp' hl hm]
theorem Tm.at_size {t u : Tm} {l : List Int} (h : t.at l = some u) : u.size ≤ t.size := by
  induction l generalizing t with
  | nil => simp only [Tm.at, Option.some.injEq] at h; subst h; exact Nat.le_refl _
  | cons i l ih =>
    obtain ⟨y, hy, _⟩ := Tm.at_cons_some (t := t) (i := i) (l := l) (by rw [h]; rfl)
    rw [Tm.at_cons hy] at h
    have h1 := ih h
    have h2 := Tm.size_mem (Tm.kid_mem hy)
    have h3 := Tm.size_eq t
    omega
theorem Tm.at_depth {t u : Tm} {l : List Int} (h : t.at l = some u) : u.depth ≤ t.depth := by
  induction l generalizing t with
  | nil => simp only [Tm.at, Option.some.injEq] at h; subst h; exact Nat.le_refl _
  | cons i l ih =>
    obtain ⟨y, hy, _⟩ := Tm.at_cons_some (t := t) (i := i) (l := l) (by rw [h]; rfl)
    rw [Tm.at_cons hy] at h
    have h1 := ih h
    have h2 := Tm.depth_mem (Tm.kid_mem hy)
    have h3 := Tm.depth_eq t
    omega
theorem Tm.ok.at {t u : Tm} (ht : t.ok) {l : List Int} (h : t.at l = some u) : u.ok :=
  ⟨ht.1.at h, Nat.le_trans (Tm.at_size h) ht.2.1, Nat.le_trans (Tm.at_depth h) ht.2.2⟩

theorem PutSays.bulk {t u r : Tm} {p : List Int} {c : Int} (h : PutSays t p u r c) : r.bulk ≤ t.bulk + u.bulk := by
  rcases h with ⟨_, _, _, _, _, hr⟩ | ⟨_, hr, _⟩
  · rw [hr]; exact Tm.put_bulk t p u
  · rw [hr]; have := Tm.bulk_eq t; have h1 : Tm.none.bulk = 1 := rfl; omega
/-- a part put back -/
theorem PutSays.back {t x r : Tm} {p : List Int} {c : Int} (h : PutSays t p x r c) (ht : t.ok) (hx : t.at p = some x) : c = 0 ∧ r = t := by
  rcases h with ⟨h0, _, _, _, _, hr⟩ | ⟨_, _, h3⟩
  · exact ⟨h0, by rw [hr, Tm.put_at hx]⟩
  · obtain ⟨_, hn⟩ := h3 ht (by rw [hx]; rfl) (ht.at hx)
    rw [Tm.put_at hx] at hn
    exact absurd ht hn
/-- the two orders of two parts that are apart -/
theorem PutSays.par {t u v r1 r3 : Tm} {p q : List Int} {c1 c3 : Int} (hp : Parallel p q) (hp1 : (t.at p).isSome) (hq1 : (t.at q).isSome) (hu : u.ok) (hv : v.ok) (h12 : (t.put p u).ok) (h22 : (t.put q v).ok)
    (h1 : PutSays (t.put p u) q v r1 c1) (h3 : PutSays (t.put q v) p u r3 c3) : c1 = c3 ∧ r1 = r3 := by
  have hqp : Parallel q p := by obtain ⟨k, x, y, a, b, c⟩ := hp; exact ⟨k, y, x, b, a, fun e => c e.symm⟩
  have e1 : ((t.put p u).at q).isSome := by rw [Tm.at_put_par hp hp1]; exact hq1
  have e3 : ((t.put q v).at p).isSome := by rw [Tm.at_put_par hqp hq1]; exact hp1
  have ec := Tm.put_put_par hp hp1 hq1 u v
  rcases h1 with ⟨a0, _, _, _, aok, ar⟩ | ⟨a0, ar, an⟩
  · rcases h3 with ⟨b0, _, _, _, bok, br⟩ | ⟨b0, br, bn⟩
    · exact ⟨by rw [a0, b0], by rw [ar, br, ec]⟩
    · exact absurd (ec ▸ aok) (bn h22 e3 hu).2
  · rcases h3 with ⟨b0, _, _, _, bok, br⟩ | ⟨b0, br, bn⟩
    · exact absurd (ec ▸ bok) (an h12 e1 hv).2
    · exact ⟨by rw [(an h12 e1 hv).1, (bn h22 e3 hu).1], by rw [ar, br]⟩
end Go.Proofs.YthefphfgcpihjaaDoor
