/- The lexicographic path order: substitutions, contexts, ground terms. No program stands here. -/
import Derived.Test.YtnomppdmhgefiaaLpo
import Derived.Test.YtnomppdmhgefiaaApF
import Derived.Test.YtnomppdmhgefiaaAt
namespace Go.Proofs.Ytnomppdmhgefiaa
open Go.RowKit
section
variable {rk : ByteArray → Int}
/-- closed under substitutions -/
theorem Lpo.subst (σ : Key → Tm) {s t : Tm} (h : Lpo rk s t) : Lpo rk (apF σ s) (apF σ t) := by
  induction h with
  | arg s t hs ht =>
    rw [apF_fun σ hs]
    exact .arg _ _ rfl (List.mem_map.2 ⟨t, ht, rfl⟩)
  | sub s t a hs ha _ ih =>
    rw [apF_fun σ hs]
    exact .sub _ _ (apF σ a) rfl (List.mem_map.2 ⟨a, ha, rfl⟩) ih
  | top s t hs ht hr _ ih =>
    rw [apF_fun σ hs] at ih ⊢
    rw [apF_fun σ ht]
    refine .top _ _ rfl rfl hr fun b hb => ?_
    obtain ⟨c, hc, rfl⟩ := List.mem_map.1 (show b ∈ t.ts.map (apF σ) from hb)
    exact ih c hc
  | lex s t i a b hs ht hn hl _ ha hb hti _ ih ihab =>
    rw [apF_fun σ hs] at ih ⊢
    rw [apF_fun σ ht]
    refine .lex _ _ i (apF σ a) (apF σ b) rfl rfl hn ?_ (fun c hc => ?_) ?_ ?_ ?_ ihab
    · show (s.ts.map (apF σ)).length = (t.ts.map (apF σ)).length
      rw [List.length_map, List.length_map, hl]
    · obtain ⟨d, hd, rfl⟩ := List.mem_map.1 (show c ∈ t.ts.map (apF σ) from hc)
      exact ih d hd
    · show (s.ts.map (apF σ))[i]? = _
      rw [List.getElem?_map, ha]; rfl
    · show (t.ts.map (apF σ))[i]? = _
      rw [List.getElem?_map, hb]; rfl
    · show (s.ts.map (apF σ)).take i = (t.ts.map (apF σ)).take i
      rw [← List.map_take, ← List.map_take, hti]
/-- closed under contexts: one argument -/
theorem Lpo.context {s t : Tm} (h : Lpo rk s t) (nm : ByteArray) (l r : List Tm) : Lpo rk (.mk nm false (l ++ s :: r)) (.mk nm false (l ++ t :: r)) := by
  refine .lex _ _ l.length s t rfl rfl rfl (by simp [Tm.ts]) (fun b hb => ?_) (by simp [Tm.ts]) (by simp [Tm.ts]) (by simp [Tm.ts]) h
  have hb : b ∈ l ++ t :: r := hb
  rw [List.mem_append, List.mem_cons] at hb
  rcases hb with hb | rfl | hb
  · exact .arg _ b rfl (List.mem_append.2 (.inl hb))
  · exact .sub _ b s rfl (List.mem_append.2 (.inr (by simp))) h
  · exact .arg _ b rfl (List.mem_append.2 (.inr (by simp [hb])))
/-- function symbols below a term -/
inductive Tm.sym (p : ByteArray → Nat → Prop) : Tm → Prop
  | mk (t : Tm) : t.vr = false → p t.nm t.ts.length → (∀ u ∈ t.ts, u.sym p) → t.sym p
theorem Tm.sym.vr {p : ByteArray → Nat → Prop} {t : Tm} (h : t.sym p) : t.vr = false := by cases h; assumption
theorem Tm.sym.top {p : ByteArray → Nat → Prop} {t : Tm} (h : t.sym p) : p t.nm t.ts.length := by cases h; assumption
theorem Tm.sym.kids {p : ByteArray → Nat → Prop} {t : Tm} (h : t.sym p) : ∀ u ∈ t.ts, u.sym p := by cases h; assumption
/-- the first place where two lists differ -/
theorem first_diff {l r : List Tm} (hl : l.length = r.length) (h : l ≠ r) : ∃ (i : Nat) (a b : Tm), l[i]? = some a ∧ r[i]? = some b ∧ l.take i = r.take i ∧ a ≠ b := by
  induction l generalizing r with
  | nil => cases r; exact absurd rfl h; simp at hl
  | cons x l ih =>
    cases r with
    | nil => simp at hl
    | cons y r =>
      by_cases e : x = y
      · subst e
        obtain ⟨i, a, b, h1, h2, h3, h4⟩ := ih (r := r) (by simpa using hl) (fun e => h (by rw [e]))
        exact ⟨i + 1, a, b, by rw [List.getElem?_cons_succ]; exact h1, by rw [List.getElem?_cons_succ]; exact h2, by rw [List.take_succ_cons, List.take_succ_cons, h3], h4⟩
      · exact ⟨0, x, y, rfl, rfl, rfl, e⟩
/-- ground terms with fixed arities and different ranks are comparable -/
theorem Lpo.total_n {p : ByteArray → Nat → Prop} (hp : ∀ f g m n, p f m → p g n → rk f = rk g → f = g ∧ m = n) (n : Nat) : ∀ s t : Tm, s.size + t.size ≤ n → s.sym p → t.sym p → s = t ∨ Lpo rk s t ∨ Lpo rk t s := by
  induction n with
  | zero => intro s t h; have := s.size_pos; omega
  | succ n ih =>
    intro s t hn hs ht
    by_cases h1 : ∃ a ∈ s.ts, a = t ∨ Lpo rk a t
    · exact .inr (.inl (.of' hs.vr (.inl h1)))
    by_cases h2 : ∃ b ∈ t.ts, b = s ∨ Lpo rk b s
    · exact .inr (.inr (.of' ht.vr (.inl h2)))
    have h3 : ∀ a ∈ s.ts, Lpo rk t a := fun a ha => by
      have := mem_size ha
      rcases ih a t (by omega) (hs.kids a ha) ht with h | h | h
      · exact absurd ⟨a, ha, .inl h⟩ h1
      · exact absurd ⟨a, ha, .inr h⟩ h1
      · exact h
    have h4 : ∀ b ∈ t.ts, Lpo rk s b := fun b hb => by
      have := mem_size hb
      rcases ih s b (by omega) hs (ht.kids b hb) with h | h | h
      · exact absurd ⟨b, hb, .inl h.symm⟩ h2
      · exact h
      · exact absurd ⟨b, hb, .inr h⟩ h2
    rcases Int.lt_trichotomy (rk s.nm) (rk t.nm) with hr | hr | hr
    · exact .inr (.inr (.top t s ht.vr hs.vr hr h3))
    · obtain ⟨hnm, hlen⟩ := hp _ _ _ _ hs.top ht.top hr
      by_cases he : s.ts = t.ts
      · exact .inl (Tm.ext' hnm (hs.vr.trans ht.vr.symm) he)
      · obtain ⟨i, a, b, ha, hb, hti, hne⟩ := first_diff hlen he
        have ham := List.mem_of_getElem? ha
        have hbm := List.mem_of_getElem? hb
        have e1 := mem_size ham
        have e2 := mem_size hbm
        rcases ih a b (by omega) (hs.kids a ham) (ht.kids b hbm) with h | h | h
        · exact absurd h hne
        · exact .inr (.inl (.lex s t i a b hs.vr ht.vr hnm hlen h4 ha hb hti h))
        · exact .inr (.inr (.lex t s i b a ht.vr hs.vr hnm.symm hlen.symm h3 hb ha hti.symm h))
    · exact .inr (.inl (.top s t hs.vr ht.vr hr h4))
/-- every term is greater than its proper subterms -/
theorem Lpo.proper {c x : Tm} (hc : c.bare) : ∀ {pos : List Int}, pos ≠ [] → c.at pos = some x → Lpo rk c x := by
  induction c using Tm.ind generalizing x with
  | h c ih =>
    intro pos hp hx
    cases pos with
    | nil => exact absurd rfl hp
    | cons i l =>
      simp only [Tm.at] at hx
      cases hk : c.kid i with
      | none => rw [hk] at hx; cases hx
      | some u =>
        rw [hk] at hx
        have hu := Tm.kid_mem hk
        have hv : c.vr = false := by
          cases hv : c.vr with
          | false => rfl
          | true => rw [hc.vr0 hv] at hu; cases hu
        cases l with
        | nil => simp only [Tm.at, Option.some.injEq] at hx; subst hx; exact .arg c u hv hu
        | cons j l => exact .sub c x u hv hu (ih u hu (hc.kids u hu) (by simp) hx)
/-- closed under contexts -/
theorem Lpo.put {s t : Tm} (h : Lpo rk s t) {c : Tm} (hc : c.bare) : ∀ {pos : List Int} {x : Tm}, c.at pos = some x → Lpo rk (c.put pos s) (c.put pos t) := by
  induction c using Tm.ind with
  | h c ih =>
    intro pos x hx
    cases pos with
    | nil => simpa [Tm.put] using h
    | cons i l =>
      simp only [Tm.at] at hx
      cases hk : c.kid i with
      | none => rw [hk] at hx; cases hx
      | some u =>
        rw [hk] at hx
        have hu := Tm.kid_mem hk
        have hv : c.vr = false := by
          cases hv : c.vr with
          | false => rfl
          | true => rw [hc.vr0 hv] at hu; cases hu
        have h1 := ih u hu (hc.kids u hu) hx
        have hk' := hk
        unfold Tm.kid at hk'
        split at hk'
        · simp only [Tm.put, hk]
          have hlt : i.toNat < c.ts.length := (List.getElem?_eq_some_iff.1 hk').1
          have e : ∀ v : Tm, c.ts.set i.toNat v = c.ts.take i.toNat ++ v :: c.ts.drop (i.toNat + 1) := fun v => List.set_eq_take_append_cons_drop .. |>.trans (by rw [if_pos hlt])
          rw [e, e, hv]
          exact h1.context c.nm _ _
        · cases hk'
end
end Go.Proofs.Ytnomppdmhgefiaa
