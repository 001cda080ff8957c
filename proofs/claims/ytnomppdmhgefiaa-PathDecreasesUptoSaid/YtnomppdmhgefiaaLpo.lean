/- The lexicographic path order of terms: plain mathematics. No program stands here. -/
import Derived.Test.YtnomppdmhgefiaaVarP
namespace Go.Proofs.Ytnomppdmhgefiaa
open Go.RowKit

/-- s is greater than t; rk: the rank of a name -/
inductive Lpo (rk : ByteArray → Int) : Tm → Tm → Prop
  | arg (s t : Tm) : s.vr = false → t ∈ s.ts → Lpo rk s t
  | sub (s t a : Tm) : s.vr = false → a ∈ s.ts → Lpo rk a t → Lpo rk s t
  | top (s t : Tm) : s.vr = false → t.vr = false → rk t.nm < rk s.nm → (∀ b ∈ t.ts, Lpo rk s b) → Lpo rk s t
  | lex (s t : Tm) (i : Nat) (a b : Tm) : s.vr = false → t.vr = false → s.nm = t.nm → s.ts.length = t.ts.length → (∀ b ∈ t.ts, Lpo rk s b) → s.ts[i]? = some a → t.ts[i]? = some b → s.ts.take i = t.ts.take i → Lpo rk a b → Lpo rk s t
section
variable {rk : ByteArray → Int}
theorem Lpo.fun {s t : Tm} (h : Lpo rk s t) : s.vr = false := by cases h <;> assumption
theorem mem_size {t u : Tm} (h : u ∈ t.ts) : u.size < t.size := by rw [Tm.size_eq t]; have := Tm.size_mem h; omega
/-- the ways in which a term is greater, not by an argument -/
theorem Lpo.cases' {s t : Tm} (h : Lpo rk s t) : (∃ a ∈ s.ts, a = t ∨ Lpo rk a t) ∨ (t.vr = false ∧ (∀ b ∈ t.ts, Lpo rk s b) ∧ (rk t.nm < rk s.nm ∨ (s.nm = t.nm ∧ s.ts.length = t.ts.length ∧ ∃ i a b, s.ts[i]? = some a ∧ t.ts[i]? = some b ∧ s.ts.take i = t.ts.take i ∧ Lpo rk a b))) := by
  cases h with
  | arg _ _ _ h => exact .inl ⟨t, h, .inl rfl⟩
  | sub _ _ a _ h1 h2 => exact .inl ⟨a, h1, .inr h2⟩
  | top _ _ _ h1 h2 h3 => exact .inr ⟨h1, h3, .inl h2⟩
  | lex _ _ i a b _ h1 h2 h3 h4 h5 h6 h7 h8 => exact .inr ⟨h1, h4, .inr ⟨h2, h3, i, a, b, h5, h6, h7, h8⟩⟩
theorem Lpo.of' {s t : Tm} (hs : s.vr = false) (h : (∃ a ∈ s.ts, a = t ∨ Lpo rk a t) ∨ (t.vr = false ∧ (∀ b ∈ t.ts, Lpo rk s b) ∧ (rk t.nm < rk s.nm ∨ (s.nm = t.nm ∧ s.ts.length = t.ts.length ∧ ∃ i a b, s.ts[i]? = some a ∧ t.ts[i]? = some b ∧ s.ts.take i = t.ts.take i ∧ Lpo rk a b)))) : Lpo rk s t := by
  rcases h with ⟨a, ha, rfl | h⟩ | ⟨h1, h2, h3 | ⟨h3, h4, i, a, b, h5, h6, h7, h8⟩⟩
  · exact .arg s a hs ha
  · exact .sub s t a hs ha h
  · exact .top s t hs h1 h3 h2
  · exact .lex s t i a b hs h1 h3 h4 h2 h5 h6 h7 h8
theorem take_eq_of_lt {l r : List Tm} {i j : Nat} (h : l.take j = r.take j) (hi : i < j) : l[i]? = r[i]? := by
  have := congrArg (fun x : List Tm => x[i]?) h
  simpa [List.getElem?_take, hi] using this
theorem take_eq_le {l r : List Tm} {i j : Nat} (h : l.take j = r.take j) (hi : i ≤ j) : l.take i = r.take i := by
  have := congrArg (List.take i) h
  rwa [List.take_take, List.take_take, Nat.min_eq_left hi] at this
theorem Lpo.trans_n (n : Nat) : ∀ s t u : Tm, s.size + t.size + u.size ≤ n → Lpo rk s t → Lpo rk t u → Lpo rk s u := by
  induction n with
  | zero => intro s t u h; have := s.size_pos; omega
  | succ n ih =>
    intro s t u hn hst htu
    have hs := hst.fun
    rcases hst.cases' with ⟨a, ha, rfl | h⟩ | ⟨ht, hb, hc⟩
    · exact .sub s u a hs ha htu
    · have := mem_size ha
      exact .sub s u a hs ha (ih a t u (by omega) h htu)
    · rcases htu.cases' with ⟨b, hbm, rfl | h⟩ | ⟨hu, hd, he⟩
      · exact hb b hbm
      · have := mem_size hbm
        exact ih s b u (by omega) (hb b hbm) h
      · have hall : ∀ c ∈ u.ts, Lpo rk s c := fun c hcm => by
          have := mem_size hcm
          exact ih s t c (by omega) hst (hd c hcm)
        rcases hc with hc | ⟨hc1, hc2, i, a, b, ha, hb', hti, hab⟩
        · rcases he with he | ⟨he1, -⟩
          · exact .top s u hs hu (by omega) hall
          · exact .top s u hs hu (by rw [← he1]; exact hc) hall
        · rcases he with he | ⟨he1, he2, j, b2, c, hb2, hcm, htj, hbc⟩
          · exact .top s u hs hu (by rw [hc1]; exact he) hall
          · have hsu : s.nm = u.nm := hc1.trans he1
            have hlu : s.ts.length = u.ts.length := hc2.trans he2
            rcases Nat.lt_trichotomy i j with hij | hij | hij
            · refine .lex s u i a b hs hu hsu hlu hall ha ?_ (hti.trans (take_eq_le htj (Nat.le_of_lt hij))) hab
              rw [← take_eq_of_lt htj hij]; exact hb'
            · subst hij
              obtain rfl : b = b2 := by rw [hb'] at hb2; exact Option.some.inj hb2
              have h1 := mem_size (List.mem_of_getElem? ha)
              have h2 := mem_size (List.mem_of_getElem? hb')
              have h3 := mem_size (List.mem_of_getElem? hcm)
              exact .lex s u i a c hs hu hsu hlu hall ha hcm (hti.trans htj) (ih a b c (by omega) hab hbc)
            · refine .lex s u j b2 c hs hu hsu hlu hall ?_ hcm ((take_eq_le hti (Nat.le_of_lt hij)).trans htj) hbc
              rw [take_eq_of_lt hti hij]; exact hb2
theorem Lpo.trans {s t u : Tm} (h : Lpo rk s t) (k : Lpo rk t u) : Lpo rk s u := Lpo.trans_n _ s t u (Nat.le_refl _) h k
theorem Lpo.irrefl (s : Tm) : ¬ Lpo rk s s := by
  induction s using Tm.ind with
  | h s ih =>
    intro h
    have hs := h.fun
    rcases h.cases' with ⟨a, ha, rfl | h1⟩ | ⟨-, -, h1 | ⟨-, -, i, a, b, ha, hb, -, hab⟩⟩
    · have := mem_size ha; omega
    · exact ih a ha (h1.trans (.arg s a hs ha))
    · omega
    · obtain rfl : a = b := by rw [ha] at hb; exact Option.some.inj hb
      exact ih a (List.mem_of_getElem? ha) hab
theorem Lpo.asymm {s t : Tm} (h : Lpo rk s t) : ¬ Lpo rk t s := fun k => Lpo.irrefl s (h.trans k)
theorem Tm.ext' {s t : Tm} (h1 : s.nm = t.nm) (h2 : s.vr = t.vr) (h3 : s.ts = t.ts) : s = t := by
  cases s; cases t; simp only [Tm.nm, Tm.vr, Tm.ts] at h1 h2 h3; subst h1; subst h2; subst h3; rfl
end
end Go.Proofs.Ytnomppdmhgefiaa
