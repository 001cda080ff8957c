/- How the program compares two terms: plain mathematics. No program stands here. -/
import Derived.Test.YtdnkommcnkbeeaaLpo
namespace Go.Proofs.Ytdnkommcnkbeeaa
open Go.RowKit

open Classical in
/-- 1: equal; 2: greater; 0: neither -/
noncomputable def rel (rk : ByteArray → Int) (s t : Tm) : Int := if s = t then 1 else if Lpo rk s t then 2 else 0
open Classical in
/-- an argument is equal or greater -/
noncomputable def withinR (rk : ByteArray → Int) (l : List Tm) (t : Tm) : Int := if ∃ a ∈ l, rel rk a t ≠ 0 then 2 else 0
open Classical in
/-- greater than all arguments -/
noncomputable def aboveR (rk : ByteArray → Int) (s : Tm) (l : List Tm) : Int := if ∀ b ∈ l, rel rk s b = 2 then 2 else 0
section
variable {rk : ByteArray → Int}
theorem rel_self (s : Tm) : rel rk s s = 1 := by unfold rel; rw [if_pos rfl]
theorem rel_gt {s t : Tm} (h : Lpo rk s t) : rel rk s t = 2 := by
  unfold rel; rw [if_neg (fun e => by subst e; exact Lpo.irrefl _ h), if_pos h]
theorem rel_no {s t : Tm} (h : s ≠ t) (k : ¬ Lpo rk s t) : rel rk s t = 0 := by unfold rel; rw [if_neg h, if_neg k]
theorem rel_1 {s t : Tm} : rel rk s t = 1 ↔ s = t := by
  refine ⟨fun h => ?_, fun h => by subst h; exact rel_self _⟩
  unfold rel at h
  split at h
  · assumption
  · split at h <;> omega
theorem rel_2 {s t : Tm} : rel rk s t = 2 ↔ Lpo rk s t := by
  refine ⟨fun h => ?_, rel_gt⟩
  unfold rel at h
  split at h
  · omega
  · split at h
    · assumption
    · omega
theorem rel_0 {s t : Tm} : rel rk s t = 0 ↔ s ≠ t ∧ ¬ Lpo rk s t := by
  refine ⟨fun h => ⟨fun e => ?_, fun e => ?_⟩, fun h => rel_no h.1 h.2⟩
  · rw [rel_1.2 e] at h; omega
  · rw [rel_2.2 e] at h; omega
theorem rel_three (rk : ByteArray → Int) (s t : Tm) : rel rk s t = 0 ∨ rel rk s t = 1 ∨ rel rk s t = 2 := by
  unfold rel; split
  · exact .inr (.inl rfl)
  · split
    · exact .inr (.inr rfl)
    · exact .inl rfl
theorem rel_ne0 {s t : Tm} : rel rk s t ≠ 0 ↔ s = t ∨ Lpo rk s t := by
  rcases rel_three rk s t with h | h | h
  · have := rel_0.1 h; simp [h, this]
  · exact ⟨fun _ => .inl (rel_1.1 h), fun _ => by omega⟩
  · simp [h, rel_2.1 h]
theorem rel_vars {s t : Tm} (hs : s.bare) (ht : t.bare) (h1 : s.vr = true) (h2 : t.vr = true) (h3 : s.nm = t.nm) : rel rk s t = 1 :=
  rel_1.2 (Tm.ext' h3 (h1.trans h2.symm) ((hs.vr0 h1).trans (ht.vr0 h2).symm))
theorem rel_var {s t : Tm} (h1 : s.vr = true) (h : ¬ (t.vr = true ∧ s.nm = t.nm)) : rel rk s t = 0 :=
  rel_no (fun e => by subst e; exact h ⟨h1, rfl⟩) (fun e => by rw [e.fun] at h1; cases h1)
open Classical in
theorem withinR_eq (l : List Tm) (t : Tm) : withinR rk l t = if ∃ a ∈ l, a = t ∨ Lpo rk a t then 2 else 0 := by
  unfold withinR
  simp only [rel_ne0]
open Classical in
theorem aboveR_eq (s : Tm) (l : List Tm) : aboveR rk s l = if ∀ b ∈ l, Lpo rk s b then 2 else 0 := by
  unfold aboveR
  simp only [rel_2]
theorem rel_iff2 {s t : Tm} (hne : s ≠ t) {p : Prop} [Decidable p] (h : Lpo rk s t ↔ p) : rel rk s t = if p then 2 else 0 := by
  by_cases hp : p
  · rw [if_pos hp]; exact rel_gt (h.2 hp)
  · rw [if_neg hp]; exact rel_no hne (fun e => hp (h.1 e))
open Classical in
theorem rel_funvar {s t : Tm} (h1 : s.vr = false) (h2 : t.vr = true) : rel rk s t = withinR rk s.ts t := by
  rw [withinR_eq]
  have hne : s ≠ t := fun e => by rw [e, h2] at h1; cases h1
  refine rel_iff2 hne ⟨fun h => ?_, fun h => .of' h1 (.inl h)⟩
  rcases h.cases' with h | ⟨h, -⟩
  · exact h
  · rw [h2] at h; cases h
open Classical in
theorem rel_rank {s t : Tm} (h1 : s.vr = false) (h2 : t.vr = false) (h : rk t.nm < rk s.nm) : rel rk s t = aboveR rk s t.ts := by
  rw [aboveR_eq]
  have hne : s ≠ t := fun e => by rw [e] at h; omega
  exact rel_iff2 hne ⟨fun k b hb => k.trans (.arg t b h2 hb), fun k => .top s t h1 h2 h k⟩
open Classical in
theorem rel_other {s t : Tm} (h1 : s.vr = false) (h : ¬ rk t.nm < rk s.nm) (h3 : ¬ (s.nm = t.nm ∧ s.ts.length = t.ts.length)) : rel rk s t = withinR rk s.ts t := by
  rw [withinR_eq]
  have hne : s ≠ t := fun e => by rw [e] at h3; exact h3 ⟨rfl, rfl⟩
  refine rel_iff2 hne ⟨fun k => ?_, fun k => .of' h1 (.inl k)⟩
  rcases k.cases' with k | ⟨-, -, k | ⟨k1, k2, -⟩⟩
  · exact k
  · exact absurd k h
  · exact absurd ⟨k1, k2⟩ h3
open Classical in
/-- the first arguments that differ: greater -/
theorem rel_first2 {s t a b : Tm} {i : Nat} (h1 : s.vr = false) (h2 : t.vr = false) (hn : s.nm = t.nm) (hl : s.ts.length = t.ts.length) (hti : s.ts.take i = t.ts.take i) (ha : s.ts[i]? = some a) (hb : t.ts[i]? = some b) (h : rel rk a b = 2) : rel rk s t = aboveR rk s (t.ts.drop (i + 1)) := by
  have hab := rel_2.1 h
  rw [aboveR_eq]
  have hst : s ≠ t := fun e => by rw [e, hb] at ha; cases ha; exact Lpo.irrefl _ hab
  refine rel_iff2 hst ⟨fun k c hc => k.trans (.arg t c h2 (List.mem_of_mem_drop hc)), fun k => .lex s t i a b h1 h2 hn hl (fun c hc => ?_) ha hb hti hab⟩
  obtain ⟨j, hj⟩ := List.getElem?_of_mem hc
  rcases Nat.lt_trichotomy j i with hji | rfl | hji
  · refine .arg s c h1 (List.mem_of_getElem? (i := j) ?_)
    rw [take_eq_of_lt hti hji]; exact hj
  · rw [hb] at hj; cases hj
    exact .sub s _ a h1 (List.mem_of_getElem? ha) hab
  · refine k c (List.mem_of_getElem? (i := j - (i + 1)) ?_)
    rw [List.getElem?_drop, show i + 1 + (j - (i + 1)) = j by omega]; exact hj
open Classical in
/-- the first arguments that differ: not greater -/
theorem rel_first0 {s t a b : Tm} {i : Nat} (h1 : s.vr = false) (h2 : t.vr = false) (hr : ¬ rk t.nm < rk s.nm) (hti : s.ts.take i = t.ts.take i) (ha : s.ts[i]? = some a) (hb : t.ts[i]? = some b) (h : rel rk a b = 0) : rel rk s t = withinR rk (s.ts.drop (i + 1)) t := by
  obtain ⟨hne, hng⟩ := rel_0.1 h
  rw [withinR_eq]
  have hst : s ≠ t := fun e => by rw [e, hb] at ha; cases ha; exact hne rfl
  refine rel_iff2 hst ⟨fun k => ?_, fun ⟨c, hc, k⟩ => .of' h1 (.inl ⟨c, List.mem_of_mem_drop hc, k⟩)⟩
  rcases k.cases' with ⟨c, hc, k⟩ | ⟨-, k0, k | ⟨k1, k2, j, a2, b2, ha2, hb2, htj, k⟩⟩
  · obtain ⟨j, hj⟩ := List.getElem?_of_mem hc
    rcases Nat.lt_trichotomy j i with hji | rfl | hji
    · rw [take_eq_of_lt hti hji] at hj
      have htc : Lpo rk t c := .arg t c h2 (List.mem_of_getElem? hj)
      rcases k with rfl | k
      · exact absurd htc (Lpo.irrefl _)
      · exact absurd (k.trans htc) (Lpo.irrefl _)
    · rw [ha] at hj; cases hj
      have htb : Lpo rk t b := .arg t b h2 (List.mem_of_getElem? hb)
      rcases k with rfl | k
      · exact absurd htb hng
      · exact absurd (k.trans htb) hng
    · exact ⟨c, List.mem_of_getElem? (i := j - (i + 1)) (by rw [List.getElem?_drop, show i + 1 + (j - (i + 1)) = j by omega]; exact hj), k⟩
  · exact absurd k hr
  · rcases Nat.lt_trichotomy j i with hji | rfl | hji
    · rw [take_eq_of_lt hti hji, hb2] at ha2; cases ha2
      exact absurd k (Lpo.irrefl _)
    · rw [ha] at ha2; rw [hb] at hb2; cases ha2; cases hb2
      exact absurd k hng
    · have := take_eq_of_lt htj hji
      rw [ha, hb] at this; cases this
      exact absurd rfl hne
theorem rel_same {s t : Tm} (h : s.vr = t.vr) (hn : s.nm = t.nm) (ht : s.ts.take s.ts.length = t.ts.take s.ts.length) (hl : s.ts.length = t.ts.length) : rel rk s t = 1 := by
  rw [List.take_length, hl, List.take_length] at ht
  exact rel_1.2 (Tm.ext' hn h ht)
end
end Go.Proofs.Ytdnkommcnkbeeaa
