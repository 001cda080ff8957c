/- Precedences: what is said of them, and how they lie. No program stands here. -/
import Derived.Test.YtnomppdmhgefiaaFst2
import Derived.Test.YtnomppdmhgefiaaSz
namespace Go.Proofs.Ytnomppdmhgefiaa
open Go.RowKit

/-- an entry: name, rank, weight -/
abbrev Rk := Key × Int × Int
/-- the slice value v holds these entries, in blocks below n -/
def RksIs (n : Nat) (W : World) (l : List Rk) (v : Value) : Prop :=
  ∃ oa cap, v = .slice oa l.length cap ∧ l.length ≤ cap ∧
    (l ≠ [] → ∃ b o, oa = some ⟨b, o, none⟩ ∧ b < n ∧ ∀ i p, l[i]? = some p → W.cell? ⟨b, o + i * 3, none⟩ = some (.string (kb p.1)) ∧ W.cell? ⟨b, o + i * 3 + 1, none⟩ = some (.int .i64 p.2.1) ∧ W.cell? ⟨b, o + i * 3 + 2, none⟩ = some (.int .i64 p.2.2))
theorem RksIs.carry {n m : Nat} {A B : World} {l : List Rk} {v : Value} (h : RksIs n A l v) (hb : Below n A B) (hn : n ≤ m) : RksIs m B l v := by
  obtain ⟨oa, cap, rfl, h1, h3⟩ := h
  refine ⟨oa, cap, rfl, h1, fun hne => ?_⟩
  obtain ⟨b, o, rfl, hbn, hc⟩ := h3 hne
  refine ⟨b, o, rfl, by omega, fun i p hk => ?_⟩
  obtain ⟨c0, c1, c2⟩ := hc i p hk
  exact ⟨(hb.cell (p := ⟨b, _, none⟩) hbn).trans c0, (hb.cell (p := ⟨b, _, none⟩) hbn).trans c1, (hb.cell (p := ⟨b, _, none⟩) hbn).trans c2⟩

/-- the names are those of symbols, and increase -/
def NmsOk (l : List Rk) : Prop := ∀ i p, l[i]? = some p → isName (kb p.1) true = true ∧ ∀ q, 0 < i → l[i - 1]? = some q → q.1 < p.1
/-- the ranks fit, and there are no weights -/
def RksOk (l : List Rk) : Prop := ∀ p ∈ l, 0 ≤ p.2.1 ∧ p.2.1 ≤ 1000 ∧ p.2.2 = 0
open Classical in
/-- the error of the names of a precedence -/
noncomputable def listC (l : List Rk) : Int := if 256 < l.length then 3 else if NmsOk l then 0 else 4
open Classical in
/-- the error of a precedence -/
noncomputable def precC (l : List Rk) : Int := if 256 < l.length then 3 else if ¬ NmsOk l then 4 else if RksOk l then 0 else 2
structure PrecOk (l : List Rk) : Prop where
  len : l.length ≤ 256
  nms : NmsOk l
  rks : RksOk l
theorem precC_zero {l : List Rk} : precC l = 0 ↔ PrecOk l := by
  unfold precC
  constructor
  · intro h
    split at h
    · omega
    · split at h
      · omega
      · split at h
        · exact ⟨by omega, by rename_i h2 _; exact Classical.not_not.1 h2, by assumption⟩
        · omega
  · intro h
    rw [if_neg (by have := h.len; omega), if_neg (fun e => e h.nms), if_pos h.rks]
theorem precC_nonneg (l : List Rk) : 0 ≤ precC l ∧ precC l ≤ 4 := by
  unfold precC; split
  · omega
  · split
    · omega
    · split <;> omega
theorem listC_nonneg (l : List Rk) : 0 ≤ listC l ∧ listC l ≤ 4 := by
  unfold listC; split
  · omega
  · split <;> omega
/-- names increase from any to any later -/
theorem NmsOk.lt {l : List Rk} (h : NmsOk l) {i j : Nat} {p q : Rk} (hij : i < j) (hp : l[i]? = some p) (hq : l[j]? = some q) : p.1 < q.1 := by
  induction j generalizing q with
  | zero => omega
  | succ j ih =>
    have hj := (List.getElem?_eq_some_iff.1 hq).1
    have hm : l[j]? = some l[j] := List.getElem?_eq_getElem (by omega)
    have h1 := (h (j + 1) q hq).2 l[j] (by omega) hm
    rcases Nat.lt_or_ge i j with e | e
    · exact List.lt_trans (ih e hm) h1
    · obtain rfl : i = j := by omega
      rw [hm] at hp; cases hp; exact h1
/-- the entry of a name -/
def entryOf (l : List Rk) (k : Key) : Rk := match l.find? (fun p => decide (p.1 = k)) with
  | some p => p
  | none => (k, 0, 0)
/-- the rank of a name -/
def rkOf (l : List Rk) (k : Key) : Int := (entryOf l k).2.1
/-- the rank of a name as it lies -/
def rkB (l : List Rk) (b : ByteArray) : Int := rkOf l b.data.toList
theorem entryOf_hit {l : List Rk} {k : Key} {j : Nat} {p : Rk} (h : ∀ q ∈ l.take j, q.1 ≠ k) (hp : l[j]? = some p) (hk : p.1 = k) : entryOf l k = p := by
  have hlt := (List.getElem?_eq_some_iff.1 hp).1
  have e : l = l.take j ++ p :: l.drop (j + 1) := by
    have h1 := List.take_append_drop j l
    rw [List.drop_eq_getElem_cons hlt] at h1
    have h2 := (List.getElem?_eq_some_iff.1 hp).2
    rw [h2] at h1
    exact h1.symm
  unfold entryOf
  rw [e, List.find?_append, List.find?_eq_none.2 (fun q hq => by simpa using h q hq)]
  simp [hk]
theorem entryOf_miss {l : List Rk} {k : Key} (h : ∀ q ∈ l, q.1 ≠ k) : entryOf l k = (k, 0, 0) := by
  unfold entryOf
  rw [List.find?_eq_none.2 (fun q hq => by simpa using h q hq)]
/-- what the search by halves finds -/
theorem rkOf_at {l : List Rk} (h : NmsOk l) {k : Key} {i : Nat} {p : Rk} (hp : l[i]? = some p) (hk : p.1 = k) : rkOf l k = p.2.1 := by
  unfold rkOf
  rw [entryOf_hit (j := i) (fun q hq e => ?_) hp hk]
  obtain ⟨j, hj⟩ := List.getElem?_of_mem hq
  rw [List.getElem?_take] at hj
  split at hj
  · rename_i hji
    have := h.lt hji hj hp
    rw [e, hk] at this
    exact absurd this (List.lt_irrefl _)
  · cases hj
theorem rkOf_no {l : List Rk} {k : Key} {i : Nat} (h : NmsOk l) (hlo : ∀ j p, j < i → l[j]? = some p → p.1 < k) (hhi : ∀ p, l[i]? = some p → ¬ p.1 < k ∧ p.1 ≠ k) : rkOf l k = 0 := by
  unfold rkOf
  rw [entryOf_miss (fun q hq e => ?_)]
  obtain ⟨j, hj⟩ := List.getElem?_of_mem hq
  rcases Nat.lt_trichotomy j i with hji | rfl | hji
  · have := hlo j q hji hj
    rw [e] at this
    exact absurd this (List.lt_irrefl _)
  · exact (hhi q hj).2 e
  · have hjl := (List.getElem?_eq_some_iff.1 hj).1
    have hm : l[i]? = some l[i] := List.getElem?_eq_getElem (by omega)
    have h1 := h.lt hji hm hj
    rw [e] at h1
    exact (hhi _ hm).1 h1
/-- the measure of a precedence -/
def rkBulk (l : List Rk) : Nat := l.foldr (fun p m => max (1 + p.1.length) m) l.length
theorem rkBulk_len (l : List Rk) : l.length ≤ rkBulk l := by
  unfold rkBulk
  generalize l.length = m
  induction l with
  | nil => exact Nat.le_refl _
  | cons p l ih => simp only [List.foldr_cons]; omega
theorem rkBulk_mem {l : List Rk} {p : Rk} (h : p ∈ l) : 1 + p.1.length ≤ rkBulk l := by
  unfold rkBulk
  generalize l.length = m
  induction l with
  | nil => cases h
  | cons q l ih =>
    simp only [List.foldr_cons]
    rcases List.mem_cons.1 h with rfl | h
    · omega
    · have := ih h; omega
theorem rkBulk_le {l : List Rk} {N : Nat} (h1 : l.length ≤ N) (h2 : ∀ p ∈ l, 1 + p.1.length ≤ N) : rkBulk l ≤ N := by
  unfold rkBulk
  revert h1
  generalize l.length = m
  intro h1
  induction l with
  | nil => exact h1
  | cons q l ih =>
    simp only [List.foldr_cons]
    have := ih fun p hp => h2 p (by simp [hp])
    have := h2 q (by simp)
    omega
end Go.Proofs.Ytnomppdmhgefiaa
