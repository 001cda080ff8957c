/- Plain terms, and what it says that a slice of the memory holds such terms. No program stands here. -/
import Derived.Below
namespace Go.Proofs.Ytnomppdmhgefiaa
open Go.RowKit

/-- A term: its name, whether it is a variable, its arguments. -/
inductive Tm where
  | mk (nm : ByteArray) (vr : Bool) (ts : List Tm)

namespace Tm
def nm : Tm → ByteArray | .mk n _ _ => n
def vr : Tm → Bool | .mk _ v _ => v
def ts : Tm → List Tm | .mk _ _ l => l

theorem ind {p : Tm → Prop} (h : ∀ t : Tm, (∀ u ∈ t.ts, p u) → p t) (t : Tm) : p t := by
  refine h t fun u hu => ind h u
termination_by SizeOf.sizeOf t
decreasing_by
  cases t with
  | mk n v l =>
    have := List.sizeOf_lt_of_mem hu
    simp [Tm.ts] at this ⊢
    omega

mutual
def size : Tm → Nat
  | .mk _ _ l => 1 + sizes l
def sizes : List Tm → Nat
  | [] => 0
  | t :: r => size t + sizes r
end
mutual
def bulk : Tm → Nat
  | .mk n _ l => 1 + n.size + bulks l
def bulks : List Tm → Nat
  | [] => 0
  | t :: r => bulk t + bulks r
end
mutual
def depth : Tm → Nat
  | .mk _ _ l => 1 + depths l
def depths : List Tm → Nat
  | [] => 0
  | t :: r => max (depth t) (depths r)
end

theorem size_eq (t : Tm) : t.size = 1 + sizes t.ts := by cases t; simp [size, ts]
theorem depth_eq (t : Tm) : t.depth = 1 + depths t.ts := by cases t; simp [depth, ts]
theorem bulk_eq (t : Tm) : t.bulk = 1 + t.nm.size + bulks t.ts := by cases t; simp [bulk, ts, nm]
theorem sizes_append (l r : List Tm) : sizes (l ++ r) = sizes l + sizes r := by
  induction l with
  | nil => simp [sizes]
  | cons t l ih => simp [sizes, ih]; omega
theorem bulks_append (l r : List Tm) : bulks (l ++ r) = bulks l + bulks r := by
  induction l with
  | nil => simp [bulks]
  | cons t l ih => simp [bulks, ih]; omega
theorem depths_append (l r : List Tm) : depths (l ++ r) = max (depths l) (depths r) := by
  induction l with
  | nil => simp [depths]
  | cons t l ih => simp [depths, ih] <;> omega
theorem length_sizes (l : List Tm) : l.length ≤ sizes l := by
  induction l with
  | nil => simp
  | cons t l ih => simp [sizes, size_eq]; omega
theorem sizes_bulks (l : List Tm) : (∀ u ∈ l, u.size ≤ u.bulk) → sizes l ≤ bulks l := by
  induction l with
  | nil => simp [sizes]
  | cons t l ih => intro h; have := h t (by simp); have := ih (fun u hu => h u (by simp [hu])); simp [sizes, bulks]; omega
theorem size_bulk (t : Tm) : t.size ≤ t.bulk := by
  induction t using ind with
  | h t ih => rw [size_eq, bulk_eq]; have := sizes_bulks _ ih; omega
theorem size_pos (t : Tm) : 1 ≤ t.size := by rw [size_eq]; omega
theorem depths_sizes (l : List Tm) : (∀ u ∈ l, u.depth ≤ u.size) → depths l ≤ sizes l := by
  induction l with
  | nil => simp [depths]
  | cons t l ih => intro h; have := h t (by simp); have := ih (fun u hu => h u (by simp [hu])); simp [sizes, depths]; omega
theorem depth_size (t : Tm) : t.depth ≤ t.size := by
  induction t using ind with
  | h t ih => rw [size_eq, depth_eq]; have := depths_sizes _ ih; omega
theorem bulk_mem {t : Tm} {l : List Tm} (h : t ∈ l) : t.bulk ≤ bulks l := by
  induction l with
  | nil => cases h
  | cons x l ih =>
    simp only [bulks]
    rcases List.mem_cons.1 h with rfl | h
    · omega
    · have := ih h; omega
theorem size_mem {t : Tm} {l : List Tm} (h : t ∈ l) : t.size ≤ sizes l := by
  induction l with
  | nil => cases h
  | cons x l ih =>
    simp only [sizes]
    rcases List.mem_cons.1 h with rfl | h
    · omega
    · have := ih h; omega
theorem sizes_take (l : List Tm) (k : Nat) : sizes (l.take k) ≤ sizes l := by
  have := sizes_append (l.take k) (l.drop k)
  rw [List.take_append_drop] at this
  omega
theorem depths_take (l : List Tm) (k : Nat) : depths (l.take k) ≤ depths l := by
  have := depths_append (l.take k) (l.drop k)
  rw [List.take_append_drop] at this
  omega
theorem take_snoc {l : List Tm} {k : Nat} {t : Tm} (h : l[k]? = some t) : l.take (k + 1) = l.take k ++ [t] := by
  rw [List.take_add_one, h]; rfl
end Tm

/-- The slice value s holds the terms l, in blocks below n₀ of the world W. -/
inductive SlIs (n₀ : Nat) (W : World) : List Tm → Value → Prop
  | nil0 : SlIs n₀ W [] (.slice none 0 0)
  | nil1 (a : Addr) (cap : Nat) : SlIs n₀ W [] (.slice (some a) 0 cap)
  | row (b o cap : Nat) (l : List Tm) (s : Nat → Value) : l ≠ [] → b < n₀ → l.length ≤ cap → 
      (∀ i t, l[i]? = some t → W.cell? ⟨b, o + i * 3, none⟩ = some (.string t.nm) ∧ W.cell? ⟨b, o + i * 3 + 1, none⟩ = some (.bool t.vr) ∧ W.cell? ⟨b, o + i * 3 + 2, none⟩ = some (s i)) →
      (∀ i t, l[i]? = some t → SlIs n₀ W t.ts (s i)) → (∀ i, i < l.length * 3 → W.frozen? ⟨b, o + i, none⟩ = false) → SlIs n₀ W l (.slice (some ⟨b, o, none⟩) l.length cap)

theorem SlIs.carry {n₀ n₁ : Nat} {A B : World} (h : Below n₀ A B) (hn : n₀ ≤ n₁) {l : List Tm} {s : Value} (hs : SlIs n₀ A l s) : SlIs n₁ B l s := by
  induction hs with
  | nil0 => exact .nil0
  | nil1 a cap => exact .nil1 a cap
  | row b o cap l s hl hb hc cells _ hf ih =>
    refine .row b o cap l s hl (by omega) hc (fun i t ht => ?_) ih (fun i hi => (h.frozen (p := ⟨b, _, none⟩) hb).trans (hf i hi))
    obtain ⟨h1, h2, h3⟩ := cells i t ht
    exact ⟨(h.cell (p := ⟨b, _, none⟩) hb).trans h1, (h.cell (p := ⟨b, _, none⟩) hb).trans h2, (h.cell (p := ⟨b, _, none⟩) hb).trans h3⟩

/-- its length -/
theorem SlIs.form {n₀ : Nat} {W : World} {l : List Tm} {s : Value} (h : SlIs n₀ W l s) : ∃ oa cap, s = .slice oa l.length cap ∧
    (l ≠ [] → ∃ b o, oa = some ⟨b, o, none⟩ ∧ b < n₀) := by
  cases h with
  | nil0 => exact ⟨_, _, rfl, fun h => absurd rfl h⟩
  | nil1 a cap => exact ⟨_, _, rfl, fun h => absurd rfl h⟩
  | row b o cap l s hl hb hc cells hk hf => exact ⟨_, _, rfl, fun _ => ⟨b, o, rfl, hb⟩⟩

end Go.Proofs.Ytnomppdmhgefiaa
