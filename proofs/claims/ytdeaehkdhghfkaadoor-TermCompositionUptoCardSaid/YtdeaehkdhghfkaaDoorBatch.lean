/- Several slices built in a drawn region, in whatever order. No program stands here. -/
import Derived.Deep.RegionHeld3
import Derived.Below
import Derived.WalkKit
namespace Go.Proofs.YtdeaehkdhghfkaaDoor
open Go.RowKit

def subs : List Nat → List (List Nat)
  | [] => [[]]
  | x :: l => subs l ++ (subs l).map (x :: ·)
theorem filter_subs (p : Nat → Bool) (l : List Nat) : l.filter p ∈ subs l := by
  induction l with
  | nil => simp [subs]
  | cons x l ih =>
    simp only [subs, List.mem_append, List.mem_map, List.filter_cons]
    split
    · exact .inr ⟨_, ih, rfl⟩
    · exact .inl ih
/-- those of X are listed too -/
def markd (listed : Array Bool) (X : List Nat) : Array Bool := Array.ofFn (n := listed.size) fun j => listed[j] || X.contains j.val
theorem markd_congr (listed : Array Bool) (X Y : List Nat) (h : ∀ j, X.contains j = Y.contains j) : markd listed X = markd listed Y := by
  unfold markd; congr 1; funext j; rw [h]
theorem markd_set (listed : Array Bool) (X : List Nat) (i : Nat) : (markd listed X).setIfInBounds i true = markd listed (i :: X) := by
  apply Array.ext
  · simp [markd]
  · intro j h1 h2
    rw [Array.getElem_setIfInBounds (by simpa using h1)]
    simp only [markd, Array.getElem_ofFn, List.contains_cons]
    split
    · rename_i e; subst e; simp
    · rename_i e
      have : (j == i) = false := by simp; omega
      rw [this, Bool.false_or]
def upd (v : Nat → Value) (i : Nat) (x : Value) : Nat → Value := fun j => if j = i then x else v j

/-- what a batch of slices leaves -/
structure Built (B X : List Nat) (len : Nat → Nat) (ob : Nat → Obj) (w₀ : World) (v : Nat → Value) (w : World) : Prop where
  below : Below w₀.heap.size w₀ w
  val : ∀ i ∈ B, X.contains i = true → ∃ b, v i = .slice (some ⟨b, 0, none⟩) (len i) (len i) ∧ w.heap[b]? = some (ob i)

theorem wpAnyH_batch {P : Program} {ops : Array Oper} {Q : Exit → Act → World → Prop} {S : World → Prop} {listed : Array Bool} (B : List Nat) (hBn : B.Nodup) (F : (Nat → Value) → Act) (len : Nat → Nat) (ob : Nat → Obj) (w₀ : World) (fuel : Nat)
    (hready : (subs B).all (fun X => X == B || (Region.ready .any ops (markd listed X) == B.filter (fun i => !X.contains i))) = true)
    (hop : ∀ i ∈ B, ∃ o, ops[i]? = some o ∧ ∀ v, Region.wanted o (yielded ops (F v).tmps) = true ∧ ∀ w (K : Act → World → Prop), K (F (upd v i (.slice (some ⟨w.heap.size, 0, none⟩) (len i) (len i)))) (w.alloc (ob i)) → Oper.wp P o (F v) w K Q)
    (hS : ∀ w, Below w₀.heap.size w₀ w → S w)
    (H : ∀ v w, Built B B len ob w₀ v w → wpAnyH P .any ops Q S fuel (markd listed B) (F v) w) :
    ∀ (n : Nat) (X : List Nat) (v : Nat → Value) (w : World), (B.filter (fun i => !X.contains i)).length = n → (∀ i, X.contains i = true → i ∈ B) → Built B X len ob w₀ v w → wpAnyH P .any ops Q S (fuel + n) (markd listed X) (F v) w := by
  intro n
  induction n with
  | zero =>
    intro X v w hn hX hb
    have hall : ∀ i, B.contains i = X.contains i := fun i => by
      have h0 := List.length_eq_zero_iff.1 hn
      rw [List.filter_eq_nil_iff] at h0
      cases hx : X.contains i with
      | true => simpa using hX i hx
      | false =>
        cases hbb : B.contains i with
        | false => rfl
        | true => have := h0 i (by simpa using hbb); rw [hx] at this; simp at this
    rw [← markd_congr listed B X hall]
    exact H v w ⟨hb.below, fun i hi _ => hb.val i hi (by rw [← hall]; simpa using hi)⟩
  | succ n ih =>
    intro X v w hn hX hb
    have hne : B.filter (fun i => !X.contains i) ≠ [] := by intro h; rw [h] at hn; cases hn
    -- X as a sublist
    have hXY : ∀ j, X.contains j = (B.filter (fun i => X.contains i)).contains j := fun j => by
      cases hx : X.contains j with
      | true =>
        have := hX j hx
        rw [eq_comm, List.contains_iff_mem, List.mem_filter]; exact ⟨this, hx⟩
      | false =>
        rw [eq_comm, Bool.eq_false_iff]
        intro h
        rw [ne_eq] at *
        rw [List.contains_iff_mem, List.mem_filter] at h
        rw [hx] at h; cases h.2
    have hr := List.all_eq_true.1 hready _ (filter_subs (fun i => X.contains i) B)
    rw [← markd_congr listed X _ hXY] at hr
    have hfil : B.filter (fun i => !(B.filter (fun i => X.contains i)).contains i) = B.filter (fun i => !X.contains i) := by
      congr 1; funext i; rw [← hXY]
    rw [hfil] at hr
    have hr' : Region.ready .any ops (markd listed X) = B.filter (fun i => !X.contains i) := by
      rcases Bool.or_eq_true_iff.1 hr with h | h
      · exfalso
        apply hne
        have h' : B.filter (fun i => X.contains i) = B := by simpa using h
        rw [List.filter_eq_nil_iff]
        intro i hi
        rw [← h', List.mem_filter] at hi
        simpa using hi.2
      · simpa using h
    refine wpAnyH_all hr' hne fun i hi => ?_
    rw [List.mem_filter] at hi
    obtain ⟨hiB, hiX⟩ := hi
    obtain ⟨o, ho, hv⟩ := hop i hiB
    obtain ⟨hw, hrun⟩ := hv v
    unfold wpOp
    rw [ho]
    simp only [hw, if_true]
    refine .inl (hrun w _ ?_)
    have hb' : Built B (i :: X) len ob w₀ (upd v i (.slice (some ⟨w.heap.size, 0, none⟩) (len i) (len i))) (w.alloc (ob i)) := by
      refine ⟨hb.below.alloc hb.below.size _, fun j hj hjX => ?_⟩
      by_cases e : j = i
      · subst e; exact ⟨_, by simp [upd], heap_alloc_new w _⟩
      · rw [List.contains_cons] at hjX
        have hj' : X.contains j = true := by
          rcases Bool.or_eq_true_iff.1 hjX with h | h
          · simp at h; exact absurd h e
          · exact h
        obtain ⟨b, h1, h2⟩ := hb.val j hj hj'
        exact ⟨b, by simp [upd, e, h1], (Below.heap_alloc _ _ _ (Array.getElem?_eq_some_iff.1 h2).1).trans h2⟩
    refine ⟨hS _ hb'.below, ?_⟩
    rw [markd_set]
    refine ih (i :: X) _ _ ?_ (fun j hj => ?_) hb'
    · have e : B.filter (fun j => !(i :: X).contains j) = (B.filter (fun j => !X.contains j)).erase i := by
        rw [List.Nodup.erase_eq_filter (hBn.filter _), List.filter_filter]
        congr 1; funext j
        rw [List.contains_cons, Bool.not_or, bne]
      rw [e, List.length_erase_of_mem (List.mem_filter.2 ⟨hiB, hiX⟩), hn]; rfl
    · rw [List.contains_cons] at hj
      rcases Bool.or_eq_true_iff.1 hj with h | h
      · simp at h; subst h; exact hiB
      · exact hX j h
theorem markd_nil (listed : Array Bool) : markd listed [] = listed := by
  apply Array.ext
  · simp [markd]
  · intro j h1 h2; simp [markd]
/-- the batch, from its beginning -/
theorem wpAnyH_batch0 {P : Program} {ops : Array Oper} {Q : Exit → Act → World → Prop} {S : World → Prop} {listed : Array Bool} {a : Act} {w : World} (B : List Nat) (hBn : B.Nodup) (F : (Nat → Value) → Act) (len : Nat → Nat) (ob : Nat → Obj) (fuel : Nat)
    (ha : a = F fun _ => undef)
    (hready : (subs B).all (fun X => X == B || (Region.ready .any ops (markd listed X) == B.filter (fun i => !X.contains i))) = true)
    (hop : ∀ i ∈ B, ∃ o, ops[i]? = some o ∧ ∀ v, Region.wanted o (yielded ops (F v).tmps) = true ∧ ∀ w (K : Act → World → Prop), K (F (upd v i (.slice (some ⟨w.heap.size, 0, none⟩) (len i) (len i)))) (w.alloc (ob i)) → Oper.wp P o (F v) w K Q)
    (hS : ∀ w', Below w.heap.size w w' → S w')
    (H : ∀ v w', Built B B len ob w v w' → wpAnyH P .any ops Q S fuel (markd listed B) (F v) w') :
    wpAnyH P .any ops Q S (fuel + B.length) listed a w := by
  have h := wpAnyH_batch B hBn F len ob w fuel hready hop hS H B.length [] (fun _ => undef) w (by simp) (fun i h => by simp at h) ⟨Below.refl _ _, fun i _ h => by simp at h⟩
  rw [markd_nil] at h
  rw [ha]
  exact h
/-- slot number i + sh is operation i's -/
def putAll (sh : Nat) (a : Act) (B : List Nat) (v : Nat → Value) : Act := B.foldl (fun a' i => a'.put (some (i + sh)) (v i)) a
theorem wpAnyH_batch1 {P : Program} {ops : Array Oper} {Q : Exit → Act → World → Prop} {S : World → Prop} {listed : Array Bool} {a : Act} {w : World} (B : List Nat) (hBn : B.Nodup) (sh : Nat) (len : Nat → Nat) (ob : Nat → Obj) (fuel total : Nat) (htot : total = fuel + B.length)
    (ha : a = putAll sh a B fun _ => undef)
    (hready : (subs B).all (fun X => X == B || (Region.ready .any ops (markd listed X) == B.filter (fun i => !X.contains i))) = true)
    (hop : ∀ i ∈ B, ∃ o, ops[i]? = some o ∧ ∀ v, Region.wanted o (yielded ops (putAll sh a B v).tmps) = true ∧ ∀ w (K : Act → World → Prop), K (putAll sh a B (upd v i (.slice (some ⟨w.heap.size, 0, none⟩) (len i) (len i)))) (w.alloc (ob i)) → Oper.wp P o (putAll sh a B v) w K Q)
    (hS : ∀ w', Below w.heap.size w w' → S w')
    (H : ∀ v w', Built B B len ob w v w' → wpAnyH P .any ops Q S fuel (markd listed B) (putAll sh a B v) w') :
    wpAnyH P .any ops Q S total listed a w := by
  rw [htot]
  exact wpAnyH_batch0 B hBn (putAll sh a B) len ob fuel ha hready hop hS H
end Go.Proofs.YtdeaehkdhghfkaaDoor
