/- Packed: Inv. -/
import Derived.Deep.RegionHeld3
import Derived.Orders
import Derived.RegionTactic
import Derived.WalkKit
import Derived.Lib.Hide
/- A drawn region walked by one condition: each operation is looked at once, whatever the order. No program stands here. -/
namespace Go.Proofs.YtamddagmlanijaaGreat
open Go.RowKit

/-- those that have come up, and i -/
def flag (f : Nat → Bool) (i : Nat) : Nat → Bool := fun k => k == i || f k
theorem count_set {L : Array Bool} {i : Nat} (h : L.getD i true = false) : ((L.setIfInBounds i true).toList.filter (fun b => !b)).length + 1 = (L.toList.filter (fun b => !b)).length := by
  have hi : i < L.size := by
    rcases Nat.lt_or_ge i L.size with h' | h'
    · exact h'
    · rw [Array.getD, dif_neg (by omega)] at h; cases h
  have hv : L.toList[i]? = some false := by
    rw [Array.getD, dif_pos hi] at h
    rw [Array.getElem?_toList, Array.getElem?_eq_getElem hi]
    exact congrArg some h
  rw [Array.toList_setIfInBounds]
  revert hv
  clear h hi
  generalize L.toList = l
  induction l generalizing i with
  | nil => intro hv; simp at hv
  | cons b l ih =>
    intro hv
    cases i with
    | zero => simp at hv; subst hv; simp
    | succ i =>
      have := ih (i := i) (by simpa using hv)
      cases b <;> simp at this ⊢ <;> omega
theorem wpAny_inv {P : Program} {ops : Array Oper} {Q : Exit → Act → World → Prop} (Inv : (Nat → Bool) → Act → World → Prop)
    (hacy : (List.range ops.size).all (fun i => match ops[i]? with | some o => o.after.all (fun e => !Region.binds .any e || decide (e.on < i)) | none => true) = true)
    (hend : ∀ f a w, Inv f a w → (∀ i, i < ops.size → f i = true) → Q .normal a w)
    (hstep : ∀ i o, ops[i]? = some o → ∀ f a w, Inv f a w → f i = false → (∀ e ∈ o.after, Region.binds .any e = true → f e.on = true) →
      ∀ K' : Act → World → Prop, Shut (∀ a' w', Inv (flag f i) a' w' → K' a' w') → if Region.wanted o (yielded ops a.tmps) = true then Oper.wp P o a w K' Q else K' (a.put o.dst undef) w) :
    ∀ (fuel : Nat) (L : Array Bool) (f : Nat → Bool) (a : Act) (w : World), L.size = ops.size → (∀ k, k < ops.size → L.getD k false = f k) → (L.toList.filter (fun b => !b)).length ≤ fuel → Inv f a w → wpAny P .any ops Q fuel L a w := by
  have get : ∀ (L : Array Bool) k, k < L.size → L.getD k true = L.getD k false := fun L k h => by rw [Array.getD, Array.getD, dif_pos h, dif_pos h]
  have full : ∀ (L : Array Bool) (f : Nat → Bool), L.size = ops.size → (∀ k, k < ops.size → L.getD k false = f k) → Region.ready .any ops L = [] → ∀ i, i < ops.size → f i = true := by
    intro L f hL hf hr i
    induction i using Nat.strongRecOn with
    | ind i ih =>
      intro hi
      cases hfi : f i with
      | true => rfl
      | false =>
        exfalso
        have : i ∈ Region.ready .any ops L := by
          rw [mem_ready]
          refine ⟨by rw [get L i (by omega), hf i hi, hfi], ops[i], Array.getElem?_eq_getElem hi, fun e he hbd => ?_⟩
          have h1 := List.all_eq_true.1 hacy i (List.mem_range.2 hi)
          rw [Array.getElem?_eq_getElem hi] at h1
          have h2 := Array.all_eq_true_iff_forall_mem.1 h1 e he
          rw [hbd, Bool.not_true, Bool.false_or] at h2
          have h2 := of_decide_eq_true h2
          rw [hf e.on (by omega)]
          exact ih e.on h2 (by omega)
        rw [hr] at this; cases this
  intro fuel
  induction fuel with
  | zero =>
    intro L f a w hL hf hn hi
    have hr : Region.ready .any ops L = [] := by
      rw [List.eq_nil_iff_forall_not_mem]
      intro j hj
      have h0 := (mem_ready.1 hj).1
      have := count_set h0
      omega
    exact ⟨hr, hend f a w hi (full L f hL hf hr)⟩
  | succ fuel ih =>
    intro L f a w hL hf hn hi
    refine ⟨fun hr => hend f a w hi (full L f hL hf hr), fun j hj => ?_⟩
    obtain ⟨h0, o, ho, hd⟩ := mem_ready.1 hj
    have hjl : j < ops.size := (Array.getElem?_eq_some_iff.1 ho).1
    refine wpOp_step ho fun K' hK => ?_
    refine hstep j o ho f a w hi (by rw [← hf j hjl, ← get L j (by omega)]; exact h0) (fun e he hb => ?_) K' (fun a' w' h' => hK a' w' (ih _ (flag f j) a' w' (by simpa using hL) (fun k hk => ?_) (by have := count_set h0; omega) h'))
    · have h1 := List.all_eq_true.1 hacy j (List.mem_range.2 hjl)
      rw [ho] at h1
      have h2 := Array.all_eq_true_iff_forall_mem.1 h1 e he
      rw [hb, Bool.not_true, Bool.false_or] at h2
      have h2 := of_decide_eq_true h2
      rw [← hf e.on (by omega)]
      exact hd e he hb
    · unfold flag
      by_cases e : k = j
      · subst e
        rw [beq_self_eq_true, Bool.true_or, Array.getD, dif_pos (by simp; omega)]
        simp
      · rw [getD_set_ne false (fun h => e h.symm), hf k hk]
        have : (k == j) = false := by rw [beq_eq_false_iff_ne]; exact e
        rw [this, Bool.false_or]
/-- the region -/
theorem wp_region_inv {P : Program} {ops : Array Oper} {Q : Exit → Act → World → Prop} {id : Nat} {a : Act} {w : World} (Inv : (Nat → Bool) → Act → World → Prop) (hm : P.follows .mixedOrders = true)
    (hacy : (List.range ops.size).all (fun i => match ops[i]? with | some o => o.after.all (fun e => !Region.binds .any e || decide (e.on < i)) | none => true) = true)
    (h0 : Inv (fun _ => false) a w.drew)
    (hend : ∀ f a w, Inv f a w → (∀ i, i < ops.size → f i = true) → Q .normal a w)
    (hstep : ∀ i o, ops[i]? = some o → ∀ f a w, Inv f a w → f i = false → (∀ e ∈ o.after, Region.binds .any e = true → f e.on = true) →
      ∀ K' : Act → World → Prop, Shut (∀ a' w', Inv (flag f i) a' w' → K' a' w') → if Region.wanted o (yielded ops a.tmps) = true then Oper.wp P o a w K' Q else K' (a.put o.dst undef) w) : (Code.region id ops true).wp P Q a w := by
  refine wp_region_any hm (wpAny_inv Inv hacy hend hstep ops.size _ (fun _ => false) a _ (by simp) (fun k hk => by simp [Array.getD, hk]) ?_ h0)
  rw [Array.toList_replicate]
  exact Nat.le_trans (List.length_filter_le _ _) (by simp)
def ptr (b : Nat) : Value := .pointer (some ⟨b, 0, none⟩)
theorem wp_region_invZ {P : Program} {ops : Array Oper} {Q : Exit → Act → World → Prop} {id : Nat} {a : Act} {w : World} (Inv : (Nat → Value) → (Nat → Bool) → Act → World → Prop) (hm : P.follows .mixedOrders = true)
    (hacy : (List.range ops.size).all (fun i => match ops[i]? with | some o => o.after.all (fun e => !Region.binds .any e || decide (e.on < i)) | none => true) = true)
    (h0 : Inv (fun k => a.tmps.getD k undef) (fun _ => false) a w.drew)
    (hend : ∀ z f a w, Inv z f a w → (∀ i, i < ops.size → f i = true) → Q .normal a w)
    (hstep : ∀ z i o, ops[i]? = some o → ∀ f a w, Inv z f a w → f i = false → (∀ e ∈ o.after, Region.binds .any e = true → f e.on = true) →
      ∀ K' : Act → World → Prop, Shut (∀ a' w', Inv z (flag f i) a' w' → K' a' w') → if Region.wanted o (yielded ops a.tmps) = true then Oper.wp P o a w K' Q else K' (a.put o.dst undef) w) : (Code.region id ops true).wp P Q a w :=
  wp_region_inv (Inv _) hm hacy h0 (hend _) (hstep _)
end Go.Proofs.YtamddagmlanijaaGreat
