/- Packed: Tmw, Inv. -/
import Derived.Test.YtnomppdmhgefiaaGreatE11
import Derived.Test.YtnomppdmhgefiaaGreatE14
import Derived.Test.YtnomppdmhgefiaaGreatE23
import Derived.Test.YtnomppdmhgefiaaGreatE38
import Derived.WalkKit
import Derived.ProofKit
import Derived.OpenShut
import Derived.Handy
import Derived.Lib.Hide
import Derived.Test.YtnomppdmhgefiaaGreatE04
import Derived.Test.YtnomppdmhgefiaaGreatE10
import Derived.Deep.RegionHeld3
import Derived.Orders
import Derived.RegionTactic
/- Merged: Plc, Tmw. -/
/- Plain facts on places, puts and substitutions. -/
namespace Go.Proofs.YtnomppdmhgefiaaGreat
open Go.RowKit

theorem bulks_set6 {l : List Tm} {i : Nat} {x y : Tm} (h : l[i]? = some x) : Tm.bulks (l.set i y) + x.bulk = Tm.bulks l + y.bulk := by
  induction l generalizing i with
  | nil => simp at h
  | cons z l ih =>
    cases i with
    | zero => simp at h; subst h; simp [Tm.bulks]; omega
    | succ i => have := ih (i := i) (by simpa using h); simp [Tm.bulks]; omega
theorem Tm.put_bulk6 (t : Tm) (l : List Int) (u : Tm) : (t.put l u).bulk ≤ t.bulk + u.bulk := by
  induction l generalizing t with
  | nil => simp only [Tm.put]; omega
  | cons i l ih =>
    simp only [Tm.put]
    split
    · rename_i x hx
      have h1 := ih x
      unfold Tm.kid at hx
      split at hx
      · have h2 := bulks_set6 (y := x.put l u) hx
        have h3 := Tm.bulk_eq t
        rw [Tm.bulk_eq]; simp only [Tm.nm, Tm.ts] at h2 h3 ⊢; omega
      · cases hx
    · omega
theorem Tm.put_formed6 {t : Tm} (ht : t.formed) {u : Tm} (hu : u.formed) (l : List Int) : (t.put l u).formed := by
  induction l generalizing t with
  | nil => exact hu
  | cons i l ih =>
    simp only [Tm.put]
    split
    · rename_i x hx
      obtain ⟨h1, h2⟩ := (Tm.formed_iff t).1 ht
      refine (Tm.formed_iff _).2 ⟨?_, fun y hy => ?_⟩
      · simp only [Tm.nm, Tm.vr, Tm.ts, List.length_set] at h1 ⊢
        exact h1
      · rcases List.mem_or_eq_of_mem_set hy with h | rfl
        · exact h2 y h
        · exact ih (h2 x (Tm.kid_mem hx))
    · exact ht
theorem apB_formed6 {bl : List Bd} (h : ∀ p ∈ bl, p.2.formed) {t : Tm} (ht : t.formed) : (apB bl t).formed := by
  induction t using Tm.ind with
  | h t ih =>
    obtain ⟨h1, h2⟩ := (Tm.formed_iff t).1 ht
    cases hv : t.vr
    · rw [apB_fun bl hv, Tm.formed_iff]
      rw [hv] at h1
      refine ⟨by simpa [Tm.nm, Tm.vr, Tm.ts] using h1, fun u hu => ?_⟩
      obtain ⟨x, hx, rfl⟩ := List.mem_map.1 hu
      exact ih x hx (h2 x hx)
    · rw [apB_var bl hv]
      unfold imageOf
      cases hf : bl.find? (fun p => decide (p.1 = t.nm.data.toList)) with
      | some p => exact h p (List.mem_of_find?_eq_some hf)
      | none =>
        rw [Tm.formed_iff]
        rw [hv] at h1
        refine ⟨?_, fun u hu => by cases hu⟩
        simp only [Tm.nm, Tm.vr, Tm.ts, kb_key]
        simp only [nodeOk, if_true, Bool.and_eq_true] at h1 ⊢
        exact ⟨h1.1, rfl⟩
end Go.Proofs.YtnomppdmhgefiaaGreat
/- Terms and rows of terms between the operations of a drawn region. -/
namespace Go.Proofs.YtnomppdmhgefiaaGreat
open Go.RowKit

/-- a term as a value -/
def TmW (W : World) (t : Tm) (v : Value) : Prop := ∃ o n c, v = .agg #[.string t.nm, .bool t.vr, .slice o n c] ∧ SlIs W.heap.size W t.ts (.slice o n c)
/-- a new row of terms -/
def RowW (W : World) (l : List Tm) (v : Value) : Prop := ∃ b, v = .slice (some ⟨b, 0, none⟩) l.length l.length ∧ SlIs W.heap.size W l v
def zeroBx : Obj := .cells #[.string ⟨#[]⟩, .bool false, .slice none 0 0] 25 (0, 0)
/-- a formed term's arguments do not lie in a zero term's box -/
theorem SlIs.zbox {n c : Nat} {W : World} {l : List Tm} {s : Value} (h : SlIs n W l s) (hc : W.heap[c]? = some zeroBx) (hf : ∀ u ∈ l, u.formed) : SlP (fun b => b < n ∧ b ≠ c) W l s := by
  induction h with
  | nil0 => exact .nil0
  | nil1 a cap => exact .nil1 a cap
  | row b o cap l s hl hb hcap cells hk hfz ih =>
    refine .row b o cap l s hl ⟨hb, ?_⟩ hcap cells (fun i t ht => ih i t ht fun u hu => ((Tm.formed_iff t).1 (hf t (List.mem_of_getElem? ht))).2 u hu) hfz
    rintro rfl
    obtain ⟨t, ht⟩ : ∃ t, l[0]? = some t := by cases l with
      | nil => exact absurd rfl hl
      | cons t l => exact ⟨t, rfl⟩
    have h1 := (cells 0 t ht).1
    rw [cells_of' hc] at h1
    have hn : t.nm ≠ ⟨#[]⟩ := fun e => by
      have h2 := ((Tm.formed_iff t).1 (hf t (List.mem_of_getElem? ht))).1
      rw [e] at h2
      unfold nodeOk at h2
      split at h2
      · rw [show isName ⟨#[]⟩ false = false by decide] at h2; simp at h2
      · rw [show isName ⟨#[]⟩ true = false by decide] at h2; simp at h2
    rcases o with _ | _ | _ | o
    · simp only [Nat.zero_add, Nat.zero_mul, List.getElem?_toArray, List.getElem?_cons_zero, Option.some.injEq, Value.string.injEq] at h1; exact hn h1.symm
    · simp at h1
    · simp at h1
    · simp at h1
theorem TmW.keep {A W : World} {t : Tm} {v : Value} (h : TmW A t v) (hb : Below A.heap.size A W) : TmW W t v := by
  obtain ⟨o, n, c, rfl, h⟩ := h
  exact ⟨o, n, c, rfl, h.carry hb hb.size⟩
theorem RowW.keep {A W : World} {l : List Tm} {v : Value} (h : RowW A l v) (hb : Below A.heap.size A W) : RowW W l v := by
  obtain ⟨b, rfl, h⟩ := h
  exact ⟨b, rfl, h.carry hb hb.size⟩
theorem SlIs.setz {W : World} {l : List Tm} {v : Value} {p : Nat} (h : SlIs W.heap.size W l v) (hc : W.heap[p]? = some zeroBx) (hf : ∀ u ∈ l, u.formed) (x y z : Value) : SlIs (((W.setCell ⟨p, 0, none⟩ x).setCell ⟨p, 1, none⟩ y).setCell ⟨p, 2, none⟩ z).heap.size (((W.setCell ⟨p, 0, none⟩ x).setCell ⟨p, 1, none⟩ y).setCell ⟨p, 2, none⟩ z) l v := by
  refine ((h.zbox hc hf).carry (q := fun b => b < W.heap.size) fun b hb => ⟨heap_set3 _ _ _ _ _ _ hb.2, hb.1⟩).toIs fun b hb => ?_
  simp [World.setCell]; omega
theorem TmW.setz {W : World} {t : Tm} {v : Value} {p : Nat} (h : TmW W t v) (hc : W.heap[p]? = some zeroBx) (hf : ∀ u ∈ t.ts, u.formed) (x y z : Value) : TmW (((W.setCell ⟨p, 0, none⟩ x).setCell ⟨p, 1, none⟩ y).setCell ⟨p, 2, none⟩ z) t v := by
  obtain ⟨o, n, c, rfl, h⟩ := h
  exact ⟨o, n, c, rfl, h.setz hc hf x y z⟩
theorem RowW.setz {W : World} {l : List Tm} {v : Value} {p : Nat} (h : RowW W l v) (hc : W.heap[p]? = some zeroBx) (hf : ∀ u ∈ l, u.formed) (x y z : Value) : RowW (((W.setCell ⟨p, 0, none⟩ x).setCell ⟨p, 1, none⟩ y).setCell ⟨p, 2, none⟩ z) l v := by
  obtain ⟨b, rfl, h⟩ := h
  exact ⟨b, rfl, h.setz hc hf x y z⟩
/-- a row of one term, of two, just built -/
theorem RowW.one {W : World} {t : Tm} {s : Value} (h : SlIs W.heap.size W t.ts s) : RowW (W.alloc (.cells #[.string t.nm, .bool t.vr, s] 25)) [t] (.slice (some ⟨W.heap.size, 0, none⟩) 1 1) :=
  ⟨_, rfl, rowIs [(t, s)] (heap_new_at _ _ _ rfl) (by simp) (by
    intro c hc
    obtain rfl := List.mem_singleton.1 hc
    exact h.carry ((Below.refl _ _).alloc (Nat.le_refl _) _) (by simp))⟩
theorem RowW.two {W : World} {t u : Tm} {s r : Value} (h : SlIs W.heap.size W t.ts s) (k : SlIs W.heap.size W u.ts r) : RowW (W.alloc (.cells #[.string t.nm, .bool t.vr, s, .string u.nm, .bool u.vr, r] 25)) [t, u] (.slice (some ⟨W.heap.size, 0, none⟩) 2 2) :=
  ⟨_, rfl, rowIs [(t, s), (u, r)] (heap_new_at _ _ _ rfl) (by simp) (by
    intro c hc
    simp only [List.mem_cons, List.not_mem_nil, or_false] at hc
    rcases hc with rfl | rfl
    · exact h.carry ((Below.refl _ _).alloc (Nat.le_refl _) _) (by simp)
    · exact k.carry ((Below.refl _ _).alloc (Nat.le_refl _) _) (by simp))⟩
end Go.Proofs.YtnomppdmhgefiaaGreat
/- A drawn region walked by one condition: each operation is looked at once, whatever the order. No program stands here. -/
namespace Go.Proofs.YtnomppdmhgefiaaGreat
open Go.RowKit

/-- those that have come up, and i -/
def flag (f : Nat → Bool) (i : Nat) : Nat → Bool := fun k => k == i || f k
theorem count_set {L : Array Bool} {i : Nat} (h : L.getD i true = false) : ((L.setIfInBounds i true).toList.filter (fun b => !b)).length + 1 = (L.toList.filter (fun b => !b)).length := by
  have hi : i < L.size := by
    rcases Nat.lt_or_ge i L.size with h' | h'
    · exact h'
    · rw [Array.getD, dif_neg (by omega)] at h; cases h
  have hv : L.toList[i]? = some false := by
    rw [Array.getD, dif_pos hi] at h
    rw [Array.getElem?_toList, Array.getElem?_eq_getElem hi]
    exact congrArg some h
  rw [Array.toList_setIfInBounds]
  revert hv
  clear h hi
  generalize L.toList = l
  induction l generalizing i with
  | nil => intro hv; simp at hv
  | cons b l ih =>
    intro hv
    cases i with
    | zero => simp at hv; subst hv; simp
    | succ i =>
      have := ih (i := i) (by simpa using hv)
      cases b <;> simp at this ⊢ <;> omega
theorem wpAny_inv {P : Program} {ops : Array Oper} {Q : Exit → Act → World → Prop} (Inv : (Nat → Bool) → Act → World → Prop)
    (hacy : (List.range ops.size).all (fun i => match ops[i]? with | some o => o.after.all (fun e => !Region.binds .any e || decide (e.on < i)) | none => true) = true)
    (hend : ∀ f a w, Inv f a w → (∀ i, i < ops.size → f i = true) → Q .normal a w)
    (hstep : ∀ i o, ops[i]? = some o → ∀ f a w, Inv f a w → f i = false → (∀ e ∈ o.after, Region.binds .any e = true → f e.on = true) →
      ∀ K' : Act → World → Prop, Shut (∀ a' w', Inv (flag f i) a' w' → K' a' w') → if Region.wanted o (yielded ops a.tmps) = true then Oper.wp P o a w K' Q else K' (a.put o.dst undef) w) :
    ∀ (fuel : Nat) (L : Array Bool) (f : Nat → Bool) (a : Act) (w : World), L.size = ops.size → (∀ k, k < ops.size → L.getD k false = f k) → (L.toList.filter (fun b => !b)).length ≤ fuel → Inv f a w → wpAny P .any ops Q fuel L a w := by
  have get : ∀ (L : Array Bool) k, k < L.size → L.getD k true = L.getD k false := fun L k h => by rw [Array.getD, Array.getD, dif_pos h, dif_pos h]
  have full : ∀ (L : Array Bool) (f : Nat → Bool), L.size = ops.size → (∀ k, k < ops.size → L.getD k false = f k) → Region.ready .any ops L = [] → ∀ i, i < ops.size → f i = true := by
    intro L f hL hf hr i
    induction i using Nat.strongRecOn with
    | ind i ih =>
      intro hi
      cases hfi : f i with
      | true => rfl
      | false =>
        exfalso
        have : i ∈ Region.ready .any ops L := by
          rw [mem_ready]
          refine ⟨by rw [get L i (by omega), hf i hi, hfi], ops[i], Array.getElem?_eq_getElem hi, fun e he hbd => ?_⟩
          have h1 := List.all_eq_true.1 hacy i (List.mem_range.2 hi)
          rw [Array.getElem?_eq_getElem hi] at h1
          have h2 := Array.all_eq_true_iff_forall_mem.1 h1 e he
          rw [hbd, Bool.not_true, Bool.false_or] at h2
          have h2 := of_decide_eq_true h2
          rw [hf e.on (by omega)]
          exact ih e.on h2 (by omega)
        rw [hr] at this; cases this
  intro fuel
  induction fuel with
  | zero =>
    intro L f a w hL hf hn hi
    have hr : Region.ready .any ops L = [] := by
      rw [List.eq_nil_iff_forall_not_mem]
      intro j hj
      have h0 := (mem_ready.1 hj).1
      have := count_set h0
      omega
    exact ⟨hr, hend f a w hi (full L f hL hf hr)⟩
  | succ fuel ih =>
    intro L f a w hL hf hn hi
    refine ⟨fun hr => hend f a w hi (full L f hL hf hr), fun j hj => ?_⟩
    obtain ⟨h0, o, ho, hd⟩ := mem_ready.1 hj
    have hjl : j < ops.size := (Array.getElem?_eq_some_iff.1 ho).1
    refine wpOp_step ho fun K' hK => ?_
    refine hstep j o ho f a w hi (by rw [← hf j hjl, ← get L j (by omega)]; exact h0) (fun e he hb => ?_) K' (fun a' w' h' => hK a' w' (ih _ (flag f j) a' w' (by simpa using hL) (fun k hk => ?_) (by have := count_set h0; omega) h'))
    · have h1 := List.all_eq_true.1 hacy j (List.mem_range.2 hjl)
      rw [ho] at h1
      have h2 := Array.all_eq_true_iff_forall_mem.1 h1 e he
      rw [hb, Bool.not_true, Bool.false_or] at h2
      have h2 := of_decide_eq_true h2
      rw [← hf e.on (by omega)]
      exact hd e he hb
    · unfold flag
      by_cases e : k = j
      · subst e
        rw [beq_self_eq_true, Bool.true_or, Array.getD, dif_pos (by simp; omega)]
        simp
      · rw [getD_set_ne false (fun h => e h.symm), hf k hk]
        have : (k == j) = false := by rw [beq_eq_false_iff_ne]; exact e
        rw [this, Bool.false_or]
/-- the region -/
theorem wp_region_inv {P : Program} {ops : Array Oper} {Q : Exit → Act → World → Prop} {id : Nat} {a : Act} {w : World} (Inv : (Nat → Bool) → Act → World → Prop) (hm : P.follows .mixedOrders = true)
    (hacy : (List.range ops.size).all (fun i => match ops[i]? with | some o => o.after.all (fun e => !Region.binds .any e || decide (e.on < i)) | none => true) = true)
    (h0 : Inv (fun _ => false) a w.drew)
    (hend : ∀ f a w, Inv f a w → (∀ i, i < ops.size → f i = true) → Q .normal a w)
    (hstep : ∀ i o, ops[i]? = some o → ∀ f a w, Inv f a w → f i = false → (∀ e ∈ o.after, Region.binds .any e = true → f e.on = true) →
      ∀ K' : Act → World → Prop, Shut (∀ a' w', Inv (flag f i) a' w' → K' a' w') → if Region.wanted o (yielded ops a.tmps) = true then Oper.wp P o a w K' Q else K' (a.put o.dst undef) w) : (Code.region id ops true).wp P Q a w := by
  refine wp_region_any hm (wpAny_inv Inv hacy hend hstep ops.size _ (fun _ => false) a _ (by simp) (fun k hk => by simp [Array.getD, hk]) ?_ h0)
  rw [Array.toList_replicate]
  exact Nat.le_trans (List.length_filter_le _ _) (by simp)
def ptr (b : Nat) : Value := .pointer (some ⟨b, 0, none⟩)
theorem ptr_inj {a b : Nat} (h : ptr a = ptr b) : a = b := by unfold ptr at h; cases h; rfl
theorem wp_region_invE {P : Program} {ops : Array Oper} {Q : Exit → Act → World → Prop} {id : Nat} {a : Act} {w : World} (Inv : (Nat → Value) → (Nat → Bool) → Act → World → Prop) (hm : P.follows .mixedOrders = true)
    (hacy : (List.range ops.size).all (fun i => match ops[i]? with | some o => o.after.all (fun e => !Region.binds .any e || decide (e.on < i)) | none => true) = true)
    (h0 : Inv (fun k => a.tmps.getD k undef) (fun _ => false) a w.drew)
    (hend : ∀ z f a' w', Hid (z = fun k => a.tmps.getD k undef) → Inv z f a' w' → (∀ i, i < ops.size → f i = true) → Q .normal a' w')
    (hstep : ∀ z i o, ops[i]? = some o → ∀ f a w, Inv z f a w → f i = false → (∀ e ∈ o.after, Region.binds .any e = true → f e.on = true) →
      ∀ K' : Act → World → Prop, Shut (∀ a' w', Inv z (flag f i) a' w' → K' a' w') → if Region.wanted o (yielded ops a.tmps) = true then Oper.wp P o a w K' Q else K' (a.put o.dst undef) w) : (Code.region id ops true).wp P Q a w :=
  wp_region_inv (Inv _) hm hacy h0 (fun f a' w' => hend _ f a' w' (Lib.hid rfl)) (hstep _)
end Go.Proofs.YtnomppdmhgefiaaGreat
