/- Packed: Hij. -/
import Derived.Test.YtamddagmlanijaaGreatP22
/- A region that draws its order, within a round or not, whose last operation may turn what was read: S is not asked for behind the last. -/
namespace Go.Proofs.YtamddagmlanijaaGreat
open Go.RowKit

section
variable {F : Fence} {n : Nat} {P : Program} {ops : Array Oper} {Q : Exit → Act → World → Prop} {md : Region.Mode} {S : World → Prop}

/-- all operations are listed -/
def allIn (l : Array Bool) : Bool := l.toList.all id
/-- an operation that is not listed waits for number i -/
def waitsFor (md : Region.Mode) (ops : Array Oper) (l : Array Bool) (i : Nat) : Bool :=
  (List.range ops.size).any fun m => match ops[m]? with | some o => decide (m ≠ i) && (decide (l[m]? = some false) && o.after.toList.any fun e => Region.binds md e && e.on == i) | none => false
theorem waitsFor_spec {l : Array Bool} {i : Nat} (h : waitsFor md ops l i = true) : ∃ m o, ops[m]? = some o ∧ m ≠ i ∧ l[m]? = some false ∧ ∃ e ∈ o.after, Region.binds md e = true ∧ e.on = i := by
  obtain ⟨m, _, hm⟩ := List.any_eq_true.1 h
  split at hm
  · rename_i o ho
    simp only [Bool.and_eq_true, decide_eq_true_eq] at hm
    obtain ⟨h1, h2, h3⟩ := hm
    obtain ⟨e, he, h4⟩ := List.any_eq_true.1 h3
    simp only [Bool.and_eq_true, beq_iff_eq] at h4
    exact ⟨m, o, ho, h1, h2, e, by simpa using he, h4.1, h4.2⟩
  · cases hm

def wpHJ (F : Fence) (n : Nat) (P : Program) (md : Region.Mode) (ops : Array Oper) (Q : Exit → Act → World → Prop) (S : World → Prop) : Nat → Array Bool → Act → World → Prop
  | 0, l, a, w => Region.ready md ops l = [] ∧ Q .normal a w
  | k + 1, l, a, w => (Region.ready md ops l = [] → Q .normal a w) ∧ ∀ i ∈ Region.ready md ops l, wpOpIn F n P ops Q i (fun a' w' => (allIn (l.setIfInBounds i true) = true ∨ S w') ∧ wpHJ F n P md ops Q S k (l.setIfInBounds i true) a' w') a w

theorem wpHJ.any : ∀ (k : Nat) (l : Array Bool) (a : Act) (w : World), wpHJ F n P md ops Q S k l a w → wpAnyIn F n P md ops Q k l a w
  | 0, _, _, _, h => h
  | k + 1, _, _, _, h => ⟨h.1, fun i hi => wpOpIn_mono (fun a' w' h' => wpHJ.any k _ a' w' h'.2) (h.2 i hi)⟩

theorem wpIn_region_hj {id : Nat} {a : Act} {w : World} (hm : P.follows .mixedOrders = true) (hS : S w.drew)
    (h : S w.drew → wpHJ F n P .any ops Q S ops.size (Array.replicate ops.size false) a w.drew) : (Code.region id ops true).wpIn F n P Q a w :=
  wpIn_region_any hm (wpHJ.any _ _ _ _ (h hS))
theorem allIn_not {l : Array Bool} {m : Nat} (h : l[m]? = some false) : ¬ allIn l = true := fun hl => by
  have h1 : false ∈ l := Array.mem_of_getElem? h
  have := List.all_eq_true.1 hl false (by simpa using h1)
  cases this

theorem wpHJ_first {i : Nat} {oi : Oper} {v : Value} (hF : ∀ f, F.fn f) (hnd : noDefer ops = true) (hi : ops[i]? = some oi) (hsel : ∀ (j : Nat) (o : Oper) cs b, ops[j]? = some o → o.op ≠ .select cs b) (hQ : ∀ c a w, Q (.panic c) (a.put oi.dst v) w → Q (.panic c) a w) :
    ∀ (k : Nat) (l : Array Bool) (a : Act) (w : World), (∃ m o, ops[m]? = some o ∧ m ≠ i ∧ l[m]? = some false ∧ ∃ e ∈ o.after, Region.binds md e = true ∧ e.on = i) → (∀ j oj, ops[j]? = some oj → j ≠ i → l.getD j true = false → (∀ e ∈ oj.after, Region.binds md e = true → e.on ≠ i) → oi.apart ops oj = true) → i ∈ Region.ready md ops l → YieldsIf P ops S oi v a → S w →
      wpHJ F n P md ops Q S k (l.setIfInBounds i true) (a.put oi.dst v) w → wpHJ F n P md ops Q S (k + 1) l a w := by
  intro k
  induction k with
  | zero =>
    intro l a w _ _ hr hy hS H
    refine ⟨fun h => (by rw [h] at hr; cases hr), fun j hj => ?_⟩
    by_cases e : j = i
    · subst e; exact wpOpIn_yields hF hnd hi hy hS ⟨.inr hS, H⟩
    · have := ready_mono hj e
      rw [H.1] at this
      cases this
  | succ k ih =>
    intro l a w hwt hfree hr hy hS H
    refine ⟨fun h => (by rw [h] at hr; cases hr), fun j hj => ?_⟩
    by_cases e : j = i
    · subst e; exact wpOpIn_yields hF hnd hi hy hS ⟨.inr hS, H⟩
    · obtain ⟨hun, oj, hoj, hall⟩ := mem_ready.1 hj
      have hnot : ∀ e ∈ oj.after, Region.binds md e = true → e.on ≠ i := fun e he hb heq => by
        have h1 := hall e he hb
        have h0 := (mem_ready.1 hr).1
        rw [heq] at h1
        rcases Nat.lt_or_ge i l.size with h' | h'
        · simp [h'] at h0 h1; rw [h0] at h1; cases h1
        · simp [Array.getElem?_eq_none h'] at h1
      have hfree' : ∀ m om, ops[m]? = some om → m ≠ i → (l.setIfInBounds j true).getD m true = false → (∀ e ∈ om.after, Region.binds md e = true → e.on ≠ i) → oi.apart ops om = true := fun m om hm hmi hu hno => by
        refine hfree m om hm hmi ?_ hno
        by_cases hjm : j = m
        · subst hjm; exact hun
        · rwa [getD_set_ne true hjm] at hu
      obtain ⟨m, om, hm, hmi, hml, ea, hea, hbe, hon⟩ := hwt
      have hmj : m ≠ j := by
        rintro rfl
        rw [hm] at hoj; cases hoj
        exact hnot ea hea hbe hon
      have hml2 : (l.setIfInBounds j true)[m]? = some false := by rw [Array.getElem?_setIfInBounds_ne (Ne.symm hmj)]; exact hml
      have hml3 : ((l.setIfInBounds i true).setIfInBounds j true)[m]? = some false := by rw [Array.getElem?_setIfInBounds_ne (Ne.symm hmj), Array.getElem?_setIfInBounds_ne (Ne.symm hmi)]; exact hml
      refine wpOpIn_mono (fun a' w' h3 => ⟨.inr (h3.2.1.resolve_left (allIn_not hml3)), ih (l.setIfInBounds j true) a' w' ⟨m, om, hm, hmi, hml2, ea, hea, hbe, hon⟩ hfree' (ready_mono hr (Ne.symm e)) h3.1 (h3.2.1.resolve_left (allIn_not hml3)) ?_⟩)
        (wpOpIn_besides hF hnd hoj (hfree j oj hoj e hun hnot) (fun cs b => hsel i oi cs b hi) (fun cs b => hsel j oj cs b hoj) hQ hy (H.2 j (ready_mono hj e)))
      rw [Array.setIfInBounds_comm _ _ e]
      exact h3.2.2

/-- take operation i first -/
theorem wpHJ_take {i : Nat} {oi : Oper} {v : Value} {k : Nat} {l : Array Bool} {a : Act} {w : World} (hF : ∀ f, F.fn f) (hnd : noDefer ops = true) (hwt : waitsFor md ops l i = true) (hi : ops[i]? = some oi) (hs : Region.noSelect ops = true) (hf : Region.free md ops l i = true) (hr : (Region.ready md ops l).contains i = true)
    (hQ : ∀ c a w, Q (.panic c) (a.put oi.dst v) w → Q (.panic c) a w) (hy : YieldsIf P ops S oi v a) (hS : S w) (h : wpHJ F n P md ops Q S k (l.setIfInBounds i true) (a.put oi.dst v) w) : wpHJ F n P md ops Q S (k + 1) l a w :=
  wpHJ_first hF hnd hi (Region.noSelect_spec hs) hQ k l a w (waitsFor_spec hwt) (Region.free_spec hi hf) (by simpa using hr) hy hS h
theorem wpHJ_done {l : Array Bool} {a : Act} {w : World} (hr : Region.ready md ops l = []) (h : Q .normal a w) : ∀ k, wpHJ F n P md ops Q S k l a w
  | 0 => ⟨hr, h⟩
  | _ + 1 => ⟨fun _ => h, by rw [hr]; simp⟩
/-- the one operation that may come up -/
theorem wpHJ_one {i : Nat} {o : Oper} {k : Nat} {l : Array Bool} {a : Act} {w : World} (hF : ∀ f, F.fn f) (hnd : noDefer ops = true) (hr : Region.ready md ops l = [i]) (hi : ops[i]? = some o) (hw : Region.wanted o (yielded ops a.tmps) = true)
    (h : ∀ K' : Act → World → Prop, Hid (∀ a w, (allIn (l.setIfInBounds i true) = true ∨ S w) → wpHJ F n P md ops Q S k (l.setIfInBounds i true) a w → K' a w) → o.uponIn F n P a K' Q ((execOp a.eval o).run P w)) : wpHJ F n P md ops Q S (k + 1) l a w := by
  refine ⟨fun h0 => (by rw [hr] at h0; cases h0), fun j hj => ?_⟩
  rw [hr] at hj
  obtain rfl : j = i := by simpa using hj
  unfold wpOpIn
  simp only [hi, hw, if_true]
  refine ⟨fun f _ => hF f, ?_⟩
  rw [Oper.semAt_plain F _ _ (noDefer_spec hnd hi)]
  exact h _ (Lib.hid fun a w hS hK => ⟨hS, hK⟩)
end
end Go.Proofs.YtamddagmlanijaaGreat
