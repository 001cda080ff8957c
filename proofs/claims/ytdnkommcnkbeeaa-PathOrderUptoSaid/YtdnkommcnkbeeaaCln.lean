/- clone, and the small makers of terms. -/
import Derived.WalkKit
import Derived.ProofKit
import Derived.OpenShut
import Derived.Handy
import Derived.Lib.Hide
import Derived.Test.YtdnkommcnkbeeaaRep
import Derived.Test.YtdnkommcnkbeeaaChk
namespace Go.Proofs.Ytdnkommcnkbeeaa
open Go.RowKit

/-- variables have no arguments -/
inductive Tm.bare : Tm → Prop
  | mk (t : Tm) : (t.vr = true → t.ts = []) → (∀ u ∈ t.ts, u.bare) → t.bare
theorem Tm.bare.kids {t : Tm} (h : t.bare) : ∀ u ∈ t.ts, u.bare := by cases h with | mk _ h1 h2 => exact h2
theorem Tm.bare.vr0 {t : Tm} (h : t.bare) : t.vr = true → t.ts = [] := by cases h with | mk _ h1 h2 => exact h1
theorem Tm.mem_nodesL {u : Tm} {l : List Tm} (h : u ∈ l) (d : Nat) : ∀ v ∈ u.nodes d, v ∈ Tm.nodesL d l := by
  induction l with
  | nil => cases h
  | cons x l ih =>
    intro v hv
    simp only [Tm.nodesL, List.mem_append]
    rcases List.mem_cons.1 h with rfl | h
    · exact .inl hv
    · exact .inr (ih h v hv)
/-- formed, node by node -/
theorem Tm.formed_iff (t : Tm) : t.formed ↔ nodeOk t.nm t.vr t.ts.length = true ∧ ∀ u ∈ t.ts, u.formed := by
  have sh : ∀ (u : Tm) (d : Nat), (∀ v ∈ u.nodes d, viewOk v = true) → ∀ d', ∀ v ∈ u.nodes d', viewOk v = true := by
    intro u
    induction u using Tm.ind with
    | h u ih =>
      intro d h d' v hv
      rw [Tm.nodes_eq] at hv h
      rcases List.mem_cons.1 hv with rfl | hv
      · have := h _ (List.mem_cons_self ..); exact this
      · obtain ⟨x, hx, hv⟩ := Tm.nodesL_mem hv
        exact ih x hx (d + 1) (fun v hv => h v (List.mem_cons_of_mem _ (Tm.mem_nodesL hx _ v hv))) _ v hv
  unfold Tm.formed
  rw [Tm.nodes_eq]
  constructor
  · intro h
    refine ⟨h _ (List.mem_cons_self ..), fun u hu => sh u 2 (fun v hv => h v (List.mem_cons_of_mem _ (Tm.mem_nodesL hu _ v hv))) 1⟩
  · rintro ⟨h1, h2⟩ v hv
    rcases List.mem_cons.1 hv with rfl | hv
    · exact h1
    · obtain ⟨x, hx, hv⟩ := Tm.nodesL_mem hv
      exact sh x 1 (h2 x hx) 2 v hv
theorem Tm.formed.bare {t : Tm} (h : t.formed) : t.bare := by
  induction t using Tm.ind with
  | h t ih =>
    obtain ⟨h1, h2⟩ := (Tm.formed_iff t).1 h
    refine .mk t (fun hv => ?_) fun u hu => ih u hu (h2 u hu)
    simp only [nodeOk, hv, if_true, Bool.and_eq_true, beq_iff_eq] at h1
    exact List.length_eq_zero_iff.1 h1.2

/-- a clone's image: the variable itself -/
def cloneImg : Unit → ByteArray → Tm × Unit := fun s nm => (.mk nm true [], s)
theorem reps_clone (l : List Tm) (h : ∀ u ∈ l, u.rep cloneImg () = (u, ())) : Tm.reps cloneImg () l = (l, ()) := by
  induction l with
  | nil => rfl
  | cons x l ih => simp only [Tm.reps, h x (by simp), ih fun u hu => h u (by simp [hu])]
theorem rep_clone {t : Tm} (h : t.bare) : t.rep cloneImg () = (t, ()) := by
  induction t using Tm.ind with
  | h t ih =>
    cases hv : t.vr
    · rw [Tm.rep_fun _ _ _ hv, reps_clone _ fun u hu => ih u hu (h.kids u hu)]
      cases t; simp only [Tm.vr] at hv; subst hv; rfl
    · rw [Tm.rep_var _ _ _ hv]
      have := h.vr0 hv
      cases t; simp only [Tm.vr] at hv; simp only [Tm.ts] at this; subst hv; subst this; rfl

theorem lvariable_any (nm : ByteArray) (w : World) : Calls Try.prog 30 #[.string nm] w fun e w' => e = .returned (tmv (.mk nm true []) (.slice none 0 0)) ∧ Below w.heap.size w w' := by
  go_enter Try.func30, Try.ntmps30
  go_wp2_with fail
  exact bodyPost_ret (v := tmv (.mk nm true []) (.slice none 0 0)) (by simp [results, Try.f30, go_sem, tmv, Tm.nm, Tm.vr]) rfl ⟨rfl, by go_grown⟩
theorem symbol_any (nm : ByteArray) (oa : Option Addr) (n cap : Nat) (w : World) : Calls Try.prog 31 #[.string nm, .slice oa n cap] w fun e w' => e = .returned (.agg #[.string nm, .bool false, .slice oa n cap]) ∧ Below w.heap.size w w' := by
  go_enter Try.func31, Try.ntmps31
  go_wp2_with fail
  exact bodyPost_ret (v := .agg #[.string nm, .bool false, .slice oa n cap]) (by simp [results, Try.f31, go_sem]) rfl ⟨rfl, by go_grown⟩

theorem box3 {W : World} {b : Nat} {x y z : Value} {e : TypeId} (h : W.heap[b]? = some (.cells #[x, y, z] e (0, 0))) :
    (W.cell? ⟨b, 0, none⟩ = some x ∧ W.cell? ⟨b, 1, none⟩ = some y ∧ W.cell? ⟨b, 2, none⟩ = some z) ∧ W.frozen? ⟨b, 0, none⟩ = false ∧ W.frozen? ⟨b, 1, none⟩ = false ∧ W.frozen? ⟨b, 2, none⟩ = false :=
  ⟨⟨by have := cells_of' h 0; simpa using this, by have := cells_of' h 1; simpa using this, by have := cells_of' h 2; simpa using this⟩, frozen_of' h _, frozen_of' h _, frozen_of' h _⟩
theorem box3_set {W : World} {b : Nat} {x y z : Value} {e : TypeId} (h : W.heap[b]? = some (.cells #[x, y, z] e (0, 0))) (x' y' z' : Value) :
    (((W.setCell ⟨b, 0, none⟩ x').setCell ⟨b, 1, none⟩ y').setCell ⟨b, 2, none⟩ z').heap[b]? = some (.cells #[x', y', z'] e (0, 0)) := by
  have := set3 h 0 x' y' z'; simpa using this
theorem below_set3 {B : Nat} {A W : World} (h : Below B A W) {b : Nat} (hb : B ≤ b) (x y z : Value) : Below B A (((W.setCell ⟨b, 0, none⟩ x).setCell ⟨b, 1, none⟩ y).setCell ⟨b, 2, none⟩ z) :=
  ((h.setCell (p := ⟨b, 0, none⟩) hb _).setCell (p := ⟨b, 1, none⟩) hb _).setCell (p := ⟨b, 2, none⟩) hb _
theorem heap_set3 (W : World) (b k : Nat) (x y z : Value) (h : k ≠ b) : (((W.setCell ⟨b, 0, none⟩ x).setCell ⟨b, 1, none⟩ y).setCell ⟨b, 2, none⟩ z).heap[k]? = W.heap[k]? := by
  rw [Below.heap_setCell _ _ _ _ h, Below.heap_setCell _ _ _ _ h, Below.heap_setCell _ _ _ _ h]

end Go.Proofs.Ytdnkommcnkbeeaa
