/- clone, and the small makers of terms. -/
import Derived.WalkKit
import Derived.ProofKit
import Derived.OpenShut
import Derived.Handy
import Derived.Lib.Hide
import Derived.Test.YtdeaehkdhghfkaaDoorRep
import Derived.Test.YtdeaehkdhghfkaaDoorChk
namespace Go.Proofs.YtdeaehkdhghfkaaDoor
open Go.RowKit

/-- variables have no arguments -/
inductive Tm.bare : Tm → Prop
  | mk (t : Tm) : (t.vr = true → t.ts = []) → (∀ u ∈ t.ts, u.bare) → t.bare
theorem Tm.bare.kids {t : Tm} (h : t.bare) : ∀ u ∈ t.ts, u.bare := by cases h with | mk _ h1 h2 => exact h2
theorem Tm.bare.vr0 {t : Tm} (h : t.bare) : t.vr = true → t.ts = [] := by cases h with | mk _ h1 h2 => exact h1
theorem Tm.mem_nodesL {u : Tm} {l : List Tm} (h : u ∈ l) (d : Nat) : ∀ v ∈ u.nodes d, v ∈ Tm.nodesL d l := by
  induction l with
  | nil => cases h
  | cons x l ih =>
    intro v hv
    simp only [Tm.nodesL, List.mem_append]
    rcases List.mem_cons.1 h with rfl | h
    · exact .inl hv
    · exact .inr (ih h v hv)
theorem Tm.nodesL_mem {l : List Tm} {d : Nat} {v : View} (h : v ∈ Tm.nodesL d l) : ∃ u ∈ l, v ∈ u.nodes d := by
  induction l with
  | nil => simp [Tm.nodesL] at h
  | cons x l ih =>
    simp only [Tm.nodesL, List.mem_append] at h
    rcases h with h | h
    · exact ⟨x, by simp, h⟩
    · obtain ⟨u, hu, h⟩ := ih h
      exact ⟨u, by simp [hu], h⟩
/-- formed, node by node -/
theorem Tm.formed_iff (t : Tm) : t.formed ↔ nodeOk t.nm t.vr t.ts.length = true ∧ ∀ u ∈ t.ts, u.formed := by
  have sh : ∀ (u : Tm) (d : Nat), (∀ v ∈ u.nodes d, viewOk v = true) → ∀ d', ∀ v ∈ u.nodes d', viewOk v = true := by
    intro u
    induction u using Tm.ind with
    | h u ih =>
      intro d h d' v hv
      rw [Tm.nodes_eq] at hv h
      rcases List.mem_cons.1 hv with rfl | hv
      · have := h _ (List.mem_cons_self ..); exact this
      · obtain ⟨x, hx, hv⟩ := Tm.nodesL_mem hv
        exact ih x hx (d + 1) (fun v hv => h v (List.mem_cons_of_mem _ (Tm.mem_nodesL hx _ v hv))) _ v hv
  unfold Tm.formed
  rw [Tm.nodes_eq]
  constructor
  · intro h
    refine ⟨h _ (List.mem_cons_self ..), fun u hu => sh u 2 (fun v hv => h v (List.mem_cons_of_mem _ (Tm.mem_nodesL hu _ v hv))) 1⟩
  · rintro ⟨h1, h2⟩ v hv
    rcases List.mem_cons.1 hv with rfl | hv
    · exact h1
    · obtain ⟨x, hx, hv⟩ := Tm.nodesL_mem hv
      exact sh x 1 (h2 x hx) 2 v hv
theorem Tm.formed.bare {t : Tm} (h : t.formed) : t.bare := by
  induction t using Tm.ind with
  | h t ih =>
    obtain ⟨h1, h2⟩ := (Tm.formed_iff t).1 h
    refine .mk t (fun hv => ?_) fun u hu => ih u hu (h2 u hu)
    simp only [nodeOk, hv, if_true, Bool.and_eq_true, beq_iff_eq] at h1
    exact List.length_eq_zero_iff.1 h1.2

/-- a clone's image: the variable itself -/
def cloneImg : Unit → ByteArray → Tm × Unit := fun s nm => (.mk nm true [], s)
theorem reps_clone (l : List Tm) (h : ∀ u ∈ l, u.rep cloneImg () = (u, ())) : Tm.reps cloneImg () l = (l, ()) := by
  induction l with
  | nil => rfl
  | cons x l ih => simp only [Tm.reps, h x (by simp), ih fun u hu => h u (by simp [hu])]
theorem rep_clone {t : Tm} (h : t.bare) : t.rep cloneImg () = (t, ()) := by
  induction t using Tm.ind with
  | h t ih =>
    cases hv : t.vr
    · rw [Tm.rep_fun _ _ _ hv, reps_clone _ fun u hu => ih u hu (h.kids u hu)]
      cases t; simp only [Tm.vr] at hv; subst hv; rfl
    · rw [Tm.rep_var _ _ _ hv]
      have := h.vr0 hv
      cases t; simp only [Tm.vr] at hv; simp only [Tm.ts] at this; subst hv; subst this; rfl

theorem variable_any (nm : ByteArray) (w : World) : Calls Tryd.prog 76 #[.string nm] w fun e w' => e = .returned (tmv (.mk nm true []) (.slice none 0 0)) ∧ Below w.heap.size w w' := by
  go_enter Tryd.func76, Tryd.ntmps76
  go_wp2_with fail
  exact bodyPost_ret (v := tmv (.mk nm true []) (.slice none 0 0)) (by simp [results, Tryd.f76, go_sem, tmv, Tm.nm, Tm.vr]) rfl ⟨rfl, by go_grown⟩
theorem lvariable_any (nm : ByteArray) (w : World) : Calls Tryd.prog 34 #[.string nm] w fun e w' => e = .returned (tmv (.mk nm true []) (.slice none 0 0)) ∧ Below w.heap.size w w' := by
  go_enter Tryd.func34, Tryd.ntmps34
  go_wp2_with fail
  exact bodyPost_ret (v := tmv (.mk nm true []) (.slice none 0 0)) (by simp [results, Tryd.f34, go_sem, tmv, Tm.nm, Tm.vr]) rfl ⟨rfl, by go_grown⟩
theorem symbol_any (nm : ByteArray) (oa : Option Addr) (n cap : Nat) (w : World) : Calls Tryd.prog 69 #[.string nm, .slice oa n cap] w fun e w' => e = .returned (.agg #[.string nm, .bool false, .slice oa n cap]) ∧ Below w.heap.size w w' := by
  go_enter Tryd.func69, Tryd.ntmps69
  go_wp2_with fail
  exact bodyPost_ret (v := .agg #[.string nm, .bool false, .slice oa n cap]) (by simp [results, Tryd.f69, go_sem]) rfl ⟨rfl, by go_grown⟩

theorem box3 {W : World} {b : Nat} {x y z : Value} {e : TypeId} (h : W.heap[b]? = some (.cells #[x, y, z] e (0, 0))) :
    (W.cell? ⟨b, 0, none⟩ = some x ∧ W.cell? ⟨b, 1, none⟩ = some y ∧ W.cell? ⟨b, 2, none⟩ = some z) ∧ W.frozen? ⟨b, 0, none⟩ = false ∧ W.frozen? ⟨b, 1, none⟩ = false ∧ W.frozen? ⟨b, 2, none⟩ = false :=
  ⟨⟨by have := cells_of' h 0; simpa using this, by have := cells_of' h 1; simpa using this, by have := cells_of' h 2; simpa using this⟩, frozen_of' h _, frozen_of' h _, frozen_of' h _⟩
theorem box3_set {W : World} {b : Nat} {x y z : Value} {e : TypeId} (h : W.heap[b]? = some (.cells #[x, y, z] e (0, 0))) (x' y' z' : Value) :
    (((W.setCell ⟨b, 0, none⟩ x').setCell ⟨b, 1, none⟩ y').setCell ⟨b, 2, none⟩ z').heap[b]? = some (.cells #[x', y', z'] e (0, 0)) := by
  have := set3 h 0 x' y' z'; simpa using this
theorem below_set3 {B : Nat} {A W : World} (h : Below B A W) {b : Nat} (hb : B ≤ b) (x y z : Value) : Below B A (((W.setCell ⟨b, 0, none⟩ x).setCell ⟨b, 1, none⟩ y).setCell ⟨b, 2, none⟩ z) :=
  ((h.setCell (p := ⟨b, 0, none⟩) hb _).setCell (p := ⟨b, 1, none⟩) hb _).setCell (p := ⟨b, 2, none⟩) hb _
theorem heap_set3 (W : World) (b k : Nat) (x y z : Value) (h : k ≠ b) : (((W.setCell ⟨b, 0, none⟩ x).setCell ⟨b, 1, none⟩ y).setCell ⟨b, 2, none⟩ z).heap[k]? = W.heap[k]? := by
  rw [Below.heap_setCell _ _ _ _ h, Below.heap_setCell _ _ _ _ h, Below.heap_setCell _ _ _ _ h]

set_option maxRecDepth 100000 in
theorem clone_any (t : Tm) (s : Value) (w : World) (hs : SlIs w.heap.size w t.ts s) (hb : t.bulk ≤ 1048576) (ht : t.bare) :
    Calls Tryd.prog 85 #[tmv t s] w fun e w' => Fresh 24 w w' t e ∧ Below w.heap.size w w' := by
  obtain ⟨oa, cap, rfl, -⟩ := hs.form
  have HRP : Hid (∀ W : World, Below w.heap.size w W → Calls Tryd.prog 74 #[.agg #[.string t.nm, .bool t.vr, .slice oa t.ts.length cap], .func (.func 76) #[] #[]] W fun e W' => Fresh 24 W W' t e ∧ Below W.heap.size W W') := Lib.hid fun W hW => by
    have h := replace_any (σ := Unit) cloneImg 76 #[] Tryd.call76 W.heap.size W.heap.size (Nat.le_refl _) (fun _ _ => True) (fun _ _ _ _ _ => trivial) (fun _ => 0) t.size (fun _ _ => by omega)
      (Lib.hid fun s nm V _ _ _ _ => (variable_any nm V).mono (by
        rintro e w' ⟨rfl, hbw⟩
        exact ⟨⟨_, _, rfl, .nil, by simp, by simp⟩, trivial, Fr.of_below hbw⟩)) t () _ W (by omega) hb (hs.carry hW (hW.size)) (Nat.le_refl _) trivial
    rw [rep_clone ht] at h
    exact h.mono fun e w' hh => ⟨hh.1, hh.2.2.all⟩
  have HBB := Lib.hid hb
  clear hb
  go_enter Tryd.func85, Tryd.ntmps85
  rw [show tmv t (.slice oa t.ts.length cap) = .agg #[.string t.nm, .bool t.vr, .slice oa t.ts.length cap] from rfl]
  go_wp2_with (go_at_call 74; refine (HRP.out _ (by go_grown)).mono ?_; rintro e w1 ⟨⟨sl, fp, rfl, ho, hn, hf⟩, hb1⟩; obtain ⟨oa1, n1, c1, rfl⟩ := ho.form; dsimp only [tmv]; have hr := (hb1.block (w.heap.size + 1) (by simp)).trans (heap_new_at _ _ _ (by simp)); obtain ⟨⟨r0, r1, r2⟩, f0, f1, f2⟩ := box3 hr; have HR := Lib.hid hr; have HO := Lib.hid ho; have HN := Lib.hid hn; have HF := Lib.hid hf; have HB1 := Lib.hid hb1; clear hr ho hn hf hb1)
  have hq := box3_set HR.out (.string t.nm) (.bool t.vr) (.slice oa1 n1 c1)
  obtain ⟨⟨q0, q1, q2⟩, -⟩ := box3 hq
  refine bodyPost_ret (v := tmv t (.slice oa1 n1 c1)) (by simp [results, Tryd.f85, go_sem, q0, q1, q2, tmv]) rfl ⟨⟨_, fp, rfl, ?_, HN.out, ?_⟩, ?_⟩
  · exact HO.out.carry fun k hk => heap_set3 _ _ _ _ _ _ (by have := HF.out k hk; simp at this; omega)
  · intro b hb; have := HF.out b hb; simp at this; omega
  · exact below_set3 ((show Below w.heap.size w _ from (by go_grown : Below w.heap.size w ((w.alloc (.cells #[.string t.nm, .bool t.vr, .slice oa t.ts.length cap] 24)).alloc (.cells #[.string ⟨#[]⟩, .bool false, .slice none 0 0] 24)))).trans (HB1.out.mono (by simp; omega))) (by omega) _ _ _
end Go.Proofs.YtdeaehkdhghfkaaDoor
