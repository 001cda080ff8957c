/- replace: a term with its variables replaced by a function with a state, in memory of its own. -/
import Derived.WalkKit
import Derived.ProofKit
import Derived.OpenShut
import Derived.Handy
import Derived.Lib.Hide
import Derived.Deep.RegionHeld3
import Derived.Test.YtnomppdmhgefiaaSz
import Derived.Test.YtnomppdmhgefiaaOwn
namespace Go.Proofs.Ytnomppdmhgefiaa
open Go.RowKit

section
variable {σ : Type} (img : σ → ByteArray → Tm × σ)
mutual
def Tm.rep (s : σ) : Tm → Tm × σ
  | .mk nm true _ => img s nm
  | .mk nm false l => (.mk nm false (Tm.reps s l).1, (Tm.reps s l).2)
def Tm.reps (s : σ) : List Tm → List Tm × σ
  | [] => ([], s)
  | t :: r => ((Tm.rep s t).1 :: (Tm.reps (Tm.rep s t).2 r).1, (Tm.reps (Tm.rep s t).2 r).2)
end
theorem Tm.reps_snoc (s : σ) (l : List Tm) (t : Tm) : Tm.reps img s (l ++ [t]) = ((Tm.reps img s l).1 ++ [(Tm.rep img (Tm.reps img s l).2 t).1], (Tm.rep img (Tm.reps img s l).2 t).2) := by
  induction l generalizing s with
  | nil => simp [Tm.reps]
  | cons x l ih => simp [Tm.reps, ih]
theorem Tm.rep_var (s : σ) (t : Tm) (h : t.vr = true) : t.rep img s = img s t.nm := by cases t with | mk n v l => simp only [Tm.vr] at h; subst h; rfl
theorem Tm.rep_fun (s : σ) (t : Tm) (h : t.vr = false) : t.rep img s = (.mk t.nm false (Tm.reps img s t.ts).1, (Tm.reps img s t.ts).2) := by cases t with | mk n v l => simp only [Tm.vr] at h; subst h; rfl
theorem Tm.reps_length (s : σ) (l : List Tm) : (Tm.reps img s l).1.length = l.length := by
  induction l generalizing s with
  | nil => rfl
  | cons x l ih => simp [Tm.reps, ih]
theorem Tm.reps_count (c : σ → Nat) (l : List Tm) (h : ∀ u ∈ l, ∀ s, c (u.rep img s).2 ≤ c s + u.size) (s : σ) : c (Tm.reps img s l).2 ≤ c s + Tm.sizes l := by
  induction l generalizing s with
  | nil => simp [Tm.reps, Tm.sizes]
  | cons x l ih =>
    have h1 := h x (by simp) s
    have h2 := ih (fun u hu => h u (by simp [hu])) (x.rep img s).2
    simp only [Tm.reps, Tm.sizes]
    omega
theorem Tm.rep_count (c : σ → Nat) (hc : ∀ s nm, c (img s nm).2 ≤ c s + 1) (t : Tm) : ∀ s, c (t.rep img s).2 ≤ c s + t.size := by
  induction t using Tm.ind with
  | h t ih =>
    intro s
    have h0 := Tm.size_eq t
    cases hv : t.vr
    · rw [Tm.rep_fun img s t hv]
      have := Tm.reps_count img c t.ts ih s
      simp only; omega
    · rw [Tm.rep_var img s t hv]
      have := hc s t.nm
      omega
end

theorem infoTerm : (Try.prog.info? 26).map (fun i => (i.zero, i.size, i.bytes)) = some (some (.agg #[.string ⟨#[]⟩, .bool false, .slice none 0 0]), 3, 48) := by kernel_rfl

/-- the call's result: a term of its own -/
def Fresh (e : TypeId) (W W' : World) (t : Tm) (v : Ending) : Prop := ∃ sl fp, v = .returned (tmv t sl) ∧ SlOwn e W' t.ts sl fp ∧ fp.Nodup ∧ ∀ b ∈ fp, W.heap.size ≤ b

theorem set1 {W : World} {g : Nat} {cur : Array Value} {e : TypeId} {fr : Nat × Nat} (h : W.heap[g]? = some (.cells cur e fr)) (i : Nat) (a : Value) :
    (W.setCell ⟨g, i, none⟩ a).heap[g]? = some (.cells (cur.setIfInBounds i a) e fr) := by
  simp [World.setCell, Array.getElem?_modify, h]
theorem heap_new_at (W : World) (o : Obj) (b : Nat) (h : b = W.heap.size) : (W.alloc o).heap[b]? = some o := by subst h; exact World.alloc_heap_new W o
/-- the end of replace: the result's cells are written -/
theorem ret_fresh {σ : Type} {r : Tm × σ} {t2 : Tm} {st2 : σ} {n₀ m : Nat} {I : σ → World → Prop} {w w1 : World} {sl : Value} {fp : List Nat} {G : Prop}
    (hr : r = (t2, st2)) (hm : m ≤ w.heap.size) (hI : ∀ s A B, I s A → Below m A B → I s B) (hi : I st2 w1) (hfr : Fr n₀ m w w1)
    (hrb : w1.heap[w.heap.size + 1]? = some (.cells #[.string ⟨#[]⟩, .bool false, .slice none 0 0] 26 (0, 0)))
    (ho : SlOwn 26 w1 t2.ts sl fp) (hn : fp.Nodup) (hf : ∀ b ∈ fp, w.heap.size + 2 ≤ b)
    (hq : (((w1.setCell ⟨w.heap.size + 1, 0, none⟩ (.string t2.nm)).setCell ⟨w.heap.size + 1, 1, none⟩ (.bool t2.vr)).setCell ⟨w.heap.size + 1, 2, none⟩ sl).heap[w.heap.size + 1]? = some (.cells #[.string t2.nm, .bool t2.vr, sl] 26 (0, 0)) →
      (Fresh 26 w (((w1.setCell ⟨w.heap.size + 1, 0, none⟩ (.string t2.nm)).setCell ⟨w.heap.size + 1, 1, none⟩ (.bool t2.vr)).setCell ⟨w.heap.size + 1, 2, none⟩ sl) r.1 (.returned (tmv t2 sl)) ∧
        I r.2 (((w1.setCell ⟨w.heap.size + 1, 0, none⟩ (.string t2.nm)).setCell ⟨w.heap.size + 1, 1, none⟩ (.bool t2.vr)).setCell ⟨w.heap.size + 1, 2, none⟩ sl) ∧
        Fr n₀ m w (((w1.setCell ⟨w.heap.size + 1, 0, none⟩ (.string t2.nm)).setCell ⟨w.heap.size + 1, 1, none⟩ (.bool t2.vr)).setCell ⟨w.heap.size + 1, 2, none⟩ sl)) → G) : G := by
  subst hr
  have hq' := hq (by have := set3 hrb 0 (.string t2.nm) (.bool t2.vr) sl; simpa using this)
  refine hq' ⟨⟨sl, fp, rfl, ho.carry fun k hk => ?_, hn, fun b hb => by have := hf b hb; omega⟩, hI _ _ _ hi ?_, ?_⟩
  · have := hf k hk
    rw [Below.heap_setCell _ _ _ _ (by simp; omega), Below.heap_setCell _ _ _ _ (by simp; omega), Below.heap_setCell _ _ _ _ (by simp; omega)]
  · exact (((Below.refl m w1).setCell (p := ⟨w.heap.size + 1, 0, none⟩) (by simp; omega) _).setCell (p := ⟨w.heap.size + 1, 1, none⟩) (by simp; omega) _).setCell (p := ⟨w.heap.size + 1, 2, none⟩) (by simp; omega) _
  · exact ((hfr.setNew (p := ⟨w.heap.size + 1, 0, none⟩) (by simp) _).setNew (p := ⟨w.heap.size + 1, 1, none⟩) (by simp) _).setNew (p := ⟨w.heap.size + 1, 2, none⟩) (by simp) _

/-- replace, k arguments being done: W is the world, w the world at the call -/
structure RepSt {σ : Type} (img : σ → ByteArray → Tm × σ) (I : σ → World → Prop) (n₀ m : Nat) (w : World) (nm : ByteArray) (l : List Tm) (st : σ) (k : Nat) (W : World) (ch : List Child) (sg : σ) (cur : Array Value) (rest : List Value) : Prop where
  reps : Tm.reps img st (l.take k) = (ch.map (·.1), sg)
  inv : I sg W
  fr : Fr n₀ m w W
  cells : W.heap[w.heap.size + 3]? = some (.cells cur 26 (0, 0))
  list : cur.toList = chCells ch ++ rest
  rest : rest.length = (l.length - k) * 3
  own : ∀ c ∈ ch, SlOwn 26 W c.1.ts c.2.1 c.2.2
  nodup : (ch.flatMap (·.2.2)).Nodup
  fresh : ∀ b ∈ ch.flatMap (·.2.2), w.heap.size + 4 ≤ b
  box : W.heap[w.heap.size + 2]? = some (.cells #[.string nm, .bool false, .slice (some ⟨w.heap.size + 3, 0, none⟩) l.length l.length] 26 (0, 0))
  ret : W.heap[w.heap.size + 1]? = some (.cells #[.string ⟨#[]⟩, .bool false, .slice none 0 0] 26 (0, 0))
  size : w.heap.size + 4 ≤ W.heap.size

theorem RepSt.chlen {σ : Type} {img : σ → ByteArray → Tm × σ} {I : σ → World → Prop} {n₀ m : Nat} {w : World} {nm : ByteArray} {l : List Tm} {st : σ} {k : Nat} {W : World} {ch : List Child} {sg : σ} {cur : Array Value} {rest : List Value}
    (h : RepSt img I n₀ m w nm l st k W ch sg cur rest) (hk : k ≤ l.length) : ch.length = k := by
  have h1 := congrArg (fun x => x.1.length) h.reps
  simp only [Tm.reps_length, List.length_map, List.length_take] at h1
  omega

/-- one argument more -/
theorem RepSt.step {σ : Type} {img : σ → ByteArray → Tm × σ} {I : σ → World → Prop} {n₀ m : Nat} {w : World} {nm : ByteArray} {l : List Tm} {st : σ} {k : Nat} {W A W2 : World} {ch : List Child} {sg : σ} {cur : Array Value} {rest : List Value}
    (h : RepSt img I n₀ m w nm l st k W ch sg cur rest) (hm : m ≤ w.heap.size) (hI : ∀ s A B, I s A → Below m A B → I s B) {u : Tm} (hu : l[k]? = some u) (hA : Below W.heap.size W A) {sl : Value} {fp : List Nat}
    (ho : SlOwn 26 W2 (u.rep img sg).1.ts sl fp) (hnd : fp.Nodup) (hf : ∀ b ∈ fp, A.heap.size ≤ b) (hi : I (u.rep img sg).2 W2) (hfr : Fr n₀ m A W2) :
    ∃ cur' rest', RepSt img I n₀ m w nm l st (k + 1) (((W2.setCell ⟨w.heap.size + 3, k * 3, none⟩ (.string (u.rep img sg).1.nm)).setCell ⟨w.heap.size + 3, k * 3 + 1, none⟩ (.bool (u.rep img sg).1.vr)).setCell ⟨w.heap.size + 3, k * 3 + 2, none⟩ sl)
      (ch ++ [((u.rep img sg).1, sl, fp)]) (u.rep img sg).2 cur' rest' := by
  have hkl : k < l.length := (List.getElem?_eq_some_iff.1 hu).1
  have hcl := h.chlen (by omega)
  have hAs := hA.size
  have hWs := h.size
  have old : ∀ j, j < W.heap.size → (j < n₀ ∨ m ≤ j) → W2.heap[j]? = W.heap[j]? := fun j hj hc => (hfr.block j (by omega) hc).trans (hA.block j hj)
  have other : ∀ (j : Nat), j ≠ w.heap.size + 3 → (((W2.setCell ⟨w.heap.size + 3, k * 3, none⟩ (.string (u.rep img sg).1.nm)).setCell ⟨w.heap.size + 3, k * 3 + 1, none⟩ (.bool (u.rep img sg).1.vr)).setCell ⟨w.heap.size + 3, k * 3 + 2, none⟩ sl).heap[j]? = W2.heap[j]? := fun j hj => by
    rw [Below.heap_setCell _ _ _ _ hj, Below.heap_setCell _ _ _ _ hj, Below.heap_setCell _ _ _ _ hj]
  have hrl := h.rest
  obtain ⟨x, y, z, rest', hrest⟩ : ∃ x y z rest', rest = x :: y :: z :: rest' := by
    match rest, hrl with
    | [], e => simp at e; omega
    | [_], e => simp at e; omega
    | [_, _], e => simp at e; omega
    | x :: y :: z :: r, _ => exact ⟨x, y, z, r, rfl⟩
  have hcell2 := (old _ (by omega) (.inr (by omega))).trans h.cells
  have hset := set3 hcell2 (k * 3) (.string (u.rep img sg).1.nm) (.bool (u.rep img sg).1.vr) sl
  refine ⟨_, rest', ⟨?_, ?_, ?_, hset, ?_, ?_, ?_, ?_, ?_, (other _ (by omega)).trans ((old _ (by omega) (.inr (by omega))).trans h.box), (other _ (by omega)).trans ((old _ (by omega) (.inr (by omega))).trans h.ret), ?_⟩⟩
  · rw [Tm.take_snoc hu, Tm.reps_snoc, h.reps]; simp
  · exact hI _ _ _ hi ((((Below.refl m W2).setCell (p := ⟨w.heap.size + 3, k * 3, none⟩) (by simp; omega) _).setCell (p := ⟨w.heap.size + 3, k * 3 + 1, none⟩) (by simp; omega) _).setCell (p := ⟨w.heap.size + 3, k * 3 + 2, none⟩) (by simp; omega) _)
  · exact ((((h.fr.trans (Fr.of_below hA)).trans hfr).setNew (p := ⟨w.heap.size + 3, k * 3, none⟩) (by simp) _).setNew (p := ⟨w.heap.size + 3, k * 3 + 1, none⟩) (by simp) _).setNew (p := ⟨w.heap.size + 3, k * 3 + 2, none⟩) (by simp) _
  · simp only [Array.toList_setIfInBounds]
    rw [h.list, hrest, set3_list _ _ _ _ _ _ _ _ _ (by rw [chCells_length, hcl]), chCells_append]
    simp [chCells]
  · rw [hrest] at hrl; simp at hrl; omega
  · intro c hc
    rcases List.mem_append.1 hc with hc | hc
    · refine (h.own c hc).carry fun j hj => ?_
      have hj4 := h.fresh j (List.mem_flatMap.2 ⟨c, hc, hj⟩)
      rw [other _ (by omega)]
      exact old _ ((h.own c hc).lt j hj) (.inr (by omega))
    · obtain rfl : c = ((u.rep img sg).1, sl, fp) := by simpa using hc
      exact ho.carry fun j hj => other _ (by have := hf j hj; omega)
  · rw [List.flatMap_append, List.nodup_append]
    refine ⟨h.nodup, by simpa using hnd, fun a ha b hb => ?_⟩
    obtain ⟨c, hc, ha⟩ := List.mem_flatMap.1 ha
    have h1 := (h.own c hc).lt a ha
    have h2 := hf b (by simpa using hb)
    omega
  · intro b hb
    rw [List.flatMap_append] at hb
    rcases List.mem_append.1 hb with hb | hb
    · exact h.fresh b hb
    · have := hf b (by simpa using hb); omega
  · have := hfr.size; simp [World.setCell]; omega

/-- behind the call for an argument: what is there still -/
theorem RepSt.after {σ : Type} {img : σ → ByteArray → Tm × σ} {I : σ → World → Prop} {n₀ m : Nat} {w : World} {nm : ByteArray} {l : List Tm} {st : σ} {k : Nat} {W A W2 : World} {ch : List Child} {sg : σ} {cur : Array Value} {rest : List Value}
    (h : RepSt img I n₀ m w nm l st k W ch sg cur rest) (hm : m ≤ w.heap.size) (hk : k < l.length) (hA : Below W.heap.size W A) (hfr : Fr n₀ m A W2) :
    W2.cell? ⟨w.heap.size + 1 + 1, 2, none⟩ = some (.slice (some ⟨w.heap.size + 1 + 1 + 1, 0, none⟩) l.length l.length) ∧ (∃ x y z, W2.cell? ⟨w.heap.size + 1 + 1 + 1, k * 3, none⟩ = some x ∧
      W2.cell? ⟨w.heap.size + 1 + 1 + 1, k * 3 + 1, none⟩ = some y ∧ W2.cell? ⟨w.heap.size + 1 + 1 + 1, k * 3 + 2, none⟩ = some z) ∧
      W2.frozen? ⟨w.heap.size + 1 + 1 + 1, k * 3, none⟩ = false ∧ W2.frozen? ⟨w.heap.size + 1 + 1 + 1, k * 3 + 1, none⟩ = false ∧ W2.frozen? ⟨w.heap.size + 1 + 1 + 1, k * 3 + 2, none⟩ = false := by
  have hAs := hA.size
  have hWs := h.size
  have hcl := h.chlen (by omega)
  have old : ∀ j, j < W.heap.size → (j < n₀ ∨ m ≤ j) → W2.heap[j]? = W.heap[j]? := fun j hj hc => (hfr.block j (by omega) hc).trans (hA.block j hj)
  have hb := (old _ (by omega) (.inr (by omega))).trans h.box
  have hc := (old _ (by omega) (.inr (by omega))).trans h.cells
  have hlen : cur.size = l.length * 3 := by
    have h1 := congrArg List.length h.list
    have h2 := h.rest
    simp [chCells_length] at h1
    omega
  refine ⟨by have := cells_of' hb 2; simpa using this, ⟨cur[k * 3]'(by omega), cur[k * 3 + 1]'(by omega), cur[k * 3 + 2]'(by omega), ?_, ?_, ?_⟩, frozen_of' hc _, frozen_of' hc _, frozen_of' hc _⟩ <;>
  · refine (cells_of' hc _).trans ?_
    exact Array.getElem?_eq_getElem _

end Go.Proofs.Ytnomppdmhgefiaa
