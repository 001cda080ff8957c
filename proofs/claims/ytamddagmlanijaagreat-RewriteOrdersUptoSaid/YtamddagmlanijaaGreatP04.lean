/- Packed: Rep, VarP. -/
import Derived.WalkKit
import Derived.ProofKit
import Derived.OpenShut
import Derived.Handy
import Derived.Lib.Hide
import Derived.Deep.RegionHeld3
import Derived.Test.YtamddagmlanijaaGreatP01
import Derived.Test.YtamddagmlanijaaGreatP02
import Derived.Test.YtamddagmlanijaaGreatP03
import Derived.StringKeys
import Derived.Maps.OwnSet
import Derived.Maps.OwnOps
import Derived.Maps.StringElems
import Derived.Lib.ItoaNum
/- replace: a term with its variables replaced by a function with a state, in memory of its own. -/
namespace Go.Proofs.YtamddagmlanijaaGreat
open Go.RowKit

section
variable {σ : Type} (img : σ → ByteArray → Tm × σ)
mutual
def Tm.rep (s : σ) : Tm → Tm × σ
  | .mk nm true _ => img s nm
  | .mk nm false l => (.mk nm false (Tm.reps s l).1, (Tm.reps s l).2)
def Tm.reps (s : σ) : List Tm → List Tm × σ
  | [] => ([], s)
  | t :: r => ((Tm.rep s t).1 :: (Tm.reps (Tm.rep s t).2 r).1, (Tm.reps (Tm.rep s t).2 r).2)
end
theorem Tm.reps_snoc (s : σ) (l : List Tm) (t : Tm) : Tm.reps img s (l ++ [t]) = ((Tm.reps img s l).1 ++ [(Tm.rep img (Tm.reps img s l).2 t).1], (Tm.rep img (Tm.reps img s l).2 t).2) := by
  induction l generalizing s with
  | nil => simp [Tm.reps]
  | cons x l ih => simp [Tm.reps, ih]
theorem Tm.rep_var (s : σ) (t : Tm) (h : t.vr = true) : t.rep img s = img s t.nm := by cases t with | mk n v l => simp only [Tm.vr] at h; subst h; rfl
theorem Tm.rep_fun (s : σ) (t : Tm) (h : t.vr = false) : t.rep img s = (.mk t.nm false (Tm.reps img s t.ts).1, (Tm.reps img s t.ts).2) := by cases t with | mk n v l => simp only [Tm.vr] at h; subst h; rfl
theorem Tm.reps_length (s : σ) (l : List Tm) : (Tm.reps img s l).1.length = l.length := by
  induction l generalizing s with
  | nil => rfl
  | cons x l ih => simp [Tm.reps, ih]
theorem Tm.reps_count (c : σ → Nat) (l : List Tm) (h : ∀ u ∈ l, ∀ s, c (u.rep img s).2 ≤ c s + u.size) (s : σ) : c (Tm.reps img s l).2 ≤ c s + Tm.sizes l := by
  induction l generalizing s with
  | nil => simp [Tm.reps, Tm.sizes]
  | cons x l ih =>
    have h1 := h x (by simp) s
    have h2 := ih (fun u hu => h u (by simp [hu])) (x.rep img s).2
    simp only [Tm.reps, Tm.sizes]
    omega
theorem Tm.rep_count (c : σ → Nat) (hc : ∀ s nm, c (img s nm).2 ≤ c s + 1) (t : Tm) : ∀ s, c (t.rep img s).2 ≤ c s + t.size := by
  induction t using Tm.ind with
  | h t ih =>
    intro s
    have h0 := Tm.size_eq t
    cases hv : t.vr
    · rw [Tm.rep_fun img s t hv]
      have := Tm.reps_count img c t.ts ih s
      simp only; omega
    · rw [Tm.rep_var img s t hv]
      have := hc s t.nm
      omega
end

theorem infoTerm : (Tryz.prog.info? 25).map (fun i => (i.zero, i.size, i.bytes)) = some (some (.agg #[.string ⟨#[]⟩, .bool false, .slice none 0 0]), 3, 48) := by kernel_rfl

/-- the call's result: a term of its own -/
def Fresh (e : TypeId) (W W' : World) (t : Tm) (v : Ending) : Prop := ∃ sl fp, v = .returned (tmv t sl) ∧ SlOwn e W' t.ts sl fp ∧ fp.Nodup ∧ ∀ b ∈ fp, W.heap.size ≤ b

theorem set1 {W : World} {g : Nat} {cur : Array Value} {e : TypeId} {fr : Nat × Nat} (h : W.heap[g]? = some (.cells cur e fr)) (i : Nat) (a : Value) :
    (W.setCell ⟨g, i, none⟩ a).heap[g]? = some (.cells (cur.setIfInBounds i a) e fr) := by
  simp [World.setCell, Array.getElem?_modify, h]
theorem heap_new_at (W : World) (o : Obj) (b : Nat) (h : b = W.heap.size) : (W.alloc o).heap[b]? = some o := by subst h; exact World.alloc_heap_new W o
/-- the end of replace: the result's cells are written -/
theorem ret_fresh {σ : Type} {r : Tm × σ} {t2 : Tm} {st2 : σ} {n₀ m : Nat} {I : σ → World → Prop} {w w1 : World} {sl : Value} {fp : List Nat} {G : Prop}
    (hr : r = (t2, st2)) (hm : m ≤ w.heap.size) (hI : ∀ s A B, I s A → Below m A B → I s B) (hi : I st2 w1) (hfr : Fr n₀ m w w1)
    (hrb : w1.heap[w.heap.size + 1]? = some (.cells #[.string ⟨#[]⟩, .bool false, .slice none 0 0] 25 (0, 0)))
    (ho : SlOwn 25 w1 t2.ts sl fp) (hn : fp.Nodup) (hf : ∀ b ∈ fp, w.heap.size + 2 ≤ b)
    (hq : (((w1.setCell ⟨w.heap.size + 1, 0, none⟩ (.string t2.nm)).setCell ⟨w.heap.size + 1, 1, none⟩ (.bool t2.vr)).setCell ⟨w.heap.size + 1, 2, none⟩ sl).heap[w.heap.size + 1]? = some (.cells #[.string t2.nm, .bool t2.vr, sl] 25 (0, 0)) →
      (Fresh 25 w (((w1.setCell ⟨w.heap.size + 1, 0, none⟩ (.string t2.nm)).setCell ⟨w.heap.size + 1, 1, none⟩ (.bool t2.vr)).setCell ⟨w.heap.size + 1, 2, none⟩ sl) r.1 (.returned (tmv t2 sl)) ∧
        I r.2 (((w1.setCell ⟨w.heap.size + 1, 0, none⟩ (.string t2.nm)).setCell ⟨w.heap.size + 1, 1, none⟩ (.bool t2.vr)).setCell ⟨w.heap.size + 1, 2, none⟩ sl) ∧
        Fr n₀ m w (((w1.setCell ⟨w.heap.size + 1, 0, none⟩ (.string t2.nm)).setCell ⟨w.heap.size + 1, 1, none⟩ (.bool t2.vr)).setCell ⟨w.heap.size + 1, 2, none⟩ sl)) → G) : G := by
  subst hr
  have hq' := hq (by have := set3 hrb 0 (.string t2.nm) (.bool t2.vr) sl; simpa using this)
  refine hq' ⟨⟨sl, fp, rfl, ho.carry fun k hk => ?_, hn, fun b hb => by have := hf b hb; omega⟩, hI _ _ _ hi ?_, ?_⟩
  · have := hf k hk
    rw [Below.heap_setCell _ _ _ _ (by simp; omega), Below.heap_setCell _ _ _ _ (by simp; omega), Below.heap_setCell _ _ _ _ (by simp; omega)]
  · exact (((Below.refl m w1).setCell (p := ⟨w.heap.size + 1, 0, none⟩) (by simp; omega) _).setCell (p := ⟨w.heap.size + 1, 1, none⟩) (by simp; omega) _).setCell (p := ⟨w.heap.size + 1, 2, none⟩) (by simp; omega) _
  · exact ((hfr.setNew (p := ⟨w.heap.size + 1, 0, none⟩) (by simp) _).setNew (p := ⟨w.heap.size + 1, 1, none⟩) (by simp) _).setNew (p := ⟨w.heap.size + 1, 2, none⟩) (by simp) _

/-- replace, k arguments being done: W is the world, w the world at the call -/
structure RepSt {σ : Type} (img : σ → ByteArray → Tm × σ) (I : σ → World → Prop) (n₀ m : Nat) (w : World) (nm : ByteArray) (l : List Tm) (st : σ) (k : Nat) (W : World) (ch : List Child) (sg : σ) (cur : Array Value) (rest : List Value) : Prop where
  reps : Tm.reps img st (l.take k) = (ch.map (·.1), sg)
  inv : I sg W
  fr : Fr n₀ m w W
  cells : W.heap[w.heap.size + 3]? = some (.cells cur 25 (0, 0))
  list : cur.toList = chCells ch ++ rest
  rest : rest.length = (l.length - k) * 3
  own : ∀ c ∈ ch, SlOwn 25 W c.1.ts c.2.1 c.2.2
  nodup : (ch.flatMap (·.2.2)).Nodup
  fresh : ∀ b ∈ ch.flatMap (·.2.2), w.heap.size + 4 ≤ b
  box : W.heap[w.heap.size + 2]? = some (.cells #[.string nm, .bool false, .slice (some ⟨w.heap.size + 3, 0, none⟩) l.length l.length] 25 (0, 0))
  ret : W.heap[w.heap.size + 1]? = some (.cells #[.string ⟨#[]⟩, .bool false, .slice none 0 0] 25 (0, 0))
  size : w.heap.size + 4 ≤ W.heap.size

theorem RepSt.chlen {σ : Type} {img : σ → ByteArray → Tm × σ} {I : σ → World → Prop} {n₀ m : Nat} {w : World} {nm : ByteArray} {l : List Tm} {st : σ} {k : Nat} {W : World} {ch : List Child} {sg : σ} {cur : Array Value} {rest : List Value}
    (h : RepSt img I n₀ m w nm l st k W ch sg cur rest) (hk : k ≤ l.length) : ch.length = k := by
  have h1 := congrArg (fun x => x.1.length) h.reps
  simp only [Tm.reps_length, List.length_map, List.length_take] at h1
  omega

/-- one argument more -/
theorem RepSt.step {σ : Type} {img : σ → ByteArray → Tm × σ} {I : σ → World → Prop} {n₀ m : Nat} {w : World} {nm : ByteArray} {l : List Tm} {st : σ} {k : Nat} {W A W2 : World} {ch : List Child} {sg : σ} {cur : Array Value} {rest : List Value}
    (h : RepSt img I n₀ m w nm l st k W ch sg cur rest) (hm : m ≤ w.heap.size) (hI : ∀ s A B, I s A → Below m A B → I s B) {u : Tm} (hu : l[k]? = some u) (hA : Below W.heap.size W A) {sl : Value} {fp : List Nat}
    (ho : SlOwn 25 W2 (u.rep img sg).1.ts sl fp) (hnd : fp.Nodup) (hf : ∀ b ∈ fp, A.heap.size ≤ b) (hi : I (u.rep img sg).2 W2) (hfr : Fr n₀ m A W2) :
    ∃ cur' rest', RepSt img I n₀ m w nm l st (k + 1) (((W2.setCell ⟨w.heap.size + 3, k * 3, none⟩ (.string (u.rep img sg).1.nm)).setCell ⟨w.heap.size + 3, k * 3 + 1, none⟩ (.bool (u.rep img sg).1.vr)).setCell ⟨w.heap.size + 3, k * 3 + 2, none⟩ sl)
      (ch ++ [((u.rep img sg).1, sl, fp)]) (u.rep img sg).2 cur' rest' := by
  have hkl : k < l.length := (List.getElem?_eq_some_iff.1 hu).1
  have hcl := h.chlen (by omega)
  have hAs := hA.size
  have hWs := h.size
  have old : ∀ j, j < W.heap.size → (j < n₀ ∨ m ≤ j) → W2.heap[j]? = W.heap[j]? := fun j hj hc => (hfr.block j (by omega) hc).trans (hA.block j hj)
  have other : ∀ (j : Nat), j ≠ w.heap.size + 3 → (((W2.setCell ⟨w.heap.size + 3, k * 3, none⟩ (.string (u.rep img sg).1.nm)).setCell ⟨w.heap.size + 3, k * 3 + 1, none⟩ (.bool (u.rep img sg).1.vr)).setCell ⟨w.heap.size + 3, k * 3 + 2, none⟩ sl).heap[j]? = W2.heap[j]? := fun j hj => by
    rw [Below.heap_setCell _ _ _ _ hj, Below.heap_setCell _ _ _ _ hj, Below.heap_setCell _ _ _ _ hj]
  have hrl := h.rest
  obtain ⟨x, y, z, rest', hrest⟩ : ∃ x y z rest', rest = x :: y :: z :: rest' := by
    match rest, hrl with
    | [], e => simp at e; omega
    | [_], e => simp at e; omega
    | [_, _], e => simp at e; omega
    | x :: y :: z :: r, _ => exact ⟨x, y, z, r, rfl⟩
  have hcell2 := (old _ (by omega) (.inr (by omega))).trans h.cells
  have hset := set3 hcell2 (k * 3) (.string (u.rep img sg).1.nm) (.bool (u.rep img sg).1.vr) sl
  refine ⟨_, rest', ⟨?_, ?_, ?_, hset, ?_, ?_, ?_, ?_, ?_, (other _ (by omega)).trans ((old _ (by omega) (.inr (by omega))).trans h.box), (other _ (by omega)).trans ((old _ (by omega) (.inr (by omega))).trans h.ret), ?_⟩⟩
  · rw [Tm.take_snoc hu, Tm.reps_snoc, h.reps]; simp
  · exact hI _ _ _ hi ((((Below.refl m W2).setCell (p := ⟨w.heap.size + 3, k * 3, none⟩) (by simp; omega) _).setCell (p := ⟨w.heap.size + 3, k * 3 + 1, none⟩) (by simp; omega) _).setCell (p := ⟨w.heap.size + 3, k * 3 + 2, none⟩) (by simp; omega) _)
  · exact ((((h.fr.trans (Fr.of_below hA)).trans hfr).setNew (p := ⟨w.heap.size + 3, k * 3, none⟩) (by simp) _).setNew (p := ⟨w.heap.size + 3, k * 3 + 1, none⟩) (by simp) _).setNew (p := ⟨w.heap.size + 3, k * 3 + 2, none⟩) (by simp) _
  · simp only [Array.toList_setIfInBounds]
    rw [h.list, hrest, set3_list _ _ _ _ _ _ _ _ _ (by rw [chCells_length, hcl]), chCells_append]
    simp [chCells]
  · rw [hrest] at hrl; simp at hrl; omega
  · intro c hc
    rcases List.mem_append.1 hc with hc | hc
    · refine (h.own c hc).carry fun j hj => ?_
      have hj4 := h.fresh j (List.mem_flatMap.2 ⟨c, hc, hj⟩)
      rw [other _ (by omega)]
      exact old _ ((h.own c hc).lt j hj) (.inr (by omega))
    · obtain rfl : c = ((u.rep img sg).1, sl, fp) := by simpa using hc
      exact ho.carry fun j hj => other _ (by have := hf j hj; omega)
  · rw [List.flatMap_append, List.nodup_append]
    refine ⟨h.nodup, by simpa using hnd, fun a ha b hb => ?_⟩
    obtain ⟨c, hc, ha⟩ := List.mem_flatMap.1 ha
    have h1 := (h.own c hc).lt a ha
    have h2 := hf b (by simpa using hb)
    omega
  · intro b hb
    rw [List.flatMap_append] at hb
    rcases List.mem_append.1 hb with hb | hb
    · exact h.fresh b hb
    · have := hf b (by simpa using hb); omega
  · have := hfr.size; simp [World.setCell]; omega

/-- behind the call for an argument: what is there still -/
theorem RepSt.after {σ : Type} {img : σ → ByteArray → Tm × σ} {I : σ → World → Prop} {n₀ m : Nat} {w : World} {nm : ByteArray} {l : List Tm} {st : σ} {k : Nat} {W A W2 : World} {ch : List Child} {sg : σ} {cur : Array Value} {rest : List Value}
    (h : RepSt img I n₀ m w nm l st k W ch sg cur rest) (hm : m ≤ w.heap.size) (hk : k < l.length) (hA : Below W.heap.size W A) (hfr : Fr n₀ m A W2) :
    W2.cell? ⟨w.heap.size + 1 + 1, 2, none⟩ = some (.slice (some ⟨w.heap.size + 1 + 1 + 1, 0, none⟩) l.length l.length) ∧ (∃ x y z, W2.cell? ⟨w.heap.size + 1 + 1 + 1, k * 3, none⟩ = some x ∧
      W2.cell? ⟨w.heap.size + 1 + 1 + 1, k * 3 + 1, none⟩ = some y ∧ W2.cell? ⟨w.heap.size + 1 + 1 + 1, k * 3 + 2, none⟩ = some z) ∧
      W2.frozen? ⟨w.heap.size + 1 + 1 + 1, k * 3, none⟩ = false ∧ W2.frozen? ⟨w.heap.size + 1 + 1 + 1, k * 3 + 1, none⟩ = false ∧ W2.frozen? ⟨w.heap.size + 1 + 1 + 1, k * 3 + 2, none⟩ = false := by
  have hAs := hA.size
  have hWs := h.size
  have hcl := h.chlen (by omega)
  have old : ∀ j, j < W.heap.size → (j < n₀ ∨ m ≤ j) → W2.heap[j]? = W.heap[j]? := fun j hj hc => (hfr.block j (by omega) hc).trans (hA.block j hj)
  have hb := (old _ (by omega) (.inr (by omega))).trans h.box
  have hc := (old _ (by omega) (.inr (by omega))).trans h.cells
  have hlen : cur.size = l.length * 3 := by
    have h1 := congrArg List.length h.list
    have h2 := h.rest
    simp [chCells_length] at h1
    omega
  refine ⟨by have := cells_of' hb 2; simpa using this, ⟨cur[k * 3]'(by omega), cur[k * 3 + 1]'(by omega), cur[k * 3 + 2]'(by omega), ?_, ?_, ?_⟩, frozen_of' hc _, frozen_of' hc _, frozen_of' hc _⟩ <;>
  · refine (cells_of' hc _).trans ?_
    exact Array.getElem?_eq_getElem _

set_option maxRecDepth 100000 in
set_option maxHeartbeats 4000000 in
theorem replace_any {σ : Type} (img : σ → ByteArray → Tm × σ) (k : Nat) (cap : Array Value) (hcf : ∀ args w, (callFunc k args).run Tryz.prog w = .ok (.enter k args) w) (n₀ m : Nat) (hnm : n₀ ≤ m) (I : σ → World → Prop) (hI : ∀ s A B, I s A → Below m A B → I s B)
    (c : σ → Nat) (N : Nat) (hcn : ∀ s nm, c (img s nm).2 ≤ c s + 1)
    (HI : Hid (∀ (s : σ) (nm : ByteArray) (W : World), I s W → m ≤ W.heap.size → nm.size ≤ 1048576 → c s < N → Calls Tryz.prog k (#[.string nm] ++ cap) W fun e W' => Fresh 25 W W' (img s nm).1 e ∧ I (img s nm).2 W' ∧ Fr n₀ m W W')) (t : Tm) :
    ∀ (st : σ) (s : Value) (w : World), c st + t.size ≤ N → t.bulk ≤ 1048576 → SlIs n₀ w t.ts s → m ≤ w.heap.size → I st w →
    Calls Tryz.prog 240 #[tmv t s, .func (.func k) #[] cap] w fun e w' => Fresh 25 w w' (t.rep img st).1 e ∧ I (t.rep img st).2 w' ∧ Fr n₀ m w w' := by
  induction t using Tm.ind with
  | h t ih =>
    intro st s w hcN hb hs hm hIw
    obtain ⟨oa, ca, rfl, -⟩ := hs.form
    have hbe := Tm.bulk_eq t
    have hl := Tm.length_sizes t.ts
    have hsz := Tm.size_bulk t
    have hse := Tm.size_eq t
    have hnm2 : t.nm.size ≤ 1048576 := by omega
    have hlen : t.ts.length ≤ 1048576 := by omega
    have HBE := Lib.hid hbe
    have HCN := Lib.hid hcn
    have hcl1 : c st < N := by omega
    have HCS : Hid (c st + (1 + Tm.sizes t.ts) ≤ N) := Lib.hid (by omega)
    clear hcn hcN
    have IH := Lib.hid ih
    have HII := Lib.hid hI
    have HIW := Lib.hid hIw
    clear hbe ih hl hsz hse hI hIw
    cases hv : t.vr
    · have HV := Lib.hid hv
      have HR := Lib.hid (Tm.rep_fun img st t hv)
      clear hv
      obtain ⟨i24, hi, hz0, hz1, hz2⟩ := info_parts infoTerm
      by_cases hne : t.ts = []
      · have h0 : t.ts.length = 0 := by rw [hne]; rfl
        have HNE := Lib.hid hne
        clear hne
        go_enter Tryz.func240, Tryz.ntmps240
        rw [show tmv t (.slice oa t.ts.length ca) = .agg #[.string t.nm, .bool false, .slice oa 0 ca] from by rw [tmv, HV.out, h0]]
        clear h0
        clear hi hz0 hz1 hz2
        have HRR : Hid (t.rep img st = (.mk t.nm false [], st)) := Lib.hid (by rw [HR.out, HNE.out]; rfl)
        have HFR : Hid (Fr n₀ m w (((w.alloc (.cells #[.string t.nm, .bool false, .slice oa 0 ca] 25)).alloc (.cells #[.string t.nm, .bool false, .slice none 0 0] 25)).alloc (.cells #[.string t.nm, .bool false, .slice none 0 0] 25))) := Lib.hid ((((Fr.refl n₀ m w).alloc _).alloc _).alloc _)
        have HI2 : Hid (I st (((w.alloc (.cells #[.string t.nm, .bool false, .slice oa 0 ca] 25)).alloc (.cells #[.string t.nm, .bool false, .slice none 0 0] 25)).alloc (.cells #[.string t.nm, .bool false, .slice none 0 0] 25))) := Lib.hid (HII.out _ _ _ HIW.out ((show Below w.heap.size w _ by go_grown).mono hm))
        go_wp2_with fail
        go_rounds 1
        refine bodyPost_ret (v := .agg #[.string t.nm, .bool false, .slice none 0 0]) (by simp [results, Tryz.f240, go_sem]) rfl ⟨⟨.slice none 0 0, [], ?_, ?_, by simp, by simp⟩, ?_, HFR.out⟩
        · rw [HRR.out]; rfl
        · rw [HRR.out]; exact .nil
        · rw [HRR.out]; exact HI2.out
      · have hpos : 0 < t.ts.length := List.length_pos_iff.2 hne
        clear hne
        go_enter Tryz.func240, Tryz.ntmps240
        rw [show tmv t (.slice oa t.ts.length ca) = .agg #[.string t.nm, .bool false, .slice oa t.ts.length ca] from by rw [tmv, HV.out]]
        have HI0 := Lib.hid hi
        have HZ0 := Lib.hid hz0
        have HZ1 := Lib.hid hz1
        have HZ2 := Lib.hid hz2
        clear hi hz0 hz1 hz2
        go_wp2_with (
          at_make
          refine wpList_make_full _ rfl _ _ 23 rfl (w.heap.size + 3) 25 i24 (.agg #[.string ⟨#[]⟩, .bool false, .slice none 0 0]) 3 Tryz.underlying23 HI0.out HZ0.out HZ1.out .i64 .i64 _ _ t.ts.length rfl rfl rfl rfl (by rw [HZ2.out]; omega) (by unfold maxLen; omega) (by simp) ?_
          intro w1 hown1 hgr1
          have hb2 : w1.heap[w.heap.size + 1 + 1]? = some (.cells #[.string t.nm, .bool false, .slice none 0 0] 25 (0, 0)) := (hgr1.block _ (by simp) (by simp)).trans (heap_new_at _ _ _ (by simp))
          have hb1 : w1.heap[w.heap.size + 1]? = some (.cells #[.string ⟨#[]⟩, .bool false, .slice none 0 0] 25 (0, 0)) := (hgr1.block _ (by simp) (by simp)).trans ((Below.heap_alloc _ _ _ (by simp)).trans (heap_new_at _ _ _ (by simp)))
          have hb0 : w1.heap[w.heap.size]? = some (.cells #[.string t.nm, .bool false, .slice oa t.ts.length ca] 25 (0, 0)) := (hgr1.block _ (by simp; omega) (by simp)).trans ((Below.heap_alloc _ _ _ (by simp; omega)).trans ((Below.heap_alloc _ _ _ (by simp)).trans (heap_new_at _ _ _ rfl)))
          have x0 := cells_of' hb2 0
          have x1 := cells_of' hb2 1
          have x2 := cells_of' hb2 2
          have y2 := frozen_of' hb2 2
          have z2 := cells_of' hb0 2
          simp only [List.getElem?_toArray, List.getElem?_cons_zero, List.getElem?_cons_succ] at x0 x1 x2 z2
          have hbw1 : Below w.heap.size w w1 := ((((Below.refl w.heap.size w).alloc (by simp) _).alloc (by simp) _).alloc (by simp <;> omega) _).trans (show Below w.heap.size _ w1 from ⟨hgr1.os, hgr1.tape, hgr1.output, hgr1.size, fun k hk => hgr1.block k (by simp; omega) (by simp)⟩)
          have HBW1 := Lib.hid hbw1
          have hfr1 : Fr n₀ m w w1 := Fr.of_below hbw1
          have HB0 := Lib.hid hb0
          have HB1 := Lib.hid hb1
          have HB2 := Lib.hid hb2
          have HOW1 := Lib.hid hown1
          have HFR1 := Lib.hid hfr1
          have HSZ1 := Lib.hid hgr1.size
          clear hb0 hb1 hb2 hown1 hfr1 hgr1 hbw1)
        go_loopw [29] (fun i wr => ∃ j : Nat, j ≤ t.ts.length ∧ i = .int .i64 j ∧ Hid (∃ ch sg cur rest, RepSt img I n₀ m w t.nm t.ts st j wr ch sg cur rest)) (fun i _ => t.ts.length - (intOf i).toNat)
        case atStart =>
          refine ⟨0, by omega, rfl, Lib.hid ?_⟩
          obtain ⟨hol, ho⟩ := HOW1.out
          rcases ho with ⟨h, _⟩ | ⟨g, c, cur, hv, hg, hh, hn, hc, hsz3, htk⟩
          · cases h
          · simp only [World.size_alloc, Value.slice.injEq, Option.some.injEq, Addr.mk.injEq] at hv
            obtain ⟨⟨rfl, -⟩, -, rfl⟩ := hv
            have hb := Below.heap_setCell w1 ⟨w.heap.size + 1 + 1, 2, none⟩ (.slice (some ⟨w.heap.size + 1 + 1 + 1, 0, none⟩) t.ts.length t.ts.length)
            refine ⟨[], st, cur, cur.toList, ⟨by simp [Tm.reps], ?_, HFR1.out.setNew (p := ⟨w.heap.size + 1 + 1, 2, none⟩) (by simp <;> omega) _, (hb _ (by simp <;> omega)).trans hh, by simp [chCells], ?_, by simp, by simp, by simp, ?_, (hb _ (by simp)).trans HB1.out, ?_⟩⟩
            · exact HII.out _ _ _ HIW.out ((HBW1.out.setCell (p := ⟨w.heap.size + 1 + 1, 2, none⟩) (by simp; omega) _).mono hm)
            · simp [hsz3]
            · have := set1 HB2.out 2 (.slice (some ⟨w.heap.size + 1 + 1 + 1, 0, none⟩) t.ts.length t.ts.length)
              simpa using this
            · have := HSZ1.out; simp [World.setCell] at this ⊢; have := (Array.getElem?_eq_some_iff.1 hh).1; omega
        case round =>
          obtain ⟨j, hj, rfl, HH⟩ := hrel
          obtain ⟨ch, sg, cur, rest, hst⟩ := HH.out
          have HST := Lib.hid hst
          clear HH
          have hx2 := cells_of' hst.box 2
          have hwz := hst.size
          simp only [List.getElem?_toArray, List.getElem?_cons_zero, List.getElem?_cons_succ] at hx2
          by_cases hlt : j < t.ts.length
          · obtain ⟨b, o, u, s, rfl, hbb, hu, hum, hus, c1, c2, c3⟩ := (hs.carry (hst.fr.below (by omega)) (Nat.le_refl _)).get hlt
            obtain ⟨oa2, cap2, rfl, -⟩ := hus.form
            have hub : u.bulk ≤ 1048576 := by have := Tm.bulk_mem hum; have := HBE.out; omega
            have HU := Lib.hid hu
            have hA : Below wr.heap.size wr (wr.alloc (.cells #[.string u.nm, .bool u.vr, .slice oa2 u.ts.length cap2] 25)).drew := ((Below.refl _ wr).alloc (Nat.le_refl _) _).drew
            have hcu : c sg + u.size ≤ N := by
              have h1 := Tm.reps_count img c (t.ts.take j) (fun x _ => Tm.rep_count img c HCN.out x) st
              rw [hst.reps] at h1
              have h2 := Tm.sizes_append (t.ts.take (j + 1)) (t.ts.drop (j + 1))
              rw [List.take_append_drop, Tm.take_snoc hu, Tm.sizes_append] at h2
              have h3 : Tm.sizes [u] = u.size := by simp [Tm.sizes]
              have := HCS.out
              simp only at h1
              omega
            have IHu := Lib.hid (IH.out u hum sg _ (wr.alloc (.cells #[.string u.nm, .bool u.vr, .slice oa2 u.ts.length cap2] 25)).drew hcu hub (hus.carry (hA.mono (by omega)) (Nat.le_refl _)) (by simp; omega) (HII.out _ _ _ hst.inv (hA.mono (by omega))))
            have HA := Lib.hid hA
            clear hu hst hA
            go_wp2_with fail
            have q1 : ¬ (wr.heap.size = w.heap.size + 1 + 1 + 1) := by omega
            have q2 : ¬ (w.heap.size + 1 + 1 + 1 = wr.heap.size) := by omega
            have q3 : ¬ (wr.heap.size = w.heap.size + 3) := by omega
            have q4 : ¬ (w.heap.size + 3 = wr.heap.size) := by omega
            go_region_held3 (fun w' => w'.cell? ⟨w.heap.size + 1 + 1, 2, none⟩ = some (.slice (some ⟨w.heap.size + 1 + 1 + 1, 0, none⟩) t.ts.length t.ts.length) ∧ w'.cell? ⟨wr.heap.size, 0, none⟩ = some (.string u.nm) ∧ w'.cell? ⟨wr.heap.size, 1, none⟩ = some (.bool u.vr) ∧ w'.cell? ⟨wr.heap.size, 2, none⟩ = some (.slice oa2 u.ts.length cap2)) (go_keep) ((
              go_at_call 240
              refine IHu.out.mono ?_
              rintro e w2 ⟨⟨sl, fp, rfl, ho, hnd, hf⟩, hi2, hfr2⟩
              obtain ⟨oa4, n4, c4, rfl⟩ := ho.form
              obtain ⟨k1, ⟨_, _, _, k2, k3, k4⟩, k5, k6, k7⟩ := HST.out.after hm hlt HA.out hfr2
              have hx : w2.heap[wr.heap.size]? = some (.cells #[.string u.nm, .bool u.vr, .slice oa2 u.ts.length cap2] 25 (0, 0)) := (hfr2.block _ (by simp) (.inr (by omega))).trans (heap_new_at _ _ _ rfl)
              have v0 := cells_of' hx 0
              have v1 := cells_of' hx 1
              have v2 := cells_of' hx 2
              simp only [List.getElem?_toArray, List.getElem?_cons_zero, List.getElem?_cons_succ] at v0 v1 v2
              have HO2 := Lib.hid ho
              have HND2 := Lib.hid hnd
              have HF2 := Lib.hid hf
              have HI2 := Lib.hid hi2
              have HFR2 := Lib.hid hfr2
              clear ho hnd hf hi2 hfr2 hx
              dsimp only [tmv]))
            clear v0 v1 v2 k1 k2 k3 k4 k5 k6 k7
            go_wp2_with fail
            obtain ⟨cur', rest', hst'⟩ := HST.out.step hm HII.out HU.out HA.out HO2.out HND2.out HF2.out HI2.out HFR2.out
            exact ⟨⟨j + 1, by omega, by push_cast; rfl, Lib.hid ⟨_, _, _, _, hst'⟩⟩, by simp only [intOf]; omega⟩
          · have hjl : j = t.ts.length := by omega
            subst hjl
            have HST2 := Lib.hid hst
            have b0 := cells_of' hst.box 0
            have b1 := cells_of' hst.box 1
            have r0 := cells_of' hst.ret 0
            have r1 := cells_of' hst.ret 1
            have r2 := cells_of' hst.ret 2
            have f0 := frozen_of' hst.ret 0
            have f1 := frozen_of' hst.ret 1
            have f2 := frozen_of' hst.ret 2
            simp only [List.getElem?_toArray, List.getElem?_cons_zero, List.getElem?_cons_succ] at b0 b1 r0 r1 r2
            clear hst
            go_wp2_with fail
            have hst := HST2.out
            have hcl := hst.chlen (Nat.le_refl _)
            have hreps := hst.reps
            rw [List.take_length] at hreps
            have hcur : cur.toList = chCells ch := by
              have h1 := hst.rest
              have h2 : rest = [] := List.length_eq_zero_iff.1 (by omega)
              rw [hst.list, h2, List.append_nil]
            have hrow := SlOwn.row (e := 25) (W := wr) (w.heap.size + 3) ch cur (by rintro rfl; simp at hcl; omega) hst.cells hcur hst.own
            rw [hcl] at hrow
            have hrr : t.rep img st = (.mk t.nm false (ch.map (·.1)), sg) := by rw [HR.out, hreps]
            refine ret_fresh hrr hm HII.out hst.inv hst.fr hst.ret hrow ?_ ?_ (fun hq h3 => ?_)
            · rw [List.nodup_cons]
              exact ⟨fun hc => by have := hst.fresh _ hc; omega, hst.nodup⟩
            · intro b hb
              rcases List.mem_cons.1 hb with rfl | hb
              · omega
              · have := hst.fresh b hb; omega
            · have q0 := cells_of' hq 0
              have q1 := cells_of' hq 1
              have q2 := cells_of' hq 2
              simp only [List.getElem?_toArray, List.getElem?_cons_zero, List.getElem?_cons_succ] at q0 q1 q2
              simp only [Tm.nm, Tm.vr] at q0 q1 q2 h3
              exact bodyPost_ret (v := tmv (.mk t.nm false (ch.map (·.1))) (.slice (some ⟨w.heap.size + 3, 0, none⟩) t.ts.length t.ts.length)) (by simp [results, Tryz.f240, go_sem, q0, q1, q2, Tm.nm, Tm.vr, tmv]) rfl h3
    · have HV := Lib.hid hv
      clear hv
      go_enter Tryz.func240, Tryz.ntmps240
      rw [show tmv t (.slice oa t.ts.length ca) = .agg #[.string t.nm, .bool true, .slice oa t.ts.length ca] from by rw [tmv, HV.out]]
      go_wp2_with fail
      have hB0 : Below w.heap.size w ((w.alloc (.cells #[.string t.nm, .bool true, .slice oa t.ts.length ca] 25)).alloc (.cells #[.string ⟨#[]⟩, .bool false, .slice none 0 0] 25)) := by go_grown
      refine (HI.out st t.nm _ (HII.out _ _ _ HIW.out (hB0.mono hm)) (by simp; omega) hnm2 hcl1).mono ?_
      rintro e w1 ⟨⟨sl, fp, rfl, ho, hn, hf⟩, hi1, hfr⟩
      obtain ⟨oa3, n3, c3, rfl⟩ := ho.form
      have hrb : w1.heap[w.heap.size + 1]? = some (.cells #[.string ⟨#[]⟩, .bool false, .slice none 0 0] 25 (0, 0)) :=
        (hfr.block _ (by simp) (.inr (by omega))).trans (by have h := World.alloc_heap_new (w.alloc (.cells #[.string t.nm, .bool true, .slice oa t.ts.length ca] 25)) (.cells #[.string ⟨#[]⟩, .bool false, .slice none 0 0] 25); rw [World.size_alloc] at h; exact h)
      have r0 := cells_of' hrb 0
      have r1 := cells_of' hrb 1
      have r2 := cells_of' hrb 2
      have f0 := frozen_of' hrb 0
      have f1 := frozen_of' hrb 1
      have f2 := frozen_of' hrb 2
      simp only [List.getElem?_toArray, List.getElem?_cons_zero, List.getElem?_cons_succ] at r0 r1 r2
      have HO := Lib.hid ho
      have HN := Lib.hid hn
      have HF := Lib.hid hf
      have HI1 := Lib.hid hi1
      have HFR := Lib.hid hfr
      have HR := Lib.hid (Tm.rep_var img st t HV.out)
      clear ho hn hf hi1 hfr hB0
      go_wp2_with fail
      refine ret_fresh HR.out hm HII.out HI1.out (((Fr.refl n₀ m w).alloc _).alloc _ |>.trans HFR.out) hrb HO.out HN.out (fun b hb => by have := HF.out b hb; simp at this; omega) (fun hq h3 => ?_)
      have q0 := cells_of' hq 0
      have q1 := cells_of' hq 1
      have q2 := cells_of' hq 2
      simp only [List.getElem?_toArray, List.getElem?_cons_zero, List.getElem?_cons_succ] at q0 q1 q2
      exact bodyPost_ret (v := tmv (img st t.nm).1 (.slice oa3 n3 c3)) (by simp [results, Tryz.f240, go_sem, q0, q1, q2]) rfl h3
end Go.Proofs.YtamddagmlanijaaGreat
/- Merged: Cln, Tmn, Can, Can2, VarP. -/
/- clone, and the small makers of terms. -/
namespace Go.Proofs.YtamddagmlanijaaGreat
open Go.RowKit

/-- variables have no arguments -/
inductive Tm.bare : Tm → Prop
  | mk (t : Tm) : (t.vr = true → t.ts = []) → (∀ u ∈ t.ts, u.bare) → t.bare
theorem Tm.bare.kids {t : Tm} (h : t.bare) : ∀ u ∈ t.ts, u.bare := by cases h with | mk _ h1 h2 => exact h2
theorem Tm.bare.vr0 {t : Tm} (h : t.bare) : t.vr = true → t.ts = [] := by cases h with | mk _ h1 h2 => exact h1
theorem Tm.mem_nodesL {u : Tm} {l : List Tm} (h : u ∈ l) (d : Nat) : ∀ v ∈ u.nodes d, v ∈ Tm.nodesL d l := by
  induction l with
  | nil => cases h
  | cons x l ih =>
    intro v hv
    simp only [Tm.nodesL, List.mem_append]
    rcases List.mem_cons.1 h with rfl | h
    · exact .inl hv
    · exact .inr (ih h v hv)
/-- formed, node by node -/
theorem Tm.formed_iff (t : Tm) : t.formed ↔ nodeOk t.nm t.vr t.ts.length = true ∧ ∀ u ∈ t.ts, u.formed := by
  have sh : ∀ (u : Tm) (d : Nat), (∀ v ∈ u.nodes d, viewOk v = true) → ∀ d', ∀ v ∈ u.nodes d', viewOk v = true := by
    intro u
    induction u using Tm.ind with
    | h u ih =>
      intro d h d' v hv
      rw [Tm.nodes_eq] at hv h
      rcases List.mem_cons.1 hv with rfl | hv
      · have := h _ (List.mem_cons_self ..); exact this
      · obtain ⟨x, hx, hv⟩ := Tm.nodesL_mem hv
        exact ih x hx (d + 1) (fun v hv => h v (List.mem_cons_of_mem _ (Tm.mem_nodesL hx _ v hv))) _ v hv
  unfold Tm.formed
  rw [Tm.nodes_eq]
  constructor
  · intro h
    refine ⟨h _ (List.mem_cons_self ..), fun u hu => sh u 2 (fun v hv => h v (List.mem_cons_of_mem _ (Tm.mem_nodesL hu _ v hv))) 1⟩
  · rintro ⟨h1, h2⟩ v hv
    rcases List.mem_cons.1 hv with rfl | hv
    · exact h1
    · obtain ⟨x, hx, hv⟩ := Tm.nodesL_mem hv
      exact sh x 1 (h2 x hx) 2 v hv
theorem Tm.formed.bare {t : Tm} (h : t.formed) : t.bare := by
  induction t using Tm.ind with
  | h t ih =>
    obtain ⟨h1, h2⟩ := (Tm.formed_iff t).1 h
    refine .mk t (fun hv => ?_) fun u hu => ih u hu (h2 u hu)
    simp only [nodeOk, hv, if_true, Bool.and_eq_true, beq_iff_eq] at h1
    exact List.length_eq_zero_iff.1 h1.2

/-- a clone's image: the variable itself -/
def cloneImg : Unit → ByteArray → Tm × Unit := fun s nm => (.mk nm true [], s)
theorem reps_clone (l : List Tm) (h : ∀ u ∈ l, u.rep cloneImg () = (u, ())) : Tm.reps cloneImg () l = (l, ()) := by
  induction l with
  | nil => rfl
  | cons x l ih => simp only [Tm.reps, h x (by simp), ih fun u hu => h u (by simp [hu])]
theorem rep_clone {t : Tm} (h : t.bare) : t.rep cloneImg () = (t, ()) := by
  induction t using Tm.ind with
  | h t ih =>
    cases hv : t.vr
    · rw [Tm.rep_fun _ _ _ hv, reps_clone _ fun u hu => ih u hu (h.kids u hu)]
      cases t; simp only [Tm.vr] at hv; subst hv; rfl
    · rw [Tm.rep_var _ _ _ hv]
      have := h.vr0 hv
      cases t; simp only [Tm.vr] at hv; simp only [Tm.ts] at this; subst hv; subst this; rfl

theorem variable_any (nm : ByteArray) (w : World) : Calls Tryz.prog 242 #[.string nm] w fun e w' => e = .returned (tmv (.mk nm true []) (.slice none 0 0)) ∧ Below w.heap.size w w' := by
  go_enter Tryz.func242, Tryz.ntmps242
  go_wp2_with fail
  exact bodyPost_ret (v := tmv (.mk nm true []) (.slice none 0 0)) (by simp [results, Tryz.f242, go_sem, tmv, Tm.nm, Tm.vr]) rfl ⟨rfl, by go_grown⟩
theorem box3 {W : World} {b : Nat} {x y z : Value} {e : TypeId} (h : W.heap[b]? = some (.cells #[x, y, z] e (0, 0))) :
    (W.cell? ⟨b, 0, none⟩ = some x ∧ W.cell? ⟨b, 1, none⟩ = some y ∧ W.cell? ⟨b, 2, none⟩ = some z) ∧ W.frozen? ⟨b, 0, none⟩ = false ∧ W.frozen? ⟨b, 1, none⟩ = false ∧ W.frozen? ⟨b, 2, none⟩ = false :=
  ⟨⟨by have := cells_of' h 0; simpa using this, by have := cells_of' h 1; simpa using this, by have := cells_of' h 2; simpa using this⟩, frozen_of' h _, frozen_of' h _, frozen_of' h _⟩
theorem box3_set {W : World} {b : Nat} {x y z : Value} {e : TypeId} (h : W.heap[b]? = some (.cells #[x, y, z] e (0, 0))) (x' y' z' : Value) :
    (((W.setCell ⟨b, 0, none⟩ x').setCell ⟨b, 1, none⟩ y').setCell ⟨b, 2, none⟩ z').heap[b]? = some (.cells #[x', y', z'] e (0, 0)) := by
  have := set3 h 0 x' y' z'; simpa using this
theorem below_set3 {B : Nat} {A W : World} (h : Below B A W) {b : Nat} (hb : B ≤ b) (x y z : Value) : Below B A (((W.setCell ⟨b, 0, none⟩ x).setCell ⟨b, 1, none⟩ y).setCell ⟨b, 2, none⟩ z) :=
  ((h.setCell (p := ⟨b, 0, none⟩) hb _).setCell (p := ⟨b, 1, none⟩) hb _).setCell (p := ⟨b, 2, none⟩) hb _
theorem heap_set3 (W : World) (b k : Nat) (x y z : Value) (h : k ≠ b) : (((W.setCell ⟨b, 0, none⟩ x).setCell ⟨b, 1, none⟩ y).setCell ⟨b, 2, none⟩ z).heap[k]? = W.heap[k]? := by
  rw [Below.heap_setCell _ _ _ _ h, Below.heap_setCell _ _ _ _ h, Below.heap_setCell _ _ _ _ h]

set_option maxRecDepth 100000 in
theorem clone_any (t : Tm) (s : Value) (w : World) (hs : SlIs w.heap.size w t.ts s) (hb : t.bulk ≤ 1048576) (ht : t.bare) :
    Calls Tryz.prog 180 #[tmv t s] w fun e w' => Fresh 25 w w' t e ∧ Below w.heap.size w w' := by
  obtain ⟨oa, cap, rfl, -⟩ := hs.form
  have HRP : Hid (∀ W : World, Below w.heap.size w W → Calls Tryz.prog 240 #[.agg #[.string t.nm, .bool t.vr, .slice oa t.ts.length cap], .func (.func 242) #[] #[]] W fun e W' => Fresh 25 W W' t e ∧ Below W.heap.size W W') := Lib.hid fun W hW => by
    have h := replace_any (σ := Unit) cloneImg 242 #[] Tryz.call242 W.heap.size W.heap.size (Nat.le_refl _) (fun _ _ => True) (fun _ _ _ _ _ => trivial) (fun _ => 0) t.size (fun _ _ => by omega)
      (Lib.hid fun s nm V _ _ _ _ => (variable_any nm V).mono (by
        rintro e w' ⟨rfl, hbw⟩
        exact ⟨⟨_, _, rfl, .nil, by simp, by simp⟩, trivial, Fr.of_below hbw⟩)) t () _ W (by omega) hb (hs.carry hW (hW.size)) (Nat.le_refl _) trivial
    rw [rep_clone ht] at h
    exact h.mono fun e w' hh => ⟨hh.1, hh.2.2.all⟩
  have HBB := Lib.hid hb
  clear hb
  go_enter Tryz.func180, Tryz.ntmps180
  rw [show tmv t (.slice oa t.ts.length cap) = .agg #[.string t.nm, .bool t.vr, .slice oa t.ts.length cap] from rfl]
  go_wp2_with (go_at_call 240; refine (HRP.out _ (by go_grown)).mono ?_; rintro e w1 ⟨⟨sl, fp, rfl, ho, hn, hf⟩, hb1⟩; obtain ⟨oa1, n1, c1, rfl⟩ := ho.form; dsimp only [tmv]; have hr := (hb1.block (w.heap.size + 1) (by simp)).trans (heap_new_at _ _ _ (by simp)); obtain ⟨⟨r0, r1, r2⟩, f0, f1, f2⟩ := box3 hr; have HR := Lib.hid hr; have HO := Lib.hid ho; have HN := Lib.hid hn; have HF := Lib.hid hf; have HB1 := Lib.hid hb1; clear hr ho hn hf hb1)
  have hq := box3_set HR.out (.string t.nm) (.bool t.vr) (.slice oa1 n1 c1)
  obtain ⟨⟨q0, q1, q2⟩, -⟩ := box3 hq
  refine bodyPost_ret (v := tmv t (.slice oa1 n1 c1)) (by simp [results, Tryz.f180, go_sem, q0, q1, q2, tmv]) rfl ⟨⟨_, fp, rfl, ?_, HN.out, ?_⟩, ?_⟩
  · exact HO.out.carry fun k hk => heap_set3 _ _ _ _ _ _ (by have := HF.out k hk; simp at this; omega)
  · intro b hb; have := HF.out b hb; simp at this; omega
  · exact below_set3 ((show Below w.heap.size w _ from (by go_grown : Below w.heap.size w ((w.alloc (.cells #[.string t.nm, .bool t.vr, .slice oa t.ts.length cap] 25)).alloc (.cells #[.string ⟨#[]⟩, .bool false, .slice none 0 0] 25)))).trans (HB1.out.mono (by simp; omega))) (by omega) _ _ _
end Go.Proofs.YtamddagmlanijaaGreat
/- A term and a number as results. -/
namespace Go.Proofs.YtamddagmlanijaaGreat
open Go.RowKit

abbrev Tm.zero : Tm := .mk ⟨#[]⟩ false []
/-- a term and a number, in new memory -/
def TmNum (w w' : World) (e : Ending) (u : Tm) (c : Int) : Prop := (∃ sl, e = .returned (.tuple #[tmv u sl, .int .i64 c]) ∧ SlIs w'.heap.size w' u.ts sl) ∧ Below w.heap.size w w'
end Go.Proofs.YtamddagmlanijaaGreat
/- Canonical: the names in the order of their first showing. -/
namespace Go.Proofs.YtamddagmlanijaaGreat
open Go.RowKit Go.Maps

abbrev Key := List UInt8
def xname (dig : Nat → ByteArray) (i : Nat) : ByteArray := ⟨#[120]⟩ ++ dig i
/-- the variable's canonical name, given the names seen -/
def canImg (dig : Nat → ByteArray) (ss : List Key) (nm : ByteArray) : Tm × List Key :=
  if nm.data.toList ∈ ss then (.mk (xname dig (ss.idxOf nm.data.toList)) true [], ss) else (.mk (xname dig ss.length) true [], ss ++ [nm.data.toList])

/-- the map's datum and the names seen -/
structure MapInv (dig : Nat → ByteArray) (D : DataW Unit) (ss : List Key) : Prop where
  tidy : Tidy D
  size : Maps.size D = ss.length
  has : ∀ k, Maps.has D (.string k) = decide (k ∈ ss)
  at_ : ∀ i k, ss[i]? = some k → ∀ z, D.atKey (.string k) z = .lit (.string (xname dig i).data.toList)
theorem MapInv.empty (dig : Nat → ByteArray) : MapInv dig (.map []) [] := ⟨tidy_empty, rfl, fun k => by simp [Maps.has_eq], fun i k h => by simp at h⟩
theorem MapInv.put {dig : Nat → ByteArray} {D : DataW Unit} {ss : List Key} (h : MapInv dig D ss) {k : Key} (hk : k ∉ ss) : MapInv dig (D.put (.string k) (.lit (.string (xname dig ss.length).data.toList))) (ss ++ [k]) := by
  have hl : WideAt.IsKeyLit (.string k) := trivial
  refine ⟨h.tidy.put hl _, ?_, fun k' => ?_, fun i k' hi z => ?_⟩
  · rw [size_put h.tidy, h.has, h.size]; simp [hk]
  · by_cases e : k' = k
    · subst e; rw [has_put_same h.tidy.isMap hl]; simp
    · rw [has_put_other (by simpa using e), h.has]; simp [e]
  · by_cases e : k' = k
    · subst e
      rw [atKey_put_same h.tidy.isMap hl]
      have hlt := (List.getElem?_eq_some_iff.1 hi).1
      by_cases hil : i < ss.length
      · rw [List.getElem?_append_left hil] at hi; exact absurd (List.mem_of_getElem? hi) hk
      · simp at hlt; rw [show i = ss.length by omega]
    · rw [atKey_put_other (by simpa using e)]
      refine h.at_ i k' ?_ z
      by_cases hil : i < ss.length
      · rwa [List.getElem?_append_left hil] at hi
      · rw [List.getElem?_append_right (by omega)] at hi
        have hlt := (List.getElem?_eq_some_iff.1 hi).1
        simp at hlt
        rw [show i - ss.length = 0 by omega] at hi
        simp at hi; exact absurd hi.symm e
section
variable {H : Type} {P : Program} (w : World) {ops : Array Oper} {rest : List Oper} {o : Oper} {a : Act} {Q : Exit → Act → World → Prop}
theorem wpList_lookup_own_plain (hg : o.guard = none) (m x : Operand) (t : TypeId) (hop : o.op = Op.lookup t m x false)
    (k e : TypeId) (K : Keyed P k) (ht : P.underlying t = some (.map k e)) (R : Value → Option (DataW H × List MemPlace)) {z : Value} (hz : (zeroValue e).run P w = .ok z w) (zd : DataW H) (zp : List MemPlace) (hzd : R z = some (zd, zp)) (b n : Nat) (D : DataW H)
    (hm : a.eval m = .map (some b)) (hown : w.ownsMap P k R b n D) (key : Value) (kl : Lit) (hx : a.eval x = key) (hkey : keyOf P k key = some kl)
    (hK : ∀ v ps, R v = some (D.atKey kl zd, ps) → wpList P ops Q rest (a.put o.dst v) w) :
    wpList P ops Q (o :: rest) a w := by
  refine wpList_plain hg fun K' hK' => ?_
  obtain ⟨v, ps, hrun, hv⟩ := hown.lookup K ht hz hzd hkey
  unfold Oper.wp
  simp [execOp, hop, hm, hx, hrun, Result.andThen]
  exact hK' _ _ (hK v ps hv)
end

theorem strKeyed : Keyed Tryz.prog 9 := string_keyed Tryz.underlying9
theorem bytes_ext {a b : ByteArray} (h : a.data.toList = b.data.toList) : a = b := by cases a; cases b; simpa using h

end Go.Proofs.YtamddagmlanijaaGreat
/- Canonical: the walk. -/
namespace Go.Proofs.YtamddagmlanijaaGreat
open Go.RowKit Go.Maps

theorem canImg_count (dig : Nat → ByteArray) (ss : List Key) (nm : ByteArray) : (canImg dig ss nm).2.length ≤ ss.length + 1 := by
  unfold canImg; split <;> simp

end Go.Proofs.YtamddagmlanijaaGreat
/- Canonical forms and renamings: plain facts. -/
namespace Go.Proofs.YtamddagmlanijaaGreat
open Go.RowKit

/-- a name from its bytes -/
def kb (k : Key) : ByteArray := ⟨k.toArray⟩
theorem kb_key (nm : ByteArray) : kb nm.data.toList = nm := by cases nm; rfl
theorem key_kb (k : Key) : (kb k).data.toList = k := rfl
theorem kb_inj {a b : Key} : kb a = kb b ↔ a = b := ⟨fun h => by rw [← key_kb a, h, key_kb], fun h => by rw [h]⟩

def digN (i : Nat) : ByteArray := if i < 1048576 then kb (Lib.decDigits i) else ⟨#[]⟩
theorem dec_step {i : Nat} (h : ¬ i < 10) : Lib.decDigits i = Lib.decDigits (i / 10) ++ [UInt8.ofNat (48 + i % 10)] := by rw [Lib.decDigits, dif_neg h]
theorem dec_len (k : Nat) : ∀ i, i < 10 ^ (k + 1) → (Lib.decDigits i).length ≤ k + 1 := by
  induction k with
  | zero => intro i h; rw [Lib.decDigits_one (by simpa using h)]; simp
  | succ k ih =>
    intro i h
    by_cases h10 : i < 10
    · rw [Lib.decDigits_one h10]; simp
    · rw [dec_step h10, List.length_append]
      have := ih (i / 10) (by rw [Nat.div_lt_iff_lt_mul (by omega)]; rw [Nat.pow_succ] at h; exact h)
      simp; omega
theorem digN_size (i : Nat) : (digN i).size ≤ 7 := by
  unfold digN
  split
  · have := dec_len 6 i (by omega)
    simpa [kb, ByteArray.size] using this
  · decide
def decVal (l : List UInt8) : Nat := l.foldl (fun a c => a * 10 + (c.toNat - 48)) 0
theorem decVal_dec (i : Nat) : decVal (Lib.decDigits i) = i := by
  induction i using Nat.strongRecOn with
  | ind i ih =>
    by_cases h : i < 10
    · rw [Lib.decDigits_one h]
      have : (UInt8.ofNat (48 + i)).toNat = 48 + i := by simp; omega
      simp only [decVal, List.foldl_cons, List.foldl_nil, this]; omega
    · rw [dec_step h, decVal, List.foldl_append, ← decVal, ih (i / 10) (by omega)]
      have : (UInt8.ofNat (48 + i % 10)).toNat = 48 + i % 10 := by simp; omega
      simp only [List.foldl_cons, List.foldl_nil, this]; omega
theorem digN_inj {i j : Nat} (hi : i < 1048576) (hj : j < 1048576) (h : digN i = digN j) : i = j := by
  rw [digN, if_pos hi, digN, if_pos hj, kb_inj] at h
  rw [← decVal_dec i, h, decVal_dec]
/-- one name more, if it is new -/
def addKey (ss : List Key) (k : Key) : List Key := if k ∈ ss then ss else ss ++ [k]
theorem addKey_pre (ss : List Key) (k : Key) : ss <+: addKey ss k := by unfold addKey; split; exact List.prefix_refl _; exact List.prefix_append _ _
theorem addKey_mem (ss : List Key) (k : Key) : k ∈ addKey ss k := by unfold addKey; split; assumption; simp
theorem canImg_eq (dig : Nat → ByteArray) (ss : List Key) (nm : ByteArray) : canImg dig ss nm = (.mk (xname dig ((addKey ss nm.data.toList).idxOf nm.data.toList)) true [], addKey ss nm.data.toList) := by
  unfold canImg addKey
  split
  · rfl
  · rename_i h
    have : (ss ++ [nm.data.toList]).idxOf nm.data.toList = ss.length := by rw [List.idxOf_append, if_neg h]; simp
    rw [this]

def firsts (ss : List Key) (t : Tm) : List Key := (t.rep (canImg digN) ss).2
def firstsL (ss : List Key) (l : List Tm) : List Key := (Tm.reps (canImg digN) ss l).2
theorem firsts_var (ss : List Key) {t : Tm} (h : t.vr = true) : firsts ss t = addKey ss t.nm.data.toList := by rw [firsts, Tm.rep_var _ _ _ h, canImg_eq]
theorem firsts_fun (ss : List Key) {t : Tm} (h : t.vr = false) : firsts ss t = firstsL ss t.ts := by rw [firsts, Tm.rep_fun _ _ _ h]; rfl
theorem firstsL_cons (ss : List Key) (t : Tm) (l : List Tm) : firstsL ss (t :: l) = firstsL (firsts ss t) l := rfl
theorem firstsL_pre (l : List Tm) (h : ∀ u ∈ l, ∀ ss, ss <+: firsts ss u) (ss : List Key) : ss <+: firstsL ss l := by
  induction l generalizing ss with
  | nil => exact List.prefix_refl _
  | cons x l ih => rw [firstsL_cons]; exact (h x (by simp) ss).trans (ih (fun u hu => h u (by simp [hu])) _)
theorem firsts_pre (t : Tm) : ∀ ss, ss <+: firsts ss t := by
  induction t using Tm.ind with
  | h t ih =>
    intro ss
    cases hv : t.vr
    · rw [firsts_fun ss hv]; exact firstsL_pre _ ih ss
    · rw [firsts_var ss hv]; exact addKey_pre _ _
theorem firsts_length (t : Tm) (ss : List Key) : (firsts ss t).length ≤ ss.length + t.size := Tm.rep_count (canImg digN) List.length (canImg_count digN) t ss
end Go.Proofs.YtamddagmlanijaaGreat
