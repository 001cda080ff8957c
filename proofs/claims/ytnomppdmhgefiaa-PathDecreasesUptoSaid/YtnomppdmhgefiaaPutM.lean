/- A store at a place of a term of its own: the slice then holds the term with that place replaced. No program stands here. -/
import Derived.Test.YtnomppdmhgefiaaLoc
namespace Go.Proofs.Ytnomppdmhgefiaa
open Go.RowKit

/-- a row of cells, as terms -/
theorem SlIs.ofRow {e : TypeId} {W : World} {n₀ g : Nat} {ch : List Child} {cur : Array Value} (hne : ch ≠ []) (hg : W.heap[g]? = some (.cells cur e (0, 0))) (hgn : g < n₀) (hc : cur.toList = chCells ch)
    (hk : ∀ c ∈ ch, SlIs n₀ W c.1.ts c.2.1) : SlIs n₀ W (ch.map (·.1)) (.slice (some ⟨g, 0, none⟩) ch.length ch.length) := by
  have hlen : (ch.map (·.1)).length = ch.length := by simp
  have hcell : ∀ j, W.cell? ⟨g, j, none⟩ = (chCells ch)[j]? := fun j => by
    unfold World.cell?
    simp only [hg]
    rw [← hc, Array.getElem?_toList]; rfl
  have hch : ∀ i t, (ch.map (·.1))[i]? = some t → ∃ c : Child, ch[i]? = some c ∧ c.1 = t := fun i t ht => by rw [List.getElem?_map, Option.map_eq_some_iff] at ht; exact ht
  have key := SlIs.row (n₀ := n₀) (W := W) g 0 ch.length (ch.map (·.1)) (fun i => ((ch[i]?).map (·.2.1)).getD (.bool false)) (by simpa using hne) hgn (by simp)
    (fun i t ht => by
      obtain ⟨c, hci, rfl⟩ := hch i t ht
      obtain ⟨h1, h2, h3⟩ := chCells_at ch i c hci
      simp only [Nat.zero_add, hcell, hci, Option.map_some, Option.getD_some]
      exact ⟨h1, h2, h3⟩)
    (fun i t ht => by
      obtain ⟨c, hci, rfl⟩ := hch i t ht
      simp only [hci, Option.map_some, Option.getD_some]
      exact hk c (List.mem_of_getElem? hci))
    (fun i _ => by unfold World.frozen?; simp [hg])
  rw [hlen] at key
  exact key

theorem chCells_set (ch : List Child) (i : Nat) (c c' : Child) (h : ch[i]? = some c) :
    (((chCells ch).set (i * 3) (.string c'.1.nm)).set (i * 3 + 1) (.bool c'.1.vr)).set (i * 3 + 2) c'.2.1 = chCells (ch.set i c') := by
  induction ch generalizing i with
  | nil => simp at h
  | cons p ch ih =>
    cases i with
    | zero => simp at h; subst h; simp [chCells]
    | succ i =>
      have := ih i (by simpa using h)
      have e : ∀ r, (i + 1) * 3 + r = i * 3 + r + 3 := fun r => by omega
      have e0 : (i + 1) * 3 = i * 3 + 3 := by omega
      rw [e, e, e0]
      simp only [chCells, List.flatMap_cons, List.set_cons_succ] at this ⊢
      simpa using this
theorem chCells_set_same (ch : List Child) (i : Nat) (c c' : Child) (h : ch[i]? = some c) (h1 : c'.1.nm = c.1.nm) (h2 : c'.1.vr = c.1.vr) (h3 : c'.2.1 = c.2.1) : chCells (ch.set i c') = chCells ch := by
  induction ch generalizing i with
  | nil => simp at h
  | cons p ch ih =>
    cases i with
    | zero => simp at h; subst h; simp [chCells, h1, h2, h3]
    | succ i => have := ih i (by simpa using h); simp [chCells] at this ⊢; exact this

theorem nodup_flat {ch : List Child} (h : (ch.flatMap (·.2.2)).Nodup) {i j : Nat} {c d : Child} (hi : ch[i]? = some c) (hj : ch[j]? = some d) (hij : i ≠ j) : ∀ k ∈ c.2.2, k ∉ d.2.2 := by
  induction ch generalizing i j with
  | nil => simp at hi
  | cons p ch ih =>
    rw [List.flatMap_cons, List.nodup_append] at h
    obtain ⟨_, h2, h3⟩ := h
    cases i with
    | zero =>
      cases j with
      | zero => omega
      | succ j =>
        simp at hi hj; subst hi
        intro k hk hk2
        exact h3 k hk k (List.mem_flatMap.2 ⟨d, List.mem_of_getElem? hj, hk2⟩) rfl
    | succ i =>
      cases j with
      | zero =>
        simp at hi hj; subst hj
        intro k hk hk2
        exact h3 k hk2 k (List.mem_flatMap.2 ⟨c, List.mem_of_getElem? hi, hk⟩) rfl
      | succ j => exact ih h2 (by simpa using hi) (by simpa using hj) (by omega)
theorem nodup_kid {ch : List Child} (h : (ch.flatMap (·.2.2)).Nodup) {i : Nat} {c : Child} (hi : ch[i]? = some c) : c.2.2.Nodup := by
  induction ch generalizing i with
  | nil => simp at hi
  | cons p ch ih =>
    rw [List.flatMap_cons, List.nodup_append] at h
    cases i with
    | zero => simp at hi; subst hi; exact h.1
    | succ i => exact ih h.2.1 (by simpa using hi)

/-- The store. -/
theorem own_put {e : TypeId} {W V : World} {u : Tm} {su : Value} {n₁ b' o' : Nat}
    (hset : ∀ cur, W.heap[b']? = some (.cells cur e (0, 0)) → V.heap[b']? = some (.cells (((cur.setIfInBounds o' (.string u.nm)).setIfInBounds (o' + 1) (.bool u.vr)).setIfInBounds (o' + 2) su) e (0, 0)))
    (hu : SlIs n₁ V u.ts su) {b o : Nat} {l : List Int} (hst : Steps W b o l b' o') :
    ∀ (t : Tm) (sl : Value) (fp : List Nat), (∀ k ∈ fp, k ≠ b' → V.heap[k]? = W.heap[k]?) → W.cell? ⟨b, o + 2, none⟩ = some sl → SlOwn e W t.ts sl fp → fp.Nodup → (∀ k ∈ fp, k < n₁) → (t.at l).isSome →
      l ≠ [] → b' ∈ fp ∧ SlIs n₁ V (t.put l u).ts sl := by
  induction hst with
  | nil b o => intro t sl fp _ _ _ _ _ _ h; exact absurd rfl h
  | cons b o i l b1 o1 n cap b' o' hi hc hst ih =>
    intro t sl fp hfr hsl hown hnd hlt hat _
    have ih := ih hset
    rw [hc] at hsl
    obtain ⟨ts, rfl⟩ : ∃ ts, ts = t.ts := ⟨_, rfl⟩
    generalize hts : t.ts = ts at hown
    cases hown with
    | nil => cases hsl
    | row g ch cur hne hg hcur hk =>
      simp only [Option.some.injEq, Value.slice.injEq, Addr.mk.injEq] at hsl
      obtain ⟨⟨rfl, rfl, -⟩, rfl, rfl⟩ := hsl
      -- the argument
      have hkid : t.kid i = (ch.map (·.1))[i.toNat]? := by simp only [Tm.kid, if_pos hi, hts]
      simp only [Tm.at] at hat
      obtain ⟨x, hx⟩ : ∃ x, t.kid i = some x := by
        cases hq : t.kid i with
        | none => rw [hq] at hat; simp at hat
        | some x => exact ⟨x, rfl⟩
      rw [hx] at hat
      obtain ⟨c, hci, rfl⟩ : ∃ c : Child, ch[i.toNat]? = some c ∧ c.1 = x := by rw [hkid, List.getElem?_map, Option.map_eq_some_iff] at hx; exact hx
      have hcm := List.mem_of_getElem? hci
      have hnd2 := (List.nodup_cons.1 hnd)
      have hcell : W.cell? ⟨b1, i.toNat * 3 + 2, none⟩ = some c.2.1 := by
        rw [cells_of' hg, ← Array.getElem?_toList, hcur]; exact (chCells_at ch _ c hci).2.2
      have hput : t.put (i :: l) u = .mk t.nm t.vr (t.ts.set i.toNat (c.1.put l u)) := by simp only [Tm.put, hx]
      have hres : (t.put (i :: l) u).ts = (ch.set i.toNat (c.1.put l u, (if l = [] then su else c.2.1), [])).map (·.1) := by
        rw [hput, List.map_set]; simp only [Tm.ts] at hts ⊢; rw [hts]
      rw [Nat.zero_add] at ih hst
      have hlen : (ch.set i.toNat (c.1.put l u, (if l = [] then su else c.2.1), [])).length = ch.length := by simp
      have other : ∀ j d, ch[j]? = some d → j ≠ i.toNat → b' ∉ d.2.2 → SlIs n₁ V d.1.ts d.2.1 := fun j d hd _ hb => by
        have hdm := List.mem_of_getElem? hd
        refine ((hk d hdm).carry (B := V) fun k hkk => hfr k (List.mem_cons_of_mem _ (List.mem_flatMap.2 ⟨d, hdm, hkk⟩)) (by rintro rfl; exact hb hkk)).is fun k hkk => hlt k (List.mem_cons_of_mem _ (List.mem_flatMap.2 ⟨d, hdm, hkk⟩))
      by_cases hl : l = []
      · subst hl
        cases hst
        have hbf : ∀ d ∈ ch, b1 ∉ d.2.2 := fun d hd hb => hnd2.1 (List.mem_flatMap.2 ⟨d, hd, hb⟩)
        refine ⟨by simp, ?_⟩
        rw [hres, ← hlen]
        refine SlIs.ofRow (e := e) (by intro h; have := congrArg List.length h; simp at this; exact hne this) (hset _ hg) (hlt b1 (by simp)) ?_ fun d hd => ?_
        · simp only [Array.toList_setIfInBounds, hcur]
          have := chCells_set ch i.toNat c (u, su, []) hci
          simpa [Tm.put] using this
        · obtain ⟨j, hj⟩ := List.getElem?_of_mem hd
          by_cases hji : j = i.toNat
          · subst hji
            rw [List.getElem?_set_self (by exact (List.getElem?_eq_some_iff.1 hci).1)] at hj
            cases hj
            simpa [Tm.put] using hu
          · rw [List.getElem?_set_ne (by omega)] at hj
            exact other j d hj hji (hbf d (List.mem_of_getElem? hj))
      · obtain ⟨hb', hsl'⟩ := ih c.1 c.2.1 c.2.2 (fun k hkk => hfr k (List.mem_cons_of_mem _ (List.mem_flatMap.2 ⟨c, hcm, hkk⟩))) hcell (hk c hcm) (nodup_kid hnd2.2 hci) (fun k hkk => hlt k (List.mem_cons_of_mem _ (List.mem_flatMap.2 ⟨c, hcm, hkk⟩))) hat hl
        have hbf : b' ∈ ch.flatMap (·.2.2) := List.mem_flatMap.2 ⟨c, hcm, hb'⟩
        refine ⟨List.mem_cons_of_mem _ hbf, ?_⟩
        rw [hres, ← hlen]
        obtain ⟨i1, l1, rfl⟩ : ∃ i1 l1, l = i1 :: l1 := by cases l with | nil => exact absurd rfl hl | cons a b => exact ⟨a, b, rfl⟩
        refine SlIs.ofRow (e := e) (by intro h; have := congrArg List.length h; simp at this; exact hne this) ((hfr b1 (by simp) (by rintro rfl; exact hnd2.1 hbf)).trans hg) (hlt b1 (by simp)) ?_ fun d hd => ?_
        · rw [hcur]
          exact (chCells_set_same ch i.toNat c _ hci (Tm.put_names _ _ _ _).1 (Tm.put_names _ _ _ _).2 (by simp)).symm
        · obtain ⟨j, hj⟩ := List.getElem?_of_mem hd
          by_cases hji : j = i.toNat
          · subst hji
            rw [List.getElem?_set_self (by exact (List.getElem?_eq_some_iff.1 hci).1)] at hj
            cases hj
            simpa using hsl'
          · rw [List.getElem?_set_ne (by omega)] at hj
            exact other j d hj hji (fun hb => nodup_flat hnd2.2 hci hj (fun h => hji h.symm) _ hb' hb)
end Go.Proofs.Ytnomppdmhgefiaa
