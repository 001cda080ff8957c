/- Put. -/
import Derived.WalkKit
import Derived.ProofKit
import Derived.OpenShut
import Derived.Handy
import Derived.Lib.Hide
import Derived.Test.YthefphfgcpihjaaDoorAt
namespace Go.Proofs.YthefphfgcpihjaaDoor
open Go.RowKit

theorem bulks_set {l : List Tm} {i : Nat} {x y : Tm} (h : l[i]? = some x) : Tm.bulks (l.set i y) + x.bulk = Tm.bulks l + y.bulk := by
  induction l generalizing i with
  | nil => simp at h
  | cons z l ih =>
    cases i with
    | zero => simp at h; subst h; simp [Tm.bulks]; omega
    | succ i => have := ih (i := i) (by simpa using h); simp [Tm.bulks]; omega
theorem Tm.put_bulk (t : Tm) (l : List Int) (u : Tm) : (t.put l u).bulk ≤ t.bulk + u.bulk := by
  induction l generalizing t with
  | nil => simp only [Tm.put]; omega
  | cons i l ih =>
    simp only [Tm.put]
    split
    · rename_i x hx
      have h1 := ih x
      unfold Tm.kid at hx
      split at hx
      · have h2 := bulks_set (y := x.put l u) hx
        have h3 := Tm.bulk_eq t
        rw [Tm.bulk_eq]; simp only [Tm.nm, Tm.ts] at h2 h3 ⊢; omega
      · cases hx
    · omega
theorem Steps.carry {A B : World} (h : Below A.heap.size A B) {b o b' o' : Nat} {l : List Int} (hs : Steps A b o l b' o') : Steps B b o l b' o' := by
  induction hs with
  | nil b o => exact .nil _ _
  | cons b o i l b1 o1 n cap b' o' hi hc _ ih =>
    refine .cons _ _ _ _ b1 o1 n cap _ _ hi ?_ ih
    by_cases hb : b < A.heap.size
    · exact (h.cell (p := ⟨b, _, none⟩) hb).trans hc
    · exfalso
      unfold World.cell? at hc
      rw [Array.getElem?_eq_none (by show _ ≤ b; omega)] at hc
      cases hc
theorem SlOwn.blocks {e : TypeId} {W : World} {l : List Tm} {s : Value} {fp : List Nat} (h : SlOwn e W l s fp) : ∀ k ∈ fp, ∃ cur, W.heap[k]? = some (.cells cur e (0, 0)) := by
  induction h with
  | nil => simp
  | row g ch cur hne hg hc _ ih =>
    intro k hk
    rcases List.mem_cons.1 hk with rfl | hk
    · exact ⟨_, hg⟩
    · obtain ⟨c, hcm, hk⟩ := List.mem_flatMap.1 hk
      exact ih c hcm k hk
/-- a place's block is the root's or one of its own -/
theorem own_place {e : TypeId} {W : World} {b o b' o' : Nat} {l : List Int} (hst : Steps W b o l b' o') :
    ∀ (t : Tm) (sl : Value) (fp : List Nat), W.cell? ⟨b, o + 2, none⟩ = some sl → SlOwn e W t.ts sl fp → (t.at l).isSome → l ≠ [] → b' ∈ fp := by
  induction hst with
  | nil b o => intro t sl fp _ _ _ h; exact absurd rfl h
  | cons b o i l b1 o1 n cap b' o' hi hc hst ih =>
    intro t sl fp hsl hown hat _
    rw [hc] at hsl
    obtain ⟨ts, rfl⟩ : ∃ ts, ts = t.ts := ⟨_, rfl⟩
    generalize hts : t.ts = ts at hown
    cases hown with
    | nil => cases hsl
    | row g ch cur hne hg hcur hk =>
      simp only [Option.some.injEq, Value.slice.injEq, Addr.mk.injEq] at hsl
      obtain ⟨⟨rfl, rfl, -⟩, rfl, rfl⟩ := hsl
      have hkid : t.kid i = (ch.map (·.1))[i.toNat]? := by simp only [Tm.kid, if_pos hi, hts]
      simp only [Tm.at] at hat
      obtain ⟨x, hx⟩ : ∃ x, t.kid i = some x := by
        cases hq : t.kid i with
        | none => rw [hq] at hat; simp at hat
        | some x => exact ⟨x, rfl⟩
      rw [hx] at hat
      obtain ⟨c, hci, rfl⟩ : ∃ c : Child, ch[i.toNat]? = some c ∧ c.1 = x := by rw [hkid, List.getElem?_map, Option.map_eq_some_iff] at hx; exact hx
      have hcm := List.mem_of_getElem? hci
      by_cases hl : l = []
      · subst hl; cases hst; simp
      · have hcell : W.cell? ⟨b1, 0 + i.toNat * 3 + 2, none⟩ = some c.2.1 := by
          rw [cells_of' hg, ← Array.getElem?_toList, hcur, Nat.zero_add]; exact (chCells_at ch _ c hci).2.2
        exact List.mem_cons_of_mem _ (List.mem_flatMap.2 ⟨c, hcm, ih c.1 _ _ hcell (hk c hcm) hat hl⟩)

/-- what a store at a place leaves -/
theorem put_mem {e : TypeId} {W : World} {t u : Tm} {sl su : Value} {fp : List Nat} {b b' o' : Nat} {l : List Int} (hst : Steps W b 0 l b' o') (hb : W.heap[b]? = some (.cells #[.string t.nm, .bool t.vr, sl] e (0, 0)))
    (ho : SlOwn e W t.ts sl fp) (hnd : fp.Nodup) (hbf : b ∉ fp) (hat : (t.at l).isSome) :
    ∃ sr, ∀ (V : World) (n₁ : Nat), (∀ k, k = b ∨ k ∈ fp → k ≠ b' → V.heap[k]? = W.heap[k]?) →
      (∀ cur, W.heap[b']? = some (.cells cur e (0, 0)) → V.heap[b']? = some (.cells (((cur.setIfInBounds o' (.string u.nm)).setIfInBounds (o' + 1) (.bool u.vr)).setIfInBounds (o' + 2) su) e (0, 0))) →
      SlIs n₁ V u.ts su → (∀ k ∈ fp, k < n₁) →
      V.heap[b]? = some (.cells #[.string (t.put l u).nm, .bool (t.put l u).vr, sr] e (0, 0)) ∧ SlIs n₁ V (t.put l u).ts sr := by
  have hcell : W.cell? ⟨b, 0 + 2, none⟩ = some sl := by have := cells_of' hb 2; simpa using this
  by_cases hl : l = []
  · subst hl
    cases hst
    refine ⟨su, fun V n₁ hfr hset hu hlt => ⟨?_, hu⟩⟩
    have := hset _ hb
    simpa [Tm.put] using this
  · refine ⟨sl, fun V n₁ hfr hset hu hlt => ?_⟩
    obtain ⟨hb', hs'⟩ := own_put hset hu hst t sl fp (fun k hk => hfr k (.inr hk)) hcell ho hnd hlt hat hl
    obtain ⟨i, l', rfl⟩ : ∃ i l', l = i :: l' := by cases l with | nil => exact absurd rfl hl | cons a b => exact ⟨a, b, rfl⟩
    refine ⟨?_, hs'⟩
    rw [(Tm.put_names t i l' u).1, (Tm.put_names t i l' u).2]
    exact (hfr b (.inl rfl) (by rintro rfl; exact hbf hb')).trans hb
end Go.Proofs.YthefphfgcpihjaaDoor
