/- Names in their order, renamings, a term in a box. -/
import Derived.WalkKit
import Derived.ProofKit
import Derived.OpenShut
import Derived.Handy
import Derived.Lib.Hide
import Derived.Deep.RegionHeld3
import Derived.Test.YtdnkommcnkbeeaaApp2
import Derived.Test.YtdnkommcnkbeeaaFst2
import Derived.Test.YtdnkommcnkbeeaaCmp2
namespace Go.Proofs.Ytdnkommcnkbeeaa
open Go.RowKit

theorem addKey_nodup {ss : List Key} (h : ss.Nodup) (k : Key) : (addKey ss k).Nodup := by
  unfold addKey
  split
  · exact h
  · rename_i hk
    rw [List.nodup_append]
    exact ⟨h, by simp, fun a ha b hb e => by simp only [List.mem_singleton] at hb; subst hb; subst e; exact hk ha⟩
theorem firsts_nodup (t : Tm) : ∀ ss : List Key, ss.Nodup → (firsts ss t).Nodup := by
  induction t using Tm.ind with
  | h t ih =>
    intro ss hs
    cases hv : t.vr
    · rw [firsts_fun ss hv]
      revert ih hs ss
      generalize t.ts = l
      intro ih ss hs
      induction l generalizing ss with
      | nil => exact hs
      | cons x l ihl => rw [firstsL_cons]; exact ihl (fun u hu => ih u (by simp [hu])) _ (ih x (by simp) ss hs)
    · rw [firsts_var ss hv]; exact addKey_nodup hs _
theorem imageOf_of {bl : List Bd} {k : Key} {x : Tm} (h : ∃ p ∈ bl, p.1 = k) (hx : ∀ p ∈ bl, p.1 = k → p.2 = x) : imageOf bl k = x := by
  unfold imageOf
  cases hf : bl.find? (fun p => decide (p.1 = k)) with
  | none =>
    obtain ⟨p, hp, e⟩ := h
    exact absurd e (by simpa using List.find?_eq_none.1 hf p hp)
  | some p => exact hx p (List.mem_of_find?_eq_some hf) (by simpa using List.find?_some hf)
theorem apB_ren (bl : List Bd) (g : Key → ByteArray) (t : Tm) : ∀ ss, (∀ k ∈ firsts ss t, imageOf bl k = .mk (g k) true []) → apB bl t = ren g t := by
  induction t using Tm.ind with
  | h t ih =>
    intro ss hk
    cases hv : t.vr
    · rw [apB_fun bl hv, ren_fun _ hv, rens_eq]
      rw [firsts_fun ss hv] at hk
      simp only [Tm.mk.injEq, true_and]
      revert ih hk ss
      generalize t.ts = l
      intro ih ss hk
      induction l generalizing ss with
      | nil => rfl
      | cons x l ihl =>
        rw [firstsL_cons] at hk
        rw [List.map_cons, List.map_cons, ih x (by simp) ss (fun k hk' => hk k ((firstsL_pre l (fun u _ => firsts_pre u) _).subset hk')), ihl (fun u hu => ih u (by simp [hu])) _ hk]
    · rw [firsts_var ss hv] at hk
      rw [apB_var bl hv, ren_var _ hv, hk _ (addKey_mem _ _)]
theorem idx_nodup {l : List Key} (h : l.Nodup) {m : Nat} {k : Key} (hm : l[m]? = some k) : l.idxOf k = m := by
  induction l generalizing m with
  | nil => simp at hm
  | cons x l ih =>
    rw [List.nodup_cons] at h
    rw [List.idxOf_cons]
    cases m with
    | zero => simp at hm; subst hm; simp
    | succ m =>
      have hm' : l[m]? = some k := by simpa using hm
      have hne : (x == k) = false := by rw [beq_eq_false_iff_ne]; rintro rfl; exact h.1 (List.mem_of_getElem? hm')
      rw [hne, cond_false, ih h.2 hm']
/-- a term renamed as Renaming says is its canonical form -/
theorem apB_canon (bl : List Bd) (t : Tm) (h1 : ∀ p ∈ bl, ∃ m, (firsts [] t)[m]? = some p.1 ∧ p.2 = .mk (xname digN m) true []) (h2 : ∀ k ∈ firsts [] t, ∃ p ∈ bl, p.1 = k) : apB bl t = canon t := by
  rw [canon_ren]
  refine apB_ren bl _ t [] fun k hk => imageOf_of (h2 k hk) fun p hp e => ?_
  obtain ⟨m, hm, hx⟩ := h1 p hp
  rw [hx]
  have hnd := firsts_nodup t [] List.nodup_nil
  rw [idx_nodup hnd (by rw [hm, e])]

/-- a term in a box -/
structure TBx (W : World) (b : Nat) (t : Tm) (s : Value) : Prop where
  box : W.heap[b]? = some (.cells #[.string t.nm, .bool t.vr, s] 34 (0, 0))
  is : SlIs W.heap.size W t.ts s
theorem TBx.carry {A W : World} {b : Nat} {t : Tm} {s : Value} (h : TBx A b t s) (hb : Below A.heap.size A W) : TBx W b t s :=
  ⟨(hb.block b (Array.getElem?_eq_some_iff.1 h.box).1).trans h.box, h.is.carry hb hb.size⟩
theorem TBx.new {A : World} {t : Tm} {s : Value} (h : SlIs A.heap.size A t.ts s) : TBx (A.alloc (.cells #[.string t.nm, .bool t.vr, s] 34)) A.heap.size t s :=
  ⟨heap_new_at _ _ _ rfl, h.carry ((Below.refl _ A).alloc (Nat.le_refl _) _) (by simp)⟩
theorem firsts_names (t : Tm) : ∀ ss : List Key, (∀ x ∈ ss, x.length ≤ 1048576) → t.bulk ≤ 1048576 → ∀ x ∈ firsts ss t, x.length ≤ 1048576 := by
  induction t using Tm.ind with
  | h t ih =>
    intro ss hs hb
    have hbe := Tm.bulk_eq t
    cases hv : t.vr
    · rw [firsts_fun ss hv]
      have hkid : ∀ u ∈ t.ts, u.bulk ≤ 1048576 := fun u hu => by have := Tm.bulk_mem hu; omega
      revert ih hs ss hkid
      generalize t.ts = l
      intro ih ss hs hkid
      induction l generalizing ss with
      | nil => exact hs
      | cons x l ihl => rw [firstsL_cons]; exact ihl (fun u hu => ih u (by simp [hu])) _ (ih x (by simp) ss hs (hkid x (by simp))) (fun u hu => hkid u (by simp [hu]))
    · rw [firsts_var ss hv]
      intro x hx
      unfold addKey at hx
      split at hx
      · exact hs x hx
      · rcases List.mem_append.1 hx with hx | hx
        · exact hs x hx
        · obtain rfl := List.mem_singleton.1 hx
          rw [bytes_len]; omega

end Go.Proofs.Ytdnkommcnkbeeaa
