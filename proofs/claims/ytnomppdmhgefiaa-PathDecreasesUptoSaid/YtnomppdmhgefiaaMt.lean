/- Match as a function on terms. No program stands here. -/
import Derived.Test.YtnomppdmhgefiaaFit
import Derived.Test.YtnomppdmhgefiaaBlk
namespace Go.Proofs.Ytnomppdmhgefiaa
open Go.RowKit

theorem imageOf_find {m : List Bd} {k : Key} {p : Bd} (hn : (m.map (·.1)).Nodup) (h : p ∈ m) (hk : p.1 = k) : imageOf m k = p.2 := by
  subst hk; exact imageOf_in hn h
open Classical in
mutual
/-- the pattern matched against a term, m being bound already -/
noncomputable def mtc : Tm → List Bd → Tm → Option (List Bd)
  | .mk nm vr l, m, t =>
    if vr = true then
      if nm.data.toList ∈ m.map (·.1) then (if imageOf m nm.data.toList = t then some m else none)
      else some (m ++ [(nm.data.toList, t)])
    else if t.vr = false ∧ nm = t.nm ∧ l.length = t.ts.length then mtcs l m t.ts else none
noncomputable def mtcs : List Tm → List Bd → List Tm → Option (List Bd)
  | [], m, _ => some m
  | _ :: _, _, [] => none
  | p :: l, m, t :: r => match mtc p m t with
    | some m' => mtcs l m' r
    | none => none
end
theorem mtc_old {p : Tm} {m : List Bd} {t : Tm} (hv : p.vr = true) (h : p.nm.data.toList ∈ m.map (·.1)) (he : imageOf m p.nm.data.toList = t) : mtc p m t = some m := by
  cases p; simp only [Tm.vr, Tm.nm] at *; subst hv; rw [mtc, if_pos rfl, if_pos h, if_pos he]
theorem mtc_clash {p : Tm} {m : List Bd} {t : Tm} (hv : p.vr = true) (h : p.nm.data.toList ∈ m.map (·.1)) (he : imageOf m p.nm.data.toList ≠ t) : mtc p m t = none := by
  cases p; simp only [Tm.vr, Tm.nm] at *; subst hv; rw [mtc, if_pos rfl, if_pos h, if_neg he]
theorem mtc_new {p : Tm} {m : List Bd} {t : Tm} (hv : p.vr = true) (h : p.nm.data.toList ∉ m.map (·.1)) : mtc p m t = some (m ++ [(p.nm.data.toList, t)]) := by
  cases p; simp only [Tm.vr, Tm.nm] at *; subst hv; rw [mtc, if_pos rfl, if_neg h]
theorem mtc_fun {p : Tm} {m : List Bd} {t : Tm} (hv : p.vr = false) (h : t.vr = false ∧ p.nm = t.nm ∧ p.ts.length = t.ts.length) : mtc p m t = mtcs p.ts m t.ts := by
  cases p with
  | mk n v l =>
    have hv' : v = false := hv
    subst hv'
    rw [mtc, if_neg (by simp), if_pos (show t.vr = false ∧ n = t.nm ∧ l.length = t.ts.length from h)]; rfl
theorem mtc_not {p : Tm} {m : List Bd} {t : Tm} (hv : p.vr = false) (h : ¬ (t.vr = false ∧ p.nm = t.nm ∧ p.ts.length = t.ts.length)) : mtc p m t = none := by
  cases p with
  | mk n v l =>
    have hv' : v = false := hv
    subst hv'
    rw [mtc, if_neg (by simp), if_neg (show ¬ (t.vr = false ∧ n = t.nm ∧ l.length = t.ts.length) from h)]
theorem mtcs_snoc (l : List Tm) : ∀ (m : List Bd) (r : List Tm) (p t : Tm), l.length = r.length → mtcs (l ++ [p]) m (r ++ [t]) = (mtcs l m r).bind fun m' => mtc p m' t := by
  induction l with
  | nil =>
    intro m r p t h
    obtain rfl : r = [] := List.length_eq_zero_iff.1 h.symm
    simp only [List.nil_append, mtcs, Option.bind_some]
    cases mtc p m t <;> rfl
  | cons x l ih =>
    intro m r p t h
    cases r with
    | nil => cases h
    | cons y r =>
      simp only [List.cons_append, mtcs]
      cases mtc x m y with
      | none => rfl
      | some m' => exact ih m' r p t (by simpa using h)
theorem mtcs_cut (l : List Tm) : ∀ (m : List Bd) (r : List Tm) (k : Nat), mtcs (l.take k) m (r.take k) = none → mtcs l m r = none := by
  induction l with
  | nil => intro m r k h; simp [mtcs] at h
  | cons x l ih =>
    intro m r k h
    cases r with
    | nil => rfl
    | cons y r =>
      cases k with
      | zero => simp [mtcs] at h
      | succ k =>
        simp only [List.take_succ_cons, mtcs] at h ⊢
        cases hm : mtc x m y with
        | none => rfl
        | some m' => rw [hm] at h; exact ih m' r k h

/-- what is bound stays, and the names that are bound are those met -/
theorem mtc_keys (p : Tm) (hp : p.bare) : ∀ (m : List Bd) (t : Tm) (m' : List Bd), mtc p m t = some m' → m <+: m' ∧ m'.map (·.1) = firsts (m.map (·.1)) p := by
  induction p using Tm.ind with
  | h p ih =>
    intro m t m' h
    cases hv : p.vr
    · by_cases hc : t.vr = false ∧ p.nm = t.nm ∧ p.ts.length = t.ts.length
      · rw [mtc_fun hv hc] at h
        rw [firsts_fun _ hv]
        have key : ∀ (l r : List Tm) (m m' : List Bd), (∀ u ∈ l, u ∈ p.ts) → mtcs l m r = some m' → m <+: m' ∧ m'.map (·.1) = firstsL (m.map (·.1)) l := by
          intro l
          induction l with
          | nil => intro r m m' _ h; simp only [mtcs, Option.some.injEq] at h; subst h; exact ⟨List.prefix_refl _, rfl⟩
          | cons x l ihl =>
            intro r m m' hs h
            cases r with
            | nil => simp [mtcs] at h
            | cons y r =>
              simp only [mtcs] at h
              cases hx : mtc x m y with
              | none => rw [hx] at h; cases h
              | some m1 =>
                rw [hx] at h
                obtain ⟨h1, h2⟩ := ih x (hs x (by simp)) (hp.kids x (hs x (by simp))) m y m1 hx
                obtain ⟨h3, h4⟩ := ihl r m1 m' (fun u hu => hs u (by simp [hu])) h
                exact ⟨h1.trans h3, by rw [h4, h2, firstsL_cons]⟩
        exact key p.ts t.ts m m' (fun u hu => hu) h
      · rw [mtc_not hv hc] at h; cases h
    · rw [firsts_var _ hv]
      by_cases hk : p.nm.data.toList ∈ m.map (·.1)
      · by_cases he : imageOf m p.nm.data.toList = t
        · rw [mtc_old hv hk he] at h; cases h
          exact ⟨List.prefix_refl _, by rw [addKey, if_pos hk]⟩
        · rw [mtc_clash hv hk he] at h; cases h
      · rw [mtc_new hv hk] at h; cases h
        exact ⟨List.prefix_append _ _, by rw [addKey, if_neg hk, List.map_append]; rfl⟩
theorem imageOf_ext {m m' : List Bd} (h : m <+: m') (hn : (m'.map (·.1)).Nodup) {k : Key} (hk : k ∈ m.map (·.1)) : imageOf m' k = imageOf m k := by
  obtain ⟨e, rfl⟩ := h
  obtain ⟨p, hp, rfl⟩ := List.mem_map.1 hk
  have hn1 : (m.map (·.1)).Nodup := by rw [List.map_append] at hn; exact (List.nodup_append.1 hn).1
  rw [imageOf_in hn1 hp, imageOf_in hn (List.mem_append.2 (.inl hp))]
/-- what is bound makes the pattern the term -/
theorem mtc_sound (p : Tm) (hp : p.bare) : ∀ (m : List Bd) (t : Tm) (m' S : List Bd), mtc p m t = some m' → m' <+: S → (S.map (·.1)).Nodup → apB S p = t := by
  induction p using Tm.ind with
  | h p ih =>
    intro m t m' S h hS hn
    cases hv : p.vr
    · by_cases hc : t.vr = false ∧ p.nm = t.nm ∧ p.ts.length = t.ts.length
      · rw [mtc_fun hv hc] at h
        rw [apB_fun S hv]
        have key : ∀ (l r : List Tm) (m m' : List Bd), (∀ u ∈ l, u ∈ p.ts) → l.length = r.length → mtcs l m r = some m' → m' <+: S → l.map (apB S) = r := by
          intro l
          induction l with
          | nil => intro r m m' _ hl _ _; rw [List.length_eq_zero_iff.1 hl.symm]; rfl
          | cons x l ihl =>
            intro r m m' hs hl h hS
            cases r with
            | nil => simp [mtcs] at h
            | cons y r =>
              simp only [mtcs] at h
              cases hx : mtc x m y with
              | none => rw [hx] at h; cases h
              | some m1 =>
                rw [hx] at h
                have hpre : m1 <+: m' := by
                  have k2 : ∀ (l r : List Tm) (m m' : List Bd), (∀ u ∈ l, u.bare) → mtcs l m r = some m' → m <+: m' := by
                    intro l
                    induction l with
                    | nil => intro r m m' _ h; simp only [mtcs, Option.some.injEq] at h; subst h; exact List.prefix_refl _
                    | cons x l ihl =>
                      intro r m m' hs h
                      cases r with
                      | nil => simp [mtcs] at h
                      | cons y r =>
                        simp only [mtcs] at h
                        cases hx : mtc x m y with
                        | none => rw [hx] at h; cases h
                        | some m1 => rw [hx] at h; exact (mtc_keys x (hs x (by simp)) m y m1 hx).1.trans (ihl r m1 m' (fun u hu => hs u (by simp [hu])) h)
                  exact k2 l r m1 m' (fun u hu => hp.kids u (hs u (by simp [hu]))) h
                rw [List.map_cons, ih x (hs x (by simp)) (hp.kids x (hs x (by simp))) m y m1 S hx (hpre.trans hS) hn, ihl r m1 m' (fun u hu => hs u (by simp [hu])) (by simpa using hl) h hS]
        rw [key p.ts t.ts m m' (fun u hu => hu) hc.2.2 h hS]
        exact Tm.ext' (a := .mk p.nm false t.ts) (b := t) hc.2.1 hc.1.symm rfl
      · rw [mtc_not hv hc] at h; cases h
    · rw [apB_var S hv]
      by_cases hk : p.nm.data.toList ∈ m.map (·.1)
      · by_cases he : imageOf m p.nm.data.toList = t
        · rw [mtc_old hv hk he] at h; cases h
          rw [imageOf_ext hS hn hk, he]
        · rw [mtc_clash hv hk he] at h; cases h
      · rw [mtc_new hv hk] at h; cases h
        exact imageOf_in hn (p := (p.nm.data.toList, t)) (hS.subset (by simp))
/-- what is bound is part of the term -/
theorem mtc_vals (Q : Tm → Prop) (hQ : ∀ t, Q t → ∀ u ∈ t.ts, Q u) (p : Tm) : ∀ (m : List Bd) (t : Tm) (m' : List Bd), mtc p m t = some m' → Q t → (∀ q ∈ m, Q q.2) → ∀ q ∈ m', Q q.2 := by
  induction p using Tm.ind with
  | h p ih =>
    intro m t m' h ht hm
    cases hv : p.vr
    · by_cases hc : t.vr = false ∧ p.nm = t.nm ∧ p.ts.length = t.ts.length
      · rw [mtc_fun hv hc] at h
        have key : ∀ (l r : List Tm) (m m' : List Bd), (∀ u ∈ l, u ∈ p.ts) → (∀ u ∈ r, Q u) → mtcs l m r = some m' → (∀ q ∈ m, Q q.2) → ∀ q ∈ m', Q q.2 := by
          intro l
          induction l with
          | nil => intro r m m' _ _ h hm; simp only [mtcs, Option.some.injEq] at h; subst h; exact hm
          | cons x l ihl =>
            intro r m m' hs hr h hm
            cases r with
            | nil => simp [mtcs] at h
            | cons y r =>
              simp only [mtcs] at h
              cases hx : mtc x m y with
              | none => rw [hx] at h; cases h
              | some m1 =>
                rw [hx] at h
                exact ihl r m1 m' (fun u hu => hs u (by simp [hu])) (fun u hu => hr u (by simp [hu])) h (ih x (hs x (by simp)) m y m1 hx (hr y (by simp)) hm)
        exact key p.ts t.ts m m' (fun u hu => hu) (hQ t ht) h hm
      · rw [mtc_not hv hc] at h; cases h
    · by_cases hk : p.nm.data.toList ∈ m.map (·.1)
      · by_cases he : imageOf m p.nm.data.toList = t
        · rw [mtc_old hv hk he] at h; cases h; exact hm
        · rw [mtc_clash hv hk he] at h; cases h
      · rw [mtc_new hv hk] at h; cases h
        intro q hq
        rcases List.mem_append.1 hq with hq | hq
        · exact hm q hq
        · obtain rfl := List.mem_singleton.1 hq; exact ht
/-- an instance is matched, by what it is an instance with -/
theorem mtc_inst (s : List Bd) (p : Tm) (hp : p.bare) : ∀ (m : List Bd), (m.map (·.1)).Nodup → (∀ q ∈ m, q.2 = imageOf s q.1) → ∃ m', mtc p m (apB s p) = some m' ∧ (m'.map (·.1)).Nodup ∧ ∀ q ∈ m', q.2 = imageOf s q.1 := by
  induction p using Tm.ind with
  | h p ih =>
    intro m hn hm
    cases hv : p.vr
    · have ha := apB_fun s hv
      have hc : (apB s p).vr = false ∧ p.nm = (apB s p).nm ∧ p.ts.length = (apB s p).ts.length := by rw [ha]; exact ⟨rfl, rfl, by simp [Tm.ts]⟩
      rw [mtc_fun hv hc, ha]
      have key : ∀ (l : List Tm) (m : List Bd), (∀ u ∈ l, u ∈ p.ts) → (m.map (·.1)).Nodup → (∀ q ∈ m, q.2 = imageOf s q.1) → ∃ m', mtcs l m (l.map (apB s)) = some m' ∧ (m'.map (·.1)).Nodup ∧ ∀ q ∈ m', q.2 = imageOf s q.1 := by
        intro l
        induction l with
        | nil => intro m _ hn hm; exact ⟨m, rfl, hn, hm⟩
        | cons x l ihl =>
          intro m hs hn hm
          obtain ⟨m1, h1, h2, h3⟩ := ih x (hs x (by simp)) (hp.kids x (hs x (by simp))) m hn hm
          obtain ⟨m2, h4, h5, h6⟩ := ihl m1 (fun u hu => hs u (by simp [hu])) h2 h3
          exact ⟨m2, by simp only [List.map_cons, mtcs, h1, h4], h5, h6⟩
      exact key p.ts m (fun u hu => hu) hn hm
    · rw [apB_var s hv]
      by_cases hk : p.nm.data.toList ∈ m.map (·.1)
      · obtain ⟨q, hq, hqe⟩ := List.mem_map.1 hk
        have he : imageOf m p.nm.data.toList = imageOf s p.nm.data.toList := by rw [← hqe, imageOf_in hn hq, hm q hq]
        exact ⟨m, mtc_old hv hk he, hn, hm⟩
      · refine ⟨_, mtc_new hv hk, ?_, ?_⟩
        · rw [List.map_append]
          refine List.nodup_append.2 ⟨hn, by simp, fun a ha b hb e => ?_⟩
          simp at hb; subst hb; subst e; exact hk ha
        · intro q hq
          rcases List.mem_append.1 hq with hq | hq
          · exact hm q hq
          · obtain rfl := List.mem_singleton.1 hq; rfl
end Go.Proofs.Ytnomppdmhgefiaa
