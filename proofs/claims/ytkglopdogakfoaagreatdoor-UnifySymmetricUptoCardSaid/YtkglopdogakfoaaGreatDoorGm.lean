/- Merged: LmP, LawM. -/
import Derived.Test.YtkglopdogakfoaaGreatDoorMat
import Derived.Test.YtkglopdogakfoaaGreatDoorVrs
import Derived.Test.YtkglopdogakfoaaGreatDoorGi
import Derived.Test.YtkglopdogakfoaaGreatDoorElm
import Derived.WalkKit
import Derived.ProofKit
import Derived.OpenShut
import Derived.Handy
import Derived.Lib.Hide
import Derived.Deep.RegionHeld3
import Derived.Test.YtkglopdogakfoaaGreatDoorGl
import Derived.Test.YtkglopdogakfoaaGreatDoorAl3
/- Matching: plain facts that its law rests on. -/
namespace Go.Proofs.YtkglopdogakfoaaGreatDoor
open Go.RowKit

theorem imageOf_subK (m : List Bd) (k : Key) : imageOf (subK m) k = imageOf m k := by
  by_cases h : k ∈ m.map (·.1)
  · have hk : k ∈ sortK (m.map (·.1)) := sortK_mem.2 h
    unfold subK
    generalize sortK (m.map (·.1)) = l at hk
    have key : ∀ l : List Key, k ∈ l → imageOf (l.map fun k => (k, imageOf m k)) k = imageOf m k := by
      intro l
      induction l with
      | nil => intro h; cases h
      | cons a l ih =>
        intro h
        by_cases e : a = k
        · subst e; simp [imageOf]
        · have := ih (by simpa [Ne.symm e] using h)
          simpa [imageOf, e] using this
    exact key l hk
  · rw [imageOf_out h, imageOf_out]
    unfold subK
    simp only [List.map_map, List.mem_map, Function.comp_apply]
    rintro ⟨a, ha, rfl⟩
    exact h (sortK_mem.1 ha)
theorem apB_same {S T : List Bd} (h : ∀ k, imageOf S k = imageOf T k) (t : Tm) : apB S t = apB T t := by
  induction t using Tm.ind with
  | h t ih =>
    cases hv : t.vr
    · rw [apB_fun S hv, apB_fun T hv, List.map_congr_left ih]
    · rw [apB_var S hv, apB_var T hv, h]
theorem subK_len (m : List Bd) : (subK m).length = m.length := by unfold subK; rw [List.length_map, sortK_len, List.length_map]
theorem match_sound {p t : Tm} {m : List Bd} (hp : p.bare) (h : mtc p [] t = some m) (hn : (m.map (·.1)).Nodup) : apB (subK m) p = t := by
  rw [apB_same (imageOf_subK m)]
  exact mtc_sound p hp [] t m m h (List.prefix_refl _) hn
theorem match_len {p t : Tm} {m : List Bd} (hp : p.bare) (h : mtc p [] t = some m) : m.map (·.1) = firsts [] p ∧ m.length ≤ p.size := by
  have h1 := (mtc_keys p hp [] t m h).2
  refine ⟨h1, ?_⟩
  have h2 := congrArg List.length h1
  rw [List.length_map] at h2
  rw [h2]; exact firsts_len p
/-- what an instance is matched with -/
theorem match_inst {s : List Bd} {p : Tm} (hp : p.ok) (hs : SubOk s) (h1 : (apB s p).size ≤ 4000) (h2 : (apB s p).depth ≤ 200) :
    (apB s p).ok ∧ (apB s p).bulk ≤ 1048576 ∧ mtc p [] (apB s p) ≠ none ∧ ∀ m, mtc p [] (apB s p) = some m → (m.map (·.1)).Nodup → (∀ r : List Key, r.Pairwise (· < ·) → (∀ x, x ∈ r ↔ x ∈ firsts [] p) → (subK m).length = r.length) ∧ ∀ q ∈ subK m, q.2 = imageOf s q.1 ∧ q.2.bulk ≤ 1048576 := by
  have hf : (apB s p).formed := apB_formed (fun q hq => (hs.terms q hq).1) hp.1
  have hok : (apB s p).ok := ⟨hf, h1, h2⟩
  have hbk : (apB s p).bulk ≤ 1048576 := by have := hok.bulk; omega
  obtain ⟨m', hm', hn', hv'⟩ := mtc_inst s p hp.1.bare [] (by simp) (by simp)
  refine ⟨hok, hbk, by rw [hm']; simp, fun m hm hn => ?_⟩
  obtain rfl : m' = m := by rw [hm'] at hm; exact Option.some.inj hm
  have hk := (match_len hp.1.bare hm').1
  refine ⟨fun r hr hrm => ?_, fun q hq => ?_⟩
  · rw [subK_len]
    have e1 : m'.length = (firsts [] p).length := by rw [← hk, List.length_map]
    rw [e1]
    exact Nat.le_antisymm (nodup_len (by rw [← hk]; exact hn) fun x hx => (hrm x).2 hx) (sorted_len hr hrm)
  · have hb := mtc_vals (fun t => t.bulk ≤ 1048576) (fun t ht u hu => by have := Tm.bulk_mem hu; have := Tm.bulk_eq t; omega) p [] _ m' hm' hbk (by simp)
    unfold subK at hq
    obtain ⟨k, hkm, rfl⟩ := List.mem_map.1 hq
    obtain ⟨q', hq', rfl⟩ := List.mem_map.1 (sortK_mem.1 hkm)
    have e : imageOf m' q'.1 = q'.2 := imageOf_in hn' hq'
    exact ⟨by show imageOf m' q'.1 = _; rw [e]; exact hv' q' hq', by show (imageOf m' q'.1).bulk ≤ _; rw [e]; exact hb q' hq'⟩
end Go.Proofs.YtkglopdogakfoaaGreatDoor
/- The law UnifyMatching. -/
namespace Go.Proofs.YtkglopdogakfoaaGreatDoor
open Go.RowKit

/-- the boxes of the two terms, and the bindings -/
structure LmSt (w W : World) (p t : Tm) (sp st : Value) (s : List Bd) (sv : Value) : Prop where
  a : TBx W w.heap.size p sp
  b : TBx W (w.heap.size + 1) t st
  s : BindsIs w.heap.size W s sv
  low : Below w.heap.size w W
theorem LmSt.carry {w A W : World} {p t : Tm} {sp st : Value} {s : List Bd} {sv : Value} (h : LmSt w A p t sp st s sv) (hb : Below A.heap.size A W) : LmSt w W p t sp st s sv :=
  ⟨h.a.carry hb, h.b.carry hb, h.s.carry (hb.mono h.low.size) (Nat.le_refl _), h.low.trans (hb.mono h.low.size)⟩
theorem LmSt.drew {w A : World} {p t : Tm} {sp st : Value} {s : List Bd} {sv : Value} (h : LmSt w A p t sp st s sv) : LmSt w A.drew p t sp st s sv := h.carry (Below.refl _ A).drew

theorem firsts_nodup' {p : Tm} (hp : p.ok) : (firsts [] p).Nodup := by
  obtain ⟨m', h1, h2, _⟩ := mtc_inst [] p hp.1.bare [] (by simp) (by simp)
  rw [← (match_len hp.1.bare h1).1]; exact h2
theorem sortK_order' {p : Tm} (hp : p.ok) : (sortK (firsts [] p)).Pairwise (· < ·) := sortK_order (firsts_nodup' hp)
theorem sortK_mem' (p : Tm) (x : Key) : x ∈ sortK (firsts [] p) ↔ x ∈ firsts [] p := sortK_mem

end Go.Proofs.YtkglopdogakfoaaGreatDoor
