/- At. -/
import Derived.WalkKit
import Derived.ProofKit
import Derived.OpenShut
import Derived.Handy
import Derived.Lib.Hide
import Derived.Test.YtdeaehkdhghfkaaDoorPutM
namespace Go.Proofs.YtdeaehkdhghfkaaDoor
open Go.RowKit

theorem Tm.kid_mem {t : Tm} {i : Int} {u : Tm} (h : t.kid i = some u) : u ∈ t.ts := by
  unfold Tm.kid at h; split at h
  · exact List.mem_of_getElem? h
  · cases h
theorem Tm.at_bulk {t u : Tm} {l : List Int} (h : t.at l = some u) : u.bulk ≤ t.bulk := by
  induction l generalizing t with
  | nil => simp only [Tm.at, Option.some.injEq] at h; subst h; exact Nat.le_refl _
  | cons i l ih =>
    simp only [Tm.at] at h
    split at h
    · rename_i x hx
      have h1 := ih h
      have h2 := Tm.bulk_mem (Tm.kid_mem hx)
      have h3 := Tm.bulk_eq t
      omega
    · cases h
theorem Tm.formed.at {t u : Tm} (ht : t.formed) {l : List Int} (h : t.at l = some u) : u.formed := by
  induction l generalizing t with
  | nil => simp only [Tm.at, Option.some.injEq] at h; subst h; exact ht
  | cons i l ih =>
    simp only [Tm.at] at h
    split at h
    · rename_i x hx
      exact ih (((Tm.formed_iff t).1 ht).2 x (Tm.kid_mem hx)) h
    · cases h
abbrev Tm.none : Tm := .mk ⟨#[]⟩ false []
/-- a term and a number, in new memory -/
def TmNum (w w' : World) (e : Ending) (u : Tm) (c : Int) : Prop := (∃ sl, e = .returned (.tuple #[tmv u sl, .int .i64 c]) ∧ SlIs w'.heap.size w' u.ts sl) ∧ Below w.heap.size w w'

set_option maxRecDepth 100000 in
set_option maxHeartbeats 1000000 in
theorem at_any (t : Tm) (s : Value) (l : List Int) (v : Value) (w : World) (hs : SlIs w.heap.size w t.ts s) (hl : PosIs w.heap.size w l v) (hll : l.length ≤ 1048576) (hb : t.bulk ≤ 1048576) :
    Calls Tryd.prog 37 #[tmv t s, v] w fun e w' => ∃ u c, TmNum w w' e u c ∧ ((c = 0 ∧ t.ok ∧ t.at l = some u) ∨ (c ≠ 0 ∧ ¬ (t.ok ∧ (t.at l).isSome) ∧ u = Tm.none)) := by
  obtain ⟨oa, cap, rfl, -⟩ := hs.form
  obtain ⟨oa2, cap2, rfl, -⟩ := hl.form
  have HB := Lib.hid hb
  clear hb
  go_enter Tryd.func37, Tryd.ntmps37
  rw [show tmv t (.slice oa t.ts.length cap) = .agg #[.string t.nm, .bool t.vr, .slice oa t.ts.length cap] from rfl]
  go_wp2_with (
    go_at_call 11
    refine (check_any t _ _ (hs.carry (by go_grown) (by simp; omega)) HB.out).mono ?_
    rintro e w1 ⟨⟨c, rfl, hc⟩, hb1⟩
    have hr := (hb1.block (w.heap.size + 1) (by simp)).trans (heap_new_at _ _ _ (by simp))
    have ht := (hb1.block w.heap.size (by simp; omega)).trans ((Below.heap_alloc _ _ _ (by simp)).trans (heap_new_at _ _ _ rfl))
    have hbw := (show Below w.heap.size w ((w.alloc (.cells #[.string t.nm, .bool t.vr, .slice oa t.ts.length cap] 24)).alloc (.cells #[.string ⟨#[]⟩, .bool false, .slice none 0 0] 24)) from by go_grown).trans (hb1.mono (by simp; omega))
    have hz1 := hb1.size
    simp only [World.size_alloc] at hz1
    obtain ⟨⟨r0, r1, r2⟩, f0, f1, f2⟩ := box3 hr
    obtain ⟨⟨t0, t1, t2⟩, -⟩ := box3 ht
    have HR := Lib.hid hr
    have HC := Lib.hid hc
    have HB1 := Lib.hid hb1
    have HBW := Lib.hid hbw
    clear hr ht hc hb1 hbw)
  · have hq := box3_set HR.out (.string ⟨#[]⟩) (.bool false) (.slice none 0 0)
    obtain ⟨⟨q0, q1, q2⟩, -⟩ := box3 hq
    refine bodyPost_ret (v := .tuple #[tmv Tm.none (.slice none 0 0), .int .i64 c]) (by simp [results, Tryd.f37, go_sem, q0, q1, q2, tmv, Tm.nm, Tm.vr]) rfl ?_
    have hc0 : c ≠ 0 := by simpa using (show (c != 0) = true by assumption)
    exact ⟨_, c, ⟨⟨_, rfl, .nil0⟩, below_set3 HBW.out (by omega) _ _ _⟩, .inr ⟨hc0, fun h => hc0 (HC.out.2 h.1), rfl⟩⟩
  · have hc0 : c = 0 := by simpa using (show (c != 0) = false by assumption)
    subst hc0
    have HOK := Lib.hid (HC.out.1 rfl)
    have HL := Lib.hid (hl.carry HBW.out HBW.out.size)
    have HS := Lib.hid (hs.carry HBW.out HBW.out.size)
    cases hat : t.at l with
    | none =>
      have HAT := Lib.hid hat
      clear hat
      go_wp2_with (
        go_at_call 84
        refine (locate_any t w.heap.size 0 w1.heap.size l _ w1 ⟨⟨_, t0, t1, t2, HS.out⟩⟩ HL.out hll HB.out).mono ?_
        rintro e w2 ⟨hcase, rfl⟩
        obtain rfl : e = .returned (.pointer none) := by
          rcases hcase with ⟨u, b', o', -, hu, -⟩ | ⟨h, -⟩
          · rw [HAT.out] at hu; cases hu
          · exact h
        clear hcase)
      have hq := box3_set HR.out (.string ⟨#[]⟩) (.bool false) (.slice none 0 0)
      obtain ⟨⟨q0, q1, q2⟩, -⟩ := box3 hq
      refine bodyPost_ret (v := .tuple #[tmv Tm.none (.slice none 0 0), .int .i64 8]) (by simp [results, Tryd.f37, go_sem, q0, q1, q2, tmv, Tm.nm, Tm.vr]) rfl ?_
      exact ⟨_, 8, ⟨⟨_, rfl, .nil0⟩, below_set3 HBW.out (by omega) _ _ _⟩, .inr ⟨by decide, fun h => by rw [HAT.out] at h; exact absurd h.2 (by simp), rfl⟩⟩
    | some u =>
      have HAT := Lib.hid hat
      have HUB := Lib.hid (Nat.le_trans (Tm.at_bulk hat) HB.out)
      clear hat
      go_wp2_with (
        go_at_call 84
        refine (locate_any t w.heap.size 0 w1.heap.size l _ w1 ⟨⟨_, t0, t1, t2, HS.out⟩⟩ HL.out hll HB.out).mono ?_
        rintro e w2 ⟨hcase, rfl⟩
        obtain ⟨b', o', rfl, HLOC⟩ : ∃ b' o', e = .returned (.pointer (some ⟨b', o', none⟩)) ∧ Hid (Loc w2.heap.size w2 u b' o') := by
          rcases hcase with ⟨u', b', o', he, hu, hloc, -⟩ | ⟨-, h⟩
          · rw [HAT.out] at hu; cases hu; exact ⟨b', o', he, Lib.hid hloc⟩
          · rw [HAT.out] at h; cases h
        clear hcase
        obtain ⟨s2, d0, d1, d2, hs2⟩ := HLOC.out.cells
        obtain ⟨oa3, cap3, rfl, -⟩ := hs2.form
        have HS2 := Lib.hid hs2
        clear hs2)
      refine (clone_any u _ _ HS2.out HUB.out (HOK.out.1.at HAT.out).bare).mono ?_
      rintro e w3 ⟨⟨sl, fp, rfl, ho, -, hf⟩, hb3⟩
      obtain ⟨oa4, n4, c4, rfl⟩ := ho.form
      have hr3 := (hb3.block (w.heap.size + 1) (by omega)).trans HR.out
      obtain ⟨⟨r0, r1, r2⟩, f0, f1, f2⟩ := box3 hr3
      have HR3 := Lib.hid hr3
      have HO := Lib.hid ho
      have HF := Lib.hid hf
      have HB3 := Lib.hid hb3
      clear hr3 ho hf hb3 t0 t1 t2 d0 d1 d2
      dsimp only [tmv]
      go_wp2_with fail
      have hq := box3_set HR3.out (.string u.nm) (.bool u.vr) (.slice oa4 n4 c4)
      obtain ⟨⟨q0, q1, q2⟩, -⟩ := box3 hq
      refine bodyPost_ret (v := .tuple #[tmv u (.slice oa4 n4 c4), .int .i64 0]) (by simp [results, Tryd.f37, go_sem, q0, q1, q2, tmv]) rfl ?_
      have hz3 := HB3.out.size
      refine ⟨_, 0, ⟨⟨_, rfl, ?_⟩, below_set3 (HBW.out.trans (HB3.out.mono (by omega))) (by omega) _ _ _⟩, .inl ⟨rfl, HOK.out, HAT.out⟩⟩
      have ho' := HO.out.carry (B := ((w3.setCell ⟨w.heap.size + 1, 0, none⟩ (.string u.nm)).setCell ⟨w.heap.size + 1, 1, none⟩ (.bool u.vr)).setCell ⟨w.heap.size + 1, 2, none⟩ (.slice oa4 n4 c4)) fun k hk => heap_set3 _ _ _ _ _ _ (by have := HF.out k hk; omega)
      exact ho'.is ho'.lt
end Go.Proofs.YtdeaehkdhghfkaaDoor
