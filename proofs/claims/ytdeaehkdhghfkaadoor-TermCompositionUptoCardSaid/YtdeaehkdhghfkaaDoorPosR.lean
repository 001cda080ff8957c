/- Positions; positions compared. -/
import Derived.WalkKit
import Derived.ProofKit
import Derived.OpenShut
import Derived.Handy
import Derived.Lib.Hide
import Derived.BigQuiet
import Derived.Test.YtdeaehkdhghfkaaDoorPosn
namespace Go.Proofs.YtdeaehkdhghfkaaDoor
open Go.RowKit

set_option maxHeartbeats 1000000 in
theorem positions_any (t : Tm) (s : Value) (w : World) (hs : SlIs w.heap.size w t.ts s) (hb : t.bulk ≤ 1048576) :
    Calls Tryd.prog 36 #[tmv t s] w fun e w' => (∃ v c, e = .returned (.tuple #[v, .int .i64 c]) ∧
      ((c = 0 ∧ t.ok ∧ ∃ l, w'.ownsRow w.heap.size 51 1 v l.length l ∧ Hs w.heap.size w' (t.positions []) l) ∨ (c ≠ 0 ∧ ¬ t.ok))) ∧ Below w.heap.size w w' := by
  obtain ⟨oa, cap, rfl, -⟩ := hs.form
  have HB := Lib.hid hb
  have hz := Tm.size_bulk t
  have hd := Tm.depth_size t
  clear hb
  go_enter Tryd.func36, Tryd.ntmps36
  rw [show tmv t (.slice oa t.ts.length cap) = .agg #[.string t.nm, .bool t.vr, .slice oa t.ts.length cap] from rfl]
  go_wp2_with (
    go_at_call 11
    refine (check_any t _ _ (hs.carry (by go_grown) (by simp)) HB.out).mono ?_
    rintro e w1 ⟨⟨c, rfl, hc⟩, hb1⟩
    have ht := (hb1.block w.heap.size (by simp)).trans (heap_new_at _ _ _ rfl)
    have hbw := (show Below w.heap.size w (w.alloc (.cells #[.string t.nm, .bool t.vr, .slice oa t.ts.length cap] 24)) from by go_grown).trans (hb1.mono (by simp))
    obtain ⟨⟨t0, t1, t2⟩, -⟩ := box3 ht
    have HC := Lib.hid hc
    have HBW := Lib.hid hbw
    clear ht hc hb1 hbw)
  · have hc0 : c ≠ 0 := by simpa using (show (c != 0) = true by assumption)
    refine bodyPost_ret (v := .tuple #[.slice none 0 0, .int .i64 c]) (by simp [results, Tryd.f36, go_sem]) rfl ?_
    exact ⟨⟨_, c, rfl, .inr ⟨hc0, fun h => hc0 (HC.out.2 h)⟩⟩, HBW.out⟩
  · have hc0 : c = 0 := by simpa using (show (c != 0) = false by assumption)
    subst hc0
    have HS := Lib.hid (hs.carry HBW.out HBW.out.size)
    refine (appendPositions_any t _ (.slice none 0 0) (.slice none 0 0) [] [] w1.heap.size w1 HS.out (Nat.le_refl _) (World.ownsRow_nil _ _ _ _) (World.ownsRow_nil _ _ _ _) (by have := HB.out; simp; omega) (by have := HB.out; simp; omega) HB.out).mono ?_
    rintro e w2 ⟨a, hk, rfl, r⟩
    have hzw := HBW.out.size
    have hb2 : Below w1.heap.size w1 w2 := r.fr.below (Nat.le_refl _) (fun j hj => by cases hj) (fun j hj => by cases hj)
    have hrow := r.rall
    obtain ⟨va, vc, rfl, -⟩ := ownsRow_form hrow
    have hheads := r.heads
    rw [List.take_length, ← Tm.positions_eq] at hheads
    simp only [List.length_nil, Nat.zero_add, List.nil_append] at hrow
    have HROW := Lib.hid hrow
    have HHD := Lib.hid hheads
    have HB2 := Lib.hid hb2
    clear r hrow hheads hb2
    go_wp2_with fail
    refine bodyPost_ret (v := .tuple #[.slice va ([] ++ hk).length vc, .int .i64 0]) (by simp [results, Tryd.f36, go_sem]) rfl ?_
    have hzw' := hzw
    exact ⟨⟨_, 0, rfl, .inl ⟨rfl, HC.out.1 (by first | trivial | rfl), hk, ownsRow_mono (by simpa using HROW.out) hzw, HHD.out.kept (fun v p h => ownsRow_mono h hzw)⟩⟩, HBW.out.trans (HB2.out.mono hzw)⟩

end Go.Proofs.YtdeaehkdhghfkaaDoor
