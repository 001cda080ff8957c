/- Slices of bindings; the reference's Image and Renaming. -/
import Derived.WalkKit
import Derived.ProofKit
import Derived.OpenShut
import Derived.Handy
import Derived.Lib.Hide
import Derived.Test.YtdnkommcnkbeeaaIns2
import Derived.Test.YtdnkommcnkbeeaaSz
namespace Go.Proofs.Ytdnkommcnkbeeaa
open Go.RowKit

abbrev Bd := Key × Tm
/-- the slice value v holds these bindings, in blocks below n -/
def BindsIs (n : Nat) (W : World) (bl : List Bd) (v : Value) : Prop :=
  ∃ oa cap, v = .slice oa bl.length cap ∧ bl.length ≤ cap ∧
    (bl ≠ [] → ∃ b o, oa = some ⟨b, o, none⟩ ∧ b < n ∧ ∀ i p, bl[i]? = some p → ∃ s, W.cell? ⟨b, o + i * 4, none⟩ = some (.string (kb p.1)) ∧ W.cell? ⟨b, o + i * 4 + 1, none⟩ = some (.string p.2.nm) ∧ W.cell? ⟨b, o + i * 4 + 2, none⟩ = some (.bool p.2.vr) ∧ W.cell? ⟨b, o + i * 4 + 3, none⟩ = some s ∧ SlIs n W p.2.ts s)
theorem BindsIs.carry {n m : Nat} {A B : World} {l : List Bd} {v : Value} (h : BindsIs n A l v) (hb : Below n A B) (hn : n ≤ m) : BindsIs m B l v := by
  obtain ⟨oa, cap, rfl, h1, h3⟩ := h
  refine ⟨oa, cap, rfl, h1, fun hne => ?_⟩
  obtain ⟨b, o, rfl, hbn, hc⟩ := h3 hne
  refine ⟨b, o, rfl, by omega, fun i p hk => ?_⟩
  obtain ⟨s, c0, c1, c2, c3, hs⟩ := hc i p hk
  exact ⟨s, (hb.cell (p := ⟨b, _, none⟩) hbn).trans c0, (hb.cell (p := ⟨b, _, none⟩) hbn).trans c1, (hb.cell (p := ⟨b, _, none⟩) hbn).trans c2, (hb.cell (p := ⟨b, _, none⟩) hbn).trans c3, hs.carry hb hn⟩

/-- what a name stands for -/
def imageOf (bl : List Bd) (k : Key) : Tm := match bl.find? (fun p => decide (p.1 = k)) with
  | some p => p.2
  | none => .mk (kb k) true []
theorem imageOf_hit {bl : List Bd} {k : Key} {j : Nat} {p : Bd} (h : ∀ q ∈ bl.take j, q.1 ≠ k) (hp : bl[j]? = some p) (hk : p.1 = k) : imageOf bl k = p.2 := by
  have hlt := (List.getElem?_eq_some_iff.1 hp).1
  have e : bl = bl.take j ++ p :: bl.drop (j + 1) := by
    have h1 := List.take_append_drop j bl
    rw [List.drop_eq_getElem_cons hlt] at h1
    have h2 := (List.getElem?_eq_some_iff.1 hp).2
    rw [h2] at h1
    exact h1.symm
  unfold imageOf
  rw [e, List.find?_append, List.find?_eq_none.2 (fun q hq => by simpa using h q hq)]
  simp [hk]
theorem imageOf_miss {bl : List Bd} {k : Key} (h : ∀ q ∈ bl, q.1 ≠ k) : imageOf bl k = .mk (kb k) true [] := by
  unfold imageOf
  rw [List.find?_eq_none.2 (fun q hq => by simpa using h q hq)]
theorem box4 {W : World} {b : Nat} {x y z u : Value} {e : TypeId} (h : W.heap[b]? = some (.cells #[x, y, z, u] e (0, 0))) :
    W.cell? ⟨b, 0, none⟩ = some x ∧ W.cell? ⟨b, 1, none⟩ = some y ∧ W.cell? ⟨b, 2, none⟩ = some z ∧ W.cell? ⟨b, 3, none⟩ = some u :=
  ⟨cells_of' h 0, cells_of' h 1, cells_of' h 2, cells_of' h 3⟩

set_option maxRecDepth 100000 in
set_option maxHeartbeats 2000000 in
theorem rimage_any (bl : List Bd) (k : Key) (v : Value) (w : World) (n : Nat) (hn : n ≤ w.heap.size) (hl : BindsIs n w bl v) (hlen : bl.length ≤ 100000000) :
    Calls Try.prog 39 #[v, .string (kb k)] w fun e w' => (∃ sl, e = .returned (tmv (imageOf bl k) sl) ∧ SlIs n w' (imageOf bl k).ts sl) ∧ Below w.heap.size w w' := by
  obtain ⟨oa, cap, rfl, hcap, hc⟩ := hl
  have HC := Lib.hid hc
  clear hc
  have hr0 : Below w.heap.size w (w.alloc (.cells #[.string ⟨#[]⟩, .bool false, .slice none 0 0] 34)) := by go_grown
  have HR0 := Lib.hid (heap_new_at w (.cells #[.string ⟨#[]⟩, .bool false, .slice none 0 0] 34) w.heap.size rfl)
  have HB0 := Lib.hid hr0
  clear hr0
  go_enter Try.func39, Try.ntmps39
  go_wp2_with fail
  go_loopw [9] (fun i wr => ∃ j : Nat, j ≤ bl.length ∧ i = .int .i64 j ∧ Hid (∀ q ∈ bl.take j, q.1 ≠ k) ∧ Below (w.heap.size + 1) (w.alloc (.cells #[.string ⟨#[]⟩, .bool false, .slice none 0 0] 34)) wr) (fun i _ => bl.length - (intOf i).toNat)
  case atStart => exact ⟨0, by omega, rfl, Lib.hid (by simp), Below.refl _ _⟩
  case round =>
    obtain ⟨j, hj, rfl, HE, hbw⟩ := hrel
    have hz := hbw.size
    simp only [World.size_alloc] at hz
    have hwr := HB0.out.trans (hbw.mono (by omega))
    have HWR := Lib.hid hwr
    by_cases hlt : j < bl.length
    · obtain ⟨p, hp⟩ : ∃ p, bl[j]? = some p := ⟨_, List.getElem?_eq_getElem hlt⟩
      obtain ⟨b1, o1, rfl, hbn, hc1⟩ := HC.out (by rintro rfl; simp at hlt)
      obtain ⟨s, c0, c1, c2, c3, hs⟩ := hc1 j p hp
      have c0 := (hwr.cell (p := ⟨b1, _, none⟩) (Nat.lt_of_lt_of_le hbn hn)).trans c0
      have c1 := (hwr.cell (p := ⟨b1, _, none⟩) (Nat.lt_of_lt_of_le hbn hn)).trans c1
      have c2 := (hwr.cell (p := ⟨b1, _, none⟩) (Nat.lt_of_lt_of_le hbn hn)).trans c2
      have c3 := (hwr.cell (p := ⟨b1, _, none⟩) (Nat.lt_of_lt_of_le hbn hn)).trans c3
      obtain ⟨os, cs, rfl, -⟩ := hs.form
      have HP := Lib.hid hp
      have HS := Lib.hid hs
      have HBW := Lib.hid hbw
      clear hc1 hp hs hbw hwr
      by_cases hxk : p.1 = k
      · have hbb := kb_beq_yes hxk
        have HI := Lib.hid (imageOf_hit HE.out HP.out hxk)
        clear hxk
        have hr := (Below.heap_alloc wr (.cells #[.string (kb p.1), .string p.2.nm, .bool p.2.vr, .slice os p.2.ts.length cs] 77) w.heap.size (by omega)).trans ((HBW.out.block w.heap.size (by omega)).trans HR0.out)
        obtain ⟨⟨r0, r1, r2⟩, f0, f1, f2⟩ := box3 hr
        have HR := Lib.hid hr
        clear hr
        go_wp2_with fail
        have hq := box3_set HR.out (.string p.2.nm) (.bool p.2.vr) (.slice os p.2.ts.length cs)
        obtain ⟨⟨q0, q1, q2⟩, -⟩ := box3 hq
        have hbf := below_set3 ((HWR.out.alloc (by omega) (.cells #[.string (kb p.1), .string p.2.nm, .bool p.2.vr, .slice os p.2.ts.length cs] 77))) (Nat.le_refl _) (.string p.2.nm) (.bool p.2.vr) (.slice os p.2.ts.length cs)
        refine bodyPost_ret (v := tmv p.2 (.slice os p.2.ts.length cs)) (by simp [results, Try.f39, go_sem, q0, q1, q2, tmv]) rfl ?_
        rw [HI.out]
        exact ⟨⟨_, rfl, HS.out.carry (hbf.mono hn) (Nat.le_refl _)⟩, hbf⟩
      · have hbb := kb_beq_no hxk
        have HX := Lib.hid hxk
        clear hxk
        go_wp2_with fail
        exact ⟨⟨j + 1, by omega, by go_num, Lib.hid (fun q hq => by
          rw [List.take_add_one, HP.out] at hq
          simp only [Option.toList_some, List.mem_append, List.mem_singleton] at hq
          rcases hq with hq | rfl
          · exact HE.out q hq
          · exact HX.out), HBW.out.alloc (by omega) _⟩, by simp [intOf]; omega⟩
    · have HI := Lib.hid (imageOf_miss (bl := bl) (k := k) (by have h := HE.out; rwa [List.take_of_length_le (by omega)] at h))
      have hr := (hbw.block w.heap.size (by omega)).trans HR0.out
      obtain ⟨⟨r0, r1, r2⟩, f0, f1, f2⟩ := box3 hr
      have HR := Lib.hid hr
      clear hr
      go_wp2_with fail
      have hq := box3_set HR.out (.string (kb k)) (.bool true) (.slice none 0 0)
      obtain ⟨⟨q0, q1, q2⟩, -⟩ := box3 hq
      have hbf := below_set3 HWR.out (Nat.le_refl _) (.string (kb k)) (.bool true) (.slice none 0 0)
      refine bodyPost_ret (v := tmv (.mk (kb k) true []) (.slice none 0 0)) (by simp [results, Try.f39, go_sem, q0, q1, q2, tmv, Tm.nm, Tm.vr]) rfl ?_
      rw [HI.out]
      exact ⟨⟨_, rfl, .nil0⟩, hbf⟩
end Go.Proofs.Ytdnkommcnkbeeaa
