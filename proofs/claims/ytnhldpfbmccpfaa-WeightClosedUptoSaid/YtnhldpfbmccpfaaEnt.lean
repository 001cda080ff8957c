/- The reference's Entry. -/
import Derived.WalkKit
import Derived.ProofKit
import Derived.OpenShut
import Derived.Handy
import Derived.Lib.Hide
import Derived.Test.YtnhldpfbmccpfaaRks
import Derived.Test.YtnhldpfbmccpfaaVarP
namespace Go.Proofs.Ytnhldpfbmccpfaa
open Go.RowKit

theorem rkHead {l : List Rk} {k : Key} {j : Nat} {p : Rk} (h : ∀ q ∈ l.take j, q.1 ≠ k) (hp : l[j]? = some p) (hk : p.1 ≠ k) : ∀ q ∈ l.take (j + 1), q.1 ≠ k := fun q hq => by
  rw [List.take_add_one, hp] at hq
  rcases List.mem_append.1 hq with hq | hq
  · exact h q hq
  · obtain rfl : q = p := by simpa using hq
    exact hk
set_option maxRecDepth 100000 in
set_option maxHeartbeats 4000000 in
theorem rEntry_any (l : List Rk) (k : Key) (v : Value) (w : World) (hl : RksIs w.heap.size w l v) (hlen : l.length ≤ 100000000) :
    Calls Try.prog 55 #[v, .string (kb k)] w fun e w' => e = .returned (rkv (entryOf l k)) ∧ Below w.heap.size w w' := by
  obtain ⟨oa, cap, rfl, hcap, hc⟩ := hl
  have HC := Lib.hid hc
  clear hc
  have hr0 : Below w.heap.size w (w.alloc (.cells #[.string ⟨#[]⟩, .int .i64 0, .int .i64 0] 67)) := by go_grown
  have HR0 := Lib.hid (heap_new_at w (.cells #[.string ⟨#[]⟩, .int .i64 0, .int .i64 0] 67) w.heap.size rfl)
  have HB0 := Lib.hid hr0
  clear hr0
  go_enter Try.func55, Try.ntmps55
  go_wp2_with fail
  go_loopw [9] (fun i wr => ∃ j : Nat, j ≤ l.length ∧ i = .int .i64 j ∧ Hid (∀ q ∈ l.take j, q.1 ≠ k) ∧ Below (w.heap.size + 1) (w.alloc (.cells #[.string ⟨#[]⟩, .int .i64 0, .int .i64 0] 67)) wr) (fun i _ => l.length - (intOf i).toNat)
  case atStart => exact ⟨0, by omega, rfl, Lib.hid (by simp), Below.refl _ _⟩
  case round =>
    obtain ⟨j, hj, rfl, HE, hbw⟩ := hrel
    have hz := hbw.size
    simp only [World.size_alloc] at hz
    have hwr := HB0.out.trans (hbw.mono (by omega))
    have HWR := Lib.hid hwr
    by_cases hlt : j < l.length
    · obtain ⟨p, hp⟩ : ∃ p, l[j]? = some p := ⟨_, List.getElem?_eq_getElem hlt⟩
      obtain ⟨b1, o1, rfl, hbn, hc1⟩ := HC.out (by rintro rfl; simp at hlt)
      obtain ⟨c0, c1, c2⟩ := hc1 j p hp
      have c0 := (hwr.cell (p := ⟨b1, _, none⟩) hbn).trans c0
      have c1 := (hwr.cell (p := ⟨b1, _, none⟩) hbn).trans c1
      have c2 := (hwr.cell (p := ⟨b1, _, none⟩) hbn).trans c2
      have HP := Lib.hid hp
      have HBW := Lib.hid hbw
      clear hc1 hp hbw hwr
      by_cases hxk : p.1 = k
      · have hbb := kb_beq_yes hxk
        have HI := Lib.hid (entryOf_hit HE.out HP.out hxk)
        clear hxk
        have hr := (Below.heap_alloc wr (.cells #[.string (kb p.1), .int .i64 p.2.1, .int .i64 p.2.2] 67) w.heap.size (by omega)).trans ((HBW.out.block w.heap.size (by omega)).trans HR0.out)
        obtain ⟨⟨r0, r1, r2⟩, f0, f1, f2⟩ := box3 hr
        have HR := Lib.hid hr
        clear hr
        go_wp2_with fail
        have hq := box3_set HR.out (.string (kb p.1)) (.int .i64 p.2.1) (.int .i64 p.2.2)
        obtain ⟨⟨q0, q1, q2⟩, -⟩ := box3 hq
        have hbf := below_set3 ((HWR.out.alloc (by omega) (.cells #[.string (kb p.1), .int .i64 p.2.1, .int .i64 p.2.2] 67))) (Nat.le_refl _) (.string (kb p.1)) (.int .i64 p.2.1) (.int .i64 p.2.2)
        refine bodyPost_ret (v := rkv p) (by simp [results, Try.f55, go_sem, q0, q1, q2, rkv]) rfl ?_
        rw [HI.out]
        exact ⟨rfl, hbf⟩
      · have hbb := kb_beq_no hxk
        have HX := Lib.hid hxk
        clear hxk
        go_wp2_with fail
        exact ⟨⟨j + 1, by omega, by go_num, Lib.hid (rkHead HE.out HP.out HX.out), HBW.out.alloc (by omega) _⟩, by simp [intOf]; omega⟩
    · obtain rfl : j = l.length := by omega
      have HI := Lib.hid (entryOf_miss (l := l) (k := k) (fun q hq => HE.out q (by rw [List.take_length]; exact hq)))
      have hr := (hbw.block w.heap.size (by omega)).trans HR0.out
      obtain ⟨⟨r0, r1, r2⟩, f0, f1, f2⟩ := box3 hr
      have HR := Lib.hid hr
      clear hr hbw hwr
      go_wp2_with fail
      have hq := box3_set HR.out (.string (kb k)) (.int .i64 0) (.int .i64 0)
      obtain ⟨⟨q0, q1, q2⟩, -⟩ := box3 hq
      have hbf := below_set3 HWR.out (Nat.le_refl _) (.string (kb k)) (.int .i64 0) (.int .i64 0)
      refine bodyPost_ret (v := .agg #[.string (kb k), .int .i64 0, .int .i64 0]) (by simp [results, Try.f55, go_sem, q0, q1, q2]) rfl ?_
      rw [HI.out]
      exact ⟨rfl, hbf⟩
end Go.Proofs.Ytnhldpfbmccpfaa
