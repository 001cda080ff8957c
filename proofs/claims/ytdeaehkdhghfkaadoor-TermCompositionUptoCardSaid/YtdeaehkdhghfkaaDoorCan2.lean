/- Canonical: the walk. -/
import Derived.WalkKit
import Derived.ProofKit
import Derived.OpenShut
import Derived.Handy
import Derived.Lib.Hide
import Derived.Test.YtdeaehkdhghfkaaDoorCan
import Derived.Test.YtdeaehkdhghfkaaDoorAt
namespace Go.Proofs.YtdeaehkdhghfkaaDoor
open Go.RowKit Go.Maps

theorem canImg_count (dig : Nat → ByteArray) (ss : List Key) (nm : ByteArray) : (canImg dig ss nm).2.length ≤ ss.length + 1 := by
  unfold canImg; split <;> simp

set_option maxRecDepth 100000 in
set_option maxHeartbeats 2000000 in
theorem canonical_any (dig : Nat → ByteArray) (GW : World → Prop) (N : Nat) (hG : ∀ A B, GW A → Below A.heap.size A B → GW B) (n₀ : Nat) (hGs : ∀ A B n m, n₀ ≤ n → GW A → Fr n m A B → GW B) (hdig : ∀ i, (dig i).size ≤ 30) (hN : N ≤ 1048576)
    (HIT : Hid (∀ (i : Nat) (W : World), i < N → GW W → Calls Tryd.prog 78 #[.int .i64 i] W fun e W' => e = .returned (.string (dig i)) ∧ Below W.heap.size W W'))
    (t : Tm) (s : Value) (w : World) (hs : SlIs w.heap.size w t.ts s) (hb : t.bulk ≤ 1048576) (hsz : t.size ≤ N) (hGw : GW w) (hn₀ : n₀ ≤ w.heap.size) :
    Calls Tryd.prog 30 #[tmv t s] w fun e w' => ∃ u c, TmNum w w' e u c ∧ ((c = 0 ∧ t.ok ∧ u = (t.rep (canImg dig) []).1) ∨ (c ≠ 0 ∧ ¬ t.ok ∧ u = Tm.none)) := by
  obtain ⟨oa, cap, rfl, -⟩ := hs.form
  have hmm := @run_makeMap Tryd.prog
  have HB := Lib.hid hb
  have HG := Lib.hid hG
  have HGS := Lib.hid hGs
  have HDIG := Lib.hid hdig
  clear hb hG hGs hdig
  go_enter Tryd.func30, Tryd.ntmps30
  rw [show tmv t (.slice oa t.ts.length cap) = .agg #[.string t.nm, .bool t.vr, .slice oa t.ts.length cap] from rfl]
  go_wp2_with (
    go_at_call 11
    refine (check_any t _ _ (hs.carry (by go_grown) (by simp; omega)) HB.out).mono ?_
    rintro e w1 ⟨⟨c, rfl, hc⟩, hb1⟩
    have hr := (hb1.block (w.heap.size + 1) (by simp)).trans (heap_new_at _ _ _ (by simp))
    have ht := (hb1.block w.heap.size (by simp; omega)).trans ((Below.heap_alloc _ _ _ (by simp)).trans (heap_new_at _ _ _ rfl))
    have hbw := (show Below w.heap.size w ((w.alloc (.cells #[.string t.nm, .bool t.vr, .slice oa t.ts.length cap] 24)).alloc (.cells #[.string ⟨#[]⟩, .bool false, .slice none 0 0] 24)) from by go_grown).trans (hb1.mono (by simp; omega))
    have hz1 := hb1.size
    simp only [World.size_alloc] at hz1
    obtain ⟨⟨r0, r1, r2⟩, f0, f1, f2⟩ := box3 hr
    have ht2 : ((w1.alloc (.map #[] 0)).alloc (.cells #[.map (some w1.heap.size)] 106)).heap[w.heap.size]? = some (.cells #[.string t.nm, .bool t.vr, .slice oa t.ts.length cap] 24 (0, 0)) := (Below.heap_alloc _ _ _ (by simp; omega)).trans ((Below.heap_alloc _ _ _ (by omega)).trans ht)
    obtain ⟨⟨t0, t1, t2⟩, -⟩ := box3 ht2
    have HR := Lib.hid hr
    have HT := Lib.hid ht
    have HC := Lib.hid hc
    have HBW := Lib.hid hbw
    clear hr ht ht2 hc hb1 hbw)
  · have hq := box3_set HR.out (.string ⟨#[]⟩) (.bool false) (.slice none 0 0)
    obtain ⟨⟨q0, q1, q2⟩, -⟩ := box3 hq
    refine bodyPost_ret (v := .tuple #[tmv Tm.none (.slice none 0 0), .int .i64 c]) (by simp [results, Tryd.f30, go_sem, q0, q1, q2, tmv, Tm.nm, Tm.vr]) rfl ?_
    have hc0 : c ≠ 0 := by simpa using (show (c != 0) = true by assumption)
    exact ⟨_, c, ⟨⟨_, rfl, .nil0⟩, below_set3 HBW.out (by omega) _ _ _⟩, .inr ⟨hc0, fun h => hc0 (HC.out.2 h), rfl⟩⟩
  · have hc0 : c = 0 := by simpa using (show (c != 0) = false by assumption)
    subst hc0
    have HOK := Lib.hid (HC.out.1 (by first | trivial | rfl))
    have hmA : w1.heap.size + 2 = ((w1.alloc (.map #[] 0)).alloc (.cells #[.map (some w1.heap.size)] 106)).heap.size := by simp
    have hbA : Below w1.heap.size w1 ((w1.alloc (.map #[] 0)).alloc (.cells #[.map (some w1.heap.size)] 106)) := ((Below.refl _ w1).alloc (Nat.le_refl _) _).alloc (by simp) _
    have hG2 : ∀ A B, GW A → Below (w1.heap.size + 2) A B → GW B := fun A B h k => HGS.out A B (w1.heap.size + 2) (max (w1.heap.size + 2) B.heap.size) (by have := HBW.out.size; omega) h ⟨k.os, k.tape, k.output, k.size, fun i hi hc => k.block i (by have := k.size; omega)⟩
    have hI0 : CanI dig GW w1.heap.size (w1.heap.size + 2) w1.heap.size (w1.heap.size + 1) [] ((w1.alloc (.map #[] 0)).alloc (.cells #[.map (some w1.heap.size)] 106)) :=
      ⟨HG.out _ _ (HGS.out _ _ w.heap.size w1.heap.size hn₀ hGw ⟨HBW.out.os, HBW.out.tape, HBW.out.output, HBW.out.size, fun k hk _ => HBW.out.block k hk⟩) hbA, Nat.le_refl _, by omega, by omega, heap_new_at _ _ _ (by simp), _, (World.ownsMap_made w1 _ _ _).alloc _, MapInv.empty dig⟩
    have hrep := replace_any (canImg dig) 77 #[.pointer (some ⟨w1.heap.size + 1, 0, none⟩)] Tryd.call77 w1.heap.size (w1.heap.size + 2) (by omega) (CanI dig GW w1.heap.size (w1.heap.size + 2) w1.heap.size (w1.heap.size + 1)) (fun s A B h k => h.stable hG2 k) List.length N (canImg_count dig)
      (Lib.hid fun ss nm W hI hmW hnm hc => canonical1_any dig GW _ _ _ _ N hG2 (fun A B h k => HGS.out A B _ _ (by have := HBW.out.size; omega) h k) HDIG.out hN HIT ss nm W hI hmW hnm hc)
      t [] (.slice oa t.ts.length cap) _ (by simpa using hsz) HB.out ((hs.carry HBW.out HBW.out.size).carry hbA (Nat.le_refl _)) (by omega) hI0
    obtain ⟨u, hu⟩ : ∃ u, u = (t.rep (canImg dig) []).1 := ⟨_, rfl⟩
    rw [← hu] at hrep
    have HU := Lib.hid hu
    clear hI0 hG2 hbA r0 r1 r2 f0 f1 f2 t0 t1 t2 hu
    refine hrep.mono ?_
    rintro e w2 ⟨⟨sl, fp, rfl, ho, hn, hf⟩, -, hfr⟩
    obtain ⟨oa2, n2, c2, rfl⟩ := ho.form
    have hz2 := hfr.size
    have hr2 := (Below.heap_alloc w2 (.cells #[.string u.nm, .bool u.vr, .slice oa2 n2 c2] 24) (w.heap.size + 1) (by omega)).trans ((hfr.block (w.heap.size + 1) (by omega) (.inl (by omega))).trans ((Below.heap_alloc _ _ _ (by simp; omega)).trans ((Below.heap_alloc _ _ _ (by omega)).trans HR.out)))
    obtain ⟨⟨r0, r1, r2⟩, f0, f1, f2⟩ := box3 hr2
    have HR2 := Lib.hid hr2
    have HO := Lib.hid ho
    have HF := Lib.hid hf
    have HFR := Lib.hid hfr
    clear hrep ho hn hf hfr hr2
    dsimp only [tmv]
    go_wp2_with fail
    have hq := box3_set HR2.out (.string u.nm) (.bool u.vr) (.slice oa2 n2 c2)
    obtain ⟨⟨q0, q1, q2⟩, -⟩ := box3 hq
    refine bodyPost_ret (v := .tuple #[tmv u (.slice oa2 n2 c2), .int .i64 0]) (by simp [results, Tryd.f30, go_sem, q0, q1, q2, tmv]) rfl ?_
    have hbw2 : Below w.heap.size w w2 := HBW.out.trans (⟨HFR.out.os, HFR.out.tape, HFR.out.output, by omega, fun k hk => (HFR.out.block k (by omega) (.inl (by omega))).trans ((Below.heap_alloc _ _ _ (by simp; omega)).trans (Below.heap_alloc _ _ _ (by omega)))⟩)
    refine ⟨_, 0, ⟨⟨_, rfl, ?_⟩, below_set3 (hbw2.alloc (by have := HBW.out.size; omega) _) (by omega) _ _ _⟩, .inl ⟨rfl, HOK.out, HU.out⟩⟩
    have ho' := HO.out.carry (B := (((w2.alloc (.cells #[.string u.nm, .bool u.vr, .slice oa2 n2 c2] 24)).setCell ⟨w.heap.size + 1, 0, none⟩ (.string u.nm)).setCell ⟨w.heap.size + 1, 1, none⟩ (.bool u.vr)).setCell ⟨w.heap.size + 1, 2, none⟩ (.slice oa2 n2 c2)) fun k hk =>
      (heap_set3 _ _ _ _ _ _ (by have := HF.out k hk; omega)).trans (Below.heap_alloc _ _ _ (HO.out.lt k hk))
    exact ho'.is ho'.lt
end Go.Proofs.YtdeaehkdhghfkaaDoor
