/- The reference's First, whole. -/
import Derived.WalkKit
import Derived.ProofKit
import Derived.OpenShut
import Derived.Handy
import Derived.Lib.Hide
import Derived.Test.YtdeaehkdhghfkaaDoorFst
namespace Go.Proofs.YtdeaehkdhghfkaaDoor
open Go.RowKit

set_option maxRecDepth 100000 in
set_option maxHeartbeats 2000000 in
theorem rfirst_any (t : Tm) : ∀ (s v : Value) (ss : List Key) (w : World), SlIs w.heap.size w t.ts s → StrIs w.heap.size w ss v → t.bulk ≤ 1048576 → ss.length + t.size ≤ 1048576 →
    Calls Tryd.prog 80 #[tmv t s, v] w fun e w' => (∃ v', e = .returned v' ∧ StrIs w'.heap.size w' (firsts ss t) v') ∧ Below w.heap.size w w' := by
  induction t using Tm.ind with
  | h t ih =>
    intro s v ss w hs hl hb hlen
    by_cases hv : t.vr = true
    · exact rfirst_var t s v ss w hv hs hl (by omega)
    · have hv : t.vr = false := by simpa using hv
      obtain ⟨oa, ca, rfl, -⟩ := hs.form
      have hl' := hl
      obtain ⟨ol, cl, rfl, hcap, -, -⟩ := hl'
      have hse := Tm.size_eq t
      have hls := Tm.length_sizes t.ts
      have HSE := Lib.hid hse
      have IH := Lib.hid ih
      have HL := Lib.hid hl
      have HF : Hid (firsts ss t = firstsL ss t.ts) := Lib.hid (firsts_fun ss hv)
      have htl : t.ts.length ≤ 1048576 := by omega
      clear ih hl hse hls
      go_enter Tryd.func80, Tryd.ntmps80
      rw [show tmv t (.slice oa t.ts.length ca) = .agg #[.string t.nm, .bool t.vr, .slice oa t.ts.length ca] from rfl, hv]
      go_wp2_with fail
      go_loopw [1, 25] (fun l i wr => ∃ k : Nat, k ≤ t.ts.length ∧ i = .int .i64 k ∧ Hid (StrIs wr.heap.size wr (firstsL ss (t.ts.take k)) l) ∧ Below w.heap.size w wr) (fun _ i _ => t.ts.length - (intOf i).toNat)
      case atStart => exact ⟨0, by omega, rfl, Lib.hid (HL.out.carry (by go_grown) (by simp)), by go_grown⟩
      case round =>
        obtain ⟨k, hk, rfl, HS, hbw⟩ := hrel
        by_cases hlt : k < t.ts.length
        · obtain ⟨b, o, u, su, rfl, hbb, hu, hum, hus, c1, c2, c3⟩ := (hs.carry hbw (Nat.le_refl _)).get (k := k) hlt
          obtain ⟨ou, cu, rfl, -⟩ := hus.form
          obtain ⟨fl, hfl⟩ : ∃ fl, fl = firstsL ss (t.ts.take k) := ⟨_, rfl⟩
          have hlb := firstsL_length (t.ts.take k) ss
          rw [← hfl] at HS hlb
          have hs2 := HS.out
          obtain ⟨of, cf, rfl, -, -, -⟩ := hs2
          have hsp := Tm.sizes_append (t.ts.take k) (t.ts.drop k)
          rw [List.take_append_drop] at hsp
          have hsd := Tm.size_mem (show u ∈ t.ts.drop k from List.mem_of_getElem? (i := 0) (by rw [List.getElem?_drop]; simpa using hu))
          have hub : u.bulk ≤ 1048576 := by have := Tm.bulk_mem hum; have := Tm.bulk_eq t; omega
          have hus1 : fl.length + u.size ≤ 1048576 := by have := HSE.out; omega
          have HU := Lib.hid hu
          have HFL := Lib.hid hfl
          have HUS := Lib.hid hus
          have HBW := Lib.hid hbw
          have hz := hbw.size
          have IHu := fun W1 (hW : Below wr.heap.size wr W1) => Lib.hid (IH.out u hum _ _ fl W1 (HUS.out.carry (B := W1) (hW.mono hz) (by have := hW.size; omega)) (HS.out.carry (B := W1) hW hW.size) hub hus1)
          clear hu hfl hlb hsp hsd hus hbw
          go_wp2_with fail
          refine (IHu _ (by go_grown)).out.mono ?_
          rintro e w1 ⟨⟨v1, rfl, h1⟩, hb1⟩
          have HS1 := Lib.hid h1
          have HB1 := Lib.hid hb1
          clear h1 hb1 IHu
          go_wp2_with fail
          exact ⟨⟨k + 1, by omega, by go_num, Lib.hid (by rw [Tm.take_snoc HU.out, firstsL_snoc, ← HFL.out]; exact HS1.out), HBW.out.trans ((show Below wr.heap.size wr _ from by go_grown).trans (HB1.out.mono (by simp)) |>.mono hz)⟩, by simp [intOf]; omega⟩
        · obtain rfl : k = t.ts.length := by omega
          have HE : Hid (firsts ss t = firstsL ss (t.ts.take t.ts.length)) := Lib.hid (by rw [HF.out, List.take_length])
          go_wp2_with fail
          go_ret
          exact ⟨⟨_, rfl, by rw [HE.out]; exact HS.out⟩, hbw⟩
end Go.Proofs.YtdeaehkdhghfkaaDoor
