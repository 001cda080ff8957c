import Derived.Test.YtdnkommcnkbeeaaRows
import Derived.Test.YtdnkommcnkbeeaaTm
import Derived.WalkKit
import Derived.ProofKit
import Derived.OpenShut
import Derived.Handy
import Derived.Lib.Hide
import Derived.Test.YtdnkommcnkbeeaaNm2
namespace Go.Proofs.Ytdnkommcnkbeeaa
open Go.RowKit

/-- a term's value: its three cells -/
@[reducible] def tmv (t : Tm) (s : Value) : Value := .agg #[.string t.nm, .bool t.vr, s]


/-- the cells of the k-th argument, where there is one -/
theorem SlIs.get {n₀ : Nat} {W : World} {l : List Tm} {oa : Option Addr} {n cap k : Nat} (h : SlIs n₀ W l (.slice oa n cap)) (hk : k < l.length) :
    ∃ (b o : Nat) (u : Tm) (s : Value), oa = some ⟨b, o, none⟩ ∧ b < n₀ ∧ l[k]? = some u ∧ u ∈ l ∧ SlIs n₀ W u.ts s ∧
      W.cell? ⟨b, o + k * 3, none⟩ = some (.string u.nm) ∧ W.cell? ⟨b, o + k * 3 + 1, none⟩ = some (.bool u.vr) ∧ W.cell? ⟨b, o + k * 3 + 2, none⟩ = some s := by
  cases h with
  | nil0 => simp at hk
  | nil1 a cap => simp at hk
  | row b o cap l s hl hb hc cells hs hf =>
    have hu : l[k]? = some l[k] := List.getElem?_eq_getElem hk
    obtain ⟨h1, h2, h3⟩ := cells k _ hu
    exact ⟨b, o, l[k], s k, rfl, hb, hu, List.getElem_mem hk, hs k _ hu, h1, h2, h3⟩

set_option maxHeartbeats 400000 in
theorem rsize_any (t : Tm) : ∀ (s : Value) (w : World), t.bulk ≤ 1048576 → SlIs w.heap.size w t.ts s →
    Calls Try.prog 34 #[tmv t s] w fun e w' => e = .returned (.int .i64 t.size) ∧ Below w.heap.size w w' := by
  induction t using Tm.ind with
  | h t ih =>
    intro s w hb hs
    obtain ⟨oa, cap, rfl, ha⟩ := hs.form
    have hsz := Tm.size_bulk t
    have hse := Tm.size_eq t
    have hl := Tm.length_sizes t.ts
    have hlen : t.ts.length ≤ 1048576 := by omega
    have IH := Lib.hid ih
    have HE := Lib.hid hse
    clear ih ha hse
    go_enter Try.func34, Try.ntmps34
    go_wp2_with fail
    go_loopw [3, 9] (fun n i wr => ∃ k : Nat, k ≤ t.ts.length ∧ i = .int .i64 k ∧ n = .int .i64 ((1 + Tm.sizes (t.ts.take k) : Nat) : Int) ∧ Below w.heap.size w wr) (fun _ i _ => t.ts.length - (intOf i).toNat)
    case atStart => exact ⟨0, by omega, rfl, rfl, by go_grown⟩
    case round =>
      obtain ⟨k, hk, rfl, rfl, hbw⟩ := hrel
      have hsz' := hbw.size
      by_cases hlt : k < t.ts.length
      · obtain ⟨b, o, u, s, rfl, hbb, hu, hum, hus, c1, c2, c3⟩ := (hs.carry hbw (Nat.le_refl _)).get hlt
        obtain ⟨oa2, cap2, rfl, -⟩ := hus.form
        have hub := Tm.bulk_mem hum
        have hus' := Tm.size_mem hum
        have htb := Tm.bulk_eq t
        have htk := Tm.take_snoc hu
        have hst := Tm.sizes_append (t.ts.take k) [u]
        have HS := Lib.hid (show Tm.sizes (t.ts.take (k+1)) = Tm.sizes (t.ts.take k) + u.size by rw [htk, hst]; simp [Tm.sizes])
        have hsk := Tm.sizes_take t.ts (k + 1)
        have hsk2 : Tm.sizes (t.ts.take k) + u.size ≤ 1048576 := by rw [← HS.out]; have := HE.out; omega
        have hub2 : u.bulk ≤ 1048576 := by omega
        have IHu := fun W1 hb => Lib.hid (IH.out u hum _ W1 hub2 (hus.carry (B := W1) hb (by have := hb.size; omega)))
        clear htk hst htb hu
        go_wp2_with fail
        refine (IHu _ (by go_grown)).out.mono ?_
        rintro e w2 ⟨rfl, hb2⟩
        go_wp2_with fail
        exact ⟨⟨k + 1, by omega, by go_num, by rw [HS.out]; go_num, Below.trans (by go_grown) (hb2.mono (by simp; omega))⟩, by simp [intOf]; omega⟩
      · go_wp2_with fail
        go_ret
        exact ⟨ret_int (by rw [HE.out, List.take_of_length_le (by omega)]), by go_grown⟩

end Go.Proofs.Ytdnkommcnkbeeaa
