/- Places in a term: locate, and a store at a place of a term of its own. -/
import Derived.WalkKit
import Derived.ProofKit
import Derived.OpenShut
import Derived.Handy
import Derived.Lib.Hide
import Derived.Test.YtdeaehkdhghfkaaDoorCln
namespace Go.Proofs.YtdeaehkdhghfkaaDoor
open Go.RowKit

/-- the argument number i -/
def Tm.kid (t : Tm) (i : Int) : Option Tm := if 0 ≤ i then t.ts[i.toNat]? else none
def Tm.at : Tm → List Int → Option Tm
  | t, [] => some t
  | t, i :: l => match t.kid i with | some u => u.at l | none => none
def Tm.put : Tm → List Int → Tm → Tm
  | _, [], u => u
  | t, i :: l, u => match t.kid i with | some x => .mk t.nm t.vr (t.ts.set i.toNat (x.put l u)) | none => t
theorem Tm.put_names (t : Tm) (i : Int) (l : List Int) (u : Tm) : (t.put (i :: l) u).nm = t.nm ∧ (t.put (i :: l) u).vr = t.vr := by
  unfold Tm.put; split <;> exact ⟨rfl, rfl⟩

/-- the slice value v holds the integers l -/
structure PosIs (n₀ : Nat) (W : World) (l : List Int) (v : Value) : Prop where
  form : ∃ oa cap, v = .slice oa l.length cap ∧ (l ≠ [] → ∃ b o, oa = some ⟨b, o, none⟩ ∧ b < n₀ ∧ ∀ (i : Nat) x, l[i]? = some x → W.cell? ⟨b, o + i, none⟩ = some (.int .i64 x))
theorem PosIs.carry {n₀ n₁ : Nat} {A B : World} (h : Below n₀ A B) (hn : n₀ ≤ n₁) {l : List Int} {s : Value} (hs : PosIs n₀ A l s) : PosIs n₁ B l s := by
  obtain ⟨oa, cap, rfl, hf⟩ := hs.form
  refine ⟨oa, cap, rfl, fun hne => ?_⟩
  obtain ⟨b, o, rfl, hb, hc⟩ := hf hne
  exact ⟨b, o, rfl, by omega, fun i x hx => (h.cell (p := ⟨b, _, none⟩) hb).trans (hc i x hx)⟩

/-- the cells at an address are the term's -/
structure Loc (n₀ : Nat) (W : World) (t : Tm) (b o : Nat) : Prop where
  cells : ∃ s, W.cell? ⟨b, o, none⟩ = some (.string t.nm) ∧ W.cell? ⟨b, o + 1, none⟩ = some (.bool t.vr) ∧ W.cell? ⟨b, o + 2, none⟩ = some s ∧ SlIs n₀ W t.ts s

/-- from address to address, argument by argument -/
inductive Steps (W : World) : Nat → Nat → List Int → Nat → Nat → Prop
  | nil (b o : Nat) : Steps W b o [] b o
  | cons (b o : Nat) (i : Int) (l : List Int) (b1 o1 n cap b' o' : Nat) : 0 ≤ i → W.cell? ⟨b, o + 2, none⟩ = some (.slice (some ⟨b1, o1, none⟩) n cap) → Steps W b1 (o1 + i.toNat * 3) l b' o' → Steps W b o (i :: l) b' o'

set_option maxRecDepth 100000 in
set_option maxHeartbeats 1000000 in
theorem locate_any (t : Tm) (b o n₀ : Nat) (l : List Int) (v : Value) (w : World) (ht : Loc n₀ w t b o) (hl : PosIs n₀ w l v) (hll : l.length ≤ 1048576) (hb : t.bulk ≤ 1048576) :
    Calls Tryd.prog 84 #[.pointer (some ⟨b, o, none⟩), v] w fun e w' =>
      ((∃ u b' o', e = .returned (.pointer (some ⟨b', o', none⟩)) ∧ t.at l = some u ∧ Loc n₀ w u b' o' ∧ Steps w b o l b' o') ∨ (e = .returned (.pointer none) ∧ t.at l = none)) ∧ w' = w := by
  obtain ⟨oa, cap, rfl, hp⟩ := hl.form
  have HP := Lib.hid hp
  have HT := Lib.hid ht
  clear hp hl ht
  go_enter Tryd.func84, Tryd.ntmps84
  go_wp2_with fail
  go_loopw [0, 9] (fun at_ i wr => ∃ (j : Nat) (u : Tm) (b1 o1 : Nat), j ≤ l.length ∧ at_ = .pointer (some ⟨b1, o1, none⟩) ∧ i = .int .i64 j ∧ wr = w ∧ u.bulk ≤ 1048576 ∧
      Hid (Loc n₀ w u b1 o1 ∧ t.at l = u.at (l.drop j) ∧ ∀ b2 o2, Steps w b1 o1 (l.drop j) b2 o2 → Steps w b o l b2 o2)) (fun _ i _ => l.length - (intOf i).toNat)
  case atStart => exact ⟨0, t, b, o, by omega, rfl, rfl, rfl, hb, Lib.hid ⟨HT.out, by simp, fun _ _ h => by simpa using h⟩⟩
  case round =>
    obtain ⟨j, u, b1, o1, hj, rfl, rfl, rfl, hub, HH⟩ := hrel
    by_cases hlt : j < l.length
    · obtain ⟨x, hx⟩ : ∃ x, l[j]? = some x := ⟨_, List.getElem?_eq_getElem hlt⟩
      have hne : l ≠ [] := by rintro rfl; simp at hlt
      obtain ⟨b3, o3, rfl, hb3, hc3⟩ := HP.out hne
      have hcx := hc3 j x hx
      obtain ⟨s, c0, c1, c2, hs⟩ := HH.out.1.cells
      have hsz := Tm.size_bulk u
      have hls := Tm.length_sizes u.ts
      have hse := Tm.size_eq u
      have hul : u.ts.length ≤ 1048576 := by omega
      obtain ⟨oa2, cap2, rfl, -⟩ := hs.form
      have HDR : Hid (l.drop j = x :: l.drop (j + 1)) := Lib.hid (by rw [List.drop_eq_getElem_cons hlt]; rw [List.getElem?_eq_getElem hlt] at hx; cases hx; rfl)
      have HS := Lib.hid hs
      clear hs hx hc3 hsz hls hse
      by_cases hneg : x < 0
      · go_wp2_with fail
        go_ret
        refine ⟨.inr ⟨rfl, ?_⟩, rfl⟩
        rw [HH.out.2.1, HDR.out]
        simp only [Tm.at, Tm.kid, if_neg (show ¬ (0 ≤ x) by omega)]
      · by_cases hge : (u.ts.length : Int) ≤ x
        · go_wp2_with fail
          go_ret
          refine ⟨.inr ⟨rfl, ?_⟩, rfl⟩
          rw [HH.out.2.1, HDR.out]
          simp only [Tm.at, Tm.kid, if_pos (show (0 ≤ x) by omega), List.getElem?_eq_none (show u.ts.length ≤ x.toNat by omega)]
        · obtain ⟨k, rfl⟩ : ∃ k : Nat, x = (k : Int) := ⟨x.toNat, by omega⟩
          have hk : k < u.ts.length := by omega
          obtain ⟨b4, o4, u2, s2, rfl, hb4, hu2, hum2, hus2, d1, d2, d3⟩ := HS.out.get hk
          have HU2 := Lib.hid hu2
          have HM2 := Lib.hid hum2
          have HS2 := Lib.hid hus2
          clear hu2 hum2 hus2
          go_wp2_with fail
          refine ⟨⟨j + 1, u2, b4, o4 + k * 3, by omega, rfl, by push_cast; rfl, trivial, by have := Tm.bulk_mem HM2.out; have := Tm.bulk_eq u; omega, Lib.hid ⟨⟨s2, d1, d2, d3, HS2.out⟩, ?_, fun b2 o2 h => ?_⟩⟩, by simp only [intOf]; omega⟩
          · rw [HH.out.2.1, HDR.out]
            simp only [Tm.at, Tm.kid, if_pos (show (0 : Int) ≤ (k : Int) by omega), Int.toNat_natCast, HU2.out]
          · refine HH.out.2.2 b2 o2 ?_
            rw [HDR.out]
            exact .cons _ _ _ _ b4 o4 _ _ _ _ (by omega) c2 (by rw [Int.toNat_natCast]; exact h)
    · go_wp2_with fail
      go_ret
      have hd : l.drop j = [] := List.drop_eq_nil_of_le (by omega)
      have h1 := HH.out
      rw [hd] at h1
      exact ⟨.inl ⟨u, b1, o1, rfl, h1.2.1, h1.1, h1.2.2 _ _ (.nil _ _)⟩, rfl⟩
end Go.Proofs.YtdeaehkdhghfkaaDoor
