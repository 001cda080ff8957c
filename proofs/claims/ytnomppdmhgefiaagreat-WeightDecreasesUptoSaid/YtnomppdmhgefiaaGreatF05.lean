/- Packed: Bind, Sub, Loc, RdW, Sid. -/
import Derived.WalkKit
import Derived.ProofKit
import Derived.OpenShut
import Derived.Handy
import Derived.Lib.Hide
import Derived.BigQuiet
import Derived.Deep.RegionHeld3
import Derived.Deep.LoopGhost
import Derived.Test.YtnomppdmhgefiaaGreatF01
import Derived.Test.YtnomppdmhgefiaaGreatF03
import Derived.StillTailTactics
import Derived.Test.YtnomppdmhgefiaaGreatF04
import Derived.Sort.Walk0
import Derived.Laws.Cover1
import Derived.StringKeys
import Derived.Maps.OwnSet
import Derived.Maps.OwnOps
import Derived.Test.YtnomppdmhgefiaaGreatF02
/- Merged: Cmp, Cmp2, Ins, Ins2, Bind. -/
/- The reference's comparison of terms: zero just where the terms are equal. -/
namespace Go.Proofs.YtnomppdmhgefiaaGreat
open Go.RowKit

def cmpi (a b : Int) : Int := if a < b then -1 else if b < a then 1 else 0
theorem cmpi_zero (a b : Int) : cmpi a b = 0 ↔ a = b := by unfold cmpi; split <;> (try split) <;> omega

set_option maxHeartbeats 400000 in
theorem cmpInts_any (a b : Int) (w : World) : Calls Tryz.prog 112 #[.int .i64 a, .int .i64 b] w fun e w' => e = .returned (.int .i64 (cmpi a b)) ∧ w = w' := by
  by_cases h1 : a < b
  · have HE := Lib.hid (show cmpi a b = -1 by simp [cmpi, h1])
    go_enter Tryz.func112, Tryz.ntmps112
    go_wp2_with fail
    go_ret
    exact ⟨ret_int HE.out.symm, rfl⟩
  · by_cases h2 : b < a
    · have HE := Lib.hid (show cmpi a b = 1 by simp [cmpi, h1, h2])
      go_enter Tryz.func112, Tryz.ntmps112
      go_wp2_with fail
      go_ret
      exact ⟨ret_int HE.out.symm, rfl⟩
    · have HE := Lib.hid (show cmpi a b = 0 by simp [cmpi, h1, h2])
      go_enter Tryz.func112, Tryz.ntmps112
      go_wp2_with fail
      go_ret
      exact ⟨ret_int HE.out.symm, rfl⟩

/-- where two names first part -/
theorem names_eq {a b : ByteArray} (hs : a.size = b.size) (h : ∀ k, k < a.size → a.data.toList[k]? = b.data.toList[k]?) : a = b := by
  have e : a.data.toList = b.data.toList := by
    apply List.ext_getElem?
    intro k
    by_cases hk : k < a.size
    · exact h k hk
    · rw [List.getElem?_eq_none (by rw [bytes_len]; omega), List.getElem?_eq_none (by rw [bytes_len]; omega)]
  cases a; cases b
  simpa using e

theorem cmpi_neg (a b : Int) : cmpi a b < 0 ↔ a < b := by unfold cmpi; split <;> (try split) <;> omega
theorem lt_split {l r : List UInt8} {k : Nat} {x y : UInt8} (h : ∀ j, j < k → l[j]? = r[j]?) (hx : l[k]? = some x) (hy : r[k]? = some y) (hne : x ≠ y) : l < r ↔ x < y := by
  induction k generalizing l r with
  | zero =>
    cases l with
    | nil => cases hx
    | cons a l =>
      cases r with
      | nil => cases hy
      | cons b r =>
        simp at hx hy; subst hx; subst hy
        rw [List.cons_lt_cons_iff]
        exact ⟨fun h => by rcases h with h | ⟨h, _⟩; exact h; exact absurd h hne, .inl⟩
  | succ k ih =>
    cases l with
    | nil => cases hx
    | cons a l =>
      cases r with
      | nil => cases hy
      | cons b r =>
        have h0 := h 0 (by omega)
        simp at h0; subst h0
        rw [List.cons_lt_cons_iff]
        have h2 := ih (l := l) (r := r) (fun j hj => by simpa using h (j + 1) (by omega)) (by simpa using hx) (by simpa using hy)
        rw [← h2]
        exact ⟨fun h => by rcases h with h | ⟨_, h⟩; exact absurd h (UInt8.lt_irrefl _); exact h, fun h => .inr ⟨rfl, h⟩⟩
theorem lt_end {l r : List UInt8} {k : Nat} (h : ∀ j, j < k → l[j]? = r[j]?) (h1 : k ≤ l.length) (h2 : k ≤ r.length) (hk : k = l.length ∨ k = r.length) : l < r ↔ l.length < r.length := by
  induction k generalizing l r with
  | zero =>
    cases l with
    | nil =>
      cases r with
      | nil => simp
      | cons b r => simp
    | cons a l =>
      cases r with
      | nil => simp
      | cons b r => simp at hk
  | succ k ih =>
    cases l with
    | nil => simp at h1
    | cons a l =>
      cases r with
      | nil => simp at h2
      | cons b r =>
        have h0 := h 0 (by omega)
        simp at h0; subst h0
        rw [List.cons_lt_cons_iff]
        have h3 := ih (l := l) (r := r) (fun j hj => by simpa using h (j + 1) (by omega)) (by simpa using h1) (by simpa using h2) (by simpa using hk)
        rw [List.length_cons, List.length_cons, Nat.add_lt_add_iff_right, ← h3]
        exact ⟨fun h => by rcases h with h | ⟨_, h⟩; exact absurd h (UInt8.lt_irrefl _); exact h, fun h => .inr ⟨rfl, h⟩⟩

set_option maxHeartbeats 1000000 in
theorem cmpNames_full (a b : ByteArray) (w : World) (ha : a.size ≤ 1048576) (hb : b.size ≤ 1048576) :
    Calls Tryz.prog 52 #[.string a, .string b] w fun e w' => (∃ c : Int, e = .returned (.int .i64 c) ∧ (c = 0 ↔ a = b) ∧ (c < 0 ↔ a.data.toList < b.data.toList)) ∧ Below w.heap.size w w' := by
  go_enter Tryz.func52, Tryz.ntmps52
  go_wp2_with fail
  go_loopw [5, 11] (fun _ i wr => ∃ k : Nat, k ≤ a.size ∧ k ≤ b.size ∧ i = .int .i64 k ∧ Hid (∀ j, j < k → a.data.toList[j]? = b.data.toList[j]?) ∧ Below w.heap.size w wr) (fun _ i _ => a.size - (intOf i).toNat)
  case atStart => exact ⟨0, by omega, by omega, rfl, Lib.hid (fun j h => absurd h (by omega)), Below.refl _ _⟩
  case round =>
    obtain ⟨k, hka, hkb, rfl, HE, hbw⟩ := hrel
    by_cases hlt : k < a.size ∧ k < b.size
    · obtain ⟨h1, h2⟩ := hlt
      have GA := Lib.hid (bytes_get h1)
      have GB := Lib.hid (bytes_get h2)
      by_cases hq : a[k].toNat = b[k].toNat
      · have HQ : Hid (a[k] = b[k]) := Lib.hid (UInt8.toNat_inj.1 hq)
        have hbb : (((a[k]'h1).toNat : Int) != ((b[k]'h2).toNat : Int)) = false := by rw [bne_eq_false_iff_eq]; omega
        clear hq
        go_wp2_with fail
        go_quiet (fail)
        go_wp2_with fail
        exact ⟨⟨k + 1, by omega, by omega, by go_num, Lib.hid (fun j hj => by
          by_cases e : j = k
          · subst e; rw [GA.out, GB.out, HQ.out]
          · exact HE.out j (by omega)), below_drewN nq hbw⟩, by simp [intOf]; omega⟩
      · have HQ : Hid (a ≠ b) := Lib.hid (fun e => hq (by subst e; rfl))
        have HLT : Hid (cmpi ((a[k]'h1).toNat : Int) ((b[k]'h2).toNat : Int) < 0 ↔ a.data.toList < b.data.toList) := Lib.hid (by
          rw [cmpi_neg, lt_split HE.out GA.out GB.out (fun e => hq (by rw [e])), UInt8.lt_iff_toNat_lt]; omega)
        have HZ : Hid (cmpi ((a[k]'h1).toNat : Int) ((b[k]'h2).toNat : Int) ≠ 0) := Lib.hid (fun e => hq (by have := (cmpi_zero _ _).1 e; omega))
        have hbb : (((a[k]'h1).toNat : Int) != ((b[k]'h2).toNat : Int)) = true := by rw [bne_iff_ne]; omega
        clear hq
        go_wp2_with fail
        go_quiet (fail)
        go_wp2_with fail
        have hbq := below_drewN nq hbw
        generalize wr.drewN nq = wq at hbq ⊢
        have hla := UInt8.toNat_lt (a[k]'h1)
        have hlb := UInt8.toNat_lt (b[k]'h2)
        have hwa : IntKind.i64.wrap ((a[k]'h1).toNat : Int) = ((a[k]'h1).toNat : Int) := IntWalk.i64_in _ (by omega)
        have hwb : IntKind.i64.wrap ((b[k]'h2).toNat : Int) = ((b[k]'h2).toNat : Int) := IntWalk.i64_in _ (by omega)
        go_quiet ((go_at_call 112; exact Calls.quiet_of_same ((cmpInts_any _ _ _).mono fun _ _ h => ⟨h.1, h.2.symm⟩)))
        go_wp2_with fail
        go_ret
        exact ⟨⟨_, rfl, ⟨fun h => absurd h HZ.out, fun h => absurd h HQ.out⟩, HLT.out⟩, below_drewN _ hbq⟩
    · go_wp2_with fail
      refine (cmpInts_any _ _ _).mono ?_
      rintro e w2 ⟨rfl, rfl⟩
      go_wp2_with fail
      go_ret
      refine ⟨⟨_, rfl, ⟨fun h => ?_, fun h => ?_⟩, ?_⟩, hbw⟩
      · have := (cmpi_zero _ _).1 h
        exact names_eq (by omega) (fun j hj => HE.out j (by omega))
      · subst h; exact (cmpi_zero _ _).2 rfl
      · rw [cmpi_neg, lt_end HE.out (by rw [bytes_len]; omega) (by rw [bytes_len]; omega) (by rw [bytes_len, bytes_len]; omega), bytes_len, bytes_len]; omega
theorem cmpNames_any (a b : ByteArray) (w : World) (ha : a.size ≤ 1048576) (hb : b.size ≤ 1048576) :
    Calls Tryz.prog 52 #[.string a, .string b] w fun e w' => (∃ c : Int, e = .returned (.int .i64 c) ∧ (c = 0 ↔ a = b)) ∧ Below w.heap.size w w' :=
  (cmpNames_full a b w ha hb).mono fun _ _ ⟨⟨c, h, h1, _⟩, hb⟩ => ⟨⟨c, h, h1⟩, hb⟩
end Go.Proofs.YtnomppdmhgefiaaGreat
/- The reference's Compare and Equal on terms. -/
namespace Go.Proofs.YtnomppdmhgefiaaGreat
open Go.RowKit

theorem Tm.ext' {a b : Tm} (h1 : a.nm = b.nm) (h2 : a.vr = b.vr) (h3 : a.ts = b.ts) : a = b := by
  cases a; cases b; simp only [Tm.nm, Tm.vr, Tm.ts] at h1 h2 h3; subst h1; subst h2; subst h3; rfl
end Go.Proofs.YtnomppdmhgefiaaGreat
/- The reference's Insert. -/
namespace Go.Proofs.YtnomppdmhgefiaaGreat
open Go.RowKit

/-- k stands in l, or is put before the first name that is not less -/
def InsAt (l : List Key) (k : Key) (r : List Key) : Prop := ∃ j, j ≤ l.length ∧ (∀ x ∈ l.take j, x < k) ∧ ((r = l ∧ k ∈ l) ∨ (r = l.take j ++ [k] ++ l.drop j ∧ ∀ x, l[j]? = some x → x ≠ k ∧ ¬ x < k))
end Go.Proofs.YtnomppdmhgefiaaGreat
/- The reference's Insert into nothing; Insert, whole; sorted. -/
namespace Go.Proofs.YtnomppdmhgefiaaGreat
open Go.RowKit

/-- r holds what l holds, and k -/
def InsOf (l : List Key) (k : Key) (r : List Key) : Prop := (∀ x, x ∈ r ↔ x ∈ l ∨ x = k) ∧ r.length ≤ l.length + 1
theorem InsOf.same {l : List Key} {k : Key} (h : k ∈ l) : InsOf l k l := ⟨fun x => ⟨.inl, fun hx => by rcases hx with hx | rfl; exact hx; exact h⟩, by omega⟩
theorem InsOf.at {l : List Key} (k : Key) (j : Nat) : InsOf l k (l.take j ++ [k] ++ l.drop j) := by
  refine ⟨fun x => ?_, ?_⟩
  · have h := List.take_append_drop j l
    constructor
    · intro hx
      simp only [List.mem_append, List.mem_singleton] at hx
      rcases hx with (hx | hx) | hx
      · exact .inl (List.mem_of_mem_take hx)
      · exact .inr hx
      · exact .inl (List.mem_of_mem_drop hx)
    · intro hx
      simp only [List.mem_append, List.mem_singleton]
      rcases hx with hx | hx
      · rw [← h] at hx
        rcases List.mem_append.1 hx with hx | hx
        · exact .inl (.inl hx)
        · exact .inr hx
      · exact .inl (.inr hx)
  · simp; omega
/-- names in order stay in order -/
theorem InsAt.sorted {l r : List Key} {k : Key} (h : InsAt l k r) (hl : l.Pairwise (· < ·)) : r.Pairwise (· < ·) := by
  obtain ⟨j, hj, hless, h⟩ := h
  rcases h with ⟨rfl, _⟩ | ⟨rfl, hn⟩
  · exact hl
  · have hsp : (l.take j ++ l.drop j).Pairwise (· < ·) := by rw [List.take_append_drop]; exact hl
    obtain ⟨h1, h2, h3⟩ := List.pairwise_append.1 hsp
    have hk : ∀ y ∈ l.drop j, k < y := by
      cases hd : l.drop j with
      | nil => intro y hy; cases hy
      | cons x d =>
        have hx : l[j]? = some x := by
          have : (l.drop j)[0]? = some x := by rw [hd]; rfl
          rw [List.getElem?_drop] at this
          simpa using this
        obtain ⟨hne, hnl⟩ := hn x hx
        have hkx : k < x := by
          exact Classical.byContradiction fun h => hne (List.le_antisymm (List.not_lt.1 h) (List.not_lt.1 hnl))
        intro y hy
        rcases List.mem_cons.1 hy with rfl | hy
        · exact hkx
        · rw [hd] at h2; exact List.lt_trans hkx ((List.pairwise_cons.1 h2).1 y hy)
    rw [List.append_assoc]
    refine List.pairwise_append.2 ⟨h1, ?_, ?_⟩
    · exact List.pairwise_cons.2 ⟨hk, h2⟩
    · intro a ha b hb
      rcases List.mem_append.1 hb with hb | hb
      · rw [List.mem_singleton.1 hb]; exact hless a ha
      · exact h3 a ha b hb
end Go.Proofs.YtnomppdmhgefiaaGreat
/- Slices of bindings; the reference's Image and Renaming. -/
namespace Go.Proofs.YtnomppdmhgefiaaGreat
open Go.RowKit

abbrev Bd := Key × Tm
/-- the slice value v holds these bindings, in blocks below n -/
def BindsIs (n : Nat) (W : World) (bl : List Bd) (v : Value) : Prop :=
  ∃ oa cap, v = .slice oa bl.length cap ∧ bl.length ≤ cap ∧
    (bl ≠ [] → ∃ b o, oa = some ⟨b, o, none⟩ ∧ b < n ∧ ∀ i p, bl[i]? = some p → ∃ s, W.cell? ⟨b, o + i * 4, none⟩ = some (.string (kb p.1)) ∧ W.cell? ⟨b, o + i * 4 + 1, none⟩ = some (.string p.2.nm) ∧ W.cell? ⟨b, o + i * 4 + 2, none⟩ = some (.bool p.2.vr) ∧ W.cell? ⟨b, o + i * 4 + 3, none⟩ = some s ∧ SlIs n W p.2.ts s)
theorem BindsIs.carry {n m : Nat} {A B : World} {l : List Bd} {v : Value} (h : BindsIs n A l v) (hb : Below n A B) (hn : n ≤ m) : BindsIs m B l v := by
  obtain ⟨oa, cap, rfl, h1, h3⟩ := h
  refine ⟨oa, cap, rfl, h1, fun hne => ?_⟩
  obtain ⟨b, o, rfl, hbn, hc⟩ := h3 hne
  refine ⟨b, o, rfl, by omega, fun i p hk => ?_⟩
  obtain ⟨s, c0, c1, c2, c3, hs⟩ := hc i p hk
  exact ⟨s, (hb.cell (p := ⟨b, _, none⟩) hbn).trans c0, (hb.cell (p := ⟨b, _, none⟩) hbn).trans c1, (hb.cell (p := ⟨b, _, none⟩) hbn).trans c2, (hb.cell (p := ⟨b, _, none⟩) hbn).trans c3, hs.carry hb hn⟩

/-- what a name stands for -/
def imageOf (bl : List Bd) (k : Key) : Tm := match bl.find? (fun p => decide (p.1 = k)) with
  | some p => p.2
  | none => .mk (kb k) true []
theorem imageOf_hit {bl : List Bd} {k : Key} {j : Nat} {p : Bd} (h : ∀ q ∈ bl.take j, q.1 ≠ k) (hp : bl[j]? = some p) (hk : p.1 = k) : imageOf bl k = p.2 := by
  have hlt := (List.getElem?_eq_some_iff.1 hp).1
  have e : bl = bl.take j ++ p :: bl.drop (j + 1) := by
    have h1 := List.take_append_drop j bl
    rw [List.drop_eq_getElem_cons hlt] at h1
    have h2 := (List.getElem?_eq_some_iff.1 hp).2
    rw [h2] at h1
    exact h1.symm
  unfold imageOf
  rw [e, List.find?_append, List.find?_eq_none.2 (fun q hq => by simpa using h q hq)]
  simp [hk]
theorem imageOf_miss {bl : List Bd} {k : Key} (h : ∀ q ∈ bl, q.1 ≠ k) : imageOf bl k = .mk (kb k) true [] := by
  unfold imageOf
  rw [List.find?_eq_none.2 (fun q hq => by simpa using h q hq)]
theorem box4 {W : World} {b : Nat} {x y z u : Value} {e : TypeId} (h : W.heap[b]? = some (.cells #[x, y, z, u] e (0, 0))) :
    W.cell? ⟨b, 0, none⟩ = some x ∧ W.cell? ⟨b, 1, none⟩ = some y ∧ W.cell? ⟨b, 2, none⟩ = some z ∧ W.cell? ⟨b, 3, none⟩ = some u :=
  ⟨cells_of' h 0, cells_of' h 1, cells_of' h 2, cells_of' h 3⟩

set_option maxRecDepth 100000 in
set_option maxHeartbeats 2000000 in
theorem rimage_any (bl : List Bd) (k : Key) (v : Value) (w : World) (n : Nat) (hn : n ≤ w.heap.size) (hl : BindsIs n w bl v) (hlen : bl.length ≤ 100000000) :
    Calls Tryz.prog 54 #[v, .string (kb k)] w fun e w' => (∃ sl, e = .returned (tmv (imageOf bl k) sl) ∧ SlIs n w' (imageOf bl k).ts sl) ∧ Below w.heap.size w w' := by
  obtain ⟨oa, cap, rfl, hcap, hc⟩ := hl
  have HC := Lib.hid hc
  clear hc
  have hr0 : Below w.heap.size w (w.alloc (.cells #[.string ⟨#[]⟩, .bool false, .slice none 0 0] 25)) := by go_grown
  have HR0 := Lib.hid (heap_new_at w (.cells #[.string ⟨#[]⟩, .bool false, .slice none 0 0] 25) w.heap.size rfl)
  have HB0 := Lib.hid hr0
  clear hr0
  go_enter Tryz.func54, Tryz.ntmps54
  go_wp2_with fail
  go_loopw [9] (fun i wr => ∃ j : Nat, j ≤ bl.length ∧ i = .int .i64 j ∧ Hid (∀ q ∈ bl.take j, q.1 ≠ k) ∧ Below (w.heap.size + 1) (w.alloc (.cells #[.string ⟨#[]⟩, .bool false, .slice none 0 0] 25)) wr) (fun i _ => bl.length - (intOf i).toNat)
  case atStart => exact ⟨0, by omega, rfl, Lib.hid (by simp), Below.refl _ _⟩
  case round =>
    obtain ⟨j, hj, rfl, HE, hbw⟩ := hrel
    have hz := hbw.size
    simp only [World.size_alloc] at hz
    have hwr := HB0.out.trans (hbw.mono (by omega))
    have HWR := Lib.hid hwr
    by_cases hlt : j < bl.length
    · obtain ⟨p, hp⟩ : ∃ p, bl[j]? = some p := ⟨_, List.getElem?_eq_getElem hlt⟩
      obtain ⟨b1, o1, rfl, hbn, hc1⟩ := HC.out (by rintro rfl; simp at hlt)
      obtain ⟨s, c0, c1, c2, c3, hs⟩ := hc1 j p hp
      have c0 := (hwr.cell (p := ⟨b1, _, none⟩) (Nat.lt_of_lt_of_le hbn hn)).trans c0
      have c1 := (hwr.cell (p := ⟨b1, _, none⟩) (Nat.lt_of_lt_of_le hbn hn)).trans c1
      have c2 := (hwr.cell (p := ⟨b1, _, none⟩) (Nat.lt_of_lt_of_le hbn hn)).trans c2
      have c3 := (hwr.cell (p := ⟨b1, _, none⟩) (Nat.lt_of_lt_of_le hbn hn)).trans c3
      obtain ⟨os, cs, rfl, -⟩ := hs.form
      have HP := Lib.hid hp
      have HS := Lib.hid hs
      have HBW := Lib.hid hbw
      clear hc1 hp hs hbw hwr
      by_cases hxk : p.1 = k
      · have hbb := kb_beq_yes hxk
        have HI := Lib.hid (imageOf_hit HE.out HP.out hxk)
        clear hxk
        have hr := (Below.heap_alloc wr (.cells #[.string (kb p.1), .string p.2.nm, .bool p.2.vr, .slice os p.2.ts.length cs] 105) w.heap.size (by omega)).trans ((HBW.out.block w.heap.size (by omega)).trans HR0.out)
        obtain ⟨⟨r0, r1, r2⟩, f0, f1, f2⟩ := box3 hr
        have HR := Lib.hid hr
        clear hr
        go_wp2_with fail
        have hq := box3_set HR.out (.string p.2.nm) (.bool p.2.vr) (.slice os p.2.ts.length cs)
        obtain ⟨⟨q0, q1, q2⟩, -⟩ := box3 hq
        have hbf := below_set3 ((HWR.out.alloc (by omega) (.cells #[.string (kb p.1), .string p.2.nm, .bool p.2.vr, .slice os p.2.ts.length cs] 105))) (Nat.le_refl _) (.string p.2.nm) (.bool p.2.vr) (.slice os p.2.ts.length cs)
        refine bodyPost_ret (v := tmv p.2 (.slice os p.2.ts.length cs)) (by simp [results, Tryz.f54, go_sem, q0, q1, q2, tmv]) rfl ?_
        rw [HI.out]
        exact ⟨⟨_, rfl, HS.out.carry (hbf.mono hn) (Nat.le_refl _)⟩, hbf⟩
      · have hbb := kb_beq_no hxk
        have HX := Lib.hid hxk
        clear hxk
        go_wp2_with fail
        exact ⟨⟨j + 1, by omega, by go_num, Lib.hid (fun q hq => by
          rw [List.take_add_one, HP.out] at hq
          simp only [Option.toList_some, List.mem_append, List.mem_singleton] at hq
          rcases hq with hq | rfl
          · exact HE.out q hq
          · exact HX.out), HBW.out.alloc (by omega) _⟩, by simp [intOf]; omega⟩
    · have HI := Lib.hid (imageOf_miss (bl := bl) (k := k) (by have h := HE.out; rwa [List.take_of_length_le (by omega)] at h))
      have hr := (hbw.block w.heap.size (by omega)).trans HR0.out
      obtain ⟨⟨r0, r1, r2⟩, f0, f1, f2⟩ := box3 hr
      have HR := Lib.hid hr
      clear hr
      go_wp2_with fail
      have hq := box3_set HR.out (.string (kb k)) (.bool true) (.slice none 0 0)
      obtain ⟨⟨q0, q1, q2⟩, -⟩ := box3 hq
      have hbf := below_set3 HWR.out (Nat.le_refl _) (.string (kb k)) (.bool true) (.slice none 0 0)
      refine bodyPost_ret (v := tmv (.mk (kb k) true []) (.slice none 0 0)) (by simp [results, Tryz.f54, go_sem, q0, q1, q2, tmv, Tm.nm, Tm.vr]) rfl ?_
      rw [HI.out]
      exact ⟨⟨_, rfl, .nil0⟩, hbf⟩
end Go.Proofs.YtnomppdmhgefiaaGreat
/- CheckSubst. images: a map from names to terms with their measures. -/
namespace Go.Proofs.YtnomppdmhgefiaaGreat
open Go.RowKit

/-- the substitutions that CheckSubst lets by -/
structure SubOk (bl : List Bd) : Prop where
  names : ∀ p ∈ bl, isName (kb p.1) false = true
  order : ∀ i p q, bl[i]? = some p → bl[i + 1]? = some q → p.1 < q.1
  terms : ∀ p ∈ bl, p.2.ok
def bdBulk (bl : List Bd) : Nat := max bl.length (bl.foldr (fun p a => max (1 + p.1.length + p.2.bulk) a) 0)
theorem bdBulk_le {bl : List Bd} {k : Nat} (h1 : bl.length ≤ k) (h2 : ∀ p ∈ bl, 1 + p.1.length + p.2.bulk ≤ k) : bdBulk bl ≤ k := by
  unfold bdBulk
  refine Nat.max_le.2 ⟨h1, ?_⟩
  clear h1
  induction bl with
  | nil => exact Nat.zero_le _
  | cons x l ih => rw [List.foldr_cons]; exact Nat.max_le.2 ⟨h2 x (by simp), ih fun p hp => h2 p (by simp [hp])⟩
/-- a binding's cells -/
theorem BindsIs.get {n : Nat} {W : World} {bl : List Bd} {oa : Option Addr} {cap k : Nat} (h : BindsIs n W bl (.slice oa bl.length cap)) (hk : k < bl.length) :
    ∃ (b o : Nat) (p : Bd) (s : Value), oa = some ⟨b, o, none⟩ ∧ b < n ∧ bl[k]? = some p ∧ p ∈ bl ∧ SlIs n W p.2.ts s ∧
      W.cell? ⟨b, o + k * 4, none⟩ = some (.string (kb p.1)) ∧ W.cell? ⟨b, o + k * 4 + 1, none⟩ = some (.string p.2.nm) ∧ W.cell? ⟨b, o + k * 4 + 2, none⟩ = some (.bool p.2.vr) ∧ W.cell? ⟨b, o + k * 4 + 3, none⟩ = some s := by
  obtain ⟨oa', cap', he, -, h3⟩ := h
  simp only [Value.slice.injEq, true_and] at he
  obtain ⟨rfl, rfl⟩ := he
  obtain ⟨b, o, rfl, hb, hc⟩ := h3 (by rintro rfl; simp at hk)
  have hp : bl[k]? = some bl[k] := List.getElem?_eq_getElem hk
  obtain ⟨s, c0, c1, c2, c3, hs⟩ := hc k _ hp
  exact ⟨b, o, bl[k], s, rfl, hb, hp, List.getElem_mem hk, hs, c0, c1, c2, c3⟩

/-- what the first loop has seen -/
structure SubSt (bl : List Bd) (j : Nat) : Prop where
  names : ∀ p ∈ bl.take j, isName (kb p.1) false = true
  order : ∀ i p q, i + 1 < j → bl[i]? = some p → bl[i + 1]? = some q → p.1 < q.1
theorem take_one_more {bl : List Bd} {j : Nat} {p : Bd} (hp : bl[j]? = some p) : bl.take (j + 1) = bl.take j ++ [p] := by rw [List.take_add_one, hp]; rfl
theorem SubSt.first {bl : List Bd} {p : Bd} (hp : bl[0]? = some p) (hn : isName (kb p.1) false = true) : SubSt bl 1 := by
  refine ⟨fun q hq => ?_, fun i _ _ h => by omega⟩
  rw [take_one_more hp] at hq
  simp only [List.take_zero, List.nil_append, List.mem_singleton] at hq
  subst hq; exact hn
theorem SubSt.more {bl : List Bd} {j : Nat} (h : SubSt bl (j + 1)) {p q : Bd} (hq : bl[j]? = some q) (hp : bl[j + 1]? = some p) (hn : isName (kb p.1) false = true) (hl : q.1 < p.1) : SubSt bl (j + 1 + 1) := by
  refine ⟨fun x hx => ?_, fun i a b hi ha hb => ?_⟩
  · rw [take_one_more hp] at hx
    rcases List.mem_append.1 hx with hx | hx
    · exact h.names x hx
    · simp only [List.mem_singleton] at hx; subst hx; exact hn
  · by_cases e : i = j
    · subst e
      rw [hq] at ha; rw [hp] at hb
      cases ha; cases hb
      exact hl
    · exact h.order i a b (by omega) ha hb

end Go.Proofs.YtnomppdmhgefiaaGreat
namespace Go.Proofs.YtnomppdmhgefiaaGreat
open Go.RowKit Go.Maps

/-- how an element of the map reads: as itself -/
def imgR (v : Value) : Option (DataW Value × List MemPlace) := some (.held v, [])
/-- a term with its measures -/
def imgVal (t : Tm) (s : Value) : Value := .agg #[.string t.nm, .bool t.vr, s, .int .i64 t.size, .int .i64 t.depth]
/-- what the map's datum D says of the bindings bl, their terms lying below n -/
structure ImgInv (n : Nat) (W : World) (D : DataW Value) (bl : List Bd) : Prop where
  tidy : Tidy D
  has : ∀ k, Maps.has D (.string k) = decide (k ∈ bl.map (·.1))
  at_ : ∀ p ∈ bl, ∃ s, (∀ z, D.atKey (.string p.1) z = .held (imgVal p.2 s)) ∧ SlIs n W p.2.ts s
theorem ImgInv.empty (n : Nat) (W : World) : ImgInv n W (.map []) [] := ⟨tidy_empty, fun k => by simp [Maps.has_eq], fun p h => by cases h⟩
theorem ImgInv.put {n : Nat} {W : World} {D : DataW Value} {bl : List Bd} (h : ImgInv n W D bl) {p : Bd} (hp : p.1 ∉ bl.map (·.1)) {s : Value} (hs : SlIs n W p.2.ts s) : ImgInv n W (D.put (.string p.1) (.held (imgVal p.2 s))) (bl ++ [p]) := by
  have hl : WideAt.IsKeyLit (.string p.1) := trivial
  refine ⟨h.tidy.put hl _, fun k => ?_, fun q hq => ?_⟩
  · by_cases e : k = p.1
    · subst e; rw [has_put_same h.tidy.isMap hl]; simp
    · rw [has_put_other (by simpa using e), h.has]; simp [e]
  · rcases List.mem_append.1 hq with hq | hq
    · obtain ⟨s', h1, h2⟩ := h.at_ q hq
      have e : q.1 ≠ p.1 := fun e => hp (by rw [← e]; exact List.mem_map.2 ⟨q, hq, rfl⟩)
      exact ⟨s', fun z => by rw [atKey_put_other (by simpa using e)]; exact h1 z, h2⟩
    · obtain rfl := List.mem_singleton.1 hq
      exact ⟨s, fun z => atKey_put_same h.tidy.isMap hl _ z, hs⟩
theorem ImgInv.carry {n m : Nat} {A B : World} {D : DataW Value} {bl : List Bd} (h : ImgInv n A D bl) (hb : Below n A B) (hn : n ≤ m) : ImgInv m B D bl :=
  ⟨h.tidy, h.has, fun p hp => by obtain ⟨s, h1, h2⟩ := h.at_ p hp; exact ⟨s, h1, h2.carry hb hn⟩⟩
/-- block mb holds the images of bl -/
def ImgMap (n mb : Nat) (W : World) (bl : List Bd) : Prop := ∃ D : DataW Value, W.ownsMap Tryz.prog 9 imgR mb bl.length D ∧ ImgInv n W D bl
theorem ImgMap.carry {n m mb : Nat} {A B : World} {bl : List Bd} (h : ImgMap n mb A bl) (hb : Below n A B) (hn : n ≤ m) (hm : B.heap[mb]? = A.heap[mb]?) : ImgMap m mb B bl := by
  obtain ⟨D, ⟨es, cl, hes, h1⟩, h2⟩ := h
  exact ⟨D, ⟨es, cl, hm.trans hes, h1⟩, h2.carry hb hn⟩
theorem keyOf_kb {k : Key} (h : k.length ≤ 1048576) : keyOf Tryz.prog 9 (.string (kb k)) = some (.string k) := by
  have := WideMaps.keyOf_string_mk (P := Tryz.prog) (s := kb k) Tryz.underlying9 (by show k.toArray.size ≤ _; unfold maxLen; simp; omega)
  rw [this, key_kb]
theorem SubOk.nodup {bl : List Bd} (h : SubOk bl) : (bl.map (·.1)).Nodup := by
  have key : ∀ (l : List Bd), (∀ i p q, l[i]? = some p → l[i + 1]? = some q → p.1 < q.1) → (l.map (·.1)).Pairwise (· < ·) := by
    intro l
    induction l with
    | nil => intro _; exact .nil
    | cons x l ih =>
      intro h
      have h2 := ih fun i p q hp hq => h (i + 1) p q (by simpa using hp) (by simpa using hq)
      refine List.Pairwise.cons (fun y hy => ?_) h2
      cases l with
      | nil => cases hy
      | cons z l =>
        have hxz := h 0 x z rfl rfl
        rcases List.mem_cons.1 hy with rfl | hy
        · exact hxz
        · exact List.lt_trans hxz ((List.pairwise_cons.1 h2).1 y hy)
  exact (key bl h.order).imp fun h e => by subst e; exact absurd h (List.lt_irrefl _)

end Go.Proofs.YtnomppdmhgefiaaGreat
/- Places in a term: locate, and a store at a place of a term of its own. -/
namespace Go.Proofs.YtnomppdmhgefiaaGreat
open Go.RowKit

/-- the argument number i -/
def Tm.kid (t : Tm) (i : Int) : Option Tm := if 0 ≤ i then t.ts[i.toNat]? else none
def Tm.at : Tm → List Int → Option Tm
  | t, [] => some t
  | t, i :: l => match t.kid i with | some u => u.at l | none => none
def Tm.put : Tm → List Int → Tm → Tm
  | _, [], u => u
  | t, i :: l, u => match t.kid i with | some x => .mk t.nm t.vr (t.ts.set i.toNat (x.put l u)) | none => t
/-- the slice value v holds the integers l -/
structure PosIs (n₀ : Nat) (W : World) (l : List Int) (v : Value) : Prop where
  form : ∃ oa cap, v = .slice oa l.length cap ∧ (l ≠ [] → ∃ b o, oa = some ⟨b, o, none⟩ ∧ b < n₀ ∧ ∀ (i : Nat) x, l[i]? = some x → W.cell? ⟨b, o + i, none⟩ = some (.int .i64 x))
theorem PosIs.carry {n₀ n₁ : Nat} {A B : World} (h : Below n₀ A B) (hn : n₀ ≤ n₁) {l : List Int} {s : Value} (hs : PosIs n₀ A l s) : PosIs n₁ B l s := by
  obtain ⟨oa, cap, rfl, hf⟩ := hs.form
  refine ⟨oa, cap, rfl, fun hne => ?_⟩
  obtain ⟨b, o, rfl, hb, hc⟩ := hf hne
  exact ⟨b, o, rfl, by omega, fun i x hx => (h.cell (p := ⟨b, _, none⟩) hb).trans (hc i x hx)⟩

/-- the cells at an address are the term's -/
structure Loc (n₀ : Nat) (W : World) (t : Tm) (b o : Nat) : Prop where
  cells : ∃ s, W.cell? ⟨b, o, none⟩ = some (.string t.nm) ∧ W.cell? ⟨b, o + 1, none⟩ = some (.bool t.vr) ∧ W.cell? ⟨b, o + 2, none⟩ = some s ∧ SlIs n₀ W t.ts s

/-- from address to address, argument by argument -/
inductive Steps (W : World) : Nat → Nat → List Int → Nat → Nat → Prop
  | nil (b o : Nat) : Steps W b o [] b o
  | cons (b o : Nat) (i : Int) (l : List Int) (b1 o1 n cap b' o' : Nat) : 0 ≤ i → W.cell? ⟨b, o + 2, none⟩ = some (.slice (some ⟨b1, o1, none⟩) n cap) → Steps W b1 (o1 + i.toNat * 3) l b' o' → Steps W b o (i :: l) b' o'

end Go.Proofs.YtnomppdmhgefiaaGreat
/- Merged: RdB, RdX, RdW. -/
/- What an argument reads as: bindings in memory. -/
namespace Go.Proofs.YtnomppdmhgefiaaGreat
open Go.RowKit Go.ChangeShapes Go.WideShapes Go.ChangeAt Go.Deep

instance : Inhabited Bd := ⟨([], .mk ⟨#[]⟩ false [])⟩
section
variable {H : Type} {enc : TypeId × Value → H} {w : World} (sp : Nat → Bool)
end
end Go.Proofs.YtnomppdmhgefiaaGreat
/- What an argument reads as: two terms; a substitution, a term and a position. -/
namespace Go.Proofs.YtnomppdmhgefiaaGreat
open Go.RowKit Go.ChangeShapes Go.WideShapes Go.ChangeAt Go.Deep

theorem cellsIntX : Tryz.prog.cellsOf 3 = 1 := by kernel_rfl
theorem bulk_posX {H : Type} (d : DataW H) : 1 ≤ Rows.uptoBulk d := by
  cases d with
  | lit l => cases l <;> simp [Rows.uptoBulk]
  | nil => simp [Rows.uptoBulk]
  | ptr d => simp [Rows.uptoBulk]
  | slice elems spare => simp [Rows.uptoBulk]
  | agg parts => simp [Rows.uptoBulk]
  | iface t d => simp [Rows.uptoBulk]
  | map entries => simp [Rows.uptoBulk]
  | held h => simp [Rows.uptoBulk]
theorem bulk_lengthX {H : Type} (l : List (DataW H)) : l.length ≤ Rows.uptoBulkAll l := by
  induction l with
  | nil => simp [Rows.uptoBulkAll]
  | cons x r ih => have := bulk_posX x; simp only [Rows.uptoBulkAll, List.length_cons]; omega
theorem pos_openX {H : Type} (enc : TypeId × Value → H) (W : World) (n : Nat) (cs : List Value) (x : DataW H × List MemPlace) (h : DataW.trod enc Tryz.prog W 0 (fun _ => true) true n 26 cs = some x) :
    ∃ (l : List Int) (v : Value), cs = [v] ∧ PosIs W.heap.size W l v ∧ l.length ≤ Rows.uptoBulk x.1 ∧ (∀ oa m k, v = .slice oa m k → m ≤ k) := by
  rcases open_ints Tryz.underlying26 Tryz.underlying3 cellsIntX h with ⟨rfl, rfl⟩ | ⟨a, len, cap, zs, rfl, hba, hlc, hcm, hzl, rfl, hcell, -⟩
  · exact ⟨[], _, rfl, ⟨_, _, rfl, fun h => absurd rfl h⟩, by simp, by rintro oa m k ⟨⟩; exact Nat.le_refl _⟩
  · simp only [if_true] at hzl
    have hll : (zs.take len).length = len := by simp; omega
    refine ⟨zs.take len, _, rfl, ⟨some a, cap, by rw [hll], fun hne => ?_⟩, ?_, by rintro oa m k ⟨⟩; exact hlc⟩
    · have hpos : 0 < len := by
        cases len with
        | zero => exact absurd rfl hne
        | succ n => omega
      have h0 := hcell 0 (by omega)
      have e0 : a.add 0 = a := by simp [Addr.add]
      rw [e0] at h0
      have hsp := World.cell?_spot h0
      obtain ⟨ab, ao, asp⟩ := a
      simp only at hsp; subst hsp
      refine ⟨ab, ao, rfl, World.block_lt_of_cell? W _ h0, fun i x hx => ?_⟩
      have hi : i < len := by have := (List.getElem?_eq_some_iff.1 hx).1; omega
      have hc := hcell i (by omega)
      rw [addr_add] at hc
      rw [hc]
      rw [List.getElem?_take, if_pos hi] at hx
      rw [List.getD_eq_getElem?_getD, hx]; rfl
    · rw [hll]
      simp only [Rows.uptoBulk]
      have := bulk_lengthX (H := H) (lits .i64 (zs.take len))
      rw [show (lits (H := H) IntKind.i64 (zs.take len)).length = len by rw [lits, List.length_map]; exact hll] at this
      omega
section
variable {H : Type} {enc : TypeId × Value → H} {w : World} (sp : Nat → Bool)
theorem sp_intsX (k : Nat) : SpAt enc Tryz.prog w sp k 26 := by
  match k with
  | 0 => exact sp_zero sp _
  | k + 1 => exact sp_slice sp Tryz.underlying26 (by rw [cellsIntX]; omega) (sp_int sp Tryz.underlying3 k)
end
end Go.Proofs.YtnomppdmhgefiaaGreat
/- What an argument reads as: a weight order. -/
namespace Go.Proofs.YtnomppdmhgefiaaGreat
open Go.RowKit Go.ChangeShapes Go.WideShapes Go.ChangeAt Go.Deep

theorem cellsOrder : Tryz.prog.cellsOf 56 = 2 := by kernel_rfl
set_option maxRecDepth 100000 in
set_option maxHeartbeats 1000000 in
theorem order_open {H : Type} (enc : TypeId × Value → H) (W : World) (n : Nat) (cs : List Value) (x : DataW H × List MemPlace) (h : DataW.trod enc Tryz.prog W 0 (fun _ => true) true n 56 cs = some x) :
    ∃ (L : List Rk) (lv : Value) (u : Int), cs = [lv, .int .i64 u] ∧ RksIs W.heap.size W L lv ∧ rkBulk L ≤ Rows.uptoBulk x.1 := by
  obtain ⟨xs, m, rfl, rfl, hl, hlen, hf⟩ := DataW.trod_struct Tryz.underlying56 h
  rw [cellsOrder] at hl
  match cs, hl with
  | [v0, v1], _ =>
    match xs, hlen with
    | [y0, y1], _ =>
      have h0 := hf 0 _ rfl
      have h1 := hf 1 _ rfl
      simp only [List.getElem?_cons_zero, List.getElem?_cons_succ] at h0 h1
      obtain ⟨L, hL, hb⟩ := ranks_open enc W _ _ _ h0
      obtain ⟨a, ha, rfl, -⟩ := DataW.trod_int Tryz.underlying3 h1
      cases ha
      refine ⟨L, v0, a, rfl, hL, ?_⟩
      simp only [List.map_cons, List.map_nil, Rows.uptoBulk, Rows.uptoBulkAll]
      have hb' : rkBulk L ≤ Rows.uptoBulk y0.1 := hb
      omega
section
variable {H : Type} {enc : TypeId × Value → H} {w : World} (sp : Nat → Bool)
theorem sp_order (k : Nat) : SpAt enc Tryz.prog w sp k 56 := by
  match k with
  | 0 => exact sp_zero sp _
  | k + 1 => exact sp_struct2 sp Tryz.underlying56 (sp_ranks sp _) (sp_int sp Tryz.underlying3 _)
end
end Go.Proofs.YtnomppdmhgefiaaGreat
/- Rules in memory; sides(r) gives an iterator over the terms of the rules. -/
namespace Go.Proofs.YtnomppdmhgefiaaGreat
open Go.RowKit Go.Shelf
attribute [local go_sem] Oper.semAt_some

/-- a term with the slice value of its arguments -/
abbrev TmV := Tm × Value
abbrev RlV := TmV × TmV
/-- the slice value v holds these rules, in blocks below n -/
def RulV (n : Nat) (W : World) (l : List RlV) (v : Value) : Prop :=
  ∃ oa cap, v = .slice oa l.length cap ∧ l.length ≤ cap ∧
    (l ≠ [] → ∃ b o, oa = some ⟨b, o, none⟩ ∧ b < n ∧ ∀ i p, l[i]? = some p → (W.cell? ⟨b, o + i * 6, none⟩ = some (.string p.1.1.nm) ∧ W.cell? ⟨b, o + i * 6 + 1, none⟩ = some (.bool p.1.1.vr) ∧ W.cell? ⟨b, o + i * 6 + 2, none⟩ = some p.1.2 ∧
      W.cell? ⟨b, o + i * 6 + 3, none⟩ = some (.string p.2.1.nm) ∧ W.cell? ⟨b, o + i * 6 + 4, none⟩ = some (.bool p.2.1.vr) ∧ W.cell? ⟨b, o + i * 6 + 5, none⟩ = some p.2.2) ∧ SlIs n W p.1.1.ts p.1.2 ∧ SlIs n W p.2.1.ts p.2.2)
theorem RulV.carry {n m : Nat} {A B : World} {l : List RlV} {v : Value} (h : RulV n A l v) (hb : Below n A B) (hn : n ≤ m) : RulV m B l v := by
  obtain ⟨oa, cap, rfl, h1, h3⟩ := h
  refine ⟨oa, cap, rfl, h1, fun hne => ?_⟩
  obtain ⟨b, o, rfl, hbn, hc⟩ := h3 hne
  refine ⟨b, o, rfl, by omega, fun i p hk => ?_⟩
  obtain ⟨⟨c0, c1, c2, c3, c4, c5⟩, hs, ht⟩ := hc i p hk
  exact ⟨⟨(hb.cell (p := ⟨b, _, none⟩) hbn).trans c0, (hb.cell (p := ⟨b, _, none⟩) hbn).trans c1, (hb.cell (p := ⟨b, _, none⟩) hbn).trans c2, (hb.cell (p := ⟨b, _, none⟩) hbn).trans c3, (hb.cell (p := ⟨b, _, none⟩) hbn).trans c4, (hb.cell (p := ⟨b, _, none⟩) hbn).trans c5⟩, hs.carry hb hn, ht.carry hb hn⟩
theorem RulV.shape {n : Nat} {W : World} {l : List RlV} {v : Value} (h : RulV n W l v) : ∃ oa cap, v = .slice oa l.length cap := by obtain ⟨oa, cap, rfl, -⟩ := h; exact ⟨oa, cap, rfl⟩
/-- a rule's cells -/
theorem RulV.get {n : Nat} {W : World} {l : List RlV} {oa : Option Addr} {cap k : Nat} (h : RulV n W l (.slice oa l.length cap)) (hk : k < l.length) :
    ∃ (b o : Nat) (s t : Tm) (os ot : Option Addr) (cs ct : Nat), oa = some ⟨b, o, none⟩ ∧ b < n ∧ l[k]? = some ((s, .slice os s.ts.length cs), (t, .slice ot t.ts.length ct)) ∧ SlIs n W s.ts (.slice os s.ts.length cs) ∧ SlIs n W t.ts (.slice ot t.ts.length ct) ∧
      W.cell? ⟨b, o + k * 6, none⟩ = some (.string s.nm) ∧ W.cell? ⟨b, o + k * 6 + 1, none⟩ = some (.bool s.vr) ∧ W.cell? ⟨b, o + k * 6 + 2, none⟩ = some (.slice os s.ts.length cs) ∧
      W.cell? ⟨b, o + k * 6 + 3, none⟩ = some (.string t.nm) ∧ W.cell? ⟨b, o + k * 6 + 4, none⟩ = some (.bool t.vr) ∧ W.cell? ⟨b, o + k * 6 + 5, none⟩ = some (.slice ot t.ts.length ct) := by
  obtain ⟨oa', cap', he, -, h3⟩ := h
  simp only [Value.slice.injEq, true_and] at he
  obtain ⟨rfl, rfl⟩ := he
  obtain ⟨b, o, rfl, hb, hc⟩ := h3 (by rintro rfl; simp at hk)
  have hp : l[k]? = some l[k] := List.getElem?_eq_getElem hk
  obtain ⟨⟨c0, c1, c2, c3, c4, c5⟩, hs, ht⟩ := hc k _ hp
  obtain ⟨os, cs, e1, -⟩ := hs.form
  obtain ⟨ot, ct, e2, -⟩ := ht.form
  refine ⟨b, o, l[k].1.1, l[k].2.1, os, ot, cs, ct, rfl, hb, ?_, by rw [← e1]; exact hs, by rw [← e2]; exact ht, c0, c1, by rw [← e1]; exact c2, c3, c4, by rw [← e2]; exact c5⟩
  rw [hp, ← e1, ← e2]
def sidesV : List RlV → List TmV
  | [] => []
  | p :: l => p.1 :: p.2 :: sidesV l
theorem sidesV_append (l r : List RlV) : sidesV (l ++ r) = sidesV l ++ sidesV r := by
  induction l with
  | nil => rfl
  | cons p l ih => simp only [List.cons_append, sidesV, ih]
theorem sidesV_length (l : List RlV) : (sidesV l).length = 2 * l.length := by
  induction l with
  | nil => rfl
  | cons p l ih => simp only [sidesV, List.length_cons, ih]; omega
theorem sidesV_take (k : Nat) (l : List RlV) : sidesV (l.take k) <+: sidesV l := ⟨sidesV (l.drop k), by rw [← sidesV_append, List.take_append_drop]⟩
@[reducible] def TmV.encs (x : TmV) : Array Value := #[.agg #[.string x.1.nm, .bool x.1.vr, x.2]]

set_option maxRecDepth 100000 in
set_option maxHeartbeats 1000000 in
theorem sides_in (F : Fence) (n : Nat) (hf : F.fn 164) (hro : F.round = none) (v : Value) (hv : ∃ oa l c, v = .slice oa l c) (w : World) :
    CallsIn F n Tryz.prog 164 #[v] w fun e w' =>
      e = .returned (.func (.func 213) #[] #[.pointer (some ⟨w.heap.size, 0, none⟩)]) ∧ w' = w.alloc (.cells #[v] 22) := by
  obtain ⟨oa, l, c, rfl⟩ := hv
  refine callsIn_of_wp Tryz.func164 rfl hf ?_ hro
  simp only [Tryz.ntmps164, List.size_toArray, List.length_cons, List.length_nil, Nat.reduceAdd, Nat.reduceSub, Array.replicate_succ, Array.replicate_zero, List.push_toArray, List.append_toArray, List.nil_append, List.cons_append]
  gi_wp2
  go_ret
  exact ⟨rfl, rfl⟩

set_option maxRecDepth 100000 in
set_option maxHeartbeats 4000000 in
theorem sides1_in (F : Fence) (hd : F.depth = none) (n : Nat) (hf : F.fn 213) (hro : F.round = none) (lp Bt n₀ m₀ : Nat) (l : List RlV) (s : Value) (J Jx : List TmV → World → Prop) (hJ : ∀ s A o, J s A → J s (World.alloc A o))
    (hnm : n₀ ≤ m₀)
    (hY : ∀ pre (x : TmV) W, J pre W → pre ++ [x] <+: sidesV l → YieldAt F (n - 1) Tryz.prog lp x.encs W fun e W' =>
      (e = .returned (.bool true) ∧ J (pre ++ [x]) W' ∧ Keep n₀ m₀ W W') ∨ (e = .returned (.bool false) ∧ Jx (pre ++ [x]) W'))
    (W : World) (hm : m₀ ≤ W.heap.size) (h0 : W.cell? ⟨Bt, 0, none⟩ = some s) (hs : RulV n₀ W l s) (hl : l.length ≤ 1048576) (hJ0 : J [] W) :
    CallsIn F n Tryz.prog 213 #[.func (.yield lp) #[] #[], .pointer (some ⟨Bt, 0, none⟩)] W fun e W' => (∃ v, e = .returned v) ∧
      (J (sidesV l) W' ∨ (∃ pre : List TmV, pre <+: sidesV l ∧ Jx pre W')) := by
  have hdd : ∀ k : Nat, (F.depth.isSome = true → 1 ≤ k) := fun k h => by rw [hd] at h; cases h
  have hsl := sidesV_length l
  have HY := Lib.hid hY
  have HS := Lib.hid hs
  obtain ⟨oa, cap, rfl, -, -⟩ := hs
  clear hY
  refine callsIn_of_wp Tryz.func213 rfl hf ?_ hro
  simp only [Tryz.ntmps213, List.size_toArray, List.length_cons, List.length_nil, Nat.reduceAdd, Nat.reduceSub, Array.replicate_succ, Array.replicate_zero, List.push_toArray, List.append_toArray, List.nil_append, List.cons_append]
  gi_wp2_with fail
  gi_loopw [7] (fun i wr => ∃ k : Nat, k ≤ l.length ∧ i = .int .i64 k ∧ J (sidesV (l.take k)) wr ∧ Below n₀ W wr ∧ m₀ ≤ wr.heap.size) (fun i _ => l.length - (intOf i).toNat)
  case atStart => exact ⟨0, by omega, rfl, by simpa [sidesV] using hJ0, Below.refl _ _, hm⟩
  case round =>
    obtain ⟨k, hk, rfl, hJw, hbw, hmw⟩ := hrel
    by_cases hlt : k < l.length
    · obtain ⟨b, o, x, y, ox, oy, cx, cy, rfl, hbn, hp, hsx, hsy, c0, c1, c2, c3, c4, c5⟩ := (HS.out.carry hbw (Nat.le_refl _)).get hlt
      have HP := Lib.hid hp
      have hpre : (sidesV (l.take k)).length = 2 * k := by rw [sidesV_length, List.length_take]; omega
      have hz0 := hbw.size
      have HTK : Hid (sidesV (l.take (k + 1)) = (sidesV (l.take k) ++ [(x, .slice ox x.ts.length cx)]) ++ [(y, .slice oy y.ts.length cy)]) := Lib.hid (by
        rw [List.take_add_one, hp, sidesV_append, List.append_assoc]; rfl)
      clear hp
      have HPX : Hid (sidesV (l.take k) ++ [(x, .slice ox x.ts.length cx)] <+: sidesV l ∧ (sidesV (l.take k) ++ [(x, .slice ox x.ts.length cx)]) ++ [(y, .slice oy y.ts.length cy)] <+: sidesV l) := Lib.hid (by
        have h1 := sidesV_take (k + 1) l
        rw [HTK.out] at h1
        exact ⟨(List.prefix_append _ _).trans h1, h1⟩)
      obtain ⟨fn, tmps, assign, body, hy, hR⟩ := HY.out (sidesV (l.take k)) (x, .slice ox x.ts.length cx) _ (hJ _ _ (.cells #[.string x.nm, .bool x.vr, .slice ox x.ts.length cx, .string y.nm, .bool y.vr, .slice oy y.ts.length cy] 96) hJw) HPX.out.1
      gi_wp2_with fail
      refine hR.mono ?_
      clear hR hy
      rintro e W1 (⟨rfl, hJ1, hk1⟩ | ⟨rfl, hJx1⟩)
      · have b3 := hk1.new hmw 3
        have b4 := hk1.new hmw 4
        have b5 := hk1.new hmw 5
        simp only [List.getElem?_toArray, List.getElem?_cons_zero, List.getElem?_cons_succ] at b3 b4 b5
        have hb1 : Below n₀ wr W1 := Below.trans ((Below.refl n₀ wr).alloc (by omega) _) hk1.below
        have hz1 := hk1.below.size
        have HB1 := Lib.hid (hbw.trans hb1)
        obtain ⟨fn2, tmps2, assign2, body2, hy2, hR2⟩ := HY.out _ (y, .slice oy y.ts.length cy) W1 hJ1 HPX.out.2
        clear hJ1 hk1 hb1
        gi_wp2_with fail
        refine hR2.mono ?_
        clear hR2 hy2
        rintro e W2 (⟨rfl, hJ2, hk2⟩ | ⟨rfl, hJx2⟩)
        · rw [← HTK.out] at hJ2
          have hz2 := hk2.below.size
          have HB2 := Lib.hid (HB1.out.trans hk2.below)
          have HJ2 := Lib.hid hJ2
          clear hJ2 hk2
          gi_wp2_with fail
          exact ⟨⟨k + 1, by omega, by go_num, HJ2.out, HB2.out, by simp at hz1; omega⟩, by simp [intOf]; omega⟩
        · have HJ2 := Lib.hid hJx2
          clear hJx2
          gi_wp2_with fail
          refine bodyPost_ret (results_none rfl _ _ _) rfl ?_
          exact ⟨⟨_, rfl⟩, .inr ⟨_, HPX.out.2, HJ2.out⟩⟩
      · have HJ1 := Lib.hid hJx1
        clear hJx1
        gi_wp2_with fail
        refine ⟨fun f h => (by cases h), ?_⟩
        gi_wp2_with fail
        refine bodyPost_ret (results_none rfl _ _ _) rfl ?_
        exact ⟨⟨_, rfl⟩, .inr ⟨_, HPX.out.1, HJ1.out⟩⟩
    · obtain rfl : k = l.length := by omega
      rw [List.take_length] at hJw
      have HJ := Lib.hid hJw
      gi_wp2_with fail
      go_end0
      exact ⟨⟨_, rfl⟩, .inl HJ.out⟩
theorem RulV.mem {n : Nat} {W : World} {l : List RlV} {v : Value} (h : RulV n W l v) {x : TmV} (hx : x ∈ sidesV l) : SlIs n W x.1.ts x.2 := by
  obtain ⟨oa, cap, rfl, -, h3⟩ := h
  by_cases hl : l = []
  · subst hl; cases hx
  obtain ⟨b, o, -, -, hc⟩ := h3 hl
  have key : ∀ l' : List RlV, (∀ p ∈ l', p ∈ l) → x ∈ sidesV l' → ∃ p ∈ l, x = p.1 ∨ x = p.2 := by
    intro l'
    induction l' with
    | nil => intro _ h; cases h
    | cons p l' ih =>
      intro hm h
      simp only [sidesV, List.mem_cons] at h
      rcases h with h | h | h
      · exact ⟨p, hm p (by simp), .inl h⟩
      · exact ⟨p, hm p (by simp), .inr h⟩
      · exact ih (fun q hq => hm q (by simp [hq])) h
  obtain ⟨p, hp, hxp⟩ := key l (fun _ h => h) hx
  obtain ⟨i, hi, rfl⟩ := List.getElem_of_mem hp
  obtain ⟨-, hs, ht⟩ := hc i _ (List.getElem?_eq_getElem hi)
  rcases hxp with rfl | rfl
  · exact hs
  · exact ht
/-- one of the terms of the rules -/
abbrev SdV (l : List RlV) := {x : TmV // x ∈ sidesV l}
/-- THE ITERATOR'S CONTRACT. -/
theorem sides_stops (F : Fence) (hd : F.depth = none) (n : Nat) (hf : F.fn 213) (hro : F.round = none) (Bt n₀ : Nat) (l : List RlV) (s : Value) (w : World) (hBt : Bt < w.heap.size) (hn : n₀ ≤ w.heap.size)
    (h0 : w.cell? ⟨Bt, 0, none⟩ = some s) (hs : RulV n₀ w l s) (hl : l.length ≤ 1048576) :
    SeqStopsK F n Tryz.prog 213 #[.pointer (some ⟨Bt, 0, none⟩)] (fun x : SdV l => x.1.encs) (Keep n₀ w.heap.size) (fun ys => ys.map Subtype.val = sidesV l) (fun pre => pre.map Subtype.val <+: sidesV l) (sidesV l).length w := fun lp J Jx W hW hJ _ hY hJ0 =>
  (sides1_in F hd n hf hro lp Bt n₀ w.heap.size l s (fun pre W => ∃ ys : List (SdV l), ys.map Subtype.val = pre ∧ J ys W) (fun pre W => ∃ ys : List (SdV l), ys.map Subtype.val = pre ∧ Jx ys W)
    (fun s A o ⟨ys, h1, h⟩ => ⟨ys, h1, hJ ys A _ none h (World.grownBy_alloc A o none) (fun r e => by cases e)⟩) hn
    (fun pre x W ⟨ys, h1, h⟩ hp => by
      have hx : x ∈ sidesV l := hp.subset (by simp)
      have hlen : ys.length < (sidesV l).length := by
        have := hp.length_le
        rw [List.length_append, ← h1, List.length_map] at this
        simp at this
        omega
      obtain ⟨fn, tmps, assign, body, hy, hR⟩ := hY ys ⟨x, hx⟩ W h hlen
      refine ⟨fn, tmps, assign, body, hy, hR.mono ?_⟩
      rintro e W' (⟨he, hj, hk⟩ | ⟨he, hj⟩)
      · exact .inl ⟨he, ⟨ys ++ [⟨x, hx⟩], by simp [h1], hj⟩, hk⟩
      · exact .inr ⟨he, ⟨ys ++ [⟨x, hx⟩], by simp [h1], hj⟩⟩)
    W hW.size
    ((hW.cell (p := ⟨Bt, 0, none⟩) hBt).trans h0) (hs.carry (hW.mono hn) (Nat.le_refl _)) hl ⟨[], rfl, hJ0⟩).mono fun e W' ⟨h1, h2⟩ => ⟨h1, h2.imp (fun ⟨ys, h, hj⟩ => ⟨ys, h, hj⟩) (fun ⟨pre, hp, ys, h, hj⟩ => ⟨ys, by show List.map Subtype.val ys <+: _; rw [h]; exact hp, hj⟩)⟩
end Go.Proofs.YtnomppdmhgefiaaGreat
