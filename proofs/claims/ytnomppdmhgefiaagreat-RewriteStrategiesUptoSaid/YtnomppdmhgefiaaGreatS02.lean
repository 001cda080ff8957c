/- Packed: Sz, Own. -/
import Derived.Test.YtnomppdmhgefiaaGreatRows
import Derived.Test.YtnomppdmhgefiaaGreatS01
import Derived.WalkKit
import Derived.ProofKit
import Derived.OpenShut
import Derived.Handy
import Derived.Lib.Hide
import Derived.RangeFuncBox
import Derived.Deep.Draws
/- Merged: Nm, Nm2, Sz. -/
/- Names: their bytes, what is a name; the walks of the program's and the reference's functions on names. -/
namespace Go.Proofs.YtnomppdmhgefiaaGreat
open Go.RowKit

theorem ret_int {k : IntKind} {a b : Int} (h : a = b) : Ending.returned (.int k a) = .returned (.int k b) := by rw [h]
theorem ret_bool {a b : Bool} (h : a = b) : Ending.returned (.bool a) = .returned (.bool b) := by rw [h]

/-- may the byte stand in a name? -/
def okByte (c : UInt8) : Bool := (65 ≤ c && c ≤ 90) || (97 ≤ c && c ≤ 122) || (48 ≤ c && c ≤ 57) || c == 95 || c == 39
theorem okByte_yes {c : UInt8} (h : (65 ≤ c.toNat ∧ c.toNat ≤ 90) ∨ (97 ≤ c.toNat ∧ c.toNat ≤ 122) ∨ (48 ≤ c.toNat ∧ c.toNat ≤ 57) ∨ c.toNat = 95 ∨ c.toNat = 39) : okByte c = true := by
  simp [okByte, UInt8.le_iff_toNat_le, ← UInt8.toNat_inj]; omega
theorem okByte_no {c : UInt8} (h : ¬ ((65 ≤ c.toNat ∧ c.toNat ≤ 90) ∨ (97 ≤ c.toNat ∧ c.toNat ≤ 122) ∨ (48 ≤ c.toNat ∧ c.toNat ≤ 57) ∨ c.toNat = 95 ∨ c.toNat = 39)) : okByte c = false := by
  simp [okByte, UInt8.le_iff_toNat_le, ← UInt8.toNat_inj]; omega
theorem byte_cases (n : Nat) : n < 39 ∨ n = 39 ∨ (39 < n ∧ n < 48) ∨ (48 ≤ n ∧ n ≤ 57) ∨ (57 < n ∧ n < 65) ∨ (65 ≤ n ∧ n ≤ 90) ∨ (90 < n ∧ n < 95) ∨ n = 95 ∨ n = 96 ∨ (97 ≤ n ∧ n ≤ 122) ∨ 122 < n := by omega

/-- do all bytes stand in names? -/
def plain (s : ByteArray) : Bool := s.data.toList.all okByte
theorem all_snoc {l : List UInt8} {k : Nat} {c : UInt8} (h : l[k]? = some c) (p : UInt8 → Bool) : (l.take (k + 1)).all p = ((l.take k).all p && p c) := by
  rw [List.take_add_one, h]; simp
theorem all_not {l : List UInt8} {k : Nat} {c : UInt8} (h : l[k]? = some c) {p : UInt8 → Bool} (hp : p c = false) : l.all p = false := by
  rw [List.all_eq_false]; exact ⟨c, List.mem_of_getElem? h, by simp [hp]⟩
theorem bytes_get {s : ByteArray} {k : Nat} (h : k < s.size) : s.data.toList[k]? = some s[k] := by
  rw [Array.getElem?_toList, Array.getElem?_eq_getElem (by exact h)]; rfl
theorem bytes_len (s : ByteArray) : s.data.toList.length = s.size := by rw [Array.length_toList]; rfl

set_option maxHeartbeats 1000000 in
theorem plain_any (s : ByteArray) (w : World) (hs : s.size ≤ 1048576) :
    Calls Tryz.prog 147 #[.string s] w fun e w' => e = .returned (.bool (plain s)) ∧ w = w' := by
  go_enter Tryz.func147, Tryz.ntmps147
  go_wp2_with fail
  go_loop [3, 4, 5, 6, 9] (fun _ _ _ _ i => ∃ k : Nat, k ≤ s.size ∧ i = .int .i64 k ∧ Hid ((s.data.toList.take k).all okByte = true)) (fun _ _ _ _ i => s.size - (intOf i).toNat)
  case atStart => exact ⟨0, by omega, rfl, Lib.hid rfl⟩
  case round =>
    obtain ⟨k, hk, rfl, HA⟩ := hrel
    by_cases hlt : k < s.size
    · have HG := Lib.hid (bytes_get hlt)
      have HY' := Lib.hid (@okByte_yes (s[k]'hlt))
      have HN' := Lib.hid (@okByte_no (s[k]'hlt))
      rcases byte_cases s[k].toNat with h | h | h | h | h | h | h | h | h | h | h
      all_goals
        have HC := Lib.hid h
        first
          | have e95 : (((s[k]'hlt).toNat : Int) != 95) = true := by rw [bne_iff_ne]; omega
          | have e95 : (((s[k]'hlt).toNat : Int) != 95) = false := by rw [bne_eq_false_iff_eq]; omega
        first
          | have e39 : (((s[k]'hlt).toNat : Int) != 39) = true := by rw [bne_iff_ne]; omega
          | have e39 : (((s[k]'hlt).toNat : Int) != 39) = false := by rw [bne_eq_false_iff_eq]; omega
        go_wp2_with fail
        all_goals first
          | (exact ⟨⟨k + 1, by omega, by go_num, Lib.hid (by rw [all_snoc HG.out, HA.out, HY'.out (by have := HC.out; omega)]; rfl)⟩, by simp [intOf]; omega⟩)
          | (go_ret; exact ⟨ret_bool (by rw [plain, all_not HG.out (HN'.out (by have := HC.out; omega))]), rfl⟩)
          | (exfalso; simp at *; omega)
    · obtain rfl : k = s.size := by omega
      have HP := Lib.hid (show plain s = true by rw [plain, ← HA.out, List.take_of_length_le (by rw [bytes_len]; omega)])
      go_wp2_with fail
      go_ret
      exact ⟨ret_bool HP.out.symm, rfl⟩
end Go.Proofs.YtnomppdmhgefiaaGreat
/- More on names: their bytes, what is a name; the walks of the program's and the reference's functions on names. -/
namespace Go.Proofs.YtnomppdmhgefiaaGreat
open Go.RowKit

/-- the name without the mark, where a mark may be -/
def baseOf (s : ByteArray) (m : Bool) : ByteArray := if m then ⟨(Lib.trimSuffix s.data.toList [35]).toArray⟩ else s
def isName (s : ByteArray) (m : Bool) : Bool := decide (0 < (baseOf s m).size) && decide (s.size ≤ 24) && plain (baseOf s m)
theorem baseOf_size (s : ByteArray) (m : Bool) : (baseOf s m).size ≤ s.size := by
  unfold baseOf
  split
  · show (Lib.trimSuffix s.data.toList [35]).length ≤ s.size
    rw [← bytes_len]
    unfold Lib.trimSuffix
    split
    · simp
    · simp
  · exact Nat.le_refl _

theorem trim_any (s : ByteArray) (w : World) (hs : s.size ≤ 1048576) :
    Calls Tryz.prog 146 #[.string s, .string ⟨#[35]⟩] w fun e w' => e = .returned (.string (baseOf s true)) ∧ w = w' :=
  (Tryz.strings_TrimSuffix s ⟨#[35]⟩ w (by omega)).mono fun _ _ ⟨he, hw⟩ => ⟨by rw [he]; rfl, hw.symm⟩
theorem isName_eq {s : ByteArray} {m : Bool} {b : Bool} (h0 : 0 < (baseOf s m).size) (h : s.size ≤ 24) (hb : plain (baseOf s m) = b) : isName s m = b := by simp [isName, h0, h, hb]
theorem isName_no {s : ByteArray} {m : Bool} (h : ¬ (0 < (baseOf s m).size ∧ s.size ≤ 24)) : isName s m = false := by
  unfold isName
  by_cases h0 : 0 < (baseOf s m).size <;> by_cases h1 : s.size ≤ 24 <;> simp_all <;> omega

set_option maxHeartbeats 1000000 in
theorem isName_yes (s : ByteArray) (w : World) (hs : s.size ≤ 1048576) :
    Calls Tryz.prog 85 #[.string s, .bool true] w fun e w' => e = .returned (.bool (isName s true)) ∧ w = w' := by
  have hb := baseOf_size s true
  by_cases h0 : 0 < (baseOf s true).size
  · by_cases h24 : s.size ≤ 24
    · have HE := Lib.hid (isName_eq h0 h24 rfl)
      go_enter Tryz.func85, Tryz.ntmps85
      go_wp2_with (first | (go_at_call 146; refine (trim_any _ _ hs).mono ?_; rintro e w' ⟨rfl, rfl⟩) | (go_at_call 147; refine (plain_any _ _ (by omega)).mono ?_; rintro e w' ⟨rfl, rfl⟩))
      go_ret
      exact ⟨ret_bool HE.out.symm, rfl⟩
    · have HE := Lib.hid (isName_no (s := s) (m := true) (fun h => h24 h.2))
      go_enter Tryz.func85, Tryz.ntmps85
      go_wp2_with (go_at_call 146; refine (trim_any _ _ hs).mono ?_; rintro e w' ⟨rfl, rfl⟩)
      go_ret
      exact ⟨ret_bool HE.out.symm, rfl⟩
  · have HE := Lib.hid (isName_no (s := s) (m := true) (fun h => h0 h.1))
    go_enter Tryz.func85, Tryz.ntmps85
    go_wp2_with (go_at_call 146; refine (trim_any _ _ hs).mono ?_; rintro e w' ⟨rfl, rfl⟩)
    go_ret
    exact ⟨ret_bool HE.out.symm, rfl⟩

set_option maxHeartbeats 1000000 in
theorem isName_not (s : ByteArray) (w : World) (hs : s.size ≤ 1048576) :
    Calls Tryz.prog 85 #[.string s, .bool false] w fun e w' => e = .returned (.bool (isName s false)) ∧ w = w' := by
  by_cases h0 : 0 < s.size
  · by_cases h24 : s.size ≤ 24
    · have HE := Lib.hid (isName_eq (s := s) (m := false) h0 h24 rfl)
      go_enter Tryz.func85, Tryz.ntmps85
      go_wp2_with (go_at_call 147; refine (plain_any _ _ (by omega)).mono ?_; rintro e w' ⟨rfl, rfl⟩)
      go_ret
      exact ⟨ret_bool HE.out.symm, rfl⟩
    · have HE := Lib.hid (isName_no (s := s) (m := false) (fun h => h24 h.2))
      go_enter Tryz.func85, Tryz.ntmps85
      go_wp2_with fail
      go_ret
      exact ⟨ret_bool HE.out.symm, rfl⟩
  · have HE := Lib.hid (isName_no (s := s) (m := false) (fun h => h0 h.1))
    go_enter Tryz.func85, Tryz.ntmps85
    go_wp2_with fail
    go_ret
    exact ⟨ret_bool HE.out.symm, rfl⟩
theorem isName_any (s : ByteArray) (m : Bool) (w : World) (hs : s.size ≤ 1048576) :
    Calls Tryz.prog 85 #[.string s, .bool m] w fun e w' => e = .returned (.bool (isName s m)) ∧ w = w' := by
  cases m
  · exact isName_not s w hs
  · exact isName_yes s w hs

/-- has the node of a term the form of a variable or of an applied symbol? (n: the number of its arguments) -/
def nodeOk (nm : ByteArray) (vr : Bool) (n : Nat) : Bool := if vr then isName nm false && n == 0 else isName nm true && decide (n ≤ 8)

set_option maxHeartbeats 1000000 in
theorem isFormed_any (nm : ByteArray) (vr : Bool) (oa : Option Addr) (n cap : Nat) (w : World) (hs : nm.size ≤ 1048576) (hn : n ≤ 1048576) :
    Calls Tryz.prog 136 #[.agg #[.string nm, .bool vr, .slice oa n cap]] w fun e w' => e = .returned (.bool (nodeOk nm vr n)) ∧ Below w.heap.size w w' := by
  cases vr
  · cases hi : isName nm true
    all_goals have HI := Lib.hid hi
    all_goals clear hi
    all_goals by_cases h8 : n ≤ 8
    all_goals have HE : Hid (nodeOk nm false n = (isName nm true && decide (n ≤ 8))) := Lib.hid (by simp [nodeOk])
    all_goals go_enter Tryz.func136, Tryz.ntmps136
    all_goals go_wp2_with (go_at_call 85; refine (isName_any _ _ _ hs).mono ?_; rintro e w' ⟨rfl, rfl⟩; rw [HI.out])
    all_goals go_ret
    all_goals exact ⟨ret_bool (by rw [HE.out, HI.out]; first | (simp [h8]; done) | (simp [h8]; omega)), by go_grown⟩
  · cases hi : isName nm false
    all_goals have HI := Lib.hid hi
    all_goals clear hi
    all_goals by_cases h8 : n = 0
    all_goals have HE : Hid (nodeOk nm true n = (isName nm false && n == 0)) := Lib.hid (by simp [nodeOk])
    all_goals first | subst h8 | have h9 : ((n : Int) == 0) = false := by rw [beq_eq_false_iff_ne]; omega
    all_goals go_enter Tryz.func136, Tryz.ntmps136
    all_goals go_wp2_with (go_at_call 85; refine (isName_any _ _ _ hs).mono ?_; rintro e w' ⟨rfl, rfl⟩; rw [HI.out])
    all_goals go_ret
    all_goals exact ⟨ret_bool (by rw [HE.out, HI.out]; simp_all), by go_grown⟩
end Go.Proofs.YtnomppdmhgefiaaGreat
namespace Go.Proofs.YtnomppdmhgefiaaGreat
open Go.RowKit

/-- a term's value: its three cells -/
@[reducible] def tmv (t : Tm) (s : Value) : Value := .agg #[.string t.nm, .bool t.vr, s]

/-- the cells of the k-th argument, where there is one -/
theorem SlIs.get {n₀ : Nat} {W : World} {l : List Tm} {oa : Option Addr} {n cap k : Nat} (h : SlIs n₀ W l (.slice oa n cap)) (hk : k < l.length) :
    ∃ (b o : Nat) (u : Tm) (s : Value), oa = some ⟨b, o, none⟩ ∧ b < n₀ ∧ l[k]? = some u ∧ u ∈ l ∧ SlIs n₀ W u.ts s ∧
      W.cell? ⟨b, o + k * 3, none⟩ = some (.string u.nm) ∧ W.cell? ⟨b, o + k * 3 + 1, none⟩ = some (.bool u.vr) ∧ W.cell? ⟨b, o + k * 3 + 2, none⟩ = some s := by
  cases h with
  | nil0 => simp at hk
  | nil1 a cap => simp at hk
  | row b o cap l s hl hb hc cells hs hf =>
    have hu : l[k]? = some l[k] := List.getElem?_eq_getElem hk
    obtain ⟨h1, h2, h3⟩ := cells k _ hu
    exact ⟨b, o, l[k], s k, rfl, hb, hu, List.getElem_mem hk, hs k _ hu, h1, h2, h3⟩

set_option maxHeartbeats 400000 in
theorem rsize_any (t : Tm) : ∀ (s : Value) (w : World), t.bulk ≤ 1048576 → SlIs w.heap.size w t.ts s →
    Calls Tryz.prog 57 #[tmv t s] w fun e w' => e = .returned (.int .i64 t.size) ∧ Below w.heap.size w w' := by
  induction t using Tm.ind with
  | h t ih =>
    intro s w hb hs
    obtain ⟨oa, cap, rfl, ha⟩ := hs.form
    have hsz := Tm.size_bulk t
    have hse := Tm.size_eq t
    have hl := Tm.length_sizes t.ts
    have hlen : t.ts.length ≤ 1048576 := by omega
    have IH := Lib.hid ih
    have HE := Lib.hid hse
    clear ih ha hse
    go_enter Tryz.func57, Tryz.ntmps57
    go_wp2_with fail
    go_loopw [3, 9] (fun n i wr => ∃ k : Nat, k ≤ t.ts.length ∧ i = .int .i64 k ∧ n = .int .i64 ((1 + Tm.sizes (t.ts.take k) : Nat) : Int) ∧ Below w.heap.size w wr) (fun _ i _ => t.ts.length - (intOf i).toNat)
    case atStart => exact ⟨0, by omega, rfl, rfl, by go_grown⟩
    case round =>
      obtain ⟨k, hk, rfl, rfl, hbw⟩ := hrel
      have hsz' := hbw.size
      by_cases hlt : k < t.ts.length
      · obtain ⟨b, o, u, s, rfl, hbb, hu, hum, hus, c1, c2, c3⟩ := (hs.carry hbw (Nat.le_refl _)).get hlt
        obtain ⟨oa2, cap2, rfl, -⟩ := hus.form
        have hub := Tm.bulk_mem hum
        have hus' := Tm.size_mem hum
        have htb := Tm.bulk_eq t
        have htk := Tm.take_snoc hu
        have hst := Tm.sizes_append (t.ts.take k) [u]
        have HS := Lib.hid (show Tm.sizes (t.ts.take (k+1)) = Tm.sizes (t.ts.take k) + u.size by rw [htk, hst]; simp [Tm.sizes])
        have hsk := Tm.sizes_take t.ts (k + 1)
        have hsk2 : Tm.sizes (t.ts.take k) + u.size ≤ 1048576 := by rw [← HS.out]; have := HE.out; omega
        have hub2 : u.bulk ≤ 1048576 := by omega
        have IHu := fun W1 hb => Lib.hid (IH.out u hum _ W1 hub2 (hus.carry (B := W1) hb (by have := hb.size; omega)))
        clear htk hst htb hu
        go_wp2_with fail
        refine (IHu _ (by go_grown)).out.mono ?_
        rintro e w2 ⟨rfl, hb2⟩
        go_wp2_with fail
        exact ⟨⟨k + 1, by omega, by go_num, by rw [HS.out]; go_num, Below.trans (by go_grown) (hb2.mono (by simp; omega))⟩, by simp [intOf]; omega⟩
      · go_wp2_with fail
        go_ret
        exact ⟨ret_int (by rw [HE.out, List.take_of_length_le (by omega)]), by go_grown⟩

end Go.Proofs.YtnomppdmhgefiaaGreat
/- Merged: Mem, Own. -/
/- Small facts on memory. No program stands here. -/
namespace Go.Proofs.YtnomppdmhgefiaaGreat
open Go.RowKit
theorem add_blk (a : Addr) (j : Nat) : (a.add j).block = a.block := by unfold Addr.add; split <;> rfl
theorem below_drewN {B : Nat} {A W : World} (n : Nat) (h : Below B A W) : Below B A (W.drewN n) := ⟨h.os, h.tape, h.output, h.size, h.block⟩
theorem below_grown {A W : World} (h : Below A.heap.size A W) : A.grownBy W none := ⟨h.os, h.tape, h.output, h.size, fun i hi _ => h.block i hi⟩
theorem cell_at_new (W : World) (c : Array Value) (ty : TypeId) (j : Nat) : (W.alloc (.cells c ty)).cell? ⟨W.heap.size, j, none⟩ = c[j]? := by
  have h := World.alloc_heap_new W (.cells c ty)
  unfold World.cell?
  simp only [h]
  rfl
theorem cell_new_at (W : World) (c : Array Value) (ty : TypeId) (b j : Nat) (h : b = W.heap.size) : (W.alloc (.cells c ty)).cell? ⟨b, j, none⟩ = c[j]? := by
  subst h; exact cell_at_new W c ty j
theorem boxed_at (W : World) (v : Value) (ty : TypeId) (b : Nat) (h : b = W.heap.size) : Boxed (W.alloc (.cells #[v] ty)) b ty v := by
  subst h; exact Boxed.new W ty v
theorem cell_old (W : World) (o : Obj) (b j : Nat) (h : b < W.heap.size) : (W.alloc o).cell? ⟨b, j, none⟩ = W.cell? ⟨b, j, none⟩ :=
  ((Below.refl W.heap.size W).alloc (Nat.le_refl _) o).cell (p := ⟨b, j, none⟩) h

end Go.Proofs.YtnomppdmhgefiaaGreat
/- Terms in memory of their own, no block met twice; what may change beside them. No program stands here. -/
namespace Go.Proofs.YtnomppdmhgefiaaGreat
open Go.RowKit

/-- Of the blocks that are there, those below n₀ and from m on are as they were. -/
structure Fr (n₀ m : Nat) (A B : World) : Prop where
  os : B.os = A.os
  tape : B.tape = A.tape
  output : B.output = A.output
  size : A.heap.size ≤ B.heap.size
  block : ∀ k, k < A.heap.size → (k < n₀ ∨ m ≤ k) → B.heap[k]? = A.heap[k]?
theorem Fr.refl (n₀ m : Nat) (A : World) : Fr n₀ m A A := ⟨rfl, rfl, rfl, Nat.le_refl _, fun _ _ _ => rfl⟩
theorem Fr.trans {n₀ m : Nat} {A B C : World} (h : Fr n₀ m A B) (k : Fr n₀ m B C) : Fr n₀ m A C :=
  ⟨k.os.trans h.os, k.tape.trans h.tape, k.output.trans h.output, Nat.le_trans h.size k.size, fun i hi hc => (k.block i (Nat.lt_of_lt_of_le hi h.size) hc).trans (h.block i hi hc)⟩
theorem Fr.of_below {n₀ m : Nat} {A B : World} (h : Below A.heap.size A B) : Fr n₀ m A B := ⟨h.os, h.tape, h.output, h.size, fun k hk _ => h.block k hk⟩
theorem Fr.alloc {n₀ m : Nat} {A B : World} (h : Fr n₀ m A B) (o : Obj) : Fr n₀ m A (B.alloc o) := h.trans (Fr.of_below ((Below.refl _ B).alloc (Nat.le_refl _) o))
/-- a store into a block that is new to A -/
theorem Fr.setNew {n₀ m : Nat} {A B : World} (h : Fr n₀ m A B) {p : Addr} (hp : A.heap.size ≤ p.block) (v : Value) : Fr n₀ m A (B.setCell p v) :=
  ⟨h.os, h.tape, h.output, by simpa [World.setCell] using h.size, fun k hk hc => (Below.heap_setCell B p v k (by omega)).trans (h.block k hk hc)⟩
theorem Fr.below {n₀ m : Nat} {A B : World} (h : Fr n₀ m A B) (hn : n₀ ≤ A.heap.size) : Below n₀ A B := ⟨h.os, h.tape, h.output, h.size, fun k hk => h.block k (by omega) (.inl hk)⟩
theorem Fr.all {m : Nat} {A B : World} (h : Fr m m A B) : Below A.heap.size A B := ⟨h.os, h.tape, h.output, h.size, fun k hk => h.block k hk (by omega)⟩
theorem Fr.drew {n₀ m : Nat} {A B : World} (h : Fr n₀ m A B) : Fr n₀ m A B.drew := ⟨h.os, h.tape, h.output, h.size, h.block⟩

abbrev Child := Tm × Value × List Nat
def chCells (ch : List Child) : List Value := ch.flatMap fun c => [.string c.1.nm, .bool c.1.vr, c.2.1]
theorem chCells_append (a b : List Child) : chCells (a ++ b) = chCells a ++ chCells b := by simp [chCells]
theorem chCells_length (a : List Child) : (chCells a).length = a.length * 3 := by
  induction a with
  | nil => rfl
  | cons p a ih => simp [chCells] at ih ⊢; omega
theorem chCells_at (ch : List Child) (i : Nat) (c : Child) (h : ch[i]? = some c) :
    (chCells ch)[i * 3]? = some (.string c.1.nm) ∧ (chCells ch)[i * 3 + 1]? = some (.bool c.1.vr) ∧ (chCells ch)[i * 3 + 2]? = some c.2.1 := by
  induction ch generalizing i with
  | nil => simp at h
  | cons p ch ih =>
    cases i with
    | zero => simp at h; subst h; simp [chCells]
    | succ i =>
      obtain ⟨h1, h2, h3⟩ := ih i (by simpa using h)
      have e : ∀ r, (i + 1) * 3 + r = i * 3 + r + 3 := fun r => by omega
      refine ⟨?_, ?_, ?_⟩
      · have := e 0; simp only [Nat.add_zero] at this; rw [this]; simpa [chCells] using h1
      · rw [e 1]; simpa [chCells] using h2
      · rw [e 2]; simpa [chCells] using h3

/-- The slice value s holds the terms l in blocks fp of their own (e: the type of a term). -/
inductive SlOwn (e : TypeId) (W : World) : List Tm → Value → List Nat → Prop
  | nil : SlOwn e W [] (.slice none 0 0) []
  | row (g : Nat) (ch : List Child) (cur : Array Value) : ch ≠ [] → W.heap[g]? = some (.cells cur e (0, 0)) → cur.toList = chCells ch →
      (∀ c ∈ ch, SlOwn e W c.1.ts c.2.1 c.2.2) → SlOwn e W (ch.map (·.1)) (.slice (some ⟨g, 0, none⟩) ch.length ch.length) (g :: ch.flatMap (·.2.2))

theorem SlOwn.carry {e : TypeId} {A B : World} {l : List Tm} {s : Value} {fp : List Nat} (h : SlOwn e A l s fp) (hb : ∀ k ∈ fp, B.heap[k]? = A.heap[k]?) : SlOwn e B l s fp := by
  induction h with
  | nil => exact .nil
  | row g ch cur hne hg hc _ ih =>
    refine .row g ch cur hne ((hb g (by simp)).trans hg) hc fun c hcm => ih c hcm fun k hk => hb k ?_
    exact List.mem_cons_of_mem _ (List.mem_flatMap.2 ⟨c, hcm, hk⟩)

theorem SlOwn.lt {e : TypeId} {A : World} {l : List Tm} {s : Value} {fp : List Nat} (h : SlOwn e A l s fp) : ∀ k ∈ fp, k < A.heap.size := by
  induction h with
  | nil => simp
  | row g ch cur hne hg hc _ ih =>
    intro k hk
    rcases List.mem_cons.1 hk with rfl | hk
    · exact (Array.getElem?_eq_some_iff.1 hg).1
    · obtain ⟨c, hc, hk⟩ := List.mem_flatMap.1 hk
      exact ih c hc k hk

theorem SlOwn.form {e : TypeId} {A : World} {l : List Tm} {s : Value} {fp : List Nat} (h : SlOwn e A l s fp) : ∃ oa n c, s = .slice oa n c := by
  cases h with
  | nil => exact ⟨_, _, _, rfl⟩
  | row g ch cur hne hg hc hk => exact ⟨_, _, _, rfl⟩
theorem cells_of' {W : World} {B : Nat} {c : Array Value} {ty : TypeId} {fr : Nat × Nat} (h : W.heap[B]? = some (.cells c ty fr)) (j : Nat) : W.cell? ⟨B, j, none⟩ = c[j]? := by
  unfold World.cell?; simp only [h]; rfl
theorem frozen_of' {W : World} {B : Nat} {c : Array Value} {ty : TypeId} (h : W.heap[B]? = some (.cells c ty (0, 0))) (j : Nat) : W.frozen? ⟨B, j, none⟩ = false := by
  unfold World.frozen?; simp [h]

/-- Owned terms are terms. -/
theorem SlOwn.is {e : TypeId} {W : World} {n₀ : Nat} {l : List Tm} {s : Value} {fp : List Nat} (h : SlOwn e W l s fp) (hn : ∀ k ∈ fp, k < n₀) : SlIs n₀ W l s := by
  induction h with
  | nil => exact .nil0
  | row g ch cur hne hg hc hk ih =>
    have hlen : (ch.map (·.1)).length = ch.length := by simp
    have hcell : ∀ j, W.cell? ⟨g, j, none⟩ = (chCells ch)[j]? := fun j => by
      unfold World.cell?
      simp only [hg]
      rw [← hc, Array.getElem?_toList]; rfl
    have hch : ∀ i t, (ch.map (·.1))[i]? = some t → ∃ c : Child, ch[i]? = some c ∧ c.1 = t := fun i t ht => by rw [List.getElem?_map, Option.map_eq_some_iff] at ht; exact ht
    have key := SlIs.row (n₀ := n₀) (W := W) g 0 ch.length (ch.map (·.1)) (fun i => ((ch[i]?).map (·.2.1)).getD (.bool false)) (by simpa using hne) (hn g (by simp)) (by simp)
      (fun i t ht => by
        obtain ⟨c, hci, rfl⟩ := hch i t ht
        obtain ⟨h1, h2, h3⟩ := chCells_at ch i c hci
        simp only [Nat.zero_add, hcell, hci, Option.map_some, Option.getD_some]
        exact ⟨h1, h2, h3⟩)
      (fun i t ht => by
        obtain ⟨c, hci, rfl⟩ := hch i t ht
        have hm := List.mem_of_getElem? hci
        simp only [hci, Option.map_some, Option.getD_some]
        exact ih c hm fun k hk => hn k (List.mem_cons_of_mem _ (List.mem_flatMap.2 ⟨c, hm, hk⟩)))
      (fun i _ => by unfold World.frozen?; simp [hg])
    rw [hlen] at key
    exact key

theorem set3 {W : World} {g : Nat} {cur : Array Value} {e : TypeId} {fr : Nat × Nat} (h : W.heap[g]? = some (.cells cur e fr)) (i : Nat) (a b c : Value) :
    (((W.setCell ⟨g, i, none⟩ a).setCell ⟨g, i + 1, none⟩ b).setCell ⟨g, i + 2, none⟩ c).heap[g]? = some (.cells (((cur.setIfInBounds i a).setIfInBounds (i + 1) b).setIfInBounds (i + 2) c) e fr) := by
  simp [World.setCell, Array.getElem?_modify, h]
theorem set3_list (l z : List Value) (i : Nat) (x y v a b c : Value) (hl : l.length = i) : (((l ++ x :: y :: v :: z).set i a).set (i + 1) b).set (i + 2) c = l ++ a :: b :: c :: z := by
  subst hl
  simp

end Go.Proofs.YtnomppdmhgefiaaGreat
