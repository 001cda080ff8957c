/- Packed: Syb, RdQ. -/
import Derived.Test.YtamddagmlanijaaGreatC05
import Derived.Test.YtamddagmlanijaaGreatC03
import Derived.Test.YtamddagmlanijaaGreatC07
import Derived.StillTailTactics
import Derived.Test.YtamddagmlanijaaGreatC08
/- Symbols with their arities in memory; checkSymbols. -/
namespace Go.Proofs.YtamddagmlanijaaGreat
open Go.RowKit
def SymQ (_ : Nat) (_ : World) (p : Key × Int) (cs : List Value) : Prop := cs = [.string (kb p.1), .int .i64 p.2]
theorem keeps_SymsIs : Keeps SymQ := by
  rintro n m A B p cs h hb hn
  exact h
abbrev SymsIs := RecIs 2 SymQ
theorem SymsIs.two {n : Nat} {W : World} {l : List (Key × Int)} {oa : Option Addr} {cap k : Nat} (h : SymsIs n W l (.slice oa l.length cap)) (hk : k < l.length) :
    ∃ (b o : Nat) (p : Key × Int), oa = some ⟨b, o, none⟩ ∧ b < n ∧ l[k]? = some p ∧ W.cell? ⟨b, o + k * 2, none⟩ = some (.string (kb p.1)) ∧ W.cell? ⟨b, o + k * 2 + 1, none⟩ = some (.int .i64 p.2) := by
  obtain ⟨b, o, p, cs, rfl, hb, hp, hq, -, hj⟩ := h.get hk
  unfold SymQ at hq
  subst hq
  exact ⟨b, o, p, rfl, hb, hp, hj 0 (by omega), hj 1 (by omega)⟩

set_option maxRecDepth 100000 in
set_option maxHeartbeats 2000000 in
theorem idxS_any (k : Nat) (cap : Array Value) (hcf : ∀ args w, (callFunc k args).run Tryz.prog w = .ok (.enter k args) w) (pr : (Key × Int) → Bool) (l : List (Key × Int)) (v : Value) (w : World) (hl : SymsIs w.heap.size w l v) (hll : l.length ≤ 1048576)
    (HC : Hid (∀ x ∈ l, ∀ W, Below w.heap.size w W → Calls Tryz.prog k (#[.agg #[.string (kb x.1), .int .i64 x.2]] ++ cap) W fun e w' => e = .returned (.bool (pr x)) ∧ Below W.heap.size W w')) :
    Calls Tryz.prog 120 #[v, .func (.func k) #[] cap] w fun e w' => (∃ i : Int, e = .returned (.int .i64 i) ∧ (0 ≤ i ↔ l.any pr = true)) ∧ Below w.heap.size w w' := by
  obtain ⟨ol, cl, rfl⟩ := hl.shape
  have HL := Lib.hid hl
  clear hl
  go_enter Tryz.func120, Tryz.ntmps120
  go_wp2_with fail
  go_loopw [8] (fun i wr => ∃ j : Nat, j ≤ l.length ∧ i = .int .i64 j ∧ Hid ((l.take j).any pr = false) ∧ Hid (Below w.heap.size w wr)) (fun i _ => l.length - (intOf i).toNat)
  case atStart => exact ⟨0, by omega, rfl, Lib.hid (by simp), Lib.hid (Below.refl _ _)⟩
  case round =>
    obtain ⟨j, hj, rfl, HN, HBW⟩ := hrel
    by_cases hlt : j < l.length
    · obtain ⟨b1, o1, x, rfl, hb1, hx, c0, c1⟩ := SymsIs.two (HL.out.carry keeps_SymsIs HBW.out HBW.out.size) hlt
      have HX := Lib.hid hx
      have HCU := Lib.hid (HC.out x (List.mem_of_getElem? hx) wr HBW.out)
      clear hx
      go_wp2_with fail
      refine HCU.out.mono ?_
      rintro e w2 ⟨rfl, hb⟩
      have HB2 := Lib.hid (HBW.out.trans (hb.mono HBW.out.size))
      clear hb
      cases hpr : pr x with
      | true =>
        have HY : Hid (l.any pr = true) := Lib.hid (List.any_eq_true.2 ⟨x, List.mem_of_getElem? HX.out, hpr⟩)
        clear hpr
        go_wp2_with fail
        go_ret
        exact ⟨⟨_, rfl, fun _ => HY.out, fun _ => by omega⟩, HB2.out⟩
      | false =>
        have HN2 : Hid ((l.take (j + 1)).any pr = false) := Lib.hid (by rw [List.take_add_one, HX.out, List.any_append, HN.out]; simp [hpr])
        clear hpr
        go_wp2_with fail
        exact ⟨⟨j + 1, by omega, by go_num, HN2, HB2⟩, by simp [intOf]; omega⟩
    · obtain rfl : j = l.length := by omega
      go_wp2_with fail
      go_ret
      have h := HN.out
      rw [List.take_of_length_le (Nat.le_refl _)] at h
      exact ⟨⟨_, rfl, fun h1 => absurd h1 (by decide), fun h1 => by rw [h] at h1; cases h1⟩, HBW.out⟩
set_option maxRecDepth 100000 in
theorem cfS_any (k : Nat) (cap : Array Value) (hcf : ∀ args w, (callFunc k args).run Tryz.prog w = .ok (.enter k args) w) (pr : (Key × Int) → Bool) (l : List (Key × Int)) (v : Value) (w : World) (hl : SymsIs w.heap.size w l v) (hll : l.length ≤ 1048576)
    (HC : Hid (∀ x ∈ l, ∀ W, Below w.heap.size w W → Calls Tryz.prog k (#[.agg #[.string (kb x.1), .int .i64 x.2]] ++ cap) W fun e w' => e = .returned (.bool (pr x)) ∧ Below W.heap.size W w')) :
    Calls Tryz.prog 54 #[v, .func (.func k) #[] cap] w fun e w' => e = .returned (.bool (l.any pr)) ∧ Below w.heap.size w w' := by
  have HIN := Lib.hid (idxS_any k cap hcf pr l v w hl hll HC)
  obtain ⟨ol, cl, rfl⟩ := hl.shape
  clear hl hcf
  go_enter Tryz.func54, Tryz.ntmps54
  go_wp2_with fail
  refine HIN.out.mono ?_
  rintro e w2 ⟨⟨i, rfl, hi⟩, hb⟩
  have HB := Lib.hid hb
  clear hb
  have hb : decide (0 ≤ i) = l.any pr := by
    cases h : l.any pr with
    | true => exact decide_eq_true (hi.2 h)
    | false => exact decide_eq_false fun h1 => by rw [hi.1 h1] at h; cases h
  have HD := Lib.hid hb
  clear hb hi
  go_wp2_with fail
  go_ret
  exact ⟨by rw [← HD.out]; rfl, HB.out⟩

def nameBad (x : Key × Int) : Bool := !isName (kb x.1) true
def arBad (x : Key × Int) : Bool := decide (x.2 < 0 ∨ 8 < x.2)
/-- the first error of symbols -/
def symC (l : List (Key × Int)) : Int := if l.any nameBad = true then 4 else if l.any arBad = true then 2 else 0
def symSm (l : List (Key × Int)) : Prop := l.length ≤ 1048576 ∧ ∀ p ∈ l, p.1.length ≤ 1048576
theorem symC_nm {l : List (Key × Int)} (h : l.any nameBad = true) : symC l = 4 := by unfold symC; rw [if_pos h]
theorem symC_ar {l : List (Key × Int)} (h : l.any nameBad = false) (k : l.any arBad = true) : symC l = 2 := by unfold symC; rw [if_neg (by rw [h]; decide), if_pos k]
theorem symC_ok {l : List (Key × Int)} (h : l.any nameBad = false) (k : l.any arBad = false) : symC l = 0 := by unfold symC; rw [if_neg (by rw [h]; decide), if_neg (by rw [k]; decide)]

set_option maxRecDepth 100000 in
theorem msym1_any (x : Key × Int) (hx : x.1.length ≤ 1048576) (W : World) :
    Calls Tryz.prog 151 #[.agg #[.string (kb x.1), .int .i64 x.2]] W fun e w' => e = .returned (.bool (nameBad x)) ∧ Below W.heap.size W w' := by
  have hsz : (kb x.1).size ≤ 1048576 := by rw [← bytes_len, key_kb]; exact hx
  go_enter Tryz.func151, Tryz.ntmps151
  go_wp2_with fail
  refine (isName_any (kb x.1) true _ hsz).mono ?_
  rintro e w1 ⟨rfl, rfl⟩
  go_wp2_with fail
  go_ret
  exact ⟨rfl, by go_grown⟩
set_option maxRecDepth 100000 in
theorem msym2_any (x : Key × Int) (W : World) :
    Calls Tryz.prog 152 #[.agg #[.string (kb x.1), .int .i64 x.2]] W fun e w' => e = .returned (.bool (arBad x)) ∧ Below W.heap.size W w' := by
  go_enter Tryz.func152, Tryz.ntmps152
  unfold arBad
  obtain ⟨k, n⟩ := x
  simp only
  by_cases h1 : n < 0
  · have hd : decide (n < 0) = true := decide_eq_true h1
    have HD : Hid (decide (n < 0 ∨ 8 < n) = true) := Lib.hid (decide_eq_true (.inl h1))
    clear h1
    go_wp2_with fail
    go_ret
    exact ⟨by rw [HD.out]; rfl, by go_grown⟩
  · have hd : decide (n < 0) = false := decide_eq_false h1
    have HD : Hid (decide (n < 0 ∨ 8 < n) = decide (8 < n)) := Lib.hid (decide_eq_decide.2 (by omega))
    clear h1
    go_wp2_with fail
    go_ret
    exact ⟨by rw [HD.out]; rfl, by go_grown⟩
set_option maxRecDepth 100000 in
set_option maxHeartbeats 2000000 in
theorem mcheckSymbols_any (l : List (Key × Int)) (v : Value) (w : World) (hl : SymsIs w.heap.size w l v) (hs : symSm l) :
    Calls Tryz.prog 85 #[v] w fun e w' => e = .returned (.int .i64 (symC l)) ∧ Below w.heap.size w w' := by
  have H1 := fun W (hW : Below w.heap.size w W) => Lib.hid (cfS_any 151 #[] (enters_of Tryz.func151 (by kernel_rfl) rfl) nameBad l v W (hl.carry keeps_SymsIs hW hW.size) hs.1 (Lib.hid fun x hx W' _ => msym1_any x (hs.2 x hx) W'))
  have H2 := fun W (hW : Below w.heap.size w W) => Lib.hid (cfS_any 152 #[] (enters_of Tryz.func152 (by kernel_rfl) rfl) arBad l v W (hl.carry keeps_SymsIs hW hW.size) hs.1 (Lib.hid fun x _ W' _ => msym2_any x W'))
  have H1' := Lib.hid H1
  have H2' := Lib.hid H2
  obtain ⟨oa, cap, rfl⟩ := hl.shape
  clear hl H1 H2 hs
  go_enter Tryz.func85, Tryz.ntmps85
  go_wp2_with fail
  refine (H1'.out w (Below.refl _ _)).out.mono ?_
  rintro e w1 ⟨rfl, hb1⟩
  have HB1 := Lib.hid hb1
  clear hb1
  cases h1 : l.any nameBad
  rotate_left
  · have HE := Lib.hid (symC_nm h1)
    clear h1
    go_wp2_with fail
    go_ret
    exact ⟨by rw [HE.out]; rfl, HB1.out⟩
  have HN := Lib.hid h1
  clear h1
  go_wp2_with fail
  refine (H2'.out w1 HB1.out).out.mono ?_
  rintro e w2 ⟨rfl, hb2⟩
  have HB2 := Lib.hid (HB1.out.trans (hb2.mono HB1.out.size))
  clear hb2
  cases h2 : l.any arBad
  · have HE := Lib.hid (symC_ok HN.out h2)
    clear h2
    go_wp2_with fail
    go_ret
    exact ⟨by rw [HE.out]; rfl, HB2.out⟩
  · have HE := Lib.hid (symC_ar HN.out h2)
    clear h2
    go_wp2_with fail
    go_ret
    exact ⟨by rw [HE.out]; rfl, HB2.out⟩

set_option maxRecDepth 100000 in
set_option maxHeartbeats 4000000 in
theorem r8CheckSymbols_any (l : List (Key × Int)) (v : Value) (w : World) (hl : SymsIs w.heap.size w l v) (hs : symSm l) :
    Calls Tryz.prog 66 #[v] w fun e w' => e = .returned (.int .i64 (symC l)) ∧ Below w.heap.size w w' := by
  obtain ⟨oa, cap, rfl⟩ := hl.shape
  have HL := Lib.hid hl
  have HSM := Lib.hid hs
  have hlen := hs.1
  clear hl hs
  go_enter Tryz.func66, Tryz.ntmps66
  go_wp2_with fail
  go_loopw [9] (fun i wr => ∃ k : Nat, k ≤ l.length ∧ i = .int .i64 k ∧ Hid ((l.take k).any nameBad = false) ∧ Hid (Below w.heap.size w wr)) (fun i _ => l.length - (intOf i).toNat)
  case atStart => exact ⟨0, by omega, rfl, Lib.hid (by simp), Lib.hid (Below.refl _ _)⟩
  case round =>
    obtain ⟨k, hk, rfl, HN, HB⟩ := hrel
    by_cases hlt : k < l.length
    · obtain ⟨b, o, p, rfl, hb, hp, c0, c1⟩ := SymsIs.two (HL.out.carry keeps_SymsIs HB.out HB.out.size) hlt
      have hsz : (kb p.1).size ≤ 1048576 := by rw [← bytes_len, key_kb]; exact HSM.out.2 p (List.mem_of_getElem? hp)
      have HP := Lib.hid hp
      have HBX : Hid (Below w.heap.size w (wr.alloc (.cells #[.string (kb p.1), .int .i64 p.2] 110))) := Lib.hid (HB.out.alloc HB.out.size _)
      clear hp
      go_wp2_with fail
      refine (risName_any (kb p.1) true _ hsz).mono ?_
      rintro e w1 ⟨rfl, rfl⟩
      cases hn : isName (kb p.1) true
      · have HE : Hid (symC l = 4) := Lib.hid (symC_nm (List.any_eq_true.2 ⟨p, List.mem_of_getElem? HP.out, by unfold nameBad; rw [hn]; rfl⟩))
        clear hn
        go_wp2_with fail
        go_ret
        exact ⟨by rw [HE.out]; rfl, HBX.out⟩
      · have HNN := Lib.hid hn
        clear hn
        go_wp2_with fail
        refine ⟨⟨k + 1, by omega, by push_cast; rfl, Lib.hid ?_, HBX⟩, by simp only [intOf]; omega⟩
        rw [List.take_add_one, HP.out, List.any_append, HN.out]
        simp [nameBad, HNN.out]
    · obtain rfl : k = l.length := by omega
      have HNA : Hid (l.any nameBad = false) := Lib.hid (by have := HN.out; rwa [List.take_length] at this)
      clear HN
      go_wp2_with fail
      go_loopw [20] (fun i wq => ∃ k : Nat, k ≤ l.length ∧ i = .int .i64 k ∧ Hid ((l.take k).any arBad = false) ∧ Hid (Below w.heap.size w wq)) (fun i _ => l.length - (intOf i).toNat)
      case atStart => exact ⟨0, by omega, rfl, Lib.hid (by simp), HB⟩
      case round =>
        obtain ⟨k, hk, rfl, HN, HB⟩ := hrel
        by_cases hlt : k < l.length
        · obtain ⟨b, o, p, rfl, hb, hp, c0, c1⟩ := SymsIs.two (HL.out.carry keeps_SymsIs HB.out HB.out.size) hlt
          have HP := Lib.hid hp
          have HBX : Hid (Below w.heap.size w (wr.alloc (.cells #[.string (kb p.1), .int .i64 p.2] 110))) := Lib.hid (HB.out.alloc HB.out.size _)
          clear hp
          obtain ⟨nm, n⟩ := p
          simp only at c0 c1
          by_cases h1 : n < 0
          · have hd : decide (n < 0) = true := decide_eq_true h1
            have HE : Hid (symC l = 2) := Lib.hid (symC_ar HNA.out (List.any_eq_true.2 ⟨_, List.mem_of_getElem? HP.out, decide_eq_true (.inl h1)⟩))
            clear h1
            go_wp2_with fail
            go_ret
            exact ⟨by rw [HE.out]; rfl, HBX.out⟩
          have hd : decide (n < 0) = false := decide_eq_false h1
          by_cases h8 : 8 < n
          · have hd8 : decide (8 < n) = true := decide_eq_true h8
            have HE : Hid (symC l = 2) := Lib.hid (symC_ar HNA.out (List.any_eq_true.2 ⟨_, List.mem_of_getElem? HP.out, decide_eq_true (.inr h8)⟩))
            clear h1 h8
            go_wp2_with fail
            go_ret
            exact ⟨by rw [HE.out]; rfl, HBX.out⟩
          have hd8 : decide (8 < n) = false := decide_eq_false h8
          have HA : Hid (arBad (nm, n) = false) := Lib.hid (decide_eq_false (by simp only; omega))
          clear h1 h8
          go_wp2_with fail
          refine ⟨⟨k + 1, by omega, by push_cast; rfl, Lib.hid ?_, HBX⟩, by simp only [intOf]; omega⟩
          rw [List.take_add_one, HP.out, List.any_append, HN.out]
          simp [HA.out]
        · obtain rfl : k = l.length := by omega
          have HE : Hid (symC l = 0) := Lib.hid (symC_ok HNA.out (by have := HN.out; rwa [List.take_length] at this))
          go_wp2_with fail
          go_ret
          exact ⟨by rw [HE.out]; rfl, HB.out⟩
end Go.Proofs.YtamddagmlanijaaGreat
/- What an argument reads as: matrices, symbols. -/
namespace Go.Proofs.YtamddagmlanijaaGreat
open Go.RowKit Go.ChangeShapes Go.WideShapes Go.ChangeAt Go.Deep

theorem cellsU64Q : Tryz.prog.cellsOf 47 = 1 := by kernel_rfl
theorem cellsRowQ : Tryz.prog.cellsOf 46 = 1 := by kernel_rfl
theorem cellsMatQ : Tryz.prog.cellsOf 148 = 1 := by kernel_rfl
theorem cellsMxQ : Tryz.prog.cellsOf 142 = 3 := by kernel_rfl
theorem cellsSymQ : Tryz.prog.cellsOf 110 = 2 := by kernel_rfl
theorem cellsOrdQ : Tryz.prog.cellsOf 79 = 2 := by kernel_rfl
theorem nat_of_u64 {n : Int} (h : (Lit.int .u64 n).wf = true) : ∃ k : Nat, n = k := by
  refine ⟨n.toNat, ?_⟩
  have : 0 ≤ n := by
    have h1 := h
    simp [Lit.wf] at h1
    have h2 : IntKind.u64.min = 0 := by decide
    omega
  omega
theorem u64s_open {H : Type} (enc : TypeId × Value → H) (W : World) (n : Nat) (v : Value) (x : DataW H × List MemPlace) (h : DataW.trod enc Tryz.prog W 0 (fun _ => true) true n 46 [v] = some x) (hfz : W.noneFrozen x.2) :
    ∃ l : List Nat, U64Is W.heap.size W l v ∧ l.length < Rows.uptoBulk x.1 := by
  obtain ⟨l, oa, cap, rfl, -, hlt, -, h3⟩ := row_open enc W (α := Nat) Tryz.underlying46 cellsU64Q (by omega) (fun a cs => cs = [.int .u64 (a : Int)]) (fun _ => 0) (fun n cs x h _ => by
    obtain ⟨a, ha, rfl, hw⟩ := DataW.trod_int Tryz.underlying47 h
    obtain ⟨k, rfl⟩ := nat_of_u64 hw
    exact ⟨k, ha, by simp [Rows.uptoBulk]⟩) n v x h hfz
  refine ⟨l, ⟨oa, cap, rfl, fun hne => ?_⟩, hlt⟩
  obtain ⟨b, o, rfl, hb, -, hc⟩ := h3 hne
  refine ⟨b, o, rfl, hb, fun i z hz => ?_⟩
  obtain ⟨cs, rfl, -, hj⟩ := hc i z hz
  have := hj 0 (by omega)
  simpa using this
/-- the longest of rows, and how many -/
def mB (m : List (List Nat)) : Nat := m.foldr (fun r b => max r.length b) m.length
def msB (l : List (List (List Nat))) : Nat := l.foldr (fun m b => max (mB m) b) l.length
def xB (p : Mx) : Nat := max p.1.length (max p.2.1.length (msB p.2.2))
theorem foldr_lt {α : Type} (f : α → Nat) (k : Nat) : ∀ (l : List α) (i : Nat), l.foldr (fun a b => max (f a) b) i < k ↔ i < k ∧ ∀ a ∈ l, f a < k
  | [], i => by simp
  | a :: l, i => by
    rw [List.foldr_cons, Nat.max_lt, foldr_lt f k l i]
    simp only [List.mem_cons, forall_eq_or_imp]
    exact ⟨fun ⟨h1, h2, h3⟩ => ⟨h2, h1, h3⟩, fun ⟨h1, h2, h3⟩ => ⟨h2, h1, h3⟩⟩
theorem mB_lt {m : List (List Nat)} {k : Nat} : mB m < k ↔ m.length < k ∧ ∀ r ∈ m, r.length < k := foldr_lt _ _ _ _
theorem msB_lt {l : List (List (List Nat))} {k : Nat} : msB l < k ↔ l.length < k ∧ ∀ m ∈ l, mB m < k := foldr_lt _ _ _ _
theorem rowsU_open {H : Type} (enc : TypeId × Value → H) (W : World) (n : Nat) (v : Value) (x : DataW H × List MemPlace) (h : DataW.trod enc Tryz.prog W 0 (fun _ => true) true n 148 [v] = some x) (hfz : W.noneFrozen x.2) :
    ∃ l : List (List Nat), RowsU W.heap.size W l v ∧ mB l < Rows.uptoBulk x.1 := by
  obtain ⟨l, oa, cap, rfl, hle, hlt, hbd, h3⟩ := row_open enc W (α := List Nat) Tryz.underlying148 cellsRowQ (by omega) (fun a cs => RowQ W.heap.size W a cs) List.length (fun n cs x h hz => by
    have hcs : ∃ v, cs = [v] := by
      rcases DataW.trod_slice Tryz.underlying46 h with ⟨rfl, -⟩ | ⟨_, _, _, _, _, _, _, rfl, -⟩ <;> exact ⟨_, rfl⟩
    obtain ⟨v, rfl⟩ := hcs
    obtain ⟨l, hl, hb⟩ := u64s_open enc W n v x h hz
    obtain ⟨oa, cap, rfl⟩ := hl.sh
    exact ⟨l, ⟨oa, cap, rfl, hl⟩, by omega⟩) n v x h hfz
  refine ⟨l, ⟨oa, cap, rfl, hle, fun hne => ?_⟩, mB_lt.2 ⟨hlt, hbd⟩⟩
  obtain ⟨b, o, rfl, hb, -, hc⟩ := h3 hne
  exact ⟨b, o, rfl, hb, hc⟩
theorem mats_open {H : Type} (enc : TypeId × Value → H) (W : World) (n : Nat) (v : Value) (x : DataW H × List MemPlace) (h : DataW.trod enc Tryz.prog W 0 (fun _ => true) true n 140 [v] = some x) (hfz : W.noneFrozen x.2) :
    ∃ l : List (List (List Nat)), MatsU W.heap.size W l v ∧ msB l < Rows.uptoBulk x.1 := by
  obtain ⟨l, oa, cap, rfl, hle, hlt, hbd, h3⟩ := row_open enc W (α := List (List Nat)) Tryz.underlying140 cellsMatQ (by omega) (fun a cs => MatQ1 W.heap.size W a cs) mB (fun n cs x h hz => by
    have hcs : (∃ op m cp, cs = [.slice op m cp] ∧ (op = none → cp = 0)) := by
      rcases DataW.trod_slice Tryz.underlying148 h with ⟨rfl, -⟩ | ⟨_, _, _, _, _, _, _, rfl, -⟩
      · exact ⟨_, _, _, rfl, fun _ => rfl⟩
      · exact ⟨_, _, _, rfl, fun e => by cases e⟩
    obtain ⟨op, m, cp, rfl, hnil⟩ := hcs
    obtain ⟨l, hl, hb⟩ := rowsU_open enc W n _ x h hz
    obtain ⟨oa, cap, e⟩ := hl.shape
    cases e
    exact ⟨l, ⟨op, cp, rfl, hnil, hl⟩, by omega⟩) n v x h hfz
  refine ⟨l, ⟨oa, cap, rfl, hle, fun hne => ?_⟩, msB_lt.2 ⟨hlt, hbd⟩⟩
  obtain ⟨b, o, rfl, hb, -, hc⟩ := h3 hne
  exact ⟨b, o, rfl, hb, hc⟩
instance : Inhabited Mx := ⟨([], [], [])⟩
set_option maxRecDepth 100000 in
set_option maxHeartbeats 1000000 in
theorem mx_open {H : Type} (enc : TypeId × Value → H) (W : World) (n : Nat) (cs : List Value) (x : DataW H × List MemPlace) (h : DataW.trod enc Tryz.prog W 0 (fun _ => true) true n 142 cs = some x) (hfz : W.noneFrozen x.2) :
    ∃ p : Mx, MatQ W.heap.size W p cs ∧ 1 + xB p ≤ Rows.uptoBulk x.1 := by
  obtain ⟨xs, m, rfl, rfl, hl, hlen, hf⟩ := DataW.trod_struct Tryz.underlying142 h
  rw [cellsMxQ] at hl
  match cs, hl with
  | [v0, v1, v2], _ =>
    match xs, hlen with
    | [y0, y1, y2], _ =>
      have h0 := hf 0 _ rfl
      have h1 := hf 1 _ rfl
      have h2 := hf 2 _ rfl
      simp only [List.getElem?_cons_zero, List.getElem?_cons_succ] at h0 h1 h2
      obtain ⟨s, hs, rfl, -⟩ := DataW.trod_string Tryz.underlying9 h0
      cases hs
      obtain ⟨vc, hv, kv⟩ := u64s_open enc W m v1 _ h1 (fun b off hp => hfz b off (by simp only [List.flatMap_cons, List.flatMap_nil, List.mem_append]; exact .inr (.inl hp)))
      obtain ⟨ms, hm, km⟩ := mats_open enc W m v2 _ h2 (fun b off hp => hfz b off (by simp only [List.flatMap_cons, List.flatMap_nil, List.mem_append]; exact .inr (.inr (.inl hp))))
      obtain ⟨ov, cv, rfl⟩ := hv.sh
      obtain ⟨om, cm, rfl⟩ := hm.shape
      refine ⟨(s.data.toList, vc, ms), ⟨ov, cv, om, cm, by rw [kb_key], hv, hm⟩, ?_⟩
      have kv' : vc.length < Rows.uptoBulk y1.1 := kv
      have km' : msB ms < Rows.uptoBulk y2.1 := km
      have hz : s.data.toList.length = s.data.size := by simp
      simp only [List.map_cons, List.map_nil, Rows.uptoBulk, Rows.uptoBulkAll, xB]
      simp
      have : s.data.size = s.size := rfl
      omega
theorem mxs_open {H : Type} (enc : TypeId × Value → H) (W : World) (n : Nat) (v : Value) (x : DataW H × List MemPlace) (h : DataW.trod enc Tryz.prog W 0 (fun _ => true) true n 77 [v] = some x) (hfz : W.noneFrozen x.2) :
    ∃ l : List Mx, MxsIs W.heap.size W l v ∧ l.length < Rows.uptoBulk x.1 ∧ ∀ p ∈ l, xB p < Rows.uptoBulk x.1 := by
  obtain ⟨l, oa, cap, rfl, hle, hlt, hbd, h3⟩ := row_open enc W (α := Mx) Tryz.underlying77 cellsMxQ (by omega) (fun a cs => MatQ W.heap.size W a cs) xB (fun n cs x h hz => mx_open enc W n cs x h hz) n v x h hfz
  refine ⟨l, ⟨oa, cap, rfl, hle, fun hne => ?_⟩, hlt, hbd⟩
  obtain ⟨b, o, rfl, hb, -, hc⟩ := h3 hne
  exact ⟨b, o, rfl, hb, hc⟩
set_option maxRecDepth 100000 in
set_option maxHeartbeats 1000000 in
theorem sym_openQ {H : Type} (enc : TypeId × Value → H) (W : World) (n : Nat) (cs : List Value) (x : DataW H × List MemPlace) (h : DataW.trod enc Tryz.prog W 0 (fun _ => true) true n 110 cs = some x) :
    ∃ p : Key × Int, cs = [.string (kb p.1), .int .i64 p.2] ∧ 1 + p.1.length ≤ Rows.uptoBulk x.1 := by
  obtain ⟨xs, m, rfl, rfl, hl, hlen, hf⟩ := DataW.trod_struct Tryz.underlying110 h
  rw [cellsSymQ] at hl
  match cs, hl with
  | [v0, v1], _ =>
    match xs, hlen with
    | [y0, y1], _ =>
      have h0 := hf 0 _ rfl
      have h1 := hf 1 _ rfl
      simp only [List.getElem?_cons_zero, List.getElem?_cons_succ] at h0 h1
      obtain ⟨s, hs, rfl, -⟩ := DataW.trod_string Tryz.underlying9 h0
      obtain ⟨a, ha, rfl, -⟩ := DataW.trod_int Tryz.underlying3 h1
      cases hs
      cases ha
      refine ⟨(s.data.toList, a), by rw [kb_key], ?_⟩
      simp [Rows.uptoBulk, Rows.uptoBulkAll]
      have : s.data.size = s.size := rfl
      omega
theorem syms_openQ {H : Type} (enc : TypeId × Value → H) (W : World) (n : Nat) (v : Value) (x : DataW H × List MemPlace) (h : DataW.trod enc Tryz.prog W 0 (fun _ => true) true n 40 [v] = some x) (hfz : W.noneFrozen x.2) :
    ∃ l : List (Key × Int), SymsIs W.heap.size W l v ∧ l.length < Rows.uptoBulk x.1 ∧ ∀ p ∈ l, p.1.length < Rows.uptoBulk x.1 := by
  obtain ⟨l, oa, cap, rfl, hle, hlt, hbd, h3⟩ := row_open enc W (α := Key × Int) Tryz.underlying40 cellsSymQ (by omega) (fun a cs => SymQ 0 W a cs) (fun p => p.1.length) (fun n cs x h _ => by
    obtain ⟨p, hp, hb⟩ := sym_openQ enc W n cs x h
    exact ⟨p, hp, hb⟩) n v x h hfz
  refine ⟨l, ⟨oa, cap, rfl, hle, fun hne => ?_⟩, hlt, hbd⟩
  obtain ⟨b, o, rfl, hb, -, hc⟩ := h3 hne
  exact ⟨b, o, rfl, hb, hc⟩
set_option maxRecDepth 100000 in
set_option maxHeartbeats 1000000 in
theorem order_openQ {H : Type} (enc : TypeId × Value → H) (W : World) (n : Nat) (cs : List Value) (x : DataW H × List MemPlace) (h : DataW.trod enc Tryz.prog W 0 (fun _ => true) true n 79 cs = some x) (hfz : W.noneFrozen x.2) :
    ∃ (d : Int) (l : List Mx) (lv : Value), cs = [.int .i64 d, lv] ∧ MxsIs W.heap.size W l lv ∧ l.length < Rows.uptoBulk x.1 ∧ ∀ p ∈ l, xB p < Rows.uptoBulk x.1 := by
  obtain ⟨xs, m, rfl, rfl, hl, hlen, hf⟩ := DataW.trod_struct Tryz.underlying79 h
  rw [cellsOrdQ] at hl
  match cs, hl with
  | [v0, v1], _ =>
    match xs, hlen with
    | [y0, y1], _ =>
      have h0 := hf 0 _ rfl
      have h1 := hf 1 _ rfl
      simp only [List.getElem?_cons_zero, List.getElem?_cons_succ] at h0 h1
      obtain ⟨a, ha, rfl, -⟩ := DataW.trod_int Tryz.underlying3 h0
      cases ha
      obtain ⟨l, hl, k1, k2⟩ := mxs_open enc W m v1 _ h1 (fun b off hp => hfz b off (by simp only [List.flatMap_cons, List.flatMap_nil, List.mem_append]; exact .inr (.inl hp)))
      have k1' : l.length < Rows.uptoBulk y1.1 := k1
      refine ⟨a, l, v1, rfl, hl, ?_, fun p hp => ?_⟩
      · simp only [List.map_cons, List.map_nil, Rows.uptoBulk, Rows.uptoBulkAll]; omega
      · have k2' : xB p < Rows.uptoBulk y1.1 := k2 p hp
        simp only [List.map_cons, List.map_nil, Rows.uptoBulk, Rows.uptoBulkAll]; omega
section
variable {H : Type} {enc : TypeId × Value → H} {w : World} (sp : Nat → Bool)
theorem sp_u64s (k : Nat) : SpAt enc Tryz.prog w sp k 46 := by
  match k with
  | 0 => exact sp_zero sp _
  | k + 1 => exact sp_slice sp Tryz.underlying46 (by rw [cellsU64Q]; omega) (sp_int sp Tryz.underlying47 k)
theorem sp_rowsU (k : Nat) : SpAt enc Tryz.prog w sp k 148 := by
  match k with
  | 0 => exact sp_zero sp _
  | k + 1 => exact sp_slice sp Tryz.underlying148 (by rw [cellsRowQ]; omega) (sp_u64s sp k)
theorem sp_mats (k : Nat) : SpAt enc Tryz.prog w sp k 140 := by
  match k with
  | 0 => exact sp_zero sp _
  | k + 1 => exact sp_slice sp Tryz.underlying140 (by rw [cellsMatQ]; omega) (sp_rowsU sp k)
theorem sp_mx (k : Nat) : SpAt enc Tryz.prog w sp k 142 := by
  match k with
  | 0 => exact sp_zero sp _
  | k + 1 => exact sp_struct3 sp Tryz.underlying142 (sp_string sp Tryz.underlying9 k) (sp_u64s sp k) (sp_mats sp k)
theorem sp_mxs (k : Nat) : SpAt enc Tryz.prog w sp k 77 := by
  match k with
  | 0 => exact sp_zero sp _
  | k + 1 => exact sp_slice sp Tryz.underlying77 (by rw [cellsMxQ]; omega) (sp_mx sp k)
theorem sp_ordQ (k : Nat) : SpAt enc Tryz.prog w sp k 79 := by
  match k with
  | 0 => exact sp_zero sp _
  | k + 1 => exact sp_struct2 sp Tryz.underlying79 (sp_int sp Tryz.underlying3 _) (sp_mxs sp k)
theorem sp_symQ (k : Nat) : SpAt enc Tryz.prog w sp k 110 := by
  match k with
  | 0 => exact sp_zero sp _
  | k + 1 => exact sp_struct2 sp Tryz.underlying110 (sp_string sp Tryz.underlying9 k) (sp_int sp Tryz.underlying3 _)
theorem sp_symsQ (k : Nat) : SpAt enc Tryz.prog w sp k 40 := by
  match k with
  | 0 => exact sp_zero sp _
  | k + 1 => exact sp_slice sp Tryz.underlying40 (by rw [cellsSymQ]; omega) (sp_symQ sp k)
end
end Go.Proofs.YtamddagmlanijaaGreat
