/- The reference's CompareNames draws only; CheckSubst of the reference. -/
import Derived.WalkKit
import Derived.ProofKit
import Derived.OpenShut
import Derived.Handy
import Derived.Lib.Hide
import Derived.Test.YtnhldpfbmccpfaaBind
import Derived.Test.YtnhldpfbmccpfaaRChk
import Derived.Test.YtnhldpfbmccpfaaSub
namespace Go.Proofs.Ytnhldpfbmccpfaa
open Go.RowKit

def cmpN (a b : ByteArray) : Int := if a = b then 0 else if a.data.toList < b.data.toList then -1 else 1
theorem cmpN_is {a b : ByteArray} {x y : Int} (h1 : cmpi x y = 0 ↔ a = b) (h2 : cmpi x y < 0 ↔ a.data.toList < b.data.toList) : cmpi x y = cmpN a b := by
  unfold cmpN
  by_cases e : a = b
  · rw [if_pos e]; exact h1.2 e
  · rw [if_neg e]
    have h0 : cmpi x y ≠ 0 := fun h => e (h1.1 h)
    by_cases l : a.data.toList < b.data.toList
    · rw [if_pos l]; have := h2.2 l; unfold cmpi at *; split <;> simp_all <;> omega
    · rw [if_neg l]; have : ¬ cmpi x y < 0 := fun h => l (h2.1 h); unfold cmpi at *; split <;> simp_all <;> omega
theorem drew_more {w v : World} (h : ∃ m, v = w.drewN m) (n : Nat) : ∃ m, v.drewN n = w.drewN m := by
  obtain ⟨m, rfl⟩ := h
  exact ⟨m + n, by rw [World.drewN_drewN]⟩
set_option maxHeartbeats 1000000 in
theorem cmpNames_quiet (a b : ByteArray) (w : World) (ha : a.size ≤ 1048576) (hb : b.size ≤ 1048576) :
    Calls Try.prog 33 #[.string a, .string b] w fun e w' => e = .returned (.int .i64 (cmpN a b)) ∧ ∃ m, w' = w.drewN m := by
  go_enter Try.func33, Try.ntmps33
  go_wp2_with fail
  go_loopw [5, 11] (fun _ i wr => ∃ k : Nat, k ≤ a.size ∧ k ≤ b.size ∧ i = .int .i64 k ∧ Hid (∀ j, j < k → a.data.toList[j]? = b.data.toList[j]?) ∧ Hid (∃ m, wr = w.drewN m)) (fun _ i _ => a.size - (intOf i).toNat)
  case atStart => exact ⟨0, by omega, by omega, rfl, Lib.hid (fun j h => absurd h (by omega)), Lib.hid ⟨0, rfl⟩⟩
  case round =>
    obtain ⟨k, hka, hkb, rfl, HE, hbw⟩ := hrel
    by_cases hlt : k < a.size ∧ k < b.size
    · obtain ⟨h1, h2⟩ := hlt
      have GA := Lib.hid (bytes_get h1)
      have GB := Lib.hid (bytes_get h2)
      by_cases hq : a[k].toNat = b[k].toNat
      · have HQ : Hid (a[k] = b[k]) := Lib.hid (UInt8.toNat_inj.1 hq)
        have hbb : (((a[k]'h1).toNat : Int) != ((b[k]'h2).toNat : Int)) = false := by rw [bne_eq_false_iff_eq]; omega
        clear hq
        go_wp2_with fail
        go_quiet (fail)
        go_wp2_with fail
        exact ⟨⟨k + 1, by omega, by omega, by go_num, Lib.hid (fun j hj => by
          by_cases e : j = k
          · subst e; rw [GA.out, GB.out, HQ.out]
          · exact HE.out j (by omega)), Lib.hid (drew_more hbw.out nq)⟩, by simp [intOf]; omega⟩
      · have HQ : Hid (a ≠ b) := Lib.hid (fun e => hq (by subst e; rfl))
        have HLT : Hid (cmpi ((a[k]'h1).toNat : Int) ((b[k]'h2).toNat : Int) < 0 ↔ a.data.toList < b.data.toList) := Lib.hid (by
          rw [cmpi_neg, lt_split HE.out GA.out GB.out (fun e => hq (by rw [e])), UInt8.lt_iff_toNat_lt]; omega)
        have HZ : Hid (cmpi ((a[k]'h1).toNat : Int) ((b[k]'h2).toNat : Int) ≠ 0) := Lib.hid (fun e => hq (by have := (cmpi_zero _ _).1 e; omega))
        have hbb : (((a[k]'h1).toNat : Int) != ((b[k]'h2).toNat : Int)) = true := by rw [bne_iff_ne]; omega
        clear hq
        go_wp2_with fail
        go_quiet (fail)
        go_wp2_with fail
        have hbq := Lib.hid (drew_more hbw.out nq)
        generalize wr.drewN nq = wq at hbq ⊢
        have hla := UInt8.toNat_lt (a[k]'h1)
        have hlb := UInt8.toNat_lt (b[k]'h2)
        have hwa : IntKind.i64.wrap ((a[k]'h1).toNat : Int) = ((a[k]'h1).toNat : Int) := IntWalk.i64_in _ (by omega)
        have hwb : IntKind.i64.wrap ((b[k]'h2).toNat : Int) = ((b[k]'h2).toNat : Int) := IntWalk.i64_in _ (by omega)
        go_quiet ((go_at_call 60; exact Calls.quiet_of_same ((cmpInts_any _ _ _).mono fun _ _ h => ⟨h.1, h.2.symm⟩)))
        go_wp2_with fail
        go_ret
        exact ⟨congrArg (fun c => Ending.returned (.int .i64 c)) (cmpN_is ⟨fun h => absurd h HZ.out, fun h => absurd h HQ.out⟩ HLT.out), drew_more hbq.out _⟩
    · go_wp2_with fail
      refine (cmpInts_any _ _ _).mono ?_
      rintro e w2 ⟨rfl, rfl⟩
      go_wp2_with fail
      go_ret
      refine ⟨congrArg (fun c => Ending.returned (.int .i64 c)) (cmpN_is ⟨fun h => ?_, fun h => ?_⟩ ?_), hbw.out⟩
      · have := (cmpi_zero _ _).1 h
        exact names_eq (by omega) (fun j hj => HE.out j (by omega))
      · subst h; exact (cmpi_zero _ _).2 rfl
      · rw [cmpi_neg, lt_end HE.out (by rw [bytes_len]; omega) (by rw [bytes_len]; omega) (by rw [bytes_len, bytes_len]; omega), bytes_len, bytes_len]; omega
theorem kb_data (a : Key) : (kb a).data.toList = a := rfl
theorem cmpN_yes {a b : Key} (h : a < b) : decide (0 ≤ cmpN (kb a) (kb b)) = false := by
  unfold cmpN
  rw [kb_data, kb_data, if_neg (fun e => by
    have h2 : a = b := by rw [← kb_data a, ← kb_data b, e]
    subst h2; exact absurd h (List.lt_irrefl _)), if_pos h]
  rfl
theorem cmpN_no {a b : Key} (h : ¬ a < b) : decide (0 ≤ cmpN (kb a) (kb b)) = true := by
  unfold cmpN
  rw [kb_data, kb_data, if_neg h]
  split <;> rfl
/-- the first error of terms -/
noncomputable def errL : List Tm → Int
  | [] => 0
  | t :: l => if chkC t = 0 then errL l else chkC t
theorem errL_ok {l : List Tm} (h : ∀ t ∈ l, t.ok) : errL l = 0 := by
  induction l with
  | nil => rfl
  | cons x l ih => rw [errL, if_pos (chkC_ok (h x (by simp))), ih fun t ht => h t (by simp [ht])]
theorem errL_at {l : List Tm} : ∀ {j : Nat} {t : Tm}, (∀ x ∈ l.take j, x.ok) → l[j]? = some t → chkC t ≠ 0 → errL l = chkC t := by
  induction l with
  | nil => intro j t _ h; simp at h
  | cons x l ih =>
    intro j t h1 h2 h3
    cases j with
    | zero => simp only [List.getElem?_cons_zero, Option.some.injEq] at h2; subst h2; rw [errL, if_neg h3]
    | succ j =>
      rw [List.take_succ_cons] at h1
      rw [List.getElem?_cons_succ] at h2
      rw [errL, if_pos (chkC_ok (h1 x (by simp))), ih (fun y hy => h1 y (by simp [hy])) h2 h3]
def SubForm (bl : List Bd) : Prop := (∀ p ∈ bl, isName (kb p.1) false = true) ∧ ∀ i p q, bl[i]? = some p → bl[i + 1]? = some q → p.1 < q.1
open Classical in
/-- the document's error of a substitution -/
noncomputable def csC (bl : List Bd) : Int := if SubForm bl then errL (bl.map (·.2)) else 4
theorem csC_no {bl : List Bd} (h : ¬ SubForm bl) : csC bl = 4 := by unfold csC; rw [if_neg h]
theorem csC_yes {bl : List Bd} (h : SubForm bl) : csC bl = errL (bl.map (·.2)) := by unfold csC; rw [if_pos h]
theorem errL_zero {l : List Tm} (h : errL l = 0) : ∀ t ∈ l, t.ok := by
  induction l with
  | nil => simp
  | cons x l ih =>
    rw [errL] at h
    split at h
    · rename_i h0
      intro t ht
      rcases List.mem_cons.1 ht with rfl | ht
      · exact chkC_zero.1 h0
      · exact ih h t ht
    · rename_i h0; exact absurd h h0
theorem csC_zero {bl : List Bd} : csC bl = 0 ↔ SubOk bl := by
  refine ⟨fun h => ?_, fun h => ?_⟩
  · by_cases hf : SubForm bl
    · rw [csC_yes hf] at h
      exact ⟨hf.1, hf.2, fun p hp => errL_zero h _ (List.mem_map.2 ⟨p, hp, rfl⟩)⟩
    · rw [csC_no hf] at h; cases h
  · rw [csC_yes ⟨h.names, h.order⟩]
    exact errL_ok fun t ht => by obtain ⟨p, hp, rfl⟩ := List.mem_map.1 ht; exact h.terms p hp
set_option maxRecDepth 100000 in
set_option maxHeartbeats 4000000 in
theorem rcheckSubst_full (bl : List Bd) (v : Value) (w : World) (hl : BindsIs w.heap.size w bl v) (hb : bdBulk bl ≤ 1048576) :
    Calls Try.prog 14 #[v] w fun e w' => e = .returned (.int .i64 (csC bl)) ∧ Below w.heap.size w w' := by
  have hl' := hl
  obtain ⟨oa, cap, rfl, hcap, -⟩ := hl'
  have HL := Lib.hid hl
  have HB := Lib.hid hb
  have hlen := Nat.le_trans (bdBulk_len bl) hb
  clear hl hb
  go_enter Try.func14, Try.ntmps14
  go_wp2_with fail
  go_loopw [3, 4, 10] (fun _ _ i wr => ∃ j : Nat, j ≤ bl.length ∧ i = .int .i64 j ∧ Hid (SubSt bl j) ∧ Hid (Below w.heap.size w wr)) (fun _ _ i _ => bl.length - (intOf i).toNat)
  case atStart => exact ⟨0, by omega, rfl, Lib.hid ⟨by simp, fun i _ _ h => by omega⟩, Lib.hid (Below.refl _ _)⟩
  case round =>
    obtain ⟨j, hj, rfl, HST, HBW⟩ := hrel
    by_cases hlt : j < bl.length
    · obtain ⟨b, o, p, s, rfl, hbn, hp, hpm, hs, c0, c1, c2, c3⟩ := (HL.out.carry HBW.out (Nat.le_refl _)).get hlt
      obtain ⟨os, cs, rfl, -⟩ := hs.form
      have HP := Lib.hid hp
      have hps : (kb p.1).size ≤ 1048576 := by have := bdBulk_mem hpm; have := HB.out; show p.1.toArray.size ≤ _; simp; omega
      have hbx := box4 (heap_new_at wr (.cells #[.string (kb p.1), .string p.2.nm, .bool p.2.vr, .slice os p.2.ts.length cs] 82) wr.heap.size rfl)
      have hba : Below w.heap.size w (wr.alloc (.cells #[.string (kb p.1), .string p.2.nm, .bool p.2.vr, .slice os p.2.ts.length cs] 82)) := HBW.out.alloc HBW.out.size _
      obtain ⟨d0, -⟩ := hbx
      have hzz := HBW.out.size
      have HBA := Lib.hid hba
      cases hn : isName (kb p.1) false
      · have HNO : Hid (csC bl = 4) := Lib.hid (csC_no fun h => by have := h.1 p hpm; rw [hn] at this; cases this)
        clear hp hpm hs hba
        go_wp2_with fail
        generalize wr.alloc (.cells #[.string (kb p.1), .string p.2.nm, .bool p.2.vr, .slice os p.2.ts.length cs] 82) = wx at d0 HBA ⊢
        go_quiet ((first | (go_at_call 32; exact Calls.quiet_of_same ((risName_not _ _ hps).mono fun _ _ h => ⟨h.1, h.2.symm⟩)) | (go_at_call 33; exact Calls.quiet_of (cmpNames_quiet _ _ _ hqs hps))))
        go_wp2_with fail
        go_ret
        exact ⟨ret_int HNO.out.symm, below_drewN nq HBA.out⟩
      · cases j with
        | zero =>
          have HNX := Lib.hid (SubSt.first HP.out hn)
          simp only [Nat.zero_mul, Nat.add_zero] at c0 c1 c2 c3
          clear hp hpm hs hba
          go_wp2_with fail
          generalize wr.alloc (.cells #[.string (kb p.1), .string p.2.nm, .bool p.2.vr, .slice os p.2.ts.length cs] 82) = wx at d0 HBA ⊢
          go_quiet ((first | (go_at_call 32; exact Calls.quiet_of_same ((risName_not _ _ hps).mono fun _ _ h => ⟨h.1, h.2.symm⟩)) | (go_at_call 33; exact Calls.quiet_of (cmpNames_quiet _ _ _ hqs hps))))
          go_wp2_with fail
          exact ⟨⟨1, by omega, by go_num, HNX, Lib.hid (below_drewN nq HBA.out)⟩, by simp [intOf]; omega⟩
        | succ k =>
          obtain ⟨b', o', q, s', he, hbn', hq, hqm, -, e0, -, -, -⟩ := (HL.out.carry HBW.out (Nat.le_refl _)).get (k := k) (by omega)
          cases he
          have e0 := (Below.cell (p := ⟨b, o + k * 4, none⟩) ((Below.refl wr.heap.size wr).alloc (Nat.le_refl _) (.cells #[.string (kb p.1), .string p.2.nm, .bool p.2.vr, .slice os p.2.ts.length cs] 82)) (Nat.lt_of_lt_of_le hbn hzz)).trans e0
          have HQ := Lib.hid hq
          have hqs : (kb q.1).size ≤ 1048576 := by have := bdBulk_mem hqm; have := HB.out; show q.1.toArray.size ≤ _; simp; omega
          have hk0 : (0 : Int) ≤ (k : Int) := by omega
          have hk1 : (k : Int) < (bl.length : Int) := by omega
          have hk2 : (0 : Int) < (k : Int) + 1 := by omega
          have hk3 : IntKind.i64.wrap ((k : Int) + 1 - 1) = (k : Int) := by rw [Int.add_sub_cancel]; exact IntWalk.i64_in _ (by omega)
          have hk4 : IntKind.i64.wrap (k : Int) = (k : Int) := IntWalk.i64_in _ (by omega)
          by_cases hqp : q.1 < p.1
          · have hless := cmpN_yes hqp
            have HNX := Lib.hid (HST.out.more HQ.out HP.out hn hqp)
            clear hp hpm hs hba hq hqm hqp
            go_wp2_with fail
            generalize wr.alloc (.cells #[.string (kb p.1), .string p.2.nm, .bool p.2.vr, .slice os p.2.ts.length cs] 82) = wx at d0 e0 HBA ⊢
            go_quiet ((first | (go_at_call 32; exact Calls.quiet_of_same ((risName_not _ _ hps).mono fun _ _ h => ⟨h.1, h.2.symm⟩)) | (go_at_call 33; exact Calls.quiet_of (cmpNames_quiet _ _ _ hqs hps))))
            go_wp2_with fail
            exact ⟨⟨k + 1 + 1, by omega, by go_num, HNX, Lib.hid (below_drewN nq HBA.out)⟩, by simp [intOf]; omega⟩
          · have hless := cmpN_no hqp
            have HNO : Hid (csC bl = 4) := Lib.hid (csC_no fun h => hqp (h.2 k q p HQ.out HP.out))
            clear hp hpm hs hba hq hqm hqp
            go_wp2_with fail
            generalize wr.alloc (.cells #[.string (kb p.1), .string p.2.nm, .bool p.2.vr, .slice os p.2.ts.length cs] 82) = wx at d0 e0 HBA ⊢
            go_quiet ((first | (go_at_call 32; exact Calls.quiet_of_same ((risName_not _ _ hps).mono fun _ _ h => ⟨h.1, h.2.symm⟩)) | (go_at_call 33; exact Calls.quiet_of (cmpNames_quiet _ _ _ hqs hps))))
            go_wp2_with fail
            go_ret
            exact ⟨ret_int HNO.out.symm, below_drewN nq HBA.out⟩
    · obtain rfl : j = bl.length := by omega
      have HS1 : Hid ((∀ p ∈ bl, isName (kb p.1) false = true) ∧ ∀ i p q, bl[i]? = some p → bl[i + 1]? = some q → p.1 < q.1) := Lib.hid ⟨by have h := HST.out.names; rwa [List.take_length] at h, fun i p q h1 h2 => HST.out.order i p q (List.getElem?_eq_some_iff.1 h2).1 h1 h2⟩
      go_wp2_with fail
      go_loopw [6, 7, 38] (fun _ _ i wr' => ∃ j : Nat, j ≤ bl.length ∧ i = .int .i64 j ∧ Hid (∀ p ∈ bl.take j, p.2.ok) ∧ Hid (Below w.heap.size w wr')) (fun _ _ i _ => bl.length - (intOf i).toNat)
      case atStart => exact ⟨0, by omega, rfl, Lib.hid (by simp), HBW⟩
      case round =>
        obtain ⟨j, hj, rfl, HT, HBW'⟩ := hrel
        by_cases hlt : j < bl.length
        · obtain ⟨b, o, p, s, rfl, hbn, hp, hpm, hs, c0, c1, c2, c3⟩ := (HL.out.carry HBW'.out (Nat.le_refl _)).get hlt
          obtain ⟨os, cs, rfl, -⟩ := hs.form
          have HP := Lib.hid hp
          have HPM := Lib.hid hpm
          have hpb : p.2.bulk ≤ 1048576 := by have := bdBulk_mem hpm; have := HB.out; omega
          have hbx := box4 (heap_new_at wr (.cells #[.string (kb p.1), .string p.2.nm, .bool p.2.vr, .slice os p.2.ts.length cs] 82) wr.heap.size rfl)
          obtain ⟨d0, d1, d2, d3⟩ := hbx
          have HBA : Hid (Below w.heap.size w (wr.alloc (.cells #[.string (kb p.1), .string p.2.nm, .bool p.2.vr, .slice os p.2.ts.length cs] 82))) := Lib.hid (HBW'.out.alloc HBW'.out.size _)
          have HCH := Lib.hid (rcheck_full p.2 (.slice os p.2.ts.length cs) (wr.alloc (.cells #[.string (kb p.1), .string p.2.nm, .bool p.2.vr, .slice os p.2.ts.length cs] 82)) (hs.carry (HBW'.out.size |> fun h => ((Below.refl wr.heap.size wr).alloc (Nat.le_refl _) _).mono h) (by have := HBW'.out.size; simp; omega)) hpb)
          clear hp hpm hs
          go_wp2_with fail
          generalize hc : chkC p.2 = c at HCH
          refine HCH.out.mono ?_
          rintro e w2 ⟨rfl, hb2⟩
          have HC2 := Lib.hid hc
          have HB2 := Lib.hid (HBA.out.trans (hb2.mono HBA.out.size))
          clear hc hb2 HCH
          by_cases hc0 : c = 0
          · subst hc0
            have HOK := Lib.hid (chkC_zero.1 HC2.out)
            go_wp2_with fail
            exact ⟨⟨j + 1, by omega, by go_num, Lib.hid (fun x hx => by
              rw [take_one_more HP.out] at hx
              rcases List.mem_append.1 hx with hx | hx
              · exact HT.out x hx
              · simp only [List.mem_singleton] at hx; subst hx; exact HOK.out), HB2⟩, by simp [intOf]; omega⟩
          · have hcn : (c != 0) = true := by rw [bne_iff_ne]; exact hc0
            have HC0 := Lib.hid hc0
            clear hc0
            go_wp2_with fail
            go_ret
            have HEQ : csC bl = c := by
              rw [csC_yes HS1.out, errL_at (j := j) (t := p.2) (fun x hx => by
                rw [← List.map_take] at hx
                obtain ⟨q, hq, rfl⟩ := List.mem_map.1 hx
                exact HT.out q hq) (by rw [List.getElem?_map, HP.out]; rfl) (by rw [HC2.out]; exact HC0.out), HC2.out]
            exact ⟨ret_int HEQ.symm, HB2.out⟩
        · obtain rfl : j = bl.length := by omega
          have HOK : Hid (SubOk bl) := Lib.hid ⟨HS1.out.1, HS1.out.2, by have h := HT.out; rwa [List.take_length] at h⟩
          go_wp2_with fail
          go_ret
          exact ⟨ret_int (csC_zero.2 HOK.out).symm, HBW'.out⟩
theorem rcheckSubst_iff (bl : List Bd) (v : Value) (w : World) (hl : BindsIs w.heap.size w bl v) (hb : bdBulk bl ≤ 1048576) :
    Calls Try.prog 14 #[v] w fun e w' => (∃ c : Int, e = .returned (.int .i64 c) ∧ (c = 0 ↔ SubOk bl)) ∧ Below w.heap.size w w' :=
  (rcheckSubst_full bl v w hl hb).mono fun _ _ h => ⟨⟨_, h.1, csC_zero⟩, h.2⟩
theorem rcheckSubst_any (bl : List Bd) (v : Value) (w : World) (hl : BindsIs w.heap.size w bl v) (hb : bdBulk bl ≤ 1048576) :
    Calls Try.prog 14 #[v] w fun e w' => (∃ c : Int, e = .returned (.int .i64 c) ∧ (c = 0 → SubOk bl)) ∧ Below w.heap.size w w' :=
  (rcheckSubst_iff bl v w hl hb).mono fun _ _ ⟨⟨c, h1, h2⟩, h3⟩ => ⟨⟨c, h1, h2.1⟩, h3⟩
end Go.Proofs.Ytnhldpfbmccpfaa
