/- Packed: RChk, Rcs, Wks. -/
import Derived.WalkKit
import Derived.ProofKit
import Derived.OpenShut
import Derived.Handy
import Derived.Lib.Hide
import Derived.Laws.Strings
import Derived.Laws.Strings2
import Derived.Test.YtnomppdmhgefiaaGreatE02
import Derived.Test.YtnomppdmhgefiaaGreatE04
import Derived.Test.YtnomppdmhgefiaaGreatE10
import Derived.Test.YtnomppdmhgefiaaGreatE05
import Derived.Test.YtnomppdmhgefiaaGreatE07
import Derived.Test.YtnomppdmhgefiaaGreatE08
/- The reference's tests of names. The reference's Check: what it lets by is a term of the chapter. -/
namespace Go.Proofs.YtnomppdmhgefiaaGreat
open Go.RowKit

set_option maxHeartbeats 1000000 in
theorem rletter_any (c : UInt8) (w : World) : Calls Tryz.prog 174 #[.int .u8 c.toNat] w fun e w' => e = .returned (.bool (okByte c)) ∧ w = w' := by
  have HY := Lib.hid (@okByte_yes c)
  have HN := Lib.hid (@okByte_no c)
  rcases byte_cases c.toNat with h | h | h | h | h | h | h | h | h | h | h
  all_goals
    have HC := Lib.hid h
    first
      | have e95 : ((c.toNat : Int) == 95) = true := by rw [beq_iff_eq]; omega
      | have e95 : ((c.toNat : Int) == 95) = false := by rw [beq_eq_false_iff_ne]; omega
    first
      | have e39 : ((c.toNat : Int) == 39) = true := by rw [beq_iff_eq]; omega
      | have e39 : ((c.toNat : Int) == 39) = false := by rw [beq_eq_false_iff_ne]; omega
    go_enter Tryz.func174, Tryz.ntmps174
    go_wp2_with fail
    go_ret
    exact ⟨ret_bool (by first | (rw [HY.out (by have := HC.out; omega)]; done) | (rw [HY.out (by have := HC.out; omega)]; simp; omega) | (rw [HN.out (by have := HC.out; omega)]; done) | (rw [HN.out (by have := HC.out; omega)]; simp; omega)), rfl⟩

set_option maxHeartbeats 1000000 in
theorem rletters_any (s : ByteArray) (w : World) (hs : s.size ≤ 1048576) :
    Calls Tryz.prog 111 #[.string s] w fun e w' => e = .returned (.bool (plain s)) ∧ w = w' := by
  go_enter Tryz.func111, Tryz.ntmps111
  go_wp2_with fail
  go_loop [3, 6] (fun _ i => ∃ k : Nat, k ≤ s.size ∧ i = .int .i64 k ∧ Hid ((s.data.toList.take k).all okByte = true)) (fun _ i => s.size - (intOf i).toNat)
  case atStart => exact ⟨0, by omega, rfl, Lib.hid rfl⟩
  case round =>
    obtain ⟨k, hk, rfl, HA⟩ := hrel
    by_cases hlt : k < s.size
    · have HG := Lib.hid (bytes_get hlt)
      cases hc : okByte (s[k]'hlt)
      · have HC := Lib.hid hc
        clear hc
        go_wp2_with (go_at_call 174; refine (rletter_any (s[k]'hlt) _).mono ?_; rintro e w' ⟨rfl, rfl⟩; rw [HC.out])
        go_ret
        exact ⟨ret_bool (by rw [plain, all_not HG.out HC.out]), rfl⟩
      · have HC := Lib.hid hc
        clear hc
        go_wp2_with (go_at_call 174; refine (rletter_any (s[k]'hlt) _).mono ?_; rintro e w' ⟨rfl, rfl⟩; rw [HC.out])
        exact ⟨⟨k + 1, by omega, by go_num, Lib.hid (by rw [all_snoc HG.out, HA.out, HC.out]; rfl)⟩, by simp [intOf]; omega⟩
    · obtain rfl : k = s.size := by omega
      go_wp2_with fail
      go_ret
      exact ⟨ret_bool (by have := HA.out; rw [← bytes_len, List.take_length] at this; rw [plain, this]), rfl⟩

def marked (s : ByteArray) : Bool := Lib.hasSuffix s.data.toList [35]
theorem marked_last {s : ByteArray} {n : Nat} (h : n < s.size) (hn : n = s.size - 1) : ((s[n].toNat : Int) == 35) = marked s := by
  subst hn
  have hl := bytes_len s
  unfold marked
  rw [← Lib.hasSuffix_of_drop]
  have hg := bytes_get h
  have hd : s.data.toList.drop (s.data.toList.length - [(35 : UInt8)].length) = [s[s.size - 1]] := by
    have h1 : s.data.toList.length - [(35 : UInt8)].length = s.size - 1 := by rw [hl]; rfl
    rw [h1, List.drop_eq_getElem_cons (by omega), List.drop_eq_nil_of_le (by omega)]
    rfl
  rw [hd, decide_eq_true (by rw [hl]; show 1 ≤ _; omega), Bool.true_and]
  by_cases e : s[s.size - 1] = 35
  · rw [e]; rfl
  · rw [show ([s[s.size - 1]] == [(35 : UInt8)]) = false by simpa using e, beq_eq_false_iff_ne]
    intro hh
    exact e (UInt8.toNat_inj.1 (by simpa using (show s[s.size - 1].toNat = 35 by omega)))
theorem str_empty {s : ByteArray} (h : 0 < s.size) : (s.toList == []) = false := by
  have hl := bytes_len s
  rw [Lib.toList_data]
  cases hd : s.data.toList with
  | nil => rw [hd] at hl; simp at hl; omega
  | cons a l => rfl
set_option maxHeartbeats 1000000 in
theorem rmarked_any (s : ByteArray) (w : World) (hs : s.size ≤ 1048576) :
    Calls Tryz.prog 110 #[.string s] w fun e w' => e = .returned (.bool (marked s)) ∧ w = w' := by
  by_cases h0 : s.size = 0
  · obtain rfl : s = ⟨#[]⟩ := by
      obtain ⟨d⟩ := s
      have : d = #[] := Array.size_eq_zero_iff.1 h0
      rw [this]
    go_enter Tryz.func110, Tryz.ntmps110
    go_wp2_with fail
    go_ret
    exact ⟨ret_bool (by decide), rfl⟩
  · have hlt : s.size - 1 < s.size := by omega
    have hne := str_empty (s := s) (by omega)
    have HM := Lib.hid (marked_last hlt rfl)
    go_enter Tryz.func110, Tryz.ntmps110
    go_wp2_with fail
    go_ret
    exact ⟨ret_bool HM.out, rfl⟩

set_option maxHeartbeats 1000000 in
theorem risName_not (s : ByteArray) (w : World) (hs : s.size ≤ 1048576) :
    Calls Tryz.prog 51 #[.string s, .bool false] w fun e w' => e = .returned (.bool (isName s false)) ∧ w = w' := by
  by_cases h24 : s.size ≤ 24
  · by_cases h0 : 0 < s.size
    · have HE := Lib.hid (isName_eq (s := s) (m := false) h0 h24 rfl)
      have hne := str_empty h0
      go_enter Tryz.func51, Tryz.ntmps51
      go_wp2_with (go_at_call 111; refine (rletters_any _ _ (by omega)).mono ?_; rintro e w' ⟨rfl, rfl⟩)
      go_ret
      exact ⟨ret_bool HE.out.symm, rfl⟩
    · obtain rfl : s = ⟨#[]⟩ := by
        obtain ⟨d⟩ := s
        have : d = #[] := Array.size_eq_zero_iff.1 (by have : d.size = ByteArray.size ⟨d⟩ := rfl; omega)
        rw [this]
      go_enter Tryz.func51, Tryz.ntmps51
      go_wp2_with fail
      go_ret
      exact ⟨ret_bool (by decide), rfl⟩
  · have HE := Lib.hid (isName_no (s := s) (m := false) (fun h => h24 h.2))
    go_enter Tryz.func51, Tryz.ntmps51
    go_wp2_with fail
    go_ret
    exact ⟨ret_bool HE.out.symm, rfl⟩
theorem base_marked {s : ByteArray} (h : marked s = true) : 0 < s.size ∧ baseOf s true = s.extract 0 (s.size - 1) ∧ (s.extract 0 (s.size - 1)).size = s.size - 1 := by
  have hl := bytes_len s
  have h0 : 0 < s.size := by
    refine Nat.pos_of_ne_zero fun e => ?_
    rw [e] at hl
    have : s.data.toList = [] := List.length_eq_zero_iff.1 hl
    unfold marked at h
    rw [this] at h
    exact absurd h (by decide)
  have hx : (s.extract 0 (s.size - 1)).data.toList = s.data.toList.take (s.size - 1) := by
    rw [← Lib.toList_data, Lib.extract_toList, List.drop_zero, Nat.sub_zero]
  refine ⟨h0, ?_, ?_⟩
  · unfold baseOf Lib.trimSuffix
    rw [if_pos rfl, if_pos (show Lib.hasSuffix s.data.toList [35] = true from h)]
    apply ByteArray.ext
    show (List.take _ _).toArray = _
    rw [← Array.toArray_toList (xs := (s.extract 0 (s.size - 1)).data), hx, hl]
    rfl
  · rw [← bytes_len, hx, List.length_take]; omega
theorem base_plain {s : ByteArray} (h : marked s = false) : baseOf s true = s := by
  unfold baseOf Lib.trimSuffix
  rw [if_pos rfl, if_neg (by unfold marked at h; rw [h]; decide)]
set_option maxHeartbeats 1000000 in
theorem risName_yes (s : ByteArray) (w : World) (hs : s.size ≤ 1048576) :
    Calls Tryz.prog 51 #[.string s, .bool true] w fun e w' => e = .returned (.bool (isName s true)) ∧ w = w' := by
  by_cases h24 : s.size ≤ 24
  · cases hm : marked s
    · have HB := Lib.hid (base_plain hm)
      have HM := Lib.hid hm
      clear hm
      by_cases h0 : 0 < s.size
      · have HE := Lib.hid (isName_eq (s := s) (m := true) (by rw [HB.out]; exact h0) h24 rfl)
        have hne := str_empty h0
        go_enter Tryz.func51, Tryz.ntmps51
        go_wp2_with (first | (go_at_call 111; refine (rletters_any _ _ (by omega)).mono ?_; rintro e w' ⟨rfl, rfl⟩) | (go_at_call 110; refine (rmarked_any _ _ hs).mono ?_; rintro e w' ⟨rfl, rfl⟩; rw [HM.out]))
        go_ret
        exact ⟨ret_bool (by rw [HE.out, HB.out]), rfl⟩
      · obtain rfl : s = ⟨#[]⟩ := by
          obtain ⟨d⟩ := s
          have : d = #[] := Array.size_eq_zero_iff.1 (by have : d.size = ByteArray.size ⟨d⟩ := rfl; omega)
          rw [this]
        go_enter Tryz.func51, Tryz.ntmps51
        go_wp2_with (go_at_call 110; refine (rmarked_any _ _ hs).mono ?_; rintro e w' ⟨rfl, rfl⟩; rw [HM.out])
        go_ret
        exact ⟨ret_bool (by decide), rfl⟩
    · obtain ⟨hp, hb, hz⟩ := base_marked hm
      have HB := Lib.hid hb
      have HM := Lib.hid hm
      have HZ := Lib.hid hz
      clear hm hb hz
      by_cases h0 : 0 < (s.extract 0 (s.size - 1)).size
      · have HE := Lib.hid (isName_eq (s := s) (m := true) (by rw [HB.out]; exact h0) h24 rfl)
        have hne := str_empty h0
        go_enter Tryz.func51, Tryz.ntmps51
        go_wp2_with (first | (go_at_call 111; refine (rletters_any _ _ (by have := HZ.out; omega)).mono ?_; rintro e w' ⟨rfl, rfl⟩) | (go_at_call 110; refine (rmarked_any _ _ hs).mono ?_; rintro e w' ⟨rfl, rfl⟩; rw [HM.out]))
        go_ret
        exact ⟨ret_bool (by rw [HE.out, HB.out]), rfl⟩
      · have HE := Lib.hid (isName_no (s := s) (m := true) (fun h => h0 (by have := h.1; rw [HB.out] at this; exact this)))
        have HX : Hid (s.extract 0 (s.size - 1) = ⟨#[]⟩) := Lib.hid (by
          apply ByteArray.ext
          exact Array.size_eq_zero_iff.1 (by have : (s.extract 0 (s.size - 1)).data.size = (s.extract 0 (s.size - 1)).size := rfl; omega))
        have hxe : (s.extract 0 (s.size - 1)).toList = [] := by rw [HX.out, Lib.toList_data]
        go_enter Tryz.func51, Tryz.ntmps51
        go_wp2_with (go_at_call 110; refine (rmarked_any _ _ hs).mono ?_; rintro e w' ⟨rfl, rfl⟩; rw [HM.out])
        go_ret
        exact ⟨ret_bool HE.out.symm, rfl⟩
  · have HE := Lib.hid (isName_no (s := s) (m := true) (fun h => h24 h.2))
    go_enter Tryz.func51, Tryz.ntmps51
    go_wp2_with fail
    go_ret
    exact ⟨ret_bool HE.out.symm, rfl⟩
theorem risName_any (s : ByteArray) (m : Bool) (w : World) (hs : s.size ≤ 1048576) :
    Calls Tryz.prog 51 #[.string s, .bool m] w fun e w' => e = .returned (.bool (isName s m)) ∧ w = w' := by
  cases m
  · exact risName_not s w hs
  · exact risName_yes s w hs
end Go.Proofs.YtnomppdmhgefiaaGreat
namespace Go.Proofs.YtnomppdmhgefiaaGreat
open Go.RowKit

theorem depths_snoc (l : List Tm) (u : Tm) : Tm.depths (l ++ [u]) = max (Tm.depths l) u.depth := by
  induction l with
  | nil => simp [Tm.depths]
  | cons x l ih => simp only [List.cons_append, Tm.depths, ih]; omega
theorem depths_le' (l : List Tm) (h : ∀ u ∈ l, u.depth ≤ u.size) : Tm.depths l ≤ Tm.sizes l := by
  induction l with
  | nil => simp [Tm.depths]
  | cons x l ih =>
    have h1 := h x (by simp)
    have h2 := ih fun u hu => h u (by simp [hu])
    simp only [Tm.depths, Tm.sizes]; omega
theorem Tm.depth_le (t : Tm) : t.depth ≤ t.size := by
  induction t using Tm.ind with
  | h t ih => rw [Tm.depth_eq, Tm.size_eq]; have := depths_le' t.ts ih; omega
theorem depths_le (l : List Tm) : Tm.depths l ≤ Tm.sizes l := depths_le' l fun u _ => u.depth_le
set_option maxHeartbeats 400000 in
theorem rdepth_any (t : Tm) : ∀ (s : Value) (w : World), t.bulk ≤ 1048576 → SlIs w.heap.size w t.ts s →
    Calls Tryz.prog 58 #[tmv t s] w fun e w' => e = .returned (.int .i64 t.depth) ∧ Below w.heap.size w w' := by
  induction t using Tm.ind with
  | h t ih =>
    intro s w hb hs
    obtain ⟨oa, cap, rfl, ha⟩ := hs.form
    have hsz := Tm.size_bulk t
    have hse := Tm.size_eq t
    have hde := Tm.depth_eq t
    have hl := Tm.length_sizes t.ts
    have hlen : t.ts.length ≤ 1048576 := by omega
    have IH := Lib.hid ih
    have HE := Lib.hid hde
    have HD : Hid (∀ k, Tm.depths (t.ts.take k) ≤ 1048576) := Lib.hid fun k => by
      have h1 := depths_le (t.ts.take k)
      have h2 := Tm.sizes_take t.ts k
      omega
    clear ih ha hse hde
    go_enter Tryz.func58, Tryz.ntmps58
    go_wp2_with fail
    go_loopw [3, 9] (fun n i wr => ∃ k : Nat, k ≤ t.ts.length ∧ i = .int .i64 k ∧ n = .int .i64 ((Tm.depths (t.ts.take k) : Nat) : Int) ∧ Below w.heap.size w wr) (fun _ i _ => t.ts.length - (intOf i).toNat)
    case atStart => exact ⟨0, by omega, rfl, rfl, by go_grown⟩
    case round =>
      obtain ⟨k, hk, rfl, rfl, hbw⟩ := hrel
      have hsz' := hbw.size
      by_cases hlt : k < t.ts.length
      · obtain ⟨b, o, u, s, rfl, hbb, hu, hum, hus, c1, c2, c3⟩ := (hs.carry hbw (Nat.le_refl _)).get hlt
        obtain ⟨oa2, cap2, rfl, -⟩ := hus.form
        have hub := Tm.bulk_mem hum
        have htb := Tm.bulk_eq t
        have htk := Tm.take_snoc hu
        have HS := Lib.hid (show Tm.depths (t.ts.take (k+1)) = max (Tm.depths (t.ts.take k)) u.depth by rw [htk, depths_snoc])
        have hub2 : u.bulk ≤ 1048576 := by omega
        have IHu := fun W1 hb => Lib.hid (IH.out u hum _ W1 hub2 (hus.carry (B := W1) hb (by have := hb.size; omega)))
        clear htk htb hu
        go_wp2_with fail
        refine (IHu _ (by go_grown)).out.mono ?_
        rintro e w2 ⟨rfl, hb2⟩
        go_wp2_with fail
        exact ⟨⟨k + 1, by omega, by go_num, by rw [HS.out]; first | (congr 1; omega) | (simp; done) | (simp; omega), Below.trans (by go_grown) (hb2.mono (by simp; omega))⟩, by simp [intOf]; omega⟩
      · have HK : Hid (Tm.depths (t.ts.take k) = Tm.depths t.ts) := Lib.hid (by rw [List.take_of_length_le (by omega)])
        have hdk := HD.out k
        go_wp2_with fail
        go_ret
        exact ⟨ret_int (by rw [HE.out, HK.out]; omega), by go_grown⟩

set_option maxHeartbeats 1000000 in
theorem rformed_iff (t : Tm) : ∀ (s : Value) (w : World), t.bulk ≤ 1048576 → SlIs w.heap.size w t.ts s →
    Calls Tryz.prog 56 #[tmv t s] w fun e w' => (∃ x : Bool, e = .returned (.bool x) ∧ (x = true ↔ t.formed)) ∧ Below w.heap.size w w' := by
  induction t using Tm.ind with
  | h t ih =>
    intro s w hb hs
    obtain ⟨oa, cap, rfl, ha⟩ := hs.form
    have htb := Tm.bulk_eq t
    have hsz := Tm.size_bulk t
    have hse := Tm.size_eq t
    have hl := Tm.length_sizes t.ts
    have hlen : t.ts.length ≤ 1048576 := by omega
    have hnm : t.nm.size ≤ 1048576 := by omega
    have IH := Lib.hid ih
    have HF := Lib.hid (Tm.formed_iff t)
    clear ih ha hse htb
    cases hv : t.vr
    · cases hi : isName t.nm true
      · have HI := Lib.hid hi
        have HNF : Hid (¬ t.formed) := Lib.hid fun h => by have := (HF.out.1 h).1; simp [nodeOk, hv, hi] at this
        clear hi
        go_enter Tryz.func56, Tryz.ntmps56
        go_wp2_with (go_at_call 51; refine (risName_any _ _ _ hnm).mono ?_; rintro e w' ⟨rfl, rfl⟩; rw [HI.out])
        go_ret
        exact ⟨⟨_, rfl, ⟨(fun h => by cases h), fun h => absurd h HNF.out⟩⟩, by go_grown⟩
      · have HI := Lib.hid hi
        have HV := Lib.hid hv
        clear hi
        by_cases h8 : t.ts.length ≤ 8
        · go_enter Tryz.func56, Tryz.ntmps56
          go_wp2_with (go_at_call 51; refine (risName_any _ _ _ hnm).mono ?_; rintro e w' ⟨rfl, rfl⟩; rw [HI.out])
          go_loopw [29] (fun i wr => ∃ k : Nat, k ≤ t.ts.length ∧ i = .int .i64 k ∧ Hid (∀ u ∈ t.ts.take k, u.formed) ∧ Below w.heap.size w wr) (fun i _ => t.ts.length - (intOf i).toNat)
          case atStart => exact ⟨0, by omega, rfl, Lib.hid (by simp), by go_grown⟩
          case round =>
            obtain ⟨k, hk, rfl, HFS, hbw⟩ := hrel
            have hsz' := hbw.size
            by_cases hlt : k < t.ts.length
            · obtain ⟨b, o, u, s, rfl, hbb, hu, hum, hus, c1, c2, c3⟩ := (hs.carry hbw (Nat.le_refl _)).get hlt
              obtain ⟨oa2, cap2, rfl, -⟩ := hus.form
              have hub := Tm.bulk_mem hum
              have htb := Tm.bulk_eq t
              have HTK := Lib.hid (Tm.take_snoc hu)
              have hub2 : u.bulk ≤ 1048576 := by omega
              have IHu := fun W1 hb => Lib.hid (IH.out u hum _ W1 hub2 (hus.carry (B := W1) hb (by have := hb.size; omega)))
              clear htb hu
              go_wp2_with fail
              refine (IHu _ (by go_grown)).out.mono ?_
              rintro e w2 ⟨⟨x, rfl, hx⟩, hb2⟩
              have HX := Lib.hid hx
              clear hx
              cases x
              · have HNF : Hid (¬ t.formed) := Lib.hid fun h => by have := HX.out.2 ((HF.out.1 h).2 u hum); cases this
                go_wp2_with fail
                go_ret
                exact ⟨⟨_, rfl, ⟨(fun h => by cases h), fun h => absurd h HNF.out⟩⟩, Below.trans (by go_grown) (hb2.mono (by simp; omega))⟩
              · go_wp2_with fail
                exact ⟨⟨k + 1, by omega, by go_num, Lib.hid (fun v hv => by
                  rw [HTK.out] at hv
                  rcases List.mem_append.1 hv with hv | hv
                  · exact HFS.out v hv
                  · obtain rfl := List.mem_singleton.1 hv
                    exact HX.out.1 (by first | rfl | trivial)), Below.trans (by go_grown) (hb2.mono (by simp; omega))⟩, by simp [intOf]; omega⟩
            · go_wp2_with fail
              go_ret
              exact ⟨⟨_, rfl, ⟨fun _ => HF.out.2 ⟨by rw [HV.out]; simp [nodeOk, HI.out, h8], fun u hu => HFS.out u (by rw [List.take_of_length_le (by omega)]; exact hu)⟩, fun _ => rfl⟩⟩, by go_grown⟩
        · have HNF : Hid (¬ t.formed) := Lib.hid fun h => by have := (HF.out.1 h).1; simp [nodeOk, hv, h8] at this
          go_enter Tryz.func56, Tryz.ntmps56
          go_wp2_with (go_at_call 51; refine (risName_any _ _ _ hnm).mono ?_; rintro e w' ⟨rfl, rfl⟩; rw [HI.out])
          go_ret
          exact ⟨⟨_, rfl, ⟨(fun h => by cases h), fun h => absurd h HNF.out⟩⟩, by go_grown⟩
    · cases hi : isName t.nm false
      · have HI := Lib.hid hi
        have HNF : Hid (¬ t.formed) := Lib.hid fun h => by have := (HF.out.1 h).1; simp [nodeOk, hv, hi] at this
        clear hi
        go_enter Tryz.func56, Tryz.ntmps56
        go_wp2_with (go_at_call 51; refine (risName_any _ _ _ hnm).mono ?_; rintro e w' ⟨rfl, rfl⟩; rw [HI.out])
        go_ret
        exact ⟨⟨_, rfl, ⟨(fun h => by cases h), fun h => absurd h HNF.out⟩⟩, by go_grown⟩
      · have HI := Lib.hid hi
        have HV := Lib.hid hv
        clear hi
        go_enter Tryz.func56, Tryz.ntmps56
        go_wp2_with (go_at_call 51; refine (risName_any _ _ _ hnm).mono ?_; rintro e w' ⟨rfl, rfl⟩; rw [HI.out])
        go_ret
        refine ⟨⟨_, rfl, ⟨fun h => HF.out.2 ?_, fun h => ?_⟩⟩, by go_grown⟩
        rotate_left
        · have h1 := (HF.out.1 h).1
          rw [HV.out] at h1
          have h0 : t.ts.length = 0 := by simp only [nodeOk, if_true, Bool.and_eq_true, beq_iff_eq] at h1; exact h1.2
          simp [h0]
        have h0 : t.ts = [] := List.length_eq_zero_iff.1 (by
          have h : ((t.ts.length : Int) == 0) = true := by simpa using h
          rw [beq_iff_eq] at h; omega)
        exact ⟨by rw [HV.out, h0]; simp [nodeOk, HI.out], fun u hu => by rw [h0] at hu; cases hu⟩

open Classical in
/-- the document's error of a term -/
noncomputable def chkC (t : Tm) : Int := if t.formed then if t.size ≤ 4000 ∧ t.depth ≤ 200 then 0 else 3 else 4
theorem chkC_form {t : Tm} (h : ¬ t.formed) : chkC t = 4 := by unfold chkC; rw [if_neg h]
theorem chkC_big {t : Tm} (h : t.formed) (k : ¬ (t.size ≤ 4000 ∧ t.depth ≤ 200)) : chkC t = 3 := by unfold chkC; rw [if_pos h, if_neg k]
theorem chkC_ok {t : Tm} (h : t.ok) : chkC t = 0 := by unfold chkC; rw [if_pos h.1, if_pos h.2]
theorem chkC_zero {t : Tm} : chkC t = 0 ↔ t.ok := by
  refine ⟨fun h => ?_, chkC_ok⟩
  by_cases h1 : t.formed
  · by_cases h2 : t.size ≤ 4000 ∧ t.depth ≤ 200
    · exact ⟨h1, h2⟩
    · rw [chkC_big h1 h2] at h; cases h
  · rw [chkC_form h1] at h; cases h
set_option maxHeartbeats 1000000 in
theorem rcheck_full (t : Tm) (s : Value) (w : World) (hs : SlIs w.heap.size w t.ts s) (hb : t.bulk ≤ 1048576) :
    Calls Tryz.prog 18 #[tmv t s] w fun e w' => e = .returned (.int .i64 (chkC t)) ∧ Below w.heap.size w w' := by
  obtain ⟨oa, cap, rfl, ha⟩ := hs.form
  have hsz := Tm.size_bulk t
  have hdz := t.depth_le
  have HS := Lib.hid hs
  clear hs ha
  go_enter Tryz.func18, Tryz.ntmps18
  go_wp2_with fail
  refine (rformed_iff t _ _ hb (HS.out.carry (by go_grown) (by simp))).mono ?_
  rintro e w1 ⟨⟨x, rfl, hx⟩, hb1⟩
  have hbx := (hb1.block w.heap.size (by simp)).trans (heap_new_at w (.cells #[.string t.nm, .bool t.vr, .slice oa t.ts.length cap] 25) w.heap.size rfl)
  have HW1 : Hid (Below w.heap.size w w1) := Lib.hid (Below.trans (by go_grown) (hb1.mono (by simp)))
  have HX := Lib.hid hx
  have HT1 := Lib.hid (show TBx w1 w.heap.size t (.slice oa t.ts.length cap) from ⟨hbx, HS.out.carry HW1.out HW1.out.size⟩)
  clear hx hb1 hbx
  cases x
  · go_wp2_with fail
    go_ret
    exact ⟨ret_int (chkC_form (fun h => by have := HX.out.2 h; cases this)).symm, HW1.out⟩
  · have HF := Lib.hid (HX.out.1 (by first | rfl | trivial))
    obtain ⟨⟨a0, a1, a2⟩, -⟩ := box3 HT1.out.box
    go_wp2_with fail
    clear a0 a1 a2
    refine (rsize_any t _ _ hb HT1.out.is).mono ?_
    rintro e w2 ⟨rfl, hb2⟩
    have HT2 := Lib.hid (HT1.out.carry hb2)
    have HW2 := Lib.hid (HW1.out.trans (hb2.mono HW1.out.size))
    clear hb2
    obtain ⟨⟨a0, a1, a2⟩, -⟩ := box3 HT2.out.box
    by_cases h4 : t.size ≤ 4000
    · go_wp2_with fail
      clear a0 a1 a2
      refine (rdepth_any t _ _ hb HT2.out.is).mono ?_
      rintro e w3 ⟨rfl, hb3⟩
      have HW3 := Lib.hid (HW2.out.trans (hb3.mono HW2.out.size))
      clear hb3
      by_cases h2 : t.depth ≤ 200
      · go_wp2_with fail
        go_ret
        exact ⟨ret_int (chkC_ok ⟨HF.out, h4, h2⟩).symm, HW3.out⟩
      · go_wp2_with fail
        go_ret
        exact ⟨ret_int (chkC_big HF.out (fun h => h2 h.2)).symm, HW3.out⟩
    · go_wp2_with fail
      go_ret
      exact ⟨ret_int (chkC_big HF.out (fun h => h4 h.1)).symm, HW2.out⟩
theorem rcheck_iff (t : Tm) (s : Value) (w : World) (hs : SlIs w.heap.size w t.ts s) (hb : t.bulk ≤ 1048576) :
    Calls Tryz.prog 18 #[tmv t s] w fun e w' => (∃ c : Int, e = .returned (.int .i64 c) ∧ (c = 0 ↔ t.ok)) ∧ Below w.heap.size w w' := (rcheck_full t s w hs hb).mono fun _ _ h => ⟨⟨_, h.1, chkC_zero⟩, h.2⟩
end Go.Proofs.YtnomppdmhgefiaaGreat
/- The reference's CompareNames draws only; CheckSubst of the reference. -/
namespace Go.Proofs.YtnomppdmhgefiaaGreat
open Go.RowKit

def cmpN (a b : ByteArray) : Int := if a = b then 0 else if a.data.toList < b.data.toList then -1 else 1
theorem cmpN_is {a b : ByteArray} {x y : Int} (h1 : cmpi x y = 0 ↔ a = b) (h2 : cmpi x y < 0 ↔ a.data.toList < b.data.toList) : cmpi x y = cmpN a b := by
  unfold cmpN
  by_cases e : a = b
  · rw [if_pos e]; exact h1.2 e
  · rw [if_neg e]
    have h0 : cmpi x y ≠ 0 := fun h => e (h1.1 h)
    by_cases l : a.data.toList < b.data.toList
    · rw [if_pos l]; have := h2.2 l; unfold cmpi at *; split <;> simp_all <;> omega
    · rw [if_neg l]; have : ¬ cmpi x y < 0 := fun h => l (h2.1 h); unfold cmpi at *; split <;> simp_all <;> omega
theorem drew_more {w v : World} (h : ∃ m, v = w.drewN m) (n : Nat) : ∃ m, v.drewN n = w.drewN m := by
  obtain ⟨m, rfl⟩ := h
  exact ⟨m + n, by rw [World.drewN_drewN]⟩
set_option maxHeartbeats 1000000 in
theorem cmpNames_quiet (a b : ByteArray) (w : World) (ha : a.size ≤ 1048576) (hb : b.size ≤ 1048576) :
    Calls Tryz.prog 52 #[.string a, .string b] w fun e w' => e = .returned (.int .i64 (cmpN a b)) ∧ ∃ m, w' = w.drewN m := by
  go_enter Tryz.func52, Tryz.ntmps52
  go_wp2_with fail
  go_loopw [5, 11] (fun _ i wr => ∃ k : Nat, k ≤ a.size ∧ k ≤ b.size ∧ i = .int .i64 k ∧ Hid (∀ j, j < k → a.data.toList[j]? = b.data.toList[j]?) ∧ Hid (∃ m, wr = w.drewN m)) (fun _ i _ => a.size - (intOf i).toNat)
  case atStart => exact ⟨0, by omega, by omega, rfl, Lib.hid (fun j h => absurd h (by omega)), Lib.hid ⟨0, rfl⟩⟩
  case round =>
    obtain ⟨k, hka, hkb, rfl, HE, hbw⟩ := hrel
    by_cases hlt : k < a.size ∧ k < b.size
    · obtain ⟨h1, h2⟩ := hlt
      have GA := Lib.hid (bytes_get h1)
      have GB := Lib.hid (bytes_get h2)
      by_cases hq : a[k].toNat = b[k].toNat
      · have HQ : Hid (a[k] = b[k]) := Lib.hid (UInt8.toNat_inj.1 hq)
        have hbb : (((a[k]'h1).toNat : Int) != ((b[k]'h2).toNat : Int)) = false := by rw [bne_eq_false_iff_eq]; omega
        clear hq
        go_wp2_with fail
        go_quiet (fail)
        go_wp2_with fail
        exact ⟨⟨k + 1, by omega, by omega, by go_num, Lib.hid (fun j hj => by
          by_cases e : j = k
          · subst e; rw [GA.out, GB.out, HQ.out]
          · exact HE.out j (by omega)), Lib.hid (drew_more hbw.out nq)⟩, by simp [intOf]; omega⟩
      · have HQ : Hid (a ≠ b) := Lib.hid (fun e => hq (by subst e; rfl))
        have HLT : Hid (cmpi ((a[k]'h1).toNat : Int) ((b[k]'h2).toNat : Int) < 0 ↔ a.data.toList < b.data.toList) := Lib.hid (by
          rw [cmpi_neg, lt_split HE.out GA.out GB.out (fun e => hq (by rw [e])), UInt8.lt_iff_toNat_lt]; omega)
        have HZ : Hid (cmpi ((a[k]'h1).toNat : Int) ((b[k]'h2).toNat : Int) ≠ 0) := Lib.hid (fun e => hq (by have := (cmpi_zero _ _).1 e; omega))
        have hbb : (((a[k]'h1).toNat : Int) != ((b[k]'h2).toNat : Int)) = true := by rw [bne_iff_ne]; omega
        clear hq
        go_wp2_with fail
        go_quiet (fail)
        go_wp2_with fail
        have hbq := Lib.hid (drew_more hbw.out nq)
        generalize wr.drewN nq = wq at hbq ⊢
        have hla := UInt8.toNat_lt (a[k]'h1)
        have hlb := UInt8.toNat_lt (b[k]'h2)
        have hwa : IntKind.i64.wrap ((a[k]'h1).toNat : Int) = ((a[k]'h1).toNat : Int) := IntWalk.i64_in _ (by omega)
        have hwb : IntKind.i64.wrap ((b[k]'h2).toNat : Int) = ((b[k]'h2).toNat : Int) := IntWalk.i64_in _ (by omega)
        go_quiet ((go_at_call 112; exact Calls.quiet_of_same ((cmpInts_any _ _ _).mono fun _ _ h => ⟨h.1, h.2.symm⟩)))
        go_wp2_with fail
        go_ret
        exact ⟨congrArg (fun c => Ending.returned (.int .i64 c)) (cmpN_is ⟨fun h => absurd h HZ.out, fun h => absurd h HQ.out⟩ HLT.out), drew_more hbq.out _⟩
    · go_wp2_with fail
      refine (cmpInts_any _ _ _).mono ?_
      rintro e w2 ⟨rfl, rfl⟩
      go_wp2_with fail
      go_ret
      refine ⟨congrArg (fun c => Ending.returned (.int .i64 c)) (cmpN_is ⟨fun h => ?_, fun h => ?_⟩ ?_), hbw.out⟩
      · have := (cmpi_zero _ _).1 h
        exact names_eq (by omega) (fun j hj => HE.out j (by omega))
      · subst h; exact (cmpi_zero _ _).2 rfl
      · rw [cmpi_neg, lt_end HE.out (by rw [bytes_len]; omega) (by rw [bytes_len]; omega) (by rw [bytes_len, bytes_len]; omega), bytes_len, bytes_len]; omega
theorem kb_data (a : Key) : (kb a).data.toList = a := rfl
theorem cmpN_yes {a b : Key} (h : a < b) : decide (0 ≤ cmpN (kb a) (kb b)) = false := by
  unfold cmpN
  rw [kb_data, kb_data, if_neg (fun e => by
    have h2 : a = b := by rw [← kb_data a, ← kb_data b, e]
    subst h2; exact absurd h (List.lt_irrefl _)), if_pos h]
  rfl
theorem cmpN_no {a b : Key} (h : ¬ a < b) : decide (0 ≤ cmpN (kb a) (kb b)) = true := by
  unfold cmpN
  rw [kb_data, kb_data, if_neg h]
  split <;> rfl
/-- the first error of terms -/
noncomputable def errL : List Tm → Int
  | [] => 0
  | t :: l => if chkC t = 0 then errL l else chkC t
theorem errL_ok {l : List Tm} (h : ∀ t ∈ l, t.ok) : errL l = 0 := by
  induction l with
  | nil => rfl
  | cons x l ih => rw [errL, if_pos (chkC_ok (h x (by simp))), ih fun t ht => h t (by simp [ht])]
theorem errL_at {l : List Tm} : ∀ {j : Nat} {t : Tm}, (∀ x ∈ l.take j, x.ok) → l[j]? = some t → chkC t ≠ 0 → errL l = chkC t := by
  induction l with
  | nil => intro j t _ h; simp at h
  | cons x l ih =>
    intro j t h1 h2 h3
    cases j with
    | zero => simp only [List.getElem?_cons_zero, Option.some.injEq] at h2; subst h2; rw [errL, if_neg h3]
    | succ j =>
      rw [List.take_succ_cons] at h1
      rw [List.getElem?_cons_succ] at h2
      rw [errL, if_pos (chkC_ok (h1 x (by simp))), ih (fun y hy => h1 y (by simp [hy])) h2 h3]
def SubForm (bl : List Bd) : Prop := (∀ p ∈ bl, isName (kb p.1) false = true) ∧ ∀ i p q, bl[i]? = some p → bl[i + 1]? = some q → p.1 < q.1
open Classical in
/-- the document's error of a substitution -/
noncomputable def csC (bl : List Bd) : Int := if SubForm bl then errL (bl.map (·.2)) else 4
theorem csC_no {bl : List Bd} (h : ¬ SubForm bl) : csC bl = 4 := by unfold csC; rw [if_neg h]
theorem csC_yes {bl : List Bd} (h : SubForm bl) : csC bl = errL (bl.map (·.2)) := by unfold csC; rw [if_pos h]
theorem errL_zero {l : List Tm} (h : errL l = 0) : ∀ t ∈ l, t.ok := by
  induction l with
  | nil => simp
  | cons x l ih =>
    rw [errL] at h
    split at h
    · rename_i h0
      intro t ht
      rcases List.mem_cons.1 ht with rfl | ht
      · exact chkC_zero.1 h0
      · exact ih h t ht
    · rename_i h0; exact absurd h h0
theorem csC_zero {bl : List Bd} : csC bl = 0 ↔ SubOk bl := by
  refine ⟨fun h => ?_, fun h => ?_⟩
  · by_cases hf : SubForm bl
    · rw [csC_yes hf] at h
      exact ⟨hf.1, hf.2, fun p hp => errL_zero h _ (List.mem_map.2 ⟨p, hp, rfl⟩)⟩
    · rw [csC_no hf] at h; cases h
  · rw [csC_yes ⟨h.names, h.order⟩]
    exact errL_ok fun t ht => by obtain ⟨p, hp, rfl⟩ := List.mem_map.1 ht; exact h.terms p hp
set_option maxRecDepth 100000 in
set_option maxHeartbeats 4000000 in
theorem rcheckSubst_full (bl : List Bd) (v : Value) (w : World) (hl : BindsIs w.heap.size w bl v) (hb : bdBulk bl ≤ 1048576) :
    Calls Tryz.prog 13 #[v] w fun e w' => e = .returned (.int .i64 (csC bl)) ∧ Below w.heap.size w w' := by
  have hl' := hl
  obtain ⟨oa, cap, rfl, hcap, -⟩ := hl'
  have HL := Lib.hid hl
  have HB := Lib.hid hb
  have hlen := Nat.le_trans (bdBulk_len bl) hb
  clear hl hb
  go_enter Tryz.func13, Tryz.ntmps13
  go_wp2_with fail
  go_loopw [3, 4, 10] (fun _ _ i wr => ∃ j : Nat, j ≤ bl.length ∧ i = .int .i64 j ∧ Hid (SubSt bl j) ∧ Hid (Below w.heap.size w wr)) (fun _ _ i _ => bl.length - (intOf i).toNat)
  case atStart => exact ⟨0, by omega, rfl, Lib.hid ⟨by simp, fun i _ _ h => by omega⟩, Lib.hid (Below.refl _ _)⟩
  case round =>
    obtain ⟨j, hj, rfl, HST, HBW⟩ := hrel
    by_cases hlt : j < bl.length
    · obtain ⟨b, o, p, s, rfl, hbn, hp, hpm, hs, c0, c1, c2, c3⟩ := (HL.out.carry HBW.out (Nat.le_refl _)).get hlt
      obtain ⟨os, cs, rfl, -⟩ := hs.form
      have HP := Lib.hid hp
      have hps : (kb p.1).size ≤ 1048576 := by have := bdBulk_mem hpm; have := HB.out; show p.1.toArray.size ≤ _; simp; omega
      have hbx := box4 (heap_new_at wr (.cells #[.string (kb p.1), .string p.2.nm, .bool p.2.vr, .slice os p.2.ts.length cs] 105) wr.heap.size rfl)
      have hba : Below w.heap.size w (wr.alloc (.cells #[.string (kb p.1), .string p.2.nm, .bool p.2.vr, .slice os p.2.ts.length cs] 105)) := HBW.out.alloc HBW.out.size _
      obtain ⟨d0, -⟩ := hbx
      have hzz := HBW.out.size
      have HBA := Lib.hid hba
      cases hn : isName (kb p.1) false
      · have HNO : Hid (csC bl = 4) := Lib.hid (csC_no fun h => by have := h.1 p hpm; rw [hn] at this; cases this)
        clear hp hpm hs hba
        go_wp2_with fail
        generalize wr.alloc (.cells #[.string (kb p.1), .string p.2.nm, .bool p.2.vr, .slice os p.2.ts.length cs] 105) = wx at d0 HBA ⊢
        go_quiet ((first | (go_at_call 51; exact Calls.quiet_of_same ((risName_not _ _ hps).mono fun _ _ h => ⟨h.1, h.2.symm⟩)) | (go_at_call 52; exact Calls.quiet_of (cmpNames_quiet _ _ _ hqs hps))))
        go_wp2_with fail
        go_ret
        exact ⟨ret_int HNO.out.symm, below_drewN nq HBA.out⟩
      · cases j with
        | zero =>
          have HNX := Lib.hid (SubSt.first HP.out hn)
          simp only [Nat.zero_mul, Nat.add_zero] at c0 c1 c2 c3
          clear hp hpm hs hba
          go_wp2_with fail
          generalize wr.alloc (.cells #[.string (kb p.1), .string p.2.nm, .bool p.2.vr, .slice os p.2.ts.length cs] 105) = wx at d0 HBA ⊢
          go_quiet ((first | (go_at_call 51; exact Calls.quiet_of_same ((risName_not _ _ hps).mono fun _ _ h => ⟨h.1, h.2.symm⟩)) | (go_at_call 52; exact Calls.quiet_of (cmpNames_quiet _ _ _ hqs hps))))
          go_wp2_with fail
          exact ⟨⟨1, by omega, by go_num, HNX, Lib.hid (below_drewN nq HBA.out)⟩, by simp [intOf]; omega⟩
        | succ k =>
          obtain ⟨b', o', q, s', he, hbn', hq, hqm, -, e0, -, -, -⟩ := (HL.out.carry HBW.out (Nat.le_refl _)).get (k := k) (by omega)
          cases he
          have e0 := (Below.cell (p := ⟨b, o + k * 4, none⟩) ((Below.refl wr.heap.size wr).alloc (Nat.le_refl _) (.cells #[.string (kb p.1), .string p.2.nm, .bool p.2.vr, .slice os p.2.ts.length cs] 105)) (Nat.lt_of_lt_of_le hbn hzz)).trans e0
          have HQ := Lib.hid hq
          have hqs : (kb q.1).size ≤ 1048576 := by have := bdBulk_mem hqm; have := HB.out; show q.1.toArray.size ≤ _; simp; omega
          have hk0 : (0 : Int) ≤ (k : Int) := by omega
          have hk1 : (k : Int) < (bl.length : Int) := by omega
          have hk2 : (0 : Int) < (k : Int) + 1 := by omega
          have hk3 : IntKind.i64.wrap ((k : Int) + 1 - 1) = (k : Int) := by rw [Int.add_sub_cancel]; exact IntWalk.i64_in _ (by omega)
          have hk4 : IntKind.i64.wrap (k : Int) = (k : Int) := IntWalk.i64_in _ (by omega)
          by_cases hqp : q.1 < p.1
          · have hless := cmpN_yes hqp
            have HNX := Lib.hid (HST.out.more HQ.out HP.out hn hqp)
            clear hp hpm hs hba hq hqm hqp
            go_wp2_with fail
            generalize wr.alloc (.cells #[.string (kb p.1), .string p.2.nm, .bool p.2.vr, .slice os p.2.ts.length cs] 105) = wx at d0 e0 HBA ⊢
            go_quiet ((first | (go_at_call 51; exact Calls.quiet_of_same ((risName_not _ _ hps).mono fun _ _ h => ⟨h.1, h.2.symm⟩)) | (go_at_call 52; exact Calls.quiet_of (cmpNames_quiet _ _ _ hqs hps))))
            go_wp2_with fail
            exact ⟨⟨k + 1 + 1, by omega, by go_num, HNX, Lib.hid (below_drewN nq HBA.out)⟩, by simp [intOf]; omega⟩
          · have hless := cmpN_no hqp
            have HNO : Hid (csC bl = 4) := Lib.hid (csC_no fun h => hqp (h.2 k q p HQ.out HP.out))
            clear hp hpm hs hba hq hqm hqp
            go_wp2_with fail
            generalize wr.alloc (.cells #[.string (kb p.1), .string p.2.nm, .bool p.2.vr, .slice os p.2.ts.length cs] 105) = wx at d0 e0 HBA ⊢
            go_quiet ((first | (go_at_call 51; exact Calls.quiet_of_same ((risName_not _ _ hps).mono fun _ _ h => ⟨h.1, h.2.symm⟩)) | (go_at_call 52; exact Calls.quiet_of (cmpNames_quiet _ _ _ hqs hps))))
            go_wp2_with fail
            go_ret
            exact ⟨ret_int HNO.out.symm, below_drewN nq HBA.out⟩
    · obtain rfl : j = bl.length := by omega
      have HS1 : Hid ((∀ p ∈ bl, isName (kb p.1) false = true) ∧ ∀ i p q, bl[i]? = some p → bl[i + 1]? = some q → p.1 < q.1) := Lib.hid ⟨by have h := HST.out.names; rwa [List.take_length] at h, fun i p q h1 h2 => HST.out.order i p q (List.getElem?_eq_some_iff.1 h2).1 h1 h2⟩
      go_wp2_with fail
      go_loopw [6, 7, 38] (fun _ _ i wr' => ∃ j : Nat, j ≤ bl.length ∧ i = .int .i64 j ∧ Hid (∀ p ∈ bl.take j, p.2.ok) ∧ Hid (Below w.heap.size w wr')) (fun _ _ i _ => bl.length - (intOf i).toNat)
      case atStart => exact ⟨0, by omega, rfl, Lib.hid (by simp), HBW⟩
      case round =>
        obtain ⟨j, hj, rfl, HT, HBW'⟩ := hrel
        by_cases hlt : j < bl.length
        · obtain ⟨b, o, p, s, rfl, hbn, hp, hpm, hs, c0, c1, c2, c3⟩ := (HL.out.carry HBW'.out (Nat.le_refl _)).get hlt
          obtain ⟨os, cs, rfl, -⟩ := hs.form
          have HP := Lib.hid hp
          have HPM := Lib.hid hpm
          have hpb : p.2.bulk ≤ 1048576 := by have := bdBulk_mem hpm; have := HB.out; omega
          have hbx := box4 (heap_new_at wr (.cells #[.string (kb p.1), .string p.2.nm, .bool p.2.vr, .slice os p.2.ts.length cs] 105) wr.heap.size rfl)
          obtain ⟨d0, d1, d2, d3⟩ := hbx
          have HBA : Hid (Below w.heap.size w (wr.alloc (.cells #[.string (kb p.1), .string p.2.nm, .bool p.2.vr, .slice os p.2.ts.length cs] 105))) := Lib.hid (HBW'.out.alloc HBW'.out.size _)
          have HCH := Lib.hid (rcheck_full p.2 (.slice os p.2.ts.length cs) (wr.alloc (.cells #[.string (kb p.1), .string p.2.nm, .bool p.2.vr, .slice os p.2.ts.length cs] 105)) (hs.carry (HBW'.out.size |> fun h => ((Below.refl wr.heap.size wr).alloc (Nat.le_refl _) _).mono h) (by have := HBW'.out.size; simp; omega)) hpb)
          clear hp hpm hs
          go_wp2_with fail
          generalize hc : chkC p.2 = c at HCH
          refine HCH.out.mono ?_
          rintro e w2 ⟨rfl, hb2⟩
          have HC2 := Lib.hid hc
          have HB2 := Lib.hid (HBA.out.trans (hb2.mono HBA.out.size))
          clear hc hb2 HCH
          by_cases hc0 : c = 0
          · subst hc0
            have HOK := Lib.hid (chkC_zero.1 HC2.out)
            go_wp2_with fail
            exact ⟨⟨j + 1, by omega, by go_num, Lib.hid (fun x hx => by
              rw [take_one_more HP.out] at hx
              rcases List.mem_append.1 hx with hx | hx
              · exact HT.out x hx
              · simp only [List.mem_singleton] at hx; subst hx; exact HOK.out), HB2⟩, by simp [intOf]; omega⟩
          · have hcn : (c != 0) = true := by rw [bne_iff_ne]; exact hc0
            have HC0 := Lib.hid hc0
            clear hc0
            go_wp2_with fail
            go_ret
            have HEQ : csC bl = c := by
              rw [csC_yes HS1.out, errL_at (j := j) (t := p.2) (fun x hx => by
                rw [← List.map_take] at hx
                obtain ⟨q, hq, rfl⟩ := List.mem_map.1 hx
                exact HT.out q hq) (by rw [List.getElem?_map, HP.out]; rfl) (by rw [HC2.out]; exact HC0.out), HC2.out]
            exact ⟨ret_int HEQ.symm, HB2.out⟩
        · obtain rfl : j = bl.length := by omega
          have HOK : Hid (SubOk bl) := Lib.hid ⟨HS1.out.1, HS1.out.2, by have h := HT.out; rwa [List.take_length] at h⟩
          go_wp2_with fail
          go_ret
          exact ⟨ret_int (csC_zero.2 HOK.out).symm, HBW'.out⟩
theorem rcheckSubst_iff (bl : List Bd) (v : Value) (w : World) (hl : BindsIs w.heap.size w bl v) (hb : bdBulk bl ≤ 1048576) :
    Calls Tryz.prog 13 #[v] w fun e w' => (∃ c : Int, e = .returned (.int .i64 c) ∧ (c = 0 ↔ SubOk bl)) ∧ Below w.heap.size w w' :=
  (rcheckSubst_full bl v w hl hb).mono fun _ _ h => ⟨⟨_, h.1, csC_zero⟩, h.2⟩
end Go.Proofs.YtnomppdmhgefiaaGreat
/- The reference's Size, Depth, Compare and Equal, with bounds on the size and on each name. -/
namespace Go.Proofs.YtnomppdmhgefiaaGreat
open Go.RowKit

/-- each name has at most 1048576 letters -/
inductive Tm.low : Tm → Prop
  | mk (t : Tm) : t.nm.size ≤ 1048576 → (∀ u ∈ t.ts, u.low) → t.low
theorem Tm.low.name {t : Tm} (h : t.low) : t.nm.size ≤ 1048576 := by cases h with | mk _ h1 _ => exact h1
theorem Tm.low.kids {t : Tm} (h : t.low) : ∀ u ∈ t.ts, u.low := by cases h with | mk _ _ h2 => exact h2
set_option maxHeartbeats 400000 in
theorem rsize_sz (t : Tm) : ∀ (s : Value) (w : World), t.size ≤ 1048576 → SlIs w.heap.size w t.ts s →
    Calls Tryz.prog 57 #[tmv t s] w fun e w' => e = .returned (.int .i64 t.size) ∧ Below w.heap.size w w' := by
  induction t using Tm.ind with
  | h t ih =>
    intro s w hb hs
    obtain ⟨oa, cap, rfl, ha⟩ := hs.form
    have hse := Tm.size_eq t
    have hl := Tm.length_sizes t.ts
    have hlen : t.ts.length ≤ 1048576 := by omega
    have IH := Lib.hid ih
    have HE := Lib.hid hse
    clear ih ha hse
    go_enter Tryz.func57, Tryz.ntmps57
    go_wp2_with fail
    go_loopw [3, 9] (fun n i wr => ∃ k : Nat, k ≤ t.ts.length ∧ i = .int .i64 k ∧ n = .int .i64 ((1 + Tm.sizes (t.ts.take k) : Nat) : Int) ∧ Below w.heap.size w wr) (fun _ i _ => t.ts.length - (intOf i).toNat)
    case atStart => exact ⟨0, by omega, rfl, rfl, by go_grown⟩
    case round =>
      obtain ⟨k, hk, rfl, rfl, hbw⟩ := hrel
      have hsz' := hbw.size
      by_cases hlt : k < t.ts.length
      · obtain ⟨b, o, u, s, rfl, hbb, hu, hum, hus, c1, c2, c3⟩ := (hs.carry hbw (Nat.le_refl _)).get hlt
        obtain ⟨oa2, cap2, rfl, -⟩ := hus.form
        have hus' := Tm.size_mem hum
        have htk := Tm.take_snoc hu
        have hst := Tm.sizes_append (t.ts.take k) [u]
        have HS := Lib.hid (show Tm.sizes (t.ts.take (k+1)) = Tm.sizes (t.ts.take k) + u.size by rw [htk, hst]; simp [Tm.sizes])
        have hsk := Tm.sizes_take t.ts (k + 1)
        have hsk2 : Tm.sizes (t.ts.take k) + u.size ≤ 1048576 := by rw [← HS.out]; have := HE.out; omega
        have hub2 : u.size ≤ 1048576 := by omega
        have IHu := fun W1 hb => Lib.hid (IH.out u hum _ W1 hub2 (hus.carry (B := W1) hb (by have := hb.size; omega)))
        clear htk hst hu
        go_wp2_with fail
        refine (IHu _ (by go_grown)).out.mono ?_
        rintro e w2 ⟨rfl, hb2⟩
        go_wp2_with fail
        exact ⟨⟨k + 1, by omega, by go_num, by rw [HS.out]; go_num, Below.trans (by go_grown) (hb2.mono (by simp; omega))⟩, by simp [intOf]; omega⟩
      · go_wp2_with fail
        go_ret
        exact ⟨ret_int (by rw [HE.out, List.take_of_length_le (by omega)]), by go_grown⟩

set_option maxHeartbeats 400000 in
theorem rdepth_sz (t : Tm) : ∀ (s : Value) (w : World), t.size ≤ 1048576 → SlIs w.heap.size w t.ts s →
    Calls Tryz.prog 58 #[tmv t s] w fun e w' => e = .returned (.int .i64 t.depth) ∧ Below w.heap.size w w' := by
  induction t using Tm.ind with
  | h t ih =>
    intro s w hb hs
    obtain ⟨oa, cap, rfl, ha⟩ := hs.form
    have hse := Tm.size_eq t
    have hde := Tm.depth_eq t
    have hl := Tm.length_sizes t.ts
    have hlen : t.ts.length ≤ 1048576 := by omega
    have IH := Lib.hid ih
    have HE := Lib.hid hde
    have HD : Hid (∀ k, Tm.depths (t.ts.take k) ≤ 1048576) := Lib.hid fun k => by
      have h1 := depths_le (t.ts.take k)
      have h2 := Tm.sizes_take t.ts k
      omega
    clear ih ha hse hde
    go_enter Tryz.func58, Tryz.ntmps58
    go_wp2_with fail
    go_loopw [3, 9] (fun n i wr => ∃ k : Nat, k ≤ t.ts.length ∧ i = .int .i64 k ∧ n = .int .i64 ((Tm.depths (t.ts.take k) : Nat) : Int) ∧ Below w.heap.size w wr) (fun _ i _ => t.ts.length - (intOf i).toNat)
    case atStart => exact ⟨0, by omega, rfl, rfl, by go_grown⟩
    case round =>
      obtain ⟨k, hk, rfl, rfl, hbw⟩ := hrel
      have hsz' := hbw.size
      by_cases hlt : k < t.ts.length
      · obtain ⟨b, o, u, s, rfl, hbb, hu, hum, hus, c1, c2, c3⟩ := (hs.carry hbw (Nat.le_refl _)).get hlt
        obtain ⟨oa2, cap2, rfl, -⟩ := hus.form
        have hus2 := Tm.size_mem hum
        have htb := Tm.size_eq t
        have htk := Tm.take_snoc hu
        have HS := Lib.hid (show Tm.depths (t.ts.take (k+1)) = max (Tm.depths (t.ts.take k)) u.depth by rw [htk, depths_snoc])
        have hub2 : u.size ≤ 1048576 := by omega
        have IHu := fun W1 hb => Lib.hid (IH.out u hum _ W1 hub2 (hus.carry (B := W1) hb (by have := hb.size; omega)))
        clear htk htb hu
        go_wp2_with fail
        refine (IHu _ (by go_grown)).out.mono ?_
        rintro e w2 ⟨rfl, hb2⟩
        go_wp2_with fail
        exact ⟨⟨k + 1, by omega, by go_num, by rw [HS.out]; first | (congr 1; omega) | (simp; done) | (simp; omega), Below.trans (by go_grown) (hb2.mono (by simp; omega))⟩, by simp [intOf]; omega⟩
      · have HK : Hid (Tm.depths (t.ts.take k) = Tm.depths t.ts) := Lib.hid (by rw [List.take_of_length_le (by omega)])
        have hdk := HD.out k
        go_wp2_with fail
        go_ret
        exact ⟨ret_int (by rw [HE.out, HK.out]; omega), by go_grown⟩

end Go.Proofs.YtnomppdmhgefiaaGreat
/- The reference's Insert. -/
namespace Go.Proofs.YtnomppdmhgefiaaGreat
open Go.RowKit

end Go.Proofs.YtnomppdmhgefiaaGreat
