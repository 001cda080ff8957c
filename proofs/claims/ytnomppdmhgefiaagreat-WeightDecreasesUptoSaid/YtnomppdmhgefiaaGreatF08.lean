/- Packed: RChk, Wks. -/
import Derived.WalkKit
import Derived.ProofKit
import Derived.OpenShut
import Derived.Handy
import Derived.Lib.Hide
import Derived.Laws.Strings
import Derived.Laws.Strings2
import Derived.Test.YtnomppdmhgefiaaGreatF01
import Derived.Test.YtnomppdmhgefiaaGreatF03
import Derived.Test.YtnomppdmhgefiaaGreatF06
import Derived.Test.YtnomppdmhgefiaaGreatF04
/- The reference's tests of names. The reference's Check: what it lets by is a term of the chapter. -/
namespace Go.Proofs.YtnomppdmhgefiaaGreat
open Go.RowKit

set_option maxHeartbeats 1000000 in
theorem rletter_any (c : UInt8) (w : World) : Calls Tryz.prog 174 #[.int .u8 c.toNat] w fun e w' => e = .returned (.bool (okByte c)) ∧ w = w' := by
  have HY := Lib.hid (@okByte_yes c)
  have HN := Lib.hid (@okByte_no c)
  rcases byte_cases c.toNat with h | h | h | h | h | h | h | h | h | h | h
  all_goals
    have HC := Lib.hid h
    first
      | have e95 : ((c.toNat : Int) == 95) = true := by rw [beq_iff_eq]; omega
      | have e95 : ((c.toNat : Int) == 95) = false := by rw [beq_eq_false_iff_ne]; omega
    first
      | have e39 : ((c.toNat : Int) == 39) = true := by rw [beq_iff_eq]; omega
      | have e39 : ((c.toNat : Int) == 39) = false := by rw [beq_eq_false_iff_ne]; omega
    go_enter Tryz.func174, Tryz.ntmps174
    go_wp2_with fail
    go_ret
    exact ⟨ret_bool (by first | (rw [HY.out (by have := HC.out; omega)]; done) | (rw [HY.out (by have := HC.out; omega)]; simp; omega) | (rw [HN.out (by have := HC.out; omega)]; done) | (rw [HN.out (by have := HC.out; omega)]; simp; omega)), rfl⟩

set_option maxHeartbeats 1000000 in
theorem rletters_any (s : ByteArray) (w : World) (hs : s.size ≤ 1048576) :
    Calls Tryz.prog 111 #[.string s] w fun e w' => e = .returned (.bool (plain s)) ∧ w = w' := by
  go_enter Tryz.func111, Tryz.ntmps111
  go_wp2_with fail
  go_loop [3, 6] (fun _ i => ∃ k : Nat, k ≤ s.size ∧ i = .int .i64 k ∧ Hid ((s.data.toList.take k).all okByte = true)) (fun _ i => s.size - (intOf i).toNat)
  case atStart => exact ⟨0, by omega, rfl, Lib.hid rfl⟩
  case round =>
    obtain ⟨k, hk, rfl, HA⟩ := hrel
    by_cases hlt : k < s.size
    · have HG := Lib.hid (bytes_get hlt)
      cases hc : okByte (s[k]'hlt)
      · have HC := Lib.hid hc
        clear hc
        go_wp2_with (go_at_call 174; refine (rletter_any (s[k]'hlt) _).mono ?_; rintro e w' ⟨rfl, rfl⟩; rw [HC.out])
        go_ret
        exact ⟨ret_bool (by rw [plain, all_not HG.out HC.out]), rfl⟩
      · have HC := Lib.hid hc
        clear hc
        go_wp2_with (go_at_call 174; refine (rletter_any (s[k]'hlt) _).mono ?_; rintro e w' ⟨rfl, rfl⟩; rw [HC.out])
        exact ⟨⟨k + 1, by omega, by go_num, Lib.hid (by rw [all_snoc HG.out, HA.out, HC.out]; rfl)⟩, by simp [intOf]; omega⟩
    · obtain rfl : k = s.size := by omega
      go_wp2_with fail
      go_ret
      exact ⟨ret_bool (by have := HA.out; rw [← bytes_len, List.take_length] at this; rw [plain, this]), rfl⟩

def marked (s : ByteArray) : Bool := Lib.hasSuffix s.data.toList [35]
theorem marked_last {s : ByteArray} {n : Nat} (h : n < s.size) (hn : n = s.size - 1) : ((s[n].toNat : Int) == 35) = marked s := by
  subst hn
  have hl := bytes_len s
  unfold marked
  rw [← Lib.hasSuffix_of_drop]
  have hg := bytes_get h
  have hd : s.data.toList.drop (s.data.toList.length - [(35 : UInt8)].length) = [s[s.size - 1]] := by
    have h1 : s.data.toList.length - [(35 : UInt8)].length = s.size - 1 := by rw [hl]; rfl
    rw [h1, List.drop_eq_getElem_cons (by omega), List.drop_eq_nil_of_le (by omega)]
    rfl
  rw [hd, decide_eq_true (by rw [hl]; show 1 ≤ _; omega), Bool.true_and]
  by_cases e : s[s.size - 1] = 35
  · rw [e]; rfl
  · rw [show ([s[s.size - 1]] == [(35 : UInt8)]) = false by simpa using e, beq_eq_false_iff_ne]
    intro hh
    exact e (UInt8.toNat_inj.1 (by simpa using (show s[s.size - 1].toNat = 35 by omega)))
theorem str_empty {s : ByteArray} (h : 0 < s.size) : (s.toList == []) = false := by
  have hl := bytes_len s
  rw [Lib.toList_data]
  cases hd : s.data.toList with
  | nil => rw [hd] at hl; simp at hl; omega
  | cons a l => rfl
set_option maxHeartbeats 1000000 in
theorem rmarked_any (s : ByteArray) (w : World) (hs : s.size ≤ 1048576) :
    Calls Tryz.prog 110 #[.string s] w fun e w' => e = .returned (.bool (marked s)) ∧ w = w' := by
  by_cases h0 : s.size = 0
  · obtain rfl : s = ⟨#[]⟩ := by
      obtain ⟨d⟩ := s
      have : d = #[] := Array.size_eq_zero_iff.1 h0
      rw [this]
    go_enter Tryz.func110, Tryz.ntmps110
    go_wp2_with fail
    go_ret
    exact ⟨ret_bool (by decide), rfl⟩
  · have hlt : s.size - 1 < s.size := by omega
    have hne := str_empty (s := s) (by omega)
    have HM := Lib.hid (marked_last hlt rfl)
    go_enter Tryz.func110, Tryz.ntmps110
    go_wp2_with fail
    go_ret
    exact ⟨ret_bool HM.out, rfl⟩

set_option maxHeartbeats 1000000 in
theorem risName_not (s : ByteArray) (w : World) (hs : s.size ≤ 1048576) :
    Calls Tryz.prog 51 #[.string s, .bool false] w fun e w' => e = .returned (.bool (isName s false)) ∧ w = w' := by
  by_cases h24 : s.size ≤ 24
  · by_cases h0 : 0 < s.size
    · have HE := Lib.hid (isName_eq (s := s) (m := false) h0 h24 rfl)
      have hne := str_empty h0
      go_enter Tryz.func51, Tryz.ntmps51
      go_wp2_with (go_at_call 111; refine (rletters_any _ _ (by omega)).mono ?_; rintro e w' ⟨rfl, rfl⟩)
      go_ret
      exact ⟨ret_bool HE.out.symm, rfl⟩
    · obtain rfl : s = ⟨#[]⟩ := by
        obtain ⟨d⟩ := s
        have : d = #[] := Array.size_eq_zero_iff.1 (by have : d.size = ByteArray.size ⟨d⟩ := rfl; omega)
        rw [this]
      go_enter Tryz.func51, Tryz.ntmps51
      go_wp2_with fail
      go_ret
      exact ⟨ret_bool (by decide), rfl⟩
  · have HE := Lib.hid (isName_no (s := s) (m := false) (fun h => h24 h.2))
    go_enter Tryz.func51, Tryz.ntmps51
    go_wp2_with fail
    go_ret
    exact ⟨ret_bool HE.out.symm, rfl⟩
theorem base_marked {s : ByteArray} (h : marked s = true) : 0 < s.size ∧ baseOf s true = s.extract 0 (s.size - 1) ∧ (s.extract 0 (s.size - 1)).size = s.size - 1 := by
  have hl := bytes_len s
  have h0 : 0 < s.size := by
    refine Nat.pos_of_ne_zero fun e => ?_
    rw [e] at hl
    have : s.data.toList = [] := List.length_eq_zero_iff.1 hl
    unfold marked at h
    rw [this] at h
    exact absurd h (by decide)
  have hx : (s.extract 0 (s.size - 1)).data.toList = s.data.toList.take (s.size - 1) := by
    rw [← Lib.toList_data, Lib.extract_toList, List.drop_zero, Nat.sub_zero]
  refine ⟨h0, ?_, ?_⟩
  · unfold baseOf Lib.trimSuffix
    rw [if_pos rfl, if_pos (show Lib.hasSuffix s.data.toList [35] = true from h)]
    apply ByteArray.ext
    show (List.take _ _).toArray = _
    rw [← Array.toArray_toList (xs := (s.extract 0 (s.size - 1)).data), hx, hl]
    rfl
  · rw [← bytes_len, hx, List.length_take]; omega
theorem base_plain {s : ByteArray} (h : marked s = false) : baseOf s true = s := by
  unfold baseOf Lib.trimSuffix
  rw [if_pos rfl, if_neg (by unfold marked at h; rw [h]; decide)]
set_option maxHeartbeats 1000000 in
theorem risName_yes (s : ByteArray) (w : World) (hs : s.size ≤ 1048576) :
    Calls Tryz.prog 51 #[.string s, .bool true] w fun e w' => e = .returned (.bool (isName s true)) ∧ w = w' := by
  by_cases h24 : s.size ≤ 24
  · cases hm : marked s
    · have HB := Lib.hid (base_plain hm)
      have HM := Lib.hid hm
      clear hm
      by_cases h0 : 0 < s.size
      · have HE := Lib.hid (isName_eq (s := s) (m := true) (by rw [HB.out]; exact h0) h24 rfl)
        have hne := str_empty h0
        go_enter Tryz.func51, Tryz.ntmps51
        go_wp2_with (first | (go_at_call 111; refine (rletters_any _ _ (by omega)).mono ?_; rintro e w' ⟨rfl, rfl⟩) | (go_at_call 110; refine (rmarked_any _ _ hs).mono ?_; rintro e w' ⟨rfl, rfl⟩; rw [HM.out]))
        go_ret
        exact ⟨ret_bool (by rw [HE.out, HB.out]), rfl⟩
      · obtain rfl : s = ⟨#[]⟩ := by
          obtain ⟨d⟩ := s
          have : d = #[] := Array.size_eq_zero_iff.1 (by have : d.size = ByteArray.size ⟨d⟩ := rfl; omega)
          rw [this]
        go_enter Tryz.func51, Tryz.ntmps51
        go_wp2_with (go_at_call 110; refine (rmarked_any _ _ hs).mono ?_; rintro e w' ⟨rfl, rfl⟩; rw [HM.out])
        go_ret
        exact ⟨ret_bool (by decide), rfl⟩
    · obtain ⟨hp, hb, hz⟩ := base_marked hm
      have HB := Lib.hid hb
      have HM := Lib.hid hm
      have HZ := Lib.hid hz
      clear hm hb hz
      by_cases h0 : 0 < (s.extract 0 (s.size - 1)).size
      · have HE := Lib.hid (isName_eq (s := s) (m := true) (by rw [HB.out]; exact h0) h24 rfl)
        have hne := str_empty h0
        go_enter Tryz.func51, Tryz.ntmps51
        go_wp2_with (first | (go_at_call 111; refine (rletters_any _ _ (by have := HZ.out; omega)).mono ?_; rintro e w' ⟨rfl, rfl⟩) | (go_at_call 110; refine (rmarked_any _ _ hs).mono ?_; rintro e w' ⟨rfl, rfl⟩; rw [HM.out]))
        go_ret
        exact ⟨ret_bool (by rw [HE.out, HB.out]), rfl⟩
      · have HE := Lib.hid (isName_no (s := s) (m := true) (fun h => h0 (by have := h.1; rw [HB.out] at this; exact this)))
        have HX : Hid (s.extract 0 (s.size - 1) = ⟨#[]⟩) := Lib.hid (by
          apply ByteArray.ext
          exact Array.size_eq_zero_iff.1 (by have : (s.extract 0 (s.size - 1)).data.size = (s.extract 0 (s.size - 1)).size := rfl; omega))
        have hxe : (s.extract 0 (s.size - 1)).toList = [] := by rw [HX.out, Lib.toList_data]
        go_enter Tryz.func51, Tryz.ntmps51
        go_wp2_with (go_at_call 110; refine (rmarked_any _ _ hs).mono ?_; rintro e w' ⟨rfl, rfl⟩; rw [HM.out])
        go_ret
        exact ⟨ret_bool HE.out.symm, rfl⟩
  · have HE := Lib.hid (isName_no (s := s) (m := true) (fun h => h24 h.2))
    go_enter Tryz.func51, Tryz.ntmps51
    go_wp2_with fail
    go_ret
    exact ⟨ret_bool HE.out.symm, rfl⟩
theorem risName_any (s : ByteArray) (m : Bool) (w : World) (hs : s.size ≤ 1048576) :
    Calls Tryz.prog 51 #[.string s, .bool m] w fun e w' => e = .returned (.bool (isName s m)) ∧ w = w' := by
  cases m
  · exact risName_not s w hs
  · exact risName_yes s w hs
end Go.Proofs.YtnomppdmhgefiaaGreat
namespace Go.Proofs.YtnomppdmhgefiaaGreat
open Go.RowKit

theorem depths_snoc (l : List Tm) (u : Tm) : Tm.depths (l ++ [u]) = max (Tm.depths l) u.depth := by
  induction l with
  | nil => simp [Tm.depths]
  | cons x l ih => simp only [List.cons_append, Tm.depths, ih]; omega
theorem depths_le' (l : List Tm) (h : ∀ u ∈ l, u.depth ≤ u.size) : Tm.depths l ≤ Tm.sizes l := by
  induction l with
  | nil => simp [Tm.depths]
  | cons x l ih =>
    have h1 := h x (by simp)
    have h2 := ih fun u hu => h u (by simp [hu])
    simp only [Tm.depths, Tm.sizes]; omega
theorem Tm.depth_le (t : Tm) : t.depth ≤ t.size := by
  induction t using Tm.ind with
  | h t ih => rw [Tm.depth_eq, Tm.size_eq]; have := depths_le' t.ts ih; omega
theorem depths_le (l : List Tm) : Tm.depths l ≤ Tm.sizes l := depths_le' l fun u _ => u.depth_le
set_option maxHeartbeats 400000 in
theorem rdepth_any (t : Tm) : ∀ (s : Value) (w : World), t.bulk ≤ 1048576 → SlIs w.heap.size w t.ts s →
    Calls Tryz.prog 58 #[tmv t s] w fun e w' => e = .returned (.int .i64 t.depth) ∧ Below w.heap.size w w' := by
  induction t using Tm.ind with
  | h t ih =>
    intro s w hb hs
    obtain ⟨oa, cap, rfl, ha⟩ := hs.form
    have hsz := Tm.size_bulk t
    have hse := Tm.size_eq t
    have hde := Tm.depth_eq t
    have hl := Tm.length_sizes t.ts
    have hlen : t.ts.length ≤ 1048576 := by omega
    have IH := Lib.hid ih
    have HE := Lib.hid hde
    have HD : Hid (∀ k, Tm.depths (t.ts.take k) ≤ 1048576) := Lib.hid fun k => by
      have h1 := depths_le (t.ts.take k)
      have h2 := Tm.sizes_take t.ts k
      omega
    clear ih ha hse hde
    go_enter Tryz.func58, Tryz.ntmps58
    go_wp2_with fail
    go_loopw [3, 9] (fun n i wr => ∃ k : Nat, k ≤ t.ts.length ∧ i = .int .i64 k ∧ n = .int .i64 ((Tm.depths (t.ts.take k) : Nat) : Int) ∧ Below w.heap.size w wr) (fun _ i _ => t.ts.length - (intOf i).toNat)
    case atStart => exact ⟨0, by omega, rfl, rfl, by go_grown⟩
    case round =>
      obtain ⟨k, hk, rfl, rfl, hbw⟩ := hrel
      have hsz' := hbw.size
      by_cases hlt : k < t.ts.length
      · obtain ⟨b, o, u, s, rfl, hbb, hu, hum, hus, c1, c2, c3⟩ := (hs.carry hbw (Nat.le_refl _)).get hlt
        obtain ⟨oa2, cap2, rfl, -⟩ := hus.form
        have hub := Tm.bulk_mem hum
        have htb := Tm.bulk_eq t
        have htk := Tm.take_snoc hu
        have HS := Lib.hid (show Tm.depths (t.ts.take (k+1)) = max (Tm.depths (t.ts.take k)) u.depth by rw [htk, depths_snoc])
        have hub2 : u.bulk ≤ 1048576 := by omega
        have IHu := fun W1 hb => Lib.hid (IH.out u hum _ W1 hub2 (hus.carry (B := W1) hb (by have := hb.size; omega)))
        clear htk htb hu
        go_wp2_with fail
        refine (IHu _ (by go_grown)).out.mono ?_
        rintro e w2 ⟨rfl, hb2⟩
        go_wp2_with fail
        exact ⟨⟨k + 1, by omega, by go_num, by rw [HS.out]; first | (congr 1; omega) | (simp; done) | (simp; omega), Below.trans (by go_grown) (hb2.mono (by simp; omega))⟩, by simp [intOf]; omega⟩
      · have HK : Hid (Tm.depths (t.ts.take k) = Tm.depths t.ts) := Lib.hid (by rw [List.take_of_length_le (by omega)])
        have hdk := HD.out k
        go_wp2_with fail
        go_ret
        exact ⟨ret_int (by rw [HE.out, HK.out]; omega), by go_grown⟩

set_option maxHeartbeats 1000000 in
theorem rformed_iff (t : Tm) : ∀ (s : Value) (w : World), t.bulk ≤ 1048576 → SlIs w.heap.size w t.ts s →
    Calls Tryz.prog 56 #[tmv t s] w fun e w' => (∃ x : Bool, e = .returned (.bool x) ∧ (x = true ↔ t.formed)) ∧ Below w.heap.size w w' := by
  induction t using Tm.ind with
  | h t ih =>
    intro s w hb hs
    obtain ⟨oa, cap, rfl, ha⟩ := hs.form
    have htb := Tm.bulk_eq t
    have hsz := Tm.size_bulk t
    have hse := Tm.size_eq t
    have hl := Tm.length_sizes t.ts
    have hlen : t.ts.length ≤ 1048576 := by omega
    have hnm : t.nm.size ≤ 1048576 := by omega
    have IH := Lib.hid ih
    have HF := Lib.hid (Tm.formed_iff t)
    clear ih ha hse htb
    cases hv : t.vr
    · cases hi : isName t.nm true
      · have HI := Lib.hid hi
        have HNF : Hid (¬ t.formed) := Lib.hid fun h => by have := (HF.out.1 h).1; simp [nodeOk, hv, hi] at this
        clear hi
        go_enter Tryz.func56, Tryz.ntmps56
        go_wp2_with (go_at_call 51; refine (risName_any _ _ _ hnm).mono ?_; rintro e w' ⟨rfl, rfl⟩; rw [HI.out])
        go_ret
        exact ⟨⟨_, rfl, ⟨(fun h => by cases h), fun h => absurd h HNF.out⟩⟩, by go_grown⟩
      · have HI := Lib.hid hi
        have HV := Lib.hid hv
        clear hi
        by_cases h8 : t.ts.length ≤ 8
        · go_enter Tryz.func56, Tryz.ntmps56
          go_wp2_with (go_at_call 51; refine (risName_any _ _ _ hnm).mono ?_; rintro e w' ⟨rfl, rfl⟩; rw [HI.out])
          go_loopw [29] (fun i wr => ∃ k : Nat, k ≤ t.ts.length ∧ i = .int .i64 k ∧ Hid (∀ u ∈ t.ts.take k, u.formed) ∧ Below w.heap.size w wr) (fun i _ => t.ts.length - (intOf i).toNat)
          case atStart => exact ⟨0, by omega, rfl, Lib.hid (by simp), by go_grown⟩
          case round =>
            obtain ⟨k, hk, rfl, HFS, hbw⟩ := hrel
            have hsz' := hbw.size
            by_cases hlt : k < t.ts.length
            · obtain ⟨b, o, u, s, rfl, hbb, hu, hum, hus, c1, c2, c3⟩ := (hs.carry hbw (Nat.le_refl _)).get hlt
              obtain ⟨oa2, cap2, rfl, -⟩ := hus.form
              have hub := Tm.bulk_mem hum
              have htb := Tm.bulk_eq t
              have HTK := Lib.hid (Tm.take_snoc hu)
              have hub2 : u.bulk ≤ 1048576 := by omega
              have IHu := fun W1 hb => Lib.hid (IH.out u hum _ W1 hub2 (hus.carry (B := W1) hb (by have := hb.size; omega)))
              clear htb hu
              go_wp2_with fail
              refine (IHu _ (by go_grown)).out.mono ?_
              rintro e w2 ⟨⟨x, rfl, hx⟩, hb2⟩
              have HX := Lib.hid hx
              clear hx
              cases x
              · have HNF : Hid (¬ t.formed) := Lib.hid fun h => by have := HX.out.2 ((HF.out.1 h).2 u hum); cases this
                go_wp2_with fail
                go_ret
                exact ⟨⟨_, rfl, ⟨(fun h => by cases h), fun h => absurd h HNF.out⟩⟩, Below.trans (by go_grown) (hb2.mono (by simp; omega))⟩
              · go_wp2_with fail
                exact ⟨⟨k + 1, by omega, by go_num, Lib.hid (fun v hv => by
                  rw [HTK.out] at hv
                  rcases List.mem_append.1 hv with hv | hv
                  · exact HFS.out v hv
                  · obtain rfl := List.mem_singleton.1 hv
                    exact HX.out.1 (by first | rfl | trivial)), Below.trans (by go_grown) (hb2.mono (by simp; omega))⟩, by simp [intOf]; omega⟩
            · go_wp2_with fail
              go_ret
              exact ⟨⟨_, rfl, ⟨fun _ => HF.out.2 ⟨by rw [HV.out]; simp [nodeOk, HI.out, h8], fun u hu => HFS.out u (by rw [List.take_of_length_le (by omega)]; exact hu)⟩, fun _ => rfl⟩⟩, by go_grown⟩
        · have HNF : Hid (¬ t.formed) := Lib.hid fun h => by have := (HF.out.1 h).1; simp [nodeOk, hv, h8] at this
          go_enter Tryz.func56, Tryz.ntmps56
          go_wp2_with (go_at_call 51; refine (risName_any _ _ _ hnm).mono ?_; rintro e w' ⟨rfl, rfl⟩; rw [HI.out])
          go_ret
          exact ⟨⟨_, rfl, ⟨(fun h => by cases h), fun h => absurd h HNF.out⟩⟩, by go_grown⟩
    · cases hi : isName t.nm false
      · have HI := Lib.hid hi
        have HNF : Hid (¬ t.formed) := Lib.hid fun h => by have := (HF.out.1 h).1; simp [nodeOk, hv, hi] at this
        clear hi
        go_enter Tryz.func56, Tryz.ntmps56
        go_wp2_with (go_at_call 51; refine (risName_any _ _ _ hnm).mono ?_; rintro e w' ⟨rfl, rfl⟩; rw [HI.out])
        go_ret
        exact ⟨⟨_, rfl, ⟨(fun h => by cases h), fun h => absurd h HNF.out⟩⟩, by go_grown⟩
      · have HI := Lib.hid hi
        have HV := Lib.hid hv
        clear hi
        go_enter Tryz.func56, Tryz.ntmps56
        go_wp2_with (go_at_call 51; refine (risName_any _ _ _ hnm).mono ?_; rintro e w' ⟨rfl, rfl⟩; rw [HI.out])
        go_ret
        refine ⟨⟨_, rfl, ⟨fun h => HF.out.2 ?_, fun h => ?_⟩⟩, by go_grown⟩
        rotate_left
        · have h1 := (HF.out.1 h).1
          rw [HV.out] at h1
          have h0 : t.ts.length = 0 := by simp only [nodeOk, if_true, Bool.and_eq_true, beq_iff_eq] at h1; exact h1.2
          simp [h0]
        have h0 : t.ts = [] := List.length_eq_zero_iff.1 (by
          have h : ((t.ts.length : Int) == 0) = true := by simpa using h
          rw [beq_iff_eq] at h; omega)
        exact ⟨by rw [HV.out, h0]; simp [nodeOk, HI.out], fun u hu => by rw [h0] at hu; cases hu⟩

open Classical in
/-- the document's error of a term -/
noncomputable def chkC (t : Tm) : Int := if t.formed then if t.size ≤ 4000 ∧ t.depth ≤ 200 then 0 else 3 else 4
theorem chkC_form {t : Tm} (h : ¬ t.formed) : chkC t = 4 := by unfold chkC; rw [if_neg h]
theorem chkC_big {t : Tm} (h : t.formed) (k : ¬ (t.size ≤ 4000 ∧ t.depth ≤ 200)) : chkC t = 3 := by unfold chkC; rw [if_pos h, if_neg k]
theorem chkC_ok {t : Tm} (h : t.ok) : chkC t = 0 := by unfold chkC; rw [if_pos h.1, if_pos h.2]
theorem chkC_zero {t : Tm} : chkC t = 0 ↔ t.ok := by
  refine ⟨fun h => ?_, chkC_ok⟩
  by_cases h1 : t.formed
  · by_cases h2 : t.size ≤ 4000 ∧ t.depth ≤ 200
    · exact ⟨h1, h2⟩
    · rw [chkC_big h1 h2] at h; cases h
  · rw [chkC_form h1] at h; cases h
set_option maxHeartbeats 1000000 in
theorem rcheck_full (t : Tm) (s : Value) (w : World) (hs : SlIs w.heap.size w t.ts s) (hb : t.bulk ≤ 1048576) :
    Calls Tryz.prog 18 #[tmv t s] w fun e w' => e = .returned (.int .i64 (chkC t)) ∧ Below w.heap.size w w' := by
  obtain ⟨oa, cap, rfl, ha⟩ := hs.form
  have hsz := Tm.size_bulk t
  have hdz := t.depth_le
  have HS := Lib.hid hs
  clear hs ha
  go_enter Tryz.func18, Tryz.ntmps18
  go_wp2_with fail
  refine (rformed_iff t _ _ hb (HS.out.carry (by go_grown) (by simp))).mono ?_
  rintro e w1 ⟨⟨x, rfl, hx⟩, hb1⟩
  have hbx := (hb1.block w.heap.size (by simp)).trans (heap_new_at w (.cells #[.string t.nm, .bool t.vr, .slice oa t.ts.length cap] 25) w.heap.size rfl)
  have HW1 : Hid (Below w.heap.size w w1) := Lib.hid (Below.trans (by go_grown) (hb1.mono (by simp)))
  have HX := Lib.hid hx
  have HT1 := Lib.hid (show TBx w1 w.heap.size t (.slice oa t.ts.length cap) from ⟨hbx, HS.out.carry HW1.out HW1.out.size⟩)
  clear hx hb1 hbx
  cases x
  · go_wp2_with fail
    go_ret
    exact ⟨ret_int (chkC_form (fun h => by have := HX.out.2 h; cases this)).symm, HW1.out⟩
  · have HF := Lib.hid (HX.out.1 (by first | rfl | trivial))
    obtain ⟨⟨a0, a1, a2⟩, -⟩ := box3 HT1.out.box
    go_wp2_with fail
    clear a0 a1 a2
    refine (rsize_any t _ _ hb HT1.out.is).mono ?_
    rintro e w2 ⟨rfl, hb2⟩
    have HT2 := Lib.hid (HT1.out.carry hb2)
    have HW2 := Lib.hid (HW1.out.trans (hb2.mono HW1.out.size))
    clear hb2
    obtain ⟨⟨a0, a1, a2⟩, -⟩ := box3 HT2.out.box
    by_cases h4 : t.size ≤ 4000
    · go_wp2_with fail
      clear a0 a1 a2
      refine (rdepth_any t _ _ hb HT2.out.is).mono ?_
      rintro e w3 ⟨rfl, hb3⟩
      have HW3 := Lib.hid (HW2.out.trans (hb3.mono HW2.out.size))
      clear hb3
      by_cases h2 : t.depth ≤ 200
      · go_wp2_with fail
        go_ret
        exact ⟨ret_int (chkC_ok ⟨HF.out, h4, h2⟩).symm, HW3.out⟩
      · go_wp2_with fail
        go_ret
        exact ⟨ret_int (chkC_big HF.out (fun h => h2 h.2)).symm, HW3.out⟩
    · go_wp2_with fail
      go_ret
      exact ⟨ret_int (chkC_big HF.out (fun h => h4 h.1)).symm, HW2.out⟩
theorem rcheck_iff (t : Tm) (s : Value) (w : World) (hs : SlIs w.heap.size w t.ts s) (hb : t.bulk ≤ 1048576) :
    Calls Tryz.prog 18 #[tmv t s] w fun e w' => (∃ c : Int, e = .returned (.int .i64 c) ∧ (c = 0 ↔ t.ok)) ∧ Below w.heap.size w w' := (rcheck_full t s w hs hb).mono fun _ _ h => ⟨⟨_, h.1, chkC_zero⟩, h.2⟩
end Go.Proofs.YtnomppdmhgefiaaGreat
/- The reference's Size, Depth, Compare and Equal, with bounds on the size and on each name. -/
namespace Go.Proofs.YtnomppdmhgefiaaGreat
open Go.RowKit

/-- each name has at most 1048576 letters -/
inductive Tm.low : Tm → Prop
  | mk (t : Tm) : t.nm.size ≤ 1048576 → (∀ u ∈ t.ts, u.low) → t.low
theorem Tm.low.name {t : Tm} (h : t.low) : t.nm.size ≤ 1048576 := by cases h with | mk _ h1 _ => exact h1
theorem Tm.low.kids {t : Tm} (h : t.low) : ∀ u ∈ t.ts, u.low := by cases h with | mk _ _ h2 => exact h2
theorem Tm.low_of_bulk (t : Tm) : t.bulk ≤ 1048576 → t.low := by
  induction t using Tm.ind with
  | h t ih =>
    intro hb
    have he := Tm.bulk_eq t
    exact .mk t (by omega) fun u hu => ih u hu (by have := Tm.bulk_mem hu; omega)

set_option maxHeartbeats 400000 in
theorem rsize_sz (t : Tm) : ∀ (s : Value) (w : World), t.size ≤ 1048576 → SlIs w.heap.size w t.ts s →
    Calls Tryz.prog 57 #[tmv t s] w fun e w' => e = .returned (.int .i64 t.size) ∧ Below w.heap.size w w' := by
  induction t using Tm.ind with
  | h t ih =>
    intro s w hb hs
    obtain ⟨oa, cap, rfl, ha⟩ := hs.form
    have hse := Tm.size_eq t
    have hl := Tm.length_sizes t.ts
    have hlen : t.ts.length ≤ 1048576 := by omega
    have IH := Lib.hid ih
    have HE := Lib.hid hse
    clear ih ha hse
    go_enter Tryz.func57, Tryz.ntmps57
    go_wp2_with fail
    go_loopw [3, 9] (fun n i wr => ∃ k : Nat, k ≤ t.ts.length ∧ i = .int .i64 k ∧ n = .int .i64 ((1 + Tm.sizes (t.ts.take k) : Nat) : Int) ∧ Below w.heap.size w wr) (fun _ i _ => t.ts.length - (intOf i).toNat)
    case atStart => exact ⟨0, by omega, rfl, rfl, by go_grown⟩
    case round =>
      obtain ⟨k, hk, rfl, rfl, hbw⟩ := hrel
      have hsz' := hbw.size
      by_cases hlt : k < t.ts.length
      · obtain ⟨b, o, u, s, rfl, hbb, hu, hum, hus, c1, c2, c3⟩ := (hs.carry hbw (Nat.le_refl _)).get hlt
        obtain ⟨oa2, cap2, rfl, -⟩ := hus.form
        have hus' := Tm.size_mem hum
        have htk := Tm.take_snoc hu
        have hst := Tm.sizes_append (t.ts.take k) [u]
        have HS := Lib.hid (show Tm.sizes (t.ts.take (k+1)) = Tm.sizes (t.ts.take k) + u.size by rw [htk, hst]; simp [Tm.sizes])
        have hsk := Tm.sizes_take t.ts (k + 1)
        have hsk2 : Tm.sizes (t.ts.take k) + u.size ≤ 1048576 := by rw [← HS.out]; have := HE.out; omega
        have hub2 : u.size ≤ 1048576 := by omega
        have IHu := fun W1 hb => Lib.hid (IH.out u hum _ W1 hub2 (hus.carry (B := W1) hb (by have := hb.size; omega)))
        clear htk hst hu
        go_wp2_with fail
        refine (IHu _ (by go_grown)).out.mono ?_
        rintro e w2 ⟨rfl, hb2⟩
        go_wp2_with fail
        exact ⟨⟨k + 1, by omega, by go_num, by rw [HS.out]; go_num, Below.trans (by go_grown) (hb2.mono (by simp; omega))⟩, by simp [intOf]; omega⟩
      · go_wp2_with fail
        go_ret
        exact ⟨ret_int (by rw [HE.out, List.take_of_length_le (by omega)]), by go_grown⟩

set_option maxHeartbeats 400000 in
theorem rdepth_sz (t : Tm) : ∀ (s : Value) (w : World), t.size ≤ 1048576 → SlIs w.heap.size w t.ts s →
    Calls Tryz.prog 58 #[tmv t s] w fun e w' => e = .returned (.int .i64 t.depth) ∧ Below w.heap.size w w' := by
  induction t using Tm.ind with
  | h t ih =>
    intro s w hb hs
    obtain ⟨oa, cap, rfl, ha⟩ := hs.form
    have hse := Tm.size_eq t
    have hde := Tm.depth_eq t
    have hl := Tm.length_sizes t.ts
    have hlen : t.ts.length ≤ 1048576 := by omega
    have IH := Lib.hid ih
    have HE := Lib.hid hde
    have HD : Hid (∀ k, Tm.depths (t.ts.take k) ≤ 1048576) := Lib.hid fun k => by
      have h1 := depths_le (t.ts.take k)
      have h2 := Tm.sizes_take t.ts k
      omega
    clear ih ha hse hde
    go_enter Tryz.func58, Tryz.ntmps58
    go_wp2_with fail
    go_loopw [3, 9] (fun n i wr => ∃ k : Nat, k ≤ t.ts.length ∧ i = .int .i64 k ∧ n = .int .i64 ((Tm.depths (t.ts.take k) : Nat) : Int) ∧ Below w.heap.size w wr) (fun _ i _ => t.ts.length - (intOf i).toNat)
    case atStart => exact ⟨0, by omega, rfl, rfl, by go_grown⟩
    case round =>
      obtain ⟨k, hk, rfl, rfl, hbw⟩ := hrel
      have hsz' := hbw.size
      by_cases hlt : k < t.ts.length
      · obtain ⟨b, o, u, s, rfl, hbb, hu, hum, hus, c1, c2, c3⟩ := (hs.carry hbw (Nat.le_refl _)).get hlt
        obtain ⟨oa2, cap2, rfl, -⟩ := hus.form
        have hus2 := Tm.size_mem hum
        have htb := Tm.size_eq t
        have htk := Tm.take_snoc hu
        have HS := Lib.hid (show Tm.depths (t.ts.take (k+1)) = max (Tm.depths (t.ts.take k)) u.depth by rw [htk, depths_snoc])
        have hub2 : u.size ≤ 1048576 := by omega
        have IHu := fun W1 hb => Lib.hid (IH.out u hum _ W1 hub2 (hus.carry (B := W1) hb (by have := hb.size; omega)))
        clear htk htb hu
        go_wp2_with fail
        refine (IHu _ (by go_grown)).out.mono ?_
        rintro e w2 ⟨rfl, hb2⟩
        go_wp2_with fail
        exact ⟨⟨k + 1, by omega, by go_num, by rw [HS.out]; first | (congr 1; omega) | (simp; done) | (simp; omega), Below.trans (by go_grown) (hb2.mono (by simp; omega))⟩, by simp [intOf]; omega⟩
      · have HK : Hid (Tm.depths (t.ts.take k) = Tm.depths t.ts) := Lib.hid (by rw [List.take_of_length_le (by omega)])
        have hdk := HD.out k
        go_wp2_with fail
        go_ret
        exact ⟨ret_int (by rw [HE.out, HK.out]; omega), by go_grown⟩

set_option maxRecDepth 100000 in
set_option maxHeartbeats 4000000 in
theorem rcompare_low (a : Tm) : ∀ (b : Tm) (sa sb : Value) (w : World), a.low → b.low → a.size ≤ 1048576 → b.size ≤ 1048576 → SlIs w.heap.size w a.ts sa → SlIs w.heap.size w b.ts sb →
    Calls Tryz.prog 55 #[tmv a sa, tmv b sb] w fun e w' => (∃ c : Int, e = .returned (.int .i64 c) ∧ (c = 0 ↔ a = b)) ∧ Below w.heap.size w w' := by
  induction a using Tm.ind with
  | h a ih =>
    intro b sa sb w hba hbb hsza hszb hsa hsb
    obtain ⟨oa, ca, rfl, -⟩ := hsa.form
    obtain ⟨ob, cb, rfl, -⟩ := hsb.form
    have hea := Tm.size_eq a
    have heb := Tm.size_eq b
    have hla := Tm.length_sizes a.ts
    have hlb := Tm.length_sizes b.ts
    have hna : a.nm.size ≤ 1048576 := hba.name
    have hnb : b.nm.size ≤ 1048576 := hbb.name
    have hta : a.ts.length ≤ 1048576 := by omega
    have htb : b.ts.length ≤ 1048576 := by omega
    have HA := Lib.hid hea
    have HLA := Lib.hid hba
    have HLB := Lib.hid hbb
    have HB := Lib.hid heb
    have IH := Lib.hid ih
    clear hea heb ih hla hlb hba hbb
    by_cases hv : a.vr = b.vr
    · have HV := Lib.hid hv
      have hvv : (!a.vr == b.vr) = false := by rw [hv]; cases b.vr <;> rfl
      clear hv
      go_enter Tryz.func55, Tryz.ntmps55
      go_wp2_with fail
      refine (cmpNames_any _ _ _ hna hnb).mono ?_
      rintro e w1 ⟨⟨c1, rfl, hc1⟩, hb1⟩
      have HC1 := Lib.hid hc1
      have x0 := (hb1.cell (p := ⟨w.heap.size, 2, none⟩) (by simp; omega)).trans ((cell_old _ _ _ 2 (by simp)).trans (cell_at_new w _ _ 2))
      have x1 := (hb1.cell (p := ⟨w.heap.size + 1, 2, none⟩) (by simp)).trans (cell_new_at _ _ _ _ 2 (by simp))
      simp only [List.getElem?_toArray, List.getElem?_cons_zero, List.getElem?_cons_succ] at x0 x1
      have hz1 : w.heap.size + 2 ≤ w1.heap.size := by have := hb1.size; simpa using this
      have HB1 : Hid (Below w.heap.size w w1) := Lib.hid (Below.trans (by go_grown) (hb1.mono (by simp; omega)))
      clear hb1 hc1
      by_cases h1 : c1 = 0
      · subst h1
        go_wp2_with fail
        refine (cmpInts_any _ _ _).mono ?_
        rintro e w2 ⟨rfl, rfl⟩
        by_cases h2 : a.ts.length = b.ts.length
        · have h2' : ((a.ts.length : Int)) = (b.ts.length : Int) := by omega
          rw [show cmpi (a.ts.length : Int) (b.ts.length : Int) = 0 from (cmpi_zero _ _).2 h2']
          clear h2'
          go_wp2_with fail
          have H2 := Lib.hid h2
          go_loopw [7, 8, 37] (fun _ _ i wr => ∃ k : Nat, k ≤ b.ts.length ∧ i = .int .i64 k ∧ Hid (a.ts.take k = b.ts.take k) ∧ Below (w.heap.size + 2) w1 wr) (fun _ _ i _ => b.ts.length - (intOf i).toNat)
          case atStart => exact ⟨0, by omega, rfl, Lib.hid rfl, Below.refl _ _⟩
          case round =>
            obtain ⟨k, hk, rfl, HT, hbw⟩ := hrel
            have hbw2 : Below w.heap.size w wr := HB1.out.trans (hbw.mono (by omega))
            have hzw := hbw.size
            by_cases hlt : k < b.ts.length
            · obtain ⟨b1, o1, u, su, rfl, hbb1, hu, hum, hus, c1, c2, c3⟩ := (hsa.carry hbw2 (Nat.le_refl _)).get (k := k) (by omega)
              obtain ⟨b2, o2, v, sv, rfl, hbb2, hv, hvm, hvs, d1, d2, d3⟩ := (hsb.carry hbw2 (Nat.le_refl _)).get (k := k) (by omega)
              obtain ⟨ou, cu, rfl, -⟩ := hus.form
              obtain ⟨ov, cv, rfl, -⟩ := hvs.form
              have y0 := (hbw.cell (p := ⟨w.heap.size, 2, none⟩) (by simp)).trans x0
              have y1 := (hbw.cell (p := ⟨w.heap.size + 1, 2, none⟩) (by simp)).trans x1
              rw [H2.out] at y0
              have hbu : u.size ≤ 1048576 := by have := Tm.size_mem hum; have := HA.out; omega
              have hbv : v.size ≤ 1048576 := by have := Tm.size_mem hvm; have := HB.out; omega
              have HU := Lib.hid hu
              have HVV := Lib.hid hv
              have IHu := fun W1 (hW : Below w.heap.size wr W1) => Lib.hid (IH.out u hum v _ _ W1 (HLA.out.kids u hum) (HLB.out.kids v hvm) hbu hbv (hus.carry (B := W1) hW (by have := hW.size; omega)) (hvs.carry (B := W1) hW (by have := hW.size; omega)))
              clear hu hv h2
              go_wp2_with fail
              go_still_tail 10, (by kernel_rfl)
              go_wp2_with fail
              refine (IHu wr.drew (Below.refl _ wr).drew).out.mono ?_
              rintro e w9 ⟨⟨c9, rfl, hc9⟩, hb9⟩
              have HC9 := Lib.hid hc9
              have hbw9 : Below (w.heap.size + 2) w1 w9 := hbw.trans (((Below.refl _ wr).drew).trans (hb9.mono (by show _ ≤ wr.heap.size; omega)))
              have HB9 := Lib.hid hbw9
              clear hb9 hc9 hbw9 IHu
              by_cases h9 : c9 = 0
              · have HQ := Lib.hid (HC9.out.1 h9)
                subst h9
                go_wp2_with fail
                exact ⟨⟨k + 1, by omega, by go_num, Lib.hid (by rw [Tm.take_snoc HU.out, Tm.take_snoc HVV.out, HT.out, HQ.out]), HB9.out⟩, by simp [intOf]; omega⟩
              · have H9 := Lib.hid h9
                have h9' : (c9 != 0) = true := by rw [bne_iff_ne]; exact h9
                clear h9
                go_wp2_with fail
                go_ret
                refine ⟨⟨_, rfl, fun h => absurd h H9.out, fun h => absurd (HC9.out.2 ?_) H9.out⟩, HB1.out.trans (HB9.out.mono (by omega))⟩
                subst h
                exact Option.some.inj (HU.out.symm.trans HVV.out)
            · obtain rfl : k = b.ts.length := by omega
              go_wp2_with fail
              go_ret
              refine ⟨⟨_, rfl, fun _ => Tm.ext' (HC1.out.1 (by first | trivial | rfl)) HV.out ?_, fun _ => rfl⟩, hbw2⟩
              have h := HT.out
              rwa [List.take_of_length_le (Nat.le_refl _), List.take_of_length_le (by have := H2.out; omega)] at h
        · have h3 : ((cmpi (a.ts.length : Int) (b.ts.length : Int)) != 0) = true := by rw [bne_iff_ne]; intro e; have := (cmpi_zero _ _).1 e; omega
          have H3 : Hid (cmpi (a.ts.length : Int) (b.ts.length : Int) ≠ 0) := Lib.hid (by rw [← bne_iff_ne]; exact h3)
          have H2 := Lib.hid h2
          clear h2
          go_wp2_with fail
          go_ret
          exact ⟨⟨_, rfl, fun h => absurd h H3.out, fun h => absurd (by rw [h]) H2.out⟩, HB1.out⟩
      · have h1' : (c1 != 0) = true := by rw [bne_iff_ne]; exact h1
        have H1 := Lib.hid h1
        clear h1
        go_wp2_with fail
        go_ret
        exact ⟨⟨_, rfl, fun h => absurd h H1.out, fun h => absurd (HC1.out.2 (by rw [h])) H1.out⟩, HB1.out⟩
    · have HV := Lib.hid hv
      have hvv : (!a.vr == b.vr) = true := by revert hv; cases a.vr <;> cases b.vr <;> simp
      have HN : Hid (a ≠ b) := Lib.hid (fun e => hv (by rw [e]))
      clear hv
      go_enter Tryz.func55, Tryz.ntmps55
      go_wp2_with fail
      all_goals
        go_ret
        exact ⟨⟨_, rfl, fun h => by omega, fun h => absurd h HN.out⟩, by go_grown⟩

set_option maxRecDepth 100000 in
set_option maxHeartbeats 1000000 in
theorem requal_low (a b : Tm) (sa sb : Value) (w : World) (hla : a.low) (hlb : b.low) (hba : a.size ≤ 1048576) (hbb : b.size ≤ 1048576) (hsa : SlIs w.heap.size w a.ts sa) (hsb : SlIs w.heap.size w b.ts sb) :
    Calls Tryz.prog 16 #[tmv a sa, tmv b sb] w fun e w' => (∃ x : Bool, e = .returned (.bool x) ∧ (x = true ↔ a = b)) ∧ Below w.heap.size w w' := by
  have hG : Below w.heap.size w ((w.alloc (.cells #[.string a.nm, .bool a.vr, sa] 25)).alloc (.cells #[.string b.nm, .bool b.vr, sb] 25)) := by go_grown
  have HC := Lib.hid (rcompare_low a b sa sb _ hla hlb hba hbb (hsa.carry hG (by simp; omega)) (hsb.carry hG (by simp; omega)))
  have HG := Lib.hid hG
  clear hG
  obtain ⟨oa, ca, rfl, -⟩ := hsa.form
  obtain ⟨ob, cb, rfl, -⟩ := hsb.form
  clear hsa hsb
  go_enter Tryz.func16, Tryz.ntmps16
  go_wp2_with fail
  refine HC.out.mono ?_
  rintro e w1 ⟨⟨c, rfl, hc⟩, hb1⟩
  have HC1 := Lib.hid hc
  have HB := Lib.hid hb1
  clear hc hb1 HC
  go_wp2_with fail
  go_ret
  exact ⟨⟨_, rfl, by rw [beq_iff_eq]; exact HC1.out⟩, HG.out.trans (HB.out.mono (by simp; omega))⟩
end Go.Proofs.YtnomppdmhgefiaaGreat
/- The reference's Insert. -/
namespace Go.Proofs.YtnomppdmhgefiaaGreat
open Go.RowKit

end Go.Proofs.YtnomppdmhgefiaaGreat
