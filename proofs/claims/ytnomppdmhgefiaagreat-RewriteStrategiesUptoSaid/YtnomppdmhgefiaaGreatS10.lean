/- Packed: RChk, Rcs, Lpo, ApF, PutM, At. -/
import Derived.WalkKit
import Derived.ProofKit
import Derived.OpenShut
import Derived.Handy
import Derived.Lib.Hide
import Derived.Laws.Strings
import Derived.Laws.Strings2
import Derived.Test.YtnomppdmhgefiaaGreatS02
import Derived.Test.YtnomppdmhgefiaaGreatS04
import Derived.Test.YtnomppdmhgefiaaGreatS09
import Derived.Test.YtnomppdmhgefiaaGreatS05
import Derived.Test.YtnomppdmhgefiaaGreatS07
import Derived.Test.YtnomppdmhgefiaaGreatS08
/- The reference's tests of names. The reference's Check: what it lets by is a term of the chapter. -/
namespace Go.Proofs.YtnomppdmhgefiaaGreat
open Go.RowKit

set_option maxHeartbeats 1000000 in
theorem rletter_any (c : UInt8) (w : World) : Calls Tryz.prog 174 #[.int .u8 c.toNat] w fun e w' => e = .returned (.bool (okByte c)) ∧ w = w' := by
  have HY := Lib.hid (@okByte_yes c)
  have HN := Lib.hid (@okByte_no c)
  rcases byte_cases c.toNat with h | h | h | h | h | h | h | h | h | h | h
  all_goals
    have HC := Lib.hid h
    first
      | have e95 : ((c.toNat : Int) == 95) = true := by rw [beq_iff_eq]; omega
      | have e95 : ((c.toNat : Int) == 95) = false := by rw [beq_eq_false_iff_ne]; omega
    first
      | have e39 : ((c.toNat : Int) == 39) = true := by rw [beq_iff_eq]; omega
      | have e39 : ((c.toNat : Int) == 39) = false := by rw [beq_eq_false_iff_ne]; omega
    go_enter Tryz.func174, Tryz.ntmps174
    go_wp2_with fail
    go_ret
    exact ⟨ret_bool (by first | (rw [HY.out (by have := HC.out; omega)]; done) | (rw [HY.out (by have := HC.out; omega)]; simp; omega) | (rw [HN.out (by have := HC.out; omega)]; done) | (rw [HN.out (by have := HC.out; omega)]; simp; omega)), rfl⟩

set_option maxHeartbeats 1000000 in
theorem rletters_any (s : ByteArray) (w : World) (hs : s.size ≤ 1048576) :
    Calls Tryz.prog 111 #[.string s] w fun e w' => e = .returned (.bool (plain s)) ∧ w = w' := by
  go_enter Tryz.func111, Tryz.ntmps111
  go_wp2_with fail
  go_loop [3, 6] (fun _ i => ∃ k : Nat, k ≤ s.size ∧ i = .int .i64 k ∧ Hid ((s.data.toList.take k).all okByte = true)) (fun _ i => s.size - (intOf i).toNat)
  case atStart => exact ⟨0, by omega, rfl, Lib.hid rfl⟩
  case round =>
    obtain ⟨k, hk, rfl, HA⟩ := hrel
    by_cases hlt : k < s.size
    · have HG := Lib.hid (bytes_get hlt)
      cases hc : okByte (s[k]'hlt)
      · have HC := Lib.hid hc
        clear hc
        go_wp2_with (go_at_call 174; refine (rletter_any (s[k]'hlt) _).mono ?_; rintro e w' ⟨rfl, rfl⟩; rw [HC.out])
        go_ret
        exact ⟨ret_bool (by rw [plain, all_not HG.out HC.out]), rfl⟩
      · have HC := Lib.hid hc
        clear hc
        go_wp2_with (go_at_call 174; refine (rletter_any (s[k]'hlt) _).mono ?_; rintro e w' ⟨rfl, rfl⟩; rw [HC.out])
        exact ⟨⟨k + 1, by omega, by go_num, Lib.hid (by rw [all_snoc HG.out, HA.out, HC.out]; rfl)⟩, by simp [intOf]; omega⟩
    · obtain rfl : k = s.size := by omega
      go_wp2_with fail
      go_ret
      exact ⟨ret_bool (by have := HA.out; rw [← bytes_len, List.take_length] at this; rw [plain, this]), rfl⟩

def marked (s : ByteArray) : Bool := Lib.hasSuffix s.data.toList [35]
theorem marked_last {s : ByteArray} {n : Nat} (h : n < s.size) (hn : n = s.size - 1) : ((s[n].toNat : Int) == 35) = marked s := by
  subst hn
  have hl := bytes_len s
  unfold marked
  rw [← Lib.hasSuffix_of_drop]
  have hg := bytes_get h
  have hd : s.data.toList.drop (s.data.toList.length - [(35 : UInt8)].length) = [s[s.size - 1]] := by
    have h1 : s.data.toList.length - [(35 : UInt8)].length = s.size - 1 := by rw [hl]; rfl
    rw [h1, List.drop_eq_getElem_cons (by omega), List.drop_eq_nil_of_le (by omega)]
    rfl
  rw [hd, decide_eq_true (by rw [hl]; show 1 ≤ _; omega), Bool.true_and]
  by_cases e : s[s.size - 1] = 35
  · rw [e]; rfl
  · rw [show ([s[s.size - 1]] == [(35 : UInt8)]) = false by simpa using e, beq_eq_false_iff_ne]
    intro hh
    exact e (UInt8.toNat_inj.1 (by simpa using (show s[s.size - 1].toNat = 35 by omega)))
theorem str_empty {s : ByteArray} (h : 0 < s.size) : (s.toList == []) = false := by
  have hl := bytes_len s
  rw [Lib.toList_data]
  cases hd : s.data.toList with
  | nil => rw [hd] at hl; simp at hl; omega
  | cons a l => rfl
set_option maxHeartbeats 1000000 in
theorem rmarked_any (s : ByteArray) (w : World) (hs : s.size ≤ 1048576) :
    Calls Tryz.prog 110 #[.string s] w fun e w' => e = .returned (.bool (marked s)) ∧ w = w' := by
  by_cases h0 : s.size = 0
  · obtain rfl : s = ⟨#[]⟩ := by
      obtain ⟨d⟩ := s
      have : d = #[] := Array.size_eq_zero_iff.1 h0
      rw [this]
    go_enter Tryz.func110, Tryz.ntmps110
    go_wp2_with fail
    go_ret
    exact ⟨ret_bool (by decide), rfl⟩
  · have hlt : s.size - 1 < s.size := by omega
    have hne := str_empty (s := s) (by omega)
    have HM := Lib.hid (marked_last hlt rfl)
    go_enter Tryz.func110, Tryz.ntmps110
    go_wp2_with fail
    go_ret
    exact ⟨ret_bool HM.out, rfl⟩

set_option maxHeartbeats 1000000 in
theorem risName_not (s : ByteArray) (w : World) (hs : s.size ≤ 1048576) :
    Calls Tryz.prog 51 #[.string s, .bool false] w fun e w' => e = .returned (.bool (isName s false)) ∧ w = w' := by
  by_cases h24 : s.size ≤ 24
  · by_cases h0 : 0 < s.size
    · have HE := Lib.hid (isName_eq (s := s) (m := false) h0 h24 rfl)
      have hne := str_empty h0
      go_enter Tryz.func51, Tryz.ntmps51
      go_wp2_with (go_at_call 111; refine (rletters_any _ _ (by omega)).mono ?_; rintro e w' ⟨rfl, rfl⟩)
      go_ret
      exact ⟨ret_bool HE.out.symm, rfl⟩
    · obtain rfl : s = ⟨#[]⟩ := by
        obtain ⟨d⟩ := s
        have : d = #[] := Array.size_eq_zero_iff.1 (by have : d.size = ByteArray.size ⟨d⟩ := rfl; omega)
        rw [this]
      go_enter Tryz.func51, Tryz.ntmps51
      go_wp2_with fail
      go_ret
      exact ⟨ret_bool (by decide), rfl⟩
  · have HE := Lib.hid (isName_no (s := s) (m := false) (fun h => h24 h.2))
    go_enter Tryz.func51, Tryz.ntmps51
    go_wp2_with fail
    go_ret
    exact ⟨ret_bool HE.out.symm, rfl⟩
theorem base_marked {s : ByteArray} (h : marked s = true) : 0 < s.size ∧ baseOf s true = s.extract 0 (s.size - 1) ∧ (s.extract 0 (s.size - 1)).size = s.size - 1 := by
  have hl := bytes_len s
  have h0 : 0 < s.size := by
    refine Nat.pos_of_ne_zero fun e => ?_
    rw [e] at hl
    have : s.data.toList = [] := List.length_eq_zero_iff.1 hl
    unfold marked at h
    rw [this] at h
    exact absurd h (by decide)
  have hx : (s.extract 0 (s.size - 1)).data.toList = s.data.toList.take (s.size - 1) := by
    rw [← Lib.toList_data, Lib.extract_toList, List.drop_zero, Nat.sub_zero]
  refine ⟨h0, ?_, ?_⟩
  · unfold baseOf Lib.trimSuffix
    rw [if_pos rfl, if_pos (show Lib.hasSuffix s.data.toList [35] = true from h)]
    apply ByteArray.ext
    show (List.take _ _).toArray = _
    rw [← Array.toArray_toList (xs := (s.extract 0 (s.size - 1)).data), hx, hl]
    rfl
  · rw [← bytes_len, hx, List.length_take]; omega
theorem base_plain {s : ByteArray} (h : marked s = false) : baseOf s true = s := by
  unfold baseOf Lib.trimSuffix
  rw [if_pos rfl, if_neg (by unfold marked at h; rw [h]; decide)]
set_option maxHeartbeats 1000000 in
theorem risName_yes (s : ByteArray) (w : World) (hs : s.size ≤ 1048576) :
    Calls Tryz.prog 51 #[.string s, .bool true] w fun e w' => e = .returned (.bool (isName s true)) ∧ w = w' := by
  by_cases h24 : s.size ≤ 24
  · cases hm : marked s
    · have HB := Lib.hid (base_plain hm)
      have HM := Lib.hid hm
      clear hm
      by_cases h0 : 0 < s.size
      · have HE := Lib.hid (isName_eq (s := s) (m := true) (by rw [HB.out]; exact h0) h24 rfl)
        have hne := str_empty h0
        go_enter Tryz.func51, Tryz.ntmps51
        go_wp2_with (first | (go_at_call 111; refine (rletters_any _ _ (by omega)).mono ?_; rintro e w' ⟨rfl, rfl⟩) | (go_at_call 110; refine (rmarked_any _ _ hs).mono ?_; rintro e w' ⟨rfl, rfl⟩; rw [HM.out]))
        go_ret
        exact ⟨ret_bool (by rw [HE.out, HB.out]), rfl⟩
      · obtain rfl : s = ⟨#[]⟩ := by
          obtain ⟨d⟩ := s
          have : d = #[] := Array.size_eq_zero_iff.1 (by have : d.size = ByteArray.size ⟨d⟩ := rfl; omega)
          rw [this]
        go_enter Tryz.func51, Tryz.ntmps51
        go_wp2_with (go_at_call 110; refine (rmarked_any _ _ hs).mono ?_; rintro e w' ⟨rfl, rfl⟩; rw [HM.out])
        go_ret
        exact ⟨ret_bool (by decide), rfl⟩
    · obtain ⟨hp, hb, hz⟩ := base_marked hm
      have HB := Lib.hid hb
      have HM := Lib.hid hm
      have HZ := Lib.hid hz
      clear hm hb hz
      by_cases h0 : 0 < (s.extract 0 (s.size - 1)).size
      · have HE := Lib.hid (isName_eq (s := s) (m := true) (by rw [HB.out]; exact h0) h24 rfl)
        have hne := str_empty h0
        go_enter Tryz.func51, Tryz.ntmps51
        go_wp2_with (first | (go_at_call 111; refine (rletters_any _ _ (by have := HZ.out; omega)).mono ?_; rintro e w' ⟨rfl, rfl⟩) | (go_at_call 110; refine (rmarked_any _ _ hs).mono ?_; rintro e w' ⟨rfl, rfl⟩; rw [HM.out]))
        go_ret
        exact ⟨ret_bool (by rw [HE.out, HB.out]), rfl⟩
      · have HE := Lib.hid (isName_no (s := s) (m := true) (fun h => h0 (by have := h.1; rw [HB.out] at this; exact this)))
        have HX : Hid (s.extract 0 (s.size - 1) = ⟨#[]⟩) := Lib.hid (by
          apply ByteArray.ext
          exact Array.size_eq_zero_iff.1 (by have : (s.extract 0 (s.size - 1)).data.size = (s.extract 0 (s.size - 1)).size := rfl; omega))
        have hxe : (s.extract 0 (s.size - 1)).toList = [] := by rw [HX.out, Lib.toList_data]
        go_enter Tryz.func51, Tryz.ntmps51
        go_wp2_with (go_at_call 110; refine (rmarked_any _ _ hs).mono ?_; rintro e w' ⟨rfl, rfl⟩; rw [HM.out])
        go_ret
        exact ⟨ret_bool HE.out.symm, rfl⟩
  · have HE := Lib.hid (isName_no (s := s) (m := true) (fun h => h24 h.2))
    go_enter Tryz.func51, Tryz.ntmps51
    go_wp2_with fail
    go_ret
    exact ⟨ret_bool HE.out.symm, rfl⟩
theorem risName_any (s : ByteArray) (m : Bool) (w : World) (hs : s.size ≤ 1048576) :
    Calls Tryz.prog 51 #[.string s, .bool m] w fun e w' => e = .returned (.bool (isName s m)) ∧ w = w' := by
  cases m
  · exact risName_not s w hs
  · exact risName_yes s w hs
end Go.Proofs.YtnomppdmhgefiaaGreat
namespace Go.Proofs.YtnomppdmhgefiaaGreat
open Go.RowKit

theorem depths_snoc (l : List Tm) (u : Tm) : Tm.depths (l ++ [u]) = max (Tm.depths l) u.depth := by
  induction l with
  | nil => simp [Tm.depths]
  | cons x l ih => simp only [List.cons_append, Tm.depths, ih]; omega
theorem depths_le' (l : List Tm) (h : ∀ u ∈ l, u.depth ≤ u.size) : Tm.depths l ≤ Tm.sizes l := by
  induction l with
  | nil => simp [Tm.depths]
  | cons x l ih =>
    have h1 := h x (by simp)
    have h2 := ih fun u hu => h u (by simp [hu])
    simp only [Tm.depths, Tm.sizes]; omega
theorem Tm.depth_le (t : Tm) : t.depth ≤ t.size := by
  induction t using Tm.ind with
  | h t ih => rw [Tm.depth_eq, Tm.size_eq]; have := depths_le' t.ts ih; omega
theorem depths_le (l : List Tm) : Tm.depths l ≤ Tm.sizes l := depths_le' l fun u _ => u.depth_le
set_option maxHeartbeats 400000 in
theorem rdepth_any (t : Tm) : ∀ (s : Value) (w : World), t.bulk ≤ 1048576 → SlIs w.heap.size w t.ts s →
    Calls Tryz.prog 58 #[tmv t s] w fun e w' => e = .returned (.int .i64 t.depth) ∧ Below w.heap.size w w' := by
  induction t using Tm.ind with
  | h t ih =>
    intro s w hb hs
    obtain ⟨oa, cap, rfl, ha⟩ := hs.form
    have hsz := Tm.size_bulk t
    have hse := Tm.size_eq t
    have hde := Tm.depth_eq t
    have hl := Tm.length_sizes t.ts
    have hlen : t.ts.length ≤ 1048576 := by omega
    have IH := Lib.hid ih
    have HE := Lib.hid hde
    have HD : Hid (∀ k, Tm.depths (t.ts.take k) ≤ 1048576) := Lib.hid fun k => by
      have h1 := depths_le (t.ts.take k)
      have h2 := Tm.sizes_take t.ts k
      omega
    clear ih ha hse hde
    go_enter Tryz.func58, Tryz.ntmps58
    go_wp2_with fail
    go_loopw [3, 9] (fun n i wr => ∃ k : Nat, k ≤ t.ts.length ∧ i = .int .i64 k ∧ n = .int .i64 ((Tm.depths (t.ts.take k) : Nat) : Int) ∧ Below w.heap.size w wr) (fun _ i _ => t.ts.length - (intOf i).toNat)
    case atStart => exact ⟨0, by omega, rfl, rfl, by go_grown⟩
    case round =>
      obtain ⟨k, hk, rfl, rfl, hbw⟩ := hrel
      have hsz' := hbw.size
      by_cases hlt : k < t.ts.length
      · obtain ⟨b, o, u, s, rfl, hbb, hu, hum, hus, c1, c2, c3⟩ := (hs.carry hbw (Nat.le_refl _)).get hlt
        obtain ⟨oa2, cap2, rfl, -⟩ := hus.form
        have hub := Tm.bulk_mem hum
        have htb := Tm.bulk_eq t
        have htk := Tm.take_snoc hu
        have HS := Lib.hid (show Tm.depths (t.ts.take (k+1)) = max (Tm.depths (t.ts.take k)) u.depth by rw [htk, depths_snoc])
        have hub2 : u.bulk ≤ 1048576 := by omega
        have IHu := fun W1 hb => Lib.hid (IH.out u hum _ W1 hub2 (hus.carry (B := W1) hb (by have := hb.size; omega)))
        clear htk htb hu
        go_wp2_with fail
        refine (IHu _ (by go_grown)).out.mono ?_
        rintro e w2 ⟨rfl, hb2⟩
        go_wp2_with fail
        exact ⟨⟨k + 1, by omega, by go_num, by rw [HS.out]; first | (congr 1; omega) | (simp; done) | (simp; omega), Below.trans (by go_grown) (hb2.mono (by simp; omega))⟩, by simp [intOf]; omega⟩
      · have HK : Hid (Tm.depths (t.ts.take k) = Tm.depths t.ts) := Lib.hid (by rw [List.take_of_length_le (by omega)])
        have hdk := HD.out k
        go_wp2_with fail
        go_ret
        exact ⟨ret_int (by rw [HE.out, HK.out]; omega), by go_grown⟩

set_option maxHeartbeats 1000000 in
theorem rformed_iff (t : Tm) : ∀ (s : Value) (w : World), t.bulk ≤ 1048576 → SlIs w.heap.size w t.ts s →
    Calls Tryz.prog 56 #[tmv t s] w fun e w' => (∃ x : Bool, e = .returned (.bool x) ∧ (x = true ↔ t.formed)) ∧ Below w.heap.size w w' := by
  induction t using Tm.ind with
  | h t ih =>
    intro s w hb hs
    obtain ⟨oa, cap, rfl, ha⟩ := hs.form
    have htb := Tm.bulk_eq t
    have hsz := Tm.size_bulk t
    have hse := Tm.size_eq t
    have hl := Tm.length_sizes t.ts
    have hlen : t.ts.length ≤ 1048576 := by omega
    have hnm : t.nm.size ≤ 1048576 := by omega
    have IH := Lib.hid ih
    have HF := Lib.hid (Tm.formed_iff t)
    clear ih ha hse htb
    cases hv : t.vr
    · cases hi : isName t.nm true
      · have HI := Lib.hid hi
        have HNF : Hid (¬ t.formed) := Lib.hid fun h => by have := (HF.out.1 h).1; simp [nodeOk, hv, hi] at this
        clear hi
        go_enter Tryz.func56, Tryz.ntmps56
        go_wp2_with (go_at_call 51; refine (risName_any _ _ _ hnm).mono ?_; rintro e w' ⟨rfl, rfl⟩; rw [HI.out])
        go_ret
        exact ⟨⟨_, rfl, ⟨(fun h => by cases h), fun h => absurd h HNF.out⟩⟩, by go_grown⟩
      · have HI := Lib.hid hi
        have HV := Lib.hid hv
        clear hi
        by_cases h8 : t.ts.length ≤ 8
        · go_enter Tryz.func56, Tryz.ntmps56
          go_wp2_with (go_at_call 51; refine (risName_any _ _ _ hnm).mono ?_; rintro e w' ⟨rfl, rfl⟩; rw [HI.out])
          go_loopw [29] (fun i wr => ∃ k : Nat, k ≤ t.ts.length ∧ i = .int .i64 k ∧ Hid (∀ u ∈ t.ts.take k, u.formed) ∧ Below w.heap.size w wr) (fun i _ => t.ts.length - (intOf i).toNat)
          case atStart => exact ⟨0, by omega, rfl, Lib.hid (by simp), by go_grown⟩
          case round =>
            obtain ⟨k, hk, rfl, HFS, hbw⟩ := hrel
            have hsz' := hbw.size
            by_cases hlt : k < t.ts.length
            · obtain ⟨b, o, u, s, rfl, hbb, hu, hum, hus, c1, c2, c3⟩ := (hs.carry hbw (Nat.le_refl _)).get hlt
              obtain ⟨oa2, cap2, rfl, -⟩ := hus.form
              have hub := Tm.bulk_mem hum
              have htb := Tm.bulk_eq t
              have HTK := Lib.hid (Tm.take_snoc hu)
              have hub2 : u.bulk ≤ 1048576 := by omega
              have IHu := fun W1 hb => Lib.hid (IH.out u hum _ W1 hub2 (hus.carry (B := W1) hb (by have := hb.size; omega)))
              clear htb hu
              go_wp2_with fail
              refine (IHu _ (by go_grown)).out.mono ?_
              rintro e w2 ⟨⟨x, rfl, hx⟩, hb2⟩
              have HX := Lib.hid hx
              clear hx
              cases x
              · have HNF : Hid (¬ t.formed) := Lib.hid fun h => by have := HX.out.2 ((HF.out.1 h).2 u hum); cases this
                go_wp2_with fail
                go_ret
                exact ⟨⟨_, rfl, ⟨(fun h => by cases h), fun h => absurd h HNF.out⟩⟩, Below.trans (by go_grown) (hb2.mono (by simp; omega))⟩
              · go_wp2_with fail
                exact ⟨⟨k + 1, by omega, by go_num, Lib.hid (fun v hv => by
                  rw [HTK.out] at hv
                  rcases List.mem_append.1 hv with hv | hv
                  · exact HFS.out v hv
                  · obtain rfl := List.mem_singleton.1 hv
                    exact HX.out.1 (by first | rfl | trivial)), Below.trans (by go_grown) (hb2.mono (by simp; omega))⟩, by simp [intOf]; omega⟩
            · go_wp2_with fail
              go_ret
              exact ⟨⟨_, rfl, ⟨fun _ => HF.out.2 ⟨by rw [HV.out]; simp [nodeOk, HI.out, h8], fun u hu => HFS.out u (by rw [List.take_of_length_le (by omega)]; exact hu)⟩, fun _ => rfl⟩⟩, by go_grown⟩
        · have HNF : Hid (¬ t.formed) := Lib.hid fun h => by have := (HF.out.1 h).1; simp [nodeOk, hv, h8] at this
          go_enter Tryz.func56, Tryz.ntmps56
          go_wp2_with (go_at_call 51; refine (risName_any _ _ _ hnm).mono ?_; rintro e w' ⟨rfl, rfl⟩; rw [HI.out])
          go_ret
          exact ⟨⟨_, rfl, ⟨(fun h => by cases h), fun h => absurd h HNF.out⟩⟩, by go_grown⟩
    · cases hi : isName t.nm false
      · have HI := Lib.hid hi
        have HNF : Hid (¬ t.formed) := Lib.hid fun h => by have := (HF.out.1 h).1; simp [nodeOk, hv, hi] at this
        clear hi
        go_enter Tryz.func56, Tryz.ntmps56
        go_wp2_with (go_at_call 51; refine (risName_any _ _ _ hnm).mono ?_; rintro e w' ⟨rfl, rfl⟩; rw [HI.out])
        go_ret
        exact ⟨⟨_, rfl, ⟨(fun h => by cases h), fun h => absurd h HNF.out⟩⟩, by go_grown⟩
      · have HI := Lib.hid hi
        have HV := Lib.hid hv
        clear hi
        go_enter Tryz.func56, Tryz.ntmps56
        go_wp2_with (go_at_call 51; refine (risName_any _ _ _ hnm).mono ?_; rintro e w' ⟨rfl, rfl⟩; rw [HI.out])
        go_ret
        refine ⟨⟨_, rfl, ⟨fun h => HF.out.2 ?_, fun h => ?_⟩⟩, by go_grown⟩
        rotate_left
        · have h1 := (HF.out.1 h).1
          rw [HV.out] at h1
          have h0 : t.ts.length = 0 := by simp only [nodeOk, if_true, Bool.and_eq_true, beq_iff_eq] at h1; exact h1.2
          simp [h0]
        have h0 : t.ts = [] := List.length_eq_zero_iff.1 (by
          have h : ((t.ts.length : Int) == 0) = true := by simpa using h
          rw [beq_iff_eq] at h; omega)
        exact ⟨by rw [HV.out, h0]; simp [nodeOk, HI.out], fun u hu => by rw [h0] at hu; cases hu⟩

open Classical in
/-- the document's error of a term -/
noncomputable def chkC (t : Tm) : Int := if t.formed then if t.size ≤ 4000 ∧ t.depth ≤ 200 then 0 else 3 else 4
theorem chkC_form {t : Tm} (h : ¬ t.formed) : chkC t = 4 := by unfold chkC; rw [if_neg h]
theorem chkC_big {t : Tm} (h : t.formed) (k : ¬ (t.size ≤ 4000 ∧ t.depth ≤ 200)) : chkC t = 3 := by unfold chkC; rw [if_pos h, if_neg k]
theorem chkC_ok {t : Tm} (h : t.ok) : chkC t = 0 := by unfold chkC; rw [if_pos h.1, if_pos h.2]
theorem chkC_zero {t : Tm} : chkC t = 0 ↔ t.ok := by
  refine ⟨fun h => ?_, chkC_ok⟩
  by_cases h1 : t.formed
  · by_cases h2 : t.size ≤ 4000 ∧ t.depth ≤ 200
    · exact ⟨h1, h2⟩
    · rw [chkC_big h1 h2] at h; cases h
  · rw [chkC_form h1] at h; cases h
set_option maxHeartbeats 1000000 in
theorem rcheck_full (t : Tm) (s : Value) (w : World) (hs : SlIs w.heap.size w t.ts s) (hb : t.bulk ≤ 1048576) :
    Calls Tryz.prog 18 #[tmv t s] w fun e w' => e = .returned (.int .i64 (chkC t)) ∧ Below w.heap.size w w' := by
  obtain ⟨oa, cap, rfl, ha⟩ := hs.form
  have hsz := Tm.size_bulk t
  have hdz := t.depth_le
  have HS := Lib.hid hs
  clear hs ha
  go_enter Tryz.func18, Tryz.ntmps18
  go_wp2_with fail
  refine (rformed_iff t _ _ hb (HS.out.carry (by go_grown) (by simp))).mono ?_
  rintro e w1 ⟨⟨x, rfl, hx⟩, hb1⟩
  have hbx := (hb1.block w.heap.size (by simp)).trans (heap_new_at w (.cells #[.string t.nm, .bool t.vr, .slice oa t.ts.length cap] 25) w.heap.size rfl)
  have HW1 : Hid (Below w.heap.size w w1) := Lib.hid (Below.trans (by go_grown) (hb1.mono (by simp)))
  have HX := Lib.hid hx
  have HT1 := Lib.hid (show TBx w1 w.heap.size t (.slice oa t.ts.length cap) from ⟨hbx, HS.out.carry HW1.out HW1.out.size⟩)
  clear hx hb1 hbx
  cases x
  · go_wp2_with fail
    go_ret
    exact ⟨ret_int (chkC_form (fun h => by have := HX.out.2 h; cases this)).symm, HW1.out⟩
  · have HF := Lib.hid (HX.out.1 (by first | rfl | trivial))
    obtain ⟨⟨a0, a1, a2⟩, -⟩ := box3 HT1.out.box
    go_wp2_with fail
    clear a0 a1 a2
    refine (rsize_any t _ _ hb HT1.out.is).mono ?_
    rintro e w2 ⟨rfl, hb2⟩
    have HT2 := Lib.hid (HT1.out.carry hb2)
    have HW2 := Lib.hid (HW1.out.trans (hb2.mono HW1.out.size))
    clear hb2
    obtain ⟨⟨a0, a1, a2⟩, -⟩ := box3 HT2.out.box
    by_cases h4 : t.size ≤ 4000
    · go_wp2_with fail
      clear a0 a1 a2
      refine (rdepth_any t _ _ hb HT2.out.is).mono ?_
      rintro e w3 ⟨rfl, hb3⟩
      have HW3 := Lib.hid (HW2.out.trans (hb3.mono HW2.out.size))
      clear hb3
      by_cases h2 : t.depth ≤ 200
      · go_wp2_with fail
        go_ret
        exact ⟨ret_int (chkC_ok ⟨HF.out, h4, h2⟩).symm, HW3.out⟩
      · go_wp2_with fail
        go_ret
        exact ⟨ret_int (chkC_big HF.out (fun h => h2 h.2)).symm, HW3.out⟩
    · go_wp2_with fail
      go_ret
      exact ⟨ret_int (chkC_big HF.out (fun h => h4 h.1)).symm, HW2.out⟩
theorem rcheck_iff (t : Tm) (s : Value) (w : World) (hs : SlIs w.heap.size w t.ts s) (hb : t.bulk ≤ 1048576) :
    Calls Tryz.prog 18 #[tmv t s] w fun e w' => (∃ c : Int, e = .returned (.int .i64 c) ∧ (c = 0 ↔ t.ok)) ∧ Below w.heap.size w w' := (rcheck_full t s w hs hb).mono fun _ _ h => ⟨⟨_, h.1, chkC_zero⟩, h.2⟩
end Go.Proofs.YtnomppdmhgefiaaGreat
/- The reference's CompareNames draws only; CheckSubst of the reference. -/
namespace Go.Proofs.YtnomppdmhgefiaaGreat
open Go.RowKit

def cmpN (a b : ByteArray) : Int := if a = b then 0 else if a.data.toList < b.data.toList then -1 else 1
theorem cmpN_is {a b : ByteArray} {x y : Int} (h1 : cmpi x y = 0 ↔ a = b) (h2 : cmpi x y < 0 ↔ a.data.toList < b.data.toList) : cmpi x y = cmpN a b := by
  unfold cmpN
  by_cases e : a = b
  · rw [if_pos e]; exact h1.2 e
  · rw [if_neg e]
    have h0 : cmpi x y ≠ 0 := fun h => e (h1.1 h)
    by_cases l : a.data.toList < b.data.toList
    · rw [if_pos l]; have := h2.2 l; unfold cmpi at *; split <;> simp_all <;> omega
    · rw [if_neg l]; have : ¬ cmpi x y < 0 := fun h => l (h2.1 h); unfold cmpi at *; split <;> simp_all <;> omega
theorem drew_more {w v : World} (h : ∃ m, v = w.drewN m) (n : Nat) : ∃ m, v.drewN n = w.drewN m := by
  obtain ⟨m, rfl⟩ := h
  exact ⟨m + n, by rw [World.drewN_drewN]⟩
set_option maxHeartbeats 1000000 in
theorem cmpNames_quiet (a b : ByteArray) (w : World) (ha : a.size ≤ 1048576) (hb : b.size ≤ 1048576) :
    Calls Tryz.prog 52 #[.string a, .string b] w fun e w' => e = .returned (.int .i64 (cmpN a b)) ∧ ∃ m, w' = w.drewN m := by
  go_enter Tryz.func52, Tryz.ntmps52
  go_wp2_with fail
  go_loopw [5, 11] (fun _ i wr => ∃ k : Nat, k ≤ a.size ∧ k ≤ b.size ∧ i = .int .i64 k ∧ Hid (∀ j, j < k → a.data.toList[j]? = b.data.toList[j]?) ∧ Hid (∃ m, wr = w.drewN m)) (fun _ i _ => a.size - (intOf i).toNat)
  case atStart => exact ⟨0, by omega, by omega, rfl, Lib.hid (fun j h => absurd h (by omega)), Lib.hid ⟨0, rfl⟩⟩
  case round =>
    obtain ⟨k, hka, hkb, rfl, HE, hbw⟩ := hrel
    by_cases hlt : k < a.size ∧ k < b.size
    · obtain ⟨h1, h2⟩ := hlt
      have GA := Lib.hid (bytes_get h1)
      have GB := Lib.hid (bytes_get h2)
      by_cases hq : a[k].toNat = b[k].toNat
      · have HQ : Hid (a[k] = b[k]) := Lib.hid (UInt8.toNat_inj.1 hq)
        have hbb : (((a[k]'h1).toNat : Int) != ((b[k]'h2).toNat : Int)) = false := by rw [bne_eq_false_iff_eq]; omega
        clear hq
        go_wp2_with fail
        go_quiet (fail)
        go_wp2_with fail
        exact ⟨⟨k + 1, by omega, by omega, by go_num, Lib.hid (fun j hj => by
          by_cases e : j = k
          · subst e; rw [GA.out, GB.out, HQ.out]
          · exact HE.out j (by omega)), Lib.hid (drew_more hbw.out nq)⟩, by simp [intOf]; omega⟩
      · have HQ : Hid (a ≠ b) := Lib.hid (fun e => hq (by subst e; rfl))
        have HLT : Hid (cmpi ((a[k]'h1).toNat : Int) ((b[k]'h2).toNat : Int) < 0 ↔ a.data.toList < b.data.toList) := Lib.hid (by
          rw [cmpi_neg, lt_split HE.out GA.out GB.out (fun e => hq (by rw [e])), UInt8.lt_iff_toNat_lt]; omega)
        have HZ : Hid (cmpi ((a[k]'h1).toNat : Int) ((b[k]'h2).toNat : Int) ≠ 0) := Lib.hid (fun e => hq (by have := (cmpi_zero _ _).1 e; omega))
        have hbb : (((a[k]'h1).toNat : Int) != ((b[k]'h2).toNat : Int)) = true := by rw [bne_iff_ne]; omega
        clear hq
        go_wp2_with fail
        go_quiet (fail)
        go_wp2_with fail
        have hbq := Lib.hid (drew_more hbw.out nq)
        generalize wr.drewN nq = wq at hbq ⊢
        have hla := UInt8.toNat_lt (a[k]'h1)
        have hlb := UInt8.toNat_lt (b[k]'h2)
        have hwa : IntKind.i64.wrap ((a[k]'h1).toNat : Int) = ((a[k]'h1).toNat : Int) := IntWalk.i64_in _ (by omega)
        have hwb : IntKind.i64.wrap ((b[k]'h2).toNat : Int) = ((b[k]'h2).toNat : Int) := IntWalk.i64_in _ (by omega)
        go_quiet ((go_at_call 112; exact Calls.quiet_of_same ((cmpInts_any _ _ _).mono fun _ _ h => ⟨h.1, h.2.symm⟩)))
        go_wp2_with fail
        go_ret
        exact ⟨congrArg (fun c => Ending.returned (.int .i64 c)) (cmpN_is ⟨fun h => absurd h HZ.out, fun h => absurd h HQ.out⟩ HLT.out), drew_more hbq.out _⟩
    · go_wp2_with fail
      refine (cmpInts_any _ _ _).mono ?_
      rintro e w2 ⟨rfl, rfl⟩
      go_wp2_with fail
      go_ret
      refine ⟨congrArg (fun c => Ending.returned (.int .i64 c)) (cmpN_is ⟨fun h => ?_, fun h => ?_⟩ ?_), hbw.out⟩
      · have := (cmpi_zero _ _).1 h
        exact names_eq (by omega) (fun j hj => HE.out j (by omega))
      · subst h; exact (cmpi_zero _ _).2 rfl
      · rw [cmpi_neg, lt_end HE.out (by rw [bytes_len]; omega) (by rw [bytes_len]; omega) (by rw [bytes_len, bytes_len]; omega), bytes_len, bytes_len]; omega
end Go.Proofs.YtnomppdmhgefiaaGreat
/- The lexicographic path order of terms: plain mathematics. No program stands here. -/
namespace Go.Proofs.YtnomppdmhgefiaaGreat
open Go.RowKit

/-- s is greater than t; rk: the rank of a name -/
inductive Lpo (rk : ByteArray → Int) : Tm → Tm → Prop
  | arg (s t : Tm) : s.vr = false → t ∈ s.ts → Lpo rk s t
  | sub (s t a : Tm) : s.vr = false → a ∈ s.ts → Lpo rk a t → Lpo rk s t
  | top (s t : Tm) : s.vr = false → t.vr = false → rk t.nm < rk s.nm → (∀ b ∈ t.ts, Lpo rk s b) → Lpo rk s t
  | lex (s t : Tm) (i : Nat) (a b : Tm) : s.vr = false → t.vr = false → s.nm = t.nm → s.ts.length = t.ts.length → (∀ b ∈ t.ts, Lpo rk s b) → s.ts[i]? = some a → t.ts[i]? = some b → s.ts.take i = t.ts.take i → Lpo rk a b → Lpo rk s t
section
variable {rk : ByteArray → Int}
theorem Lpo.fun {s t : Tm} (h : Lpo rk s t) : s.vr = false := by cases h <;> assumption
theorem mem_size {t u : Tm} (h : u ∈ t.ts) : u.size < t.size := by rw [Tm.size_eq t]; have := Tm.size_mem h; omega
/-- the ways in which a term is greater, not by an argument -/
theorem Lpo.cases' {s t : Tm} (h : Lpo rk s t) : (∃ a ∈ s.ts, a = t ∨ Lpo rk a t) ∨ (t.vr = false ∧ (∀ b ∈ t.ts, Lpo rk s b) ∧ (rk t.nm < rk s.nm ∨ (s.nm = t.nm ∧ s.ts.length = t.ts.length ∧ ∃ i a b, s.ts[i]? = some a ∧ t.ts[i]? = some b ∧ s.ts.take i = t.ts.take i ∧ Lpo rk a b))) := by
  cases h with
  | arg _ _ _ h => exact .inl ⟨t, h, .inl rfl⟩
  | sub _ _ a _ h1 h2 => exact .inl ⟨a, h1, .inr h2⟩
  | top _ _ _ h1 h2 h3 => exact .inr ⟨h1, h3, .inl h2⟩
  | lex _ _ i a b _ h1 h2 h3 h4 h5 h6 h7 h8 => exact .inr ⟨h1, h4, .inr ⟨h2, h3, i, a, b, h5, h6, h7, h8⟩⟩
theorem take_eq_of_lt {l r : List Tm} {i j : Nat} (h : l.take j = r.take j) (hi : i < j) : l[i]? = r[i]? := by
  have := congrArg (fun x : List Tm => x[i]?) h
  simpa [List.getElem?_take, hi] using this
theorem take_eq_le {l r : List Tm} {i j : Nat} (h : l.take j = r.take j) (hi : i ≤ j) : l.take i = r.take i := by
  have := congrArg (List.take i) h
  rwa [List.take_take, List.take_take, Nat.min_eq_left hi] at this
theorem Lpo.trans_n (n : Nat) : ∀ s t u : Tm, s.size + t.size + u.size ≤ n → Lpo rk s t → Lpo rk t u → Lpo rk s u := by
  induction n with
  | zero => intro s t u h; have := s.size_pos; omega
  | succ n ih =>
    intro s t u hn hst htu
    have hs := hst.fun
    rcases hst.cases' with ⟨a, ha, rfl | h⟩ | ⟨ht, hb, hc⟩
    · exact .sub s u a hs ha htu
    · have := mem_size ha
      exact .sub s u a hs ha (ih a t u (by omega) h htu)
    · rcases htu.cases' with ⟨b, hbm, rfl | h⟩ | ⟨hu, hd, he⟩
      · exact hb b hbm
      · have := mem_size hbm
        exact ih s b u (by omega) (hb b hbm) h
      · have hall : ∀ c ∈ u.ts, Lpo rk s c := fun c hcm => by
          have := mem_size hcm
          exact ih s t c (by omega) hst (hd c hcm)
        rcases hc with hc | ⟨hc1, hc2, i, a, b, ha, hb', hti, hab⟩
        · rcases he with he | ⟨he1, -⟩
          · exact .top s u hs hu (by omega) hall
          · exact .top s u hs hu (by rw [← he1]; exact hc) hall
        · rcases he with he | ⟨he1, he2, j, b2, c, hb2, hcm, htj, hbc⟩
          · exact .top s u hs hu (by rw [hc1]; exact he) hall
          · have hsu : s.nm = u.nm := hc1.trans he1
            have hlu : s.ts.length = u.ts.length := hc2.trans he2
            rcases Nat.lt_trichotomy i j with hij | hij | hij
            · refine .lex s u i a b hs hu hsu hlu hall ha ?_ (hti.trans (take_eq_le htj (Nat.le_of_lt hij))) hab
              rw [← take_eq_of_lt htj hij]; exact hb'
            · subst hij
              obtain rfl : b = b2 := by rw [hb'] at hb2; exact Option.some.inj hb2
              have h1 := mem_size (List.mem_of_getElem? ha)
              have h2 := mem_size (List.mem_of_getElem? hb')
              have h3 := mem_size (List.mem_of_getElem? hcm)
              exact .lex s u i a c hs hu hsu hlu hall ha hcm (hti.trans htj) (ih a b c (by omega) hab hbc)
            · refine .lex s u j b2 c hs hu hsu hlu hall ?_ hcm ((take_eq_le hti (Nat.le_of_lt hij)).trans htj) hbc
              rw [take_eq_of_lt hti hij]; exact hb2
theorem Lpo.trans {s t u : Tm} (h : Lpo rk s t) (k : Lpo rk t u) : Lpo rk s u := Lpo.trans_n _ s t u (Nat.le_refl _) h k
theorem Lpo.irrefl (s : Tm) : ¬ Lpo rk s s := by
  induction s using Tm.ind with
  | h s ih =>
    intro h
    have hs := h.fun
    rcases h.cases' with ⟨a, ha, rfl | h1⟩ | ⟨-, -, h1 | ⟨-, -, i, a, b, ha, hb, -, hab⟩⟩
    · have := mem_size ha; omega
    · exact ih a ha (h1.trans (.arg s a hs ha))
    · omega
    · obtain rfl : a = b := by rw [ha] at hb; exact Option.some.inj hb
      exact ih a (List.mem_of_getElem? ha) hab
end
end Go.Proofs.YtnomppdmhgefiaaGreat
/- A function on names, applied to a term: plain mathematics. No program stands here. -/
namespace Go.Proofs.YtnomppdmhgefiaaGreat
open Go.RowKit

mutual
/-- a function on names, applied to a term -/
def apF (f : Key → Tm) : Tm → Tm
  | .mk nm vr l => if vr = true then f nm.data.toList else .mk nm false (apFs f l)
def apFs (f : Key → Tm) : List Tm → List Tm
  | [] => []
  | t :: r => apF f t :: apFs f r
end
theorem apFs_eq (f : Key → Tm) (l : List Tm) : apFs f l = l.map (apF f) := by
  induction l with
  | nil => rfl
  | cons t l ih => rw [apFs, ih, List.map_cons]
theorem apF_var (f : Key → Tm) {t : Tm} (h : t.vr = true) : apF f t = f t.nm.data.toList := by
  cases t; simp only [Tm.vr] at h; subst h; rw [apF, if_pos rfl]; rfl
theorem apF_fun (f : Key → Tm) {t : Tm} (h : t.vr = false) : apF f t = .mk t.nm false (t.ts.map (apF f)) := by
  cases t; simp only [Tm.vr] at h; subst h; rw [apF, if_neg (by simp), apFs_eq]; rfl
mutual
/-- the names of a term's variables -/
def Tm.vs : Tm → List Key
  | .mk nm vr l => if vr = true then [nm.data.toList] else Tm.vss l
def Tm.vss : List Tm → List Key
  | [] => []
  | t :: r => t.vs ++ Tm.vss r
end
theorem Tm.vss_mem {l : List Tm} {k : Key} : k ∈ Tm.vss l ↔ ∃ u ∈ l, k ∈ u.vs := by
  induction l with
  | nil => simp [Tm.vss]
  | cons t l ih => rw [Tm.vss, List.mem_append, ih]; simp
theorem Tm.vs_var {t : Tm} (h : t.vr = true) : t.vs = [t.nm.data.toList] := by
  cases t; simp only [Tm.vr] at h; subst h; rw [Tm.vs, if_pos rfl]; rfl
theorem Tm.vs_fun {t : Tm} (h : t.vr = false) : t.vs = Tm.vss t.ts := by
  cases t; simp only [Tm.vr] at h; subst h; rw [Tm.vs, if_neg (by simp)]; rfl
theorem Tm.vs_len (t : Tm) : t.vs.length ≤ t.size := by
  induction t using Tm.ind with
  | h t ih =>
    rw [Tm.size_eq]
    cases hv : t.vr
    · rw [Tm.vs_fun hv]
      have key : ∀ l : List Tm, (∀ u ∈ l, u.vs.length ≤ u.size) → (Tm.vss l).length ≤ Tm.sizes l := by
        intro l
        induction l with
        | nil => intro _; simp [Tm.vss]
        | cons x l ihl => intro h; rw [Tm.vss, List.length_append, Tm.sizes]; have := h x (by simp); have := ihl fun u hu => h u (by simp [hu]); omega
      have := key t.ts ih; omega
    · rw [Tm.vs_var hv]; simp
end Go.Proofs.YtnomppdmhgefiaaGreat
/- A store at a place of a term of its own: the slice then holds the term with that place replaced. No program stands here. -/
namespace Go.Proofs.YtnomppdmhgefiaaGreat
open Go.RowKit

/-- a row of cells, as terms -/
theorem SlIs.ofRow {e : TypeId} {W : World} {n₀ g : Nat} {ch : List Child} {cur : Array Value} (hne : ch ≠ []) (hg : W.heap[g]? = some (.cells cur e (0, 0))) (hgn : g < n₀) (hc : cur.toList = chCells ch)
    (hk : ∀ c ∈ ch, SlIs n₀ W c.1.ts c.2.1) : SlIs n₀ W (ch.map (·.1)) (.slice (some ⟨g, 0, none⟩) ch.length ch.length) := by
  have hlen : (ch.map (·.1)).length = ch.length := by simp
  have hcell : ∀ j, W.cell? ⟨g, j, none⟩ = (chCells ch)[j]? := fun j => by
    unfold World.cell?
    simp only [hg]
    rw [← hc, Array.getElem?_toList]; rfl
  have hch : ∀ i t, (ch.map (·.1))[i]? = some t → ∃ c : Child, ch[i]? = some c ∧ c.1 = t := fun i t ht => by rw [List.getElem?_map, Option.map_eq_some_iff] at ht; exact ht
  have key := SlIs.row (n₀ := n₀) (W := W) g 0 ch.length (ch.map (·.1)) (fun i => ((ch[i]?).map (·.2.1)).getD (.bool false)) (by simpa using hne) hgn (by simp)
    (fun i t ht => by
      obtain ⟨c, hci, rfl⟩ := hch i t ht
      obtain ⟨h1, h2, h3⟩ := chCells_at ch i c hci
      simp only [Nat.zero_add, hcell, hci, Option.map_some, Option.getD_some]
      exact ⟨h1, h2, h3⟩)
    (fun i t ht => by
      obtain ⟨c, hci, rfl⟩ := hch i t ht
      simp only [hci, Option.map_some, Option.getD_some]
      exact hk c (List.mem_of_getElem? hci))
    (fun i _ => by unfold World.frozen?; simp [hg])
  rw [hlen] at key
  exact key

theorem chCells_set (ch : List Child) (i : Nat) (c c' : Child) (h : ch[i]? = some c) :
    (((chCells ch).set (i * 3) (.string c'.1.nm)).set (i * 3 + 1) (.bool c'.1.vr)).set (i * 3 + 2) c'.2.1 = chCells (ch.set i c') := by
  induction ch generalizing i with
  | nil => simp at h
  | cons p ch ih =>
    cases i with
    | zero => simp at h; subst h; simp [chCells]
    | succ i =>
      have := ih i (by simpa using h)
      have e : ∀ r, (i + 1) * 3 + r = i * 3 + r + 3 := fun r => by omega
      have e0 : (i + 1) * 3 = i * 3 + 3 := by omega
      rw [e, e, e0]
      simp only [chCells, List.flatMap_cons, List.set_cons_succ] at this ⊢
      simpa using this
end Go.Proofs.YtnomppdmhgefiaaGreat
/- At. -/
namespace Go.Proofs.YtnomppdmhgefiaaGreat
open Go.RowKit

theorem Tm.kid_mem {t : Tm} {i : Int} {u : Tm} (h : t.kid i = some u) : u ∈ t.ts := by
  unfold Tm.kid at h; split at h
  · exact List.mem_of_getElem? h
  · cases h
theorem Tm.at_bulk {t u : Tm} {l : List Int} (h : t.at l = some u) : u.bulk ≤ t.bulk := by
  induction l generalizing t with
  | nil => simp only [Tm.at, Option.some.injEq] at h; subst h; exact Nat.le_refl _
  | cons i l ih =>
    simp only [Tm.at] at h
    split at h
    · rename_i x hx
      have h1 := ih h
      have h2 := Tm.bulk_mem (Tm.kid_mem hx)
      have h3 := Tm.bulk_eq t
      omega
    · cases h
theorem Tm.formed.at {t u : Tm} (ht : t.formed) {l : List Int} (h : t.at l = some u) : u.formed := by
  induction l generalizing t with
  | nil => simp only [Tm.at, Option.some.injEq] at h; subst h; exact ht
  | cons i l ih =>
    simp only [Tm.at] at h
    split at h
    · rename_i x hx
      exact ih (((Tm.formed_iff t).1 ht).2 x (Tm.kid_mem hx)) h
    · cases h

end Go.Proofs.YtnomppdmhgefiaaGreat
