/- The sorted keys of a map of terms, of a map of strings. -/
import Derived.Test.YtkglopdogakfoaaGreatDoorShelfI
import Derived.Test.YtkglopdogakfoaaGreatDoorTlk
namespace Go.Proofs.YtkglopdogakfoaaGreatDoor
open Go.RowKit Go.Maps Go.Sort

/-- the names in order -/
def sortK (l : List Key) : List Key := l.mergeSort (fun x y => decide (x ≤ y))
theorem keysM_any (mb : Nat) (W : World) : Calls Tryz.prog 148 #[.map (some mb)] W fun e w' => e = .returned (.func (.func 172) #[] #[.pointer (some ⟨W.heap.size, 0, none⟩)]) ∧ W.alloc (.cells #[.map (some mb)] 152) = w' :=
  (callsIn_wide.1 (Tryz.maps_Keys_148 (some mb) W)).mono fun _ _ ⟨h1, h2⟩ => ⟨h1, h2.symm⟩
theorem keysE_any (mb : Nat) (W : World) : Calls Tryz.prog 170 #[.map (some mb)] W fun e w' => e = .returned (.func (.func 192) #[] #[.pointer (some ⟨W.heap.size, 0, none⟩)]) ∧ W.alloc (.cells #[.map (some mb)] 148) = w' :=
  (callsIn_wide.1 (Tryz.maps_Keys_170 (some mb) W)).mono fun _ _ ⟨h1, h2⟩ => ⟨h1, h2.symm⟩
theorem strs_enc (l : List Key) : l.map encStr = strs l := rfl
theorem sortK_perm (l : List Key) : (sortK l).Perm l := List.mergeSort_perm l _
theorem sortK_len (l : List Key) : (sortK l).length = l.length := (sortK_perm l).length_eq
theorem sortK_mem {l : List Key} {x : Key} : x ∈ sortK l ↔ x ∈ l := (sortK_perm l).mem_iff
theorem sortK_order {l : List Key} (hn : l.Nodup) : (sortK l).Pairwise (· < ·) := by
  have tr : ∀ a b c : List UInt8, leB a b = true → leB b c = true → leB a c = true := fun a b c h1 h2 => by simp only [leB, decide_eq_true_eq] at *; exact List.le_trans h1 h2
  have to : ∀ a b : List UInt8, (leB a b || leB b a) = true := fun a b => by simp only [leB, Bool.or_eq_true, decide_eq_true_eq]; exact List.le_total a b
  have h1 := List.pairwise_mergeSort tr to l
  have h2 : (sortK l).Nodup := (sortK_perm l).nodup_iff.2 hn
  refine List.Pairwise.imp₂ (R := fun a b => leB a b = true) (S := fun a b => a ≠ b) (fun a b h3 h4 => ?_) h1 h2
  simp only [leB, decide_eq_true_eq] at h3
  exact Classical.byContradiction fun h => h4 (List.le_antisymm h3 (List.not_lt.1 h))
/-- the keys of a datum that has just these keys -/
theorem keys_perm {H : Type} {n b : Nat} {D : DataW H} {R : Value → Option (DataW H × List MemPlace)} {w : World} {ks ss : List Key} (ho : w.ownsMap Tryz.prog 9 R b n D) (hn : ks.Nodup) (hh : ∀ k, Maps.has D (.string k) = decide (k ∈ ks)) (hs : ss.Perm (strKeys D)) : ss.mergeSort (fun x y => decide (x ≤ y)) = sortK ks :=
  mergeSort_of_perm (hs.trans (Collected.perm (left := fun _ => false) ⟨hn, fun x => by rw [hh]; simp⟩ ho strKeyed Tryz.underlying9 (fun _ => rfl)).symm)
theorem sortedM_any {n : Nat} (mb : Nat) (m : List Bd) (W : World) (h : TMap n W mb m) (hl : m.length ≤ 1048576) :
    Calls Tryz.prog 104 #[.func (.func 172) #[] #[.pointer (some ⟨W.heap.size, 0, none⟩)]] (W.alloc (.cells #[.map (some mb)] 152)) fun e w' => (∃ v, e = .returned v ∧ StrIs w'.heap.size w' (sortK (m.map (·.1))) v) ∧ Below W.heap.size W w' := by
  obtain ⟨D, ho, hi⟩ := h
  refine (callsIn_wide.1 (Tryz.slices_Sorted_keys_104_148 mb _ D imgR W ho (by rw [hi.size]; unfold maxLen; omega) (by rw [hi.size]; omega))).mono ?_
  rintro e w' ⟨v, ss, rfl, hp, hrow, -, hb⟩
  rw [keys_perm ho hi.nodup hi.has hp, strs_enc] at hrow
  have hlen : ss.length = (sortK (m.map (·.1))).length := by rw [← keys_perm ho hi.nodup hi.has hp, List.length_mergeSort]
  rw [hlen] at hrow
  exact ⟨⟨v, rfl, StrIs.ofRow hrow⟩, Below.trans (by go_grown) (hb.mono (by simp))⟩
theorem sortedE_any (mb : Nat) (m : List (Key × Key)) (W : World) (h : KMap W mb m) (hl : m.length ≤ 1048576) :
    Calls Tryz.prog 104 #[.func (.func 192) #[] #[.pointer (some ⟨W.heap.size, 0, none⟩)]] (W.alloc (.cells #[.map (some mb)] 148)) fun e w' => (∃ v, e = .returned v ∧ StrIs w'.heap.size w' (sortK (m.map (·.1))) v) ∧ Below W.heap.size W w' := by
  obtain ⟨D, ho, hi⟩ := h
  refine (callsIn_wide.1 (Tryz.slices_Sorted_keys_104_170 mb _ D _ W ho (by rw [hi.size]; unfold maxLen; omega) (by rw [hi.size]; omega))).mono ?_
  rintro e w' ⟨v, ss, rfl, hp, hrow, -, hb⟩
  rw [keys_perm ho hi.nodup hi.has hp, strs_enc] at hrow
  have hlen : ss.length = (sortK (m.map (·.1))).length := by rw [← keys_perm ho hi.nodup hi.has hp, List.length_mergeSort]
  rw [hlen] at hrow
  exact ⟨⟨v, rfl, StrIs.ofRow hrow⟩, Below.trans (by go_grown) (hb.mono (by simp))⟩
end Go.Proofs.YtkglopdogakfoaaGreatDoor
