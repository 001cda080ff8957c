/- Packed: Mcc. -/
import Derived.Test.YtamddagmlanijaaGreatC07
/- Package matrix and its reference: Check. -/
namespace Go.Proofs.YtamddagmlanijaaGreat
open Go.RowKit Go.Shelf

/-- the name of an entry, as an entry of an order -/
def nmx (p : Mx) : Rk := (p.1, 0, 0)
theorem nmx_at {L : List Mx} {k : Nat} {p : Mx} (h : L[k]? = some p) : (L.map nmx)[k]? = some (nmx p) := by rw [List.getElem?_map, h]; rfl
/-- the first error of the entries -/
def entsC (d : Nat) : List Mx → Int
  | [] => 0
  | p :: l => if entC d p.2.1 p.2.2 = 0 then entsC d l else entC d p.2.1 p.2.2
theorem entsC_pre {d : Nat} : ∀ {L : List Mx} {k : Nat} {p : Mx}, (∀ q ∈ L.take k, entC d q.2.1 q.2.2 = 0) → L[k]? = some p → entC d p.2.1 p.2.2 ≠ 0 → entsC d L = entC d p.2.1 p.2.2 := by
  intro L
  induction L with
  | nil => intro k p _ h; simp at h
  | cons x L ih =>
    intro k p h hp hne
    cases k with
    | zero => simp at hp; subst hp; rw [entsC, if_neg hne]
    | succ k =>
      rw [entsC, if_pos (h x (by simp))]
      exact ih (k := k) (fun q hq => h q (by simp [hq])) (by simpa using hp) hne
theorem entsC_zero {d : Nat} {L : List Mx} : entsC d L = 0 ↔ ∀ q ∈ L, entC d q.2.1 q.2.2 = 0 := by
  induction L with
  | nil => simp [entsC]
  | cons x L ih =>
    rw [entsC]
    split
    · rename_i h
      rw [ih]
      exact ⟨fun h1 q hq => (by rcases List.mem_cons.1 hq with rfl | hq; exact h; exact h1 q hq), fun h1 q hq => h1 q (by simp [hq])⟩
    · rename_i h
      exact ⟨fun h1 => absurd h1 h, fun h1 => absurd (h1 x (by simp)) h⟩
open Classical in
noncomputable def matC (dim : Int) (L : List Mx) : Int := if dim < 1 ∨ 4 < dim then 2 else if 256 < L.length then 3 else if ¬ NmsOk (L.map nmx) then 4 else entsC dim.toNat L
theorem matC_len {d : Nat} {L : List Mx} (hd : 1 ≤ d ∧ d ≤ 4) (h : 256 < L.length) : matC d L = 3 := by unfold matC; rw [if_neg (by omega), if_pos h]
theorem matC_nms {d : Nat} {L : List Mx} (hd : 1 ≤ d ∧ d ≤ 4) (h : ¬ 256 < L.length) (k : ¬ NmsOk (L.map nmx)) : matC d L = 4 := by unfold matC; rw [if_neg (by omega), if_neg h, if_pos k]
theorem matC_mon {d : Nat} {L : List Mx} (hd : 1 ≤ d ∧ d ≤ 4) (h : ¬ 256 < L.length) (k : NmsOk (L.map nmx)) : matC d L = entsC d L := by unfold matC; rw [if_neg (by omega), if_neg h, if_neg (fun f => f k), Int.toNat_natCast]
/-- a valid interpretation -/
structure MxOk (d : Nat) (L : List Mx) : Prop where
  dim : 1 ≤ d ∧ d ≤ 4
  len : L.length ≤ 256
  nms : NmsOk (L.map nmx)
  ents : ∀ p ∈ L, formB d p.2.1 p.2.2 = true ∧ smallB p.2.1 p.2.2 = true
theorem entC_zero {d : Nat} {v : List Nat} {ms : List (List (List Nat))} : entC d v ms = 0 ↔ formB d v ms = true ∧ smallB v ms = true := by
  unfold entC
  by_cases h : formB d v ms = true
  · rw [if_pos h]
    by_cases k : smallB v ms = true
    · rw [if_pos k]; exact ⟨fun _ => ⟨h, k⟩, fun _ => rfl⟩
    · rw [if_neg k]; exact ⟨fun e => (by cases e), fun e => absurd e.2 k⟩
  · rw [if_neg h]; exact ⟨fun e => (by cases e), fun e => absurd e.1 h⟩
theorem matC_zero {dim : Int} {L : List Mx} : matC dim L = 0 ↔ ∃ d : Nat, dim = d ∧ MxOk d L := by
  by_cases h : dim < 1 ∨ 4 < dim
  · unfold matC
    rw [if_pos h]
    exact ⟨fun e => (by cases e), fun ⟨d, e, k⟩ => by have := k.dim; omega⟩
  obtain ⟨d, rfl⟩ : ∃ d : Nat, dim = (d : Int) := ⟨dim.toNat, by omega⟩
  have hd : 1 ≤ d ∧ d ≤ 4 := by omega
  by_cases h2 : 256 < L.length
  · rw [matC_len hd h2]
    exact ⟨fun e => (by cases e), fun ⟨d', e, k⟩ => by have := k.len; omega⟩
  by_cases k : NmsOk (L.map nmx)
  · rw [matC_mon hd h2 k, entsC_zero]
    exact ⟨fun e => ⟨d, rfl, hd, by omega, k, fun p hp => entC_zero.1 (e p hp)⟩, fun ⟨d', e, k'⟩ q hq => (by have hdd : d = d' := (by omega); subst hdd; exact entC_zero.2 (k'.ents q hq))⟩
  · rw [matC_nms hd h2 k]
    exact ⟨fun e => (by cases e), fun ⟨d', _, k'⟩ => absurd k'.nms k⟩
/-- small enough to be read -/
def mxsSm (L : List Mx) : Prop := L.length ≤ 1048576 ∧ ∀ p ∈ L, mxSm p
theorem MxsIs.three {n : Nat} {W : World} {l : List Mx} {oa : Option Addr} {cap k : Nat} (h : MxsIs n W l (.slice oa l.length cap)) (hk : k < l.length) :
    ∃ (b o : Nat) (p : Mx) (ov : Option Addr) (cv : Nat) (om : Option Addr) (cm : Nat), oa = some ⟨b, o, none⟩ ∧ b < n ∧ l[k]? = some p ∧ U64Is n W p.2.1 (.slice ov p.2.1.length cv) ∧ MatsU n W p.2.2 (.slice om p.2.2.length cm) ∧ W.cell? ⟨b, o + k * 3, none⟩ = some (.string (kb p.1)) ∧ W.cell? ⟨b, o + k * 3 + 1, none⟩ = some (.slice ov p.2.1.length cv) ∧ W.cell? ⟨b, o + k * 3 + 2, none⟩ = some (.slice om p.2.2.length cm) := by
  obtain ⟨b, o, p, cs, rfl, hb, hp, ⟨ov, cv, om, cm, rfl, hv, hm⟩, -, hj⟩ := h.get hk
  exact ⟨b, o, p, ov, cv, om, cm, rfl, hb, hp, hv, hm, hj 0 (by omega), hj 1 (by omega), hj 2 (by omega)⟩
theorem cmpN_lt9 {a b : Key} : cmpN (kb a) (kb b) < 0 ↔ a < b := by
  unfold cmpN
  by_cases e : kb a = kb b
  · have : a = b := by rw [← key_kb a, e, key_kb]
    subst this
    rw [if_pos rfl]
    exact ⟨fun h => absurd h (by decide), fun h => absurd h (List.lt_irrefl a)⟩
  · rw [if_neg e, key_kb, key_kb]
    split
    · rename_i h; exact ⟨fun _ => h, fun _ => by decide⟩
    · rename_i h; exact ⟨fun h1 => absurd h1 (by decide), fun h1 => absurd h1 h⟩
set_option maxRecDepth 100000 in
set_option maxHeartbeats 8000000 in
theorem mCheck_any (dim : Int) (l : List Mx) (v : Value) (w : World) (hl : MxsIs w.heap.size w l v) (hs : mxsSm l) :
    Calls Tryz.prog 34 #[.int .i64 dim, v] w fun e w' => e = .returned (.int .i64 (matC dim l)) ∧ Below w.heap.size w w' := by
  obtain ⟨oa, cap, rfl⟩ := hl.shape
  have HL := Lib.hid hl
  have HSM := Lib.hid hs
  have hlen := hs.1
  clear hl hs
  go_enter Tryz.func34, Tryz.ntmps34
  by_cases h1 : dim < 1
  · have hdm : decide (dim < 1) = true := decide_eq_true h1
    have HE : Hid (matC dim l = 2) := Lib.hid (by unfold matC; rw [if_pos (.inl h1)])
    clear h1
    go_wp2_with fail
    go_ret
    exact ⟨by rw [HE.out]; rfl, Below.refl _ _⟩
  have hdm : decide (dim < 1) = false := decide_eq_false h1
  by_cases h4 : 4 < dim
  · have hdm4 : decide (4 < dim) = true := decide_eq_true h4
    have HE : Hid (matC dim l = 2) := Lib.hid (by unfold matC; rw [if_pos (.inr h4)])
    clear h1 h4
    go_wp2_with fail
    go_ret
    exact ⟨by rw [HE.out]; rfl, Below.refl _ _⟩
  have hdm4 : decide (4 < dim) = false := decide_eq_false h4
  obtain ⟨d, rfl⟩ : ∃ d : Nat, dim = (d : Int) := ⟨dim.toNat, by omega⟩
  have hd14 : 1 ≤ d ∧ d ≤ 4 := by omega
  clear h1 h4
  by_cases h256 : 256 < l.length
  · have hd : decide ((256 : Int) < (l.length : Int)) = true := decide_eq_true (by omega)
    have HE := Lib.hid (matC_len hd14 h256)
    clear h256
    go_wp2_with fail
    go_ret
    exact ⟨by rw [HE.out]; rfl, Below.refl _ _⟩
  have hd : decide ((256 : Int) < (l.length : Int)) = false := decide_eq_false (by omega)
  have HML : Hid ((l.map nmx).length = l.length) := Lib.hid (List.length_map _)
  go_wp2_with fail
  go_loopw [21] (fun i wr => ∃ k : Nat, k ≤ l.length ∧ i = .int .i64 k ∧ Hid (NmsTo (l.map nmx) k) ∧ Hid (Below w.heap.size w wr)) (fun i _ => l.length - (intOf i).toNat)
  case atStart => exact ⟨0, by omega, rfl, Lib.hid (fun i p hi => absurd hi (by omega)), Lib.hid (Below.refl _ _)⟩
  case round =>
    obtain ⟨k, hk, rfl, HN, HBW⟩ := hrel
    by_cases hlt : k < l.length
    · have hz := HBW.out.size
      obtain ⟨b1, o1, p, ov, cv, om, cm, rfl, hb1, hp, hpv, hps, c0, c1, c2⟩ := MxsIs.three (HL.out.carry keeps_MxsIs HBW.out hz) hlt
      have HP := Lib.hid hp
      have hsz : (kb p.1).size ≤ 1048576 := by rw [← bytes_len, key_kb]; exact (HSM.out.2 p (List.mem_of_getElem? hp)).1
      have HX : Hid ((wr.alloc (.cells #[.string (kb p.1), .slice ov p.2.1.length cv, .slice om p.2.2.length cm] 142)).drew.cell? ⟨wr.heap.size, 0, none⟩ = some (.string (kb p.1))) := Lib.hid (cells_of' (heap_new_at wr (.cells #[.string (kb p.1), .slice ov p.2.1.length cv, .slice om p.2.2.length cm] 142) _ rfl) 0)
      have HBX : Hid (Below w.heap.size w (wr.alloc (.cells #[.string (kb p.1), .slice ov p.2.1.length cv, .slice om p.2.2.length cm] 142))) := Lib.hid (HBW.out.alloc HBW.out.size _)
      clear hp hps hpv
      go_wp2_with fail
      cases hn : isName (kb p.1) true
      · have HN0 : Hid (matC d l = 4) := Lib.hid (matC_nms hd14 h256 fun h => by have := (h k _ (nmx_at HP.out)).1; rw [show (nmx p).1 = p.1 from rfl, hn] at this; cases this)
        refine wp_region_noPanic ?_
        refine wp_region_held_drew (S := fun w' => w'.cell? ⟨wr.heap.size, 0, none⟩ = some (.string (kb p.1))) (by kernel_rfl) HX.out (fun _ => ?_)
        simp only [List.size_toArray, List.length_cons, List.length_nil, Nat.reduceAdd]
        refine wpAnyH_take (i := 0) (v := ?_) (by simp only [List.getElem?_toArray, List.getElem?_cons_zero]; rfl) (by kernel_rfl) (by kernel_rfl) (by kernel_rfl) (fun _ _ _ h => h) (Or.inl ⟨by rfl, ?_⟩) HX.out ?_
        case refine_2 => (intro ww hSw; have s1 := hSw; go_simp; try with_reducible rfl)
        try simp only [Act.put, List.setIfInBounds_toArray, List.set_cons_zero, List.set_cons_succ]
        refine wpAnyH_take (i := 1) (v := ?_) (by simp only [List.getElem?_toArray, List.getElem?_cons_zero, List.getElem?_cons_succ]; rfl) (by kernel_rfl) (by kernel_rfl) (by kernel_rfl) (fun _ _ _ h => h) (Or.inl ⟨by rfl, ?_⟩) HX.out ?_
        case refine_2 => (intro ww hSw; have s1 := hSw; go_simp; try with_reducible rfl)
        try simp only [Act.put, List.setIfInBounds_toArray, List.set_cons_zero, List.set_cons_succ]
        refine wpAnyH_ready (rs := [2]) (by kernel_rfl) (by simp) ?_
        refine AllReadyH.cons (by simp only [List.getElem?_toArray, List.getElem?_cons_zero, List.getElem?_cons_succ]; rfl) (fun K' hK => ?_) AllReadyH.nil
        go_simp
        refine (isName_any (kb p.1) true _ hsz).mono ?_
        rintro e w2 ⟨rfl, rfl⟩
        rw [hn]
        refine hK.out _ _ HX.out (fun _ => ?_)
        clear hK
        try simp only [Act.put, List.setIfInBounds_toArray, List.set_cons_zero, List.set_cons_succ]
        refine wpAnyH_take (i := 3) (v := ?_) (by simp only [List.getElem?_toArray, List.getElem?_cons_zero, List.getElem?_cons_succ]; rfl) (by kernel_rfl) (by kernel_rfl) (by kernel_rfl) (fun _ _ _ h => h) (Or.inl ⟨by rfl, ?_⟩) HX.out ?_
        case refine_2 => (intro ww hSw; have s1 := hSw; go_simp; try with_reducible rfl)
        try simp only [Act.put, List.setIfInBounds_toArray, List.set_cons_zero, List.set_cons_succ]
        refine wpAnyH_take (i := 4) (v := ?_) (by simp only [List.getElem?_toArray, List.getElem?_cons_zero, List.getElem?_cons_succ]; rfl) (by kernel_rfl) (by kernel_rfl) (by kernel_rfl) (fun _ _ _ h => h) (Or.inl ⟨by rfl, ?_⟩) HX.out ?_
        case refine_2 => (intro ww hSw; have s1 := hSw; go_simp; try with_reducible rfl)
        try simp only [Act.put, List.setIfInBounds_toArray, List.set_cons_zero, List.set_cons_succ]
        refine wpAnyH_take (i := 5) (v := _) (by simp only [List.getElem?_toArray, List.getElem?_cons_zero, List.getElem?_cons_succ]; rfl) (by kernel_rfl) (by kernel_rfl) (by kernel_rfl) (fun _ _ _ h => h) (Or.inr ⟨by rfl, rfl⟩) HX.out ?_
        try simp only [Act.put, List.setIfInBounds_toArray, List.set_cons_zero, List.set_cons_succ]
        refine wpAnyH_take (i := 6) (v := _) (by simp only [List.getElem?_toArray, List.getElem?_cons_zero, List.getElem?_cons_succ]; rfl) (by kernel_rfl) (by kernel_rfl) (by kernel_rfl) (fun _ _ _ h => h) (Or.inr ⟨by rfl, rfl⟩) HX.out ?_
        try simp only [Act.put, List.setIfInBounds_toArray, List.set_cons_zero, List.set_cons_succ]
        refine wpAnyH_take (i := 7) (v := _) (by simp only [List.getElem?_toArray, List.getElem?_cons_zero, List.getElem?_cons_succ]; rfl) (by kernel_rfl) (by kernel_rfl) (by kernel_rfl) (fun _ _ _ h => h) (Or.inr ⟨by rfl, rfl⟩) HX.out ?_
        try simp only [Act.put, List.setIfInBounds_toArray, List.set_cons_zero, List.set_cons_succ]
        refine wpAnyH_take (i := 8) (v := _) (by simp only [List.getElem?_toArray, List.getElem?_cons_zero, List.getElem?_cons_succ]; rfl) (by kernel_rfl) (by kernel_rfl) (by kernel_rfl) (fun _ _ _ h => h) (Or.inr ⟨by rfl, rfl⟩) HX.out ?_
        try simp only [Act.put, List.setIfInBounds_toArray, List.set_cons_zero, List.set_cons_succ]
        refine wpAnyH_take (i := 9) (v := _) (by simp only [List.getElem?_toArray, List.getElem?_cons_zero, List.getElem?_cons_succ]; rfl) (by kernel_rfl) (by kernel_rfl) (by kernel_rfl) (fun _ _ _ h => h) (Or.inr ⟨by rfl, rfl⟩) HX.out ?_
        try simp only [Act.put, List.setIfInBounds_toArray, List.set_cons_zero, List.set_cons_succ]
        refine wpAnyH_take (i := 10) (v := _) (by simp only [List.getElem?_toArray, List.getElem?_cons_zero, List.getElem?_cons_succ]; rfl) (by kernel_rfl) (by kernel_rfl) (by kernel_rfl) (fun _ _ _ h => h) (Or.inr ⟨by rfl, rfl⟩) HX.out ?_
        try simp only [Act.put, List.setIfInBounds_toArray, List.set_cons_zero, List.set_cons_succ]
        refine wpAnyH_take (i := 11) (v := _) (by simp only [List.getElem?_toArray, List.getElem?_cons_zero, List.getElem?_cons_succ]; rfl) (by kernel_rfl) (by kernel_rfl) (by kernel_rfl) (fun _ _ _ h => h) (Or.inr ⟨by rfl, rfl⟩) HX.out ?_
        try simp only [Act.put, List.setIfInBounds_toArray, List.set_cons_zero, List.set_cons_succ]
        refine wpAnyH_take (i := 12) (v := _) (by simp only [List.getElem?_toArray, List.getElem?_cons_zero, List.getElem?_cons_succ]; rfl) (by kernel_rfl) (by kernel_rfl) (by kernel_rfl) (fun _ _ _ h => h) (Or.inr ⟨by rfl, rfl⟩) HX.out ?_
        try simp only [Act.put, List.setIfInBounds_toArray, List.set_cons_zero, List.set_cons_succ]
        refine wpAnyH_take (i := 13) (v := _) (by simp only [List.getElem?_toArray, List.getElem?_cons_zero, List.getElem?_cons_succ]; rfl) (by kernel_rfl) (by kernel_rfl) (by kernel_rfl) (fun _ _ _ h => h) (Or.inr ⟨by rfl, rfl⟩) HX.out ?_
        try simp only [Act.put, List.setIfInBounds_toArray, List.set_cons_zero, List.set_cons_succ]
        refine wpAnyH_take (i := 14) (v := _) (by simp only [List.getElem?_toArray, List.getElem?_cons_zero, List.getElem?_cons_succ]; rfl) (by kernel_rfl) (by kernel_rfl) (by kernel_rfl) (fun _ _ _ h => h) (Or.inr ⟨by rfl, rfl⟩) HX.out ?_
        try simp only [Act.put, List.setIfInBounds_toArray, List.set_cons_zero, List.set_cons_succ]
        refine wpAnyH_take (i := 15) (v := _) (by simp only [List.getElem?_toArray, List.getElem?_cons_zero, List.getElem?_cons_succ]; rfl) (by kernel_rfl) (by kernel_rfl) (by kernel_rfl) (fun _ _ _ h => h) (Or.inr ⟨by rfl, rfl⟩) HX.out ?_
        try simp only [Act.put, List.setIfInBounds_toArray, List.set_cons_zero, List.set_cons_succ]
        refine wpAnyH_take (i := 16) (v := _) (by simp only [List.getElem?_toArray, List.getElem?_cons_zero, List.getElem?_cons_succ]; rfl) (by kernel_rfl) (by kernel_rfl) (by kernel_rfl) (fun _ _ _ h => h) (Or.inr ⟨by rfl, rfl⟩) HX.out ?_
        try simp only [Act.put, List.setIfInBounds_toArray, List.set_cons_zero, List.set_cons_succ]
        refine wpAnyH_take (i := 17) (v := _) (by simp only [List.getElem?_toArray, List.getElem?_cons_zero, List.getElem?_cons_succ]; rfl) (by kernel_rfl) (by kernel_rfl) (by kernel_rfl) (fun _ _ _ h => h) (Or.inr ⟨by rfl, rfl⟩) HX.out ?_
        try simp only [Act.put, List.setIfInBounds_toArray, List.set_cons_zero, List.set_cons_succ]
        refine wpAnyH_take (i := 18) (v := ?_) (by simp only [List.getElem?_toArray, List.getElem?_cons_zero, List.getElem?_cons_succ]; rfl) (by kernel_rfl) (by kernel_rfl) (by kernel_rfl) (fun _ _ _ h => h) (Or.inl ⟨by rfl, ?_⟩) HX.out ?_
        case refine_2 => (intro ww hSw; have s1 := hSw; go_simp; try with_reducible rfl)
        try simp only [Act.put, List.setIfInBounds_toArray, List.set_cons_zero, List.set_cons_succ]
        refine wpAnyH_done (by kernel_rfl) ?_ _
        refine NoPanic.normal ?_
        go_wp2_with fail
        go_ret
        exact ⟨by rw [HN0.out]; rfl, HBX.out.drew⟩
      · have HN1 := Lib.hid hn
        cases k with
        | zero =>
          refine wp_region_noPanic ?_
          refine wp_region_held_drew (S := fun w' => w'.cell? ⟨wr.heap.size, 0, none⟩ = some (.string (kb p.1))) (by kernel_rfl) HX.out (fun _ => ?_)
          simp only [List.size_toArray, List.length_cons, List.length_nil, Nat.reduceAdd]
          refine wpAnyH_take (i := 0) (v := ?_) (by simp only [List.getElem?_toArray, List.getElem?_cons_zero]; rfl) (by kernel_rfl) (by kernel_rfl) (by kernel_rfl) (fun _ _ _ h => h) (Or.inl ⟨by rfl, ?_⟩) HX.out ?_
          case refine_2 => (intro ww hSw; have s1 := hSw; go_simp; try with_reducible rfl)
          try simp only [Act.put, List.setIfInBounds_toArray, List.set_cons_zero, List.set_cons_succ]
          refine wpAnyH_take (i := 1) (v := ?_) (by simp only [List.getElem?_toArray, List.getElem?_cons_zero, List.getElem?_cons_succ]; rfl) (by kernel_rfl) (by kernel_rfl) (by kernel_rfl) (fun _ _ _ h => h) (Or.inl ⟨by rfl, ?_⟩) HX.out ?_
          case refine_2 => (intro ww hSw; have s1 := hSw; go_simp; try with_reducible rfl)
          try simp only [Act.put, List.setIfInBounds_toArray, List.set_cons_zero, List.set_cons_succ]
          refine wpAnyH_ready (rs := [2]) (by kernel_rfl) (by simp) ?_
          refine AllReadyH.cons (by simp only [List.getElem?_toArray, List.getElem?_cons_zero, List.getElem?_cons_succ]; rfl) (fun K' hK => ?_) AllReadyH.nil
          go_simp
          refine (isName_any (kb p.1) true _ hsz).mono ?_
          rintro e w2 ⟨rfl, rfl⟩
          rw [hn]
          refine hK.out _ _ HX.out (fun _ => ?_)
          clear hK
          try simp only [Act.put, List.setIfInBounds_toArray, List.set_cons_zero, List.set_cons_succ]
          refine wpAnyH_take (i := 3) (v := ?_) (by simp only [List.getElem?_toArray, List.getElem?_cons_zero, List.getElem?_cons_succ]; rfl) (by kernel_rfl) (by kernel_rfl) (by kernel_rfl) (fun _ _ _ h => h) (Or.inl ⟨by rfl, ?_⟩) HX.out ?_
          case refine_2 => (intro ww hSw; have s1 := hSw; go_simp; try with_reducible rfl)
          try simp only [Act.put, List.setIfInBounds_toArray, List.set_cons_zero, List.set_cons_succ]
          refine wpAnyH_take (i := 4) (v := ?_) (by simp only [List.getElem?_toArray, List.getElem?_cons_zero, List.getElem?_cons_succ]; rfl) (by kernel_rfl) (by kernel_rfl) (by kernel_rfl) (fun _ _ _ h => h) (Or.inl ⟨by rfl, ?_⟩) HX.out ?_
          case refine_2 => (intro ww hSw; have s1 := hSw; go_simp; try with_reducible rfl)
          try simp only [Act.put, List.setIfInBounds_toArray, List.set_cons_zero, List.set_cons_succ]
          refine wpAnyH_take (i := 5) (v := ?_) (by simp only [List.getElem?_toArray, List.getElem?_cons_zero, List.getElem?_cons_succ]; rfl) (by kernel_rfl) (by kernel_rfl) (by kernel_rfl) (fun _ _ _ h => h) (Or.inl ⟨by rfl, ?_⟩) HX.out ?_
          case refine_2 => (intro ww hSw; have s1 := hSw; go_simp; try with_reducible rfl)
          try simp only [Act.put, List.setIfInBounds_toArray, List.set_cons_zero, List.set_cons_succ]
          refine wpAnyH_take (i := 6) (v := ?_) (by simp only [List.getElem?_toArray, List.getElem?_cons_zero, List.getElem?_cons_succ]; rfl) (by kernel_rfl) (by kernel_rfl) (by kernel_rfl) (fun _ _ _ h => h) (Or.inl ⟨by rfl, ?_⟩) HX.out ?_
          case refine_2 => (intro ww hSw; have s1 := hSw; go_simp; try with_reducible rfl)
          try simp only [Act.put, List.setIfInBounds_toArray, List.set_cons_zero, List.set_cons_succ]
          refine wpAnyH_take (i := 7) (v := ?_) (by simp only [List.getElem?_toArray, List.getElem?_cons_zero, List.getElem?_cons_succ]; rfl) (by kernel_rfl) (by kernel_rfl) (by kernel_rfl) (fun _ _ _ h => h) (Or.inl ⟨by rfl, ?_⟩) HX.out ?_
          case refine_2 => (intro ww hSw; have s1 := hSw; go_simp; try with_reducible rfl)
          try simp only [Act.put, List.setIfInBounds_toArray, List.set_cons_zero, List.set_cons_succ]
          refine wpAnyH_take (i := 8) (v := _) (by simp only [List.getElem?_toArray, List.getElem?_cons_zero, List.getElem?_cons_succ]; rfl) (by kernel_rfl) (by kernel_rfl) (by kernel_rfl) (fun _ _ _ h => h) (Or.inr ⟨by rfl, rfl⟩) HX.out ?_
          try simp only [Act.put, List.setIfInBounds_toArray, List.set_cons_zero, List.set_cons_succ]
          refine wpAnyH_take (i := 9) (v := _) (by simp only [List.getElem?_toArray, List.getElem?_cons_zero, List.getElem?_cons_succ]; rfl) (by kernel_rfl) (by kernel_rfl) (by kernel_rfl) (fun _ _ _ h => h) (Or.inr ⟨by rfl, rfl⟩) HX.out ?_
          try simp only [Act.put, List.setIfInBounds_toArray, List.set_cons_zero, List.set_cons_succ]
          refine wpAnyH_take (i := 10) (v := _) (by simp only [List.getElem?_toArray, List.getElem?_cons_zero, List.getElem?_cons_succ]; rfl) (by kernel_rfl) (by kernel_rfl) (by kernel_rfl) (fun _ _ _ h => h) (Or.inr ⟨by rfl, rfl⟩) HX.out ?_
          try simp only [Act.put, List.setIfInBounds_toArray, List.set_cons_zero, List.set_cons_succ]
          refine wpAnyH_take (i := 11) (v := _) (by simp only [List.getElem?_toArray, List.getElem?_cons_zero, List.getElem?_cons_succ]; rfl) (by kernel_rfl) (by kernel_rfl) (by kernel_rfl) (fun _ _ _ h => h) (Or.inr ⟨by rfl, rfl⟩) HX.out ?_
          try simp only [Act.put, List.setIfInBounds_toArray, List.set_cons_zero, List.set_cons_succ]
          refine wpAnyH_take (i := 12) (v := _) (by simp only [List.getElem?_toArray, List.getElem?_cons_zero, List.getElem?_cons_succ]; rfl) (by kernel_rfl) (by kernel_rfl) (by kernel_rfl) (fun _ _ _ h => h) (Or.inr ⟨by rfl, rfl⟩) HX.out ?_
          try simp only [Act.put, List.setIfInBounds_toArray, List.set_cons_zero, List.set_cons_succ]
          refine wpAnyH_take (i := 13) (v := _) (by simp only [List.getElem?_toArray, List.getElem?_cons_zero, List.getElem?_cons_succ]; rfl) (by kernel_rfl) (by kernel_rfl) (by kernel_rfl) (fun _ _ _ h => h) (Or.inr ⟨by rfl, rfl⟩) HX.out ?_
          try simp only [Act.put, List.setIfInBounds_toArray, List.set_cons_zero, List.set_cons_succ]
          refine wpAnyH_take (i := 14) (v := _) (by simp only [List.getElem?_toArray, List.getElem?_cons_zero, List.getElem?_cons_succ]; rfl) (by kernel_rfl) (by kernel_rfl) (by kernel_rfl) (fun _ _ _ h => h) (Or.inr ⟨by rfl, rfl⟩) HX.out ?_
          try simp only [Act.put, List.setIfInBounds_toArray, List.set_cons_zero, List.set_cons_succ]
          refine wpAnyH_take (i := 15) (v := _) (by simp only [List.getElem?_toArray, List.getElem?_cons_zero, List.getElem?_cons_succ]; rfl) (by kernel_rfl) (by kernel_rfl) (by kernel_rfl) (fun _ _ _ h => h) (Or.inr ⟨by rfl, rfl⟩) HX.out ?_
          try simp only [Act.put, List.setIfInBounds_toArray, List.set_cons_zero, List.set_cons_succ]
          refine wpAnyH_take (i := 16) (v := _) (by simp only [List.getElem?_toArray, List.getElem?_cons_zero, List.getElem?_cons_succ]; rfl) (by kernel_rfl) (by kernel_rfl) (by kernel_rfl) (fun _ _ _ h => h) (Or.inr ⟨by rfl, rfl⟩) HX.out ?_
          try simp only [Act.put, List.setIfInBounds_toArray, List.set_cons_zero, List.set_cons_succ]
          refine wpAnyH_take (i := 17) (v := ?_) (by simp only [List.getElem?_toArray, List.getElem?_cons_zero, List.getElem?_cons_succ]; rfl) (by kernel_rfl) (by kernel_rfl) (by kernel_rfl) (fun _ _ _ h => h) (Or.inl ⟨by rfl, ?_⟩) HX.out ?_
          case refine_2 => (intro ww hSw; have s1 := hSw; go_simp; try with_reducible rfl)
          try simp only [Act.put, List.setIfInBounds_toArray, List.set_cons_zero, List.set_cons_succ]
          refine wpAnyH_take (i := 18) (v := ?_) (by simp only [List.getElem?_toArray, List.getElem?_cons_zero, List.getElem?_cons_succ]; rfl) (by kernel_rfl) (by kernel_rfl) (by kernel_rfl) (fun _ _ _ h => h) (Or.inl ⟨by rfl, ?_⟩) HX.out ?_
          case refine_2 => (intro ww hSw; have s1 := hSw; go_simp; try with_reducible rfl)
          try simp only [Act.put, List.setIfInBounds_toArray, List.set_cons_zero, List.set_cons_succ]
          refine wpAnyH_done (by kernel_rfl) ?_ _
          refine NoPanic.normal ?_
          go_wp2_with fail
          exact ⟨⟨1, by omega, by go_num, Lib.hid (HN.out.step (nmx_at HP.out) HN1.out (fun q h => absurd h (by omega))), Lib.hid HBX.out.drew⟩, by simp [intOf]; omega⟩
        | succ m =>
          obtain ⟨b3, o3, q, ov3, cv3, om3, cm3, e3, hb3, hq, -, -, hqc, -, -⟩ := MxsIs.three (HL.out.carry keeps_MxsIs HBW.out hz) (k := m) (by omega)
          cases e3
          have HXB : Hid ((wr.alloc (.cells #[.string (kb p.1), .slice ov p.2.1.length cv, .slice om p.2.2.length cm] 142)).drew.cell? ⟨wr.heap.size, 0, none⟩ = some (.string (kb p.1)) ∧ (wr.alloc (.cells #[.string (kb p.1), .slice ov p.2.1.length cv, .slice om p.2.2.length cm] 142)).drew.cell? ⟨b1, o1 + m * 3, none⟩ = some (.string (kb q.1))) := Lib.hid ⟨HX.out, (((Below.refl _ wr).alloc (Nat.le_refl _) (.cells #[.string (kb p.1), .slice ov p.2.1.length cv, .slice om p.2.2.length cm] 142)).cell (p := ⟨b1, o1 + m * 3, none⟩) hb1).trans hqc⟩
          have HQ := Lib.hid hq
          have hql : (kb q.1).size ≤ 1048576 := by rw [← bytes_len, key_kb]; exact (HSM.out.2 q (List.mem_of_getElem? hq)).1
          clear hq hqc c0 c1 c2
          have hwm : IntKind.i64.wrap ((m : Nat) : Int) = m := IntWalk.i64_in _ (by omega)
          have hm1 : ((m : Nat) : Int) < l.length := by omega
          refine wp_region_noPanic ?_
          refine wp_region_held_drew (S := fun w' => w'.cell? ⟨wr.heap.size, 0, none⟩ = some (.string (kb p.1)) ∧ w'.cell? ⟨b1, o1 + m * 3, none⟩ = some (.string (kb q.1))) (by kernel_rfl) HXB.out (fun _ => ?_)
          simp only [List.size_toArray, List.length_cons, List.length_nil, Nat.reduceAdd]
          refine wpAnyH_take (i := 0) (v := ?_) (by simp only [List.getElem?_toArray, List.getElem?_cons_zero]; rfl) (by kernel_rfl) (by kernel_rfl) (by kernel_rfl) (fun _ _ _ h => h) (Or.inl ⟨by rfl, ?_⟩) HXB.out ?_
          case refine_2 => (intro ww hSw; obtain ⟨s1, s2⟩ := hSw; go_simp; try with_reducible rfl)
          try simp only [Act.put, List.setIfInBounds_toArray, List.set_cons_zero, List.set_cons_succ]
          refine wpAnyH_take (i := 1) (v := ?_) (by simp only [List.getElem?_toArray, List.getElem?_cons_zero, List.getElem?_cons_succ]; rfl) (by kernel_rfl) (by kernel_rfl) (by kernel_rfl) (fun _ _ _ h => h) (Or.inl ⟨by rfl, ?_⟩) HXB.out ?_
          case refine_2 => (intro ww hSw; obtain ⟨s1, s2⟩ := hSw; go_simp; try with_reducible rfl)
          try simp only [Act.put, List.setIfInBounds_toArray, List.set_cons_zero, List.set_cons_succ]
          refine wpAnyH_ready (rs := [2]) (by kernel_rfl) (by simp) ?_
          refine AllReadyH.cons (by simp only [List.getElem?_toArray, List.getElem?_cons_zero, List.getElem?_cons_succ]; rfl) (fun K' hK => ?_) AllReadyH.nil
          go_simp
          refine (isName_any (kb p.1) true _ hsz).mono ?_
          rintro e w2 ⟨rfl, rfl⟩
          rw [hn]
          refine hK.out _ _ HXB.out (fun _ => ?_)
          clear hK
          try simp only [Act.put, List.setIfInBounds_toArray, List.set_cons_zero, List.set_cons_succ]
          refine wpAnyH_take (i := 3) (v := ?_) (by simp only [List.getElem?_toArray, List.getElem?_cons_zero, List.getElem?_cons_succ]; rfl) (by kernel_rfl) (by kernel_rfl) (by kernel_rfl) (fun _ _ _ h => h) (Or.inl ⟨by rfl, ?_⟩) HXB.out ?_
          case refine_2 => (intro ww hSw; obtain ⟨s1, s2⟩ := hSw; go_simp; try with_reducible rfl)
          try simp only [Act.put, List.setIfInBounds_toArray, List.set_cons_zero, List.set_cons_succ]
          refine wpAnyH_take (i := 4) (v := ?_) (by simp only [List.getElem?_toArray, List.getElem?_cons_zero, List.getElem?_cons_succ]; rfl) (by kernel_rfl) (by kernel_rfl) (by kernel_rfl) (fun _ _ _ h => h) (Or.inl ⟨by rfl, ?_⟩) HXB.out ?_
          case refine_2 => (intro ww hSw; obtain ⟨s1, s2⟩ := hSw; go_simp; try with_reducible rfl)
          try simp only [Act.put, List.setIfInBounds_toArray, List.set_cons_zero, List.set_cons_succ]
          refine wpAnyH_take (i := 5) (v := ?_) (by simp only [List.getElem?_toArray, List.getElem?_cons_zero, List.getElem?_cons_succ]; rfl) (by kernel_rfl) (by kernel_rfl) (by kernel_rfl) (fun _ _ _ h => h) (Or.inl ⟨by rfl, ?_⟩) HXB.out ?_
          case refine_2 => (intro ww hSw; obtain ⟨s1, s2⟩ := hSw; go_simp; try with_reducible rfl)
          try simp only [Act.put, List.setIfInBounds_toArray, List.set_cons_zero, List.set_cons_succ]
          refine wpAnyH_take (i := 6) (v := ?_) (by simp only [List.getElem?_toArray, List.getElem?_cons_zero, List.getElem?_cons_succ]; rfl) (by kernel_rfl) (by kernel_rfl) (by kernel_rfl) (fun _ _ _ h => h) (Or.inl ⟨by rfl, ?_⟩) HXB.out ?_
          case refine_2 => (intro ww hSw; obtain ⟨s1, s2⟩ := hSw; go_simp; try with_reducible rfl)
          try simp only [Act.put, List.setIfInBounds_toArray, List.set_cons_zero, List.set_cons_succ]
          refine wpAnyH_take (i := 7) (v := ?_) (by simp only [List.getElem?_toArray, List.getElem?_cons_zero, List.getElem?_cons_succ]; rfl) (by kernel_rfl) (by kernel_rfl) (by kernel_rfl) (fun _ _ _ h => h) (Or.inl ⟨by rfl, ?_⟩) HXB.out ?_
          case refine_2 => (intro ww hSw; obtain ⟨s1, s2⟩ := hSw; go_simp; try with_reducible rfl)
          try simp only [Act.put, List.setIfInBounds_toArray, List.set_cons_zero, List.set_cons_succ]
          refine wpAnyH_take (i := 8) (v := ?_) (by simp only [List.getElem?_toArray, List.getElem?_cons_zero, List.getElem?_cons_succ]; rfl) (by kernel_rfl) (by kernel_rfl) (by kernel_rfl) (fun _ _ _ h => h) (Or.inl ⟨by rfl, ?_⟩) HXB.out ?_
          case refine_2 => (intro ww hSw; obtain ⟨s1, s2⟩ := hSw; go_simp; try with_reducible rfl)
          try simp only [Act.put, List.setIfInBounds_toArray, List.set_cons_zero, List.set_cons_succ]
          refine wpAnyH_take (i := 9) (v := ?_) (by simp only [List.getElem?_toArray, List.getElem?_cons_zero, List.getElem?_cons_succ]; rfl) (by kernel_rfl) (by kernel_rfl) (by kernel_rfl) (fun _ _ _ h => h) (Or.inl ⟨by rfl, ?_⟩) HXB.out ?_
          case refine_2 => (intro ww hSw; obtain ⟨s1, s2⟩ := hSw; go_simp; try with_reducible rfl)
          try simp only [Act.put, List.setIfInBounds_toArray, List.set_cons_zero, List.set_cons_succ]
          refine wpAnyH_take (i := 10) (v := ?_) (by simp only [List.getElem?_toArray, List.getElem?_cons_zero, List.getElem?_cons_succ]; rfl) (by kernel_rfl) (by kernel_rfl) (by kernel_rfl) (fun _ _ _ h => h) (Or.inl ⟨by rfl, ?_⟩) HXB.out ?_
          case refine_2 => (intro ww hSw; obtain ⟨s1, s2⟩ := hSw; go_simp; try with_reducible rfl)
          try simp only [Act.put, List.setIfInBounds_toArray, List.set_cons_zero, List.set_cons_succ]
          refine wpAnyH_take (i := 11) (v := ?_) (by simp only [List.getElem?_toArray, List.getElem?_cons_zero, List.getElem?_cons_succ]; rfl) (by kernel_rfl) (by kernel_rfl) (by kernel_rfl) (fun _ _ _ h => h) (Or.inl ⟨by rfl, ?_⟩) HXB.out ?_
          case refine_2 => (intro ww hSw; obtain ⟨s1, s2⟩ := hSw; go_simp; try with_reducible rfl)
          try simp only [Act.put, List.setIfInBounds_toArray, List.set_cons_zero, List.set_cons_succ]
          refine wpAnyH_take (i := 12) (v := ?_) (by simp only [List.getElem?_toArray, List.getElem?_cons_zero, List.getElem?_cons_succ]; rfl) (by kernel_rfl) (by kernel_rfl) (by kernel_rfl) (fun _ _ _ h => h) (Or.inl ⟨by rfl, ?_⟩) HXB.out ?_
          case refine_2 => (intro ww hSw; obtain ⟨s1, s2⟩ := hSw; go_simp; try with_reducible rfl)
          try simp only [Act.put, List.setIfInBounds_toArray, List.set_cons_zero, List.set_cons_succ]
          refine wpAnyH_take (i := 13) (v := ?_) (by simp only [List.getElem?_toArray, List.getElem?_cons_zero, List.getElem?_cons_succ]; rfl) (by kernel_rfl) (by kernel_rfl) (by kernel_rfl) (fun _ _ _ h => h) (Or.inl ⟨by rfl, ?_⟩) HXB.out ?_
          case refine_2 => (intro ww hSw; obtain ⟨s1, s2⟩ := hSw; go_simp; try with_reducible rfl)
          try simp only [Act.put, List.setIfInBounds_toArray, List.set_cons_zero, List.set_cons_succ]
          refine wpAnyH_take (i := 14) (v := ?_) (by simp only [List.getElem?_toArray, List.getElem?_cons_zero, List.getElem?_cons_succ]; rfl) (by kernel_rfl) (by kernel_rfl) (by kernel_rfl) (fun _ _ _ h => h) (Or.inl ⟨by rfl, ?_⟩) HXB.out ?_
          case refine_2 => (intro ww hSw; obtain ⟨s1, s2⟩ := hSw; go_simp; try with_reducible rfl)
          try simp only [Act.put, List.setIfInBounds_toArray, List.set_cons_zero, List.set_cons_succ]
          refine wpAnyH_take (i := 15) (v := ?_) (by simp only [List.getElem?_toArray, List.getElem?_cons_zero, List.getElem?_cons_succ]; rfl) (by kernel_rfl) (by kernel_rfl) (by kernel_rfl) (fun _ _ _ h => h) (Or.inl ⟨by rfl, ?_⟩) HXB.out ?_
          case refine_2 => (intro ww hSw; obtain ⟨s1, s2⟩ := hSw; go_simp; try with_reducible rfl)
          try simp only [Act.put, List.setIfInBounds_toArray, List.set_cons_zero, List.set_cons_succ]
          refine wpAnyH_take (i := 16) (v := ?_) (by simp only [List.getElem?_toArray, List.getElem?_cons_zero, List.getElem?_cons_succ]; rfl) (by kernel_rfl) (by kernel_rfl) (by kernel_rfl) (fun _ _ _ h => h) (Or.inl ⟨by rfl, ?_⟩) HXB.out ?_
          case refine_2 => (intro ww hSw; obtain ⟨s1, s2⟩ := hSw; go_simp; try with_reducible rfl)
          try simp only [Act.put, List.setIfInBounds_toArray, List.set_cons_zero, List.set_cons_succ]
          refine wpAnyH_take (i := 17) (v := ?_) (by simp only [List.getElem?_toArray, List.getElem?_cons_zero, List.getElem?_cons_succ]; rfl) (by kernel_rfl) (by kernel_rfl) (by kernel_rfl) (fun _ _ _ h => h) (Or.inl ⟨by rfl, ?_⟩) HXB.out ?_
          case refine_2 => (intro ww hSw; obtain ⟨s1, s2⟩ := hSw; go_simp; try with_reducible rfl)
          try simp only [Act.put, List.setIfInBounds_toArray, List.set_cons_zero, List.set_cons_succ]
          refine wpAnyH_take (i := 18) (v := ?_) (by simp only [List.getElem?_toArray, List.getElem?_cons_zero, List.getElem?_cons_succ]; rfl) (by kernel_rfl) (by kernel_rfl) (by kernel_rfl) (fun _ _ _ h => h) (Or.inl ⟨by rfl, ?_⟩) HXB.out ?_
          case refine_2 => (intro ww hSw; obtain ⟨s1, s2⟩ := hSw; go_simp; try with_reducible rfl)
          try simp only [Act.put, List.setIfInBounds_toArray, List.set_cons_zero, List.set_cons_succ]
          refine wpAnyH_done (by kernel_rfl) ?_ _
          refine NoPanic.normal ?_
          clear hwm
          generalize hr : (!Op.bytesLess (kb q.1).toList (kb p.1).toList) = r
          cases r
          · have HQP : Hid (q.1 < p.1) := Lib.hid (Classical.not_not.1 fun h => by rw [gtB_no h] at hr; cases hr)
            clear hr
            go_wp2_with fail
            exact ⟨⟨m + 1 + 1, by omega, by go_num, Lib.hid (HN.out.step (nmx_at HP.out) HN1.out (fun q' _ h1 => by rw [show m + 1 - 1 = m from rfl, nmx_at HQ.out] at h1; cases h1; exact HQP.out)), Lib.hid HBX.out.drew⟩, by simp [intOf]; omega⟩
          · have hqp : ¬ q.1 < p.1 := fun h => by rw [gtB_yes h] at hr; cases hr
            have HN0 : Hid (matC d l = 4) := Lib.hid (matC_nms hd14 h256 fun h => hqp ((h (m + 1) _ (nmx_at HP.out)).2 (nmx q) (by omega) (by rw [show m + 1 - 1 = m from rfl]; exact nmx_at HQ.out)))
            clear hqp hr
            go_wp2_with fail
            go_ret
            exact ⟨by rw [HN0.out]; rfl, HBX.out.drew⟩
    · obtain rfl : k = l.length := by omega
      have HNO : Hid (NmsOk (l.map nmx)) := Lib.hid (NmsTo.all (by rw [HML.out]; exact HN.out))
      clear HN
      go_wp2_with fail
      go_loopw [48] (fun i ww => ∃ j : Nat, j ≤ l.length ∧ i = .int .i64 j ∧ Hid (∀ q ∈ l.take j, entC d q.2.1 q.2.2 = 0) ∧ Hid (Below w.heap.size w ww)) (fun i _ => l.length - (intOf i).toNat)
      case atStart => exact ⟨0, by omega, rfl, Lib.hid (by simp), HBW⟩
      case round =>
        obtain ⟨j, hj, rfl, HA, HBV⟩ := hrel
        by_cases hjl : j < l.length
        · have hz := HBV.out.size
          obtain ⟨b1, o1, p, ov, cv, om, cm, rfl, hb1, hp, hpv, hps, c0, c1, c2⟩ := MxsIs.three (HL.out.carry keeps_MxsIs HBV.out hz) hjl
          have HP := Lib.hid hp
          have HSP := Lib.hid (HSM.out.2 p (List.mem_of_getElem? hp))
          have HBY : Hid (Below w.heap.size w (wr.alloc (.cells #[.string (kb p.1), .slice ov p.2.1.length cv, .slice om p.2.2.length cm] 142))) := Lib.hid (HBV.out.alloc hz _)
          have HPV := Lib.hid (hpv.carry ((Below.refl _ wr).alloc (Nat.le_refl _) (.cells #[.string (kb p.1), .slice ov p.2.1.length cv, .slice om p.2.2.length cm] 142)) (by simp : wr.heap.size ≤ (wr.alloc (.cells #[.string (kb p.1), .slice ov p.2.1.length cv, .slice om p.2.2.length cm] 142)).heap.size))
          have HPS := Lib.hid (hps.carry keeps_MatsU ((Below.refl _ wr).alloc (Nat.le_refl _) (.cells #[.string (kb p.1), .slice ov p.2.1.length cv, .slice om p.2.2.length cm] 142)) (by simp : wr.heap.size ≤ (wr.alloc (.cells #[.string (kb p.1), .slice ov p.2.1.length cv, .slice om p.2.2.length cm] 142)).heap.size))
          have HXB : Hid ((wr.alloc (.cells #[.string (kb p.1), .slice ov p.2.1.length cv, .slice om p.2.2.length cm] 142)).heap[wr.heap.size]? = some (.cells #[.string (kb p.1), .slice ov p.2.1.length cv, .slice om p.2.2.length cm] 142 (0, 0))) := Lib.hid (heap_new_at wr (.cells #[.string (kb p.1), .slice ov p.2.1.length cv, .slice om p.2.2.length cm] 142) _ rfl)
          clear hp hps hpv
          go_wp2_with fail
          refine (checkEntry_any d p _ _ _ HPV.out HPS.out HSP.out).mono ?_
          rintro e w2 ⟨rfl, hb⟩
          have HB2 := Lib.hid (HBY.out.trans (hb.mono HBY.out.size))
          clear hb
          by_cases hm : entC d p.2.1 p.2.2 = 0
          · have HM0 := Lib.hid hm
            have HA2 : Hid (∀ q ∈ l.take (j + 1), entC d q.2.1 q.2.2 = 0) := Lib.hid fun q hq => by
              rw [List.take_add_one, HP.out] at hq
              rcases List.mem_append.1 hq with hq | hq
              · exact HA.out q hq
              · obtain rfl : q = p := by simpa using hq
                exact HM0.out
            rw [hm]
            clear hm
            go_wp2_with fail
            exact ⟨⟨j + 1, by omega, by go_num, HA2, HB2⟩, by simp [intOf]; omega⟩
          · have HE : Hid (matC d l = entC d p.2.1 p.2.2) := Lib.hid (by rw [matC_mon hd14 h256 HNO.out, entsC_pre HA.out HP.out hm])
            have hd1 : (entC d p.2.1 p.2.2 != 0) = true := by rw [bne_iff_ne]; exact hm
            clear hm
            generalize entC d p.2.1 p.2.2 = z at *
            go_wp2_with fail
            go_ret
            exact ⟨by rw [HE.out]; rfl, HB2.out⟩
        · obtain rfl : j = l.length := by omega
          have HE : Hid (matC d l = 0) := Lib.hid (by rw [matC_mon hd14 h256 HNO.out, entsC_zero]; exact fun q hq => HA.out q (by rw [List.take_of_length_le (Nat.le_refl _)]; exact hq))
          go_wp2_with fail
          go_ret
          exact ⟨by rw [HE.out]; rfl, HBV.out⟩
set_option maxRecDepth 100000 in
set_option maxHeartbeats 8000000 in
theorem r9Check_any (dim : Int) (l : List Mx) (v : Value) (w : World) (hl : MxsIs w.heap.size w l v) (hs : mxsSm l) :
    Calls Tryz.prog 32 #[.int .i64 dim, v] w fun e w' => e = .returned (.int .i64 (matC dim l)) ∧ Below w.heap.size w w' := by
  obtain ⟨oa, cap, rfl⟩ := hl.shape
  have HL := Lib.hid hl
  have HSM := Lib.hid hs
  have hlen := hs.1
  clear hl hs
  go_enter Tryz.func32, Tryz.ntmps32
  by_cases h1 : dim < 1
  · have hdm : decide (dim < 1) = true := decide_eq_true h1
    have HE : Hid (matC dim l = 2) := Lib.hid (by unfold matC; rw [if_pos (.inl h1)])
    clear h1
    go_wp2_with fail
    go_ret
    exact ⟨by rw [HE.out]; rfl, Below.refl _ _⟩
  have hdm : decide (dim < 1) = false := decide_eq_false h1
  by_cases h4 : 4 < dim
  · have hdm4 : decide (4 < dim) = true := decide_eq_true h4
    have HE : Hid (matC dim l = 2) := Lib.hid (by unfold matC; rw [if_pos (.inr h4)])
    clear h1 h4
    go_wp2_with fail
    go_ret
    exact ⟨by rw [HE.out]; rfl, Below.refl _ _⟩
  have hdm4 : decide (4 < dim) = false := decide_eq_false h4
  obtain ⟨d, rfl⟩ : ∃ d : Nat, dim = (d : Int) := ⟨dim.toNat, by omega⟩
  have hd14 : 1 ≤ d ∧ d ≤ 4 := by omega
  clear h1 h4
  by_cases h256 : 256 < l.length
  · have hd : decide ((256 : Int) < (l.length : Int)) = true := decide_eq_true (by omega)
    have HE := Lib.hid (matC_len hd14 h256)
    clear h256
    go_wp2_with fail
    go_ret
    exact ⟨by rw [HE.out]; rfl, Below.refl _ _⟩
  have hd : decide ((256 : Int) < (l.length : Int)) = false := decide_eq_false (by omega)
  have HML : Hid ((l.map nmx).length = l.length) := Lib.hid (List.length_map _)
  go_wp2_with fail
  go_loopw [20] (fun i wr => ∃ k : Nat, k ≤ l.length ∧ i = .int .i64 k ∧ Hid (NmsTo (l.map nmx) k) ∧ Hid (Below w.heap.size w wr)) (fun i _ => l.length - (intOf i).toNat)
  case atStart => exact ⟨0, by omega, rfl, Lib.hid (fun i p hi => absurd hi (by omega)), Lib.hid (Below.refl _ _)⟩
  case round =>
    obtain ⟨k, hk, rfl, HN, HBW⟩ := hrel
    by_cases hlt : k < l.length
    · have hz := HBW.out.size
      obtain ⟨b1, o1, p, ov, cv, om, cm, rfl, hb1, hp, hpv, hps, c0, c1, c2⟩ := MxsIs.three (HL.out.carry keeps_MxsIs HBW.out hz) hlt
      have HP := Lib.hid hp
      have hsz : (kb p.1).size ≤ 1048576 := by rw [← bytes_len, key_kb]; exact (HSM.out.2 p (List.mem_of_getElem? hp)).1
      have HX : Hid ((wr.alloc (.cells #[.string (kb p.1), .slice ov p.2.1.length cv, .slice om p.2.2.length cm] 142)).drew.cell? ⟨wr.heap.size, 0, none⟩ = some (.string (kb p.1))) := Lib.hid (cells_of' (heap_new_at wr (.cells #[.string (kb p.1), .slice ov p.2.1.length cv, .slice om p.2.2.length cm] 142) _ rfl) 0)
      have HBX : Hid (Below w.heap.size w (wr.alloc (.cells #[.string (kb p.1), .slice ov p.2.1.length cv, .slice om p.2.2.length cm] 142))) := Lib.hid (HBW.out.alloc HBW.out.size _)
      clear hp hps hpv
      go_wp2_with fail
      cases hn : isName (kb p.1) true
      · have HN0 : Hid (matC d l = 4) := Lib.hid (matC_nms hd14 h256 fun h => by have := (h k _ (nmx_at HP.out)).1; rw [show (nmx p).1 = p.1 from rfl, hn] at this; cases this)
        refine wp_region_noPanic ?_
        refine wp_region_held_drew (S := fun w' => w'.cell? ⟨wr.heap.size, 0, none⟩ = some (.string (kb p.1))) (by kernel_rfl) HX.out (fun _ => ?_)
        simp only [List.size_toArray, List.length_cons, List.length_nil, Nat.reduceAdd]
        refine wpAnyH_take (i := 0) (v := ?_) (by simp only [List.getElem?_toArray, List.getElem?_cons_zero]; rfl) (by kernel_rfl) (by kernel_rfl) (by kernel_rfl) (fun _ _ _ h => h) (Or.inl ⟨by rfl, ?_⟩) HX.out ?_
        case refine_2 => (intro ww hSw; have s1 := hSw; go_simp; try with_reducible rfl)
        try simp only [Act.put, List.setIfInBounds_toArray, List.set_cons_zero, List.set_cons_succ]
        refine wpAnyH_take (i := 1) (v := ?_) (by simp only [List.getElem?_toArray, List.getElem?_cons_zero, List.getElem?_cons_succ]; rfl) (by kernel_rfl) (by kernel_rfl) (by kernel_rfl) (fun _ _ _ h => h) (Or.inl ⟨by rfl, ?_⟩) HX.out ?_
        case refine_2 => (intro ww hSw; have s1 := hSw; go_simp; try with_reducible rfl)
        try simp only [Act.put, List.setIfInBounds_toArray, List.set_cons_zero, List.set_cons_succ]
        refine wpAnyH_ready (rs := [2]) (by kernel_rfl) (by simp) ?_
        refine AllReadyH.cons (by simp only [List.getElem?_toArray, List.getElem?_cons_zero, List.getElem?_cons_succ]; rfl) (fun K' hK => ?_) AllReadyH.nil
        go_simp
        refine (risName_any (kb p.1) true _ hsz).mono ?_
        rintro e w2 ⟨rfl, rfl⟩
        rw [hn]
        refine hK.out _ _ HX.out (fun _ => ?_)
        clear hK
        try simp only [Act.put, List.setIfInBounds_toArray, List.set_cons_zero, List.set_cons_succ]
        refine wpAnyH_take (i := 3) (v := ?_) (by simp only [List.getElem?_toArray, List.getElem?_cons_zero, List.getElem?_cons_succ]; rfl) (by kernel_rfl) (by kernel_rfl) (by kernel_rfl) (fun _ _ _ h => h) (Or.inl ⟨by rfl, ?_⟩) HX.out ?_
        case refine_2 => (intro ww hSw; have s1 := hSw; go_simp; try with_reducible rfl)
        try simp only [Act.put, List.setIfInBounds_toArray, List.set_cons_zero, List.set_cons_succ]
        refine wpAnyH_take (i := 4) (v := ?_) (by simp only [List.getElem?_toArray, List.getElem?_cons_zero, List.getElem?_cons_succ]; rfl) (by kernel_rfl) (by kernel_rfl) (by kernel_rfl) (fun _ _ _ h => h) (Or.inl ⟨by rfl, ?_⟩) HX.out ?_
        case refine_2 => (intro ww hSw; have s1 := hSw; go_simp; try with_reducible rfl)
        try simp only [Act.put, List.setIfInBounds_toArray, List.set_cons_zero, List.set_cons_succ]
        refine wpAnyH_take (i := 5) (v := _) (by simp only [List.getElem?_toArray, List.getElem?_cons_zero, List.getElem?_cons_succ]; rfl) (by kernel_rfl) (by kernel_rfl) (by kernel_rfl) (fun _ _ _ h => h) (Or.inr ⟨by rfl, rfl⟩) HX.out ?_
        try simp only [Act.put, List.setIfInBounds_toArray, List.set_cons_zero, List.set_cons_succ]
        refine wpAnyH_take (i := 6) (v := _) (by simp only [List.getElem?_toArray, List.getElem?_cons_zero, List.getElem?_cons_succ]; rfl) (by kernel_rfl) (by kernel_rfl) (by kernel_rfl) (fun _ _ _ h => h) (Or.inr ⟨by rfl, rfl⟩) HX.out ?_
        try simp only [Act.put, List.setIfInBounds_toArray, List.set_cons_zero, List.set_cons_succ]
        refine wpAnyH_take (i := 7) (v := _) (by simp only [List.getElem?_toArray, List.getElem?_cons_zero, List.getElem?_cons_succ]; rfl) (by kernel_rfl) (by kernel_rfl) (by kernel_rfl) (fun _ _ _ h => h) (Or.inr ⟨by rfl, rfl⟩) HX.out ?_
        try simp only [Act.put, List.setIfInBounds_toArray, List.set_cons_zero, List.set_cons_succ]
        refine wpAnyH_take (i := 8) (v := _) (by simp only [List.getElem?_toArray, List.getElem?_cons_zero, List.getElem?_cons_succ]; rfl) (by kernel_rfl) (by kernel_rfl) (by kernel_rfl) (fun _ _ _ h => h) (Or.inr ⟨by rfl, rfl⟩) HX.out ?_
        try simp only [Act.put, List.setIfInBounds_toArray, List.set_cons_zero, List.set_cons_succ]
        refine wpAnyH_take (i := 9) (v := _) (by simp only [List.getElem?_toArray, List.getElem?_cons_zero, List.getElem?_cons_succ]; rfl) (by kernel_rfl) (by kernel_rfl) (by kernel_rfl) (fun _ _ _ h => h) (Or.inr ⟨by rfl, rfl⟩) HX.out ?_
        try simp only [Act.put, List.setIfInBounds_toArray, List.set_cons_zero, List.set_cons_succ]
        refine wpAnyH_take (i := 10) (v := _) (by simp only [List.getElem?_toArray, List.getElem?_cons_zero, List.getElem?_cons_succ]; rfl) (by kernel_rfl) (by kernel_rfl) (by kernel_rfl) (fun _ _ _ h => h) (Or.inr ⟨by rfl, rfl⟩) HX.out ?_
        try simp only [Act.put, List.setIfInBounds_toArray, List.set_cons_zero, List.set_cons_succ]
        refine wpAnyH_take (i := 11) (v := _) (by simp only [List.getElem?_toArray, List.getElem?_cons_zero, List.getElem?_cons_succ]; rfl) (by kernel_rfl) (by kernel_rfl) (by kernel_rfl) (fun _ _ _ h => h) (Or.inr ⟨by rfl, rfl⟩) HX.out ?_
        try simp only [Act.put, List.setIfInBounds_toArray, List.set_cons_zero, List.set_cons_succ]
        refine wpAnyH_take (i := 12) (v := _) (by simp only [List.getElem?_toArray, List.getElem?_cons_zero, List.getElem?_cons_succ]; rfl) (by kernel_rfl) (by kernel_rfl) (by kernel_rfl) (fun _ _ _ h => h) (Or.inr ⟨by rfl, rfl⟩) HX.out ?_
        try simp only [Act.put, List.setIfInBounds_toArray, List.set_cons_zero, List.set_cons_succ]
        refine wpAnyH_take (i := 13) (v := _) (by simp only [List.getElem?_toArray, List.getElem?_cons_zero, List.getElem?_cons_succ]; rfl) (by kernel_rfl) (by kernel_rfl) (by kernel_rfl) (fun _ _ _ h => h) (Or.inr ⟨by rfl, rfl⟩) HX.out ?_
        try simp only [Act.put, List.setIfInBounds_toArray, List.set_cons_zero, List.set_cons_succ]
        refine wpAnyH_take (i := 14) (v := _) (by simp only [List.getElem?_toArray, List.getElem?_cons_zero, List.getElem?_cons_succ]; rfl) (by kernel_rfl) (by kernel_rfl) (by kernel_rfl) (fun _ _ _ h => h) (Or.inr ⟨by rfl, rfl⟩) HX.out ?_
        try simp only [Act.put, List.setIfInBounds_toArray, List.set_cons_zero, List.set_cons_succ]
        refine wpAnyH_take (i := 15) (v := _) (by simp only [List.getElem?_toArray, List.getElem?_cons_zero, List.getElem?_cons_succ]; rfl) (by kernel_rfl) (by kernel_rfl) (by kernel_rfl) (fun _ _ _ h => h) (Or.inr ⟨by rfl, rfl⟩) HX.out ?_
        try simp only [Act.put, List.setIfInBounds_toArray, List.set_cons_zero, List.set_cons_succ]
        refine wpAnyH_take (i := 16) (v := _) (by simp only [List.getElem?_toArray, List.getElem?_cons_zero, List.getElem?_cons_succ]; rfl) (by kernel_rfl) (by kernel_rfl) (by kernel_rfl) (fun _ _ _ h => h) (Or.inr ⟨by rfl, rfl⟩) HX.out ?_
        try simp only [Act.put, List.setIfInBounds_toArray, List.set_cons_zero, List.set_cons_succ]
        refine wpAnyH_take (i := 17) (v := _) (by simp only [List.getElem?_toArray, List.getElem?_cons_zero, List.getElem?_cons_succ]; rfl) (by kernel_rfl) (by kernel_rfl) (by kernel_rfl) (fun _ _ _ h => h) (Or.inr ⟨by rfl, rfl⟩) HX.out ?_
        try simp only [Act.put, List.setIfInBounds_toArray, List.set_cons_zero, List.set_cons_succ]
        refine wpAnyH_take (i := 18) (v := _) (by simp only [List.getElem?_toArray, List.getElem?_cons_zero, List.getElem?_cons_succ]; rfl) (by kernel_rfl) (by kernel_rfl) (by kernel_rfl) (fun _ _ _ h => h) (Or.inr ⟨by rfl, rfl⟩) HX.out ?_
        try simp only [Act.put, List.setIfInBounds_toArray, List.set_cons_zero, List.set_cons_succ]
        refine wpAnyH_take (i := 19) (v := ?_) (by simp only [List.getElem?_toArray, List.getElem?_cons_zero, List.getElem?_cons_succ]; rfl) (by kernel_rfl) (by kernel_rfl) (by kernel_rfl) (fun _ _ _ h => h) (Or.inl ⟨by rfl, ?_⟩) HX.out ?_
        case refine_2 => (intro ww hSw; have s1 := hSw; go_simp; try with_reducible rfl)
        try simp only [Act.put, List.setIfInBounds_toArray, List.set_cons_zero, List.set_cons_succ]
        refine wpAnyH_done (by kernel_rfl) ?_ _
        refine NoPanic.normal ?_
        go_wp2_with fail
        go_ret
        exact ⟨by rw [HN0.out]; rfl, HBX.out.drew⟩
      · have HN1 := Lib.hid hn
        cases k with
        | zero =>
          refine wp_region_noPanic ?_
          refine wp_region_held_drew (S := fun w' => w'.cell? ⟨wr.heap.size, 0, none⟩ = some (.string (kb p.1))) (by kernel_rfl) HX.out (fun _ => ?_)
          simp only [List.size_toArray, List.length_cons, List.length_nil, Nat.reduceAdd]
          refine wpAnyH_take (i := 0) (v := ?_) (by simp only [List.getElem?_toArray, List.getElem?_cons_zero]; rfl) (by kernel_rfl) (by kernel_rfl) (by kernel_rfl) (fun _ _ _ h => h) (Or.inl ⟨by rfl, ?_⟩) HX.out ?_
          case refine_2 => (intro ww hSw; have s1 := hSw; go_simp; try with_reducible rfl)
          try simp only [Act.put, List.setIfInBounds_toArray, List.set_cons_zero, List.set_cons_succ]
          refine wpAnyH_take (i := 1) (v := ?_) (by simp only [List.getElem?_toArray, List.getElem?_cons_zero, List.getElem?_cons_succ]; rfl) (by kernel_rfl) (by kernel_rfl) (by kernel_rfl) (fun _ _ _ h => h) (Or.inl ⟨by rfl, ?_⟩) HX.out ?_
          case refine_2 => (intro ww hSw; have s1 := hSw; go_simp; try with_reducible rfl)
          try simp only [Act.put, List.setIfInBounds_toArray, List.set_cons_zero, List.set_cons_succ]
          refine wpAnyH_ready (rs := [2]) (by kernel_rfl) (by simp) ?_
          refine AllReadyH.cons (by simp only [List.getElem?_toArray, List.getElem?_cons_zero, List.getElem?_cons_succ]; rfl) (fun K' hK => ?_) AllReadyH.nil
          go_simp
          refine (risName_any (kb p.1) true _ hsz).mono ?_
          rintro e w2 ⟨rfl, rfl⟩
          rw [hn]
          refine hK.out _ _ HX.out (fun _ => ?_)
          clear hK
          try simp only [Act.put, List.setIfInBounds_toArray, List.set_cons_zero, List.set_cons_succ]
          refine wpAnyH_take (i := 3) (v := ?_) (by simp only [List.getElem?_toArray, List.getElem?_cons_zero, List.getElem?_cons_succ]; rfl) (by kernel_rfl) (by kernel_rfl) (by kernel_rfl) (fun _ _ _ h => h) (Or.inl ⟨by rfl, ?_⟩) HX.out ?_
          case refine_2 => (intro ww hSw; have s1 := hSw; go_simp; try with_reducible rfl)
          try simp only [Act.put, List.setIfInBounds_toArray, List.set_cons_zero, List.set_cons_succ]
          refine wpAnyH_take (i := 4) (v := ?_) (by simp only [List.getElem?_toArray, List.getElem?_cons_zero, List.getElem?_cons_succ]; rfl) (by kernel_rfl) (by kernel_rfl) (by kernel_rfl) (fun _ _ _ h => h) (Or.inl ⟨by rfl, ?_⟩) HX.out ?_
          case refine_2 => (intro ww hSw; have s1 := hSw; go_simp; try with_reducible rfl)
          try simp only [Act.put, List.setIfInBounds_toArray, List.set_cons_zero, List.set_cons_succ]
          refine wpAnyH_take (i := 5) (v := ?_) (by simp only [List.getElem?_toArray, List.getElem?_cons_zero, List.getElem?_cons_succ]; rfl) (by kernel_rfl) (by kernel_rfl) (by kernel_rfl) (fun _ _ _ h => h) (Or.inl ⟨by rfl, ?_⟩) HX.out ?_
          case refine_2 => (intro ww hSw; have s1 := hSw; go_simp; try with_reducible rfl)
          try simp only [Act.put, List.setIfInBounds_toArray, List.set_cons_zero, List.set_cons_succ]
          refine wpAnyH_take (i := 6) (v := ?_) (by simp only [List.getElem?_toArray, List.getElem?_cons_zero, List.getElem?_cons_succ]; rfl) (by kernel_rfl) (by kernel_rfl) (by kernel_rfl) (fun _ _ _ h => h) (Or.inl ⟨by rfl, ?_⟩) HX.out ?_
          case refine_2 => (intro ww hSw; have s1 := hSw; go_simp; try with_reducible rfl)
          try simp only [Act.put, List.setIfInBounds_toArray, List.set_cons_zero, List.set_cons_succ]
          refine wpAnyH_take (i := 7) (v := ?_) (by simp only [List.getElem?_toArray, List.getElem?_cons_zero, List.getElem?_cons_succ]; rfl) (by kernel_rfl) (by kernel_rfl) (by kernel_rfl) (fun _ _ _ h => h) (Or.inl ⟨by rfl, ?_⟩) HX.out ?_
          case refine_2 => (intro ww hSw; have s1 := hSw; go_simp; try with_reducible rfl)
          try simp only [Act.put, List.setIfInBounds_toArray, List.set_cons_zero, List.set_cons_succ]
          refine wpAnyH_take (i := 8) (v := _) (by simp only [List.getElem?_toArray, List.getElem?_cons_zero, List.getElem?_cons_succ]; rfl) (by kernel_rfl) (by kernel_rfl) (by kernel_rfl) (fun _ _ _ h => h) (Or.inr ⟨by rfl, rfl⟩) HX.out ?_
          try simp only [Act.put, List.setIfInBounds_toArray, List.set_cons_zero, List.set_cons_succ]
          refine wpAnyH_take (i := 9) (v := _) (by simp only [List.getElem?_toArray, List.getElem?_cons_zero, List.getElem?_cons_succ]; rfl) (by kernel_rfl) (by kernel_rfl) (by kernel_rfl) (fun _ _ _ h => h) (Or.inr ⟨by rfl, rfl⟩) HX.out ?_
          try simp only [Act.put, List.setIfInBounds_toArray, List.set_cons_zero, List.set_cons_succ]
          refine wpAnyH_take (i := 10) (v := _) (by simp only [List.getElem?_toArray, List.getElem?_cons_zero, List.getElem?_cons_succ]; rfl) (by kernel_rfl) (by kernel_rfl) (by kernel_rfl) (fun _ _ _ h => h) (Or.inr ⟨by rfl, rfl⟩) HX.out ?_
          try simp only [Act.put, List.setIfInBounds_toArray, List.set_cons_zero, List.set_cons_succ]
          refine wpAnyH_take (i := 11) (v := _) (by simp only [List.getElem?_toArray, List.getElem?_cons_zero, List.getElem?_cons_succ]; rfl) (by kernel_rfl) (by kernel_rfl) (by kernel_rfl) (fun _ _ _ h => h) (Or.inr ⟨by rfl, rfl⟩) HX.out ?_
          try simp only [Act.put, List.setIfInBounds_toArray, List.set_cons_zero, List.set_cons_succ]
          refine wpAnyH_take (i := 12) (v := _) (by simp only [List.getElem?_toArray, List.getElem?_cons_zero, List.getElem?_cons_succ]; rfl) (by kernel_rfl) (by kernel_rfl) (by kernel_rfl) (fun _ _ _ h => h) (Or.inr ⟨by rfl, rfl⟩) HX.out ?_
          try simp only [Act.put, List.setIfInBounds_toArray, List.set_cons_zero, List.set_cons_succ]
          refine wpAnyH_take (i := 13) (v := _) (by simp only [List.getElem?_toArray, List.getElem?_cons_zero, List.getElem?_cons_succ]; rfl) (by kernel_rfl) (by kernel_rfl) (by kernel_rfl) (fun _ _ _ h => h) (Or.inr ⟨by rfl, rfl⟩) HX.out ?_
          try simp only [Act.put, List.setIfInBounds_toArray, List.set_cons_zero, List.set_cons_succ]
          refine wpAnyH_take (i := 14) (v := _) (by simp only [List.getElem?_toArray, List.getElem?_cons_zero, List.getElem?_cons_succ]; rfl) (by kernel_rfl) (by kernel_rfl) (by kernel_rfl) (fun _ _ _ h => h) (Or.inr ⟨by rfl, rfl⟩) HX.out ?_
          try simp only [Act.put, List.setIfInBounds_toArray, List.set_cons_zero, List.set_cons_succ]
          refine wpAnyH_take (i := 15) (v := _) (by simp only [List.getElem?_toArray, List.getElem?_cons_zero, List.getElem?_cons_succ]; rfl) (by kernel_rfl) (by kernel_rfl) (by kernel_rfl) (fun _ _ _ h => h) (Or.inr ⟨by rfl, rfl⟩) HX.out ?_
          try simp only [Act.put, List.setIfInBounds_toArray, List.set_cons_zero, List.set_cons_succ]
          refine wpAnyH_take (i := 16) (v := _) (by simp only [List.getElem?_toArray, List.getElem?_cons_zero, List.getElem?_cons_succ]; rfl) (by kernel_rfl) (by kernel_rfl) (by kernel_rfl) (fun _ _ _ h => h) (Or.inr ⟨by rfl, rfl⟩) HX.out ?_
          try simp only [Act.put, List.setIfInBounds_toArray, List.set_cons_zero, List.set_cons_succ]
          refine wpAnyH_take (i := 17) (v := _) (by simp only [List.getElem?_toArray, List.getElem?_cons_zero, List.getElem?_cons_succ]; rfl) (by kernel_rfl) (by kernel_rfl) (by kernel_rfl) (fun _ _ _ h => h) (Or.inr ⟨by rfl, rfl⟩) HX.out ?_
          try simp only [Act.put, List.setIfInBounds_toArray, List.set_cons_zero, List.set_cons_succ]
          refine wpAnyH_take (i := 18) (v := ?_) (by simp only [List.getElem?_toArray, List.getElem?_cons_zero, List.getElem?_cons_succ]; rfl) (by kernel_rfl) (by kernel_rfl) (by kernel_rfl) (fun _ _ _ h => h) (Or.inl ⟨by rfl, ?_⟩) HX.out ?_
          case refine_2 => (intro ww hSw; have s1 := hSw; go_simp; try with_reducible rfl)
          try simp only [Act.put, List.setIfInBounds_toArray, List.set_cons_zero, List.set_cons_succ]
          refine wpAnyH_take (i := 19) (v := ?_) (by simp only [List.getElem?_toArray, List.getElem?_cons_zero, List.getElem?_cons_succ]; rfl) (by kernel_rfl) (by kernel_rfl) (by kernel_rfl) (fun _ _ _ h => h) (Or.inl ⟨by rfl, ?_⟩) HX.out ?_
          case refine_2 => (intro ww hSw; have s1 := hSw; go_simp; try with_reducible rfl)
          try simp only [Act.put, List.setIfInBounds_toArray, List.set_cons_zero, List.set_cons_succ]
          refine wpAnyH_done (by kernel_rfl) ?_ _
          refine NoPanic.normal ?_
          go_wp2_with fail
          exact ⟨⟨1, by omega, by go_num, Lib.hid (HN.out.step (nmx_at HP.out) HN1.out (fun q h => absurd h (by omega))), Lib.hid HBX.out.drew⟩, by simp [intOf]; omega⟩
        | succ m =>
          obtain ⟨b3, o3, q, ov3, cv3, om3, cm3, e3, hb3, hq, -, -, hqc, -, -⟩ := MxsIs.three (HL.out.carry keeps_MxsIs HBW.out hz) (k := m) (by omega)
          cases e3
          have HXB : Hid ((wr.alloc (.cells #[.string (kb p.1), .slice ov p.2.1.length cv, .slice om p.2.2.length cm] 142)).drew.cell? ⟨wr.heap.size, 0, none⟩ = some (.string (kb p.1)) ∧ (wr.alloc (.cells #[.string (kb p.1), .slice ov p.2.1.length cv, .slice om p.2.2.length cm] 142)).drew.cell? ⟨b1, o1 + m * 3, none⟩ = some (.string (kb q.1))) := Lib.hid ⟨HX.out, (((Below.refl _ wr).alloc (Nat.le_refl _) (.cells #[.string (kb p.1), .slice ov p.2.1.length cv, .slice om p.2.2.length cm] 142)).cell (p := ⟨b1, o1 + m * 3, none⟩) hb1).trans hqc⟩
          have HQ := Lib.hid hq
          have hql : (kb q.1).size ≤ 1048576 := by rw [← bytes_len, key_kb]; exact (HSM.out.2 q (List.mem_of_getElem? hq)).1
          clear hq hqc c0 c1 c2
          have hwm : IntKind.i64.wrap ((m : Nat) : Int) = m := IntWalk.i64_in _ (by omega)
          have hm1 : ((m : Nat) : Int) < l.length := by omega
          refine wp_region_noPanic ?_
          refine wp_region_held_drew (S := fun w' => w'.cell? ⟨wr.heap.size, 0, none⟩ = some (.string (kb p.1)) ∧ w'.cell? ⟨b1, o1 + m * 3, none⟩ = some (.string (kb q.1))) (by kernel_rfl) HXB.out (fun _ => ?_)
          simp only [List.size_toArray, List.length_cons, List.length_nil, Nat.reduceAdd]
          refine wpAnyH_take (i := 0) (v := ?_) (by simp only [List.getElem?_toArray, List.getElem?_cons_zero]; rfl) (by kernel_rfl) (by kernel_rfl) (by kernel_rfl) (fun _ _ _ h => h) (Or.inl ⟨by rfl, ?_⟩) HXB.out ?_
          case refine_2 => (intro ww hSw; obtain ⟨s1, s2⟩ := hSw; go_simp; try with_reducible rfl)
          try simp only [Act.put, List.setIfInBounds_toArray, List.set_cons_zero, List.set_cons_succ]
          refine wpAnyH_take (i := 1) (v := ?_) (by simp only [List.getElem?_toArray, List.getElem?_cons_zero, List.getElem?_cons_succ]; rfl) (by kernel_rfl) (by kernel_rfl) (by kernel_rfl) (fun _ _ _ h => h) (Or.inl ⟨by rfl, ?_⟩) HXB.out ?_
          case refine_2 => (intro ww hSw; obtain ⟨s1, s2⟩ := hSw; go_simp; try with_reducible rfl)
          try simp only [Act.put, List.setIfInBounds_toArray, List.set_cons_zero, List.set_cons_succ]
          refine wpAnyH_ready (rs := [2]) (by kernel_rfl) (by simp) ?_
          refine AllReadyH.cons (by simp only [List.getElem?_toArray, List.getElem?_cons_zero, List.getElem?_cons_succ]; rfl) (fun K' hK => ?_) AllReadyH.nil
          go_simp
          refine (risName_any (kb p.1) true _ hsz).mono ?_
          rintro e w2 ⟨rfl, rfl⟩
          rw [hn]
          refine hK.out _ _ HXB.out (fun _ => ?_)
          clear hK
          try simp only [Act.put, List.setIfInBounds_toArray, List.set_cons_zero, List.set_cons_succ]
          refine wpAnyH_take (i := 3) (v := ?_) (by simp only [List.getElem?_toArray, List.getElem?_cons_zero, List.getElem?_cons_succ]; rfl) (by kernel_rfl) (by kernel_rfl) (by kernel_rfl) (fun _ _ _ h => h) (Or.inl ⟨by rfl, ?_⟩) HXB.out ?_
          case refine_2 => (intro ww hSw; obtain ⟨s1, s2⟩ := hSw; go_simp; try with_reducible rfl)
          try simp only [Act.put, List.setIfInBounds_toArray, List.set_cons_zero, List.set_cons_succ]
          refine wpAnyH_take (i := 4) (v := ?_) (by simp only [List.getElem?_toArray, List.getElem?_cons_zero, List.getElem?_cons_succ]; rfl) (by kernel_rfl) (by kernel_rfl) (by kernel_rfl) (fun _ _ _ h => h) (Or.inl ⟨by rfl, ?_⟩) HXB.out ?_
          case refine_2 => (intro ww hSw; obtain ⟨s1, s2⟩ := hSw; go_simp; try with_reducible rfl)
          try simp only [Act.put, List.setIfInBounds_toArray, List.set_cons_zero, List.set_cons_succ]
          refine wpAnyH_take (i := 5) (v := ?_) (by simp only [List.getElem?_toArray, List.getElem?_cons_zero, List.getElem?_cons_succ]; rfl) (by kernel_rfl) (by kernel_rfl) (by kernel_rfl) (fun _ _ _ h => h) (Or.inl ⟨by rfl, ?_⟩) HXB.out ?_
          case refine_2 => (intro ww hSw; obtain ⟨s1, s2⟩ := hSw; go_simp; try with_reducible rfl)
          try simp only [Act.put, List.setIfInBounds_toArray, List.set_cons_zero, List.set_cons_succ]
          refine wpAnyH_take (i := 6) (v := ?_) (by simp only [List.getElem?_toArray, List.getElem?_cons_zero, List.getElem?_cons_succ]; rfl) (by kernel_rfl) (by kernel_rfl) (by kernel_rfl) (fun _ _ _ h => h) (Or.inl ⟨by rfl, ?_⟩) HXB.out ?_
          case refine_2 => (intro ww hSw; obtain ⟨s1, s2⟩ := hSw; go_simp; try with_reducible rfl)
          try simp only [Act.put, List.setIfInBounds_toArray, List.set_cons_zero, List.set_cons_succ]
          refine wpAnyH_take (i := 7) (v := ?_) (by simp only [List.getElem?_toArray, List.getElem?_cons_zero, List.getElem?_cons_succ]; rfl) (by kernel_rfl) (by kernel_rfl) (by kernel_rfl) (fun _ _ _ h => h) (Or.inl ⟨by rfl, ?_⟩) HXB.out ?_
          case refine_2 => (intro ww hSw; obtain ⟨s1, s2⟩ := hSw; go_simp; try with_reducible rfl)
          try simp only [Act.put, List.setIfInBounds_toArray, List.set_cons_zero, List.set_cons_succ]
          refine wpAnyH_take (i := 8) (v := ?_) (by simp only [List.getElem?_toArray, List.getElem?_cons_zero, List.getElem?_cons_succ]; rfl) (by kernel_rfl) (by kernel_rfl) (by kernel_rfl) (fun _ _ _ h => h) (Or.inl ⟨by rfl, ?_⟩) HXB.out ?_
          case refine_2 => (intro ww hSw; obtain ⟨s1, s2⟩ := hSw; go_simp; try with_reducible rfl)
          try simp only [Act.put, List.setIfInBounds_toArray, List.set_cons_zero, List.set_cons_succ]
          refine wpAnyH_take (i := 9) (v := ?_) (by simp only [List.getElem?_toArray, List.getElem?_cons_zero, List.getElem?_cons_succ]; rfl) (by kernel_rfl) (by kernel_rfl) (by kernel_rfl) (fun _ _ _ h => h) (Or.inl ⟨by rfl, ?_⟩) HXB.out ?_
          case refine_2 => (intro ww hSw; obtain ⟨s1, s2⟩ := hSw; go_simp; try with_reducible rfl)
          try simp only [Act.put, List.setIfInBounds_toArray, List.set_cons_zero, List.set_cons_succ]
          refine wpAnyH_take (i := 10) (v := ?_) (by simp only [List.getElem?_toArray, List.getElem?_cons_zero, List.getElem?_cons_succ]; rfl) (by kernel_rfl) (by kernel_rfl) (by kernel_rfl) (fun _ _ _ h => h) (Or.inl ⟨by rfl, ?_⟩) HXB.out ?_
          case refine_2 => (intro ww hSw; obtain ⟨s1, s2⟩ := hSw; go_simp; try with_reducible rfl)
          try simp only [Act.put, List.setIfInBounds_toArray, List.set_cons_zero, List.set_cons_succ]
          refine wpAnyH_take (i := 11) (v := ?_) (by simp only [List.getElem?_toArray, List.getElem?_cons_zero, List.getElem?_cons_succ]; rfl) (by kernel_rfl) (by kernel_rfl) (by kernel_rfl) (fun _ _ _ h => h) (Or.inl ⟨by rfl, ?_⟩) HXB.out ?_
          case refine_2 => (intro ww hSw; obtain ⟨s1, s2⟩ := hSw; go_simp; try with_reducible rfl)
          try simp only [Act.put, List.setIfInBounds_toArray, List.set_cons_zero, List.set_cons_succ]
          refine wpAnyH_take (i := 12) (v := ?_) (by simp only [List.getElem?_toArray, List.getElem?_cons_zero, List.getElem?_cons_succ]; rfl) (by kernel_rfl) (by kernel_rfl) (by kernel_rfl) (fun _ _ _ h => h) (Or.inl ⟨by rfl, ?_⟩) HXB.out ?_
          case refine_2 => (intro ww hSw; obtain ⟨s1, s2⟩ := hSw; go_simp; try with_reducible rfl)
          try simp only [Act.put, List.setIfInBounds_toArray, List.set_cons_zero, List.set_cons_succ]
          refine wpAnyH_take (i := 13) (v := ?_) (by simp only [List.getElem?_toArray, List.getElem?_cons_zero, List.getElem?_cons_succ]; rfl) (by kernel_rfl) (by kernel_rfl) (by kernel_rfl) (fun _ _ _ h => h) (Or.inl ⟨by rfl, ?_⟩) HXB.out ?_
          case refine_2 => (intro ww hSw; obtain ⟨s1, s2⟩ := hSw; go_simp; try with_reducible rfl)
          try simp only [Act.put, List.setIfInBounds_toArray, List.set_cons_zero, List.set_cons_succ]
          refine wpAnyH_take (i := 14) (v := ?_) (by simp only [List.getElem?_toArray, List.getElem?_cons_zero, List.getElem?_cons_succ]; rfl) (by kernel_rfl) (by kernel_rfl) (by kernel_rfl) (fun _ _ _ h => h) (Or.inl ⟨by rfl, ?_⟩) HXB.out ?_
          case refine_2 => (intro ww hSw; obtain ⟨s1, s2⟩ := hSw; go_simp; try with_reducible rfl)
          try simp only [Act.put, List.setIfInBounds_toArray, List.set_cons_zero, List.set_cons_succ]
          refine wpAnyH_take (i := 15) (v := ?_) (by simp only [List.getElem?_toArray, List.getElem?_cons_zero, List.getElem?_cons_succ]; rfl) (by kernel_rfl) (by kernel_rfl) (by kernel_rfl) (fun _ _ _ h => h) (Or.inl ⟨by rfl, ?_⟩) HXB.out ?_
          case refine_2 => (intro ww hSw; obtain ⟨s1, s2⟩ := hSw; go_simp; try with_reducible rfl)
          try simp only [Act.put, List.setIfInBounds_toArray, List.set_cons_zero, List.set_cons_succ]
          refine wpAnyH_ready (rs := [16]) (by kernel_rfl) (by simp) ?_
          refine AllReadyH.cons (by simp only [List.getElem?_toArray, List.getElem?_cons_zero, List.getElem?_cons_succ]; rfl) (fun K' hK => ?_) AllReadyH.nil
          go_simp
          refine (cmpNames_quiet (kb q.1) (kb p.1) _ hql hsz).mono ?_
          rintro e w2 ⟨rfl, mq, rfl⟩
          have HXC : Hid ((((wr.alloc (.cells #[.string (kb p.1), .slice ov p.2.1.length cv, .slice om p.2.2.length cm] 142)).drew).drewN mq).cell? ⟨wr.heap.size, 0, none⟩ = some (.string (kb p.1)) ∧ (((wr.alloc (.cells #[.string (kb p.1), .slice ov p.2.1.length cv, .slice om p.2.2.length cm] 142)).drew).drewN mq).cell? ⟨b1, o1 + m * 3, none⟩ = some (.string (kb q.1))) := HXB
          refine hK.out _ _ HXC.out (fun _ => ?_)
          clear hK
          try simp only [Act.put, List.setIfInBounds_toArray, List.set_cons_zero, List.set_cons_succ]
          refine wpAnyH_take (i := 17) (v := ?_) (by simp only [List.getElem?_toArray, List.getElem?_cons_zero, List.getElem?_cons_succ]; rfl) (by kernel_rfl) (by kernel_rfl) (by kernel_rfl) (fun _ _ _ h => h) (Or.inl ⟨by rfl, ?_⟩) HXC.out ?_
          case refine_2 => (intro ww hSw; obtain ⟨s1, s2⟩ := hSw; go_simp; try with_reducible rfl)
          try simp only [Act.put, List.setIfInBounds_toArray, List.set_cons_zero, List.set_cons_succ]
          refine wpAnyH_take (i := 18) (v := ?_) (by simp only [List.getElem?_toArray, List.getElem?_cons_zero, List.getElem?_cons_succ]; rfl) (by kernel_rfl) (by kernel_rfl) (by kernel_rfl) (fun _ _ _ h => h) (Or.inl ⟨by rfl, ?_⟩) HXC.out ?_
          case refine_2 => (intro ww hSw; obtain ⟨s1, s2⟩ := hSw; go_simp; try with_reducible rfl)
          try simp only [Act.put, List.setIfInBounds_toArray, List.set_cons_zero, List.set_cons_succ]
          refine wpAnyH_take (i := 19) (v := ?_) (by simp only [List.getElem?_toArray, List.getElem?_cons_zero, List.getElem?_cons_succ]; rfl) (by kernel_rfl) (by kernel_rfl) (by kernel_rfl) (fun _ _ _ h => h) (Or.inl ⟨by rfl, ?_⟩) HXC.out ?_
          case refine_2 => (intro ww hSw; obtain ⟨s1, s2⟩ := hSw; go_simp; try with_reducible rfl)
          try simp only [Act.put, List.setIfInBounds_toArray, List.set_cons_zero, List.set_cons_succ]
          refine wpAnyH_done (by kernel_rfl) ?_ _
          refine NoPanic.normal ?_
          clear hwm
          by_cases hc : q.1 < p.1
          · have HQP := Lib.hid hc
            have hc1 : cmpN (kb q.1) (kb p.1) < 0 := cmpN_lt9.2 hc
            have hc2 : decide (0 ≤ cmpN (kb q.1) (kb p.1)) = false := decide_eq_false (by omega)
            clear hc
            go_wp2_with fail
            exact ⟨⟨m + 1 + 1, by omega, by go_num, Lib.hid (HN.out.step (nmx_at HP.out) HN1.out (fun q' _ h1 => by rw [show m + 1 - 1 = m from rfl, nmx_at HQ.out] at h1; cases h1; exact HQP.out)), Lib.hid (below_drewN _ HBX.out)⟩, by simp [intOf]; omega⟩
          · have hqp : ¬ q.1 < p.1 := hc
            have hc1 : ¬ cmpN (kb q.1) (kb p.1) < 0 := fun h => hc (cmpN_lt9.1 h)
            have hc2 : decide (0 ≤ cmpN (kb q.1) (kb p.1)) = true := decide_eq_true (by omega)
            have HN0 : Hid (matC d l = 4) := Lib.hid (matC_nms hd14 h256 fun h => hqp ((h (m + 1) _ (nmx_at HP.out)).2 (nmx q) (by omega) (by rw [show m + 1 - 1 = m from rfl]; exact nmx_at HQ.out)))
            clear hqp hc
            go_wp2_with fail
            go_ret
            exact ⟨by rw [HN0.out]; rfl, below_drewN _ HBX.out⟩
    · obtain rfl : k = l.length := by omega
      have HNO : Hid (NmsOk (l.map nmx)) := Lib.hid (NmsTo.all (by rw [HML.out]; exact HN.out))
      clear HN
      go_wp2_with fail
      go_loopw [48] (fun i ww => ∃ j : Nat, j ≤ l.length ∧ i = .int .i64 j ∧ Hid (∀ q ∈ l.take j, entC d q.2.1 q.2.2 = 0) ∧ Hid (Below w.heap.size w ww)) (fun i _ => l.length - (intOf i).toNat)
      case atStart => exact ⟨0, by omega, rfl, Lib.hid (by simp), HBW⟩
      case round =>
        obtain ⟨j, hj, rfl, HA, HBV⟩ := hrel
        by_cases hjl : j < l.length
        · have hz := HBV.out.size
          obtain ⟨b1, o1, p, ov, cv, om, cm, rfl, hb1, hp, hpv, hps, c0, c1, c2⟩ := MxsIs.three (HL.out.carry keeps_MxsIs HBV.out hz) hjl
          have HP := Lib.hid hp
          have HSP := Lib.hid (HSM.out.2 p (List.mem_of_getElem? hp))
          have HBY : Hid (Below w.heap.size w (wr.alloc (.cells #[.string (kb p.1), .slice ov p.2.1.length cv, .slice om p.2.2.length cm] 142))) := Lib.hid (HBV.out.alloc hz _)
          have HPV := Lib.hid (hpv.carry ((Below.refl _ wr).alloc (Nat.le_refl _) (.cells #[.string (kb p.1), .slice ov p.2.1.length cv, .slice om p.2.2.length cm] 142)) (by simp : wr.heap.size ≤ (wr.alloc (.cells #[.string (kb p.1), .slice ov p.2.1.length cv, .slice om p.2.2.length cm] 142)).heap.size))
          have HPS := Lib.hid (hps.carry keeps_MatsU ((Below.refl _ wr).alloc (Nat.le_refl _) (.cells #[.string (kb p.1), .slice ov p.2.1.length cv, .slice om p.2.2.length cm] 142)) (by simp : wr.heap.size ≤ (wr.alloc (.cells #[.string (kb p.1), .slice ov p.2.1.length cv, .slice om p.2.2.length cm] 142)).heap.size))
          have HXB : Hid ((wr.alloc (.cells #[.string (kb p.1), .slice ov p.2.1.length cv, .slice om p.2.2.length cm] 142)).heap[wr.heap.size]? = some (.cells #[.string (kb p.1), .slice ov p.2.1.length cv, .slice om p.2.2.length cm] 142 (0, 0))) := Lib.hid (heap_new_at wr (.cells #[.string (kb p.1), .slice ov p.2.1.length cv, .slice om p.2.2.length cm] 142) _ rfl)
          clear hp hps hpv
          go_wp2_with fail
          refine (rformed9_any d p _ _ _ HPV.out HPS.out HSP.out).mono ?_
          rintro e w2 ⟨rfl, hb⟩
          have HB2 := Lib.hid (HBY.out.trans (hb.mono HBY.out.size))
          have HX2 := Lib.hid ((hb.block wr.heap.size (by simp)).trans HXB.out)
          have hc := hb.size
          have HPV2 := Lib.hid (HPV.out.carry hb hb.size)
          have HPS2 := Lib.hid (HPS.out.carry keeps_MatsU hb hb.size)
          clear hb
          cases hf : formB d p.2.1 p.2.2
          · have HM0 : Hid (entC d p.2.1 p.2.2 = 4) := Lib.hid (entC_form (by rw [hf]; decide))
            have HE : Hid (matC d l = entC d p.2.1 p.2.2) := Lib.hid (by rw [matC_mon hd14 h256 HNO.out, entsC_pre HA.out HP.out (by rw [HM0.out]; decide)])
            clear hf
            go_wp2_with fail
            go_ret
            exact ⟨by rw [HE.out, HM0.out]; rfl, HB2.out⟩
          have HF := Lib.hid hf
          have hm8 : p.2.2.length ≤ 8 := by
            unfold formB at hf
            simp only [Bool.and_eq_true, decide_eq_true_eq] at hf
            exact hf.1.2
          clear hf
          obtain ⟨x0, x1, x2⟩ := (⟨cells_of' HX2.out 0, cells_of' HX2.out 1, cells_of' HX2.out 2⟩ : w2.cell? ⟨wr.heap.size, 0, none⟩ = some (.string (kb p.1)) ∧ w2.cell? ⟨wr.heap.size, 1, none⟩ = some (.slice ov p.2.1.length cv) ∧ w2.cell? ⟨wr.heap.size, 2, none⟩ = some (.slice om p.2.2.length cm))
          go_wp2_with fail
          refine (rsmall9_any p _ _ _ HPV2.out HPS2.out HSP.out hm8).mono ?_
          rintro e w3 ⟨rfl, hb⟩
          have HB3 := Lib.hid (HB2.out.trans (hb.mono HB2.out.size))
          clear hb x0 x1 x2
          cases hg : smallB p.2.1 p.2.2
          · have HM0 : Hid (entC d p.2.1 p.2.2 = 2) := Lib.hid (entC_big HF.out (by rw [hg]; decide))
            have HE : Hid (matC d l = entC d p.2.1 p.2.2) := Lib.hid (by rw [matC_mon hd14 h256 HNO.out, entsC_pre HA.out HP.out (by rw [HM0.out]; decide)])
            clear hg
            go_wp2_with fail
            go_ret
            exact ⟨by rw [HE.out, HM0.out]; rfl, HB3.out⟩
          have HM0 : Hid (entC d p.2.1 p.2.2 = 0) := Lib.hid (entC_ok HF.out hg)
          have HA2 : Hid (∀ q ∈ l.take (j + 1), entC d q.2.1 q.2.2 = 0) := Lib.hid fun q hq => by
            rw [List.take_add_one, HP.out] at hq
            rcases List.mem_append.1 hq with hq | hq
            · exact HA.out q hq
            · obtain rfl : q = p := by simpa using hq
              exact HM0.out
          clear hg
          go_wp2_with fail
          exact ⟨⟨j + 1, by omega, by go_num, HA2, HB3⟩, by simp [intOf]; omega⟩
        · obtain rfl : j = l.length := by omega
          have HE : Hid (matC d l = 0) := Lib.hid (by rw [matC_mon hd14 h256 HNO.out, entsC_zero]; exact fun q hq => HA.out q (by rw [List.take_of_length_le (Nat.le_refl _)]; exact hq))
          go_wp2_with fail
          go_ret
          exact ⟨by rw [HE.out]; rfl, HBV.out⟩
end Go.Proofs.YtamddagmlanijaaGreat
