/- alive. -/
import Derived.WalkKit
import Derived.ProofKit
import Derived.OpenShut
import Derived.Handy
import Derived.Lib.Hide
import Derived.Test.YtdeaehkdhghfkaaDoorAl
import Derived.Test.YtdeaehkdhghfkaaDoorBatch
namespace Go.Proofs.YtdeaehkdhghfkaaDoor
open Go.RowKit

/-- f(a, g(b), a) in memory -/
theorem threeIs {W : World} {n₀ g1 g2 : Nat} (f g a b : ByteArray) (h1 : W.heap[g1]? = some (.cells #[.string b, .bool true, .slice none 0 0] 24 (0, 0)))
    (h2 : W.heap[g2]? = some (.cells #[.string a, .bool true, .slice none 0 0, .string g, .bool false, .slice (some ⟨g1, 0, none⟩) 1 1, .string a, .bool true, .slice none 0 0] 24 (0, 0))) (hg1 : g1 < n₀) (hg2 : g2 < n₀) :
    SlIs n₀ W (Tm.mk f false [.mk a true [], .mk g false [.mk b true []], .mk a true []]).ts (.slice (some ⟨g2, 0, none⟩) 3 3) := by
  have k1 := SlIs.ofRow (n₀ := n₀) (ch := [((.mk b true [] : Tm), .slice none 0 0, [])]) (by simp) h1 hg1 rfl (by simp only [List.mem_cons, List.not_mem_nil, or_false]; rintro c rfl; exact .nil0)
  exact SlIs.ofRow (n₀ := n₀) (ch := [((.mk a true [] : Tm), .slice none 0 0, []), ((.mk g false [.mk b true []] : Tm), .slice (some ⟨g1, 0, none⟩) 1 1, []), ((.mk a true [] : Tm), .slice none 0 0, [])]) (by simp) h2 hg2 rfl (by
    simp only [List.mem_cons, List.not_mem_nil, or_false]
    rintro c (rfl | rfl | rfl)
    · exact .nil0
    · exact k1
    · exact .nil0)

/-- the two boxes that the region reads -/
def Two (B C g : Nat) (ob : Option Addr) (cb : Nat) (w' : World) : Prop :=
  (w'.cell? ⟨B, 0, none⟩ = some (.string ⟨#[102]⟩) ∧ w'.cell? ⟨B, 1, none⟩ = some (.bool false) ∧ w'.cell? ⟨B, 2, none⟩ = some (.slice (some ⟨g, 0, none⟩) 3 3)) ∧
    (w'.cell? ⟨C, 0, none⟩ = some (.string ⟨#[102]⟩) ∧ w'.cell? ⟨C, 1, none⟩ = some (.bool false) ∧ w'.cell? ⟨C, 2, none⟩ = some (.slice ob 3 cb))
theorem Two.carry {B C g : Nat} {ob : Option Addr} {cb n : Nat} {A W : World} (h : Two B C g ob cb A) (hb : Below n A W) (h1 : B < n) (h2 : C < n) : Two B C g ob cb W :=
  ⟨⟨(hb.cell (p := ⟨B, 0, none⟩) h1).trans h.1.1, (hb.cell (p := ⟨B, 1, none⟩) h1).trans h.1.2.1, (hb.cell (p := ⟨B, 2, none⟩) h1).trans h.1.2.2⟩,
    (hb.cell (p := ⟨C, 0, none⟩) h2).trans h.2.1, (hb.cell (p := ⟨C, 1, none⟩) h2).trans h.2.2.1, (hb.cell (p := ⟨C, 2, none⟩) h2).trans h.2.2.2⟩

theorem PosIs.ofBlock {W : World} {n b cap : Nat} {l : List Int} {cur : Array Value} {e : TypeId} (h : W.heap[b]? = some (.cells cur e (0, 0))) (hc : cur.toList = ints l) (hb : b < n) : PosIs n W l (.slice (some ⟨b, 0, none⟩) l.length cap) :=
  ⟨_, cap, rfl, fun _ => ⟨b, 0, rfl, hb, fun i x hx => by
    rw [Nat.zero_add, cells_of' h, ← Array.getElem?_toList, hc]; exact ints_at l i x hx⟩⟩
theorem fiveRows {W : World} {b19 b20 b21 b22 b23 b : Nat} (h19 : W.heap[b19]? = some (.cells #[] 3 (0, 0))) (h20 : W.heap[b20]? = some (.cells #[.int .i64 0] 3 (0, 0))) (h21 : W.heap[b21]? = some (.cells #[.int .i64 1] 3 (0, 0)))
    (h22 : W.heap[b22]? = some (.cells #[.int .i64 1, .int .i64 0] 3 (0, 0))) (h23 : W.heap[b23]? = some (.cells #[.int .i64 2] 3 (0, 0)))
    (h : W.heap[b]? = some (.cells #[.slice (some ⟨b19, 0, none⟩) 0 0, .slice (some ⟨b20, 0, none⟩) 1 1, .slice (some ⟨b21, 0, none⟩) 1 1, .slice (some ⟨b22, 0, none⟩) 2 2, .slice (some ⟨b23, 0, none⟩) 1 1] 51 (0, 0))) :
    RowsIs W.heap.size W [[], [0], [1], [1, 0], [2]] (.slice (some ⟨b, 0, none⟩) 5 5) := by
  have lt : ∀ {k : Nat} {o : Obj}, W.heap[k]? = some o → k < W.heap.size := fun h => (Array.getElem?_eq_some_iff.1 h).1
  refine ⟨_, 5, rfl, fun _ => ⟨b, 0, rfl, lt h, fun i p hp => ?_⟩⟩
  have hc := cells_of' h
  match i, hp with
  | 0, hp => cases hp; exact ⟨_, hc 0, PosIs.ofBlock (l := []) h19 rfl (lt h19)⟩
  | 1, hp => cases hp; exact ⟨_, hc 1, PosIs.ofBlock (l := [0]) h20 rfl (lt h20)⟩
  | 2, hp => cases hp; exact ⟨_, hc 2, PosIs.ofBlock (l := [1]) h21 rfl (lt h21)⟩
  | 3, hp => cases hp; exact ⟨_, hc 3, PosIs.ofBlock (l := [1, 0]) h22 rfl (lt h22)⟩
  | 4, hp => cases hp; exact ⟨_, hc 4, PosIs.ofBlock (l := [2]) h23 rfl (lt h23)⟩
  | i + 5, hp => simp at hp
structure AliveMem (B C g : Nat) (oa : Option Addr) (cap : Nat) (ob : Option Addr) (cb n : Nat) (W : World) : Prop where
  two : Two B C g ob cb W
  ht : SlIs n W aT.ts (.slice (some ⟨g, 0, none⟩) 3 3)
  hc : SlIs n W aC.ts (.slice ob 3 cb)
  hr : RowsIs n W [[], [0], [1], [1, 0], [2]] (.slice oa 5 cap)
  lb : B < n
  lc : C < n
  size : n ≤ W.heap.size
theorem AliveMem.carry {B C g : Nat} {oa : Option Addr} {cap : Nat} {ob : Option Addr} {cb n : Nat} {A W : World} (h : AliveMem B C g oa cap ob cb n A) (hb : Below n A W) : AliveMem B C g oa cap ob cb n W :=
  ⟨h.two.carry hb h.lb h.lc, h.ht.carry hb (Nat.le_refl _), h.hc.carry hb (Nat.le_refl _), h.hr.carry hb (Nat.le_refl _), h.lb, h.lc, Nat.le_trans h.size hb.size⟩

set_option maxRecDepth 100000 in
set_option maxHeartbeats 4000000 in
theorem alive_any (w : World) : Calls Tryd.prog 24 #[] w fun e w' => e = .returned (.bool true) ∧ Below w.heap.size w w' := by
  go_enter Tryd.func24, Tryd.ntmps24
  go_wp2_with fail
  refine (lvariable_any _ _).mono ?_
  rintro e wa ⟨rfl, hba⟩
  dsimp only [tmv, Tm.nm, Tm.vr]
  go_wp2_with fail
  refine (lvariable_any _ _).mono ?_
  rintro e wb ⟨rfl, hbb⟩
  dsimp only [tmv, Tm.nm, Tm.vr]
  go_wp2_with fail
  refine (symbol_any _ _ _ _ _).mono ?_
  rintro e wc ⟨rfl, hbc⟩
  go_wp2_with fail
  refine (lvariable_any _ _).mono ?_
  rintro e wd ⟨rfl, hbd⟩
  dsimp only [tmv, Tm.nm, Tm.vr]
  go_wp2_with fail
  refine (symbol_any _ _ _ _ _).mono ?_
  rintro e we ⟨rfl, hbe⟩
  go_wp2_with fail
  have hz1 : wb.heap.size + 1 ≤ wc.heap.size := by have := hbc.size; simpa using this
  have hz2 := hbd.size
  have hz3 : wd.heap.size + 1 ≤ we.heap.size := by have := hbe.size; simpa using this
  have hz4 := hbb.size
  have hz5 := hba.size
  have hB0 : Below w.heap.size w we := ((((hba.trans (hbb.mono hz5)).alloc (by omega) (.cells #[.string ⟨#[118]⟩, .bool true, .slice none 0 0] 24)).trans (hbc.mono (by simp; omega))).trans (hbd.mono (by omega))).alloc (by omega) _ |>.trans (hbe.mono (by simp; omega))
  have k1 : we.heap[wb.heap.size]? = some (.cells #[.string ⟨#[118]⟩, .bool true, .slice none 0 0] 24 (0, 0)) := (hbe.block _ (by simp; omega)).trans ((Below.heap_alloc _ _ _ (by omega)).trans ((hbd.block _ (by omega)).trans ((hbc.block _ (by simp)).trans (heap_new_at _ _ _ rfl))))
  have k2 : we.heap[wd.heap.size]? = some (.cells #[.string ⟨#[117]⟩, .bool true, .slice none 0 0, .string ⟨#[103]⟩, .bool false, .slice (some ⟨wb.heap.size, 0, none⟩) 1 1, .string ⟨#[117]⟩, .bool true, .slice none 0 0] 24 (0, 0)) := (hbe.block _ (by simp)).trans (heap_new_at _ _ _ rfl)
  have hT : SlIs we.heap.size we aT.ts (.slice (some ⟨wd.heap.size, 0, none⟩) 3 3) := threeIs _ _ _ _ k1 k2 (by omega) (by omega)
  obtain ⟨W1, hW1⟩ : ∃ W1, W1 = we.alloc (.cells #[.string ⟨#[102]⟩, .bool false, .slice (some ⟨wd.heap.size, 0, none⟩) 3 3] 24) := ⟨_, rfl⟩
  obtain ⟨g, hg⟩ : ∃ g, g = wd.heap.size := ⟨_, rfl⟩
  have hbox : W1.heap[we.heap.size]? = some (.cells #[.string ⟨#[102]⟩, .bool false, .slice (some ⟨wd.heap.size, 0, none⟩) 3 3] 24 (0, 0)) := by rw [hW1]; exact heap_new_at _ _ _ rfl
  have hB1 : Below we.heap.size we W1 := by rw [hW1]; exact (Below.refl _ _).alloc (Nat.le_refl _) _
  have hz6 : we.heap.size < W1.heap.size := by rw [hW1]; simp
  have hT1 := hT.carry hB1 (Nat.le_of_lt hz6)
  have hBW1 := hB0.trans (hB1.mono (by omega))
  rw [← hW1]
  rw [← hg] at hbox hT1 ⊢
  generalize we.heap.size = B at hbox hz6 ⊢
  have HT1 := Lib.hid hT1
  have HBOX := Lib.hid hbox
  have HBW1 := Lib.hid hBW1
  clear k1 k2 hT hW1 hB1 hT1 hBW1 hB0 hbox hba hbb hbc hbd hbe hz1 hz2 hz3 hz4 hz5 hg
  refine (positions_any aT _ W1 (HT1.out.carry (Below.refl _ _) (by omega)) (by rw [aT_bulk]; omega)).mono ?_
  rintro e W2 ⟨⟨v, c, rfl, hcase⟩, hb2⟩
  have hp := hcase.resolve_right (fun h => h.2 aT_ok)
  obtain ⟨rfl, -, rl, hrow, hheads⟩ := hp
  have hrows := RowsIs.ofHs hrow hheads
  rw [aT_positions] at hrows
  obtain ⟨oa, cap, rfl, -⟩ := hrows.form
  have hz2 := hb2.size
  have hbx2 := (hb2.block B (by omega)).trans HBOX.out
  obtain ⟨⟨t0, t1, t2⟩, -⟩ := box3 hbx2
  have HT2 := Lib.hid (HT1.out.carry (hb2.mono (by omega)) (Nat.le_refl _))
  have HROWS := Lib.hid hrows
  have HBX2 := Lib.hid hbx2
  have HBW2 := Lib.hid (HBW1.out.trans (hb2.mono HBW1.out.size))
  clear hcase hrow hheads hrows hb2 hbx2 HBW1 HBOX HT1
  dsimp only [List.length_cons, List.length_nil]
  go_wp2_with fail
  refine (canonical_any dig100 (fun _ => True) 100 (fun _ _ _ _ => trivial) 0 (fun _ _ _ _ _ _ _ => trivial) dig100_size (by omega) itoa100 aT _ W2 (HT2.out.carry (Below.refl _ _) (by omega)) (by rw [aT_bulk]; omega) (by rw [aT_size]; omega) trivial (Nat.zero_le _)).mono ?_
  rintro e W3 ⟨u, c, ⟨⟨sc, rfl, hsc⟩, hb3⟩, hcase⟩
  obtain ⟨rfl, -, rfl⟩ := hcase.resolve_right (fun h => h.2.1 aT_ok)
  rw [aT_canon] at hsc ⊢
  obtain ⟨ob, cb, rfl, -⟩ := hsc.form
  rw [show tmv aC (.slice ob aC.ts.length cb) = .agg #[.string ⟨#[102]⟩, .bool false, .slice ob 3 cb] from rfl]
  rw [show aC.ts.length = 3 from rfl] at hsc
  have hz3 := hb3.size
  have hz4 : W3.heap.size + 1 = (W3.alloc (.cells #[.string ⟨#[102]⟩, .bool false, .slice ob 3 cb] 24)).heap.size := by simp
  have hb4 := hb3.alloc hz3 (.cells #[.string ⟨#[102]⟩, .bool false, .slice ob 3 cb] 24)
  have hbx4 := (hb4.block B (by omega)).trans HBX2.out
  have hcx4 : (W3.alloc (.cells #[.string ⟨#[102]⟩, .bool false, .slice ob 3 cb] 24)).heap[W3.heap.size]? = some (.cells #[.string ⟨#[102]⟩, .bool false, .slice ob 3 cb] 24 (0, 0)) := heap_new_at _ _ _ rfl
  have hsc4 := hsc.carry (n₁ := W3.heap.size) ((Below.refl W3.heap.size W3).alloc (Nat.le_refl _) (.cells #[.string ⟨#[102]⟩, .bool false, .slice ob 3 cb] 24)) (Nat.le_refl _)
  have HT4 := Lib.hid (HT2.out.carry (hb4.mono (by omega)) (Nat.le_refl _))
  have HR4 := Lib.hid (HROWS.out.carry hb4 (Nat.le_refl _))
  have HC4 := Lib.hid hsc4
  have HW4 := Lib.hid (HBW2.out.trans (hb4.mono HBW2.out.size))
  obtain ⟨⟨t0', t1', t2'⟩, -⟩ := box3 hbx4
  obtain ⟨⟨c0, c1, c2⟩, -⟩ := box3 hcx4
  clear hsc hcase hb3 hb4 hbx4 hcx4 hsc4 t0 t1 t2 HT2 HROWS HBX2 HBW2
  dsimp only
  go_wp2_with fail
  generalize W3.alloc (.cells #[.string ⟨#[102]⟩, .bool false, .slice ob 3 cb] 24) = W4 at HT4 HR4 HC4 HW4 t0' t1' t2' c0 c1 c2 hz4 ⊢
  generalize W3.heap.size = C at HC4 c0 c1 c2 hz3 hz4 ⊢
  have hdr : Below W4.heap.size W4 W4.drew := (Below.refl _ _).drew
  have HM5 : Hid (AliveMem B C g oa cap ob cb W4.heap.size W4.drew) := Lib.hid ⟨⟨⟨t0', t1', t2'⟩, c0, c1, c2⟩, HT4.out.carry (hdr.mono (by omega)) (by omega), HC4.out.carry (hdr.mono (by omega)) (by omega), HR4.out.carry (hdr.mono (by omega)) (by omega), by omega, by omega, Nat.le_refl _⟩
  have HW5 : Hid (Below w.heap.size w W4.drew) := Lib.hid (HW4.out.trans (hdr.mono HW4.out.size))
  refine wp_region_noPanic ?_
  refine wp_region_held_drew (S := Two B C g ob cb) (by kernel_rfl) HM5.out.two (fun _ => ?_)
  simp only [List.size_toArray, List.length_cons, List.length_nil, Nat.reduceAdd]
  generalize W4.heap.size = n at HM5
  generalize W4.drew = W5 at HM5 HW5 ⊢
  clear hdr HT4 HC4 HR4 HW4 t0' t1' t2' c0 c1 c2 hz4
  refine wpAnyH_take (i := 0) (v := ?_) (by simp only [List.getElem?_toArray, List.getElem?_cons_zero]; rfl) (by kernel_rfl) (by kernel_rfl) (by kernel_rfl) (fun _ _ _ h => h) (Or.inl ⟨by rfl, ?_⟩) HM5.out.two ?_
  case refine_2 => (intro ww hSw; obtain ⟨⟨s1, s2, s3⟩, s4, s5, s6⟩ := hSw; go_simp; try with_reducible rfl)
  try simp only [Act.put, List.setIfInBounds_toArray, List.set_cons_zero, List.set_cons_succ]
  refine wpAnyH_ready (rs := [1]) (by kernel_rfl) (by simp) ?_
  refine AllReadyH.cons (by simp only [List.getElem?_toArray, List.getElem?_cons_zero, List.getElem?_cons_succ]; rfl) (fun K' hK => ?_) AllReadyH.nil
  go_simp
  refine (check_any aT _ _ (HM5.out.ht.carry (Below.refl _ _) HM5.out.size) (by rw [aT_bulk]; omega)).mono ?_
  rintro e W6 ⟨⟨c, rfl, hc⟩, hb6⟩
  obtain rfl : c = 0 := hc.2 aT_ok
  clear hc
  have HM6 := Lib.hid (HM5.out.carry (hb6.mono HM5.out.size))
  have HW6 := Lib.hid (HW5.out.trans (hb6.mono HW5.out.size))
  clear hb6
  dsimp only
  refine hK.out _ _ HM6.out.two (fun _ => ?_)
  clear hK HM5 HW5
  try simp only [Act.put, List.setIfInBounds_toArray, List.set_cons_zero, List.set_cons_succ]
  refine wpAnyH_take (i := 2) (v := ?_) (by simp only [List.getElem?_toArray, List.getElem?_cons_zero, List.getElem?_cons_succ]; rfl) (by kernel_rfl) (by kernel_rfl) (by kernel_rfl) (fun _ _ _ h => h) (Or.inl ⟨by rfl, ?_⟩) HM6.out.two ?_
  case refine_2 => (intro ww hSw; obtain ⟨⟨s1, s2, s3⟩, s4, s5, s6⟩ := hSw; go_simp; try with_reducible rfl)
  try simp only [Act.put, List.setIfInBounds_toArray, List.set_cons_zero, List.set_cons_succ]
  refine wpAnyH_take (i := 3) (v := ?_) (by simp only [List.getElem?_toArray, List.getElem?_cons_zero, List.getElem?_cons_succ]; rfl) (by kernel_rfl) (by kernel_rfl) (by kernel_rfl) (fun _ _ _ h => h) (Or.inl ⟨by rfl, ?_⟩) HM6.out.two ?_
  case refine_2 => (intro ww hSw; obtain ⟨⟨s1, s2, s3⟩, s4, s5, s6⟩ := hSw; go_simp; try with_reducible rfl)
  try simp only [Act.put, List.setIfInBounds_toArray, List.set_cons_zero, List.set_cons_succ]
  refine wpAnyH_take (i := 4) (v := ?_) (by simp only [List.getElem?_toArray, List.getElem?_cons_zero, List.getElem?_cons_succ]; rfl) (by kernel_rfl) (by kernel_rfl) (by kernel_rfl) (fun _ _ _ h => h) (Or.inl ⟨by rfl, ?_⟩) HM6.out.two ?_
  case refine_2 => (intro ww hSw; obtain ⟨⟨s1, s2, s3⟩, s4, s5, s6⟩ := hSw; go_simp; try with_reducible rfl)
  try simp only [Act.put, List.setIfInBounds_toArray, List.set_cons_zero, List.set_cons_succ]
  refine wpAnyH_ready (rs := [5]) (by kernel_rfl) (by simp) ?_
  refine AllReadyH.cons (by simp only [List.getElem?_toArray, List.getElem?_cons_zero, List.getElem?_cons_succ]; rfl) (fun K' hK => ?_) AllReadyH.nil
  go_simp
  refine (tsize_any aT _ _ (HM6.out.ht.carry (Below.refl _ _) HM6.out.size) (by rw [aT_bulk]; omega)).mono ?_
  rintro e W7 ⟨rfl, hb7⟩
  rw [show ((aT.size : Nat) : Int) = 5 from rfl]
  have HM7 := Lib.hid (HM6.out.carry (hb7.mono HM6.out.size))
  have HW7 := Lib.hid (HW6.out.trans (hb7.mono HW6.out.size))
  clear hb7
  dsimp only
  refine hK.out _ _ HM7.out.two (fun _ => ?_)
  clear hK HM6 HW6
  try simp only [Act.put, List.setIfInBounds_toArray, List.set_cons_zero, List.set_cons_succ]
  refine wpAnyH_take (i := 6) (v := ?_) (by simp only [List.getElem?_toArray, List.getElem?_cons_zero, List.getElem?_cons_succ]; rfl) (by kernel_rfl) (by kernel_rfl) (by kernel_rfl) (fun _ _ _ h => h) (Or.inl ⟨by rfl, ?_⟩) HM7.out.two ?_
  case refine_2 => (intro ww hSw; obtain ⟨⟨s1, s2, s3⟩, s4, s5, s6⟩ := hSw; go_simp; try with_reducible rfl)
  try simp only [Act.put, List.setIfInBounds_toArray, List.set_cons_zero, List.set_cons_succ]
  refine wpAnyH_take (i := 7) (v := ?_) (by simp only [List.getElem?_toArray, List.getElem?_cons_zero, List.getElem?_cons_succ]; rfl) (by kernel_rfl) (by kernel_rfl) (by kernel_rfl) (fun _ _ _ h => h) (Or.inl ⟨by rfl, ?_⟩) HM7.out.two ?_
  case refine_2 => (intro ww hSw; obtain ⟨⟨s1, s2, s3⟩, s4, s5, s6⟩ := hSw; go_simp; try with_reducible rfl)
  try simp only [Act.put, List.setIfInBounds_toArray, List.set_cons_zero, List.set_cons_succ]
  refine wpAnyH_take (i := 8) (v := ?_) (by simp only [List.getElem?_toArray, List.getElem?_cons_zero, List.getElem?_cons_succ]; rfl) (by kernel_rfl) (by kernel_rfl) (by kernel_rfl) (fun _ _ _ h => h) (Or.inl ⟨by rfl, ?_⟩) HM7.out.two ?_
  case refine_2 => (intro ww hSw; obtain ⟨⟨s1, s2, s3⟩, s4, s5, s6⟩ := hSw; go_simp; try with_reducible rfl)
  try simp only [Act.put, List.setIfInBounds_toArray, List.set_cons_zero, List.set_cons_succ]
  refine wpAnyH_take (i := 9) (v := ?_) (by simp only [List.getElem?_toArray, List.getElem?_cons_zero, List.getElem?_cons_succ]; rfl) (by kernel_rfl) (by kernel_rfl) (by kernel_rfl) (fun _ _ _ h => h) (Or.inl ⟨by rfl, ?_⟩) HM7.out.two ?_
  case refine_2 => (intro ww hSw; obtain ⟨⟨s1, s2, s3⟩, s4, s5, s6⟩ := hSw; go_simp; try with_reducible rfl)
  try simp only [Act.put, List.setIfInBounds_toArray, List.set_cons_zero, List.set_cons_succ]
  refine wpAnyH_ready (rs := [10]) (by kernel_rfl) (by simp) ?_
  refine AllReadyH.cons (by simp only [List.getElem?_toArray, List.getElem?_cons_zero, List.getElem?_cons_succ]; rfl) (fun K' hK => ?_) AllReadyH.nil
  go_simp
  refine (tdepth_any aT _ _ (HM7.out.ht.carry (Below.refl _ _) HM7.out.size) (by rw [aT_bulk]; omega)).mono ?_
  rintro e W8 ⟨rfl, hb8⟩
  rw [show ((aT.depth : Nat) : Int) = 3 from rfl]
  have HM8 := Lib.hid (HM7.out.carry (hb8.mono HM7.out.size))
  have HW8 := Lib.hid (HW7.out.trans (hb8.mono HW7.out.size))
  clear hb8
  dsimp only
  refine hK.out _ _ HM8.out.two (fun _ => ?_)
  clear hK HM7 HW7
  try simp only [Act.put, List.setIfInBounds_toArray, List.set_cons_zero, List.set_cons_succ]
  refine wpAnyH_take (i := 11) (v := ?_) (by simp only [List.getElem?_toArray, List.getElem?_cons_zero, List.getElem?_cons_succ]; rfl) (by kernel_rfl) (by kernel_rfl) (by kernel_rfl) (fun _ _ _ h => h) (Or.inl ⟨by rfl, ?_⟩) HM8.out.two ?_
  case refine_2 => (intro ww hSw; obtain ⟨⟨s1, s2, s3⟩, s4, s5, s6⟩ := hSw; go_simp; try with_reducible rfl)
  try simp only [Act.put, List.setIfInBounds_toArray, List.set_cons_zero, List.set_cons_succ]
  refine wpAnyH_take (i := 12) (v := ?_) (by simp only [List.getElem?_toArray, List.getElem?_cons_zero, List.getElem?_cons_succ]; rfl) (by kernel_rfl) (by kernel_rfl) (by kernel_rfl) (fun _ _ _ h => h) (Or.inl ⟨by rfl, ?_⟩) HM8.out.two ?_
  case refine_2 => (intro ww hSw; obtain ⟨⟨s1, s2, s3⟩, s4, s5, s6⟩ := hSw; go_simp; try with_reducible rfl)
  try simp only [Act.put, List.setIfInBounds_toArray, List.set_cons_zero, List.set_cons_succ]
  refine wpAnyH_take (i := 13) (v := ?_) (by simp only [List.getElem?_toArray, List.getElem?_cons_zero, List.getElem?_cons_succ]; rfl) (by kernel_rfl) (by kernel_rfl) (by kernel_rfl) (fun _ _ _ h => h) (Or.inl ⟨by rfl, ?_⟩) HM8.out.two ?_
  case refine_2 => (intro ww hSw; obtain ⟨⟨s1, s2, s3⟩, s4, s5, s6⟩ := hSw; go_simp; try with_reducible rfl)
  try simp only [Act.put, List.setIfInBounds_toArray, List.set_cons_zero, List.set_cons_succ]
  refine wpAnyH_take (i := 14) (v := ?_) (by simp only [List.getElem?_toArray, List.getElem?_cons_zero, List.getElem?_cons_succ]; rfl) (by kernel_rfl) (by kernel_rfl) (by kernel_rfl) (fun _ _ _ h => h) (Or.inl ⟨by rfl, ?_⟩) HM8.out.two ?_
  case refine_2 => (intro ww hSw; obtain ⟨⟨s1, s2, s3⟩, s4, s5, s6⟩ := hSw; go_simp; try with_reducible rfl)
  try simp only [Act.put, List.setIfInBounds_toArray, List.set_cons_zero, List.set_cons_succ]
  refine wpAnyH_take (i := 15) (v := ?_) (by simp only [List.getElem?_toArray, List.getElem?_cons_zero, List.getElem?_cons_succ]; rfl) (by kernel_rfl) (by kernel_rfl) (by kernel_rfl) (fun _ _ _ h => h) (Or.inl ⟨by rfl, ?_⟩) HM8.out.two ?_
  case refine_2 => (intro ww hSw; obtain ⟨⟨s1, s2, s3⟩, s4, s5, s6⟩ := hSw; go_simp; try with_reducible rfl)
  try simp only [Act.put, List.setIfInBounds_toArray, List.set_cons_zero, List.set_cons_succ]
  refine wpAnyH_take (i := 16) (v := ?_) (by simp only [List.getElem?_toArray, List.getElem?_cons_zero, List.getElem?_cons_succ]; rfl) (by kernel_rfl) (by kernel_rfl) (by kernel_rfl) (fun _ _ _ h => h) (Or.inl ⟨by rfl, ?_⟩) HM8.out.two ?_
  case refine_2 => (intro ww hSw; obtain ⟨⟨s1, s2, s3⟩, s4, s5, s6⟩ := hSw; go_simp; try with_reducible rfl)
  try simp only [Act.put, List.setIfInBounds_toArray, List.set_cons_zero, List.set_cons_succ]
  refine wpAnyH_take (i := 17) (v := ?_) (by simp only [List.getElem?_toArray, List.getElem?_cons_zero, List.getElem?_cons_succ]; rfl) (by kernel_rfl) (by kernel_rfl) (by kernel_rfl) (fun _ _ _ h => h) (Or.inl ⟨by rfl, ?_⟩) HM8.out.two ?_
  case refine_2 => (intro ww hSw; obtain ⟨⟨s1, s2, s3⟩, s4, s5, s6⟩ := hSw; go_simp; try with_reducible rfl)
  try simp only [Act.put, List.setIfInBounds_toArray, List.set_cons_zero, List.set_cons_succ]
  refine wpAnyH_take (i := 18) (v := ?_) (by simp only [List.getElem?_toArray, List.getElem?_cons_zero, List.getElem?_cons_succ]; rfl) (by kernel_rfl) (by kernel_rfl) (by kernel_rfl) (fun _ _ _ h => h) (Or.inl ⟨by rfl, ?_⟩) HM8.out.two ?_
  case refine_2 => (intro ww hSw; obtain ⟨⟨s1, s2, s3⟩, s4, s5, s6⟩ := hSw; go_simp; try with_reducible rfl)
  try simp only [Act.put, List.setIfInBounds_toArray, List.set_cons_zero, List.set_cons_succ]
  refine wpAnyH_batch1 [19, 20, 21, 22, 23] (by decide) 23 (fun i => if i = 19 then 0 else if i = 22 then 2 else 1) (fun i => if i = 19 then .cells #[] 3 else if i = 20 then .cells #[.int .i64 0] 3 else if i = 21 then .cells #[.int .i64 1] 3 else if i = 22 then .cells #[.int .i64 1, .int .i64 0] 3 else .cells #[.int .i64 2] 3) 19 _ (by rfl) (by rfl) (by kernel_rfl) ?hop (fun w' hb => HM8.out.two.carry (hb.mono HM8.out.size) HM8.out.lb HM8.out.lc) ?hrest
  case hop =>
    intro i hi
    simp only [List.mem_cons, List.not_mem_nil, or_false] at hi
    rcases hi with rfl | rfl | rfl | rfl | rfl
    all_goals
      refine ⟨_, (by simp only [List.getElem?_toArray, List.getElem?_cons_zero, List.getElem?_cons_succ]; rfl), fun v => ⟨by rfl, fun ww K hk => ?_⟩⟩
      simp only [putAll, List.foldl_cons, List.foldl_nil, Act.put, List.setIfInBounds_toArray, List.set_cons_zero, List.set_cons_succ, Nat.reduceAdd]
      go_simp
      exact hk
  intro v W9 hbt
  obtain ⟨b19, e19, h19⟩ := hbt.val 19 (by decide) (by decide)
  have e19 : v 19 = .slice (some ⟨b19, 0, none⟩) 0 0 := e19
  have h19 : W9.heap[b19]? = some (.cells #[] 3 (0, 0)) := h19
  obtain ⟨b20, e20, h20⟩ := hbt.val 20 (by decide) (by decide)
  have e20 : v 20 = .slice (some ⟨b20, 0, none⟩) 1 1 := e20
  have h20 : W9.heap[b20]? = some (.cells #[.int .i64 0] 3 (0, 0)) := h20
  obtain ⟨b21, e21, h21⟩ := hbt.val 21 (by decide) (by decide)
  have e21 : v 21 = .slice (some ⟨b21, 0, none⟩) 1 1 := e21
  have h21 : W9.heap[b21]? = some (.cells #[.int .i64 1] 3 (0, 0)) := h21
  obtain ⟨b22, e22, h22⟩ := hbt.val 22 (by decide) (by decide)
  have e22 : v 22 = .slice (some ⟨b22, 0, none⟩) 2 2 := e22
  have h22 : W9.heap[b22]? = some (.cells #[.int .i64 1, .int .i64 0] 3 (0, 0)) := h22
  obtain ⟨b23, e23, h23⟩ := hbt.val 23 (by decide) (by decide)
  have e23 : v 23 = .slice (some ⟨b23, 0, none⟩) 1 1 := e23
  have h23 : W9.heap[b23]? = some (.cells #[.int .i64 2] 3 (0, 0)) := h23
  have HM9 := Lib.hid (HM8.out.carry (hbt.below.mono HM8.out.size))
  have HW9 := Lib.hid (HW8.out.trans (hbt.below.mono HW8.out.size))
  clear hbt HM8 HW8
  simp only [putAll, List.foldl_cons, List.foldl_nil, Act.put, List.setIfInBounds_toArray, List.set_cons_zero, List.set_cons_succ, Nat.reduceAdd, e19, e20, e21, e22, e23]
  clear e19 e20 e21 e22 e23
  have h19_9 := Lib.hid h19
  have h20_9 := Lib.hid h20
  have h21_9 := Lib.hid h21
  have h22_9 := Lib.hid h22
  have h23_9 := Lib.hid h23
  clear h19 h20 h21 h22 h23
  refine wpAnyH_ready (rs := [24]) (by kernel_rfl) (by simp) ?_
  refine AllReadyH.cons (by simp only [List.getElem?_toArray, List.getElem?_cons_zero, List.getElem?_cons_succ]; rfl) (fun K' hK => ?_) AllReadyH.nil
  go_simp
  have hb10 : Below W9.heap.size W9 (W9.alloc (.cells #[.slice (some ⟨b19, 0, none⟩) 0 0, .slice (some ⟨b20, 0, none⟩) 1 1, .slice (some ⟨b21, 0, none⟩) 1 1, .slice (some ⟨b22, 0, none⟩) 2 2, .slice (some ⟨b23, 0, none⟩) 1 1] 51)) := (Below.refl _ _).alloc (Nat.le_refl _) _
  have hn10 : (W9.alloc (.cells #[.slice (some ⟨b19, 0, none⟩) 0 0, .slice (some ⟨b20, 0, none⟩) 1 1, .slice (some ⟨b21, 0, none⟩) 1 1, .slice (some ⟨b22, 0, none⟩) 2 2, .slice (some ⟨b23, 0, none⟩) 1 1] 51)).heap[W9.heap.size]? = some (.cells #[.slice (some ⟨b19, 0, none⟩) 0 0, .slice (some ⟨b20, 0, none⟩) 1 1, .slice (some ⟨b21, 0, none⟩) 1 1, .slice (some ⟨b22, 0, none⟩) 2 2, .slice (some ⟨b23, 0, none⟩) 1 1] 51 (0, 0)) := heap_new_at _ _ _ rfl
  generalize W9.alloc (.cells #[.slice (some ⟨b19, 0, none⟩) 0 0, .slice (some ⟨b20, 0, none⟩) 1 1, .slice (some ⟨b21, 0, none⟩) 1 1, .slice (some ⟨b22, 0, none⟩) 2 2, .slice (some ⟨b23, 0, none⟩) 1 1] 51) = W10 at hb10 hn10 ⊢
  have HN10 := Lib.hid hn10
  clear hn10
  have HM10 := Lib.hid (HM9.out.carry (hb10.mono HM9.out.size))
  have HW10 := Lib.hid (HW9.out.trans (hb10.mono HW9.out.size))
  have h19_10 := Lib.hid ((hb10.block b19 (Array.getElem?_eq_some_iff.1 h19_9.out).1).trans h19_9.out)
  clear h19_9
  have h20_10 := Lib.hid ((hb10.block b20 (Array.getElem?_eq_some_iff.1 h20_9.out).1).trans h20_9.out)
  clear h20_9
  have h21_10 := Lib.hid ((hb10.block b21 (Array.getElem?_eq_some_iff.1 h21_9.out).1).trans h21_9.out)
  clear h21_9
  have h22_10 := Lib.hid ((hb10.block b22 (Array.getElem?_eq_some_iff.1 h22_9.out).1).trans h22_9.out)
  clear h22_9
  have h23_10 := Lib.hid ((hb10.block b23 (Array.getElem?_eq_some_iff.1 h23_9.out).1).trans h23_9.out)
  clear h23_9
  clear hb10
  try dsimp only
  refine hK.out _ _ HM10.out.two (fun _ => ?_)
  clear hK HM9 HW9
  try simp only [Act.put, List.setIfInBounds_toArray, List.set_cons_zero, List.set_cons_succ]
  have hrows10 : RowsIs W10.heap.size W10 [[], [0], [1], [1, 0], [2]] (.slice (some ⟨W9.heap.size, 0, none⟩) 5 5) := fiveRows h19_10.out h20_10.out h21_10.out h22_10.out h23_10.out HN10.out
  have HRR := Lib.hid hrows10
  clear hrows10 HN10 h19_10 h20_10 h21_10 h22_10 h23_10
  refine wpAnyH_ready (rs := [25]) (by kernel_rfl) (by simp) ?_
  refine AllReadyH.cons (by simp only [List.getElem?_toArray, List.getElem?_cons_zero, List.getElem?_cons_succ]; rfl) (fun K' hK => ?_) AllReadyH.nil
  go_simp
  refine (same_any _ _ _ _ W10 W10.heap.size (HM10.out.hr.carry (Below.refl _ _) HM10.out.size) HRR.out (by decide) (by decide) (by decide) (by decide)).mono ?_
  rintro e W11 ⟨rfl, m, rfl⟩
  rw [show decide (([[], [0], [1], [1, 0], [2]] : List (List Int)) = [[], [0], [1], [1, 0], [2]]) = true from by decide]
  have hb11 : Below W10.heap.size W10 (W10.drewN m) := below_drewN m (Below.refl _ _)
  generalize W10.drewN m = W11 at hb11 ⊢
  clear HRR
  have HM11 := Lib.hid (HM10.out.carry (hb11.mono HM10.out.size))
  have HW11 := Lib.hid (HW10.out.trans (hb11.mono HW10.out.size))
  clear hb11
  try dsimp only
  refine hK.out _ _ HM11.out.two (fun _ => ?_)
  clear hK HM10 HW10
  try simp only [Act.put, List.setIfInBounds_toArray, List.set_cons_zero, List.set_cons_succ]
  refine wpAnyH_take (i := 26) (v := ?_) (by simp only [List.getElem?_toArray, List.getElem?_cons_zero, List.getElem?_cons_succ]; rfl) (by kernel_rfl) (by kernel_rfl) (by kernel_rfl) (fun _ _ _ h => h) (Or.inl ⟨by rfl, ?_⟩) HM11.out.two ?_
  case refine_2 => (intro ww hSw; obtain ⟨⟨s1, s2, s3⟩, s4, s5, s6⟩ := hSw; go_simp; try with_reducible rfl)
  try simp only [Act.put, List.setIfInBounds_toArray, List.set_cons_zero, List.set_cons_succ]
  refine wpAnyH_take (i := 27) (v := ?_) (by simp only [List.getElem?_toArray, List.getElem?_cons_zero, List.getElem?_cons_succ]; rfl) (by kernel_rfl) (by kernel_rfl) (by kernel_rfl) (fun _ _ _ h => h) (Or.inl ⟨by rfl, ?_⟩) HM11.out.two ?_
  case refine_2 => (intro ww hSw; obtain ⟨⟨s1, s2, s3⟩, s4, s5, s6⟩ := hSw; go_simp; try with_reducible rfl)
  try simp only [Act.put, List.setIfInBounds_toArray, List.set_cons_zero, List.set_cons_succ]
  refine wpAnyH_take (i := 28) (v := ?_) (by simp only [List.getElem?_toArray, List.getElem?_cons_zero, List.getElem?_cons_succ]; rfl) (by kernel_rfl) (by kernel_rfl) (by kernel_rfl) (fun _ _ _ h => h) (Or.inl ⟨by rfl, ?_⟩) HM11.out.two ?_
  case refine_2 => (intro ww hSw; obtain ⟨⟨s1, s2, s3⟩, s4, s5, s6⟩ := hSw; go_simp; try with_reducible rfl)
  try simp only [Act.put, List.setIfInBounds_toArray, List.set_cons_zero, List.set_cons_succ]
  refine wpAnyH_take (i := 29) (v := ?_) (by simp only [List.getElem?_toArray, List.getElem?_cons_zero, List.getElem?_cons_succ]; rfl) (by kernel_rfl) (by kernel_rfl) (by kernel_rfl) (fun _ _ _ h => h) (Or.inl ⟨by rfl, ?_⟩) HM11.out.two ?_
  case refine_2 => (intro ww hSw; obtain ⟨⟨s1, s2, s3⟩, s4, s5, s6⟩ := hSw; go_simp; try with_reducible rfl)
  try simp only [Act.put, List.setIfInBounds_toArray, List.set_cons_zero, List.set_cons_succ]
  refine wpAnyH_take (i := 30) (v := ?_) (by simp only [List.getElem?_toArray, List.getElem?_cons_zero, List.getElem?_cons_succ]; rfl) (by kernel_rfl) (by kernel_rfl) (by kernel_rfl) (fun _ _ _ h => h) (Or.inl ⟨by rfl, ?_⟩) HM11.out.two ?_
  case refine_2 => (intro ww hSw; obtain ⟨⟨s1, s2, s3⟩, s4, s5, s6⟩ := hSw; go_simp; try with_reducible rfl)
  try simp only [Act.put, List.setIfInBounds_toArray, List.set_cons_zero, List.set_cons_succ]
  refine wpAnyH_take (i := 31) (v := ?_) (by simp only [List.getElem?_toArray, List.getElem?_cons_zero, List.getElem?_cons_succ]; rfl) (by kernel_rfl) (by kernel_rfl) (by kernel_rfl) (fun _ _ _ h => h) (Or.inl ⟨by rfl, ?_⟩) HM11.out.two ?_
  case refine_2 => (intro ww hSw; obtain ⟨⟨s1, s2, s3⟩, s4, s5, s6⟩ := hSw; go_simp; try with_reducible rfl)
  try simp only [Act.put, List.setIfInBounds_toArray, List.set_cons_zero, List.set_cons_succ]
  refine wpAnyH_take (i := 32) (v := ?_) (by simp only [List.getElem?_toArray, List.getElem?_cons_zero, List.getElem?_cons_succ]; rfl) (by kernel_rfl) (by kernel_rfl) (by kernel_rfl) (fun _ _ _ h => h) (Or.inl ⟨by rfl, ?_⟩) HM11.out.two ?_
  case refine_2 => (intro ww hSw; obtain ⟨⟨s1, s2, s3⟩, s4, s5, s6⟩ := hSw; go_simp; try with_reducible rfl)
  try simp only [Act.put, List.setIfInBounds_toArray, List.set_cons_zero, List.set_cons_succ]
  refine wpAnyH_ready (rs := [33]) (by kernel_rfl) (by simp) ?_
  refine AllReadyH.cons (by simp only [List.getElem?_toArray, List.getElem?_cons_zero, List.getElem?_cons_succ]; rfl) (fun K' hK => ?_) AllReadyH.nil
  go_simp
  refine (lvariable_any _ _).mono ?_
  rintro e W12 ⟨rfl, hb12⟩
  dsimp only [tmv, Tm.nm, Tm.vr]
  have HM12 := Lib.hid (HM11.out.carry (hb12.mono HM11.out.size))
  have HW12 := Lib.hid (HW11.out.trans (hb12.mono HW11.out.size))
  clear hb12
  try dsimp only
  refine hK.out _ _ HM12.out.two (fun _ => ?_)
  clear hK HM11 HW11
  try simp only [Act.put, List.setIfInBounds_toArray, List.set_cons_zero, List.set_cons_succ]
  refine wpAnyH_ready (rs := [34]) (by kernel_rfl) (by simp) ?_
  refine AllReadyH.cons (by simp only [List.getElem?_toArray, List.getElem?_cons_zero, List.getElem?_cons_succ]; rfl) (fun K' hK => ?_) AllReadyH.nil
  go_simp
  refine (lvariable_any _ _).mono ?_
  rintro e W13 ⟨rfl, hb13⟩
  dsimp only [tmv, Tm.nm, Tm.vr]
  have HM13 := Lib.hid (HM12.out.carry (hb13.mono HM12.out.size))
  have HW13 := Lib.hid (HW12.out.trans (hb13.mono HW12.out.size))
  clear hb13
  try dsimp only
  refine hK.out _ _ HM13.out.two (fun _ => ?_)
  clear hK HM12 HW12
  try simp only [Act.put, List.setIfInBounds_toArray, List.set_cons_zero, List.set_cons_succ]
  refine wpAnyH_ready (rs := [35]) (by kernel_rfl) (by simp) ?_
  refine AllReadyH.cons (by simp only [List.getElem?_toArray, List.getElem?_cons_zero, List.getElem?_cons_succ]; rfl) (fun K' hK => ?_) AllReadyH.nil
  go_simp
  have hb14 : Below W13.heap.size W13 (W13.alloc (.cells #[.string ⟨#[120, 49]⟩, .bool true, .slice none 0 0] 24)) := (Below.refl _ _).alloc (Nat.le_refl _) _
  have hn14 : (W13.alloc (.cells #[.string ⟨#[120, 49]⟩, .bool true, .slice none 0 0] 24)).heap[W13.heap.size]? = some (.cells #[.string ⟨#[120, 49]⟩, .bool true, .slice none 0 0] 24 (0, 0)) := heap_new_at _ _ _ rfl
  generalize W13.alloc (.cells #[.string ⟨#[120, 49]⟩, .bool true, .slice none 0 0] 24) = W14 at hb14 hn14 ⊢
  have HN14 := Lib.hid hn14
  clear hn14
  have HM14 := Lib.hid (HM13.out.carry (hb14.mono HM13.out.size))
  have HW14 := Lib.hid (HW13.out.trans (hb14.mono HW13.out.size))
  clear hb14
  try dsimp only
  refine hK.out _ _ HM14.out.two (fun _ => ?_)
  clear hK HM13 HW13
  try simp only [Act.put, List.setIfInBounds_toArray, List.set_cons_zero, List.set_cons_succ]
  refine wpAnyH_ready (rs := [36]) (by kernel_rfl) (by simp) ?_
  refine AllReadyH.cons (by simp only [List.getElem?_toArray, List.getElem?_cons_zero, List.getElem?_cons_succ]; rfl) (fun K' hK => ?_) AllReadyH.nil
  go_simp
  refine (symbol_any _ _ _ _ _).mono ?_
  rintro e W15 ⟨rfl, hb15⟩
  have HM15 := Lib.hid (HM14.out.carry (hb15.mono HM14.out.size))
  have HW15 := Lib.hid (HW14.out.trans (hb15.mono HW14.out.size))
  have HN15 := Lib.hid ((hb15.block W13.heap.size (Array.getElem?_eq_some_iff.1 HN14.out).1).trans HN14.out)
  clear HN14
  clear hb15
  try dsimp only
  refine hK.out _ _ HM15.out.two (fun _ => ?_)
  clear hK HM14 HW14
  try simp only [Act.put, List.setIfInBounds_toArray, List.set_cons_zero, List.set_cons_succ]
  refine wpAnyH_ready (rs := [37]) (by kernel_rfl) (by simp) ?_
  refine AllReadyH.cons (by simp only [List.getElem?_toArray, List.getElem?_cons_zero, List.getElem?_cons_succ]; rfl) (fun K' hK => ?_) AllReadyH.nil
  go_simp
  refine (lvariable_any _ _).mono ?_
  rintro e W16 ⟨rfl, hb16⟩
  dsimp only [tmv, Tm.nm, Tm.vr]
  have HM16 := Lib.hid (HM15.out.carry (hb16.mono HM15.out.size))
  have HW16 := Lib.hid (HW15.out.trans (hb16.mono HW15.out.size))
  have HN16 := Lib.hid ((hb16.block W13.heap.size (Array.getElem?_eq_some_iff.1 HN15.out).1).trans HN15.out)
  clear HN15
  clear hb16
  try dsimp only
  refine hK.out _ _ HM16.out.two (fun _ => ?_)
  clear hK HM15 HW15
  try simp only [Act.put, List.setIfInBounds_toArray, List.set_cons_zero, List.set_cons_succ]
  have K1_16 := HN16
  clear HN16
  refine wpAnyH_ready (rs := [38]) (by kernel_rfl) (by simp) ?_
  refine AllReadyH.cons (by simp only [List.getElem?_toArray, List.getElem?_cons_zero, List.getElem?_cons_succ]; rfl) (fun K' hK => ?_) AllReadyH.nil
  go_simp
  have hb17 : Below W16.heap.size W16 (W16.alloc (.cells #[.string ⟨#[120, 48]⟩, .bool true, .slice none 0 0, .string ⟨#[103]⟩, .bool false, .slice (some ⟨W13.heap.size, 0, none⟩) 1 1, .string ⟨#[120, 48]⟩, .bool true, .slice none 0 0] 24)) := (Below.refl _ _).alloc (Nat.le_refl _) _
  have hn17 : (W16.alloc (.cells #[.string ⟨#[120, 48]⟩, .bool true, .slice none 0 0, .string ⟨#[103]⟩, .bool false, .slice (some ⟨W13.heap.size, 0, none⟩) 1 1, .string ⟨#[120, 48]⟩, .bool true, .slice none 0 0] 24)).heap[W16.heap.size]? = some (.cells #[.string ⟨#[120, 48]⟩, .bool true, .slice none 0 0, .string ⟨#[103]⟩, .bool false, .slice (some ⟨W13.heap.size, 0, none⟩) 1 1, .string ⟨#[120, 48]⟩, .bool true, .slice none 0 0] 24 (0, 0)) := heap_new_at _ _ _ rfl
  generalize W16.alloc (.cells #[.string ⟨#[120, 48]⟩, .bool true, .slice none 0 0, .string ⟨#[103]⟩, .bool false, .slice (some ⟨W13.heap.size, 0, none⟩) 1 1, .string ⟨#[120, 48]⟩, .bool true, .slice none 0 0] 24) = W17 at hb17 hn17 ⊢
  have HN17 := Lib.hid hn17
  clear hn17
  have HM17 := Lib.hid (HM16.out.carry (hb17.mono HM16.out.size))
  have HW17 := Lib.hid (HW16.out.trans (hb17.mono HW16.out.size))
  have K1_17 := Lib.hid ((hb17.block W13.heap.size (Array.getElem?_eq_some_iff.1 K1_16.out).1).trans K1_16.out)
  clear K1_16
  clear hb17
  try dsimp only
  refine hK.out _ _ HM17.out.two (fun _ => ?_)
  clear hK HM16 HW16
  try simp only [Act.put, List.setIfInBounds_toArray, List.set_cons_zero, List.set_cons_succ]
  refine wpAnyH_ready (rs := [39]) (by kernel_rfl) (by simp) ?_
  refine AllReadyH.cons (by simp only [List.getElem?_toArray, List.getElem?_cons_zero, List.getElem?_cons_succ]; rfl) (fun K' hK => ?_) AllReadyH.nil
  go_simp
  refine (symbol_any _ _ _ _ _).mono ?_
  rintro e W18 ⟨rfl, hb18⟩
  have HM18 := Lib.hid (HM17.out.carry (hb18.mono HM17.out.size))
  have HW18 := Lib.hid (HW17.out.trans (hb18.mono HW17.out.size))
  have K1_18 := Lib.hid ((hb18.block W13.heap.size (Array.getElem?_eq_some_iff.1 K1_17.out).1).trans K1_17.out)
  clear K1_17
  have HN18 := Lib.hid ((hb18.block W16.heap.size (Array.getElem?_eq_some_iff.1 HN17.out).1).trans HN17.out)
  clear HN17
  clear hb18
  try dsimp only
  refine hK.out _ _ HM18.out.two (fun _ => ?_)
  clear hK HM17 HW17
  try simp only [Act.put, List.setIfInBounds_toArray, List.set_cons_zero, List.set_cons_succ]
  refine wpAnyH_ready (rs := [40]) (by kernel_rfl) (by simp) ?_
  refine AllReadyH.cons (by simp only [List.getElem?_toArray, List.getElem?_cons_zero, List.getElem?_cons_succ]; rfl) (fun K' hK => ?_) AllReadyH.nil
  go_simp
  have hnew := threeIs (n₀ := W18.heap.size) ⟨#[102]⟩ ⟨#[103]⟩ ⟨#[120, 48]⟩ ⟨#[120, 49]⟩ K1_18.out HN18.out (Array.getElem?_eq_some_iff.1 K1_18.out).1 (Array.getElem?_eq_some_iff.1 HN18.out).1
  refine (requal_any aC aC _ _ _ (by decide) (by decide) (HM18.out.hc.carry (Below.refl _ _) HM18.out.size) hnew).mono ?_
  rintro e W19 ⟨⟨x, rfl, hx⟩, hb19⟩
  obtain rfl : x = true := hx.2 rfl
  clear hx hnew
  have HM19 := Lib.hid (HM18.out.carry (hb19.mono HM18.out.size))
  have HW19 := Lib.hid (HW18.out.trans (hb19.mono HW18.out.size))
  have K1_19 := Lib.hid ((hb19.block W13.heap.size (Array.getElem?_eq_some_iff.1 K1_18.out).1).trans K1_18.out)
  clear K1_18
  have HN19 := Lib.hid ((hb19.block W16.heap.size (Array.getElem?_eq_some_iff.1 HN18.out).1).trans HN18.out)
  clear HN18
  clear hb19
  try dsimp only
  refine hK.out _ _ HM19.out.two (fun _ => ?_)
  clear hK HM18 HW18
  try simp only [Act.put, List.setIfInBounds_toArray, List.set_cons_zero, List.set_cons_succ]
  refine wpAnyH_take (i := 41) (v := ?_) (by simp only [List.getElem?_toArray, List.getElem?_cons_zero, List.getElem?_cons_succ]; rfl) (by kernel_rfl) (by kernel_rfl) (by kernel_rfl) (fun _ _ _ h => h) (Or.inl ⟨by rfl, ?_⟩) HM19.out.two ?_
  case refine_2 => (intro ww hSw; obtain ⟨⟨s1, s2, s3⟩, s4, s5, s6⟩ := hSw; go_simp; try with_reducible rfl)
  try simp only [Act.put, List.setIfInBounds_toArray, List.set_cons_zero, List.set_cons_succ]
  refine wpAnyH_take (i := 42) (v := ?_) (by simp only [List.getElem?_toArray, List.getElem?_cons_zero, List.getElem?_cons_succ]; rfl) (by kernel_rfl) (by kernel_rfl) (by kernel_rfl) (fun _ _ _ h => h) (Or.inl ⟨by rfl, ?_⟩) HM19.out.two ?_
  case refine_2 => (intro ww hSw; obtain ⟨⟨s1, s2, s3⟩, s4, s5, s6⟩ := hSw; go_simp; try with_reducible rfl)
  try simp only [Act.put, List.setIfInBounds_toArray, List.set_cons_zero]
  refine wpAnyH_done (by kernel_rfl) ?_ _
  refine NoPanic.normal ?_
  go_wp2_with fail
  go_ret
  exact ⟨rfl, HW19.out⟩
end Go.Proofs.YtdeaehkdhghfkaaDoor
