/- Packed: Fir, Nrm. -/
import Derived.Test.YtamddagmlanijaaGreatP29
/- first: the first step under a strategy. -/
namespace Go.Proofs.YtamddagmlanijaaGreat
open Go.RowKit Go.Shelf Go.Maps
attribute [local go_sem] Oper.semAt_some

/-- how first answers: the first step, if there is one -/
def FirPost (n₀ : Nat) (L : List Rdx) (e : Ending) (W : World) : Prop :=
  (L = [] ∧ e = .returned (.tuple #[.agg #[.int .i64 0, .slice none 0 0], .bool false])) ∨
    ∃ (x : Rdx) (i : Nat) (pv : Value), L.head? = some x ∧ x.2.head? = some i ∧ e = .returned (.tuple #[.agg #[.int .i64 (i : Int), pv], .bool true]) ∧ W.ownsRow n₀ 3 1 pv x.1.length (ints x.1) ∧ x.1.length ≤ 1048576
/-- what first has at hand ahead of a round -/
structure FMem (n₀ : Nat) (w V : World) (X R : Bs) : Prop where
  s2 : V.heap[n₀ + 2]? = some (.cells #[.int .i64 0, .slice none 0 0] 36 (0, 0))
  s3 : V.heap[n₀ + 3]? = some (.cells #[.bool false] 4 (0, 0))
  bl : Below n₀ w V
  ap : ∀ k, un X R k → n₀ + 4 ≤ k
  lz : n₀ + 4 ≤ V.heap.size
/-- and behind one -/
structure FEnd (n₀ : Nat) (w V : World) (X R : Bs) (x : Rdx) (i : Nat) (pv : Value) : Prop where
  s2 : V.cell? ⟨n₀ + 2, 0, none⟩ = some (.int .i64 (i : Int))
  s2b : V.cell? ⟨n₀ + 2, 1, none⟩ = some pv
  s3 : V.cell? ⟨n₀ + 3, 0, none⟩ = some (.bool true)
  bl : Below n₀ w V
  ap : ∀ k, un X R k → n₀ + 4 ≤ k
  lz : n₀ + 4 ≤ V.heap.size
  row : V.ownsRow n₀ 3 1 pv x.1.length (ints x.1)
  inr : ∀ k, pv.ownBlock = some k → R k ∧ ¬ X k
section
variable {n₀ : Nat} {w A B : World} {X R X' R' : Bs} {n₁ : Nat}
theorem ap_fx (ap : ∀ k, un X R k → n₁ ≤ k) (hz : n₁ ≤ A.heap.size) (hf : Fx n₀ X X' A B) (hg : Rg X R X' R' A B) : ∀ k, un X' R' k → n₁ ≤ k := fun k hk => by
  rcases hk with hk | hk
  · rcases hf.own k hk with h | h
    · exact ap k (.inl h)
    · omega
  · rcases hg.own k hk with h | h | h
    · exact ap k (.inr h)
    · exact ap k (.inl h)
    · omega
theorem FMem.fx (h : FMem n₀ w A X R) (hf : Fx n₀ X X' A B) (hg : Rg X R X' R' A B) : FMem n₀ w B X' R' := by
  have hz := hf.size
  have hl := h.lz
  exact ⟨hf.heap h.s2 fun hx => by have := h.ap _ (.inl hx); omega, hf.heap h.s3 fun hx => by have := h.ap _ (.inl hx); omega, h.bl.trans (hf.below (by omega)), ap_fx h.ap h.lz hf hg, by omega⟩
theorem FEnd.fx {x : Rdx} {i : Nat} {pv : Value} (h : FEnd n₀ w A X R x i pv) (hf : Fx n₀ X X' A B) (hg : Rg X R X' R' A B) : FEnd n₀ w B X' R' x i pv := by
  have hz := hf.size
  have hl := h.lz
  exact ⟨hf.cell h.s2 fun hx => by have h9 := h.ap _ (.inl hx); dsimp only at h9; omega, hf.cell h.s2b fun hx => by have h9 := h.ap _ (.inl hx); dsimp only at h9; omega, hf.cell h.s3 fun hx => by have h9 := h.ap _ (.inl hx); dsimp only at h9; omega, h.bl.trans (hf.below (by omega)), ap_fx h.ap h.lz hf hg, by omega,
    row_kept h.row fun k e => hf.block k (h.row.lt k e).2 (.inr (h.inr k e).2), fun k e => ⟨hg.grow k (h.inr k e).1, fun hx => hg.dis k hx (hg.grow k (h.inr k e).1)⟩⟩
end
theorem setCell_other (W : World) (a : Addr) (v : Value) {j : Nat} (h : j ≠ a.block) : (W.setCell a v).heap[j]? = W.heap[j]? := Below.heap_setCell W a v j h
/-- three cells written -/
abbrev put3 (n₀ : Nat) (V : World) (a b c : Value) : World := ((V.setCell ⟨n₀ + 2, 0, none⟩ a).setCell ⟨n₀ + 2, 1, none⟩ b).setCell ⟨n₀ + 3, 0, none⟩ c
theorem put3_other (n₀ : Nat) (V : World) (a b c : Value) {j : Nat} (h : j ≠ n₀ + 2) (h2 : j ≠ n₀ + 3) : (put3 n₀ V a b c).heap[j]? = V.heap[j]? :=
  (setCell_other _ _ _ h2).trans ((setCell_other _ _ _ h).trans (setCell_other _ _ _ h))
theorem put3_cell (n₀ : Nat) (V : World) (a b c : Value) {j o : Nat} (h : j ≠ n₀ + 2) (h2 : j ≠ n₀ + 3) : (put3 n₀ V a b c).cell? ⟨j, o, none⟩ = V.cell? ⟨j, o, none⟩ := World.cell?_of_block (put3_other n₀ V a b c h h2)
theorem put2_cell (n₀ : Nat) (V : World) (a b : Value) {j o : Nat} (h : j ≠ n₀ + 2) : ((V.setCell ⟨n₀ + 2, 0, none⟩ a).setCell ⟨n₀ + 2, 1, none⟩ b).cell? ⟨j, o, none⟩ = V.cell? ⟨j, o, none⟩ := World.cell?_of_block ((setCell_other _ _ _ h).trans (setCell_other _ _ _ h))
theorem put3_below (n₀ : Nat) (V : World) (a b c : Value) : Below n₀ V (put3 n₀ V a b c) :=
  ((((Below.refl n₀ V).setCell (p := ⟨n₀ + 2, 0, none⟩) (by simp) a).setCell (p := ⟨n₀ + 2, 1, none⟩) (by simp) b).setCell (p := ⟨n₀ + 3, 0, none⟩) (by simp) c)
theorem put3_size (n₀ : Nat) (V : World) (a b c : Value) : (put3 n₀ V a b c).heap.size = V.heap.size := by simp [put3, World.setCell]
theorem put3_cells {n₀ : Nat} {w V : World} {X R : Bs} (h : FMem n₀ w V X R) (a b c : Value) : (put3 n₀ V a b c).cell? ⟨n₀ + 2, 0, none⟩ = some a ∧ (put3 n₀ V a b c).cell? ⟨n₀ + 2, 1, none⟩ = some b ∧ (put3 n₀ V a b c).cell? ⟨n₀ + 3, 0, none⟩ = some c := by
  have k2 := cells_of h.s2 0
  have k2b := cells_of h.s2 1
  have k3 := cells_of h.s3 0
  simp only [List.getElem?_toArray, List.getElem?_cons_zero, List.getElem?_cons_succ] at k2 k2b k3
  have l2 := (World.cell?_setCell_other V ⟨n₀ + 2, 0, none⟩ ⟨n₀ + 2, 1, none⟩ a (by simp)).trans k2b
  have l3 := (World.cell?_setCell_other (V.setCell ⟨n₀ + 2, 0, none⟩ a) ⟨n₀ + 2, 1, none⟩ ⟨n₀ + 3, 0, none⟩ b (by simp)).trans ((World.cell?_setCell_other V ⟨n₀ + 2, 0, none⟩ ⟨n₀ + 3, 0, none⟩ a (by simp)).trans k3)
  refine ⟨?_, ?_, ?_⟩
  · exact (World.cell?_setCell_other _ _ _ _ (by simp)).trans ((World.cell?_setCell_other _ _ _ _ (by simp)).trans (World.cell?_setCell_same' _ _ _ (by rw [k2]; rfl)))
  · exact (World.cell?_setCell_other _ _ _ _ (by simp)).trans (World.cell?_setCell_same' _ _ _ (by rw [l2]; rfl))
  · exact World.cell?_setCell_same' _ _ _ (by rw [l3]; rfl)
theorem FMem.ends {n₀ : Nat} {w V : World} {X R : Bs} (h : FMem n₀ w V X R) (hdis : ∀ k, X k → ¬ R k) {x : Rdx} (i : Nat) {pv : Value} (hrow : V.ownsRow n₀ 3 1 pv x.1.length (ints x.1)) (hin : ∀ k, pv.ownBlock = some k → R k) :
    Kx n₀ (un X R) V (put3 n₀ V (.int .i64 (i : Int)) pv (.bool true)).drew ∧ FEnd n₀ w (put3 n₀ V (.int .i64 (i : Int)) pv (.bool true)).drew X R x i pv := by
  have hb := put3_below n₀ V (.int .i64 (i : Int)) pv (.bool true)
  obtain ⟨c0, c1, c2⟩ := put3_cells h (.int .i64 (i : Int)) pv (.bool true)
  have hk : ∀ j, un X R j → (put3 n₀ V (.int .i64 (i : Int)) pv (.bool true)).heap[j]? = V.heap[j]? := fun j hj => by have := h.ap j hj; exact put3_other _ _ _ _ _ (by omega) (by omega)
  exact ⟨⟨hb.drew, hk⟩, c0, c1, c2, h.bl.trans hb.drew, h.ap, by have := h.lz; have := put3_size n₀ V (.int .i64 (i : Int)) pv (.bool true); simp only [World.drew]; omega, row_kept hrow fun k e => hk k (.inr (hin k e)), fun k e => ⟨hin k e, fun hx => hdis k hx (hin k e)⟩⟩
theorem nats_head {x : List Nat} {i : Nat} (h : x.head? = some i) : (nats x)[0]? = some (.int .i64 (i : Int)) := by
  cases x with
  | nil => cases h
  | cons y x => cases h; rfl

set_option maxRecDepth 100000 in
set_option maxHeartbeats 4000000 in
theorem first_any (l : List RlV) (rv lv : Value) (t : Tm) (s : Value) (k : Int) (w : World) (hs : SlIs w.heap.size w t.ts s) (hr : RulV w.heap.size w l rv) (hrow : w.ownsRow 0 4 1 lv l.length (linVs l))
    (hl : l.length ≤ 1048576) (hlo : ∀ p ∈ l, p.1.1.ok ∧ p.1.1.bulk ≤ 1048576) (hto : t.ok) (hb : t.bulk ≤ 1048576) (hd : t.depth ≤ 1048576) :
    Calls Tryz.prog 112 #[.agg #[rv, lv], tmv t s, .int .i64 k] w fun e w' => FirPost w.heap.size (choL k (rdx l t)) e w' ∧ Below w.heap.size w w' := by
  obtain ⟨oa, cap, rfl, -⟩ := hs.form
  obtain ⟨ra, rc, rfl⟩ := hr.shape
  obtain ⟨lo, lc, rfl, -⟩ := ownsRow_formP hrow
  have hb0 : Below w.heap.size w ((((w.alloc (.cells #[.slice ra l.length rc, .slice lo l.length lc] 178)).alloc (.cells #[.string t.nm, .bool t.vr, .slice oa t.ts.length cap] 25)).alloc (.cells #[.int .i64 0, .slice none 0 0] 36)).alloc (.cells #[.bool false] 4)) := by go_grown
  have HCH := Lib.hid (chosen_any l (.slice ra l.length rc) (.slice lo l.length lc) t (.slice oa t.ts.length cap) k w.heap.size (w.heap.size + 4) _ (by omega) (by simp) (hs.carry hb0 (Nat.le_refl _)) (hr.carry hb0 (Nat.le_refl _)) (row_kept hrow fun k e => hb0.block k (hrow.lt k e).2) (fun k e => .inr (hrow.lt k e).2) hl hlo hto hb hd)
  have HB0 := Lib.hid hb0
  clear hs hr hrow hlo hb0
  refine (callsIn_wide (n := 9)).1 ?_
  refine callsIn_of_wp_marks Tryz.func112 rfl trivial ?_ rfl
  rw [show tmv t (.slice oa t.ts.length cap) = .agg #[.string t.nm, .bool t.vr, .slice oa t.ts.length cap] from rfl]
  simp only [Tryz.ntmps112, List.size_toArray, List.length_cons, List.length_nil, Nat.reduceAdd, Nat.reduceSub, Array.replicate_succ, Array.replicate_zero, List.push_toArray, List.append_toArray, List.nil_append, List.cons_append]
  gi_wp2_with fail
  refine ⟨trivial, (callsIn_wide.2 HCH.out).mono ?_⟩
  rintro e w5 ⟨⟨v5, X5, rfl, hv5⟩, hb5⟩
  obtain ⟨gf, lb, rfl, heg, hx5, hq5⟩ := hv5
  have hs2 := (hb5.block (w.heap.size + 2) (by simp)).trans ((Below.heap_alloc _ (.cells #[.bool false] 4) (w.heap.size + 2) (by simp)).trans (heap_new_at ((w.alloc (.cells #[.slice ra l.length rc, .slice lo l.length lc] 178)).alloc (.cells #[.string t.nm, .bool t.vr, .slice oa t.ts.length cap] 25)) (.cells #[.int .i64 0, .slice none 0 0] 36) (w.heap.size + 2) (by simp)))
  have hs3 := (hb5.block (w.heap.size + 3) (by simp)).trans (heap_new_at (((w.alloc (.cells #[.slice ra l.length rc, .slice lo l.length lc] 178)).alloc (.cells #[.string t.nm, .bool t.vr, .slice oa t.ts.length cap] 25)).alloc (.cells #[.int .i64 0, .slice none 0 0] 36)) (.cells #[.bool false] 4) (w.heap.size + 3) (by simp))
  have hz5 : w.heap.size + 4 ≤ w5.heap.size := by have := hb5.size; simp at this; omega
  have HM0 := Lib.hid (show FMem w.heap.size w w5 X5 (fun _ => False) from ⟨hs2, hs3, HB0.out.trans (hb5.mono (by simp; omega)), fun k hk => hk.elim (fun h => (hx5 k h).1) False.elim, hz5⟩)
  have HEG := Lib.hid heg
  have HX5 := Lib.hid hx5
  have HQ5 := Lib.hid hq5
  clear hb5 heg hx5 hq5 hs2 hs3 HCH
  gi_wp2_with fail
  refine wpIn_rangeX rfl (by omega) (gf := gf) (lb := lb) rfl trivial HEG.out HQ5.out (fun _ => False) (by omega) (fun k hk => hk.elim (fun h => by have := HX5.out k h; omega) False.elim) (fun _ _ h => h) (fun x vs R W ⟨_, _, h, _⟩ => by rw [h]; rfl)
    (fun X R pre V => pre = [] ∧ FMem w.heap.size w V X R)
    (fun c X R pre V => c = .ret ∧ ∃ x i pv, pre = [x] ∧ x.2.head? = some i ∧ x.1.length ≤ 1048576 ∧ FEnd w.heap.size w V X R x i pv)
    (fun X R X' R' s A B h hf hg => ⟨h.1, h.2.fx hf hg⟩) (fun c X R X' R' s A B h hf hg => by obtain ⟨h0, x, i, pv, h1, h2, h3, h4⟩ := h; exact ⟨h0, x, i, pv, h1, h2, h3, h4.fx hf hg⟩) ⟨rfl, HM0.out⟩ ?round ?done ?stop
  case round =>
    rintro lq X R pre x vs V r₀ ⟨rfl, hM⟩ ⟨pv, rv, rfl, hel⟩ hxb hdis hXl hml hrl hms hpre
    obtain ⟨po, pc, rfl, -⟩ := ownsRow_formP hel.pos
    obtain ⟨ro, rc2, rfl, -⟩ := ownsRow_formP hel.rules
    simp only [Array.zip]
    gi_wp2
    have hnz : w.heap.size ≤ V.heap.size := by have := hM.lz; omega
    have hB1 : Below V.heap.size V (V.alloc (.cells #[.slice po x.1.length pc, .slice ro x.2.length rc2] 182)) := by go_grown
    refine ⟨Kx.of_below hB1 hnz hxb, fun r => ?_⟩
    have hlV := (hxb lq (.inl hXl)).2
    obtain ⟨V2, hV2⟩ : ∃ V2, V2 = (V.alloc (.cells #[.slice po x.1.length pc, .slice ro x.2.length rc2] 182)).putObj lq (.loop r) := ⟨_, rfl⟩
    have hfa : Fx w.heap.size X X V V2 := by rw [hV2]; exact (Fx.of_below X hB1).trans (Fx.put _ (hxb lq (.inl hXl)).1 hXl)
    have hz2 : V2.heap.size = V.heap.size + 1 := by rw [hV2]; simp
    have hrga : Rg X R X R V V2 := Rg.own_new hdis
    have hM2 := hM.fx hfa hrga
    have hxb2 := hrga.xb hfa hnz hxb
    have hbu : V2.heap[V.heap.size]? = some (.cells #[.slice po x.1.length pc, .slice ro x.2.length rc2] 182 (0, 0)) := by
      rw [hV2, World.putObj_heap_other (by omega)]; exact World.alloc_heap_new V _
    have hel2 : RdIs w.heap.size x (.slice po x.1.length pc) (.slice ro x.2.length rc2) R V2 := hel.on (fun _ h => h) fun k hk => hfa.block k (hxb k (.inr hk)).2 (.inr fun h => hdis k h hk)
    obtain ⟨i, hi⟩ : ∃ i, x.2.head? = some i := by
      cases h : x.2 with
      | nil => exact absurd h hel.ne
      | cons y l => exact ⟨y, rfl⟩
    have hlen : 0 < x.2.length := List.length_pos_iff.2 hel.ne
    obtain ⟨gr, rfl⟩ : ∃ g, ro = some ⟨g, 0, none⟩ := by
      rcases hel.rules.2 with ⟨h, h2⟩ | ⟨g, cp, cur, h, _⟩
      · omega
      · exact ⟨g, by cases h; rfl⟩
    have c2 := hel2.rules.cells (g := gr) rfl 0 _ (nats_head hi)
    have e2 : (⟨gr, 0, none⟩ : Addr).add 0 = ⟨gr, 0, none⟩ := by simp [Addr.add]
    have c0 := cells_of hbu 0
    have c1 := cells_of hbu 1
    simp only [List.getElem?_toArray, List.getElem?_cons_zero, List.getElem?_cons_succ] at c0 c1
    simp only [e2] at c2
    have hlzz := hM2.lz
    have g2 : V2.frozen? ⟨w.heap.size + 2, 0, none⟩ = false := by simp [World.frozen?, hM2.s2]
    have g2b : V2.frozen? ⟨w.heap.size + 2, 1, none⟩ = false := by simp [World.frozen?, hM2.s2]
    have g3 : V2.frozen? ⟨w.heap.size + 3, 0, none⟩ = false := by simp [World.frozen?, hM2.s3]
    have k2 := cells_of hM2.s2 0
    have k2b := cells_of hM2.s2 1
    have k3 := cells_of hM2.s3 0
    simp only [List.getElem?_toArray, List.getElem?_cons_zero, List.getElem?_cons_succ] at k2 k2b k3
    have hne0 : ¬ (gr = w.heap.size + 2) := fun e => by have := hM2.ap gr (.inr (hel2.inr gr (.inr rfl))); omega
    have hne1 : ¬ (gr = w.heap.size + 3) := fun e => by have := hM2.ap gr (.inr (hel2.inr gr (.inr rfl))); omega
    have hne0' : ¬ (gr = w.heap.size + 1 + 1) := hne0
    have hne1' : ¬ (gr = w.heap.size + 1 + 1 + 1) := hne1
    have hne2' : ¬ (V.heap.size = w.heap.size + 1 + 1) := by have := hM.lz; omega
    have hne3' : ¬ (V.heap.size = w.heap.size + 1 + 1 + 1) := by have := hM.lz; omega
    have hne2 : ¬ (V.heap.size = w.heap.size + 2) := by have := hM.lz; omega
    have hne3 : ¬ (V.heap.size = w.heap.size + 3) := by have := hM.lz; omega
    have HM2 := Lib.hid hM2
    have HEL := Lib.hid hel2
    have HXB := Lib.hid hxb2
    have HDI := Lib.hid hdis
    have HI := Lib.hid hi
    have hS : V2.drew.cell? ⟨V.heap.size, 0, none⟩ = some (.slice po x.1.length pc) ∧ V2.drew.cell? ⟨V.heap.size, 1, none⟩ = some (.slice (some ⟨gr, 0, none⟩) x.2.length rc2) ∧ V2.drew.cell? ⟨gr, 0, none⟩ = some (.int .i64 (i : Int)) := ⟨c0, c1, c2⟩
    rw [← hV2]
    clear hM hel hxb hfa hrga hM2 hV2 hxb2 hbu hB1 hpre hrl hel2 hdis hi
    gi_wp2_with fail
    refine wpIn_region_hi (S := fun w' => w'.cell? ⟨V.heap.size, 0, none⟩ = some (.slice po x.1.length pc) ∧ w'.cell? ⟨V.heap.size, 1, none⟩ = some (.slice (some ⟨gr, 0, none⟩) x.2.length rc2) ∧ w'.cell? ⟨gr, 0, none⟩ = some (.int .i64 (i : Int))) (by kernel_rfl) hS (fun _ => ?_)
    simp only [List.size_toArray, List.length_cons, List.length_nil, Nat.reduceAdd]
    refine wpHI_take (i := 0) (v := ?_) (wide_fn _) (by kernel_rfl) (by simp only [List.getElem?_toArray, List.getElem?_cons_zero]; rfl) (by kernel_rfl) (by kernel_rfl) (by kernel_rfl) (fun _ _ _ h => h) (Or.inl ⟨by rfl, ?_⟩) hS ?_
    case refine_2 => (intro ww hSw; obtain ⟨s1, s2, s3⟩ := hSw; go_simp; try with_reducible rfl)
    try simp only [Act.put, List.setIfInBounds_toArray, List.set_cons_zero, List.set_cons_succ]
    refine wpHI_take (i := 1) (v := ?_) (wide_fn _) (by kernel_rfl) (by simp only [List.getElem?_toArray, List.getElem?_cons_zero, List.getElem?_cons_succ]; rfl) (by kernel_rfl) (by kernel_rfl) (by kernel_rfl) (fun _ _ _ h => h) (Or.inl ⟨by rfl, ?_⟩) hS ?_
    case refine_2 => (intro ww hSw; obtain ⟨s1, s2, s3⟩ := hSw; go_simp; try with_reducible rfl)
    try simp only [Act.put, List.setIfInBounds_toArray, List.set_cons_zero, List.set_cons_succ]
    refine wpHI_take (i := 2) (v := ?_) (wide_fn _) (by kernel_rfl) (by simp only [List.getElem?_toArray, List.getElem?_cons_zero, List.getElem?_cons_succ]; rfl) (by kernel_rfl) (by kernel_rfl) (by kernel_rfl) (fun _ _ _ h => h) (Or.inl ⟨by rfl, ?_⟩) hS ?_
    case refine_2 => (intro ww hSw; obtain ⟨s1, s2, s3⟩ := hSw; go_simp; try with_reducible rfl)
    try simp only [Act.put, List.setIfInBounds_toArray, List.set_cons_zero, List.set_cons_succ]
    refine wpHI_take (i := 3) (v := ?_) (wide_fn _) (by kernel_rfl) (by simp only [List.getElem?_toArray, List.getElem?_cons_zero, List.getElem?_cons_succ]; rfl) (by kernel_rfl) (by kernel_rfl) (by kernel_rfl) (fun _ _ _ h => h) (Or.inl ⟨by rfl, ?_⟩) hS ?_
    case refine_2 => (intro ww hSw; obtain ⟨s1, s2, s3⟩ := hSw; go_simp; try with_reducible rfl)
    try simp only [Act.put, List.setIfInBounds_toArray, List.set_cons_zero, List.set_cons_succ]
    refine wpHI_take (i := 4) (v := ?_) (wide_fn _) (by kernel_rfl) (by simp only [List.getElem?_toArray, List.getElem?_cons_zero, List.getElem?_cons_succ]; rfl) (by kernel_rfl) (by kernel_rfl) (by kernel_rfl) (fun _ _ _ h => h) (Or.inl ⟨by rfl, ?_⟩) hS ?_
    case refine_2 => (intro ww hSw; obtain ⟨s1, s2, s3⟩ := hSw; go_simp; try with_reducible rfl)
    try simp only [Act.put, List.setIfInBounds_toArray, List.set_cons_zero, List.set_cons_succ]
    refine wpHI_take (i := 5) (v := ?_) (wide_fn _) (by kernel_rfl) (by simp only [List.getElem?_toArray, List.getElem?_cons_zero, List.getElem?_cons_succ]; rfl) (by kernel_rfl) (by kernel_rfl) (by kernel_rfl) (fun _ _ _ h => h) (Or.inl ⟨by rfl, ?_⟩) hS ?_
    case refine_2 => (intro ww hSw; obtain ⟨s1, s2, s3⟩ := hSw; go_simp; try with_reducible rfl)
    try simp only [Act.put, List.setIfInBounds_toArray, List.set_cons_zero, List.set_cons_succ]
    refine wpHI_take (i := 6) (v := ?_) (wide_fn _) (by kernel_rfl) (by simp only [List.getElem?_toArray, List.getElem?_cons_zero, List.getElem?_cons_succ]; rfl) (by kernel_rfl) (by kernel_rfl) (by kernel_rfl) (fun _ _ _ h => h) (Or.inl ⟨by rfl, ?_⟩) hS ?_
    case refine_2 => (intro ww hSw; obtain ⟨s1, s2, s3⟩ := hSw; go_simp; try with_reducible rfl)
    try simp only [Act.put, List.setIfInBounds_toArray, List.set_cons_zero, List.set_cons_succ]
    refine wpHI_one (i := 7) (wide_fn _) (by kernel_rfl) (by kernel_rfl) (by simp only [List.getElem?_toArray, List.getElem?_cons_zero, List.getElem?_cons_succ]; rfl) (by rfl) (fun K' hK => ?_)
    go_simp
    refine hK.out _ _ ⟨(put2_cell _ _ _ _ hne2).trans c0, (put2_cell _ _ _ _ hne2).trans c1, (put2_cell _ _ _ _ hne0).trans c2⟩ (fun _ => ?_)
    clear hK
    try simp only [Act.put, List.setIfInBounds_toArray, List.set_cons_zero, List.set_cons_succ]
    refine wpHI_one (i := 8) (wide_fn _) (by kernel_rfl) (by kernel_rfl) (by simp only [List.getElem?_toArray, List.getElem?_cons_zero, List.getElem?_cons_succ]; rfl) (by rfl) (fun K' hK => ?_)
    go_simp
    refine hK.out _ _ ⟨(put3_cell _ _ _ _ _ hne2 hne3).trans c0, (put3_cell _ _ _ _ _ hne2 hne3).trans c1, (put3_cell _ _ _ _ _ hne0 hne1).trans c2⟩ (fun _ => ?_)
    clear hK
    try simp only [Act.put, List.setIfInBounds_toArray, List.set_cons_zero, List.set_cons_succ]
    refine wpHI_done (by kernel_rfl) ?_ _
    gi_wp2_with fail
    have hends := HM2.out.ends HDI.out i HEL.out.pos fun k e => HEL.out.inr k (.inl e)
    exact ⟨hends.1, rfl, x, i, _, rfl, HI.out, HEL.out.plen, hends.2⟩
  case done =>
    rintro D X R V hD hXD ⟨hLe, hM⟩ hxb hdis hKD
    have t2 := cells_of hM.s2 0
    have t2b := cells_of hM.s2 1
    have t3 := cells_of hM.s3 0
    have g2 : V.frozen? ⟨w.heap.size + 2, 0, none⟩ = false := by simp [World.frozen?, hM.s2]
    have g2b : V.frozen? ⟨w.heap.size + 2, 1, none⟩ = false := by simp [World.frozen?, hM.s2]
    have g3 : V.frozen? ⟨w.heap.size + 3, 0, none⟩ = false := by simp [World.frozen?, hM.s3]
    simp only [List.getElem?_toArray, List.getElem?_cons_zero, List.getElem?_cons_succ] at t2 t2b t3
    have HM := Lib.hid hM
    have HL := Lib.hid hLe
    have hlzz := hM.lz
    clear hM hLe hxb hdis
    gi_wp2_with fail
    have hKD2 : (put3 w.heap.size V (.int .i64 0) (.slice none 0 0) (.bool false)).heap[D]? = some (Obj.deferred (some [])) := (put3_other _ _ _ _ _ (by omega) (by omega)).trans hKD
    obtain ⟨d0, d1, d2⟩ := put3_cells HM.out (.int .i64 0) (.slice none 0 0) (.bool false)
    refine ⟨by simp, .inl ⟨_, _, rfl, run_takeDeferred (w := put3 w.heap.size V (.int .i64 0) (.slice none 0 0) (.bool false)) hKD2, ?_⟩⟩
    have hc0 := cell_kept d0 (grownBy_putObj' _ D (.deferred none)) (fun r e => by cases e; exact ⟨_, hKD2, rfl⟩)
    have hc1 := cell_kept d1 (grownBy_putObj' _ D (.deferred none)) (fun r e => by cases e; exact ⟨_, hKD2, rfl⟩)
    have hc2 := cell_kept d2 (grownBy_putObj' _ D (.deferred none)) (fun r e => by cases e; exact ⟨_, hKD2, rfl⟩)
    have hbl := (HM.out.bl.trans (put3_below w.heap.size V (.int .i64 0) (.slice none 0 0) (.bool false))).trans (belowK_b (w := w) (Nat.le_refl _) _ D _ (.deferred none) (by omega) hKD2 rfl rfl)
    refine ⟨.tuple #[.agg #[.int .i64 0, .slice none 0 0], .bool false], ?_, .inl ⟨HL.out, rfl⟩, hbl⟩
    simp [results, Tryz.f112, go_sem, hc0, hc1, hc2]
  case stop =>
    rintro D c X R pre V hD hXD hp ⟨rfl, x, i, pv, rfl, hi, hxl, hE⟩ hxb hdis hKD
    have HE := Lib.hid hE
    have hd0 : (choL k (rdx l t)).head? = some x := by
      obtain ⟨r, hr⟩ := hp
      rw [← hr]; rfl
    clear hE hp
    gi_wp2
    refine ⟨by simp, .inl ⟨_, _, rfl, run_takeDeferred hKD, ?_⟩⟩
    have hc0 := cell_kept HE.out.s2 (grownBy_putObj' _ D (.deferred none)) (fun r e => by cases e; exact ⟨_, hKD, rfl⟩)
    have hc1 := cell_kept HE.out.s2b (grownBy_putObj' _ D (.deferred none)) (fun r e => by cases e; exact ⟨_, hKD, rfl⟩)
    have hc2 := cell_kept HE.out.s3 (grownBy_putObj' _ D (.deferred none)) (fun r e => by cases e; exact ⟨_, hKD, rfl⟩)
    refine ⟨.tuple #[.agg #[.int .i64 (i : Int), pv], .bool true], ?_, .inr ⟨x, i, pv, hd0, hi, rfl, row_kept HE.out.row fun j ej => World.putObj_heap_other fun e2 => ?_, hxl⟩, HE.out.bl.trans (belowK_b (w := w) (Nat.le_refl _) _ D _ _ (by omega) hKD rfl rfl)⟩
    · simp [results, Tryz.f112, go_sem, hc0, hc1, hc2]
    · subst e2
      obtain ⟨o, h4, h5⟩ := row_cells HE.out.row ej
      rw [hKD] at h4; cases h4; cases h5
end Go.Proofs.YtamddagmlanijaaGreat
/- IsNormal: is there no redex? -/
namespace Go.Proofs.YtamddagmlanijaaGreat
open Go.RowKit Go.Shelf Go.Maps
attribute [local go_sem] Oper.semAt_some

theorem newFinder_from (l : List RlV) (rv : Value) (w W : World) (hb : Below w.heap.size w W) (hr : RulV w.heap.size w l rv) (hl : l.length ≤ 1048576) (hp : ∀ p ∈ l, p.1.1.bulk ≤ 1048576 ∧ p.1.1.depth ≤ 1048576) :
    Calls Tryz.prog 109 #[rv] W fun e w' => (∃ lv, e = .returned (.agg #[rv, lv]) ∧ w'.ownsRow w.heap.size 4 1 lv l.length (linVs l)) ∧ Below w.heap.size w w' ∧ Below W.heap.size W w' := by
  refine (newFinder_any l rv W (hr.carry hb hb.size) hl hp).mono ?_
  rintro e w' ⟨⟨lv, h1, h2⟩, h3⟩
  exact ⟨⟨lv, h1, ownsRow_mono h2 hb.size⟩, hb.trans (h3.mono hb.size), h3⟩
theorem FirPost.form {n : Nat} {L : List Rdx} {e : Ending} {W : World} (h : FirPost n L e W) : ∃ i po pn pc b, e = .returned (.tuple #[.agg #[.int .i64 i, .slice po pn pc], .bool b]) ∧ (b = false ↔ L = []) := by
  rcases h with ⟨h1, h2⟩ | ⟨x, i, pv, h1, -, h2, h3, -⟩
  · exact ⟨_, _, _, _, _, h2, fun _ => h1, fun _ => rfl⟩
  · obtain ⟨po, pc, rfl, -⟩ := ownsRow_formP h3
    refine ⟨_, _, _, _, _, h2, fun h => (by cases h), fun h => ?_⟩
    rw [h] at h1; cases h1

end Go.Proofs.YtamddagmlanijaaGreat
