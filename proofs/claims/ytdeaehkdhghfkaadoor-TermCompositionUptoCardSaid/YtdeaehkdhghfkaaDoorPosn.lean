/- Positions. -/
import Derived.WalkKit
import Derived.ProofKit
import Derived.OpenShut
import Derived.Handy
import Derived.Lib.Hide
import Derived.Maps.AppendAt
import Derived.Deep.RegionHeld3
import Derived.Test.YtdeaehkdhghfkaaDoorPosM
import Derived.Test.YtdeaehkdhghfkaaDoorAt
namespace Go.Proofs.YtdeaehkdhghfkaaDoor
open Go.RowKit

theorem infoInts : (Tryd.prog.info? 51).map (fun i => (i.zero, i.size, i.bytes)) = some (some (.slice none 0 0), 1, 24) := by kernel_rfl
theorem infoInt : (Tryd.prog.info? 3).map (fun i => (i.zero, i.size, i.bytes)) = some (some (.int .i64 0), 1, 8) := by kernel_rfl

theorem ints_at (l : List Int) (i : Nat) (x : Int) (h : l[i]? = some x) : (ints l)[i]? = some (.int .i64 x) := by simp [ints, h]
/-- a row's cells -/
theorem ownsRow_cell {W : World} {m g n c : Nat} {e : TypeId} {l : List Int} (h : W.ownsRow m e 1 (.slice (some ⟨g, 0, none⟩) n c) n (ints l)) (i : Nat) (x : Int) (hx : l[i]? = some x) : W.cell? ⟨g, i, none⟩ = some (.int .i64 x) := by
  have := h.cells (g := g) rfl i _ (ints_at l i x hx)
  have e : (⟨g, 0, none⟩ : Addr).add i = ⟨g, i, none⟩ := by unfold Addr.add; split <;> simp_all
  rwa [e] at this
theorem ownsRow_form {W : World} {m n : Nat} {e : TypeId} {v : Value} {xs : List Value} (h : W.ownsRow m e 1 v n xs) : ∃ oa cap, v = .slice oa n cap ∧ (oa = none → n = 0) := by
  rcases h.2 with ⟨rfl, rfl⟩ | ⟨g, cap, cur, rfl, _⟩
  · exact ⟨_, _, rfl, fun _ => rfl⟩
  · exact ⟨_, _, rfl, fun h => by cases h⟩
theorem PosIs.ofRow {W : World} {m : Nat} {e : TypeId} {v : Value} {l : List Int} (h : W.ownsRow m e 1 v l.length (ints l)) : PosIs W.heap.size W l v := by
  have h0 := h
  rcases h.2 with ⟨rfl, hl⟩ | ⟨g, cap, cur, rfl, hb, hg, _⟩
  · exact ⟨none, 0, by rw [hl], fun hne => absurd (List.length_eq_zero_iff.1 hl) hne⟩
  · refine ⟨_, cap, rfl, fun _ => ⟨g, 0, rfl, (Array.getElem?_eq_some_iff.1 hg).1, fun i x hx => ?_⟩⟩
    rw [Nat.zero_add]
    exact ownsRow_cell h0 i x hx

theorem clonePos_any (m : Nat) (v : Value) (l : List Int) (w : World) (h : w.ownsRow m 3 1 v l.length (ints l)) (hl : l.length ≤ 1048576) :
    Calls Tryd.prog 112 #[v] w fun e w' => (∃ v', e = .returned v' ∧ w'.ownsRow w.heap.size 3 1 v' l.length (ints l)) ∧ Below w.heap.size w w' := by
  have h0 := h
  rcases h.2 with ⟨rfl, hl0⟩ | ⟨g, cap, cur, rfl, hb, hg, _⟩
  · obtain rfl : l = [] := List.length_eq_zero_iff.1 hl0
    refine (Tryd.slices_Clone_int_nil 0 0 w).mono ?_
    rintro e w' ⟨rfl, rfl⟩
    exact ⟨⟨_, rfl, World.ownsRow_nil _ _ _ _⟩, Below.refl _ _⟩
  · refine (Tryd.slices_Clone_int g 0 l.length cap l w (Nat.le_refl _) (by omega) fun j hj => ?_).mono ?_
    · rw [Nat.zero_add, List.getD_eq_getElem?_getD, List.getElem?_eq_getElem hj]
      exact ownsRow_cell h0 j _ (List.getElem?_eq_getElem hj)
    · rintro e w' ⟨v', rfl, ho, -, hbw⟩
      rw [List.take_length] at ho
      exact ⟨⟨v', rfl, ho⟩, hbw⟩

theorem Tm.depth_mem {t : Tm} {l : List Tm} (h : t ∈ l) : t.depth ≤ Tm.depths l := by
  induction l with
  | nil => cases h
  | cons x l ih =>
    simp only [Tm.depths]
    rcases List.mem_cons.1 h with rfl | h
    · omega
    · have := ih h; omega
/-- k arguments being done -/
structure PosSt (n₀ : Nat) (w : World) (all pos : Value) (l : List Int) (hs : List Value) (ts : List Tm) (k : Nat) (W : World) (a : Value) (hk : List Value) : Prop where
  rall : W.ownsRow n₀ 51 1 a (hs.length + hk.length) (hs ++ hk)
  heads : Hs w.heap.size W (l :: Tm.positionsL l 0 (ts.take k)) hk
  same : a.ownBlock = all.ownBlock ∨ ∃ j, a.ownBlock = some j ∧ w.heap.size ≤ j
  fr : FrP all.ownBlock pos.ownBlock w W
  rpos : W.ownsRow n₀ 3 1 pos l.length (ints l)

theorem ints_snoc (l : List Int) (x : Int) : ints (l ++ [x]) = ints l ++ [.int .i64 x] := by simp [ints]
theorem types_apart : 3 ≠ 51 := by decide
theorem PosSt.start {n₀ : Nat} {w w1 w2 : World} {all pos h v2 : Value} {l : List Int} {hs : List Value} {ts : List Tm} (hall : w.ownsRow n₀ 51 1 all hs.length hs) (hpos : w.ownsRow n₀ 3 1 pos l.length (ints l))
    (hb1 : Below w.heap.size w w1) (hh : w1.ownsRow w.heap.size 3 1 h l.length (ints l)) (ho : w2.ownsRow n₀ 51 1 v2 (hs.length + 1) (hs ++ [h])) (hg : w1.grownBy w2 all.ownBlock) (hat : v2.ownBlock = all.ownBlock ∨ v2.ownBlock = some w1.heap.size) :
    PosSt n₀ w all pos l hs ts 0 w2 v2 [h] := by
  have hz := hb1.size
  have hg1 : w.grownBy w1 none := below_grown hb1
  have nn : ∀ v : Value, v.ownBlock = none ∨ v.ownBlock ≠ none := fun v => by cases v.ownBlock <;> simp
  refine ⟨ho, ⟨hh.kept hg ?_, ?_⟩, ?_, ?_, ?_⟩
  · exact ownsRow_apart hh (hall.kept hg1 (nn _)) types_apart
  · simp [Tm.positionsL, Hs]
  · rcases hat with h | h
    · exact .inl h
    · exact .inr ⟨_, h, hz⟩
  · exact (FrP.of_below (x := all.ownBlock) (y := pos.ownBlock) hb1).trans (FrP.grown hg) (.inl rfl) (.inr (.inr (fun j hj => by cases hj)))
  · exact (hpos.kept hg1 (nn _)).kept hg (ownsRow_apart hpos hall types_apart)

theorem PosSt.step {n₀ k : Nat} {w W A B W' : World} {all pos a a' v' : Value} {l : List Int} {hs hk hk2 : List Value} {ts : List Tm} {u : Tm} (st : PosSt n₀ w all pos l hs ts k W a hk) (hpos : w.ownsRow n₀ 3 1 pos l.length (ints l)) (hu : ts[k]? = some u)
    (hA : Below W.heap.size W A) (hm : More A B pos v' l.length) (r : PosSt n₀ B a v' (l ++ [(k : Int)]) (hs ++ hk) u.ts u.ts.length W' a' hk2) :
    PosSt n₀ w all pos l hs ts (k + 1) W' a' (hk ++ hk2) := by
  have hzA := hA.size
  have hzB := hm.frame.size
  have hzW := st.fr.size
  have hkl : k < ts.length := (List.getElem?_eq_some_iff.1 hu).1
  have nn : ∀ v : Value, v.ownBlock = none ∨ v.ownBlock ≠ none := fun v => by cases v.ownBlock <;> simp
  have hgA : W.grownBy A none := below_grown hA
  have hposA := st.rpos.kept hgA (nn _)
  have hallA := st.rall.kept hgA (nn _)
  have hpa := ownsRow_apart hposA hallA types_apart
  have hallB := hallA.kept hm.frame (ownsRow_apart hallA hposA types_apart.symm)
  refine ⟨?_, ?_, ?_, ?_, ?_⟩
  · have := r.rall
    simpa [Nat.add_assoc] using this
  · rw [Tm.take_snoc hu, Tm.positionsL_snoc, List.length_take, Nat.min_eq_left (by omega), Nat.zero_add, ← List.cons_append]
    have h2 := r.heads
    rw [List.take_length, ← Tm.positions_eq] at h2
    refine Hs.append (st.heads.kept fun v p hv => ?_) (h2.kept fun v p hv => ownsRow_mono hv (by omega))
    have hvA := hv.kept hgA (nn _)
    have hvB : B.ownsRow w.heap.size 3 1 v p.length (ints p) := hvA.kept hm.frame (by
      cases hq : v.ownBlock with
      | none => exact .inl rfl
      | some j => exact .inr fun he => by have h1 := (hv.lt _ hq).1; have h3 := (hpos.lt _ he.symm).2; omega)
    refine r.fr.row hvB (ownsRow_apart hvB hallB types_apart) ?_
    cases hq : v.ownBlock with
    | none => exact .inl rfl
    | some j =>
      refine .inr fun he => ?_
      have h1 := hv.lt _ hq
      rcases hm.own with h3 | ⟨j', h3, h4⟩
      · rw [h3] at he; have := (hpos.lt _ he.symm).2; omega
      · rw [h3] at he; cases he; omega
  · rcases r.same with h | ⟨j, h, hj⟩
    · rw [h]; exact st.same
    · exact .inr ⟨j, h, by omega⟩
  · refine ((st.fr.trans (FrP.of_below (x := none) (y := none) hA) (.inr (.inr fun j hj => by cases hj)) (.inr (.inr fun j hj => by cases hj))).trans (FrP.grown hm.frame) (.inr (.inl rfl)) (.inr (.inr fun j hj => by cases hj))).trans r.fr ?_ ?_
    · rcases st.same with h | ⟨j, h, hj⟩
      · exact .inl h
      · exact .inr (.inr fun i hi => by rw [h] at hi; cases hi; exact hj)
    · rcases hm.own with h | ⟨j, h, hj⟩
      · exact .inl h
      · exact .inr (.inr fun i hi => by rw [h] at hi; cases hi; omega)
  · have h3 := r.rpos
    rw [ints_snoc, List.length_append] at h3
    exact hm.back hposA h3 r.fr hpa

set_option maxRecDepth 100000 in
set_option maxHeartbeats 2000000 in
theorem appendPositions_any (t : Tm) : ∀ (s all pos : Value) (hs : List Value) (l : List Int) (n₀ : Nat) (w : World), SlIs n₀ w t.ts s → n₀ ≤ w.heap.size →
    w.ownsRow n₀ 51 1 all hs.length hs → w.ownsRow n₀ 3 1 pos l.length (ints l) → hs.length + t.size ≤ 1048576 → l.length + t.depth ≤ 1048576 → t.bulk ≤ 1048576 →
    Calls Tryd.prog 83 #[all, pos, tmv t s] w fun e w' => ∃ a hk, e = .returned a ∧ PosSt n₀ w all pos l hs t.ts t.ts.length w' a hk := by
  induction t using Tm.ind with
  | h t ih =>
    intro s all pos hs l n₀ w hsl hn₀ hall hpos hsz hdp hb
    obtain ⟨oa, cap, rfl, -⟩ := hsl.form
    obtain ⟨aa, ca, rfl, -⟩ := ownsRow_form hall
    obtain ⟨pa, cp, rfl, -⟩ := ownsRow_form hpos
    have hse := Tm.size_eq t
    have hls := Tm.length_sizes t.ts
    have hsb := Tm.size_bulk t
    obtain ⟨i51, hi1, hz1, hs1, hb1⟩ := info_parts infoInts
    obtain ⟨i3, hi2, hz2, hs2, hb2⟩ := info_parts infoInt
    have H1 := Lib.hid hi1
    have H2 := Lib.hid hz1
    have H3 := Lib.hid hs1
    have H4 := Lib.hid hb1
    have I1 := Lib.hid hi2
    have I2 := Lib.hid hz2
    have I3 := Lib.hid hs2
    have I4 := Lib.hid hb2
    have IH := Lib.hid ih
    have HSE := Lib.hid hse
    have HPOS := Lib.hid hpos
    have HALL := Lib.hid hall
    clear hi1 hz1 hs1 hb1 hi2 hz2 hs2 hb2 ih hse hpos hall
    have htl : t.ts.length ≤ 1048576 := by have := HSE.out; omega
    clear hls hsb
    go_enter Tryd.func83, Tryd.ntmps83
    rw [show tmv t (.slice oa t.ts.length cap) = .agg #[.string t.nm, .bool t.vr, .slice oa t.ts.length cap] from rfl]
    go_wp2_with (first
    | (go_at_call 112
       refine (clonePos_any n₀ _ l _ (HPOS.out.alloc _) (by omega)).mono ?_
       rintro e w1 ⟨⟨hd, rfl, hdo⟩, hb1⟩
       obtain ⟨ha, hc, rfl, -⟩ := ownsRow_form hdo
       have HDO := Lib.hid hdo
       have HB1 := Lib.hid hb1
       clear hdo hb1)
    | (at_builtin
       refine wpList_append_own_at _ rfl _ _ 52 rfl n₀ 51 i51 (.slice none 0 0) 1 24 Tryd.underlying52 H1.out H2.out H3.out H4.out rfl (by decide) _ _ hs rfl (((HALL.out.alloc _).kept (below_grown HB1.out) (by cases (Value.slice aa hs.length ca).ownBlock <;> simp)).alloc _) ⟨w1.heap.size, 0, none⟩ 1 1 [.slice ha l.length hc] rfl rfl (cell_one_new _ _ _) (by simp [Value.oneCell']) (by unfold maxLen; omega) (by omega) (by have := HB1.out.size; simp at this ⊢; omega) ?_
       intro v2 w2 hown2 hgr2 _ hat2
       have hst0 : PosSt n₀ w (.slice aa hs.length ca) (.slice pa l.length cp) l hs t.ts 0 w2 v2 [.slice ha l.length hc] :=
         PosSt.start HALL.out HPOS.out (w1 := w1.alloc (.cells #[.slice ha l.length hc] 51)) (((show Below w.heap.size w (w.alloc (.cells #[.string t.nm, .bool t.vr, .slice oa t.ts.length cap] 24)) from (Below.refl _ w).alloc (Nat.le_refl _) _).trans (HB1.out.mono (by simp))).alloc (by have := HB1.out.size; simp at this; omega) _)
           ((ownsRow_mono HDO.out (by simp)).alloc _) hown2 hgr2 hat2
       have hbox : w2.heap[w.heap.size]? = some (.cells #[.string t.nm, .bool t.vr, .slice oa t.ts.length cap] 24 (0, 0)) :=
         (hgr2.block _ (by have := HB1.out.size; simp at this ⊢; omega) (fun e => by have := (HALL.out.lt _ e.symm).2; omega)).trans ((Below.heap_alloc _ _ _ (by have := HB1.out.size; simp at this; omega)).trans ((HB1.out.block _ (by simp)).trans (heap_new_at _ _ _ rfl)))
       obtain ⟨⟨x0, x1, x2⟩, -⟩ := box3 hbox
       obtain ⟨va, vc, rfl, -⟩ := ownsRow_form hown2
       have HST0 := Lib.hid hst0
       have HZ2 := Lib.hid (hst0.fr.size)
       clear hown2 hgr2 hat2 hst0 hbox))
    go_loopw [0, 17] (fun a i wr => ∃ (j : Nat) (hk : List Value), j ≤ t.ts.length ∧ i = .int .i64 j ∧ Hid (PosSt n₀ w (.slice aa hs.length ca) (.slice pa l.length cp) l hs t.ts j wr a hk)) (fun _ i _ => t.ts.length - (intOf i).toNat)
    case atStart => exact ⟨0, _, by omega, rfl, HST0⟩
    case round =>
      obtain ⟨j, hk, hj, rfl, HST⟩ := hrel
      by_cases hlt : j < t.ts.length
      · have hst := HST.out
        have hlow : Below n₀ w wr := hst.fr.below hn₀ (fun k hk => (HALL.out.lt k hk).1) (fun k hk => (HPOS.out.lt k hk).1)
        have hlk := hst.heads.length
        have hwz := hst.fr.size
        obtain ⟨va2, vc2, rfl, -⟩ := ownsRow_form hst.rall
        obtain ⟨b, o, u, s, rfl, hbb, hu, hum, hus, c1, c2, c3⟩ := (hsl.carry hlow (Nat.le_refl _)).get hlt
        obtain ⟨oa2, cap2, rfl, -⟩ := hus.form
        rw [List.length_cons, Tm.positionsL_length _ _ (fun u _ l => Tm.positions_length u l)] at hlk
        have hsp := Tm.sizes_append (t.ts.take j) (t.ts.drop j)
        rw [List.take_append_drop] at hsp
        have hmd : u ∈ t.ts.drop j := List.mem_of_getElem? (i := 0) (by rw [List.getElem?_drop]; simpa using hu)
        have hsd := Tm.size_mem hmd
        have hde := Tm.depth_eq t
        have hdm : u.depth ≤ Tm.depths t.ts := Tm.depth_mem hum
        have hub : u.bulk ≤ 1048576 := by have := Tm.bulk_mem hum; have := Tm.bulk_eq t; omega
        have hl1 : hs.length + hk.length + u.size ≤ 1048576 := by have := HSE.out; omega
        have hl2 : l.length + 1 + u.depth ≤ 1048576 := by omega
        have HU := Lib.hid hu
        have HUS := Lib.hid hus
        have HUM := Lib.hid hum
        have hA : Below wr.heap.size wr ((wr.alloc (.cells #[.string u.nm, .bool u.vr, .slice oa2 u.ts.length cap2] 24)).drew.alloc (.cells #[.int .i64 j] 3)) := (((Below.refl _ wr).alloc (Nat.le_refl _) _).drew).alloc (by simp) _
        have hbx : ((wr.alloc (.cells #[.string u.nm, .bool u.vr, .slice oa2 u.ts.length cap2] 24)).drew.alloc (.cells #[.int .i64 j] 3)).heap[wr.heap.size]? = some (.cells #[.string u.nm, .bool u.vr, .slice oa2 u.ts.length cap2] 24 (0, 0)) := (Below.heap_alloc _ _ _ (by simp)).trans (heap_new_at _ _ _ rfl)
        have HA := Lib.hid hA
        have HBX := Lib.hid hbx
        have HLOW := Lib.hid hlow
        have hposlt : ∀ k, (Value.slice pa l.length cp).ownBlock = some k → k < wr.heap.size := fun k hk => by have := (HPOS.out.lt k hk).2; omega
        have hallt : ∀ k, (Value.slice va2 (hs.length + hk.length) vc2).ownBlock = some k → k < wr.heap.size := fun k hk => (hst.rall.lt k hk).2
        have HPL := Lib.hid hposlt
        have HAL := Lib.hid hallt
        clear hst hlow hlk hu hus hum hsp hmd hsd hde hdm hA hbx hposlt hallt
        go_wp2_with fail
        go_region_held3 (fun w' => w'.cell? ⟨wr.heap.size, 0, none⟩ = some (.string u.nm) ∧ w'.cell? ⟨wr.heap.size, 1, none⟩ = some (.bool u.vr) ∧ w'.cell? ⟨wr.heap.size, 2, none⟩ = some (.slice oa2 u.ts.length cap2)) (go_keep) ((first
          | (refine step_append_more rfl _ _ 51 rfl 3 i3 (.int .i64 0) 8 Tryd.underlying51 I1.out I2.out I3.out I4.out rfl n₀ _ l.length (ints l) rfl (HST.out.rpos.kept (below_grown HA.out) (by cases (Value.slice pa l.length cp).ownBlock <;> simp)) ⟨wr.heap.size + 1, 0, none⟩ 1 (.int .i64 j) rfl (cell_new_at _ _ _ _ _ (by simp)) rfl (by unfold maxLen; omega) (by omega) (by simp only [World.size_alloc, World.drew]; omega) ?_
             intro v3 w3 ho3 hm3
             have hb3 := (hm3.frame.block wr.heap.size (by simp only [World.size_alloc, World.drew]; omega) (fun e => by have := HPL.out _ e.symm; omega)).trans HBX.out
             obtain ⟨⟨x0, x1, x2⟩, -⟩ := box3 hb3
             obtain ⟨pa3, cp3, rfl, -⟩ := ownsRow_form ho3
             have HO3 := Lib.hid ho3
             have HM3 := Lib.hid hm3
             have HB3 := Lib.hid hb3
             clear ho3 hm3 hb3)
          | (go_at_call 83
             have hAz : wr.heap.size + 2 = ((wr.alloc (.cells #[.string u.nm, .bool u.vr, .slice oa2 u.ts.length cap2] 24)).drew.alloc (.cells #[.int .i64 j] 3)).heap.size := by simp only [World.size_alloc, World.drew]
             have hAz2 : wr.heap.size + 2 = ((wr.alloc (.cells #[.string u.nm, .bool u.vr, .slice oa2 u.ts.length cap2] 24)).alloc (.cells #[.int .i64 j] 3)).drew.heap.size := by simp only [World.size_alloc, World.drew]
             have hz3 := HM3.out.frame.size
             have hallA := HST.out.rall.kept (below_grown HA.out) (by cases (Value.slice va2 (hs.length + hk.length) vc2).ownBlock <;> simp)
             have hposA := HST.out.rpos.kept (below_grown HA.out) (by cases (Value.slice pa l.length cp).ownBlock <;> simp)
             have hall3 := hallA.kept HM3.out.frame (ownsRow_apart hallA hposA types_apart.symm)
             have hlow3 : Below n₀ wr w3 := (HA.out.mono (by omega)).grown HM3.out.frame (by omega) (fun k e => (HST.out.rpos.lt k e).1)
             refine (IH.out u HUM.out _ _ _ (hs ++ hk) (l ++ [(j : Int)]) n₀ w3 (HUS.out.carry hlow3 (Nat.le_refl _)) (by omega) (by rw [List.length_append]; exact hall3) (by rw [List.length_append, ints_snoc]; exact HO3.out) (by rw [List.length_append]; exact hl1) (by rw [List.length_append]; exact hl2) hub).mono ?_
             rintro e w4 ⟨a4, hk4, rfl, r⟩
             have hb4 := (r.fr.block wr.heap.size (by omega) (fun e => by have := HAL.out _ e.symm; omega) (fun e => by
               rcases HM3.out.own with h | ⟨i, h, hi⟩
               · rw [h] at e; have := HPL.out _ e.symm; omega
               · rw [h] at e; cases e; omega)).trans HB3.out
             obtain ⟨⟨x0, x1, x2⟩, -⟩ := box3 hb4
             have HST4 := Lib.hid (HST.out.step HPOS.out HU.out HA.out HM3.out r)
             clear hb4 r hAz hAz2 hz3 hallA hposA hall3 hlow3)))
        go_wp2_with fail
        exact ⟨⟨j + 1, _, by omega, by push_cast; rfl, HST4⟩, by simp only [intOf]; omega⟩
      · have hjl : j = t.ts.length := by omega
        subst hjl
        go_wp2_with fail
        go_ret
        exact ⟨_, hk, rfl, HST.out⟩
end Go.Proofs.YtdeaehkdhghfkaaDoor
