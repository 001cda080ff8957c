/- Packed: Plw, Lin. -/
import Derived.Deep.RegionHeld3
import Derived.Handy
import Derived.LoopNIn
import Derived.LoopIn
import Derived.Test.YtamddagmlanijaaGreatP19
import Derived.Test.YtamddagmlanijaaGreatP05
import Derived.Test.YtamddagmlanijaaGreatP02
import Derived.Test.YtamddagmlanijaaGreatP04
import Derived.Test.YtamddagmlanijaaGreatP09
import Derived.Test.YtamddagmlanijaaGreatP10
import Derived.Maps.OwnIn
/- places(t): an iterator over the positions of t with the subterms there; the positions share memory with each other. -/
namespace Go.Proofs.YtamddagmlanijaaGreat
open Go.RowKit Go.Shelf
attribute [local go_sem] Oper.semAt_some

/-- a position, and the subterm there -/
abbrev Pl := List Int × Tm
mutual
def Tm.places (p : List Int) : Tm → List Pl
  | .mk n v l => (p, .mk n v l) :: Tm.placesL p 0 l
def Tm.placesL (p : List Int) (i : Nat) : List Tm → List Pl
  | [] => []
  | t :: r => Tm.places (p ++ [(i : Int)]) t ++ Tm.placesL p (i + 1) r
end
theorem Tm.places_eq (p : List Int) (t : Tm) : t.places p = (p, t) :: Tm.placesL p 0 t.ts := by cases t; simp [Tm.places, Tm.ts]
theorem Tm.placesL_snoc (p : List Int) (ts : List Tm) (u : Tm) (i : Nat) : Tm.placesL p i (ts ++ [u]) = Tm.placesL p i ts ++ u.places (p ++ [((i + ts.length : Nat) : Int)]) := by
  induction ts generalizing i with
  | nil => simp [Tm.placesL]
  | cons t ts ih => simp only [List.cons_append, Tm.placesL, ih, List.append_assoc, List.length_cons]; congr 4; simp; omega
theorem Tm.placesL_prefix (p : List Int) (ts : List Tm) (k : Nat) (u : Tm) (h : ts[k]? = some u) : Tm.placesL p 0 (ts.take k) ++ u.places (p ++ [(k : Int)]) <+: Tm.placesL p 0 ts := by
  have key : ∀ (a b : List Tm) (i : Nat), Tm.placesL p i a <+: Tm.placesL p i (a ++ b) := by
    intro a
    induction a with
    | nil => intro b i; simp [Tm.placesL]
    | cons t a ih => intro b i; simp only [List.cons_append, Tm.placesL]; exact List.prefix_append_right_inj _ |>.2 (ih b (i + 1))
  have hk : k < ts.length := (List.getElem?_eq_some_iff.1 h).1
  have h1 := Tm.placesL_snoc p (ts.take k) u 0
  rw [List.length_take, Nat.min_eq_left (by omega), Nat.zero_add] at h1
  rw [← h1, ← Tm.take_snoc h]
  have h2 := key (ts.take (k + 1)) (ts.drop (k + 1)) 0
  rwa [List.take_append_drop] at h2

/-- how a place is handed to yield -/
def ElP (n₀ : Nat) (x : Pl) (vs : Array Value) (_ : Bs) (W : World) : Prop := ∃ pv su, vs = #[pv, tmv x.2 su] ∧ W.ownsRow n₀ 3 1 pv x.1.length (ints x.1) ∧ SlIs n₀ W x.2.ts su ∧ x.2.bulk ≤ 1048576 ∧ x.1.length ≤ 1048576

/-- k arguments being done -/
structure WkSt (n₀ : Nat) (J : Bs → Bs → List Pl → World → Prop) (p : List Int) (t : Tm) (pre : List Pl) (X R : Bs) (W : World) (pos : Value) (bx : Nat) (bo : Obj) (k : Nat) (wr : World) (X' : Bs) : Prop where
  j : J X' R (pre ++ (p, t) :: Tm.placesL p 0 (t.ts.take k)) wr
  xb : XB n₀ (un X' R) wr
  dis : ∀ i, X' i → ¬ R i
  sub : ∀ i, X i → X' i
  row : wr.ownsRow n₀ 3 1 pos p.length (ints p)
  low : Below n₀ W wr
  fr : ∀ i, X i → pos.ownBlock ≠ some i → wr.heap[i]? = W.heap[i]?
  bx1 : X' bx
  bx2 : wr.heap[bx]? = some bo
  bx3 : pos.ownBlock ≠ some bx

theorem row_kept {A B : World} {m n : Nat} {e : TypeId} {v : Value} {xs : List Value} (ho : A.ownsRow m e 1 v n xs) (hb : ∀ k, v.ownBlock = some k → B.heap[k]? = A.heap[k]?) : B.ownsRow m e 1 v n xs := by
  refine ⟨ho.1, ?_⟩
  rcases ho.2 with hn | ⟨g, cap, cur, rfl, hbg, hg, rest⟩
  · exact .inl hn
  · exact .inr ⟨g, cap, cur, rfl, hbg, (hb g rfl).trans hg, rest⟩

theorem WkSt.same {n₀ k : Nat} {J : Bs → Bs → List Pl → World → Prop} {p : List Int} {t : Tm} {pre : List Pl} {X R X' Y : Bs} {W wr A B C : World} {pos v' : Value} {bx : Nat} {bo : Obj} (st : WkSt n₀ J p t pre X R W pos bx bo k wr X') (_ : n₀ ≤ wr.heap.size)
    (hA : Below wr.heap.size wr A) (hm : More A B pos v' p.length) (hXY : ∀ i, X' i → Y i) (hfr : ∀ i, Y i → v'.ownBlock ≠ some i → C.heap[i]? = B.heap[i]?) (i : Nat) (hi : X' i) (hne : pos.ownBlock ≠ some i) : C.heap[i]? = wr.heap[i]? := by
  have hil := (st.xb i (.inl hi)).2
  have hzA := hA.size
  have h1 : v'.ownBlock ≠ some i := by
    intro e
    rcases hm.own with h | ⟨j, h, hjz⟩
    · exact hne (h ▸ e)
    · rw [h] at e; cases e; omega
  exact (hfr i (hXY i hi) h1).trans ((hm.frame.block i (by omega) (fun e => hne e.symm)).trans (hA.block i hil))
/-- one more argument -/
theorem WkSt.step {n₀ k : Nat} {J : Bs → Bs → List Pl → World → Prop} {p : List Int} {t u : Tm} {pre : List Pl} {X R X' X'' Y : Bs} {W wr A B C : World} {pos v' : Value} {bx : Nat} {bo : Obj} (st : WkSt n₀ J p t pre X R W pos bx bo k wr X') (hu : t.ts[k]? = some u) (hn : n₀ ≤ wr.heap.size)
    (hpl : ∀ j, pos.ownBlock = some j → X j ∧ j < wr.heap.size) (hA : Below wr.heap.size wr A) (hm : More A B pos v' p.length) (hXY : ∀ i, X' i → Y i)
    (hj : J X'' R ((pre ++ (p, t) :: Tm.placesL p 0 (t.ts.take k)) ++ u.places (p ++ [(k : Int)])) C) (hxb : XB n₀ (un X'' R) C) (hdis : ∀ i, X'' i → ¬ R i) (hsub : ∀ i, Y i → X'' i) (hrow : C.ownsRow n₀ 3 1 v' (p.length + 1) (ints (p ++ [(k : Int)])))
    (hlow : Below n₀ B C) (hfr : ∀ i, Y i → v'.ownBlock ≠ some i → C.heap[i]? = B.heap[i]?) :
    WkSt n₀ J p t pre X R W pos bx bo (k + 1) C X'' := by
  have hzA := hA.size
  have hzB := hm.frame.size
  have nn : ∀ v : Value, v.ownBlock = none ∨ v.ownBlock ≠ none := fun v => by cases v.ownBlock <;> simp
  have hposA : A.ownsRow n₀ 3 1 pos p.length (ints p) := st.row.kept (below_grown hA) (nn _)
  have hlowB : Below n₀ W B := (st.low.trans (hA.mono hn)).grown hm.frame (by omega) (fun j e => (st.row.lt j e).1)
  have same : ∀ i, X' i → pos.ownBlock ≠ some i → C.heap[i]? = wr.heap[i]? := fun i hi hne => (st.same hn hA hm hXY hfr i hi hne)
  refine ⟨?_, hxb, hdis, fun i hi => hsub i (hXY i (st.sub i hi)), ?_, hlowB.trans hlow, ?_, hsub _ (hXY _ st.bx1), (same _ st.bx1 st.bx3).trans st.bx2, st.bx3⟩
  · rw [Tm.take_snoc hu, Tm.placesL_snoc, List.length_take, Nat.min_eq_left (Nat.le_of_lt (List.getElem?_eq_some_iff.1 hu).1), Nat.zero_add]
    simpa using hj
  · rcases hm with ⟨g, cap, rfl, rfl, hg⟩ | ⟨hg, j, hj', hjn⟩
    · refine ⟨st.row.1, ?_⟩
      rcases hrow.2 with ⟨h1, _⟩ | ⟨g', cap', cur, h1, hb, hg', hle, hcm, hcs, ht⟩
      · cases h1
      · simp only [Value.slice.injEq, Option.some.injEq, Addr.mk.injEq] at h1
        obtain ⟨⟨rfl, -⟩, -, rfl⟩ := h1
        refine .inr ⟨g, cap, cur, rfl, hb, hg', by omega, hcm, hcs, ?_⟩
        have := congrArg (List.take (p.length * 1)) ht
        rw [List.take_take, Nat.min_eq_left (by omega)] at this
        rw [this]
        simp [ints]
    · have h1 : B.ownsRow n₀ 3 1 pos p.length (ints p) := hposA.kept hg (nn _)
      refine row_kept h1 fun i hi => hfr i (hXY i (st.sub i (hpl i hi).1)) fun e => ?_
      rw [hj'] at e
      cases e
      have := (hpl _ hi).2
      omega
  · intro i hi hne
    exact (same i (st.sub i hi) hne).trans (st.fr i hi hne)

theorem depth_memP {t : Tm} {l : List Tm} (h : t ∈ l) : t.depth ≤ Tm.depths l := by
  induction l with
  | nil => cases h
  | cons x l ih =>
    simp only [Tm.depths]
    rcases List.mem_cons.1 h with rfl | h
    · omega
    · have := ih h; omega
theorem infoIntP : (Tryz.prog.info? 3).map (fun i => (i.zero, i.size, i.bytes)) = some (some (.int .i64 0), 1, 8) := by kernel_rfl
theorem ints_snocP (l : List Int) (x : Int) : ints (l ++ [x]) = ints l ++ [.int .i64 x] := by simp [ints]
theorem ownsRow_formP {W : World} {m n : Nat} {e : TypeId} {v : Value} {xs : List Value} (h : W.ownsRow m e 1 v n xs) : ∃ oa cap, v = .slice oa n cap ∧ (oa = none → n = 0) := by
  rcases h.2 with ⟨rfl, rfl⟩ | ⟨g, cap, cur, rfl, _⟩
  · exact ⟨_, _, rfl, fun _ => rfl⟩
  · exact ⟨_, _, rfl, fun h => by cases h⟩

/-- how walk ends -/
structure WkPost (n₀ : Nat) (J Jx : Bs → Bs → List Pl → World → Prop) (p : List Int) (t : Tm) (pre : List Pl) (X R : Bs) (W : World) (pos : Value) (r : Bool) (X' : Bs) (q : List Pl) (W' : World) : Prop where
  xb : XB n₀ (un X' R) W'
  dis : ∀ i, X' i → ¬ R i
  sub : ∀ i, X i → X' i
  low : Below n₀ W W'
  fr : ∀ i, X i → pos.ownBlock ≠ some i → W'.heap[i]? = W.heap[i]?
  yes : r = true → q = t.places p ∧ J X' R (pre ++ q) W' ∧ W'.ownsRow n₀ 3 1 pos p.length (ints p)
  no : r = false → q <+: t.places p ∧ Jx X' R (pre ++ q) W'

set_option maxRecDepth 100000 in
set_option maxHeartbeats 4000000 in
theorem rwWalk (lp n₀ : Nat) (L : List Pl) (J Jx : Bs → Bs → List Pl → World → Prop) (hJ : Cls n₀ J)
    (hY : ∀ m X R pre x vs W1, J X R pre W1 → ElP n₀ x vs R W1 → XB n₀ (un X R) W1 → (∀ k, X k → ¬ R k) → n₀ ≤ W1.heap.size → pre ++ [x] <+: L → YieldAt Fence.wide m Tryz.prog lp vs W1 fun e W' =>
      (e = .returned (.bool true) ∧ J X R (pre ++ [x]) W' ∧ Kx n₀ (un X R) W1 W') ∨ (e = .returned (.bool false) ∧ Jx X R (pre ++ [x]) W' ∧ Kx n₀ (un X R) W1 W')) (t : Tm) :
    ∀ (s pos : Value) (p : List Int) (pre : List Pl) (X R : Bs) (W : World), SlIs n₀ W t.ts s → n₀ ≤ W.heap.size → J X R pre W → XB n₀ (un X R) W → (∀ k, X k → ¬ R k) → W.ownsRow n₀ 3 1 pos p.length (ints p) → (∀ k, pos.ownBlock = some k → X k) →
      pre ++ t.places p <+: L → p.length + t.depth ≤ 1048576 → t.bulk ≤ 1048576 →
      Calls Tryz.prog 274 #[pos, tmv t s, .func (.yield lp) #[] #[]] W fun e W' => ∃ r X' q, e = .returned (.bool r) ∧ WkPost n₀ J Jx p t pre X R W pos r X' q W' := by
  induction t using Tm.ind with
  | h t ih =>
    intro s pos p pre X R W hs hn hJW hX hdis hpos hpX hL hdp hb
    refine (callsIn_wide (n := 7)).1 ?_
    obtain ⟨oa, cap, rfl, -⟩ := hs.form
    obtain ⟨pa, cp, rfl, -⟩ := ownsRow_formP hpos
    have hse := Tm.size_eq t
    have hls := Tm.length_sizes t.ts
    have hsb := Tm.size_bulk t
    have htl : t.ts.length ≤ 1048576 := by omega
    obtain ⟨i3, hi2, hz2, hs2, hb2⟩ := info_parts infoIntP
    have hpl : ∀ k, (Value.slice pa p.length cp).ownBlock = some k → X k ∧ k < W.heap.size := fun k hk => ⟨hpX k hk, (hpos.lt k hk).2⟩
    have hA0 : Below W.heap.size W (W.alloc (.cells #[.string t.nm, .bool t.vr, .slice oa t.ts.length cap] 25)) := (Below.refl _ W).alloc (Nat.le_refl _) _
    obtain ⟨X1, hX1⟩ : ∃ X1 : Bs, X1 = fun k => X k ∨ (W.heap.size ≤ k ∧ k < (W.alloc (.cells #[.string t.nm, .bool t.vr, .slice oa t.ts.length cap] 25)).heap.size) := ⟨_, rfl⟩
    have hfx : Fx n₀ X X1 W (W.alloc (.cells #[.string t.nm, .bool t.vr, .slice oa t.ts.length cap] 25)) := by rw [hX1]; exact Fx.grown (World.grownBy_alloc W _ none) (fun r e => by cases e)
    have hrg : Rg X R X1 R W (W.alloc (.cells #[.string t.nm, .bool t.vr, .slice oa t.ts.length cap] 25)) := Rg.same hdis (fun k hk => hX k (.inr hk)) hfx.own
    have hxb1 := hrg.xb hfx hn hX
    have hdis1 := hrg.dis
    have hbxX : X1 W.heap.size := by rw [hX1]; exact .inr ⟨Nat.le_refl _, by simp⟩
    have hXX1 : ∀ k, X k → X1 k := fun k hk => by rw [hX1]; exact .inl hk
    have hHp : Tm.places p t = (p, t) :: Tm.placesL p 0 t.ts := Tm.places_eq p t
    have hrow1 : (W.alloc (.cells #[.string t.nm, .bool t.vr, .slice oa t.ts.length cap] 25)).ownsRow n₀ 3 1 (.slice pa p.length cp) p.length (ints p) := hpos.alloc _
    have hy0 := hY (7 - 1) X1 R pre (p, t) #[.slice pa p.length cp, .agg #[.string t.nm, .bool t.vr, .slice oa t.ts.length cap]] _ (hJ _ _ _ _ _ _ _ hJW hfx hrg)
      ⟨_, _, rfl, hrow1, hs.carry (hA0.mono hn) (Nat.le_refl _), hb, by show p.length ≤ 1048576; omega⟩ hxb1 hdis1 (by simp; omega) ((List.prefix_append_right_inj pre |>.2 (by rw [hHp]; exact ⟨_, rfl⟩)).trans hL)
    obtain ⟨fn, tmps, assign, body, hy, hR⟩ := hy0
    have IH := Lib.hid ih
    have H2 := Lib.hid hi2
    have H3 := Lib.hid hz2
    have H4 := Lib.hid hs2
    have H5 := Lib.hid hb2
    have HPL := Lib.hid hpl
    have HP := Lib.hid hHp
    have HPOS := Lib.hid hpos
    have HSE := Lib.hid hse
    have HL := Lib.hid hL
    have HXX := Lib.hid hXX1
    have HROW1 := Lib.hid hrow1
    clear ih hi2 hz2 hs2 hb2 hpl hHp hpos hse hL hX1 hXX1 hrow1 hls hsb
    refine callsIn_of_wp Tryz.func274 rfl trivial ?_ rfl
    rw [show tmv t (.slice oa t.ts.length cap) = .agg #[.string t.nm, .bool t.vr, .slice oa t.ts.length cap] from rfl]
    simp only [Tryz.ntmps274, List.size_toArray, List.length_cons, List.length_nil, Nat.reduceAdd, Nat.reduceSub, Array.replicate_succ, Array.replicate_zero, List.push_toArray, List.append_toArray, List.nil_append, List.cons_append]
    gi_wp2
    refine hR.mono ?_
    clear hR hy
    rintro e W1 (⟨rfl, hJ1, hk1⟩ | ⟨rfl, hJx1, hk1⟩)
    · have hbx : W1.heap[W.heap.size]? = some (.cells #[.string t.nm, .bool t.vr, .slice oa t.ts.length cap] 25 (0, 0)) := hk1.heap (World.alloc_heap_new W _) (.inl hbxX)
      obtain ⟨⟨x0, x1, x2⟩, -⟩ := box3 hbx
      have hst0 : WkSt n₀ J p t pre X R W (.slice pa p.length cp) W.heap.size (.cells #[.string t.nm, .bool t.vr, .slice oa t.ts.length cap] 25 (0, 0)) 0 W1 X1 :=
        ⟨by simpa [Tm.placesL] using hJ1, hk1.xb hxb1, hdis1, HXX.out, row_kept HROW1.out (fun k hk => hk1.kept k (.inl (HXX.out k (HPL.out k hk).1))), (hA0.mono hn).trans hk1.below, fun i hi _ => (hk1.kept i (.inl (HXX.out i hi))).trans (hA0.block i (hX i (.inl hi)).2),
          hbxX, hbx, fun e => by have := (HPL.out _ e).2; omega⟩
      have HST0 := Lib.hid hst0
      clear hst0 hbx hJ1 hk1
      gi_wp2_with fail
      gi_loopw [17] (fun i wr => ∃ (k : Nat) (X' : Bs), k ≤ t.ts.length ∧ i = .int .i64 k ∧ Hid (WkSt n₀ J p t pre X R W (.slice pa p.length cp) W.heap.size (.cells #[.string t.nm, .bool t.vr, .slice oa t.ts.length cap] 25 (0, 0)) k wr X')) (fun i _ => t.ts.length - (intOf i).toNat)
      case atStart => exact ⟨0, X1, by omega, rfl, HST0⟩
      case round =>
        obtain ⟨k, X', hk, rfl, HST⟩ := hrel
        have hst := HST.out
        have hwz := hst.low.size
        by_cases hlt : k < t.ts.length
        · obtain ⟨b, o, u, s, rfl, hbb, hu, hum, hus, c1, c2, c3⟩ := (hs.carry hst.low (Nat.le_refl _)).get hlt
          obtain ⟨oa2, cap2, rfl, -⟩ := hus.form
          have hub : u.bulk ≤ 1048576 := by have := Tm.bulk_mem hum; have := Tm.bulk_eq t; omega
          have hde := Tm.depth_eq t
          have hdm : u.depth ≤ Tm.depths t.ts := depth_memP hum
          have hl2 : p.length + 1 + u.depth ≤ 1048576 := by omega
          have hA : Below wr.heap.size wr ((wr.alloc (.cells #[.string u.nm, .bool u.vr, .slice oa2 u.ts.length cap2] 25)).drew.alloc (.cells #[.int .i64 k] 3)) := (((Below.refl _ wr).alloc (Nat.le_refl _) _).drew).alloc (by simp) _
          have hbx2 : ((wr.alloc (.cells #[.string u.nm, .bool u.vr, .slice oa2 u.ts.length cap2] 25)).drew.alloc (.cells #[.int .i64 k] 3)).heap[wr.heap.size]? = some (.cells #[.string u.nm, .bool u.vr, .slice oa2 u.ts.length cap2] 25 (0, 0)) := (Below.heap_alloc _ _ _ (by simp)).trans (heap_new_at _ _ _ rfl)
          have hposlt : ∀ j, (Value.slice pa p.length cp).ownBlock = some j → X j ∧ j < wr.heap.size := fun j hj => ⟨(HPL.out j hj).1, by have := (HPL.out j hj).2; omega⟩
          have hpf := (List.prefix_append_right_inj (pre ++ [(p, t)]) |>.2 (Tm.placesL_prefix p t.ts k u hu)).trans (by rw [List.append_assoc, List.singleton_append, ← HP.out]; exact HL.out)
          have HU := Lib.hid hu
          have HUS := Lib.hid hus
          have HUM := Lib.hid hum
          have HA := Lib.hid hA
          have HBX := Lib.hid hbx2
          have HLT := Lib.hid hposlt
          have HPF := Lib.hid hpf
          clear hu hus hum hde hdm hA hbx2 hposlt hpf hst
          gi_wp2_with fail
          refine wpIn_wide.2 ?_
          go_region_held3 (fun w' => w'.cell? ⟨wr.heap.size, 0, none⟩ = some (.string u.nm) ∧ w'.cell? ⟨wr.heap.size, 1, none⟩ = some (.bool u.vr) ∧ w'.cell? ⟨wr.heap.size, 2, none⟩ = some (.slice oa2 u.ts.length cap2)) (go_keep) ((first
            | (refine step_append_more rfl _ _ 34 rfl 3 i3 (.int .i64 0) 8 Tryz.underlying34 H2.out H3.out H4.out H5.out rfl n₀ _ p.length (ints p) rfl (HST.out.row.kept (below_grown HA.out) (by cases (Value.slice pa p.length cp).ownBlock <;> simp)) ⟨wr.heap.size + 1, 0, none⟩ 1 (.int .i64 k) rfl (cell_new_at _ _ _ _ _ (by simp)) rfl (by unfold maxLen; omega) (by omega) (by simp only [World.size_alloc, World.drew]; omega) ?_
               intro v3 w3 ho3 hm3
               have hb3 := (hm3.frame.block wr.heap.size (by simp only [World.size_alloc, World.drew]; omega) (fun e => by have := (HLT.out _ e.symm).2; omega)).trans HBX.out
               obtain ⟨⟨x0, x1, x2⟩, -⟩ := box3 hb3
               obtain ⟨pa3, cp3, rfl, -⟩ := ownsRow_formP ho3
               have HO3 := Lib.hid ho3
               have HM3 := Lib.hid hm3
               have HB3 := Lib.hid hb3
               clear ho3 hm3 hb3)
            | (go_at_call 274
               have hst := HST.out
               have hz3 := HM3.out.frame.size
               have hAz : ((wr.alloc (.cells #[.string u.nm, .bool u.vr, .slice oa2 u.ts.length cap2] 25)).drew.alloc (.cells #[.int .i64 k] 3)).heap.size = wr.heap.size + 2 := by simp only [World.size_alloc, World.drew]
               have hAz2 : ((wr.alloc (.cells #[.string u.nm, .bool u.vr, .slice oa2 u.ts.length cap2] 25)).alloc (.cells #[.int .i64 k] 3)).drew.heap.size = wr.heap.size + 2 := by simp only [World.size_alloc, World.drew]
               have hzz : wr.heap.size + 2 ≤ w3.heap.size := by omega
               have hlow3 : Below n₀ wr w3 := (HA.out.mono (by omega)).grown HM3.out.frame (by omega) (fun j e => (hst.row.lt j e).1)
               have hfxA : Fx n₀ X' X' wr ((wr.alloc (.cells #[.string u.nm, .bool u.vr, .slice oa2 u.ts.length cap2] 25)).drew.alloc (.cells #[.int .i64 k] 3)) := Fx.of_below X' HA.out
               have hfxB := (hfxA.trans (Fx.grown (X := X') HM3.out.frame (fun j e => ⟨(hst.row.lt j e).1, hst.sub j (HLT.out j e).1⟩))).wider (Y := X') (fun _ h => h)
               have hrgB : Rg X' R _ R wr w3 := Rg.same hst.dis (fun k hk => hst.xb k (.inr hk)) hfxB.own
               have hlt3 : ∀ j, (Value.slice pa3 (p.length + 1) cp3).ownBlock = some j → j < w3.heap.size := fun j hj => (HO3.out.lt j hj).2
               have hx3 : ∀ j, (Value.slice pa3 (p.length + 1) cp3).ownBlock = some j → X' j ∨ (wr.heap.size ≤ j ∧ j < w3.heap.size) := fun j hj => by
                 rcases HM3.out.own with h | ⟨i, h, hi⟩
                 · exact .inl (hst.sub j (HLT.out j (h ▸ hj)).1)
                 · exact .inr ⟨by rw [h] at hj; cases hj; omega, hlt3 j hj⟩
               refine (IH.out u HUM.out _ _ (p ++ [(k : Int)]) (pre ++ (p, t) :: Tm.placesL p 0 (t.ts.take k)) _ R w3 (HUS.out.carry hlow3 (Nat.le_refl _)) (by omega) (hJ _ _ _ _ _ _ _ hst.j hfxB hrgB) (hrgB.xb hfxB (by omega) hst.xb) hrgB.dis (by rw [List.length_append, ints_snocP]; exact HO3.out) hx3 (by simpa using HPF.out) (by rw [List.length_append]; exact hl2) hub).mono ?_
               rintro e w4 ⟨r4, X4, q4, rfl, h4⟩
               have hb4 := (h4.fr wr.heap.size (.inr ⟨Nat.le_refl _, by omega⟩) (fun e => by
                 rcases HM3.out.own with h | ⟨i, h, hi⟩
                 · have := (HLT.out _ (h ▸ e)).2; omega
                 · have e2 := h.symm.trans e; cases e2; omega)).trans HB3.out
               obtain ⟨⟨x0, x1, x2⟩, -⟩ := box3 hb4
               have H4 := Lib.hid h4
               clear hb4 h4 hx3 hlt3 hrgB hfxB hfxA hlow3 hst)))
          cases r4
          · gi_wp2_with fail
            refine bodyPost_ret (v := .bool false) (by simp [results, Tryz.f274, go_sem]) rfl ?_
            have hst := HST.out
            have h4 := H4.out
            have hn2 : n₀ ≤ wr.heap.size := by omega
            have hz3 := HA.out.size
            have hlow3 : Below n₀ wr w3 := (HA.out.mono hn2).grown HM3.out.frame (by omega) (fun j e => (hst.row.lt j e).1)
            obtain ⟨h5, h6⟩ := h4.no rfl
            refine ⟨false, X4, (p, t) :: Tm.placesL p 0 (t.ts.take k) ++ q4, rfl, ⟨h4.xb, h4.dis, fun i hi => h4.sub i (.inl (hst.sub i hi)), (hst.low.trans hlow3).trans h4.low, fun i hi hne => (hst.same hn2 HA.out HM3.out (fun _ h => .inl h) h4.fr i (hst.sub i hi) hne).trans (hst.fr i hi hne), fun h => (by cases h), fun _ => ⟨?_, by simpa using h6⟩⟩⟩
            rw [HP.out]
            obtain ⟨z, hz⟩ := Tm.placesL_prefix p t.ts k u HU.out
            obtain ⟨y, hy⟩ := h5
            exact ⟨y ++ z, by rw [← hz, ← hy]; simp⟩
          · have hst := HST.out
            have h4 := H4.out
            have hn2 : n₀ ≤ wr.heap.size := by omega
            obtain ⟨rfl, h5, h6⟩ := h4.yes rfl
            have HST4 := Lib.hid (hst.step HU.out hn2 HLT.out HA.out HM3.out (fun _ h => .inl h) h5 h4.xb h4.dis h4.sub (by simpa using h6) h4.low h4.fr)
            clear hst h4 h5 h6
            gi_wp2_with fail
            exact ⟨⟨k + 1, X4, by omega, by push_cast; rfl, HST4⟩, by simp only [intOf]; omega⟩
        · have hjl : k = t.ts.length := by omega
          subst hjl
          clear hst
          gi_wp2_with fail
          refine bodyPost_ret (v := .bool true) (by simp [results, Tryz.f274, go_sem]) rfl ?_
          have hst := HST.out
          have h1 := hst.j
          rw [List.take_length, ← HP.out] at h1
          exact ⟨true, X', _, rfl, ⟨hst.xb, hst.dis, hst.sub, hst.low, hst.fr, fun _ => ⟨rfl, h1, hst.row⟩, fun h => by cases h⟩⟩
    · have HJ1 := Lib.hid hJx1
      have HK1 := Lib.hid hk1
      clear hJx1 hk1
      gi_wp2_with fail
      refine bodyPost_ret (v := .bool false) (by simp [results, Tryz.f274, go_sem]) rfl ?_
      exact ⟨false, X1, [(p, t)], rfl, ⟨HK1.out.xb hxb1, hdis1, HXX.out, (hA0.mono hn).trans HK1.out.below, fun i hi _ => (HK1.out.kept i (.inl (HXX.out i hi))).trans (hA0.block i (hX i (.inl hi)).2), fun h => (by cases h), fun _ => ⟨by rw [HP.out]; exact ⟨_, rfl⟩, HJ1.out⟩⟩⟩

set_option maxRecDepth 100000 in
set_option maxHeartbeats 1000000 in
theorem places_any (t : Tm) (oa : Option Addr) (len cap : Nat) (w : World) :
    Calls Tryz.prog 244 #[.agg #[.string t.nm, .bool t.vr, .slice oa len cap]] w fun e w' =>
      e = .returned (.func (.func 273) #[] #[.pointer (some ⟨w.heap.size, 0, none⟩)]) ∧ w' = w.alloc (.cells #[.string t.nm, .bool t.vr, .slice oa len cap] 25) := by
  go_enter Tryz.func244, Tryz.ntmps244
  go_wp2
  go_ret
  exact ⟨rfl, rfl⟩

set_option maxRecDepth 100000 in
set_option maxHeartbeats 1000000 in
/-- THE ITERATOR'S CONTRACT: its box Bt is its own -/
theorem places_seq (Bt n₀ : Nat) (t : Tm) (s : Value) (w : World) (hn : n₀ ≤ w.heap.size) (X₀ : Bs) (hX : XB n₀ X₀ w) (hB : X₀ Bt)
    (hbx : w.heap[Bt]? = some (.cells #[.string t.nm, .bool t.vr, s] 25 (0, 0))) (hs : SlIs n₀ w t.ts s) (hb : t.bulk ≤ 1048576) (hd : t.depth ≤ 1048576) :
    SeqX Fence.wide Tryz.prog 273 #[.pointer (some ⟨Bt, 0, none⟩)] (ElP n₀) (t.places []) n₀ X₀ w := by
  intro n l J Jx R₀ W hW hXW hR₀ hd₀ hJ _ hY hJ0
  have hz := hW.size
  have hbW : W.heap[Bt]? = some (.cells #[.string t.nm, .bool t.vr, s] 25 (0, 0)) := (hXW Bt hB).trans hbx
  obtain ⟨⟨b0, b1, b2⟩, -⟩ := box3 hbW
  have hxb : XB n₀ (un X₀ R₀) W := fun k hk => hk.elim (fun h => by have := hX k h; omega) (hR₀ k)
  have HP := Lib.hid (rwWalk l n₀ (t.places []) J Jx hJ (fun m X R pre x vs W1 h1 h2 h3 h4 h5 h6 => yieldAny rfl m (hY X R pre x vs W1 h1 h2 h3 h4 h5 h6)) t s (.slice none 0 0) [] [] X₀ R₀ W (hs.carry hW (Nat.le_refl _)) (by omega) hJ0 hxb hd₀ (World.ownsRow_nil _ _ _ _) (fun k h => by cases h) (List.prefix_refl _) (by simpa using hd) hb)
  obtain ⟨oa, cap, rfl, -⟩ := hs.form
  refine callsIn_of_wp Tryz.func273 rfl trivial ?_ rfl
  simp only [Tryz.ntmps273, List.size_toArray, List.length_cons, List.length_nil, Nat.reduceAdd, Nat.reduceSub, Array.replicate_succ, Array.replicate_zero, List.push_toArray, List.append_toArray, List.nil_append, List.cons_append]
  refine wpIn_wide.2 ?_
  go_wp2_with (go_at_call 274; refine HP.out.mono ?_; rintro e W1 ⟨r, X', q, rfl, h⟩; have H := Lib.hid h; clear h)
  go_end0
  refine ⟨⟨_, rfl⟩, X', R₀, H.out.xb, H.out.dis, ?_⟩
  cases r
  · obtain ⟨h1, h2⟩ := H.out.no rfl
    exact .inr ⟨q, h1, h2⟩
  · obtain ⟨rfl, h2, -⟩ := H.out.yes rfl
    exact .inl h2
end Go.Proofs.YtamddagmlanijaaGreat
/- isLinear(t): does no variable of t occur more than once? -/
namespace Go.Proofs.YtamddagmlanijaaGreat
open Go.RowKit Go.Shelf Go.Maps
attribute [local go_sem] Oper.semAt_some

abbrev encT (_ : Unit) : Value := .bool true
/-- the variables that were met, or none where one was met again -/
def linP : List (Key × Unit) → List Pl → Option (List (Key × Unit))
  | m, [] => some m
  | m, x :: l => if x.2.vr then (match getA m x.2.nm.data.toList with | some _ => none | none => linP (putA m x.2.nm.data.toList ()) l) else linP m l
theorem linP_append (m : List (Key × Unit)) (l r : List Pl) : linP m (l ++ r) = (linP m l).bind fun m' => linP m' r := by
  induction l generalizing m with
  | nil => rfl
  | cons x l ih =>
    simp only [List.cons_append, linP]
    split
    · split
      · rfl
      · exact ih _
    · exact ih _
theorem linP_none {m : List (Key × Unit)} {l r : List Pl} (h : linP m l = none) (hp : l <+: r) : linP m r = none := by
  obtain ⟨x, rfl⟩ := hp
  rw [linP_append, h]; rfl
theorem linP_length {m m' : List (Key × Unit)} {l : List Pl} (h : linP m l = some m') : m'.length ≤ m.length + l.length := by
  induction l generalizing m with
  | nil => cases h; simp
  | cons x l ih =>
    simp only [linP] at h
    have hp := putA_length_le m x.2.nm.data.toList ()
    split at h
    · split at h
      · cases h
      · have := ih h; simp only [List.length_cons]; omega
    · have := ih h; simp only [List.length_cons]; omega
/-- no variable of t occurs more than once -/
def linB (t : Tm) : Bool := (linP [] (t.places [])).isSome
theorem Tm.placesL_length (p : List Int) (ts : List Tm) (h : ∀ u ∈ ts, ∀ p, (u.places p).length = u.size) (i : Nat) : (Tm.placesL p i ts).length = Tm.sizes ts := by
  induction ts generalizing i with
  | nil => simp [Tm.placesL, Tm.sizes]
  | cons t ts ih => simp [Tm.placesL, Tm.sizes, h t (by simp), ih (fun u hu => h u (by simp [hu]))]
theorem Tm.places_length (t : Tm) (p : List Int) : (t.places p).length = t.size := by
  induction t using Tm.ind generalizing p with
  | h t ih => rw [Tm.places_eq, Tm.size_eq, List.length_cons, Tm.placesL_length _ _ ih]; omega

/-- the variables of isLinear, as they lie -/
structure LnMem (w W : World) (X R : Bs) (m : List (Key × Unit)) : Prop where
  ob : Boxed W (w.heap.size + 1) 4 (.bool false)
  hm : HMap encT W (w.heap.size + 1 + 1) m
  mb : Boxed W (w.heap.size + 1 + 1 + 1) 258 (.map (some (w.heap.size + 1 + 1)))
  bl : Below w.heap.size w W
  ap : ∀ k, un X R k → w.heap.size + 1 + 1 + 1 + 1 ≤ k
theorem LnMem.fx {w A B : World} {X R X' R' : Bs} {m : List (Key × Unit)} (h : LnMem w A X R m) (hf : Fx w.heap.size X X' A B) (hg : Rg X R X' R' A B) : LnMem w B X' R' m := by
  have hz := h.mb.lt
  refine ⟨hf.heap h.ob fun hx => by have := h.ap _ (.inl hx); omega, h.hm.kept (hf.block _ h.hm.lt (.inr fun hx => by have := h.ap _ (.inl hx); omega)), hf.heap h.mb fun hx => (by have := h.ap _ (.inl hx); omega), h.bl.trans (hf.below h.bl.size), fun k hk => ?_⟩
  rcases hk with hk | hk
  · rcases hf.own k hk with h1 | h1
    · exact h.ap k (.inl h1)
    · omega
  · rcases hg.own k hk with h1 | h1 | h1
    · exact h.ap k (.inr h1)
    · exact h.ap k (.inl h1)
    · omega
theorem LnMem.turned {w W W' : World} {X R : Bs} {m m' : List (Key × Unit)} (h : LnMem w W X R m) (ht : W.mapTurned W' (w.heap.size + 1 + 1)) (hm : HMap encT W' (w.heap.size + 1 + 1) m') : LnMem w W' X R m' :=
  ⟨(turned_cell' ht h.ob.lt (by omega)).trans h.ob, hm, (turned_cell' ht h.mb.lt (by omega)).trans h.mb, h.bl.grown ht.grown h.bl.size fun r e => by cases e; omega, h.ap⟩

section
variable (w : World) {ops : Array Oper} {rest : List Oper} {o : Oper} {a : Act} {Q : Exit → Act → World → Prop} {F : Fence} {nF : Nat}
theorem plookIn (ty te : TypeId) (z0 : Value) (hty : Tryz.prog.underlying ty = some (.map 9 te)) (hz : (zeroValue te).run Tryz.prog w = .ok z0 w) (hg : o.guard = none) (m x : Operand) (hop : o.op = Op.lookup ty m x false) (b n : Nat) (D : DataW Value) (hm : a.eval m = .map (some b)) (hown : w.ownsMap Tryz.prog 9 imgR b n D)
    (key : Value) (kl : Lit) (hx : a.eval x = key) (hkey : keyOf Tryz.prog 9 key = some kl) (v : Value) (hat : D.atKey kl (.held z0) = .held v)
    (hK : wpListIn F nF Tryz.prog ops Q rest (a.put o.dst v) w) : wpListIn F nF Tryz.prog ops Q (o :: rest) a w := by
  refine wpListIn_plain hg fun K' hK' => ?_
  obtain ⟨v', ps, hrun, hv⟩ := hown.lookup strKeyed hty hz (zd := .held z0) (zp := []) rfl hkey
  rw [hat] at hv
  simp only [imgR, Option.some.injEq, Prod.mk.injEq, DataW.held.injEq] at hv
  obtain ⟨rfl, -⟩ := hv
  unfold Oper.wpIn
  refine ⟨by simp [Oper.about, hop], ?_⟩
  rw [Oper.semAt_plain F _ _ (by rw [hop]; intro c hc'; cases hc')]
  simp [execOp, hop, hm, hx, hrun, Result.andThen]
  exact hK' _ _ hK
end

set_option maxRecDepth 100000 in
set_option maxHeartbeats 4000000 in
theorem isLinear_any (t : Tm) (s : Value) (w : World) (hs : SlIs w.heap.size w t.ts s) (hb : t.bulk ≤ 1048576) (hd : t.depth ≤ 1048576) :
    Calls Tryz.prog 181 #[tmv t s] w fun e w' => e = .returned (.bool (linB t)) ∧ Below w.heap.size w w' := by
  obtain ⟨oa, cap, rfl, -⟩ := hs.form
  have hsz := Tm.size_bulk t
  have hpl := Tm.places_length t []
  refine (callsIn_wide (n := 3)).1 ?_
  refine callsIn_of_wp_marks Tryz.func181 rfl trivial ?_ rfl
  have hmm := @run_makeMap Tryz.prog
  simp only [Tryz.ntmps181, List.size_toArray, List.length_cons, List.length_nil, Nat.reduceAdd, Nat.reduceSub, Array.replicate_succ, Array.replicate_zero, List.push_toArray, List.append_toArray, List.nil_append, List.cons_append]
  gi_wp2_with (refine ⟨trivial, ?_⟩; gi_at_call 244; refine ((callsIn_wide (n := 2)).2 (places_any _ _ _ _ _)).mono ?_; rintro e w' ⟨rfl, rfl⟩)
  clear hmm
  obtain ⟨w1, hw1⟩ : ∃ w1, w1 = ((((w.alloc (.cells #[.string t.nm, .bool t.vr, .slice oa t.ts.length cap] 25)).alloc (.cells #[.bool false] 4)).alloc (.map #[] 0)).alloc (.cells #[.map (some (w.heap.size + 1 + 1))] 258)).alloc (.cells #[.string t.nm, .bool t.vr, .slice oa t.ts.length cap] 25) := ⟨_, rfl⟩
  have hB0 : Below w.heap.size w w1 := by rw [hw1]; go_grown
  have hz1 : w1.heap.size = w.heap.size + 1 + 1 + 1 + 1 + 1 := by rw [hw1]; simp
  have hM0 : LnMem w w1 (fun k => k = w.heap.size + 1 + 1 + 1 + 1) (fun _ => False) [] := by
    refine ⟨?_, ?_, ?_, hB0, fun k hk => hk.elim (fun h => by omega) False.elim⟩
    · rw [hw1]; exact (((boxed_at _ _ _ _ (by simp)).alloc _).alloc _).alloc _
    · rw [hw1]
      have h := HMap.made (enc := encT) ((w.alloc (.cells #[.string t.nm, .bool t.vr, .slice oa t.ts.length cap] 25)).alloc (.cells #[.bool false] 4))
      simp only [World.size_alloc] at h
      refine h.kept ?_
      rw [Below.heap_alloc _ _ _ (by simp), Below.heap_alloc _ _ _ (by simp)]
    · rw [hw1]; exact (boxed_at _ _ _ _ (by simp)).alloc _
  have hbx : w1.heap[w.heap.size + 1 + 1 + 1 + 1]? = some (.cells #[.string t.nm, .bool t.vr, .slice oa t.ts.length cap] 25 (0, 0)) := by rw [hw1]; exact heap_new_at _ _ _ (by simp)
  have HW1 := Lib.hid hw1
  rw [← hw1]
  clear hw1
  refine wpIn_rangeX rfl (by omega) (gf := 273) (lb := #[.pointer (some ⟨w.heap.size + 1 + 1 + 1 + 1, 0, none⟩)]) rfl trivial (enters_of Tryz.func273 (by kernel_rfl) rfl)
    (places_seq (w.heap.size + 1 + 1 + 1 + 1) w.heap.size t _ w1 hB0.size (fun k => k = w.heap.size + 1 + 1 + 1 + 1) (fun k hk => by omega) rfl hbx (hs.carry hB0 (Nat.le_refl _)) hb hd) (fun _ => False) hB0.size (fun k hk => hk.elim (fun h => by omega) False.elim) (fun _ _ h => h) (fun x vs R W ⟨_, _, h, _⟩ => by rw [h]; rfl)
    (fun X R pre W => ∃ m, linP [] pre = some m ∧ LnMem w W X R m)
    (fun c X R pre W => c = .ret ∧ linP [] pre = none ∧ ∃ m, LnMem w W X R m)
    (fun X R X' R' s A B ⟨m, h1, h⟩ hf hg => ⟨m, h1, h.fx hf hg⟩) (fun c X R X' R' s A B ⟨h1, h2, m, h⟩ hf hg => ⟨h1, h2, m, h.fx hf hg⟩)
    ⟨[], rfl, hM0⟩ ?round ?done ?stop
  case round =>
    rintro l X R pre ⟨p, u⟩ vs W r₀ ⟨m, hm, hM⟩ ⟨pv, su, rfl, hrow, hsu, hub, hpb⟩ hxb hdis hXl hml hrl hms hpre
    obtain ⟨ou, cu, rfl, -⟩ := hsu.form
    obtain ⟨op, cp, rfl, -⟩ := ownsRow_formP hrow
    simp only [Array.zip]
    have hMz := hM.bl.size
    gi_wp2
    have hB1 : Below W.heap.size W (W.alloc (.cells #[.string u.nm, .bool u.vr, .slice ou u.ts.length cu] 25)) := by go_grown
    refine ⟨Kx.of_below hB1 hMz hxb, fun r => ?_⟩
    have hlW := (hxb l (.inl hXl)).2
    have hrg : ∀ A B : World, XB w.heap.size (un X R) A → Rg X R X R A B := fun A B h => Rg.same hdis (fun k hk => h k (.inr hk)) fun _ hk => .inl hk
    have hM1 := (hM.fx (Fx.of_below X hB1) (hrg _ _ hxb)).fx (Fx.put (.loop r) (hxb l (.inl hXl)).1 hXl) (hrg _ _ fun k hk => by have := hxb k hk; simp; omega)
    have hX := (World.putObj_heap_other (w := W.alloc (.cells #[.string u.nm, .bool u.vr, .slice ou u.ts.length cu] 25)) (r := l) (k := W.heap.size) (o := .loop r) (by omega)).trans (World.alloc_heap_new W _)
    have hxb2 : XB w.heap.size (un X R) ((W.alloc (.cells #[.string u.nm, .bool u.vr, .slice ou u.ts.length cu] 25)).putObj l (.loop r)) := fun k hk => by have := hxb k hk; simp; omega
    obtain ⟨V, hV⟩ : ∃ V, V = (W.alloc (.cells #[.string u.nm, .bool u.vr, .slice ou u.ts.length cu] 25)).putObj l (.loop r) := ⟨_, rfl⟩
    rw [← hV] at hM1 hX hxb2 ⊢
    have b0 := cells_of hX 0
    have b1 := cells_of hX 1
    simp only [List.getElem?_toArray, List.getElem?_cons_zero, List.getElem?_cons_succ] at b0 b1
    have mc := hM1.mb.cell
    have oc := hM1.ob.cell
    have of := hM1.ob.frozen
    have hml : m.length < maxLen := by
      have h1 := linP_length hm
      have h2 := hpre.length_le
      simp only [List.length_append, List.length_nil] at h1 h2
      unfold maxLen; omega
    have hun : u.nm.size ≤ 1048576 := by have := Tm.bulk_eq u; omega
    have HKEY : Hid (keyOf Tryz.prog 9 (.string u.nm) = some (.string u.nm.data.toList)) := Lib.hid (WideMaps.keyOf_string_mk Tryz.underlying9 (by unfold maxLen; omega))
    obtain ⟨D, hown, hinv⟩ := hM1.hm
    have HOWN := Lib.hid hown
    have HINV := Lib.hid hinv
    have HM := Lib.hid hM1
    have HXB := Lib.hid hxb2
    have HA := Lib.hid hm
    have HE : Hid (linP [] (pre ++ [(p, u)]) = linP m [(p, u)]) := Lib.hid (by rw [linP_append, hm]; rfl)
    clear hM hM1 hX hrl hown hinv hm hV hB1 hxb2 hrow hsu hpre hxb hrg hdis
    cases hxv : u.vr
    · rw [hxv] at b1
      have HST := Lib.hid (show linP m [(p, u)] = some m by simp [linP, hxv])
      clear hxv
      gi_wp2_with fail
      exact ⟨Kx.refl _ _ _, m, HE.out.trans HST.out, HM.out⟩
    · rw [hxv] at b1
      cases hga : getA m u.nm.data.toList with
      | none =>
        have HST := Lib.hid (show linP m [(p, u)] = some (putA m u.nm.data.toList ()) by simp [linP, hxv, hga])
        have HAT := Lib.hid (show D.atKey (.string u.nm.data.toList) (.held (.bool false)) = .held (.bool false) by rw [atKey_of_not_has (by rw [HINV.out.has]; exact decide_eq_false (getA_none.1 hga))])
        clear hga hxv
        gi_wp2_with (first | (gi_at_lookup; refine plookIn _ 258 4 (.bool false) Tryz.underlying258 (Tryz.zeroValue4 _) rfl (.tmp 14) (.tmp 16) rfl (w.heap.size + 1 + 1) m.length D rfl HOWN.out (.string u.nm) (.string u.nm.data.toList) rfl HKEY.out (.bool false) HAT.out ?_) | (gi_at_mapUpdate; refine wpListIn_mapUpdate_in _ rfl (.tmp 18) (.tmp 20) _ 258 rfl 9 4 strKeyed Tryz.underlying258 imgR (w.heap.size + 1 + 1) m.length D rfl HOWN.out hml (.string u.nm) (.bool true) (.string u.nm.data.toList) rfl rfl HKEY.out (.held (.bool true)) [] rfl ?_; intro V3 hown3 hturn3))
        have hm3 : HMap encT V3 (w.heap.size + 1 + 1) (putA m u.nm.data.toList ()) := HMap.store HINV.out hown3
        have HM3 := Lib.hid (HM.out.turned hturn3 hm3)
        have HT3 := Lib.hid hturn3
        clear hown3 hturn3 hm3
        gi_wp2
        exact ⟨Kx.grown HT3.out.grown HM.out.bl.size HXB.out (fun r e => by cases e; exact ⟨by omega, fun h => by have := HM.out.ap _ h; omega⟩), _, HE.out.trans HST.out, HM3.out⟩
      | some y =>
        have HST := Lib.hid (show linP m [(p, u)] = none by simp [linP, hxv, hga])
        have HAT := Lib.hid (HINV.out.at_ _ _ hga (.held (.bool false)))
        clear hga hxv
        gi_wp2_with (gi_at_lookup; refine plookIn _ 258 4 (.bool false) Tryz.underlying258 (Tryz.zeroValue4 _) rfl (.tmp 14) (.tmp 16) rfl (w.heap.size + 1 + 1) m.length D rfl HOWN.out (.string u.nm) (.string u.nm.data.toList) rfl HKEY.out (.bool true) HAT.out ?_)
        refine ⟨Kx.grown (grownBy_setCell' _ _ _) HM.out.bl.size HXB.out (fun r e => by cases e; exact ⟨by omega, fun h => by have := HM.out.ap _ h; omega⟩), rfl, HE.out.trans HST.out, m, ?_⟩
        exact ⟨Boxed.set _ HM.out.ob, HM.out.hm.kept (heap_set_other _ _ _ _ (by omega)), (heap_set_other _ _ _ _ (by omega)).trans HM.out.mb, HM.out.bl.setCell (p := ⟨w.heap.size + 1, 0, none⟩) (by simp) _, HM.out.ap⟩
  case done =>
    rintro D X R W hD hXD ⟨m, hm, hM⟩ hxb _ hK
    have oc := hM.ob.cell
    have of := hM.ob.frozen
    have HM := Lib.hid hM
    have HA := Lib.hid (show linB t = true by unfold linB; rw [hm]; rfl)
    have HD := Lib.hid hxb
    clear hm hM hxb
    gi_wp2
    have hKD : (W.setCell ⟨w.heap.size + 1, 0, none⟩ (.bool true)).heap[D]? = some (.deferred (some [])) := (heap_set_other _ _ _ _ (by omega)).trans hK
    refine ⟨by simp, .inl ⟨_, _, rfl, run_takeDeferred hKD, ?_⟩⟩
    have hb : Boxed (W.setCell ⟨w.heap.size + 1, 0, none⟩ (.bool true)) (w.heap.size + 1) 4 (.bool true) := Boxed.set _ HM.out.ob
    have hc1 := cell_kept hb.cell (grownBy_putObj' _ D (.deferred none)) (fun r e => by cases e; exact ⟨_, hKD, rfl⟩)
    refine ⟨.bool true, by simp [results, Tryz.f181, go_sem, hc1], by rw [HA.out], ?_⟩
    exact (HM.out.bl.setCell (p := ⟨w.heap.size + 1, 0, none⟩) (by simp) _).trans (belowK_b (w := w) (Nat.le_refl _) _ D _ _ (by omega) hKD rfl rfl)
  case stop =>
    rintro D c X R pre W hD hXD hp ⟨rfl, h2, m, hM⟩ hxb _ hK
    have HM := Lib.hid hM
    have HA := Lib.hid (show linB t = false by unfold linB; rw [linP_none h2 hp]; rfl)
    clear h2 hM hxb hp
    gi_wp2
    refine ⟨by simp, .inl ⟨_, _, rfl, run_takeDeferred hK, ?_⟩⟩
    have hc1 := cell_kept HM.out.ob.cell (grownBy_putObj' _ D (.deferred none)) (fun r e => by cases e; exact ⟨_, hK, rfl⟩)
    refine ⟨.bool false, by simp [results, Tryz.f181, go_sem, hc1], by rw [HA.out], ?_⟩
    exact HM.out.bl.trans (belowK_b (w := w) (Nat.le_refl _) _ D _ _ (by omega) hK rfl rfl)
end Go.Proofs.YtamddagmlanijaaGreat
