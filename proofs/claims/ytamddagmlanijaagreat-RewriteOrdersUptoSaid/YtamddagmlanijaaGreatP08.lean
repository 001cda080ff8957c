/- Packed: Fit, Blk, Mt. -/
import Derived.Maps.OwnIn
import Derived.Test.YtamddagmlanijaaGreatP06
import Derived.Test.YtamddagmlanijaaGreatP07
/- What fits measures: plain facts; look-ups in the map of images. fits: does the term with its bindings applied stay small? -/
namespace Go.Proofs.YtamddagmlanijaaGreat
open Go.RowKit Go.Maps

/-- a node's part of the size and of the depth of what is built -/
def szV (bl : List Bd) (v : View) : Nat := if v.2.2.1 then (imageOf bl v.2.1.data.toList).size else 1
def dpV (bl : List Bd) (v : View) : Nat := v.1 - 1 + (if v.2.2.1 then (imageOf bl v.2.1.data.toList).depth else 1)
def szs (bl : List Bd) (l : List View) : Nat := (l.map (szV bl)).sum
def dps (bl : List Bd) (l : List View) : Nat := l.foldl (fun a v => max a (dpV bl v)) 0
theorem szs_snoc (bl : List Bd) (l : List View) (v : View) : szs bl (l ++ [v]) = szs bl l + szV bl v := by simp [szs]
theorem szs_append (bl : List Bd) (l r : List View) : szs bl (l ++ r) = szs bl l + szs bl r := by simp [szs]
theorem foldl_dp (bl : List Bd) (l : List View) (a : Nat) : l.foldl (fun a v => max a (dpV bl v)) a = max a (dps bl l) := by
  unfold dps
  induction l generalizing a with
  | nil => simp
  | cons x l ih => rw [List.foldl_cons, List.foldl_cons, ih, ih (max 0 (dpV bl x))]; omega
theorem dps_append (bl : List Bd) (l r : List View) : dps bl (l ++ r) = max (dps bl l) (dps bl r) := by
  rw [dps, List.foldl_append, foldl_dp]; rfl
theorem dps_cons (bl : List Bd) (v : View) (l : List View) : dps bl (v :: l) = max (dpV bl v) (dps bl l) := by
  rw [dps, List.foldl_cons, foldl_dp]; simp
theorem szs_cons (bl : List Bd) (v : View) (l : List View) : szs bl (v :: l) = szV bl v + szs bl l := by simp [szs]
/-- the whole: size and depth of the term with its bindings applied -/
theorem grown_is (bl : List Bd) {t : Tm} (h : t.bare) : ∀ d, szs bl (t.nodes (d + 1)) = (apB bl t).size ∧ dps bl (t.nodes (d + 1)) = d + (apB bl t).depth := by
  induction t using Tm.ind with
  | h t ih =>
    intro d
    rw [Tm.nodes_eq, szs_cons, dps_cons]
    cases hv : t.vr
    · rw [apB_fun bl hv, Tm.size_eq, Tm.depth_eq, show (Tm.mk t.nm false (t.ts.map (apB bl))).ts = t.ts.map (apB bl) from rfl,
        show szV bl (d + 1, t.nm, false, t.ts.length) = 1 from rfl, show dpV bl (d + 1, t.nm, false, t.ts.length) = d + 1 from rfl]
      have key : ∀ l : List Tm, (∀ u ∈ l, ∀ d, szs bl (u.nodes (d + 1)) = (apB bl u).size ∧ dps bl (u.nodes (d + 1)) = d + (apB bl u).depth) →
          szs bl (Tm.nodesL (d + 1 + 1) l) = Tm.sizes (l.map (apB bl)) ∧ (l ≠ [] → dps bl (Tm.nodesL (d + 1 + 1) l) = d + 1 + Tm.depths (l.map (apB bl))) ∧ (l = [] → dps bl (Tm.nodesL (d + 1 + 1) l) = 0) := by
        intro l hl
        induction l with
        | nil => exact ⟨rfl, fun h => absurd rfl h, fun _ => rfl⟩
        | cons x l ihl =>
          have h1 := hl x (by simp) (d + 1)
          obtain ⟨h2, h3, h4⟩ := ihl fun u hu => hl u (by simp [hu])
          simp only [Tm.nodesL, List.map_cons, Tm.sizes, Tm.depths, szs_append, dps_append, h1.1, h1.2, h2]
          refine ⟨trivial, fun _ => ?_, fun h => by cases h⟩
          by_cases e : l = []
          · rw [h4 e]; subst e; simp [Tm.depths]
          · rw [h3 e]; omega
      obtain ⟨h2, h3, h4⟩ := key t.ts fun u hu => ih u hu (h.kids u hu)
      rw [h2]
      refine ⟨rfl, ?_⟩
      by_cases e : t.ts = []
      · rw [h4 e, e]; simp [Tm.depths]
      · rw [h3 e]; omega
    · rw [h.vr0 hv, apB_var bl hv]
      simp [szV, dpV, Tm.nodesL, szs, dps]
/-- the same with integers -/
def dpI (bl : List Bd) (v : View) : Int := (v.1 : Int) - 1 + ((if v.2.2.1 then (imageOf bl v.2.1.data.toList).depth else 1 : Nat) : Int)
def dpsI (bl : List Bd) (l : List View) : Int := l.foldl (fun a v => max a (dpI bl v)) 0
theorem dpsI_snoc (bl : List Bd) (l : List View) (v : View) : dpsI bl (l ++ [v]) = max (dpsI bl l) (dpI bl v) := by simp [dpsI]
theorem dpsI_eq (bl : List Bd) (l : List View) (h : ∀ v ∈ l, 1 ≤ v.1) : dpsI bl l = (dps bl l : Nat) := by
  have key : ∀ (l : List View) (a : Nat), (∀ v ∈ l, 1 ≤ v.1) → l.foldl (fun a v => max a (dpI bl v)) (a : Int) = ((l.foldl (fun a v => max a (dpV bl v)) a : Nat) : Int) := by
    intro l
    induction l with
    | nil => intro a _; rfl
    | cons x l ih =>
      intro a h
      rw [List.foldl_cons, List.foldl_cons, ← ih _ fun v hv => h v (by simp [hv])]
      congr 1
      have := h x (by simp)
      show max (a : Int) (dpI bl x) = ((max a (dpV bl x) : Nat) : Int)
      unfold dpI dpV
      omega
  exact key l 0 h
theorem nodes_ge (t : Tm) : ∀ d, ∀ v ∈ t.nodes d, d ≤ v.1 := by
  induction t using Tm.ind with
  | h t ih =>
    intro d v hv
    rw [Tm.nodes_eq] at hv
    rcases List.mem_cons.1 hv with rfl | hv
    · exact Nat.le_refl _
    · obtain ⟨x, hx, hv⟩ := Tm.nodesL_mem hv
      have := ih x hx (d + 1) v hv
      omega
theorem dpsI_nonneg (bl : List Bd) (l : List View) : 0 ≤ dpsI bl l := by
  have key : ∀ (l : List View) (a : Int), 0 ≤ a → 0 ≤ l.foldl (fun a v => max a (dpI bl v)) a := by
    intro l
    induction l with
    | nil => intro a h; exact h
    | cons x l ih => intro a h; rw [List.foldl_cons]; exact ih _ (by omega)
  exact key l 0 (by omega)
theorem imageOf_size {bl : List Bd} (h : SubOk bl) (k : Key) : (imageOf bl k).size ≤ 4000 ∧ (imageOf bl k).depth ≤ 200 := by
  unfold imageOf
  cases hf : bl.find? (fun p => decide (p.1 = k)) with
  | none => exact ⟨by simp [Tm.size, Tm.sizes], by simp [Tm.depth, Tm.depths]⟩
  | some p => exact (h.terms p (List.mem_of_find?_eq_some hf)).2
theorem szs_le {bl : List Bd} (h : SubOk bl) (l : List View) : szs bl l ≤ 4000 * l.length := by
  induction l with
  | nil => simp [szs]
  | cons v l ih =>
    rw [szs_cons, List.length_cons, Nat.mul_succ]
    have : szV bl v ≤ 4000 := by unfold szV; split; exact (imageOf_size h _).1; omega
    omega
theorem dpsI_le {bl : List Bd} (h : SubOk bl) (l : List View) (k : Nat) (hl : ∀ v ∈ l, v.1 ≤ k) : dpsI bl l ≤ k + 200 := by
  have key : ∀ (l : List View) (a : Int), (∀ v ∈ l, v.1 ≤ k) → a ≤ k + 200 → l.foldl (fun a v => max a (dpI bl v)) a ≤ k + 200 := by
    intro l
    induction l with
    | nil => intro a _ h; exact h
    | cons x l ih =>
      intro a hl ha
      rw [List.foldl_cons]
      refine ih _ (fun v hv => hl v (by simp [hv])) ?_
      have h2 := hl x (by simp)
      have : dpI bl x ≤ k + 200 := by
        unfold dpI
        split
        · have := (imageOf_size h x.2.1.data.toList).2; omega
        · omega
      omega
  exact key l 0 hl (by omega)
theorem imageOf_in {bl : List Bd} (hn : (bl.map (·.1)).Nodup) {p : Bd} (hp : p ∈ bl) : imageOf bl p.1 = p.2 := by
  refine imageOf_of ⟨p, hp, rfl⟩ fun q hq e => ?_
  induction bl with
  | nil => cases hp
  | cons x l ih =>
    rw [List.map_cons, List.nodup_cons] at hn
    rcases List.mem_cons.1 hp with hp1 | hp2
    · rcases List.mem_cons.1 hq with hq1 | hq2
      · rw [hp1, hq1]
      · exact absurd (List.mem_map.2 ⟨q, hq2, by rw [e, hp1]⟩) hn.1
    · rcases List.mem_cons.1 hq with hq1 | hq2
      · exact absurd (List.mem_map.2 ⟨p, hp2, by rw [← e, hq1]⟩) hn.1
      · exact ih hn.2 hp2 hq2
theorem imageOf_out {bl : List Bd} {k : Key} (h : k ∉ bl.map (·.1)) : imageOf bl k = .mk (kb k) true [] := imageOf_miss fun q hq e => h (List.mem_map.2 ⟨q, hq, e⟩)

abbrev zImg : Value := .agg #[.string ⟨#[]⟩, .bool false, .slice none 0 0, .int .i64 0, .int .i64 0]
theorem zeroImg (w : World) : (zeroValue 301).run Tryz.prog w = .ok zImg w := Tryz.zeroValue301 w
section
variable {w : World} {ops : Array Oper} {rest : List Oper} {o : Oper} {a : Act} {Q : Exit → Act → World → Prop} {F : Fence} {nF : Nat}
theorem lookIn_hit (hg : o.guard = none) (m x : Operand) (hop : o.op = Op.lookup 238 m x true) (b n : Nat) (D : DataW Value) (hm : a.eval m = .map (some b)) (hown : w.ownsMap Tryz.prog 9 imgR b n D)
    (key : Value) (kl : Lit) (hx : a.eval x = key) (hkey : keyOf Tryz.prog 9 key = some kl) (val : Value) (hat : ∀ z, D.atKey kl z = .held val) (hh : Maps.has D kl = true)
    (hK : wpListIn F nF Tryz.prog ops Q rest (a.put o.dst (.tuple #[val, .bool true])) w) : wpListIn F nF Tryz.prog ops Q (o :: rest) a w :=
  wpListIn_lookup_own_ok _ hg m x 238 hop 9 301 strKeyed Tryz.underlying238 imgR (zeroImg w) (.held zImg) [] rfl b n D hm hown key kl hx hkey fun v ps hv => by
    rw [hat] at hv
    simp only [imgR, Option.some.injEq, Prod.mk.injEq, DataW.held.injEq] at hv
    obtain ⟨rfl, -⟩ := hv
    rw [hh]; exact hK
theorem lookIn_miss (hg : o.guard = none) (m x : Operand) (hop : o.op = Op.lookup 238 m x true) (b n : Nat) (D : DataW Value) (hm : a.eval m = .map (some b)) (hown : w.ownsMap Tryz.prog 9 imgR b n D)
    (key : Value) (kl : Lit) (hx : a.eval x = key) (hkey : keyOf Tryz.prog 9 key = some kl) (hh : Maps.has D kl = false)
    (hK : wpListIn F nF Tryz.prog ops Q rest (a.put o.dst (.tuple #[zImg, .bool false])) w) : wpListIn F nF Tryz.prog ops Q (o :: rest) a w :=
  wpListIn_lookup_own_ok _ hg m x 238 hop 9 301 strKeyed Tryz.underlying238 imgR (zeroImg w) (.held zImg) [] rfl b n D hm hown key kl hx hkey fun v ps hv => by
    rw [atKey_of_not_has hh] at hv
    simp only [imgR, Option.some.injEq, Prod.mk.injEq, DataW.held.injEq] at hv
    obtain ⟨rfl, -⟩ := hv
    rw [hh]; exact hK
theorem look_hit (hg : o.guard = none) (m x : Operand) (hop : o.op = Op.lookup 238 m x true) (b n : Nat) (D : DataW Value) (hm : a.eval m = .map (some b)) (hown : w.ownsMap Tryz.prog 9 imgR b n D)
    (key : Value) (kl : Lit) (hx : a.eval x = key) (hkey : keyOf Tryz.prog 9 key = some kl) (val : Value) (hat : ∀ z, D.atKey kl z = .held val) (hh : Maps.has D kl = true)
    (hK : wpList Tryz.prog ops Q rest (a.put o.dst (.tuple #[val, .bool true])) w) : wpList Tryz.prog ops Q (o :: rest) a w :=
  wpList_lookup_own_ok _ hg m x 238 hop 9 301 strKeyed Tryz.underlying238 imgR (zeroImg w) (.held zImg) [] rfl b n D hm hown key kl hx hkey fun v ps hv => by
    rw [hat] at hv
    simp only [imgR, Option.some.injEq, Prod.mk.injEq, DataW.held.injEq] at hv
    obtain ⟨rfl, -⟩ := hv
    rw [hh]; exact hK
theorem look_miss (hg : o.guard = none) (m x : Operand) (hop : o.op = Op.lookup 238 m x true) (b n : Nat) (D : DataW Value) (hm : a.eval m = .map (some b)) (hown : w.ownsMap Tryz.prog 9 imgR b n D)
    (key : Value) (kl : Lit) (hx : a.eval x = key) (hkey : keyOf Tryz.prog 9 key = some kl) (hh : Maps.has D kl = false)
    (hK : wpList Tryz.prog ops Q rest (a.put o.dst (.tuple #[zImg, .bool false])) w) : wpList Tryz.prog ops Q (o :: rest) a w :=
  wpList_lookup_own_ok _ hg m x 238 hop 9 301 strKeyed Tryz.underlying238 imgR (zeroImg w) (.held zImg) [] rfl b n D hm hown key kl hx hkey fun v ps hv => by
    rw [atKey_of_not_has hh] at hv
    simp only [imgR, Option.some.injEq, Prod.mk.injEq, DataW.held.injEq] at hv
    obtain ⟨rfl, -⟩ := hv
    rw [hh]; exact hK
end
end Go.Proofs.YtamddagmlanijaaGreat
namespace Go.Proofs.YtamddagmlanijaaGreat
open Go.RowKit Go.Shelf
attribute [local go_sem] Oper.semAt_some

/-- the variables of fits, as they lie -/
structure FitMem (w W : World) (mv : Value) (sz dp : Int) : Prop where
  mb : Boxed W w.heap.size 238 mv
  sb : Boxed W (w.heap.size + 1 + 1) 3 (.int .i64 sz)
  db : Boxed W (w.heap.size + 1 + 1 + 1) 3 (.int .i64 dp)
  bl : Below w.heap.size w W
theorem FitMem.kept {w W W' : World} {mv : Value} {sz dp : Int} {row : Option Nat} (h : FitMem w W mv sz dp) (hg : W.grownBy W' row) (hr : ∀ r, row = some r → w.heap.size ≤ r ∧ ∃ o : Obj, W.heap[r]? = some o ∧ o.isCells = false) : FitMem w W' mv sz dp :=
  ⟨held_kept h.mb hg fun r e => (hr r e).2, held_kept h.sb hg fun r e => (hr r e).2, held_kept h.db hg fun r e => (hr r e).2, h.bl.grown hg h.bl.size fun r e => (hr r e).1⟩
theorem FitMem.below {w W W' : World} {mv : Value} {sz dp : Int} (h : FitMem w W mv sz dp) (hb : Below W.heap.size W W') : FitMem w W' mv sz dp :=
  h.kept (row := none) ⟨hb.os, hb.tape, hb.output, hb.size, fun i hi _ => hb.block i hi⟩ (fun r e => by cases e)
theorem FitMem.setS {w W : World} {mv : Value} {sz dp : Int} (h : FitMem w W mv sz dp) (v : Int) : FitMem w (W.setCell ⟨w.heap.size + 1 + 1, 0, none⟩ (.int .i64 v)) mv v dp :=
  ⟨(heap_set_other _ _ _ _ (by omega)).trans h.mb, h.sb.set _, (heap_set_other _ _ _ _ (by omega)).trans h.db, h.bl.setCell (p := ⟨w.heap.size + 1 + 1, 0, none⟩) (by simp; omega) _⟩
theorem FitMem.setD {w W : World} {mv : Value} {sz dp : Int} (h : FitMem w W mv sz dp) (v : Int) : FitMem w (W.setCell ⟨w.heap.size + 1 + 1 + 1, 0, none⟩ (.int .i64 v)) mv sz v :=
  ⟨(heap_set_other _ _ _ _ (by omega)).trans h.mb, (heap_set_other _ _ _ _ (by omega)).trans h.sb, h.db.set _, h.bl.setCell (p := ⟨w.heap.size + 1 + 1 + 1, 0, none⟩) (by simp; omega) _⟩

set_option maxRecDepth 100000 in
set_option maxHeartbeats 4000000 in
theorem fits_any (bl : List Bd) (hbl : SubOk bl) (mb : Nat) (t : Tm) (s : Value) (w : World) (n : Nat) (hn : n ≤ w.heap.size) (hmbw : mb < w.heap.size) (hm : ImgMap n mb w bl) (hs : SlIs w.heap.size w t.ts s) (hb : t.bulk ≤ 1048576) (ht : t.ok) :
    Calls Tryz.prog 239 #[.map (some mb), tmv t s] w fun e w' => e = .returned (.bool (decide ((apB bl t).size ≤ 4000 ∧ (apB bl t).depth ≤ 200))) ∧ Below w.heap.size w w' := by
  obtain ⟨oa, cap, rfl, -⟩ := hs.form
  have hsz := Tm.size_bulk t
  refine (callsIn_wide (n := 3)).1 ?_
  refine callsIn_of_wp_marks Tryz.func239 rfl trivial ?_ rfl
  simp only [Tryz.ntmps239, List.size_toArray, List.length_cons, List.length_nil, Nat.reduceAdd, Nat.reduceSub, Array.replicate_succ, Array.replicate_zero, List.push_toArray, List.append_toArray, List.nil_append, List.cons_append]
  gi_wp2_with (refine ⟨trivial, ?_⟩; gi_at_call 166; refine (nodes_in Fence.wide _ trivial rfl _ _ _ _ _).mono ?_; rintro e w' ⟨rfl, rfl⟩)
  have hB0 : Below w.heap.size w (((((w.alloc (.cells #[.map (some mb)] 238)).alloc (.cells #[.string t.nm, .bool t.vr, .slice oa t.ts.length cap] 25)).alloc (.cells #[.int .i64 0] 3)).alloc (.cells #[.int .i64 0] 3)).alloc (.cells #[.string t.nm, .bool t.vr, .slice oa t.ts.length cap] 25)) := by go_grown
  have hM0 : FitMem w (((((w.alloc (.cells #[.map (some mb)] 238)).alloc (.cells #[.string t.nm, .bool t.vr, .slice oa t.ts.length cap] 25)).alloc (.cells #[.int .i64 0] 3)).alloc (.cells #[.int .i64 0] 3)).alloc (.cells #[.string t.nm, .bool t.vr, .slice oa t.ts.length cap] 25)) (.map (some mb)) (szs bl (([] : List Nd).map Nd.view) : Nat) (dpsI bl (([] : List Nd).map Nd.view)) := by
    refine ⟨?_, ((boxed_at _ _ _ _ (by simp)).alloc _).alloc _, (boxed_at _ _ _ _ (by simp)).alloc _, hB0⟩
    show _ = _
    rw [Below.heap_alloc _ _ _ (by simp; omega), Below.heap_alloc _ _ _ (by simp; omega), Below.heap_alloc _ _ _ (by simp; omega), Below.heap_alloc _ _ _ (by simp)]
    exact World.alloc_heap_new w _
  refine wpIn_rangeFunc_ownH rfl (by omega) (gf := 222) (lb := #[.pointer (some ⟨w.heap.size + 1 + 1 + 1 + 1, 0, none⟩)]) rfl trivial (enters_of Tryz.func222 (by kernel_rfl) rfl)
    (nodes_stops Fence.wide rfl _ trivial trivial rfl (w.heap.size + 1 + 1 + 1 + 1) w.heap.size t _ _ (by simp) (by simp; omega) (cell_new_at _ _ _ _ _ (by simp)) (cell_new_at _ _ _ _ _ (by simp)) (cell_new_at _ _ _ _ _ (by simp)) (hs.carry hB0 (Nat.le_refl _)) hb)
    (fun h k => h.trans k) (Keep.put (by simp; omega)) (Below.refl _ _) (fun _ => rfl)
    (fun pre W => FitMem w W (.map (some mb)) (szs bl (pre.map Nd.view) : Nat) (dpsI bl (pre.map Nd.view)))
    (fun c pre W => False)
    (fun s A B row h hg hr => h.kept hg (fun r e => ⟨by have := (hr r e).1; simp at this; omega, (hr r e).2⟩))
    (fun c s A B row h hg hr => h.elim)
    hM0
    (fun x a' W => ∃ B, w.heap.size + 1 + 1 + 1 < B ∧ W.heap[B]? = some (.cells #[.string x.nm, .bool x.vr, .slice x.oa x.n x.cap] 25 (0, 0)) ∧
      a' = { tmps := #[.map (some mb), tmv t (.slice oa t.ts.length cap), .pointer (some ⟨w.heap.size, 0, none⟩), .pointer (some ⟨w.heap.size + 1, 0, none⟩), .bool false, .pointer (some ⟨w.heap.size + 1 + 1, 0, none⟩), .pointer (some ⟨w.heap.size + 1 + 1 + 1, 0, none⟩), .int .i64 x.d, .pointer (some ⟨B, 0, none⟩), undef, undef,
        tmv t (.slice oa t.ts.length cap), .func (.func 222) #[] #[.pointer (some ⟨w.heap.size + 1 + 1 + 1 + 1, 0, none⟩)], .int .i64 x.d, .agg #[.string x.nm, .bool x.vr, .slice x.oa x.n x.cap], undef, undef, undef, undef, undef, undef, undef, undef, undef, undef, undef, undef, undef, undef, undef, undef, undef, undef, undef, undef, undef, undef, undef, undef, undef, undef, undef, undef, undef, undef, undef, undef], defers := [] })
    (fun x a' s A B row ⟨b, h1, h2, h3⟩ hg hr => ⟨b, h1, held_kept h2 hg (fun r e => (hr r e).2), h3⟩) ?assign ?body ?done ?stop
  case assign =>
    rintro l pre x W K hM hK
    simp only [Nd.encs]
    simp only [Array.zip]
    gi_wp2
    refine hK _ _ ((KeepsOthers.alloc _ _).from _) ((Keep.refl _ _ _).alloc (by have := hM.bl.size; omega) _) (hM.kept (World.grownBy_alloc W _ none) (fun r e => by cases e)) ⟨W.heap.size, by have := hM.db.lt; omega, World.alloc_heap_new W _, rfl⟩
  case stop =>
    rintro D c pre W hD hpre hx hK
    exact hx.elim
  case body =>
    rintro l pre x a' W hl hr hM ⟨B, hB, hX, rfl⟩ hlt
    have b0 := cells_of hX 0
    have b1 := cells_of hX 1
    have b2 := cells_of hX 2
    simp only [List.getElem?_toArray, List.getElem?_cons_zero, List.getElem?_cons_succ] at b0 b1 b2
    have hxn := x.hnm
    have hxa := x.hn
    have hxd := x.hd
    have hBlt : B < W.heap.size := (Array.getElem?_eq_some_iff.1 hX).1
    have hlen : pre.length < 4000 := by have := ht.2.1; omega
    have hS1 := szs_le hbl (pre.map Nd.view)
    rw [List.length_map] at hS1
    have hD2 := dpsI_nonneg bl (pre.map Nd.view)
    have hD1 := dpsI_le hbl (pre.map Nd.view) 2097152 (fun v hv => by obtain ⟨y, _, rfl⟩ := List.mem_map.1 hv; exact y.hd)
    obtain ⟨D, hown, hinv⟩ := hm.carry (hM.bl.mono hn) (Nat.le_refl _) (hM.bl.block mb hmbw)
    have HKEY : Hid (keyOf Tryz.prog 9 (.string x.nm) = some (.string x.nm.data.toList)) := Lib.hid (WideMaps.keyOf_string_mk Tryz.underlying9 (by unfold maxLen; omega))
    have mc := hM.mb.cell
    have mf := hM.mb.frozen
    have HM := Lib.hid hM
    have HX := Lib.hid hX
    have HOWN := Lib.hid hown
    have HBL := Lib.hid hbl
    have HT := Lib.hid ht
    have HMM := Lib.hid hm
    obtain ⟨S0, hS0⟩ : ∃ S0, S0 = szs bl (pre.map Nd.view) := ⟨_, rfl⟩
    obtain ⟨D0, hD0⟩ : ∃ D0, D0 = dpsI bl (pre.map Nd.view) := ⟨_, rfl⟩
    rw [← hS0, ← hD0] at HM
    rw [← hS0] at hS1
    rw [← hD0] at hD1 hD2
    have e1 : Hid (((szs bl ((pre ++ [x]).map Nd.view) : Nat) : Int) = (S0 : Int) + (szV bl x.view : Int)) := Lib.hid (by rw [List.map_append, List.map_singleton, szs_snoc, hS0]; push_cast; rfl)
    have e2 : Hid (dpsI bl ((pre ++ [x]).map Nd.view) = max D0 (dpI bl x.view)) := Lib.hid (by rw [List.map_append, List.map_singleton, dpsI_snoc, hD0])
    clear hM hX hown hr hS0 hD0 hbl ht hm
    have hsl := HM.out.sb.lt
    have hdl := HM.out.db.lt
    have sc0 := HM.out.sb.cell
    have sf0 := HM.out.sb.frozen
    have dc0 := HM.out.db.cell
    have df0 := HM.out.db.frozen
    have hn1 : ¬ (W.heap.size = w.heap.size + 1 + 1) := by omega
    have hn2 : ¬ (w.heap.size + 1 + 1 = W.heap.size) := by omega
    have hn3 : ¬ (W.heap.size = w.heap.size + 1 + 1 + 1) := by omega
    have hn4 : ¬ (w.heap.size + 1 + 1 + 1 = W.heap.size) := by omega
    have hn5 : ¬ (W.heap.size = w.heap.size + 2) := by omega
    have hn6 : ¬ (w.heap.size + 2 = W.heap.size) := by omega
    have hn7 : ¬ (W.heap.size = w.heap.size + 3) := by omega
    have hn8 : ¬ (w.heap.size + 3 = W.heap.size) := by omega
    by_cases hin : x.nm.data.toList ∈ bl.map (·.1)
    · obtain ⟨p, hp, hpe⟩ := List.mem_map.1 hin
      obtain ⟨sp, hat, hsp⟩ := hinv.at_ p hp
      rw [hpe] at hat
      obtain ⟨os, cs, rfl, -⟩ := hsp.form
      have HAT := Lib.hid hat
      have HHAS : Hid (Maps.has D (.string x.nm.data.toList) = true) := Lib.hid (by rw [hinv.has]; simpa using hin)
      have HIM : Hid (imageOf bl x.nm.data.toList = p.2) := Lib.hid (by rw [← hpe]; exact imageOf_in HBL.out.nodup hp)
      have hpz := (HBL.out.terms p hp).2
      have hma := HM.out.below ((Below.refl _ W).alloc (Nat.le_refl _) (.cells #[.string p.2.nm, .bool p.2.vr, .slice os p.2.ts.length cs, .int .i64 p.2.size, .int .i64 p.2.depth] 301))
      have sc := hma.sb.cell
      have sf := hma.sb.frozen
      have dc := hma.db.cell
      have df := hma.db.frozen
      clear hp hpe hat hsp hinv hin hma
      cases hxv : x.vr
      · rw [hxv] at b1
        have HSZ : Hid (szV bl x.view = 1) := Lib.hid (by simp [szV, Nd.view, hxv])
        have HDP : Hid (dpI bl x.view = (x.d : Int)) := Lib.hid (by simp [dpI, Nd.view, hxv])
        gi_wp2_with (refine lookIn_hit rfl (.tmp 16) (.tmp 18) rfl mb bl.length D rfl HOWN.out (.string x.nm) (.string x.nm.data.toList) rfl HKEY.out (.agg #[.string p.2.nm, .bool p.2.vr, .slice os p.2.ts.length cs, .int .i64 p.2.size, .int .i64 p.2.depth]) HAT.out HHAS.out ?_)
        exact ⟨(((KeepsOthers.setCell _ _ _).from _).trans ((KeepsOthers.setCell _ _ _).from _)).trans ((KeepsOthers.alloc _ _).from _),
          (((Keep.setCell _ (by simp; omega) (by simp) _).trans (Keep.setCell _ (by simp; omega) (by simp) _))).alloc (by have := HM.out.bl.size; simp [World.setCell]; omega) _, by
            show FitMem w _ _ _ _
            rw [e1.out, e2.out, HSZ.out, HDP.out]
            exact ((HM.out.setS _).setD _).below ((Below.refl _ _).alloc (Nat.le_refl _) _)⟩
      · rw [hxv] at b1
        have HSZ : Hid (szV bl x.view = p.2.size) := Lib.hid (by simp [szV, Nd.view, hxv, HIM.out])
        have HDP : Hid (dpI bl x.view = (x.d : Int) - 1 + (p.2.depth : Int)) := Lib.hid (by simp [dpI, Nd.view, hxv, HIM.out])
        gi_wp2_with (refine lookIn_hit rfl (.tmp 16) (.tmp 18) rfl mb bl.length D rfl HOWN.out (.string x.nm) (.string x.nm.data.toList) rfl HKEY.out (.agg #[.string p.2.nm, .bool p.2.vr, .slice os p.2.ts.length cs, .int .i64 p.2.size, .int .i64 p.2.depth]) HAT.out HHAS.out ?_)
        exact ⟨(((KeepsOthers.setCell _ _ _).from _).trans ((KeepsOthers.setCell _ _ _).from _)).trans ((KeepsOthers.alloc _ _).from _),
          (((Keep.setCell _ (by simp; omega) (by simp) _).trans (Keep.setCell _ (by simp; omega) (by simp) _))).alloc (by have := HM.out.bl.size; simp [World.setCell]; omega) _, by
            show FitMem w _ _ _ _
            rw [e1.out, e2.out, HSZ.out, HDP.out]
            exact ((HM.out.setS _).setD _).below ((Below.refl _ _).alloc (Nat.le_refl _) _)⟩
    · have HHAS : Hid (Maps.has D (.string x.nm.data.toList) = false) := Lib.hid (by rw [hinv.has]; simpa using hin)
      have HIM : Hid (imageOf bl x.nm.data.toList = .mk (kb x.nm.data.toList) true []) := Lib.hid (imageOf_out hin)
      have hma := HM.out.below ((Below.refl _ W).alloc (Nat.le_refl _) (.cells #[.string ⟨#[]⟩, .bool false, .slice none 0 0, .int .i64 0, .int .i64 0] 301))
      have sc := hma.sb.cell
      have sf := hma.sb.frozen
      have dc := hma.db.cell
      have df := hma.db.frozen
      clear hinv hin hma
      cases hxv : x.vr
      · rw [hxv] at b1
        have HSZ : Hid (szV bl x.view = 1) := Lib.hid (by simp [szV, Nd.view, hxv])
        have HDP : Hid (dpI bl x.view = (x.d : Int)) := Lib.hid (by simp [dpI, Nd.view, hxv])
        gi_wp2_with (refine lookIn_miss rfl (.tmp 16) (.tmp 18) rfl mb bl.length D rfl HOWN.out (.string x.nm) (.string x.nm.data.toList) rfl HKEY.out HHAS.out ?_)
        exact ⟨(((KeepsOthers.setCell _ _ _).from _).trans ((KeepsOthers.setCell _ _ _).from _)).trans ((KeepsOthers.alloc _ _).from _),
          (((Keep.setCell _ (by simp; omega) (by simp) _).trans (Keep.setCell _ (by simp; omega) (by simp) _))).alloc (by have := HM.out.bl.size; simp [World.setCell]; omega) _, by
            show FitMem w _ _ _ _
            rw [e1.out, e2.out, HSZ.out, HDP.out]
            exact ((HM.out.setS _).setD _).below ((Below.refl _ _).alloc (Nat.le_refl _) _)⟩
      · rw [hxv] at b1
        have HSZ : Hid (szV bl x.view = 1) := Lib.hid (by simp [szV, Nd.view, hxv, HIM.out, Tm.size, Tm.sizes])
        have HDP : Hid (dpI bl x.view = (x.d : Int)) := Lib.hid (by simp [dpI, Nd.view, hxv, HIM.out, Tm.depth, Tm.depths])
        gi_wp2_with (refine lookIn_miss rfl (.tmp 16) (.tmp 18) rfl mb bl.length D rfl HOWN.out (.string x.nm) (.string x.nm.data.toList) rfl HKEY.out HHAS.out ?_)
        exact ⟨(((KeepsOthers.setCell _ _ _).from _).trans ((KeepsOthers.setCell _ _ _).from _)).trans ((KeepsOthers.alloc _ _).from _),
          (((Keep.setCell _ (by simp; omega) (by simp) _).trans (Keep.setCell _ (by simp; omega) (by simp) _))).alloc (by have := HM.out.bl.size; simp [World.setCell]; omega) _, by
            show FitMem w _ _ _ _
            rw [e1.out, e2.out, HSZ.out, HDP.out]
            exact ((HM.out.setS _).setD _).below ((Below.refl _ _).alloc (Nat.le_refl _) _)⟩
  case done =>
    rintro D ys W hD hys hM hK
    have hg := grown_is bl ht.1.bare 0
    have hd := dpsI_eq bl (ys.map Nd.view) (by rw [hys]; exact fun v hv => nodes_ge t 1 v hv)
    rw [hd, hys, hg.1, hg.2, Nat.zero_add] at hM
    have sc := hM.sb.cell
    have dc := hM.db.cell
    have HM := Lib.hid hM
    have HK := Lib.hid hK
    clear hM hys hg hd
    by_cases h1 : (apB bl t).size ≤ 4000
    · have h1i : ((apB bl t).size : Int) ≤ 4000 := by omega
      by_cases h2 : (apB bl t).depth ≤ 200
      · have h2i : ((apB bl t).depth : Int) ≤ 200 := by omega
        gi_wp2
        refine ⟨by simp, .inl ⟨_, _, rfl, run_takeDeferred HK.out, ?_⟩⟩
        refine ⟨.bool true, ?_, ⟨by rw [decide_eq_true ⟨h1, h2⟩], HM.out.bl.trans (belowK_b (w := w) (Nat.le_refl _) _ D _ _ (by simp at hD; omega) HK.out rfl rfl)⟩⟩
        simp [results, Tryz.f239, go_sem]
      · have h2i : ¬ ((apB bl t).depth : Int) ≤ 200 := by omega
        gi_wp2
        refine ⟨by simp, .inl ⟨_, _, rfl, run_takeDeferred HK.out, ?_⟩⟩
        refine ⟨.bool false, ?_, ⟨rfl, HM.out.bl.trans (belowK_b (w := w) (Nat.le_refl _) _ D _ _ (by simp at hD; omega) HK.out rfl rfl)⟩⟩
        simp [results, Tryz.f239, go_sem]
    · have h1i : ¬ ((apB bl t).size : Int) ≤ 4000 := by omega
      gi_wp2
      refine ⟨by simp, .inl ⟨_, _, rfl, run_takeDeferred HK.out, ?_⟩⟩
      refine ⟨.bool false, ?_, ⟨rfl, HM.out.bl.trans (belowK_b (w := w) (Nat.le_refl _) _ D _ _ (by simp at hD; omega) HK.out rfl rfl)⟩⟩
      simp [results, Tryz.f239, go_sem]
end Go.Proofs.YtamddagmlanijaaGreat
/- How many letters a term takes that is formed and small. -/
namespace Go.Proofs.YtamddagmlanijaaGreat
open Go.RowKit

theorem Tm.bulks_by_sizes (l : List Tm) (k : Nat) (h : ∀ u ∈ l, u.bulk ≤ k * u.size) : Tm.bulks l ≤ k * Tm.sizes l := by
  induction l with
  | nil => simp [Tm.bulks]
  | cons x l ih =>
    have h1 := h x (by simp)
    have h2 := ih fun u hu => h u (by simp [hu])
    simp only [Tm.bulks, Tm.sizes, Nat.mul_add]
    omega
theorem isName_le24 {s : ByteArray} {m : Bool} (h : isName s m = true) : s.size ≤ 24 := by
  unfold isName at h
  simp only [Bool.and_eq_true, decide_eq_true_eq] at h
  exact h.1.2
theorem Tm.formed.bulk25 {t : Tm} (h : t.formed) : t.bulk ≤ 25 * t.size := by
  induction t using Tm.ind with
  | h t ih =>
    obtain ⟨h1, h2⟩ := (Tm.formed_iff t).1 h
    have hn : t.nm.size ≤ 24 := by
      unfold nodeOk at h1
      split at h1
      · simp only [Bool.and_eq_true] at h1; exact isName_le24 h1.1
      · simp only [Bool.and_eq_true] at h1; exact isName_le24 h1.1
    have := Tm.bulks_by_sizes t.ts 25 fun u hu => ih u hu (h2 u hu)
    rw [Tm.bulk_eq, Tm.size_eq]
    omega

theorem Tm.ok.bulk {t : Tm} (h : t.ok) : t.bulk ≤ 100000 := by
  have h1 := h.1.bulk25
  have h2 := h.2.1
  omega
theorem SubOk.bulk {bl : List Bd} (h : SubOk bl) (hl : bl.length ≤ 1048576) : bdBulk bl ≤ 1048576 :=
  bdBulk_le hl fun p hp => by
    have h1 := (h.terms p hp).bulk
    have h2 := isName_le24 (h.names p hp)
    have h3 : (kb p.1).size = p.1.length := by show p.1.toArray.size = _; simp
    omega
end Go.Proofs.YtamddagmlanijaaGreat
/- Match as a function on terms. No program stands here. -/
namespace Go.Proofs.YtamddagmlanijaaGreat
open Go.RowKit

open Classical in
mutual
/-- the pattern matched against a term, m being bound already -/
noncomputable def mtc : Tm → List Bd → Tm → Option (List Bd)
  | .mk nm vr l, m, t =>
    if vr = true then
      if nm.data.toList ∈ m.map (·.1) then (if imageOf m nm.data.toList = t then some m else none)
      else some (m ++ [(nm.data.toList, t)])
    else if t.vr = false ∧ nm = t.nm ∧ l.length = t.ts.length then mtcs l m t.ts else none
noncomputable def mtcs : List Tm → List Bd → List Tm → Option (List Bd)
  | [], m, _ => some m
  | _ :: _, _, [] => none
  | p :: l, m, t :: r => match mtc p m t with
    | some m' => mtcs l m' r
    | none => none
end
theorem mtc_old {p : Tm} {m : List Bd} {t : Tm} (hv : p.vr = true) (h : p.nm.data.toList ∈ m.map (·.1)) (he : imageOf m p.nm.data.toList = t) : mtc p m t = some m := by
  cases p; simp only [Tm.vr, Tm.nm] at *; subst hv; rw [mtc, if_pos rfl, if_pos h, if_pos he]
theorem mtc_clash {p : Tm} {m : List Bd} {t : Tm} (hv : p.vr = true) (h : p.nm.data.toList ∈ m.map (·.1)) (he : imageOf m p.nm.data.toList ≠ t) : mtc p m t = none := by
  cases p; simp only [Tm.vr, Tm.nm] at *; subst hv; rw [mtc, if_pos rfl, if_pos h, if_neg he]
theorem mtc_new {p : Tm} {m : List Bd} {t : Tm} (hv : p.vr = true) (h : p.nm.data.toList ∉ m.map (·.1)) : mtc p m t = some (m ++ [(p.nm.data.toList, t)]) := by
  cases p; simp only [Tm.vr, Tm.nm] at *; subst hv; rw [mtc, if_pos rfl, if_neg h]
theorem mtc_fun {p : Tm} {m : List Bd} {t : Tm} (hv : p.vr = false) (h : t.vr = false ∧ p.nm = t.nm ∧ p.ts.length = t.ts.length) : mtc p m t = mtcs p.ts m t.ts := by
  cases p with
  | mk n v l =>
    have hv' : v = false := hv
    subst hv'
    rw [mtc, if_neg (by simp), if_pos (show t.vr = false ∧ n = t.nm ∧ l.length = t.ts.length from h)]; rfl
theorem mtc_not {p : Tm} {m : List Bd} {t : Tm} (hv : p.vr = false) (h : ¬ (t.vr = false ∧ p.nm = t.nm ∧ p.ts.length = t.ts.length)) : mtc p m t = none := by
  cases p with
  | mk n v l =>
    have hv' : v = false := hv
    subst hv'
    rw [mtc, if_neg (by simp), if_neg (show ¬ (t.vr = false ∧ n = t.nm ∧ l.length = t.ts.length) from h)]
/-- what is bound stays, and the names that are bound are those met -/
theorem mtc_keys (p : Tm) (hp : p.bare) : ∀ (m : List Bd) (t : Tm) (m' : List Bd), mtc p m t = some m' → m <+: m' ∧ m'.map (·.1) = firsts (m.map (·.1)) p := by
  induction p using Tm.ind with
  | h p ih =>
    intro m t m' h
    cases hv : p.vr
    · by_cases hc : t.vr = false ∧ p.nm = t.nm ∧ p.ts.length = t.ts.length
      · rw [mtc_fun hv hc] at h
        rw [firsts_fun _ hv]
        have key : ∀ (l r : List Tm) (m m' : List Bd), (∀ u ∈ l, u ∈ p.ts) → mtcs l m r = some m' → m <+: m' ∧ m'.map (·.1) = firstsL (m.map (·.1)) l := by
          intro l
          induction l with
          | nil => intro r m m' _ h; simp only [mtcs, Option.some.injEq] at h; subst h; exact ⟨List.prefix_refl _, rfl⟩
          | cons x l ihl =>
            intro r m m' hs h
            cases r with
            | nil => simp [mtcs] at h
            | cons y r =>
              simp only [mtcs] at h
              cases hx : mtc x m y with
              | none => rw [hx] at h; cases h
              | some m1 =>
                rw [hx] at h
                obtain ⟨h1, h2⟩ := ih x (hs x (by simp)) (hp.kids x (hs x (by simp))) m y m1 hx
                obtain ⟨h3, h4⟩ := ihl r m1 m' (fun u hu => hs u (by simp [hu])) h
                exact ⟨h1.trans h3, by rw [h4, h2, firstsL_cons]⟩
        exact key p.ts t.ts m m' (fun u hu => hu) h
      · rw [mtc_not hv hc] at h; cases h
    · rw [firsts_var _ hv]
      by_cases hk : p.nm.data.toList ∈ m.map (·.1)
      · by_cases he : imageOf m p.nm.data.toList = t
        · rw [mtc_old hv hk he] at h; cases h
          exact ⟨List.prefix_refl _, by rw [addKey, if_pos hk]⟩
        · rw [mtc_clash hv hk he] at h; cases h
      · rw [mtc_new hv hk] at h; cases h
        exact ⟨List.prefix_append _ _, by rw [addKey, if_neg hk, List.map_append]; rfl⟩
theorem imageOf_ext {m m' : List Bd} (h : m <+: m') (hn : (m'.map (·.1)).Nodup) {k : Key} (hk : k ∈ m.map (·.1)) : imageOf m' k = imageOf m k := by
  obtain ⟨e, rfl⟩ := h
  obtain ⟨p, hp, rfl⟩ := List.mem_map.1 hk
  have hn1 : (m.map (·.1)).Nodup := by rw [List.map_append] at hn; exact (List.nodup_append.1 hn).1
  rw [imageOf_in hn1 hp, imageOf_in hn (List.mem_append.2 (.inl hp))]
/-- what is bound makes the pattern the term -/
theorem mtc_sound (p : Tm) (hp : p.bare) : ∀ (m : List Bd) (t : Tm) (m' S : List Bd), mtc p m t = some m' → m' <+: S → (S.map (·.1)).Nodup → apB S p = t := by
  induction p using Tm.ind with
  | h p ih =>
    intro m t m' S h hS hn
    cases hv : p.vr
    · by_cases hc : t.vr = false ∧ p.nm = t.nm ∧ p.ts.length = t.ts.length
      · rw [mtc_fun hv hc] at h
        rw [apB_fun S hv]
        have key : ∀ (l r : List Tm) (m m' : List Bd), (∀ u ∈ l, u ∈ p.ts) → l.length = r.length → mtcs l m r = some m' → m' <+: S → l.map (apB S) = r := by
          intro l
          induction l with
          | nil => intro r m m' _ hl _ _; rw [List.length_eq_zero_iff.1 hl.symm]; rfl
          | cons x l ihl =>
            intro r m m' hs hl h hS
            cases r with
            | nil => simp [mtcs] at h
            | cons y r =>
              simp only [mtcs] at h
              cases hx : mtc x m y with
              | none => rw [hx] at h; cases h
              | some m1 =>
                rw [hx] at h
                have hpre : m1 <+: m' := by
                  have k2 : ∀ (l r : List Tm) (m m' : List Bd), (∀ u ∈ l, u.bare) → mtcs l m r = some m' → m <+: m' := by
                    intro l
                    induction l with
                    | nil => intro r m m' _ h; simp only [mtcs, Option.some.injEq] at h; subst h; exact List.prefix_refl _
                    | cons x l ihl =>
                      intro r m m' hs h
                      cases r with
                      | nil => simp [mtcs] at h
                      | cons y r =>
                        simp only [mtcs] at h
                        cases hx : mtc x m y with
                        | none => rw [hx] at h; cases h
                        | some m1 => rw [hx] at h; exact (mtc_keys x (hs x (by simp)) m y m1 hx).1.trans (ihl r m1 m' (fun u hu => hs u (by simp [hu])) h)
                  exact k2 l r m1 m' (fun u hu => hp.kids u (hs u (by simp [hu]))) h
                rw [List.map_cons, ih x (hs x (by simp)) (hp.kids x (hs x (by simp))) m y m1 S hx (hpre.trans hS) hn, ihl r m1 m' (fun u hu => hs u (by simp [hu])) (by simpa using hl) h hS]
        rw [key p.ts t.ts m m' (fun u hu => hu) hc.2.2 h hS]
        exact Tm.ext' (a := .mk p.nm false t.ts) (b := t) hc.2.1 hc.1.symm rfl
      · rw [mtc_not hv hc] at h; cases h
    · rw [apB_var S hv]
      by_cases hk : p.nm.data.toList ∈ m.map (·.1)
      · by_cases he : imageOf m p.nm.data.toList = t
        · rw [mtc_old hv hk he] at h; cases h
          rw [imageOf_ext hS hn hk, he]
        · rw [mtc_clash hv hk he] at h; cases h
      · rw [mtc_new hv hk] at h; cases h
        exact imageOf_in hn (p := (p.nm.data.toList, t)) (hS.subset (by simp))
/-- what is bound is part of the term -/
theorem mtc_vals (Q : Tm → Prop) (hQ : ∀ t, Q t → ∀ u ∈ t.ts, Q u) (p : Tm) : ∀ (m : List Bd) (t : Tm) (m' : List Bd), mtc p m t = some m' → Q t → (∀ q ∈ m, Q q.2) → ∀ q ∈ m', Q q.2 := by
  induction p using Tm.ind with
  | h p ih =>
    intro m t m' h ht hm
    cases hv : p.vr
    · by_cases hc : t.vr = false ∧ p.nm = t.nm ∧ p.ts.length = t.ts.length
      · rw [mtc_fun hv hc] at h
        have key : ∀ (l r : List Tm) (m m' : List Bd), (∀ u ∈ l, u ∈ p.ts) → (∀ u ∈ r, Q u) → mtcs l m r = some m' → (∀ q ∈ m, Q q.2) → ∀ q ∈ m', Q q.2 := by
          intro l
          induction l with
          | nil => intro r m m' _ _ h hm; simp only [mtcs, Option.some.injEq] at h; subst h; exact hm
          | cons x l ihl =>
            intro r m m' hs hr h hm
            cases r with
            | nil => simp [mtcs] at h
            | cons y r =>
              simp only [mtcs] at h
              cases hx : mtc x m y with
              | none => rw [hx] at h; cases h
              | some m1 =>
                rw [hx] at h
                exact ihl r m1 m' (fun u hu => hs u (by simp [hu])) (fun u hu => hr u (by simp [hu])) h (ih x (hs x (by simp)) m y m1 hx (hr y (by simp)) hm)
        exact key p.ts t.ts m m' (fun u hu => hu) (hQ t ht) h hm
      · rw [mtc_not hv hc] at h; cases h
    · by_cases hk : p.nm.data.toList ∈ m.map (·.1)
      · by_cases he : imageOf m p.nm.data.toList = t
        · rw [mtc_old hv hk he] at h; cases h; exact hm
        · rw [mtc_clash hv hk he] at h; cases h
      · rw [mtc_new hv hk] at h; cases h
        intro q hq
        rcases List.mem_append.1 hq with hq | hq
        · exact hm q hq
        · obtain rfl := List.mem_singleton.1 hq; exact ht
end Go.Proofs.YtamddagmlanijaaGreat
