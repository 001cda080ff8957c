/- The sort by names that ends Compose. Compose: plain facts and what lies in memory between its rounds. -/
import Derived.WalkKit
import Derived.ProofKit
import Derived.OpenShut
import Derived.Handy
import Derived.Lib.Hide
import Derived.Shelf.SlSortCmp.NoneTotal
import Derived.Shelf.SlicesQ.Reverse
import Derived.Shelf.SlSortFuncK.ComposeK
import Derived.Test.YtdeaehkdhghfkaaDoorShelfS
import Derived.Test.YtdeaehkdhghfkaaDoorApf
namespace Go.Proofs.YtdeaehkdhghfkaaDoor
open Go.RowKit Go.Sort

/-- a binding as it lies: its name, its term, the slice of the term's arguments -/
abbrev Elem := Bd × (Option Addr × Nat × Nat)
instance : Inhabited Elem := ⟨(([], .mk ⟨#[]⟩ true []), (none, 0, 0))⟩
def Elem.sl (x : Elem) : Value := .slice x.2.1 x.2.2.1 x.2.2.2
def encE (x : Elem) : List Value := [.string (kb x.1.1), .string x.1.2.nm, .bool x.1.2.vr, .slice x.2.1 x.2.2.1 x.2.2.2]
def ecells (l : List Elem) : List Value := l.flatMap encE
theorem ecells_append (a b : List Elem) : ecells (a ++ b) = ecells a ++ ecells b := by simp [ecells]
theorem ecells_length (a : List Elem) : (ecells a).length = a.length * 4 := by
  induction a with
  | nil => rfl
  | cons p a ih => simp [ecells, encE] at ih ⊢; omega
theorem ecells_at (l : List Elem) (i c : Nat) (x : Elem) (h : l[i]? = some x) (hc : c < 4) : (ecells l)[i * 4 + c]? = (encE x)[c]? := by
  induction l generalizing i with
  | nil => simp at h
  | cons q l ih =>
    cases i with
    | zero =>
      simp at h; subst h
      rw [show ecells (q :: l) = encE q ++ ecells l from rfl, Nat.zero_mul, Nat.zero_add, List.getElem?_append_left (by show c < 4; exact hc)]
    | succ i =>
      rw [show ecells (q :: l) = encE q ++ ecells l from rfl, List.getElem?_append_right (by show 4 ≤ _; omega), show (i + 1) * 4 + c - (encE q).length = i * 4 + c by show (i + 1) * 4 + c - 4 = _; omega]
      exact ih i (by simpa using h)
def cfE (x y : Elem) : Int := Lib.compareBytes x.1.1 y.1.1
theorem compare_neg (a b : Key) : Lib.compareBytes a b < 0 ↔ a < b := by
  induction a generalizing b with
  | nil => cases b <;> simp [Lib.compareBytes]
  | cons x a ih =>
    cases b with
    | nil => simp [Lib.compareBytes]
    | cons y b =>
      simp only [Lib.compareBytes]
      rw [List.cons_lt_cons_iff]
      by_cases h1 : x < y
      · simp [h1]
      · by_cases h2 : y < x
        · have hne : x ≠ y := fun e => by subst e; exact h1 h2
          simp [h1, h2, hne]
        · have he : x = y := UInt8.toNat_inj.1 (by rw [UInt8.lt_iff_toNat_lt] at h1 h2; omega)
          subst he
          simp [h1, ih]
theorem ltE (x y : Elem) : ltOf cfE x y = decide (x.1.1 < y.1.1) := by
  unfold ltOf cfE
  exact decide_eq_decide.2 (compare_neg _ _)
theorem swoE : SWO (ltOf cfE) where
  irrefl x := by rw [ltE]; exact decide_eq_false (List.lt_irrefl _)
  trans x y z h1 h2 := by
    rw [ltE] at *
    exact decide_eq_true (List.lt_trans (of_decide_eq_true h1) (of_decide_eq_true h2))
  ntrans x y z h1 h2 := by
    rw [ltE] at *
    have h1 := of_decide_eq_false h1
    have h2 := of_decide_eq_false h2
    rw [List.not_lt] at h1 h2
    exact decide_eq_false (by rw [List.not_lt]; exact List.le_trans h2 h1)

theorem lays_alloc2 (W : World) (o1 o2 : Obj) : ∃ q os', (W.alloc o1).alloc o2 = grow (W.drewN q) os' := ⟨0, #[o1, o2], by rw [alloc_eq_grow, alloc_eq_grow, grow_grow]; rfl⟩
set_option maxHeartbeats 1000000 in
theorem compose1_any (x y : Elem) (W : World) : Calls Tryd.prog 90 #[.agg (encE x).toArray, .agg (encE y).toArray] W fun e w' => e = .returned (.int .i64 (cfE x y)) ∧ ∃ q os', w' = grow (W.drewN q) os' := by
  obtain ⟨⟨k, u⟩, o1, n1, c1⟩ := x
  obtain ⟨⟨l, v⟩, o2, n2, c2⟩ := y
  show Calls Tryd.prog 90 #[.agg #[.string (kb k), .string u.nm, .bool u.vr, .slice o1 n1 c1], .agg #[.string (kb l), .string v.nm, .bool v.vr, .slice o2 n2 c2]] W _
  go_enter Tryd.func90, Tryd.ntmps90
  go_wp2_with (go_at_call 61; refine (Tryd.strings_Compare (kb k) (kb l) _).mono ?_; rintro e w' ⟨rfl, rfl⟩)
  go_ret
  exact ⟨rfl, lays_alloc2 _ _ _⟩

theorem holds_of_row {W : World} {base g cap : Nat} {e : TypeId} {xs : List Elem} (h : W.ownsRow base e 4 (.slice (some ⟨g, 0, none⟩) xs.length cap) xs.length (ecells xs)) : HoldsK encE 4 W g 0 xs.toArray := by
  intro j hj
  have hj' : j < xs.length * 4 := by simpa using hj
  have hlt : j / 4 < xs.length := by omega
  have h4 : j % 4 < 4 := Nat.mod_lt _ (by omega)
  have hat := ecells_at xs (j / 4) (j % 4) _ (List.getElem?_eq_getElem hlt) h4
  rw [show j / 4 * 4 + j % 4 = j by omega] at hat
  have hx : (encE xs[j / 4])[j % 4]? = some (id (flatK encE 4 xs.toArray)[j]!) := by
    rw [id, get_flatK _ _ _ _ (by simpa using hj')]
    have e1 : xs.toArray[j / 4]! = xs[j / 4] := by simp [hlt]
    rw [e1, getElem!_pos (encE xs[j / 4]) (j % 4) h4]
    exact List.getElem?_eq_getElem h4
  refine ⟨?_, ?_⟩
  · have := h.cells (g := g) rfl j _ (hat.trans hx)
    rwa [ad_add] at this
  · rcases h.2 with ⟨h0, _⟩ | ⟨g', cap', cur, hv, _, hg, _⟩
    · cases h0
    · simp only [Value.slice.injEq, Option.some.injEq, Addr.mk.injEq] at hv
      obtain ⟨⟨rfl, -⟩, -⟩ := hv
      unfold World.frozen?; simp [hg]
theorem sorted_frame (W : World) (g n : Nat) (d : Array Elem) (os : Array Obj) : W.grownBy (sortWorldK encE 4 W g 0 n d os) (some g) := by
  unfold sortWorldK putRowK putRow
  refine ⟨rfl, rfl, rfl, ?_, fun k hk hne => ?_⟩
  · show W.heap.size ≤ ((W.heap.modify g _) ++ os).size
    simp
  · show ((W.heap.modify g _) ++ os)[k]? = W.heap[k]?
    rw [Array.getElem?_append_left (by simpa using hk), Array.getElem?_modify, if_neg (fun e => hne (by rw [e]))]

set_option maxHeartbeats 1000000 in
theorem sortB_any (xs : List Elem) (base g cap : Nat) (e : TypeId) (w : World) (h : w.ownsRow base e 4 (.slice (some ⟨g, 0, none⟩) xs.length cap) xs.length (ecells xs)) (hl : xs.length ≤ 2097152) :
    Calls Tryd.prog 89 #[.slice (some ⟨g, 0, none⟩) xs.length cap, .func (.func 90) #[] #[]] w fun e' w' => e' = .returned (.tuple #[]) ∧
      ∃ ys : List Elem, ys.Perm xs ∧ (∀ (i j : Nat) (x y : Elem), i < j → ys[i]? = some x → ys[j]? = some y → ¬ y.1.1 < x.1.1) ∧ HoldsK encE 4 w' g 0 ys.toArray ∧ w.grownBy w' (some g) := by
  have hH := holds_of_row h
  have hg : g < w.heap.size := (h.lt g rfl).2
  have hcon := AnyQ.slices_SortFunc Tryd.laysSort 4 Tryd.isAgg48 Tryd.sizeOf48 encE (fun _ => rfl) (fun x v hv => by simp [encE] at hv; rcases hv with rfl | rfl | rfl | rfl <;> rfl) cfE swoE 90 #[] g 0 cap xs.toArray w
    (enters_of Tryd.func90 (by kernel_rfl) rfl) (fun m os dk _ x y => compose1_any x y _) hH hg (by simp; omega)
  rw [show xs.toArray.size = xs.length by simp] at hcon
  refine Calls.mono hcon ?_
  rintro e' w' ⟨rfl, d', n, os, hp, hs, rfl⟩
  refine ⟨rfl, d'.toList, ?_, ?_, ?_, sorted_frame w g n d' os⟩
  · have h1 := hp.2.2
    have h2 := hp.1
    rw [show xs.length = xs.toArray.size by simp] at h1
    rw [Array.extract_size] at h1
    rw [show xs.toArray.size = d'.size from h2.symm, Array.extract_size] at h1
    simpa using h1
  · intro i j x y hij hx hy
    have hj := (List.getElem?_eq_some_iff.1 hy).1
    have hsz : d'.size = xs.length := by have := hp.1; simpa using this
    have hj' : j < d'.size := by simpa using hj
    have h1 := hs i j (Nat.zero_le _) hij (by omega)
    rw [ltE] at h1
    have h2 := of_decide_eq_false h1
    rw [getElem!_pos d' j hj', getElem!_pos d' i (by omega)] at h2
    rw [Array.getElem?_toList, Array.getElem?_eq_getElem (by omega)] at hx hy
    cases hx; cases hy
    exact h2
  · have := holdsK_sortWorldK encE 4 w g 0 n xs.toArray d' os hg hH (by have := hp.1; simpa using this)
    simpa using this
end Go.Proofs.YtdeaehkdhghfkaaDoor
namespace Go.Proofs.YtdeaehkdhghfkaaDoor
open Go.RowKit Go.Sort

/-- the bindings of the composition, in the order in which they are made -/
def comB (s u : List Bd) : List Bd := s.map (fun p => (p.1, apB u p.2)) ++ u.filter (fun p => decide (p.1 ∉ s.map (·.1)))

/-- the elements that have been made -/
structure CmpSt (w W : World) (v : Value) (es : List Elem) : Prop where
  row : W.ownsRow w.heap.size 48 4 v es.length (ecells es)
  kids : ∀ x ∈ es, SlP (fun b => w.heap.size ≤ b ∧ b < W.heap.size ∧ some b ≠ v.ownBlock) W x.1.2.ts (Elem.sl x)
  low : Below w.heap.size w W
theorem CmpSt.below {w W A : World} {v : Value} {es : List Elem} (h : CmpSt w W v es) (hb : Below W.heap.size W A) : CmpSt w A v es :=
  ⟨h.row.kept (below_grown hb) (own_none _), fun x hx => (h.kids x hx).carry fun b hb' => ⟨hb.block b hb'.2.1, hb'.1, Nat.lt_of_lt_of_le hb'.2.1 hb.size, hb'.2.2⟩, h.low.trans (hb.mono h.low.size)⟩
/-- one more -/
theorem CmpSt.step {w W B W5 : World} {v v5 : Value} {es : List Elem} {x : Elem} (h : CmpSt w W v es) (hB : Below W.heap.size W B) (hx : SlP (fun b => W.heap.size ≤ b ∧ b < B.heap.size) B x.1.2.ts (Elem.sl x)) (h5 : B.grownBy W5 v.ownBlock)
    (ho : W5.ownsRow w.heap.size 48 4 v5 (es.length + 1) (ecells es ++ encE x)) (hat : v5.ownBlock = v.ownBlock ∨ v5.ownBlock = some B.heap.size) : CmpSt w W5 v5 (es ++ [x]) := by
  have z0 := h.low.size
  have zB := hB.size
  have z5 := h5.size
  have own : ∀ j, v.ownBlock = some j → w.heap.size ≤ j ∧ j < W.heap.size := fun j hj => h.row.lt j hj
  refine ⟨?_, ?_, ?_⟩
  · rw [List.length_append, ecells_append, show ecells [x] = encE x by simp [ecells]]; exact ho
  · intro y hy
    rcases List.mem_append.1 hy with hy | hy
    · refine (h.kids y hy).carry fun b hb => ⟨(h5.block b (by omega) hb.2.2).trans (hB.block b hb.2.1), hb.1, by omega, ?_⟩
      rcases hat with e | e
      · rw [e]; exact hb.2.2
      · rw [e]; intro hh; cases hh; omega
    · obtain rfl := List.mem_singleton.1 hy
      refine hx.carry fun b hb => ⟨h5.block b hb.2 (fun e => by have := own _ e.symm; omega), by omega, by omega, ?_⟩
      rcases hat with e | e
      · rw [e]; intro hh; have := own _ hh.symm; omega
      · rw [e]; intro hh; cases hh; omega
  · exact (h.low.trans (hB.mono z0)).grown h5 (by omega) (fun j hj => (own j hj).1)
theorem CmpSt.start (w : World) : CmpSt w w (.slice none 0 0) [] := ⟨World.ownsRow_nil _ _ _ _, by simp, Below.refl _ _⟩

theorem apB_formed {bl : List Bd} (h : ∀ p ∈ bl, p.2.formed) {t : Tm} (ht : t.formed) : (apB bl t).formed := by
  induction t using Tm.ind with
  | h t ih =>
    obtain ⟨h1, h2⟩ := (Tm.formed_iff t).1 ht
    cases hv : t.vr
    · rw [apB_fun bl hv, Tm.formed_iff]
      rw [hv] at h1
      refine ⟨by simpa [Tm.nm, Tm.vr, Tm.ts] using h1, fun u hu => ?_⟩
      obtain ⟨x, hx, rfl⟩ := List.mem_map.1 hu
      exact ih x hx (h2 x hx)
    · rw [apB_var bl hv]
      unfold imageOf
      cases hf : bl.find? (fun p => decide (p.1 = t.nm.data.toList)) with
      | some p => exact h p (List.mem_of_find?_eq_some hf)
      | none =>
        rw [Tm.formed_iff]
        rw [hv] at h1
        refine ⟨?_, fun u hu => by cases hu⟩
        simp only [Tm.nm, Tm.vr, Tm.ts, kb_key]
        simp only [nodeOk, if_true, Bool.and_eq_true] at h1 ⊢
        exact ⟨h1.1, rfl⟩
/-- sorted and with names of their own: a substitution -/
theorem comB_ok {s u ys : List Bd} (hs : SubOk s) (hu : SubOk u) (hf : ∀ p ∈ s, (apB u p.2).small) (hp : ys.Perm (comB s u)) (ho : ∀ (i j : Nat) (x y : Bd), i < j → ys[i]? = some x → ys[j]? = some y → ¬ y.1 < x.1) : SubOk ys := by
  have hmem : ∀ x ∈ ys, isName (kb x.1) false = true ∧ x.2.ok := by
    intro x hx
    have hx := hp.mem_iff.1 hx
    rcases List.mem_append.1 hx with hx | hx
    · obtain ⟨p, hpm, rfl⟩ := List.mem_map.1 hx
      exact ⟨hs.names p hpm, apB_formed (fun q hq => (hu.terms q hq).1) (hs.terms p hpm).1, (hf p hpm).1, (hf p hpm).2⟩
    · have hx := (List.mem_filter.1 hx).1
      exact ⟨hu.names x hx, hu.terms x hx⟩
  have hnd : (ys.map (·.1)).Nodup := by
    have h1 : ((comB s u).map (·.1)).Nodup := by
      unfold comB
      rw [List.map_append, List.nodup_append]
      refine ⟨?_, ?_, ?_⟩
      · rw [List.map_map]; exact hs.nodup
      · exact (List.filter_sublist.map _).nodup hu.nodup
      · intro a ha b hb e
        subst e
        obtain ⟨p, hpm, rfl⟩ := List.mem_map.1 hb
        have := (List.mem_filter.1 hpm).2
        simp only [decide_eq_true_eq] at this
        rw [List.map_map] at ha
        exact this ha
    exact (hp.map _).nodup_iff.2 h1
  refine ⟨fun x hx => (hmem x hx).1, fun i p q hi hj => ?_, fun x hx => (hmem x hx).2⟩
  have h1 := ho i (i + 1) p q (by omega) hi hj
  rw [List.not_lt] at h1
  by_cases hlt : p.1 < q.1
  · exact hlt
  · exfalso
    have h : p.1 = q.1 := List.le_antisymm h1 (List.not_lt.1 hlt)
    have hi' : (ys.map (·.1))[i]? = some p.1 := by rw [List.getElem?_map, hi]; rfl
    have hj' : (ys.map (·.1))[i + 1]? = some q.1 := by rw [List.getElem?_map, hj]; rfl
    have e1 := idx_nodup hnd hi'
    have e2 := idx_nodup hnd hj'
    rw [h, e2] at e1
    omega
/-- the elements as bindings -/
theorem BindsIs.ofHolds {W : World} {g cap n : Nat} {ys : List Elem} (h : HoldsK encE 4 W g 0 ys.toArray) (hc : ys.length ≤ cap) (hg : g < n) (hk : ∀ x ∈ ys, SlIs n W x.1.2.ts (Elem.sl x)) : BindsIs n W (ys.map (·.1)) (.slice (some ⟨g, 0, none⟩) ys.length cap) := by
  refine ⟨_, cap, by rw [List.length_map], by rw [List.length_map]; exact hc, fun _ => ⟨g, 0, rfl, hg, fun i p hp => ?_⟩⟩
  rw [List.getElem?_map, Option.map_eq_some_iff] at hp
  obtain ⟨x, hx, rfl⟩ := hp
  have hi := (List.getElem?_eq_some_iff.1 hx).1
  have e1 : ys.toArray[i]! = x := by have := (List.getElem?_eq_some_iff.1 hx).2; simp [hi, this]
  have key : ∀ c v, (encE x)[c]? = some v → W.cell? ⟨g, 0 + i * 4 + c, none⟩ = some v := fun c v hv => by
    have := HoldsK.cells (enc := encE) (k := 4) h (fun _ => rfl) (i := i) (by simpa using hi) c v (by rw [e1]; exact hv)
    rwa [ad_add] at this
  exact ⟨Elem.sl x, key 0 _ rfl, key 1 _ rfl, key 2 _ rfl, key 3 _ rfl, hk x (List.mem_of_getElem? hx)⟩
/-- the sort of what has been made, the empty row too -/
theorem sortC_any (es : List Elem) (base : Nat) (or : Option Addr) (cr : Nat) (e : TypeId) (w : World) (h : w.ownsRow base e 4 (.slice or es.length cr) es.length (ecells es)) (hl : es.length ≤ 2097152)
    (hk : ∀ x ∈ es, SlP (fun b => b < w.heap.size ∧ some b ≠ (Value.slice or es.length cr).ownBlock) w x.1.2.ts (Elem.sl x)) :
    Calls Tryd.prog 89 #[.slice or es.length cr, .func (.func 90) #[] #[]] w fun e' w' => e' = .returned (.tuple #[]) ∧ w.grownBy w' (Value.slice or es.length cr).ownBlock ∧
      ∃ ys : List Bd, ys.Perm (es.map (·.1)) ∧ (∀ (i j : Nat) (x y : Bd), i < j → ys[i]? = some x → ys[j]? = some y → ¬ y.1 < x.1) ∧ BindsIs w'.heap.size w' ys (.slice or es.length cr) := by
  by_cases hne : es = []
  · subst hne
    refine Calls.mono (AnyF.slices_SortFunc_none Tryd.laysSort or cr (.func (.func 90) #[] #[]) w) ?_
    rintro e' w' ⟨rfl, rfl⟩
    exact ⟨rfl, ⟨rfl, rfl, rfl, Nat.le_refl _, fun _ _ _ => rfl⟩, [], .nil, fun i j x y _ hx => by simp at hx, ⟨or, cr, rfl, Nat.zero_le _, fun h => absurd rfl h⟩⟩
  · have hpos : 0 < es.length := List.length_pos_iff.2 hne
    obtain ⟨g, cur, rfl, hle, hg⟩ : ∃ g cur, or = some ⟨g, 0, none⟩ ∧ es.length ≤ cr ∧ w.heap[g]? = some cur := by
      rcases h.2 with ⟨_, h0⟩ | ⟨g, cap, cur, hv, _, hg, h3, _⟩
      · omega
      · simp only [Value.slice.injEq] at hv
        obtain ⟨rfl, -, rfl⟩ := hv
        exact ⟨g, _, rfl, h3, hg⟩
    refine Calls.mono (sortB_any es base g cr e w h hl) ?_
    rintro e' w' ⟨rfl, ys, hp, hs, hH, hgr⟩
    have hgw : g < w.heap.size := (h.lt g rfl).2
    have hlen := hp.length_eq
    refine ⟨rfl, hgr, ys.map (·.1), hp.map _, fun i j x y hij hx hy => ?_, ?_⟩
    · rw [List.getElem?_map, Option.map_eq_some_iff] at hx hy
      obtain ⟨x', hx, rfl⟩ := hx
      obtain ⟨y', hy, rfl⟩ := hy
      exact hs i j x' y' hij hx hy
    · have := BindsIs.ofHolds (W := w') (g := g) (cap := cr) (n := w'.heap.size) (ys := ys) hH (by omega) (Nat.lt_of_lt_of_le hgw hgr.size) fun x hx => by
        refine SlP.toIs (p := fun b => b < w'.heap.size) ?_ fun b hb => hb
        exact (hk x (hp.mem_iff.1 hx)).carry fun b hb => ⟨hgr.block b hb.1 hb.2, Nat.lt_of_lt_of_le hb.1 hgr.size⟩
      rwa [hlen] at this
end Go.Proofs.YtdeaehkdhghfkaaDoor
