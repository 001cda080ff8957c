/- Packed: Ym, Rdx. -/
import Derived.Test.YtamddagmlanijaaGreatP20
import Derived.Test.YtamddagmlanijaaGreatP21
import Derived.Test.YtamddagmlanijaaGreatP22
import Derived.Test.YtamddagmlanijaaGreatP16
/- Redexes as they are handed from iterator to iterator; what an iterator over an iterator keeps for itself. -/
namespace Go.Proofs.YtamddagmlanijaaGreat
open Go.RowKit Go.Shelf

/-- a position, and the rules that apply there -/
abbrev Rdx := List Int × List Nat
abbrev nats (l : List Nat) : List Value := l.map fun (i : Nat) => .int .i64 (i : Int)
/-- how a redex is handed over: its memory lies in R, where nobody writes any more -/
structure RdIs (n₀ : Nat) (x : Rdx) (pv rv : Value) (R : Bs) (W : World) : Prop where
  pos : W.ownsRow n₀ 3 1 pv x.1.length (ints x.1)
  rules : W.ownsRow n₀ 3 1 rv x.2.length (nats x.2)
  inr : ∀ k, pv.ownBlock = some k ∨ rv.ownBlock = some k → R k
  ne : x.2 ≠ []
  plen : x.1.length ≤ 1048576
  rlen : x.2.length ≤ 1048576
def ElR (n₀ : Nat) (x : Rdx) (vs : Array Value) (R : Bs) (W : World) : Prop := ∃ pv rv, vs = #[.agg #[pv, rv]] ∧ RdIs n₀ x pv rv R W
theorem row_cells {W : World} {m n s : Nat} {e : TypeId} {v : Value} {xs : List Value} (h : W.ownsRow m e s v n xs) {k : Nat} (hk : v.ownBlock = some k) : ∃ o, W.heap[k]? = some o ∧ o.isCells = true := by
  rcases h.2 with ⟨rfl, _⟩ | ⟨g, cap, cur, rfl, _, hg, _⟩
  · cases hk
  · cases hk; exact ⟨_, hg, rfl⟩
/-- where the blocks of R stay, a redex stays -/
theorem RdIs.on {n₀ : Nat} {x : Rdx} {pv rv : Value} {R R' : Bs} {A B : World} (h : RdIs n₀ x pv rv R A) (hr : ∀ k, R k → R' k) (hk : ∀ k, R k → B.heap[k]? = A.heap[k]?) : RdIs n₀ x pv rv R' B :=
  ⟨row_kept h.pos fun k e => hk k (h.inr k (.inl e)), row_kept h.rules fun k e => hk k (h.inr k (.inr e)), fun k e => hr k (h.inr k e), h.ne, h.plen, h.rlen⟩

/-- what an iterator over an iterator keeps for itself: its own blocks Y, those of the other, X, among them; S, where nobody writes, R among it; the box of yield -/
structure YMem (n₀ yb lp : Nat) (W : World) (X R Y S : Bs) : Prop where
  xy : ∀ k, X k → Y k
  rs : ∀ k, R k → S k
  yB : XB n₀ (un Y S) W
  dis : ∀ k, Y k → ¬ S k
  y1 : Y yb
  nx : ¬ X yb
  ybx : W.heap[yb]? = some (.cells #[.func (.yield lp) #[] #[]] 306 (0, 0))
  nz : n₀ ≤ W.heap.size
section
variable {n₀ yb lp : Nat} {A B : World} {X R X' R' Y S : Bs}
def stepY (Y R' : Bs) (A B : World) : Bs := fun k => (Y k ∨ (A.heap.size ≤ k ∧ k < B.heap.size)) ∧ ¬ R' k
/-- a block of one's own that is not the other's stays -/
theorem YMem.own (h : YMem n₀ yb lp A X R Y S) (hf : Fx n₀ X X' A B) (hg : Rg X R X' R' A B) {k : Nat} (hk : Y k) (hx : ¬ X k) : stepY Y R' A B k ∧ ¬ X' k ∧ B.heap[k]? = A.heap[k]? := by
  have hz := (h.yB k (.inl hk)).2
  refine ⟨⟨.inl hk, fun hr => ?_⟩, fun hx' => ?_, hf.block k hz (.inr hx)⟩
  · rcases hg.own k hr with h1 | h1 | h1
    · exact h.dis k hk (h.rs k h1)
    · exact hx h1
    · omega
  · rcases hf.own k hx' with h1 | h1
    · exact hx h1
    · omega
theorem YMem.step (h : YMem n₀ yb lp A X R Y S) (hf : Fx n₀ X X' A B) (hg : Rg X R X' R' A B) :
    Fx n₀ Y (stepY Y R' A B) A B ∧ Rg Y S (stepY Y R' A B) (un S R') A B ∧ YMem n₀ yb lp B X' R' (stepY Y R' A B) (un S R') := by
  have f : Fx n₀ Y (stepY Y R' A B) A B := (hf.wider h.xy).less fun k hk => hk.1
  have g : Rg Y S (stepY Y R' A B) (un S R') A B := by
    refine ⟨fun _ hk => .inl hk, fun k hk => ?_, fun k hk hs => ?_⟩
    · rcases hk with hk | hk
      · exact .inl hk
      · rcases hg.own k hk with h1 | h1 | h1
        · exact .inl (h.rs k h1)
        · exact .inr (.inl (h.xy k h1))
        · exact .inr (.inr h1)
    · rcases hs with hs | hs
      · rcases hk.1 with h1 | h1
        · exact h.dis k h1 hs
        · have := (h.yB k (.inr hs)).2; omega
      · exact hk.2 hs
  obtain ⟨o1, o2, o3⟩ := h.own hf hg h.y1 h.nx
  refine ⟨f, g, ⟨fun k hk => ⟨(hf.own k hk).imp (h.xy k) id, hg.dis k hk⟩, fun _ hk => .inr hk, g.xb f h.nz h.yB, g.dis, o1, o2, o3.trans h.ybx, by have := h.nz; have := hf.size; omega⟩⟩
/-- behind a round of the consumer -/
theorem YMem.kx (h : YMem n₀ yb lp A X R Y S) (hk : Kx n₀ (un Y S) A B) : YMem n₀ yb lp B X R Y S :=
  ⟨h.xy, h.rs, hk.xb h.yB, h.dis, h.y1, h.nx, hk.heap h.ybx (.inl h.y1), by have := h.nz; have := hk.below.size; omega⟩
theorem YMem.unl (h : YMem n₀ yb lp A X R Y S) : ∀ k, un X R k → un Y S k := fun k hk => hk.imp (h.xy k) (h.rs k)
/-- own steps that only make new blocks, with S growing by some of them -/
theorem YMem.grow (h : YMem n₀ yb lp A X R Y S) (hb : Below A.heap.size A B) {T : Bs} (hT : ∀ k, T k → A.heap.size ≤ k ∧ k < B.heap.size) :
    Fx n₀ Y Y A B ∧ Rg Y S Y (un S T) A B ∧ YMem n₀ yb lp B X R Y (un S T) := by
  have f : Fx n₀ Y Y A B := Fx.of_below Y hb
  have g : Rg Y S Y (un S T) A B := ⟨fun _ hk => .inl hk, fun k hk => hk.elim .inl fun e => .inr (.inr (hT k e)), fun k hk hs => hs.elim (h.dis k hk) fun e => by have := hT k e; have := (h.yB k (.inl hk)).2; omega⟩
  exact ⟨f, g, ⟨h.xy, fun k hk => .inl (h.rs k hk), g.xb f h.nz h.yB, g.dis, h.y1, h.nx, (hb.block yb (h.yB yb (.inl h.y1)).2).trans h.ybx, by have := h.nz; have := hb.size; omega⟩⟩
/-- the block of the deferred calls is shut -/
theorem YMem.last {β : Type} {J : Bs → Bs → β → World → Prop} {s : β} {D : Nat} (h : YMem n₀ yb lp A X R Y S) (hJ : Cls n₀ J) (hj : J Y S s A) (hD : Y D) : XB n₀ (un Y S) (A.putObj D (.deferred none)) ∧ J Y S s (A.putObj D (.deferred none)) ∧ True :=
  ⟨fun k hk => by have := h.yB k hk; simp; exact this, hJ.put hj h.dis h.yB hD _, trivial⟩
theorem Rg.own_new {X R : Bs} {A B : World} (hd : ∀ k, X k → ¬ R k) : Rg X R X R A B := ⟨fun _ h => h, fun _ h => .inl h, hd⟩
end
end Go.Proofs.YtamddagmlanijaaGreat
/- redexes(t): an iterator over the redexes of t, in preorder; each is handed over in new memory. -/
namespace Go.Proofs.YtamddagmlanijaaGreat
open Go.RowKit Go.Shelf
attribute [local go_sem] Oper.semAt_some

noncomputable def rulesUpto (l : List RlV) (u : Tm) (k : Nat) : List Nat := (List.range k).filter fun i => match l[i]? with | some p => appl p.1.1 u | none => false
noncomputable def rulesAt (l : List RlV) (u : Tm) : List Nat := rulesUpto l u l.length
theorem rulesUpto_succ {l : List RlV} {u : Tm} {k : Nat} {p : RlV} (h : l[k]? = some p) : rulesUpto l u (k + 1) = rulesUpto l u k ++ (if appl p.1.1 u then [k] else []) := by
  unfold rulesUpto
  rw [List.range_succ, List.filter_append]
  congr 1
  simp only [List.filter_cons, List.filter_nil, h]
theorem rulesUpto_length (l : List RlV) (u : Tm) (k : Nat) : (rulesUpto l u k).length ≤ k := by
  unfold rulesUpto
  have := List.length_filter_le (fun i => match l[i]? with | some p => appl p.1.1 u | none => false) (List.range k)
  simpa using this
noncomputable def selR (l : List RlV) (x : Pl) : Option Rdx := if rulesAt l x.2 = [] then none else some (x.1, rulesAt l x.2)
theorem selR_some {l : List RlV} {p : List Int} {u : Tm} (h : rulesUpto l u l.length ≠ []) : selR l (p, u) = some (p, rulesUpto l u l.length) := if_neg h
theorem selR_none {l : List RlV} {p : List Int} {u : Tm} (h : rulesUpto l u l.length = []) : selR l (p, u) = none := if_pos h
noncomputable def selsR (l : List RlV) (xs : List Pl) : List Rdx := xs.filterMap (selR l)
noncomputable def rdx (l : List RlV) (t : Tm) : List Rdx := selsR l (t.places [])
theorem selsR_prefix {l : List RlV} {a b : List Pl} (h : a <+: b) : selsR l a <+: selsR l b := by
  obtain ⟨r, rfl⟩ := h
  exact ⟨selsR l r, by simp [selsR]⟩
theorem selsR_snoc (l : List RlV) (a : List Pl) (x : Pl) : selsR l (a ++ [x]) = selsR l a ++ (selR l x).toList := by
  unfold selsR
  rw [List.filterMap_append]
  cases h : selR l x <;> simp [h]

theorem Tm.placesL_mem {p : List Int} {ts : List Tm} {i : Nat} {x : Pl} (h : x ∈ Tm.placesL p i ts) : ∃ (k : Nat) (u : Tm), ts[k]? = some u ∧ x ∈ u.places (p ++ [((i + k : Nat) : Int)]) := by
  induction ts generalizing i with
  | nil => simp [Tm.placesL] at h
  | cons t ts ih =>
    simp only [Tm.placesL, List.mem_append] at h
    rcases h with h | h
    · exact ⟨0, t, rfl, by simpa using h⟩
    · obtain ⟨k, u, h1, h2⟩ := ih h
      exact ⟨k + 1, u, by simpa using h1, by rw [show i + (k + 1) = i + 1 + k by omega]; exact h2⟩
/-- what stands at a place -/
theorem Tm.places_at (t : Tm) : ∀ (p : List Int) (x : Pl), x ∈ t.places p → ∃ q, x.1 = p ++ q ∧ t.at q = some x.2 := by
  induction t using Tm.ind with
  | h t ih =>
    intro p x hx
    rw [Tm.places_eq, List.mem_cons] at hx
    rcases hx with rfl | hx
    · exact ⟨[], by simp, rfl⟩
    · obtain ⟨k, u, h1, h2⟩ := Tm.placesL_mem hx
      obtain ⟨q, h3, h4⟩ := ih u (List.mem_of_getElem? h1) _ x h2
      refine ⟨((k : Nat) : Int) :: q, by rw [h3, Nat.zero_add, List.append_assoc, List.singleton_append], ?_⟩
      simp only [Tm.at, Tm.kid, if_pos (Int.natCast_nonneg k), Int.toNat_natCast, h1]
      exact h4
theorem Tm.places_ok {t : Tm} (h : t.ok) {x : Pl} (hx : x ∈ t.places []) : x.2.ok := by
  obtain ⟨q, -, h2⟩ := t.places_at [] x hx
  exact Tm.okAt h h2
set_option maxRecDepth 100000 in
set_option maxHeartbeats 1000000 in
theorem redexes_any (t : Tm) (s rv lv : Value) (w : World) (hs : ∃ oa n c, s = .slice oa n c) (hr : ∃ oa n c, rv = .slice oa n c) (hl : ∃ oa n c, lv = .slice oa n c) :
    Calls Tryz.prog 182 #[.agg #[rv, lv], tmv t s] w fun e w' =>
      e = .returned (.func (.func 245) #[] #[.pointer (some ⟨w.heap.size + 1, 0, none⟩), .pointer (some ⟨w.heap.size, 0, none⟩)]) ∧ w' = (w.alloc (.cells #[rv, lv] 178)).alloc (.cells #[.string t.nm, .bool t.vr, s] 25) := by
  obtain ⟨oa, n, c, rfl⟩ := hs
  obtain ⟨ob, n2, c2, rfl⟩ := hr
  obtain ⟨oc, n3, c3, rfl⟩ := hl
  go_enter Tryz.func182, Tryz.ntmps182
  rw [show tmv t (.slice oa n c) = .agg #[.string t.nm, .bool t.vr, .slice oa n c] from rfl]
  go_wp2
  go_ret
  exact ⟨rfl, rfl⟩

/-- what stays while redexes runs: the boxes, the rules, the table -/
structure RdMem (n₀ yb Bf lp : Nat) (rv lv : Value) (l : List RlV) (W : World) (X R Y S : Bs) : Prop extends YMem n₀ yb lp W X R Y S where
  yf : Y Bf
  nf : ¬ X Bf
  bfx : W.heap[Bf]? = some (.cells #[rv, lv] 178 (0, 0))
  ru : RulV n₀ W l rv
  row : W.ownsRow 0 4 1 lv l.length (linVs l)
  lo : ∀ k, lv.ownBlock = some k → (un Y S k ∧ ¬ X k) ∨ k < n₀
section
variable {n₀ yb Bf lp : Nat} {rv lv : Value} {l : List RlV} {A B : World} {X R X' R' Y S : Bs}
theorem RdMem.stepR (h : RdMem n₀ yb Bf lp rv lv l A X R Y S) (hf : Fx n₀ X X' A B) (hg : Rg X R X' R' A B) :
    Fx n₀ Y (stepY Y R' A B) A B ∧ Rg Y S (stepY Y R' A B) (un S R') A B ∧ RdMem n₀ yb Bf lp rv lv l B X' R' (stepY Y R' A B) (un S R') := by
  obtain ⟨f, g, m⟩ := h.toYMem.step hf hg
  obtain ⟨o1, o2, o3⟩ := h.toYMem.own hf hg h.yf h.nf
  have hlo : ∀ k, lv.ownBlock = some k → k < A.heap.size := fun k e => (h.row.lt k e).2
  refine ⟨f, g, ⟨m, o1, o2, o3.trans h.bfx, h.ru.carry (hf.below h.nz) (Nat.le_refl _), row_kept h.row fun k e => ?_, fun k e => ?_⟩⟩
  · rcases h.lo k e with h1 | h1
    · exact hf.block k (hlo k e) (.inr h1.2)
    · exact hf.block k (hlo k e) (.inl h1)
  · rcases h.lo k e with ⟨h1 | h1, h2⟩ | h1
    · obtain ⟨p1, p2, -⟩ := h.toYMem.own hf hg h1 h2
      exact .inl ⟨.inl p1, p2⟩
    · refine .inl ⟨.inr (.inl h1), fun hx => ?_⟩
      rcases hf.own k hx with h3 | h3
      · exact h2 h3
      · have := hlo k e; omega
    · exact .inr h1
theorem RdMem.kxR (h : RdMem n₀ yb Bf lp rv lv l A X R Y S) (hk : Kx n₀ (un Y S) A B) : RdMem n₀ yb Bf lp rv lv l B X R Y S :=
  ⟨h.toYMem.kx hk, h.yf, h.nf, hk.heap h.bfx (.inl h.yf), h.ru.carry hk.below (Nat.le_refl _), row_kept h.row fun k e => (h.lo k e).elim (fun h1 => hk.kept k h1.1) fun h1 => hk.below.block k h1, h.lo⟩
theorem RdMem.growR (h : RdMem n₀ yb Bf lp rv lv l A X R Y S) (hb : Below A.heap.size A B) {T : Bs} (hT : ∀ k, T k → A.heap.size ≤ k ∧ k < B.heap.size) :
    Fx n₀ Y Y A B ∧ Rg Y S Y (un S T) A B ∧ RdMem n₀ yb Bf lp rv lv l B X R Y (un S T) := by
  obtain ⟨f, g, m⟩ := h.toYMem.grow hb hT
  exact ⟨f, g, ⟨m, h.yf, h.nf, (hb.block Bf (h.yB Bf (.inl h.yf)).2).trans h.bfx, h.ru.carry (hb.mono h.nz) (Nat.le_refl _), row_kept h.row fun k e => hb.block k (h.row.lt k e).2, fun k e => (h.lo k e).imp (fun ⟨h1, h2⟩ => ⟨h1.imp id .inl, h2⟩) id⟩⟩
end

set_option maxRecDepth 100000 in
set_option maxHeartbeats 4000000 in
/-- THE ITERATOR'S CONTRACT -/
theorem redexes_seq (Bt Bf n₀ : Nat) (l : List RlV) (rv lv : Value) (t : Tm) (s : Value) (w : World) (hn : n₀ ≤ w.heap.size) (X₀ : Bs) (hX : XB n₀ X₀ w) (hB : X₀ Bt ∧ X₀ Bf) (hlv : ∀ k, lv.ownBlock = some k → X₀ k ∨ k < n₀)
    (hbt : w.heap[Bt]? = some (.cells #[.string t.nm, .bool t.vr, s] 25 (0, 0))) (hbf : w.heap[Bf]? = some (.cells #[rv, lv] 178 (0, 0))) (hs : SlIs n₀ w t.ts s) (hr : RulV n₀ w l rv) (hrow : w.ownsRow 0 4 1 lv l.length (linVs l))
    (hl : l.length ≤ 1048576) (hlo : ∀ p ∈ l, p.1.1.ok ∧ p.1.1.bulk ≤ 1048576) (hto : t.ok) (hb : t.bulk ≤ 1048576) (hd : t.depth ≤ 1048576) :
    SeqX Fence.wide Tryz.prog 245 #[.pointer (some ⟨Bt, 0, none⟩), .pointer (some ⟨Bf, 0, none⟩)] (ElR n₀) (rdx l t) n₀ X₀ w := by
  intro n lp J Jx R₀ W hW hXW hR₀ hd₀ hJ hJx hY hJ0
  have hz := hW.size
  have hbtW : W.heap[Bt]? = some (.cells #[.string t.nm, .bool t.vr, s] 25 (0, 0)) := (hXW Bt hB.1).trans hbt
  have hbfW : W.heap[Bf]? = some (.cells #[rv, lv] 178 (0, 0)) := (hXW Bf hB.2).trans hbf
  have hbt1 := (Below.heap_alloc W (.cells #[.func (.yield lp) #[] #[]] 306) Bt (Array.getElem?_eq_some_iff.1 hbtW).1).trans hbtW
  obtain ⟨⟨b0, b1, b2⟩, -⟩ := box3 hbt1
  have hxb : XB n₀ X₀ W := fun k hk => by have := hX k hk; omega
  have hrW := hr.carry hW (Nat.le_refl _)
  have hsW := hs.carry hW (Nat.le_refl _)
  have hrowW : W.ownsRow 0 4 1 lv l.length (linVs l) := row_kept hrow fun k e => by
    rcases hlv k e with h1 | h1
    · exact hXW k h1
    · exact hW.block k h1
  obtain ⟨oa, cap, rfl, -⟩ := hs.form
  obtain ⟨lo, lc, rfl, -⟩ := ownsRow_formP hrow
  obtain ⟨ra, rc, rfl⟩ := hr.shape
  obtain ⟨i3, hi2, hz2', hs2, hb2⟩ := info_parts infoIntP
  have H2 := Lib.hid hi2
  have H3 := Lib.hid hz2'
  have H4 := Lib.hid hs2
  have H5 := Lib.hid hb2
  have HLO := Lib.hid hlo
  clear hi2 hz2' hs2 hb2 hlo
  have HY := Lib.hid hY
  have HJ := Lib.hid hJ
  have HJx := Lib.hid hJx
  clear hY hJ hJx hbt hbf hr hs hrow hXW hbt1
  refine callsIn_wide.2 ((callsIn_wide (n := 9)).1 ?_)
  refine callsIn_of_wp_marks Tryz.func245 rfl trivial ?_ rfl
  simp only [Tryz.ntmps245, List.size_toArray, List.length_cons, List.length_nil, Nat.reduceAdd, Nat.reduceSub, Array.replicate_succ, Array.replicate_zero, List.push_toArray, List.append_toArray, List.nil_append, List.cons_append]
  gi_wp2_with (refine ⟨trivial, ?_⟩; gi_at_call 244; refine (callsIn_wide.2 (places_any _ _ _ _ _)).mono ?_; rintro e w' ⟨rfl, rfl⟩)
  obtain ⟨w1, hw1⟩ : ∃ w1, w1 = (W.alloc (.cells #[.func (.yield lp) #[] #[]] 306)).alloc (.cells #[.string t.nm, .bool t.vr, .slice oa t.ts.length cap] 25) := ⟨_, rfl⟩
  have hB0 : Below W.heap.size W w1 := by rw [hw1]; go_grown
  have hz1 : w1.heap.size = W.heap.size + 1 + 1 := by rw [hw1]; simp
  have hnW : n₀ ≤ W.heap.size := by omega
  obtain ⟨Y₀, hY₀⟩ : ∃ Y₀ : Bs, Y₀ = fun k => X₀ k ∨ (W.heap.size ≤ k ∧ k < w1.heap.size) := ⟨_, rfl⟩
  have hfx : Fx n₀ X₀ Y₀ W w1 := by rw [hY₀]; exact Fx.grown (below_grown hB0) (fun r e => by cases e)
  have hrg : Rg X₀ R₀ Y₀ R₀ W w1 := Rg.same hd₀ hR₀ hfx.own
  have hBfz := (Array.getElem?_eq_some_iff.1 hbfW).1
  have hM0 : RdMem n₀ W.heap.size Bf lp (.slice ra l.length rc) (.slice lo l.length lc) l w1 (fun k => k = W.heap.size + 1) (fun _ => False) Y₀ R₀ := by
    refine ⟨⟨fun k hk => by rw [hY₀]; exact .inr (by omega), fun _ h => h.elim, hrg.xb hfx hnW (fun k hk => hk.elim (hxb k) (hR₀ k)), hrg.dis, by rw [hY₀]; exact .inr (by omega), by omega, ?_, by omega⟩, by rw [hY₀]; exact .inl hB.2, by omega, ?_, hrW.carry (hB0.mono hnW) (Nat.le_refl _), row_kept hrowW fun k e => hB0.block k (hrowW.lt k e).2, fun k e => ?_⟩
    · rw [hw1]; exact (Below.heap_alloc _ _ _ (by simp)).trans (World.alloc_heap_new W _)
    · exact (hB0.block Bf hBfz).trans hbfW
    · have := (hrowW.lt k e).2
      rw [hY₀]; exact (hlv k e).imp (fun h => ⟨.inl (.inl h), by omega⟩) id
  have hbx : w1.heap[W.heap.size + 1]? = some (.cells #[.string t.nm, .bool t.vr, .slice oa t.ts.length cap] 25 (0, 0)) := by rw [hw1]; exact heap_new_at _ _ _ (by simp)
  have hJ1 := HJ.out _ _ _ _ _ _ _ hJ0 hfx hrg
  have hs1 := hsW.carry (hB0.mono hnW) (Nat.le_refl _)
  rw [← hw1]
  clear hw1 hfx hrg hbtW hbfW hrW hsW hrowW hxb hB0 hJ0
  refine wpIn_rangeX rfl (by omega) (gf := 273) (lb := #[.pointer (some ⟨W.heap.size + 1, 0, none⟩)]) rfl trivial (enters_of Tryz.func273 (by kernel_rfl) rfl)
    (places_seq (W.heap.size + 1) n₀ t _ w1 (by omega) (fun k => k = W.heap.size + 1) (fun k hk => by omega) rfl hbx hs1 hb hd) (fun _ => False) (by omega) (fun k hk => hk.elim (fun h => by omega) False.elim) (fun _ _ h => h) (fun x vs R W ⟨_, _, h, _⟩ => by rw [h]; rfl)
    (fun X R pre V => ∃ Y S, RdMem n₀ W.heap.size Bf lp (.slice ra l.length rc) (.slice lo l.length lc) l V X R Y S ∧ J Y S (selsR l pre) V)
    (fun c X R pre V => c = .ret ∧ ∃ Y S, YMem n₀ W.heap.size lp V X R Y S ∧ Jx Y S (selsR l pre) V)
    (fun X R X' R' s A B ⟨Y, S, h, hj⟩ hf hg => by
      obtain ⟨f, g, m⟩ := h.stepR hf hg
      exact ⟨_, _, m, HJ.out _ _ _ _ _ _ _ hj f g⟩)
    (fun c X R X' R' s A B ⟨h1, Y, S, h, hj⟩ hf hg => by
      obtain ⟨f, g, m⟩ := h.step hf hg
      exact ⟨h1, _, _, m, HJx.out _ _ _ _ _ _ _ hj f g⟩)
    ⟨Y₀, R₀, hM0, hJ1⟩ ?round ?done ?stop
  case round =>
    rintro lq X R pre ⟨p, u⟩ vs V r₀ ⟨Y, S, hM, hj⟩ ⟨pv, su, rfl, hrow, hsu, hub, hpb⟩ hxb hdis hXl hml hrl hms hpre
    simp only at hrow hsu hub hpb
    obtain ⟨ou, cu, rfl, -⟩ := hsu.form
    obtain ⟨op, cp, rfl, -⟩ := ownsRow_formP hrow
    simp only [Array.zip]
    gi_wp2
    have hB1 : Below V.heap.size V (V.alloc (.cells #[.string u.nm, .bool u.vr, .slice ou u.ts.length cu] 25)) := by go_grown
    refine ⟨Kx.of_below hB1 hM.nz hxb, fun r => ?_⟩
    have hlV := (hxb lq (.inl hXl)).2
    obtain ⟨V2, hV2⟩ : ∃ V2, V2 = (V.alloc (.cells #[.string u.nm, .bool u.vr, .slice ou u.ts.length cu] 25)).putObj lq (.loop r) := ⟨_, rfl⟩
    have hfa : Fx n₀ X X V V2 := by rw [hV2]; exact (Fx.of_below X hB1).trans (Fx.put _ (hxb lq (.inl hXl)).1 hXl)
    have hz2 : V2.heap.size = V.heap.size + 1 := by rw [hV2]; simp
    have hrga : Rg X R X R V V2 := Rg.own_new hdis
    obtain ⟨f2, g2, hM2⟩ := hM.stepR hfa hrga
    have hj2 := HJ.out _ _ _ _ _ _ _ hj f2 g2
    obtain ⟨Y2, hY2⟩ : ∃ Y2 : Bs, Y2 = stepY Y R V V2 := ⟨_, rfl⟩
    obtain ⟨S2, hS2⟩ : ∃ S2 : Bs, S2 = un S R := ⟨_, rfl⟩
    rw [← hY2, ← hS2] at hM2 hj2
    have hxb2 := hrga.xb hfa hM.nz hxb
    have hbu : V2.heap[V.heap.size]? = some (.cells #[.string u.nm, .bool u.vr, .slice ou u.ts.length cu] 25 (0, 0)) := by
      rw [hV2, World.putObj_heap_other (by omega)]; exact World.alloc_heap_new V _
    have hrow2 : V2.ownsRow n₀ 3 1 (.slice op p.length cp) p.length (ints p) := row_kept hrow fun k e => by
      rw [hV2, World.putObj_heap_other (by intro e2; subst e2; obtain ⟨o, ho, hc⟩ := row_cells hrow e; rw [hrl] at ho; cases ho; cases hc)]
      exact hB1.block k (hrow.lt k e).2
    have hsu2 := hsu.carry (hfa.below hM.nz) (Nat.le_refl _)
    rw [← hV2]
    obtain ⟨⟨u0, u1, u2⟩, -⟩ := box3 hbu
    have hbf2 := hM2.bfx
    have f0 := cells_of hbf2 0
    have f1 := cells_of hbf2 1
    simp only [List.getElem?_toArray, List.getElem?_cons_zero, List.getElem?_cons_succ] at f0 f1
    have HMM := Lib.hid hM2
    have HJ2 := Lib.hid hj2
    have HROW := Lib.hid hrow2
    have HSU := Lib.hid hsu2
    have HXB := Lib.hid hxb2
    have HBU := Lib.hid hbu
    have HPRE := Lib.hid hpre
    have huo : u.ok := Tm.places_ok hto (x := (p, u)) (hpre.subset (by simp))
    have HUO := Lib.hid huo
    clear hM hj hrow hsu hxb hfa hrga f2 g2 hM2 hj2 hV2 hY2 hS2 hxb2 hbu hrow2 hsu2 hB1 hpre hbf2 huo hrl hdis
    gi_wp2_with fail
    gi_loopw [6, 15] (fun rv' i wr => ∃ k : Nat, k ≤ l.length ∧ i = .int .i64 k ∧ Hid (wr.ownsRow V2.heap.size 3 1 rv' (rulesUpto l u k).length (nats (rulesUpto l u k)) ∧ Below V2.heap.size V2 wr)) (fun _ i _ => l.length - (intOf i).toNat)
    case atStart => exact ⟨0, by omega, rfl, Lib.hid ⟨World.ownsRow_nil _ _ _ _, Below.refl _ _⟩⟩
    case round =>
      obtain ⟨k, hk, rfl, HR⟩ := hrel
      obtain ⟨ro, rcap, rfl, -⟩ := ownsRow_formP HR.out.1
      have hzr := HR.out.2.size
      have hru := rulesUpto_length l u k
      have hVz : V.heap.size < V2.heap.size := by omega
      have hBfz2 : Bf < V2.heap.size := (HMM.out.yB Bf (.inl HMM.out.yf)).2
      have g0 := (HR.out.2.cell (p := ⟨Bf, 0, none⟩) hBfz2).trans f0
      have g1 := (HR.out.2.cell (p := ⟨Bf, 1, none⟩) hBfz2).trans f1
      have v0 := (HR.out.2.cell (p := ⟨V.heap.size, 0, none⟩) hVz).trans u0
      have v1 := (HR.out.2.cell (p := ⟨V.heap.size, 1, none⟩) hVz).trans u1
      have v2 := (HR.out.2.cell (p := ⟨V.heap.size, 2, none⟩) hVz).trans u2
      by_cases hlt : k < l.length
      · obtain ⟨q, hq⟩ : ∃ q, l[k]? = some q := ⟨_, List.getElem?_eq_getElem hlt⟩
        have hql := HLO.out q (List.mem_of_getElem? hq)
        have HAP := Lib.hid (applies_any l (.slice ra l.length rc) (.slice lo l.length lc) 0 k q u (.slice ou u.ts.length cu) wr (HMM.out.ru.carry (HR.out.2.mono HMM.out.nz) (by have := HMM.out.nz; omega)) (row_kept HMM.out.row fun j e => HR.out.2.block j (HMM.out.row.lt j e).2) hq (HSU.out.carry (HR.out.2.mono HMM.out.nz) (by have := HMM.out.nz; omega)) hql.1 HUO.out hql.2 hub)
        have HSX := Lib.hid (rulesUpto_succ (u := u) hq)
        clear hq hql
        gi_wp2_with fail
        refine ⟨trivial, (CallsIn.inRound lq (callsIn_wide.2 HAP.out)).mono ?_⟩
        rintro e w4 ⟨rfl, hb4⟩
        have HB4 := Lib.hid (HR.out.2.trans (hb4.mono hzr))
        have HR4 := Lib.hid (HR.out.1.kept (below_grown hb4) (by cases (Value.slice ro (rulesUpto l u k).length rcap).ownBlock <;> simp))
        have HZ4 := Lib.hid hb4.size
        clear hb4
        cases hap : appl q.1.1 u
        · have HS2 := Lib.hid (show rulesUpto l u (k + 1) = rulesUpto l u k by rw [HSX.out, hap]; simp)
          clear hap
          gi_wp2_with fail
          exact ⟨⟨k + 1, by omega, by push_cast; rfl, Lib.hid ⟨by rw [HS2.out]; exact HR4.out, HB4.out⟩⟩, by simp only [intOf]; omega⟩
        · have HS2 := Lib.hid (show rulesUpto l u (k + 1) = rulesUpto l u k ++ [k] by rw [HSX.out, hap]; simp)
          clear hap
          gi_wp2_with (gi_at_builtin; refine wpListIn_append_own _ rfl _ _ 34 rfl V2.heap.size 3 i3 (.int .i64 0) 1 8 Tryz.underlying34 H2.out H3.out H4.out H5.out rfl (by decide) _ _ (nats (rulesUpto l u k)) rfl (HR4.out.alloc _) ⟨w4.heap.size, 0, none⟩ 1 1 [.int .i64 k] rfl rfl (cell_one_new _ _ _) (by simp [Value.oneCell']) (by unfold maxLen; omega) (by omega) (by have := HZ4.out; simp; omega) ?_; intro v5 w5 hown5 hgr5 _; obtain ⟨vo5, vc5, rfl, -⟩ := ownsRow_formP hown5; have HO5 := Lib.hid hown5; have HG5 := Lib.hid hgr5; clear hown5 hgr5)
          have HB5 : Hid (Below V2.heap.size V2 w5) := Lib.hid ((HB4.out.alloc (by have := HZ4.out; omega) _).grown HG5.out (by have := HZ4.out; simp; omega) (fun j e => (HR4.out.lt j e).1))
          exact ⟨⟨k + 1, by omega, by push_cast; rfl, Lib.hid ⟨by rw [HS2.out, List.length_append]; simpa [nats] using HO5.out, HB5.out⟩⟩, by simp only [intOf]; omega⟩
      · obtain rfl : k = l.length := by omega
        by_cases hne : rulesUpto l u l.length = []
        · have hlen : (rulesUpto l u l.length).length = 0 := by rw [hne]; rfl
          have HXN := Lib.hid (show selsR l (pre ++ [(p, u)]) = selsR l pre by rw [selsR_snoc, selR_none hne]; simp)
          have hyb := HR.out.2.block W.heap.size (HMM.out.yB W.heap.size (.inl HMM.out.y1)).2
          have hyc := cells_of (hyb.trans HMM.out.ybx) 0
          simp only [List.getElem?_toArray, List.getElem?_cons_zero] at hyc
          clear hne hyb
          gi_wp2_with fail
          refine wpIn_region_hi (S := fun w' => w'.cell? ⟨W.heap.size, 0, none⟩ = some (.func (.yield lp) #[] #[])) (by kernel_rfl) hyc (fun _ => ?_)
          simp only [List.size_toArray, List.length_cons, List.length_nil, Nat.reduceAdd]
          refine wpHI_take (i := 0) (v := ?_) (wide_fn _) (by kernel_rfl) (by simp only [List.getElem?_toArray, List.getElem?_cons_zero]; rfl) (by kernel_rfl) (by kernel_rfl) (by kernel_rfl) (fun _ _ _ h => h) (Or.inl ⟨by rfl, ?_⟩) hyc ?_
          case refine_2 => (intro ww hSw; obtain hS := hSw; go_simp; try with_reducible rfl)
          try simp only [Act.put, List.setIfInBounds_toArray, List.set_cons_zero, List.set_cons_succ]
          refine wpHI_take (i := 1) (v := ?_) (wide_fn _) (by kernel_rfl) (by simp only [List.getElem?_toArray, List.getElem?_cons_zero, List.getElem?_cons_succ]; rfl) (by kernel_rfl) (by kernel_rfl) (by kernel_rfl) (fun _ _ _ h => h) (Or.inl ⟨by rfl, ?_⟩) hyc ?_
          case refine_2 => (intro ww hSw; obtain hS := hSw; go_simp; try with_reducible rfl)
          try simp only [Act.put, List.setIfInBounds_toArray, List.set_cons_zero, List.set_cons_succ]
          refine wpHI_take (i := 2) (v := ?_) (wide_fn _) (by kernel_rfl) (by simp only [List.getElem?_toArray, List.getElem?_cons_zero, List.getElem?_cons_succ]; rfl) (by kernel_rfl) (by kernel_rfl) (by kernel_rfl) (fun _ _ _ h => h) (Or.inl ⟨by rfl, ?_⟩) hyc ?_
          case refine_2 => (intro ww hSw; obtain hS := hSw; go_simp; try with_reducible rfl)
          try simp only [Act.put, List.setIfInBounds_toArray, List.set_cons_zero, List.set_cons_succ]
          refine wpHI_take (i := 3) (v := ?_) (wide_fn _) (by kernel_rfl) (by simp only [List.getElem?_toArray, List.getElem?_cons_zero, List.getElem?_cons_succ]; rfl) (by kernel_rfl) (by kernel_rfl) (by kernel_rfl) (fun _ _ _ h => h) (Or.inl ⟨by rfl, ?_⟩) hyc ?_
          case refine_2 => (intro ww hSw; obtain hS := hSw; go_simp; try with_reducible rfl)
          try simp only [Act.put, List.setIfInBounds_toArray, List.set_cons_zero, List.set_cons_succ]
          refine wpHI_take (i := 4) (v := _) (wide_fn _) (by kernel_rfl) (by simp only [List.getElem?_toArray, List.getElem?_cons_zero, List.getElem?_cons_succ]; rfl) (by kernel_rfl) (by kernel_rfl) (by kernel_rfl) (fun _ _ _ h => h) (Or.inr ⟨by rfl, rfl⟩) hyc ?_
          try simp only [Act.put, List.setIfInBounds_toArray, List.set_cons_zero, List.set_cons_succ]
          refine wpHI_take (i := 5) (v := _) (wide_fn _) (by kernel_rfl) (by simp only [List.getElem?_toArray, List.getElem?_cons_zero, List.getElem?_cons_succ]; rfl) (by kernel_rfl) (by kernel_rfl) (by kernel_rfl) (fun _ _ _ h => h) (Or.inr ⟨by rfl, rfl⟩) hyc ?_
          try simp only [Act.put, List.setIfInBounds_toArray, List.set_cons_zero, List.set_cons_succ]
          refine wpHI_take (i := 6) (v := _) (wide_fn _) (by kernel_rfl) (by simp only [List.getElem?_toArray, List.getElem?_cons_zero, List.getElem?_cons_succ]; rfl) (by kernel_rfl) (by kernel_rfl) (by kernel_rfl) (fun _ _ _ h => h) (Or.inr ⟨by rfl, rfl⟩) hyc ?_
          try simp only [Act.put, List.setIfInBounds_toArray, List.set_cons_zero, List.set_cons_succ]
          refine wpHI_take (i := 7) (v := _) (wide_fn _) (by kernel_rfl) (by simp only [List.getElem?_toArray, List.getElem?_cons_zero, List.getElem?_cons_succ]; rfl) (by kernel_rfl) (by kernel_rfl) (by kernel_rfl) (fun _ _ _ h => h) (Or.inr ⟨by rfl, rfl⟩) hyc ?_
          try simp only [Act.put, List.setIfInBounds_toArray, List.set_cons_zero, List.set_cons_succ]
          refine wpHI_take (i := 8) (v := _) (wide_fn _) (by kernel_rfl) (by simp only [List.getElem?_toArray, List.getElem?_cons_zero, List.getElem?_cons_succ]; rfl) (by kernel_rfl) (by kernel_rfl) (by kernel_rfl) (fun _ _ _ h => h) (Or.inr ⟨by rfl, rfl⟩) hyc ?_
          try simp only [Act.put, List.setIfInBounds_toArray, List.set_cons_zero, List.set_cons_succ]
          refine wpHI_take (i := 9) (v := _) (wide_fn _) (by kernel_rfl) (by simp only [List.getElem?_toArray, List.getElem?_cons_zero, List.getElem?_cons_succ]; rfl) (by kernel_rfl) (by kernel_rfl) (by kernel_rfl) (fun _ _ _ h => h) (Or.inr ⟨by rfl, rfl⟩) hyc ?_
          try simp only [Act.put, List.setIfInBounds_toArray, List.set_cons_zero, List.set_cons_succ]
          refine wpHI_take (i := 10) (v := _) (wide_fn _) (by kernel_rfl) (by simp only [List.getElem?_toArray, List.getElem?_cons_zero, List.getElem?_cons_succ]; rfl) (by kernel_rfl) (by kernel_rfl) (by kernel_rfl) (fun _ _ _ h => h) (Or.inr ⟨by rfl, rfl⟩) hyc ?_
          try simp only [Act.put, List.setIfInBounds_toArray, List.set_cons_zero, List.set_cons_succ]
          refine wpHI_take (i := 11) (v := ?_) (wide_fn _) (by kernel_rfl) (by simp only [List.getElem?_toArray, List.getElem?_cons_zero, List.getElem?_cons_succ]; rfl) (by kernel_rfl) (by kernel_rfl) (by kernel_rfl) (fun _ _ _ h => h) (Or.inl ⟨by rfl, ?_⟩) hyc ?_
          case refine_2 => (intro ww hSw; obtain hS := hSw; go_simp; try with_reducible rfl)
          try simp only [Act.put, List.setIfInBounds_toArray, List.set_cons_zero, List.set_cons_succ]
          refine wpHI_done (by kernel_rfl) ?_ _
          gi_wp2_with fail
          have hbr : Below V2.heap.size V2 wr.drew := HR.out.2.drew
          obtain ⟨f3, g3, m3⟩ := HMM.out.growR hbr (T := fun _ => False) (fun _ h => h.elim)
          exact ⟨Kx.of_below hbr HMM.out.nz HXB.out, Y2, _, m3, by rw [HXN.out]; exact HJ.out _ _ _ _ _ _ _ HJ2.out f3 g3⟩
        · have hlen : 0 < (rulesUpto l u l.length).length := List.length_pos_iff.2 hne
          have hyb := HR.out.2.block W.heap.size (HMM.out.yB W.heap.size (.inl HMM.out.y1)).2
          have hyc := cells_of (hyb.trans HMM.out.ybx) 0
          simp only [List.getElem?_toArray, List.getElem?_cons_zero] at hyc
          have HNE := Lib.hid hne
          clear hne hyb
          gi_wp2_with fail
          refine wpIn_region_hi (S := fun w' => w'.cell? ⟨W.heap.size, 0, none⟩ = some (.func (.yield lp) #[] #[])) (by kernel_rfl) hyc (fun _ => ?_)
          simp only [List.size_toArray, List.length_cons, List.length_nil, Nat.reduceAdd]
          refine wpHI_take (i := 0) (v := ?_) (wide_fn _) (by kernel_rfl) (by simp only [List.getElem?_toArray, List.getElem?_cons_zero]; rfl) (by kernel_rfl) (by kernel_rfl) (by kernel_rfl) (fun _ _ _ h => h) (Or.inl ⟨by rfl, ?_⟩) hyc ?_
          case refine_2 => (intro ww hSw; obtain hS := hSw; go_simp; try with_reducible rfl)
          try simp only [Act.put, List.setIfInBounds_toArray, List.set_cons_zero, List.set_cons_succ]
          refine wpHI_take (i := 1) (v := ?_) (wide_fn _) (by kernel_rfl) (by simp only [List.getElem?_toArray, List.getElem?_cons_zero, List.getElem?_cons_succ]; rfl) (by kernel_rfl) (by kernel_rfl) (by kernel_rfl) (fun _ _ _ h => h) (Or.inl ⟨by rfl, ?_⟩) hyc ?_
          case refine_2 => (intro ww hSw; obtain hS := hSw; go_simp; try with_reducible rfl)
          try simp only [Act.put, List.setIfInBounds_toArray, List.set_cons_zero, List.set_cons_succ]
          refine wpHI_take (i := 2) (v := ?_) (wide_fn _) (by kernel_rfl) (by simp only [List.getElem?_toArray, List.getElem?_cons_zero, List.getElem?_cons_succ]; rfl) (by kernel_rfl) (by kernel_rfl) (by kernel_rfl) (fun _ _ _ h => h) (Or.inl ⟨by rfl, ?_⟩) hyc ?_
          case refine_2 => (intro ww hSw; obtain hS := hSw; go_simp; try with_reducible rfl)
          try simp only [Act.put, List.setIfInBounds_toArray, List.set_cons_zero, List.set_cons_succ]
          refine wpHI_take (i := 3) (v := ?_) (wide_fn _) (by kernel_rfl) (by simp only [List.getElem?_toArray, List.getElem?_cons_zero, List.getElem?_cons_succ]; rfl) (by kernel_rfl) (by kernel_rfl) (by kernel_rfl) (fun _ _ _ h => h) (Or.inl ⟨by rfl, ?_⟩) hyc ?_
          case refine_2 => (intro ww hSw; obtain hS := hSw; go_simp; try with_reducible rfl)
          try simp only [Act.put, List.setIfInBounds_toArray, List.set_cons_zero, List.set_cons_succ]
          refine wpHI_take (i := 4) (v := ?_) (wide_fn _) (by kernel_rfl) (by simp only [List.getElem?_toArray, List.getElem?_cons_zero, List.getElem?_cons_succ]; rfl) (by kernel_rfl) (by kernel_rfl) (by kernel_rfl) (fun _ _ _ h => h) (Or.inl ⟨by rfl, ?_⟩) hyc ?_
          case refine_2 => (intro ww hSw; obtain hS := hSw; go_simp; try with_reducible rfl)
          try simp only [Act.put, List.setIfInBounds_toArray, List.set_cons_zero, List.set_cons_succ]
          refine wpHI_take (i := 5) (v := ?_) (wide_fn _) (by kernel_rfl) (by simp only [List.getElem?_toArray, List.getElem?_cons_zero, List.getElem?_cons_succ]; rfl) (by kernel_rfl) (by kernel_rfl) (by kernel_rfl) (fun _ _ _ h => h) (Or.inl ⟨by rfl, ?_⟩) hyc ?_
          case refine_2 => (intro ww hSw; obtain hS := hSw; go_simp; try with_reducible rfl)
          try simp only [Act.put, List.setIfInBounds_toArray, List.set_cons_zero, List.set_cons_succ]
          refine wpHI_take (i := 7) (v := ?_) (wide_fn _) (by kernel_rfl) (by simp only [List.getElem?_toArray, List.getElem?_cons_zero, List.getElem?_cons_succ]; rfl) (by kernel_rfl) (by kernel_rfl) (by kernel_rfl) (fun _ _ _ h => h) (Or.inl ⟨by rfl, ?_⟩) hyc ?_
          case refine_2 => (intro ww hSw; obtain hS := hSw; go_simp; try with_reducible rfl)
          try simp only [Act.put, List.setIfInBounds_toArray, List.set_cons_zero, List.set_cons_succ]
          refine wpHI_one (i := 6) (wide_fn _) (by kernel_rfl) (by kernel_rfl) (by simp only [List.getElem?_toArray, List.getElem?_cons_zero, List.getElem?_cons_succ]; rfl) (by rfl) (fun K' hK => ?_)
          go_simp
          refine (CallsIn.inRound lq (callsIn_wide.2 (clonePos_any n₀ (.slice op p.length cp) p wr.drew (row_kept HROW.out fun k e => HR.out.2.block k (HROW.out.lt k e).2) hpb))).mono ?_
          rintro e w6 ⟨⟨pv, rfl, hpo⟩, hb6⟩
          have hb6r : Below wr.heap.size wr w6 := ((Below.refl _ wr).drew).trans hb6
          have HB6 := Lib.hid (HR.out.2.trans (hb6r.mono hzr))
          have HRR := Lib.hid (HR.out.1.kept (below_grown hb6r) (by cases (Value.slice ro (rulesUpto l u l.length).length rcap).ownBlock <;> simp))
          have hyb6 := HB6.out.block W.heap.size (HMM.out.yB W.heap.size (.inl HMM.out.y1)).2
          have hyc6 := cells_of (hyb6.trans HMM.out.ybx) 0
          simp only [List.getElem?_toArray, List.getElem?_cons_zero] at hyc6
          obtain ⟨qo, qc, rfl, -⟩ := ownsRow_formP hpo
          have hz6 := hb6r.size
          obtain ⟨f6, g6, hM6⟩ := HMM.out.growR HB6.out (T := fun k => (Value.slice qo p.length qc).ownBlock = some k ∨ (Value.slice ro (rulesUpto l u l.length).length rcap).ownBlock = some k) (fun k hk => by
            rcases hk with hk | hk
            · have := hpo.lt k hk; simp only [World.drew] at this; omega
            · have := HRR.out.lt k hk; omega)
          obtain ⟨S6, hS6⟩ : ∃ S6 : Bs, S6 = un S2 (fun k => (Value.slice qo p.length qc).ownBlock = some k ∨ (Value.slice ro (rulesUpto l u l.length).length rcap).ownBlock = some k) := ⟨_, rfl⟩
          rw [← hS6] at g6 hM6
          have HXN := Lib.hid (show selsR l (pre ++ [(p, u)]) = selsR l pre ++ [(p, rulesUpto l u l.length)] by rw [selsR_snoc, selR_some HNE.out]; rfl)
          have hel : ElR n₀ (p, rulesUpto l u l.length) #[.agg #[.slice qo p.length qc, .slice ro (rulesUpto l u l.length).length rcap]] S6 w6 := by
            refine ⟨_, _, rfl, ownsRow_mono hpo (by have := HMM.out.nz; simp only [World.drew]; omega), ownsRow_mono HRR.out HMM.out.nz, fun k hk => by rw [hS6]; exact .inr hk, HNE.out, hpb, by show (rulesUpto l u l.length).length ≤ 1048576; omega⟩
          obtain ⟨fn, tmps, assign, body, hy, hRd⟩ := HY.out Y2 S6 (selsR l pre) (p, rulesUpto l u l.length) _ w6 (HJ.out _ _ _ _ _ _ _ HJ2.out f6 g6) hel hM6.yB hM6.dis hM6.nz (by have h := selsR_prefix (l := l) HPRE.out; rw [HXN.out] at h; exact h)
          have hRd2 : RoundIn (Fence.wide.inRound lq) 6 Tryz.prog lp fn tmps assign body w6 _ := roundAny rfl hRd
          have HPO := Lib.hid hpo
          have HM6 := Lib.hid hM6
          have HRD := Lib.hid hRd2
          clear hpo hb6 hb6r hyb6 f6 g6 hS6 hel hRd hRd2 hM6
          refine hK.out _ _ hyc6 (fun _ => ?_)
          clear hK
          try simp only [Act.put, List.setIfInBounds_toArray, List.set_cons_zero, List.set_cons_succ]
          refine wpHI_take (i := 8) (v := ?_) (wide_fn _) (by kernel_rfl) (by simp only [List.getElem?_toArray, List.getElem?_cons_zero, List.getElem?_cons_succ]; rfl) (by kernel_rfl) (by kernel_rfl) (by kernel_rfl) (fun _ _ _ h => h) (Or.inl ⟨by rfl, ?_⟩) hyc6 ?_
          case refine_2 => (intro ww hSw; obtain hS := hSw; go_simp; try with_reducible rfl)
          try simp only [Act.put, List.setIfInBounds_toArray, List.set_cons_zero, List.set_cons_succ]
          refine wpHI_one (i := 9) (wide_fn _) (by kernel_rfl) (by kernel_rfl) (by simp only [List.getElem?_toArray, List.getElem?_cons_zero, List.getElem?_cons_succ]; rfl) (by rfl) (fun K' hK => ?_)
          go_simp
          refine HRD.out.mono ?_
          rintro e w7 (⟨rfl, hj7, hk7⟩ | ⟨rfl, hj7, hk7⟩)
          · have hyc7 := cells_of (hk7.heap HM6.out.ybx (.inl HM6.out.y1)) 0
            simp only [List.getElem?_toArray, List.getElem?_cons_zero] at hyc7
            have HK7 := Lib.hid hk7
            have HJ7 := Lib.hid hj7
            clear hk7 hj7 hy
            refine hK.out _ _ hyc7 (fun _ => ?_)
            clear hK
            try simp only [Act.put, List.setIfInBounds_toArray, List.set_cons_zero, List.set_cons_succ]
            refine wpHI_take (i := 10) (v := ?_) (wide_fn _) (by kernel_rfl) (by simp only [List.getElem?_toArray, List.getElem?_cons_zero, List.getElem?_cons_succ]; rfl) (by kernel_rfl) (by kernel_rfl) (by kernel_rfl) (fun _ _ _ h => h) (Or.inl ⟨by rfl, ?_⟩) hyc7 ?_
            case refine_2 => (intro ww hSw; obtain hS := hSw; go_simp; try with_reducible rfl)
            try simp only [Act.put, List.setIfInBounds_toArray, List.set_cons_zero, List.set_cons_succ]
            refine wpHI_take (i := 11) (v := ?_) (wide_fn _) (by kernel_rfl) (by simp only [List.getElem?_toArray, List.getElem?_cons_zero, List.getElem?_cons_succ]; rfl) (by kernel_rfl) (by kernel_rfl) (by kernel_rfl) (fun _ _ _ h => h) (Or.inl ⟨by rfl, ?_⟩) hyc7 ?_
            case refine_2 => (intro ww hSw; obtain hS := hSw; go_simp; try with_reducible rfl)
            try simp only [Act.put, List.setIfInBounds_toArray, List.set_cons_zero, List.set_cons_succ]
            refine wpHI_done (by kernel_rfl) ?_ _
            gi_wp2_with fail
            have hkx := (Kx.of_below HB6.out HMM.out.nz HXB.out).trans (HK7.out.less HM6.out.unl)
            exact ⟨hkx, Y2, S6, HM6.out.kxR HK7.out, by rw [HXN.out]; exact HJ7.out⟩
          · have hyc7 := cells_of (hk7.heap HM6.out.ybx (.inl HM6.out.y1)) 0
            simp only [List.getElem?_toArray, List.getElem?_cons_zero] at hyc7
            have HK7 := Lib.hid hk7
            have HJ7 := Lib.hid hj7
            clear hk7 hj7 hy
            refine hK.out _ _ hyc7 (fun _ => ?_)
            clear hK
            try simp only [Act.put, List.setIfInBounds_toArray, List.set_cons_zero, List.set_cons_succ]
            refine wpHI_take (i := 10) (v := ?_) (wide_fn _) (by kernel_rfl) (by simp only [List.getElem?_toArray, List.getElem?_cons_zero, List.getElem?_cons_succ]; rfl) (by kernel_rfl) (by kernel_rfl) (by kernel_rfl) (fun _ _ _ h => h) (Or.inl ⟨by rfl, ?_⟩) hyc7 ?_
            case refine_2 => (intro ww hSw; obtain hS := hSw; go_simp; try with_reducible rfl)
            try simp only [Act.put, List.setIfInBounds_toArray, List.set_cons_zero, List.set_cons_succ]
            refine wpHI_take (i := 11) (v := ?_) (wide_fn _) (by kernel_rfl) (by simp only [List.getElem?_toArray, List.getElem?_cons_zero, List.getElem?_cons_succ]; rfl) (by kernel_rfl) (by kernel_rfl) (by kernel_rfl) (fun _ _ _ h => h) (Or.inl ⟨by rfl, ?_⟩) hyc7 ?_
            case refine_2 => (intro ww hSw; obtain hS := hSw; go_simp; try with_reducible rfl)
            try simp only [Act.put, List.setIfInBounds_toArray, List.set_cons_zero, List.set_cons_succ]
            refine wpHI_done (by kernel_rfl) ?_ _
            gi_wp2_with fail
            have hkx := (Kx.of_below HB6.out HMM.out.nz HXB.out).trans (HK7.out.less HM6.out.unl)
            exact ⟨hkx, rfl, Y2, S6, HM6.out.toYMem.kx HK7.out, by rw [HXN.out]; exact HJ7.out⟩
  case done =>
    rintro D X R V hD hXD ⟨Y, S, hM, hj⟩ hxb hdis hK
    have HM := Lib.hid hM.toYMem
    have HJd := Lib.hid hj
    clear hM hj
    gi_wp2
    refine ⟨by simp, .inl ⟨_, _, rfl, run_takeDeferred hK, ?_⟩⟩
    obtain ⟨h1, h2, h3⟩ := HM.out.last HJ.out HJd.out (HM.out.xy D hXD)
    exact ⟨_, results_none rfl _ _ _, ⟨_, rfl⟩, Y, S, h1, HM.out.dis, .inl h2⟩
  case stop =>
    rintro D c X R pre V hD hXD hp ⟨rfl, Y, S, hM, hj⟩ hxb hdis hK
    have HM := Lib.hid hM
    have HJd := Lib.hid hj
    clear hM hj
    gi_wp2
    refine ⟨by simp, .inl ⟨_, _, rfl, run_takeDeferred hK, ?_⟩⟩
    obtain ⟨h1, h2, h3⟩ := HM.out.last HJx.out HJd.out (HM.out.xy D hXD)
    exact ⟨_, results_none rfl _ _ _, ⟨_, rfl⟩, Y, S, h1, HM.out.dis, .inr ⟨_, selsR_prefix hp, h2⟩⟩
end Go.Proofs.YtamddagmlanijaaGreat
