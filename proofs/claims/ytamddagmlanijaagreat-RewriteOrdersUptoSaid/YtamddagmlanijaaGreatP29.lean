/- Packed: Red0, Red. -/
import Derived.Test.YtamddagmlanijaaGreatP26
import Derived.Test.YtamddagmlanijaaGreatP27
import Derived.Test.YtamddagmlanijaaGreatP28
import Derived.Test.YtamddagmlanijaaGreatP16
import Derived.Maps.AppendAt
/- Redexes: the steps of a term under a strategy. -/
namespace Go.Proofs.YtamddagmlanijaaGreat
open Go.RowKit Go.Shelf Go.Maps
attribute [local go_sem] Oper.semAt_some

/-- the steps of redexes -/
def flatS (l : List Rdx) : List Stp := (l.map stepsOf).flatten
theorem flatS_snoc (l : List Rdx) (x : Rdx) : flatS (l ++ [x]) = flatS l ++ stepsOf x := by simp [flatS]
/-- steps in blocks of G, from m on -/
def StG (m : Nat) (G : Bs) (W : World) (l : List Stp) (v : Value) : Prop :=
  ∃ hs : List Value, hs.length = l.length ∧ W.ownsRow m 36 2 v l.length (scs l hs) ∧ (∀ k, v.ownBlock = some k → G k) ∧
    ∀ (i : Nat) s h, l[i]? = some s → hs[i]? = some h → (W.ownsRow m 3 1 h s.2.length (ints s.2) ∧ s.2.length ≤ 1048576) ∧ ∀ k, h.ownBlock = some k → G k
theorem StG.own {m : Nat} {G : Bs} {W : World} {l : List Stp} {v : Value} (h : StG m G W l v) : StOwn m W l v := by
  obtain ⟨hs, h1, h2, -, h3⟩ := h
  exact ⟨hs, h1, h2, fun i s h e1 e2 => (h3 i s h e1 e2).1⟩
theorem StG.kept {m : Nat} {G G' : Bs} {A B : World} {l : List Stp} {v : Value} (h : StG m G A l v) (hk : ∀ k, G k → B.heap[k]? = A.heap[k]?) (hg : ∀ k, G k → G' k) : StG m G' B l v := by
  obtain ⟨hs, h1, h2, h4, h3⟩ := h
  exact ⟨hs, h1, row_keptS h2 fun k e => hk k (h4 k e), fun k e => hg k (h4 k e), fun i s h e1 e2 => ⟨⟨row_kept (h3 i s h e1 e2).1.1 fun k e => hk k ((h3 i s h e1 e2).2 k e), (h3 i s h e1 e2).1.2⟩, fun k e => hg k ((h3 i s h e1 e2).2 k e)⟩⟩
/-- append of a whole slice onto a row of one's own, in a fenced region -/
theorem upon_append_own {F : Fence} {n : Nat} {P : Program} (w : World) {o : Oper} {a : Act} {K' : Act → World → Prop} {Q : Exit → Act → World → Prop}
    (s x : Operand) (t : TypeId) (hop : o.op = Op.call { callee := Callee.builtin Builtin.append, args := #[s, x], argTypes := #[t, t] })
    (base : Nat) (e : TypeId) (i : TypeInfo) (z : Value) (size bytes : Nat) (h1 : P.underlying t = some (.slice e)) (h2 : P.info? e = some i) (h3 : i.zero = some z) (h4 : i.size = size) (h5 : i.bytes = bytes) (h6 : z.cells.size = size) (h7 : 0 < size)
    (v : Value) (k : Nat) (xs : List Value) (hs : a.eval s = v) (hown : w.ownsRow base e size v k xs) (ad : Addr) (m c : Nat) (news : List Value) (hx : a.eval x = .slice (some ad) m c) (hn : news.length = m * size)
    (hc : ∀ j u, news[j]? = some u → w.cell? (ad.add j) = some u) (h1c : ∀ u ∈ news, u.oneCell' = true) (b1 : k + m ≤ maxLen) (b2 : (k + m) * bytes ≤ 140737488355328) (b3 : base ≤ w.heap.size)
    (hK : ∀ v' w', w'.ownsRow base e size v' (k + m) (xs ++ news) → w.grownBy w' v.ownBlock → (v'.ownBlock = v.ownBlock ∨ v'.ownBlock = some w.heap.size) → K' (a.put o.dst v') w') :
    o.uponIn F n P a K' Q ((execOp a.eval o).run P w) := by
  obtain ⟨v', w', hrun, r1, r2, -, r4⟩ := run_append_own_at (P := P) w base t o.type e i z size bytes h1 h2 h3 h4 h5 h6 h7 v k xs hown ad m c news hn hc h1c b1 b2 b3
  simp [execOp, hop, resolve, invoke, builtin, hs, hx, hrun, Result.andThen]
  exact hK _ _ r1 r2 r4

def IsStr (k : Int) (e : Ending) : Prop := ∃ b, e = .returned (.bool b) ∧ (b = true ↔ 1 ≤ k ∧ k ≤ 5)
set_option maxRecDepth 100000 in
set_option maxHeartbeats 1000000 in
theorem isStrategy_any (k : Int) (w : World) : Calls Tryz.prog 108 #[.int .i64 k] w fun e w' => IsStr k e ∧ w' = w := by
  by_cases h1 : 1 ≤ k
  · by_cases h2 : k ≤ 5
    · go_enter Tryz.func108, Tryz.ntmps108
      go_wp2_with fail
      go_ret
      exact ⟨⟨true, rfl, fun _ => ⟨h1, h2⟩, fun _ => rfl⟩, rfl⟩
    · go_enter Tryz.func108, Tryz.ntmps108
      go_wp2_with fail
      go_ret
      exact ⟨⟨false, rfl, fun h => (by cases h), fun h => by omega⟩, rfl⟩
  · go_enter Tryz.func108, Tryz.ntmps108
    go_wp2_with fail
    go_ret
    exact ⟨⟨false, rfl, fun h => (by cases h), fun h => by omega⟩, rfl⟩
end Go.Proofs.YtamddagmlanijaaGreat
/- Redexes: the steps of a term under a strategy. -/
namespace Go.Proofs.YtamddagmlanijaaGreat
open Go.RowKit Go.Shelf Go.Maps
attribute [local go_sem] Oper.semAt_some

theorem outF_sub (L : List Rdx) : (outL L).Sublist L := by
  have key : ∀ (r a : List Rdx), (outL a).Sublist a → (outL (a ++ r)).Sublist (a ++ r) := by
    intro r
    induction r with
    | nil => intro a h; simpa using h
    | cons x r ih =>
      intro a h
      have h1 : (outL (a ++ [x])).Sublist (a ++ [x]) := by
        unfold outL
        rw [outF_snoc, outStep]
        split
        · exact h.trans (List.sublist_append_left _ _)
        · exact h.append (List.Sublist.refl _)
      have h2 := ih _ h1
      rwa [List.append_assoc, List.singleton_append] at h2
  simpa using key L [] (List.Sublist.refl _)
theorem innF_sub (L : List Rdx) : (innL L).Sublist L := by
  have key : ∀ (r a : List Rdx), (innL a).Sublist a → (innL (a ++ r)).Sublist (a ++ r) := by
    intro r
    induction r with
    | nil => intro a h; simpa using h
    | cons x r ih =>
      intro a h
      have h1 : (innL (a ++ [x])).Sublist (a ++ [x]) := by
        unfold innL at h ⊢
        rw [innF_snoc, innStep]
        split
        · rename_i y hy
          rw [hy] at h
          split
          · exact ((List.sublist_append_left _ _).trans h).append (List.Sublist.refl _)
          · exact h.append (List.Sublist.refl _)
        · exact ((List.sublist_append_left _ _).trans h).append (List.Sublist.refl _)
      have h2 := ih _ h1
      rwa [List.append_assoc, List.singleton_append] at h2
  simpa using key L [] (List.Sublist.refl _)
theorem choL_sub (k : Int) (L : List Rdx) : (choL k L).Sublist L := by
  unfold choL
  split
  · exact innF_sub L
  · split
    · exact outF_sub L
    · split
      · exact (List.take_sublist _ _).trans (innF_sub L)
      · split
        · exact List.take_sublist _ _
        · exact List.Sublist.refl _
theorem rdx_mem {l : List RlV} {t : Tm} {x : Rdx} (h : x ∈ rdx l t) : x.2.length ≤ l.length := by
  unfold rdx selsR at h
  obtain ⟨y, -, hy⟩ := List.mem_filterMap.1 h
  unfold selR at hy
  split at hy
  · cases hy
  · cases hy; exact rulesUpto_length l y.2 l.length
theorem rdx_length (l : List RlV) (t : Tm) : (rdx l t).length ≤ t.size := by
  unfold rdx selsR
  have h1 := List.length_filterMap_le (selR l) (t.places [])
  rw [Tm.places_length] at h1
  exact h1
theorem flatS_length {L : List Rdx} {n : Nat} (h : ∀ x ∈ L, x.2.length ≤ n) : (flatS L).length ≤ n * L.length := by
  induction L with
  | nil => simp [flatS]
  | cons x L ih =>
    have h1 := ih fun y hy => h y (by simp [hy])
    have h2 := h x (by simp)
    have h3 : (flatS (x :: L)).length = x.2.length + (flatS L).length := by simp [flatS, stepsOf]
    rw [h3, List.length_cons, Nat.mul_add]
    omega
theorem flatS_pre {l : List RlV} {t : Tm} {k : Int} {pre : List Rdx} (hl : l.length ≤ 64) (ht : t.size ≤ 4000) (h : pre <+: choL k (rdx l t)) : (flatS pre).length ≤ 256000 := by
  have h1 := (choL_sub k (rdx l t))
  have h2 : (flatS pre).length ≤ 64 * pre.length := flatS_length fun x hx => Nat.le_trans (rdx_mem (h1.subset (h.subset hx))) hl
  have h3 := h.length_le
  have h4 := h1.length_le
  have h5 := rdx_length l t
  omega
theorem stepsOf_max {l : List RlV} {t : Tm} {k : Int} {pre : List Rdx} {x : Rdx} (hl : l.length ≤ 64) (ht : t.size ≤ 4000) (h : pre ++ [x] <+: choL k (rdx l t)) : (flatS pre).length + (stepsOf x).length ≤ 256000 := by
  have := flatS_pre hl ht h
  rw [flatS_snoc, List.length_append] at this
  exact this

theorem scs_one {W : World} {m : Nat} {a : List Stp} {x : List Value} (h : x.length = a.length) (hr : ∀ (i : Nat) s h, a[i]? = some s → x[i]? = some h → W.ownsRow m 3 1 h s.2.length (ints s.2) ∧ s.2.length ≤ 1048576) : ∀ u ∈ scs a x, u.oneCell' = true := by
  induction a generalizing x with
  | nil => intro u hu; simp [scs] at hu
  | cons s a ih =>
    cases x with
    | nil => cases h
    | cons v x =>
      intro u hu
      simp only [scs, List.mem_cons] at hu
      rcases hu with rfl | rfl | hu
      · rfl
      · obtain ⟨oa, cap, rfl⟩ := ownsRow_formS (hr 0 s u rfl rfl).1
        rfl
      · exact ih (by simpa using h) (fun i s h e1 e2 => hr (i + 1) s h (by simpa using e1) (by simpa using e2)) u hu
/-- behind an append onto the row, by blocks -/
theorem StG.snoc {m : Nat} {G G' : Bs} {A B : World} {l l2 : List Stp} {v v' : Value} {hs hs2 : List Value} (h1 : hs.length = l.length) (h2 : A.ownsRow m 36 2 v l.length (scs l hs)) (h3 : ∀ (i : Nat) s h, l[i]? = some s → hs[i]? = some h → (A.ownsRow m 3 1 h s.2.length (ints s.2) ∧ s.2.length ≤ 1048576) ∧ ∀ k, h.ownBlock = some k → G k)
    (k1 : hs2.length = l2.length) (k3 : ∀ (i : Nat) s h, l2[i]? = some s → hs2[i]? = some h → (A.ownsRow m 3 1 h s.2.length (ints s.2) ∧ s.2.length ≤ 1048576) ∧ ∀ k, h.ownBlock = some k → G' k)
    (ho : B.ownsRow m 36 2 v' (l.length + l2.length) (scs l hs ++ scs l2 hs2)) (hg : A.grownBy B v.ownBlock) (hv : ∀ k, v'.ownBlock = some k → G' k) (hGG : ∀ k, G k → G' k) : StG m G' B (l ++ l2) v' := by
  have keep : ∀ (h : Value) (s : Stp), A.ownsRow m 3 1 h s.2.length (ints s.2) → B.ownsRow m 3 1 h s.2.length (ints s.2) := fun h s ho => ho.kept hg (ownsRow_apart ho h2 (by decide))
  refine ⟨hs ++ hs2, by simp [h1, k1], by rw [scs_append h1, List.length_append]; exact ho, hv, fun i s h e1 e2 => ?_⟩
  by_cases hi : i < l.length
  · rw [List.getElem?_append_left hi] at e1
    rw [List.getElem?_append_left (by omega)] at e2
    exact ⟨⟨keep h s (h3 i s h e1 e2).1.1, (h3 i s h e1 e2).1.2⟩, fun k e => hGG k ((h3 i s h e1 e2).2 k e)⟩
  · rw [List.getElem?_append_right (by omega)] at e1 e2
    rw [h1] at e2
    exact ⟨⟨keep h s (k3 _ s h e1 e2).1.1, (k3 _ s h e1 e2).1.2⟩, (k3 _ s h e1 e2).2⟩
/-- how Redexes answers -/
def RedPost (n : Nat) (l : List RlV) (t : Tm) (k : Int) (e : Ending) (W : World) : Prop :=
  (∃ v, e = .returned (.tuple #[v, .int .i64 0]) ∧ SysOk l ∧ t.ok ∧ (1 ≤ k ∧ k ≤ 5) ∧ StOwn n W (flatS (choL k (rdx l t))) v) ∨
    (∃ c : Int, e = .returned (.tuple #[.slice none 0 0, .int .i64 c]) ∧ c ≠ 0 ∧ ¬ (SysOk l ∧ t.ok ∧ 1 ≤ k ∧ k ≤ 5))
/-- what Redexes has at hand between two rounds -/
structure RMem (n₀ n₁ LB : Nat) (w V : World) (X R : Bs) (pre : List Rdx) : Prop where
  ls : ∃ v G, Boxed V LB 26 v ∧ StG n₁ G V (flatS pre) v ∧ ∀ k, G k → ¬ un X R k ∧ k < V.heap.size ∧ n₁ ≤ k
  bl : Below n₀ w V
  ap : ∀ k, un X R k → n₁ ≤ k
  lz : LB < n₁ ∧ n₁ ≤ V.heap.size ∧ n₀ ≤ n₁
theorem RMem.fx {n₀ n₁ LB : Nat} {w A B : World} {X R X' R' : Bs} {pre : List Rdx} (h : RMem n₀ n₁ LB w A X R pre) (hf : Fx n₀ X X' A B) (hg : Rg X R X' R' A B) : RMem n₀ n₁ LB w B X' R' pre := by
  obtain ⟨v, G, h1, h2, h3⟩ := h.ls
  have hz := hf.size
  have hl := h.lz
  have hn : ∀ k, k < A.heap.size → ¬ un X R k → ¬ un X' R' k := fun k hk hx hx' => by
    rcases hx' with hx' | hx'
    · rcases hf.own k hx' with h4 | h4
      · exact hx (.inl h4)
      · omega
    · rcases hg.own k hx' with h4 | h4 | h4
      · exact hx (.inr h4)
      · exact hx (.inl h4)
      · omega
  refine ⟨⟨v, G, hf.heap h1 fun hx => by have := h.ap _ (.inl hx); omega, h2.kept (fun k hk => hf.block k (h3 k hk).2.1 (.inr fun hx => (h3 k hk).1 (.inl hx))) (fun _ h => h), fun k hk => ⟨hn k (h3 k hk).2.1 (h3 k hk).1, by have := (h3 k hk).2.1; omega, (h3 k hk).2.2⟩⟩, h.bl.trans (hf.below (by omega)), fun k hk => ?_, by omega⟩
  by_cases hx : un X R k
  · exact h.ap k hx
  · by_cases hlt : k < A.heap.size
    · exact absurd hk (hn k hlt hx)
    · omega

set_option maxRecDepth 100000 in
set_option maxHeartbeats 4000000 in
theorem redexesF_any (l : List RlV) (rv : Value) (t : Tm) (s : Value) (k : Int) (w : World) (hr : RulV w.heap.size w l rv) (hs : SlIs w.heap.size w t.ts s) (hl : l.length ≤ 1048576) (hlb : ∀ x ∈ sidesV l, x.1.bulk ≤ 1048576) (hb : t.bulk ≤ 1048576) :
    Calls Tryz.prog 46 #[rv, tmv t s, .int .i64 k] w fun e w' => RedPost w.heap.size l t k e w' ∧ Below w.heap.size w w' := by
  obtain ⟨oa, cap, rfl, -⟩ := hs.form
  obtain ⟨ra, rc, rfl⟩ := hr.shape
  have hb0 : Below w.heap.size w (w.alloc (.cells #[.string t.nm, .bool t.vr, .slice oa t.ts.length cap] 25)) := by go_grown
  have HCK := Lib.hid (rwcheck_any l (.slice ra l.length rc) t (.slice oa t.ts.length cap) _ (hr.carry hb0 hb0.size) (hs.carry hb0 hb0.size) hl hlb hb)
  have HR := Lib.hid hr
  have HS := Lib.hid hs
  have HB0 := Lib.hid hb0
  have HLB := Lib.hid hlb
  clear hr hs hb0 hlb
  refine (callsIn_wide (n := 9)).1 ?_
  refine callsIn_of_wp_marks Tryz.func46 rfl trivial ?_ rfl
  rw [show tmv t (.slice oa t.ts.length cap) = .agg #[.string t.nm, .bool t.vr, .slice oa t.ts.length cap] from rfl]
  simp only [Tryz.ntmps46, List.size_toArray, List.length_cons, List.length_nil, Nat.reduceAdd, Nat.reduceSub, Array.replicate_succ, Array.replicate_zero, List.push_toArray, List.append_toArray, List.nil_append, List.cons_append]
  gi_wp2_with fail
  refine ⟨trivial, (callsIn_wide.2 HCK.out).mono ?_⟩
  rintro e w1 ⟨⟨c, rfl, hc⟩, hb1⟩
  have hbw := HB0.out.trans (hb1.mono (by simp))
  have htb := (hb1.block w.heap.size (by simp)).trans (World.alloc_heap_new w _)
  obtain ⟨⟨x0, x1, x2⟩, -⟩ := box3 htb
  have HB1 := Lib.hid hbw
  have HC := Lib.hid hc
  have HTB := Lib.hid htb
  clear hb1 hbw hc HCK
  by_cases hc0 : c = 0
  case neg =>
    have hcb : (c != 0) = true := by rw [bne_iff_ne]; exact hc0
    have HC0 := Lib.hid hc0
    clear hc0
    gi_wp2_with fail
    refine ⟨.tuple #[.slice none 0 0, .int .i64 c], by simp [results, Tryz.f46, go_sem], .inr ⟨c, rfl, HC0.out, fun h => HC0.out (HC.out.2 ⟨h.1, h.2.1⟩)⟩, HB1.out⟩
  subst hc0
  have hok := HC.out.1 rfl
  have HOK := Lib.hid hok
  gi_wp2_with fail
  refine ⟨trivial, (callsIn_wide.2 (isStrategy_any k _)).mono ?_⟩
  rintro e w2 ⟨⟨b, rfl, hbk⟩, hw2⟩
  have hw3 := hw2.symm
  subst hw3
  clear hw2
  have HBK := Lib.hid hbk
  clear hbk
  cases b
  · gi_wp2_with fail
    refine ⟨.tuple #[.slice none 0 0, .int .i64 2], by simp [results, Tryz.f46, go_sem], .inr ⟨2, rfl, by decide, fun h => (by have := HBK.out.2 h.2.2; cases this)⟩, HB1.out⟩
  have hk15 := HBK.out.1 rfl
  have hz1 := HB1.out.size
  have hlz : w.heap.size < w1.heap.size := (Array.getElem?_eq_some_iff.1 htb).1
  have hsz := HOK.out.1.1
  have hlo : ∀ p ∈ l, p.1.1.ok ∧ p.1.1.bulk ≤ 1048576 := fun p hp => ⟨HOK.out.1.2.1 _ (sidesV_mem hp).1, HLB.out _ (sidesV_mem hp).1⟩
  have hto := HOK.out.2
  have htd : t.depth ≤ 1048576 := by have := hto.2.2; omega
  have hts : t.size ≤ 4000 := hto.2.1
  have HLO := Lib.hid hlo
  have hx8 := (Below.heap_alloc w1 (.cells #[.slice none 0 0] 26) w.heap.size hlz).trans htb
  obtain ⟨⟨a0, a1, a2⟩, -⟩ := box3 hx8
  have HS8 : Hid ((w1.alloc (.cells #[.slice none 0 0] 26)).drew.cell? ⟨w.heap.size, 0, none⟩ = some (.string t.nm) ∧ (w1.alloc (.cells #[.slice none 0 0] 26)).drew.cell? ⟨w.heap.size, 1, none⟩ = some (.bool t.vr) ∧ (w1.alloc (.cells #[.slice none 0 0] 26)).drew.cell? ⟨w.heap.size, 2, none⟩ = some (.slice oa t.ts.length cap)) := Lib.hid ⟨a0, a1, a2⟩
  have hb8 : Below w.heap.size w (w1.alloc (.cells #[.slice none 0 0] 26)).drew := (HB1.out.alloc hz1 _).drew
  have HB8 := Lib.hid hb8
  have HNF := Lib.hid (newFinder_any l (.slice ra l.length rc) _ (HR.out.carry hb8 hb8.size) hl fun p hp => ⟨(hlo p hp).2, by have := (hlo p hp).1.2.2; omega⟩)
  have HX8 := Lib.hid hx8
  clear hok hlo hx8 hb8 a0 a1 a2 htb x0 x1 x2
  gi_wp2_with fail
  refine wpIn_wide.2 ?_
  go_region_held3 (fun w' => w'.cell? ⟨w.heap.size, 0, none⟩ = some (.string t.nm) ∧ w'.cell? ⟨w.heap.size, 1, none⟩ = some (.bool t.vr) ∧ w'.cell? ⟨w.heap.size, 2, none⟩ = some (.slice oa t.ts.length cap)) (first | exact HS8.out | go_keep) ((first
    | (go_at_call 109
       refine HNF.out.mono ?_
       rintro e w4 ⟨⟨lv, rfl, hlv⟩, hb4⟩
       obtain ⟨lo, lc, rfl, -⟩ := ownsRow_formP hlv
       have hx4 := (hb4.block w.heap.size (by simp; omega)).trans HX8.out
       obtain ⟨⟨k0, k1, k2⟩, -⟩ := box3 hx4
       have HX4 := Lib.hid hx4
       have HLV := Lib.hid hlv
       have HB4 := Lib.hid hb4
       clear hx4 hlv hb4)
    | (go_at_call 110
       have hb4 := HB4.out
       have hb4w : Below w.heap.size w w4 := HB8.out.trans (hb4.mono (by simp; omega))
       refine (chosen_any l (.slice ra l.length rc) (.slice lo l.length lc) t (.slice oa t.ts.length cap) k w.heap.size (w1.heap.size + 1) w4 (by omega) (by have := hb4.size; simpa using this) (HS.out.carry hb4w (Nat.le_refl _)) (HR.out.carry hb4w (Nat.le_refl _)) (ownsRow_mono HLV.out (Nat.zero_le _)) (fun k e => .inl (by have := (HLV.out.lt k e).1; simpa using this)) hl HLO.out hto hb htd).mono ?_
       rintro e w5 ⟨⟨v5, X5, rfl, hv5⟩, hb5⟩
       obtain ⟨gf, lb, rfl, heg, hx5, hq5⟩ := hv5
       have hx55 := (hb5.block w.heap.size (by have := hb4.size; simp at this; omega)).trans HX4.out
       obtain ⟨⟨k0, k1, k2⟩, -⟩ := box3 hx55
       have hl5 : w5.heap[w1.heap.size]? = some (.cells #[.slice none 0 0] 26 (0, 0)) := (hb5.block _ (by have := hb4.size; simp at this; omega)).trans ((hb4.block _ (by simp)).trans (World.alloc_heap_new w1 _))
       have HL5 := Lib.hid hl5
       have HEG := Lib.hid heg
       have HX5 := Lib.hid hx5
       have HQ5 := Lib.hid hq5
       have HB5 := Lib.hid (hb4w.trans (hb5.mono hb4w.size))
       have HZ5 := Lib.hid (show w1.heap.size + 1 ≤ w5.heap.size by have := hb4.size; have := hb5.size; simp at *; omega)
       clear hb4 hb4w hb5 heg hx5 hq5 hx55 hl5)))
  have hz5 := HZ5.out
  have hM0 : RMem w.heap.size (w1.heap.size + 1) w1.heap.size w w5 X5 (fun _ => False) [] :=
    ⟨⟨_, fun _ => False, HL5.out, ⟨[], rfl, World.ownsRow_nil _ _ _ _, (fun k e => nomatch e), (fun i s h e => nomatch (show (none : Option Stp) = some s from e))⟩, (fun k h => h.elim)⟩, HB5.out, fun k hk => hk.elim (fun h => (HX5.out k h).1) False.elim, by omega⟩
  have HM0 := Lib.hid hM0
  obtain ⟨i3, hi2, hi3, hi4, hi5⟩ := info_parts infoStep
  have I2 := Lib.hid hi2
  have I3 := Lib.hid hi3
  have I4 := Lib.hid hi4
  have I5 := Lib.hid hi5
  clear hM0 hi2 hi3 hi4 hi5
  gi_wp2_with fail
  refine wpIn_rangeX rfl (by omega) (gf := gf) (lb := lb) rfl trivial HEG.out HQ5.out (fun _ => False) (by omega) (fun k hk => hk.elim (fun h => by have := HX5.out k h; omega) False.elim) (fun _ _ h => h) (fun x vs R W ⟨_, _, h, _⟩ => by rw [h]; rfl)
    (fun X R pre V => RMem w.heap.size (w1.heap.size + 1) w1.heap.size w V X R pre)
    (fun _ _ _ _ _ => False)
    (fun X R X' R' s A B h hf hg => h.fx hf hg) (fun _ _ _ _ _ _ _ _ h _ _ => h) HM0.out ?round ?done ?stop
  case round =>
    rintro lq X R pre x vs V r₀ hM ⟨pv, rv, rfl, hel⟩ hxb hdis hXl hml hrl hms hpre
    obtain ⟨po, pc, rfl, -⟩ := ownsRow_formP hel.pos
    obtain ⟨ro, rc2, rfl, -⟩ := ownsRow_formP hel.rules
    simp only [Array.zip]
    gi_wp2
    have hnz : w.heap.size ≤ V.heap.size := by have := hM.lz; omega
    have hB1 : Below V.heap.size V (V.alloc (.cells #[.slice po x.1.length pc, .slice ro x.2.length rc2] 182)) := by go_grown
    refine ⟨Kx.of_below hB1 hnz hxb, fun r => ?_⟩
    have hlV := (hxb lq (.inl hXl)).2
    obtain ⟨V2, hV2⟩ : ∃ V2, V2 = (V.alloc (.cells #[.slice po x.1.length pc, .slice ro x.2.length rc2] 182)).putObj lq (.loop r) := ⟨_, rfl⟩
    have hfa : Fx w.heap.size X X V V2 := by rw [hV2]; exact (Fx.of_below X hB1).trans (Fx.put _ (hxb lq (.inl hXl)).1 hXl)
    have hz2 : V2.heap.size = V.heap.size + 1 := by rw [hV2]; simp
    have hrga : Rg X R X R V V2 := Rg.own_new hdis
    have hM2 := hM.fx hfa hrga
    have hxb2 := hrga.xb hfa hnz hxb
    have hbu : V2.heap[V.heap.size]? = some (.cells #[.slice po x.1.length pc, .slice ro x.2.length rc2] 182 (0, 0)) := by
      rw [hV2, World.putObj_heap_other (by omega)]; exact World.alloc_heap_new V _
    have hel2 : RdIs w.heap.size x (.slice po x.1.length pc) (.slice ro x.2.length rc2) R V2 := hel.on (fun _ h => h) fun k hk => hfa.block k (hxb k (.inr hk)).2 (.inr fun h => hdis k h hk)
    obtain ⟨v, G, hbx, hst, hG⟩ := hM2.ls
    obtain ⟨hs, hs1, hs2, hs3, hs4⟩ := hst
    obtain ⟨vo, vc, rfl⟩ := ownsRow_formS hs2
    have c0 := cells_of hbu 0
    have c1 := cells_of hbu 1
    have t0 := hbx.cell
    simp only [List.getElem?_toArray, List.getElem?_cons_zero, List.getElem?_cons_succ] at c0 c1
    have hlzz := hM2.lz
    have hmax := stepsOf_max hsz hts hpre
    have HST := Lib.hid (steps_any w.heap.size x (.slice po x.1.length pc) (.slice ro x.2.length rc2) V2.drew hel2.pos hel2.rules hel2.plen hel2.rlen)
    have HM2 := Lib.hid hM2
    have HEL := Lib.hid hel2
    have HBU := Lib.hid hbu
    have HBX := Lib.hid hbx
    have HXB := Lib.hid hxb2
    have H1 := Lib.hid hs1
    have H2 := Lib.hid hs2
    have H3 := Lib.hid hs3
    have H4 := Lib.hid hs4
    have HG := Lib.hid hG
    have hS : V2.drew.cell? ⟨w1.heap.size, 0, none⟩ = some (.slice vo (flatS pre).length vc) ∧ V2.drew.cell? ⟨V.heap.size, 0, none⟩ = some (.slice po x.1.length pc) ∧ V2.drew.cell? ⟨V.heap.size, 1, none⟩ = some (.slice ro x.2.length rc2) := ⟨t0, c0, c1⟩
    rw [← hV2]
    have hlt1 : w1.heap.size < V2.heap.size := by omega
    have hlt2 : V.heap.size < V2.heap.size := by omega
    clear hM hel hxb hfa hrga hM2 hV2 hxb2 hbu hB1 hpre hrl hel2 hdis hbx hs1 hs2 hs3 hs4 hG
    gi_wp2_with fail
    refine wpIn_region_hj (S := fun w' => w'.cell? ⟨w1.heap.size, 0, none⟩ = some (.slice vo (flatS pre).length vc) ∧ w'.cell? ⟨V.heap.size, 0, none⟩ = some (.slice po x.1.length pc) ∧ w'.cell? ⟨V.heap.size, 1, none⟩ = some (.slice ro x.2.length rc2)) (by kernel_rfl) hS (fun _ => ?_)
    simp only [List.size_toArray, List.length_cons, List.length_nil, Nat.reduceAdd]
    refine wpHJ_take (i := 0) (v := ?_) (wide_fn _) (by kernel_rfl) (by kernel_rfl) (by simp only [List.getElem?_toArray, List.getElem?_cons_zero]; rfl) (by kernel_rfl) (by kernel_rfl) (by kernel_rfl) (fun _ _ _ h => h) (Or.inl ⟨by rfl, ?_⟩) hS ?_
    case refine_2 => (intro ww hSw; obtain ⟨s1, s2, s3⟩ := hSw; go_simp; try with_reducible rfl)
    try simp only [Act.put, List.setIfInBounds_toArray, List.set_cons_zero, List.set_cons_succ]
    refine wpHJ_take (i := 1) (v := ?_) (wide_fn _) (by kernel_rfl) (by kernel_rfl) (by simp only [List.getElem?_toArray, List.getElem?_cons_zero, List.getElem?_cons_succ]; rfl) (by kernel_rfl) (by kernel_rfl) (by kernel_rfl) (fun _ _ _ h => h) (Or.inl ⟨by rfl, ?_⟩) hS ?_
    case refine_2 => (intro ww hSw; obtain ⟨s1, s2, s3⟩ := hSw; go_simp; try with_reducible rfl)
    try simp only [Act.put, List.setIfInBounds_toArray, List.set_cons_zero, List.set_cons_succ]
    refine wpHJ_one (i := 2) (wide_fn _) (by kernel_rfl) (by kernel_rfl) (by simp only [List.getElem?_toArray, List.getElem?_cons_zero, List.getElem?_cons_succ]; rfl) (by rfl) (fun K' hK => ?_)
    go_simp
    refine (CallsIn.inRound lq (callsIn_wide.2 HST.out)).mono ?_
    rintro e w6 ⟨⟨v6, rfl, hv6⟩, hb6⟩
    have hb6v : Below V2.heap.size V2 w6 := ((Below.refl _ V2).drew).trans hb6
    obtain ⟨qo, qc, rfl⟩ := hv6.form
    have hbx6 := (hb6v.block w1.heap.size hlt1).trans HBX.out
    have hbu6 := (hb6v.block V.heap.size hlt2).trans HBU.out
    have t6 := cells_of hbx6 0
    have d6 := cells_of hbu6 0
    have e6 := cells_of hbu6 1
    simp only [List.getElem?_toArray, List.getElem?_cons_zero, List.getElem?_cons_succ] at t6 d6 e6
    have hS6 : w6.cell? ⟨w1.heap.size, 0, none⟩ = some (.slice vo (flatS pre).length vc) ∧ w6.cell? ⟨V.heap.size, 0, none⟩ = some (.slice po x.1.length pc) ∧ w6.cell? ⟨V.heap.size, 1, none⟩ = some (.slice ro x.2.length rc2) := ⟨t6, d6, e6⟩
    have g6 : w6.frozen? ⟨w1.heap.size, 0, none⟩ = false := by simp [World.frozen?, hbx6]
    have HB6 := Lib.hid hb6v
    have HV6 := Lib.hid hv6
    have HX6 := Lib.hid hbx6
    have HU6 := Lib.hid hbu6
    clear hb6 hb6v hv6 hbx6 hbu6
    refine hK.out _ _ (.inr hS6) ?_
    clear hK
    try simp only [Act.put, List.setIfInBounds_toArray, List.set_cons_zero, List.set_cons_succ]
    refine wpHJ_one (i := 3) (wide_fn _) (by kernel_rfl) (by kernel_rfl) (by simp only [List.getElem?_toArray, List.getElem?_cons_zero, List.getElem?_cons_succ]; rfl) (by rfl) (fun K' hK => ?_)
    have hz6 := HB6.out.size
    have h2b := row_keptS H2.out fun j e => HB6.out.block j (H2.out.lt j e).2
    obtain ⟨hs6, q1, q2, q3⟩ := HV6.out
    by_cases hne : (stepsOf x).length = 0
    · exact absurd (by rw [stepsOf_length] at hne; exact List.eq_nil_of_length_eq_zero hne) HEL.out.ne
    obtain ⟨gq, hgq⟩ : ∃ g, qo = some ⟨g, 0, none⟩ := by
      rcases q2.2 with ⟨h, h2⟩ | ⟨g, cp, cur, h, _⟩
      · exact absurd h2 hne
      · exact ⟨g, by cases h; rfl⟩
    subst hgq
    refine upon_append_own w6 _ _ 26 rfl (w1.heap.size + 1) 36 i3 (.agg #[.int .i64 0, .slice none 0 0]) 2 32 Tryz.underlying26 I2.out I3.out I4.out I5.out rfl (by decide) (.slice vo (flatS pre).length vc) (flatS pre).length (scs (flatS pre) hs) rfl h2b ⟨gq, 0, none⟩ (stepsOf x).length qc (scs (stepsOf x) hs6) rfl (scs_length q1) (q2.cells rfl) (fun u hu => scs_one q1 q3 u hu) (by unfold maxLen; omega) (by omega) (by omega) ?_
    intro v7 w7 ho7 hg7 hat7
    obtain ⟨wo, wc, rfl⟩ := ownsRow_formS ho7
    have hne1 : (Value.slice vo (flatS pre).length vc).ownBlock ≠ some w1.heap.size := row_not HX6.out (by decide) h2b
    have hne2 : (Value.slice vo (flatS pre).length vc).ownBlock ≠ some V.heap.size := row_not HU6.out (by decide) h2b
    have hbx7 := (hg7.block w1.heap.size (by omega) (fun e => hne1 e.symm)).trans HX6.out
    have hbu7 := (hg7.block V.heap.size (by omega) (fun e => hne2 e.symm)).trans HU6.out
    have t7 := cells_of hbx7 0
    have d7 := cells_of hbu7 0
    have e7 := cells_of hbu7 1
    simp only [List.getElem?_toArray, List.getElem?_cons_zero, List.getElem?_cons_succ] at t7 d7 e7
    have hS7 : w7.cell? ⟨w1.heap.size, 0, none⟩ = some (.slice vo (flatS pre).length vc) ∧ w7.cell? ⟨V.heap.size, 0, none⟩ = some (.slice po x.1.length pc) ∧ w7.cell? ⟨V.heap.size, 1, none⟩ = some (.slice ro x.2.length rc2) := ⟨t7, d7, e7⟩
    have g7 : w7.frozen? ⟨w1.heap.size, 0, none⟩ = false := by simp [World.frozen?, hbx7]
    have hown7 : ∀ k, (Value.slice wo ((flatS pre).length + (stepsOf x).length) wc).ownBlock = some k → G k ∨ (V2.heap.size ≤ k ∧ k < w7.heap.size) := fun k e => by
      have h77 := ho7.lt k e
      rcases hat7 with h | h
      · exact .inl (H3.out k (h ▸ e))
      · have hkk : k = w6.heap.size := by rw [h] at e; exact (Option.some.inj e).symm
        exact .inr (by omega)
    have hst7 : StG (w1.heap.size + 1) (fun k => G k ∨ (V2.heap.size ≤ k ∧ k < w7.heap.size)) w7 (flatS (pre ++ [x])) (.slice wo ((flatS pre).length + (stepsOf x).length) wc) := by
      rw [flatS_snoc]
      exact StG.snoc (v := .slice vo (flatS pre).length vc) (G := G) H1.out h2b (fun i s h e1 e2 => ⟨⟨row_kept (H4.out i s h e1 e2).1.1 fun j e => HB6.out.block j ((H4.out i s h e1 e2).1.1.lt j e).2, (H4.out i s h e1 e2).1.2⟩, (H4.out i s h e1 e2).2⟩) q1 (fun i s h e1 e2 => ⟨⟨ownsRow_mono (q3 i s h e1 e2).1 (by simp only [World.drew]; omega), (q3 i s h e1 e2).2⟩, fun k e => .inr (by have h5 := (q3 i s h e1 e2).1.lt k e; have h6 := hg7.size; simp only [World.drew] at h5; omega)⟩) ho7 hg7 hown7 (fun k h => .inl h)
    have hz7 := hg7.size
    have hin7 : ∀ k, k < V2.heap.size → un X R k → w7.heap[k]? = V2.heap[k]? := fun k hk hx => (hg7.block k (by omega) (fun e => (HG.out k (H3.out k e.symm)).1 hx)).trans (HB6.out.block k hk)
    have hbl7 : Below w.heap.size V2 w7 := (HB6.out.mono (by omega)).grown hg7 (by omega) (fun j e => by have := (h2b.lt j e).1; omega)
    have HS7 := Lib.hid hst7
    have HX7 := Lib.hid hbx7
    have HIN := Lib.hid hin7
    have HBL := Lib.hid hbl7
    have HAT := Lib.hid hat7
    have HZ7 := Lib.hid hz7
    have HG7 := Lib.hid hg7
    have HO7 := Lib.hid ho7
    clear hown7 hst7 hbx7 hbu7 hin7 hbl7 hat7 hg7 ho7 q1 q2 q3 h2b hne1 hne2
    refine hK.out _ _ (.inr hS7) ?_
    clear hK
    try simp only [Act.put, List.setIfInBounds_toArray, List.set_cons_zero, List.set_cons_succ]
    refine wpHJ_one (i := 4) (wide_fn _) (by kernel_rfl) (by kernel_rfl) (by simp only [List.getElem?_toArray, List.getElem?_cons_zero, List.getElem?_cons_succ]; rfl) (by rfl) (fun K' hK => ?_)
    go_simp
    refine hK.out _ _ (.inl (by kernel_rfl)) ?_
    clear hK
    try simp only [Act.put, List.setIfInBounds_toArray, List.set_cons_zero, List.set_cons_succ]
    refine wpHJ_done (by kernel_rfl) ?_ _
    gi_wp2_with fail
    have hM9 := HM2.out
    have hst9 := HS7.out
    have hbx9 : Boxed w7 w1.heap.size 26 (Value.slice vo (flatS pre).length vc) := HX7.out
    have hz9 := hM9.lz
    have hz7 := HZ7.out
    have hz6 := HB6.out.size
    have hbe : Below w.heap.size V2 (w7.setCell { block := w1.heap.size, off := 0 } (Value.slice wo ((flatS pre).length + (stepsOf x).length) wc)) := HBL.out.setCell (p := ⟨w1.heap.size, 0, none⟩) (by omega) _
    have hzs : (w7.setCell { block := w1.heap.size, off := 0 } (Value.slice wo ((flatS pre).length + (stepsOf x).length) wc)).heap.size = w7.heap.size := by simp [World.setCell]
    have hkp : ∀ j, j ≠ w1.heap.size → (w7.setCell { block := w1.heap.size, off := 0 } (Value.slice wo ((flatS pre).length + (stepsOf x).length) wc)).heap[j]? = w7.heap[j]? := fun j hj => Below.heap_setCell w7 ⟨w1.heap.size, 0, none⟩ _ j hj
    have hlen9 : (flatS (pre ++ [x])).length = (flatS pre).length + (stepsOf x).length := by rw [flatS_snoc, List.length_append]
    refine ⟨⟨hbe, fun k hk => (hkp k (by have := hM9.ap k hk; omega)).trans (HIN.out k (HXB.out k hk).2 hk)⟩, ⟨_, (fun k => G k ∨ (V2.heap.size ≤ k ∧ k < w7.heap.size)), hbx9.set _, hst9.kept (fun k hk => hkp k ?_) (fun _ h => h), fun k hk => ?_⟩, hM9.bl.trans hbe, hM9.ap, by omega⟩
    · rcases hk with hk | hk
      · have := (HG.out k hk).2.2; omega
      · omega
    · rcases hk with hk | hk
      · have := HG.out k hk; exact ⟨this.1, by omega, this.2.2⟩
      · exact ⟨fun h => by have := (HXB.out k h).2; omega, by omega, by omega⟩
  case done =>
    rintro D X R V hD hXD hM hxb hdis hKD
    obtain ⟨v, G, hbx, hst, hG⟩ := hM.ls
    obtain ⟨vo, vc, rfl⟩ := hst.own.form
    have t0 := hbx.cell
    have HM := Lib.hid hM
    have HSW := Lib.hid hst.own
    have hlzz := hM.lz
    clear hM hbx hst hG
    gi_wp2_with fail
    refine ⟨by simp, .inl ⟨_, _, rfl, run_takeDeferred hKD, ?_⟩⟩
    refine ⟨.tuple #[.slice vo (flatS (choL k (rdx l t))).length vc, .int .i64 0], by simp [results, Tryz.f46, go_sem], .inl ⟨_, rfl, HOK.out.1, HOK.out.2, hk15, ?_⟩, ?_⟩
    · obtain ⟨hs, h1, h2, h3⟩ := HSW.out
      have key : ∀ (m s : Nat) (e : TypeId) (u : Value) (n : Nat) (xs : List Value), V.ownsRow m e s u n xs → (V.putObj D (.deferred none)).ownsRow m e s u n xs := fun m s e u n xs ho => row_keptS ho fun j ej => World.putObj_heap_other fun e2 => by
        subst e2
        obtain ⟨o, h4, h5⟩ := row_cells ho ej
        rw [hKD] at h4; cases h4; cases h5
      exact StOwn.mono ⟨hs, h1, key _ _ _ _ _ _ h2, fun i s h e1 e2 => ⟨key _ _ _ _ _ _ (h3 i s h e1 e2).1, (h3 i s h e1 e2).2⟩⟩ (by omega)
    · exact HM.out.bl.trans (belowK_b (w := w) (Nat.le_refl _) V D _ _ (by omega) hKD rfl rfl)
  case stop =>
    rintro D c X R pre V hD hXD hp h
    exact h.elim
end Go.Proofs.YtamddagmlanijaaGreat
