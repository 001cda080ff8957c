/- Packed: Stt, Hld. -/
import Derived.Test.YtamddagmlanijaaGreatP23
import Derived.Test.YtamddagmlanijaaGreatP17
/- start(all): an iterator over the first redex of another iterator. -/
namespace Go.Proofs.YtamddagmlanijaaGreat
open Go.RowKit Go.Shelf
attribute [local go_sem] Oper.semAt_some

/-- the start of an iterator over an iterator: yield is boxed -/
structure Begin (n₀ lp : Nat) (X₀ X₁ R₀ : Bs) (W w1 : World) : Prop where
  f : Fx n₀ X₁ (fun k => X₁ k ∨ (W.heap.size ≤ k ∧ k < w1.heap.size)) W w1
  g : Rg X₁ R₀ (fun k => X₁ k ∨ (W.heap.size ≤ k ∧ k < w1.heap.size)) R₀ W w1
  m : YMem n₀ W.heap.size lp w1 X₀ (fun _ => False) (fun k => X₁ k ∨ (W.heap.size ≤ k ∧ k < w1.heap.size)) R₀
theorem begin_of {n₀ lp : Nat} {X₀ X₁ R₀ : Bs} {W w1 : World} (hn : n₀ ≤ W.heap.size) (h01 : ∀ k, X₀ k → X₁ k) (hX : XB n₀ X₁ W) (hR : XB n₀ R₀ W) (hd : ∀ k, X₁ k → ¬ R₀ k) (hb : Below W.heap.size W w1) (hz : W.heap.size < w1.heap.size)
    (hy : w1.heap[W.heap.size]? = some (.cells #[.func (.yield lp) #[] #[]] 306 (0, 0))) : Begin n₀ lp X₀ X₁ R₀ W w1 := by
  have f : Fx n₀ X₁ (fun k => X₁ k ∨ (W.heap.size ≤ k ∧ k < w1.heap.size)) W w1 := Fx.grown (below_grown hb) (fun r e => by cases e)
  have g : Rg X₁ R₀ (fun k => X₁ k ∨ (W.heap.size ≤ k ∧ k < w1.heap.size)) R₀ W w1 := Rg.same hd hR f.own
  exact ⟨f, g, ⟨fun k hk => .inl (h01 k hk), fun _ h => h.elim, g.xb f hn (fun k hk => hk.elim (hX k) (hR k)), g.dis, .inr (by omega), fun hx => by have := hX _ (h01 _ hx); omega, hy, by omega⟩⟩

set_option maxRecDepth 100000 in
set_option maxHeartbeats 1000000 in
theorem start_any (gf : Nat) (lb : Array Value) (w : World) :
    Calls Tryz.prog 185 #[.func (.func gf) #[] lb] w fun e w' => e = .returned (.func (.func 249) #[] #[.pointer (some ⟨w.heap.size, 0, none⟩)]) ∧ w' = w.alloc (.cells #[.func (.func gf) #[] lb] 175) := by
  go_enter Tryz.func185, Tryz.ntmps185
  go_wp2
  go_ret
  exact ⟨rfl, rfl⟩

set_option maxRecDepth 100000 in
set_option maxHeartbeats 4000000 in
theorem start_seq (gf : Nat) (lb : Array Value) (L : List Rdx) (n₀ Ba : Nat) (X₀ X₁ : Bs) (w : World) (hseq : SeqX Fence.wide Tryz.prog gf lb (ElR n₀) L n₀ X₀ w) (eg : ∀ args w, (callFunc gf args).run Tryz.prog w = .ok (.enter gf args) w) (hn : n₀ ≤ w.heap.size)
    (h01 : ∀ k, X₀ k → X₁ k) (hX : XB n₀ X₁ w) (hB : X₁ Ba) (hbx : w.heap[Ba]? = some (.cells #[.func (.func gf) #[] lb] 175 (0, 0))) :
    SeqX Fence.wide Tryz.prog 249 #[.pointer (some ⟨Ba, 0, none⟩)] (ElR n₀) (L.take 1) n₀ X₁ w := by
  intro n lp J Jx R₀ W hW hXW hR₀ hd₀ hJ hJx hY hJ0
  have hz := hW.size
  have hxb : XB n₀ X₁ W := fun k hk => by have := hX k hk; omega
  have hbW := (hXW Ba hB).trans hbx
  have hb1 := (Below.heap_alloc W (.cells #[.func (.yield lp) #[] #[]] 306) Ba (Array.getElem?_eq_some_iff.1 hbW).1).trans hbW
  have b0 := cells_of hb1 0
  simp only [List.getElem?_toArray, List.getElem?_cons_zero] at b0
  obtain ⟨w1, hw1⟩ : ∃ w1, w1 = W.alloc (.cells #[.func (.yield lp) #[] #[]] 306) := ⟨_, rfl⟩
  have hB0 : Below W.heap.size W w1 := by rw [hw1]; go_grown
  have hz1 : w1.heap.size = W.heap.size + 1 := by rw [hw1]; simp
  have hnW : n₀ ≤ W.heap.size := by omega
  have hbg : Begin n₀ lp X₀ X₁ R₀ W w1 := begin_of hnW h01 hxb hR₀ hd₀ hB0 (by omega) (by rw [hw1]; exact World.alloc_heap_new W _)
  have hM0 := hbg.m
  have hJ1 := hJ _ _ _ _ _ _ _ hJ0 hbg.f hbg.g
  have hs1 : SeqX Fence.wide Tryz.prog gf lb (ElR n₀) L n₀ X₀ w1 := hseq.later (hW.trans (hB0.mono hnW)) fun k hk => (hB0.block k (hxb k (h01 k hk)).2).trans (hXW k (h01 k hk))
  have HY := Lib.hid hY
  have HJ := Lib.hid hJ
  have HJx := Lib.hid hJx
  have HEG := Lib.hid eg
  clear hY hJ hJx hseq hbx hbW hb1 hbg hJ0 hB0 eg
  refine callsIn_wide.2 ((callsIn_wide (n := 9)).1 ?_)
  refine callsIn_of_wp_marks Tryz.func249 rfl trivial ?_ rfl
  simp only [Tryz.ntmps249, List.size_toArray, List.length_cons, List.length_nil, Nat.reduceAdd, Nat.reduceSub, Array.replicate_succ, Array.replicate_zero, List.push_toArray, List.append_toArray, List.nil_append, List.cons_append]
  gi_wp2_with fail
  rw [← hw1]
  clear hw1 b0
  refine wpIn_rangeX rfl (by omega) (gf := gf) (lb := lb) rfl trivial HEG.out hs1 (fun _ => False) (by omega) (fun k hk => hk.elim (fun h => by have := hxb k (h01 k h); omega) False.elim) (fun _ _ h => h) (fun x vs R W ⟨_, _, h, _⟩ => by rw [h]; rfl)
    (fun X R pre V => pre = [] ∧ ∃ Y S, YMem n₀ W.heap.size lp V X R Y S ∧ J Y S [] V)
    (fun c X R pre V => c = .ret ∧ ∃ x Y S, pre = [x] ∧ YMem n₀ W.heap.size lp V X R Y S ∧ (J Y S [x] V ∨ Jx Y S [x] V))
    (fun X R X' R' s A B ⟨h1, Y, S, h, hj⟩ hf hg => by
      obtain ⟨f, g, m⟩ := h.step hf hg
      exact ⟨h1, _, _, m, HJ.out _ _ _ _ _ _ _ hj f g⟩)
    (fun c X R X' R' s A B ⟨h1, x, Y, S, h0, h, hj⟩ hf hg => by
      obtain ⟨f, g, m⟩ := h.step hf hg
      exact ⟨h1, x, _, _, h0, m, hj.imp (fun h => HJ.out _ _ _ _ _ _ _ h f g) (fun h => HJx.out _ _ _ _ _ _ _ h f g)⟩)
    ⟨rfl, _, _, hM0, hJ1⟩ ?round ?done ?stop
  case round =>
    rintro lq X R pre x vs V r₀ ⟨rfl, Y, S, hM, hj⟩ ⟨pv, rv, rfl, hel⟩ hxb hdis hXl hml hrl hms hpre
    obtain ⟨po, pc, rfl, -⟩ := ownsRow_formP hel.pos
    obtain ⟨ro, rc, rfl, -⟩ := ownsRow_formP hel.rules
    simp only [Array.zip]
    gi_wp2
    have hB1 : Below V.heap.size V (V.alloc (.cells #[.slice po x.1.length pc, .slice ro x.2.length rc] 182)) := by go_grown
    refine ⟨Kx.of_below hB1 hM.nz hxb, fun r => ?_⟩
    have hlV := (hxb lq (.inl hXl)).2
    obtain ⟨V2, hV2⟩ : ∃ V2, V2 = (V.alloc (.cells #[.slice po x.1.length pc, .slice ro x.2.length rc] 182)).putObj lq (.loop r) := ⟨_, rfl⟩
    have hfa : Fx n₀ X X V V2 := by rw [hV2]; exact (Fx.of_below X hB1).trans (Fx.put _ (hxb lq (.inl hXl)).1 hXl)
    have hz2 : V2.heap.size = V.heap.size + 1 := by rw [hV2]; simp
    have hrga : Rg X R X R V V2 := Rg.own_new hdis
    obtain ⟨f2, g2, hM2⟩ := hM.step hfa hrga
    have hj2 := HJ.out _ _ _ _ _ _ _ hj f2 g2
    obtain ⟨Y2, hY2⟩ : ∃ Y2 : Bs, Y2 = stepY Y R V V2 := ⟨_, rfl⟩
    obtain ⟨S2, hS2⟩ : ∃ S2 : Bs, S2 = un S R := ⟨_, rfl⟩
    rw [← hY2, ← hS2] at hM2 hj2
    have hxb2 := hrga.xb hfa hM.nz hxb
    have hbu : V2.heap[V.heap.size]? = some (.cells #[.slice po x.1.length pc, .slice ro x.2.length rc] 182 (0, 0)) := by
      rw [hV2, World.putObj_heap_other (by omega)]; exact World.alloc_heap_new V _
    have hel2 : RdIs n₀ x (.slice po x.1.length pc) (.slice ro x.2.length rc) S2 V2 := hel.on hM2.rs fun k hk => hfa.block k (hxb k (.inr hk)).2 (.inr fun h => hdis k h hk)
    have c0 := cells_of hbu 0
    have c1 := cells_of hbu 1
    have y0 := cells_of hM2.ybx 0
    simp only [List.getElem?_toArray, List.getElem?_cons_zero, List.getElem?_cons_succ] at c0 c1 y0
    obtain ⟨fn, tmps, assign, body, hy, hRd⟩ := HY.out Y2 S2 [] x #[.agg #[.slice po x.1.length pc, .slice ro x.2.length rc]] V2 hj2 ⟨_, _, rfl, hel2⟩ hM2.yB hM2.dis hM2.nz (by
      obtain ⟨z, hz⟩ := hpre
      rw [← hz]; exact ⟨[], by simp⟩)
    have HRD := Lib.hid (show RoundIn (Fence.wide.inRound lq) 6 Tryz.prog lp fn tmps assign body V2 _ from roundAny rfl hRd)
    have HM2 := Lib.hid hM2
    rw [← hV2]
    clear hM hj hel hxb hfa hrga f2 g2 hM2 hj2 hV2 hY2 hS2 hxb2 hbu hB1 hpre hrl hel2 hRd hdis
    gi_wp2_with fail
    refine HRD.out.mono ?_
    have fin : ∀ W', Kx n₀ (un Y2 S2) V2 W' → (J Y2 S2 [x] W' ∨ Jx Y2 S2 [x] W') → Kx n₀ (un X R) V2 W' ∧ ∃ x' Y' S', [] ++ [x] = [x'] ∧ YMem n₀ W.heap.size lp W' X R Y' S' ∧ (J Y' S' [x'] W' ∨ Jx Y' S' [x'] W') := fun W' hk hj =>
      ⟨hk.less HM2.out.unl, x, Y2, S2, rfl, HM2.out.kx hk, hj⟩
    rintro e W' (⟨rfl, hj, hk⟩ | ⟨rfl, hj, hk⟩)
    · have HF := Lib.hid (fin W' hk (.inl hj))
      clear hj hk fin hy
      gi_wp2_with fail
      exact ⟨HF.out.1, rfl, HF.out.2⟩
    · have HF := Lib.hid (fin W' hk (.inr hj))
      clear hj hk fin hy
      gi_wp2_with fail
      exact ⟨HF.out.1, rfl, HF.out.2⟩
  case done =>
    rintro D X R V hD hXD ⟨hL, Y, S, hM, hj⟩ hxb hdis hK
    have HM := Lib.hid hM
    have HJd := Lib.hid hj
    clear hM hj
    gi_wp2
    refine ⟨by simp, .inl ⟨_, _, rfl, run_takeDeferred hK, ?_⟩⟩
    obtain ⟨h1, h2, h3⟩ := HM.out.last HJ.out HJd.out (HM.out.xy D hXD)
    exact ⟨_, results_none rfl _ _ _, ⟨_, rfl⟩, Y, S, h1, HM.out.dis, .inl (by rw [hL]; exact h2)⟩
  case stop =>
    rintro D c X R pre V hD hXD hp ⟨rfl, x, Y, S, rfl, hM, hj⟩ hxb hdis hK
    have HM := Lib.hid hM
    have HJd := Lib.hid hj
    have hL : L.take 1 = [x] := by
      obtain ⟨z, hz⟩ := hp
      rw [← hz]; simp
    have HL := Lib.hid hL
    clear hM hj hL
    gi_wp2
    refine ⟨by simp, .inl ⟨_, _, rfl, run_takeDeferred hK, ?_⟩⟩
    refine ⟨_, results_none rfl _ _ _, ⟨_, rfl⟩, Y, S, (HM.out.last (β := Unit) (J := fun _ _ _ _ => True) (s := ()) (fun _ _ _ _ _ _ _ _ _ _ => trivial) trivial (HM.out.xy D hXD)).1, HM.out.dis, ?_⟩
    rw [HL.out]
    rcases HJd.out with hj | hj
    · exact .inl (HM.out.last HJ.out hj (HM.out.xy D hXD)).2.1
    · exact .inr ⟨_, List.prefix_refl _, (HM.out.last HJx.out hj (HM.out.xy D hXD)).2.1⟩
end Go.Proofs.YtamddagmlanijaaGreat
/- A redex that an iterator holds in a slice of one, behind a variable of its own. -/
namespace Go.Proofs.YtamddagmlanijaaGreat
open Go.RowKit Go.Shelf

/-- the variable hb holds the redex, or none -/
structure HeldAt (n₀ hb : Nat) (top : Option Rdx) (X Y S : Bs) (W : World) : Prop where
  own : Y hb
  nx : ¬ X hb
  val : (top = none ∧ W.heap[hb]? = some (.cells #[.slice none 0 0] 307 (0, 0))) ∨
    ∃ y hc pv rv, top = some y ∧ W.heap[hb]? = some (.cells #[.slice (some ⟨hc, 0, none⟩) 1 1] 307 (0, 0)) ∧ Y hc ∧ ¬ X hc ∧ hb ≠ hc ∧ W.heap[hc]? = some (.cells #[pv, rv] 182 (0, 0)) ∧ RdIs n₀ y pv rv S W
section
variable {n₀ yb lp hb : Nat} {A B : World} {X R X' R' Y S : Bs} {top : Option Rdx}
theorem HeldAt.step (h : HeldAt n₀ hb top X Y S A) (m : YMem n₀ yb lp A X R Y S) (hf : Fx n₀ X X' A B) (hg : Rg X R X' R' A B) : HeldAt n₀ hb top X' (stepY Y R' A B) (un S R') B := by
  obtain ⟨o1, o2, o3⟩ := m.own hf hg h.own h.nx
  refine ⟨o1, o2, h.val.imp (fun ⟨h1, h2⟩ => ⟨h1, o3.trans h2⟩) fun ⟨y, hc, pv, rv, h1, h2, h3, h4, h5, h6, h7⟩ => ?_⟩
  obtain ⟨p1, p2, p3⟩ := m.own hf hg h3 h4
  exact ⟨y, hc, pv, rv, h1, o3.trans h2, p1, p2, h5, p3.trans h6, h7.on (fun _ h => .inl h) fun k hk => hf.block k (m.yB k (.inr hk)).2 (.inr fun hx => m.dis k (m.xy k hx) hk)⟩
theorem HeldAt.kx (h : HeldAt n₀ hb top X Y S A) (hk : Kx n₀ (un Y S) A B) : HeldAt n₀ hb top X Y S B :=
  ⟨h.own, h.nx, h.val.imp (fun ⟨h1, h2⟩ => ⟨h1, hk.heap h2 (.inl h.own)⟩) fun ⟨y, hc, pv, rv, h1, h2, h3, h4, h5, h6, h7⟩ => ⟨y, hc, pv, rv, h1, hk.heap h2 (.inl h.own), h3, h4, h5, hk.heap h6 (.inl h3), h7.on (fun _ h => h) fun k hs => hk.kept k (.inr hs)⟩⟩
theorem HeldAt.below (h : HeldAt n₀ hb top X Y S A) (m : YMem n₀ yb lp A X R Y S) (hbl : Below A.heap.size A B) : HeldAt n₀ hb top X Y S B := h.kx (Kx.of_below hbl m.nz m.yB)
/-- another redex is held -/
theorem HeldAt.set {x : Rdx} {pv rv : Value} {v : Value} (h : HeldAt n₀ hb top X Y S A) (m : YMem n₀ yb lp A X R Y S) (hx : RdIs n₀ x pv rv S A) (hv : v = .slice (some ⟨A.heap.size, 0, none⟩) 1 1) :
    HeldAt n₀ hb (some x) X (fun k => Y k ∨ (A.heap.size ≤ k ∧ k < A.heap.size + 1)) S ((A.alloc (.cells #[pv, rv] 182)).setCell ⟨hb, 0, none⟩ v) ∧
      Fx n₀ Y (fun k => Y k ∨ (A.heap.size ≤ k ∧ k < A.heap.size + 1)) A ((A.alloc (.cells #[pv, rv] 182)).setCell ⟨hb, 0, none⟩ v) ∧
      (yb ≠ hb → YMem n₀ yb lp ((A.alloc (.cells #[pv, rv] 182)).setCell ⟨hb, 0, none⟩ v) X R (fun k => Y k ∨ (A.heap.size ≤ k ∧ k < A.heap.size + 1)) S) ∧
      (∀ k, k < A.heap.size → k ≠ hb → ((A.alloc (.cells #[pv, rv] 182)).setCell ⟨hb, 0, none⟩ v).heap[k]? = A.heap[k]?) := by
  subst hv
  have hlt := (m.yB hb (.inl h.own)).2
  have hge := (m.yB hb (.inl h.own)).1
  obtain ⟨v0, hv0⟩ : ∃ v0, A.heap[hb]? = some (.cells #[v0] 307 (0, 0)) := by
    rcases h.val with ⟨-, h2⟩ | ⟨y, hc, pv, rv, -, h2, -⟩
    · exact ⟨_, h2⟩
    · exact ⟨_, h2⟩
  have hz : ((A.alloc (.cells #[pv, rv] 182)).setCell ⟨hb, 0, none⟩ (.slice (some ⟨A.heap.size, 0, none⟩) 1 1)).heap.size = A.heap.size + 1 := by simp [World.setCell]
  have keep : ∀ k, k < A.heap.size → k ≠ hb → ((A.alloc (.cells #[pv, rv] 182)).setCell ⟨hb, 0, none⟩ (.slice (some ⟨A.heap.size, 0, none⟩) 1 1)).heap[k]? = A.heap[k]? := fun k hk hne =>
    (Below.heap_setCell _ _ _ _ (by show k ≠ hb; exact hne)).trans (Below.heap_alloc _ _ _ hk)
  have hset := set1 ((Below.heap_alloc A (.cells #[pv, rv] 182) hb hlt).trans hv0) 0 (.slice (some ⟨A.heap.size, 0, none⟩) 1 1)
  have f : Fx n₀ Y (fun k => Y k ∨ (A.heap.size ≤ k ∧ k < A.heap.size + 1)) A ((A.alloc (.cells #[pv, rv] 182)).setCell ⟨hb, 0, none⟩ (.slice (some ⟨A.heap.size, 0, none⟩) 1 1)) :=
    ⟨rfl, rfl, rfl, by rw [hz]; omega, fun k hk hx => keep k hk (fun e => by subst e; rcases hx with hx | hx; omega; exact hx h.own), fun k hk => by rw [hz]; exact hk⟩
  have hdis : ∀ k, (Y k ∨ (A.heap.size ≤ k ∧ k < A.heap.size + 1)) → ¬ S k := fun k hk hs => hk.elim (fun e => m.dis k e hs) fun e => by have := (m.yB k (.inr hs)).2; omega
  refine ⟨⟨.inl h.own, h.nx, .inr ⟨x, A.heap.size, pv, rv, rfl, by simpa using hset, .inr (by omega), fun hx => by have := (m.yB _ (.inl (m.xy _ hx))).2; omega, by omega, ?_, ?_⟩⟩, f, fun hne => ?_, keep⟩
  · exact (Below.heap_setCell _ _ _ _ (by show A.heap.size ≠ hb; omega)).trans (World.alloc_heap_new A _)
  · exact hx.on (fun _ h => h) fun k hs => keep k (m.yB k (.inr hs)).2 fun e => by subst e; exact m.dis _ h.own hs
  · refine ⟨fun k hk => .inl (m.xy k hk), m.rs, fun k hk => ?_, hdis, .inl m.y1, m.nx, (keep yb (m.yB yb (.inl m.y1)).2 hne).trans m.ybx, by rw [hz]; have := m.nz; omega⟩
    rw [hz]
    rcases hk with (hk | hk) | hk
    · have := m.yB k (.inl hk); omega
    · have := m.nz; omega
    · have := m.yB k (.inr hk); omega
end
end Go.Proofs.YtamddagmlanijaaGreat
