/- Packed: Out, Cho. -/
import Derived.Test.YtamddagmlanijaaGreatP24
import Derived.Test.YtamddagmlanijaaGreatP22
import Derived.Test.YtamddagmlanijaaGreatP25
/- outer(all): an iterator over the redexes of another that are not below one of them. -/
namespace Go.Proofs.YtamddagmlanijaaGreat
open Go.RowKit Go.Shelf
attribute [local go_sem] Oper.semAt_some

/-- x is below the redex that is held -/
def underB (top : Option Rdx) (x : Rdx) : Bool := match top with | some y => belowB x.1 y.1 | none => false
def outStep (s : List Rdx × Option Rdx) (x : Rdx) : List Rdx × Option Rdx := if underB s.2 x then s else (s.1 ++ [x], some x)
def outF (l : List Rdx) : List Rdx × Option Rdx := l.foldl outStep ([], none)
def outL (l : List Rdx) : List Rdx := (outF l).1
theorem outF_snoc (l : List Rdx) (x : Rdx) : outF (l ++ [x]) = outStep (outF l) x := by simp [outF]
theorem outF_prefix {a b : List Rdx} (h : a <+: b) : outL a <+: outL b := by
  obtain ⟨r, rfl⟩ := h
  have key : ∀ (r : List Rdx) (a : List Rdx), outL a <+: outL (a ++ r) := by
    intro r
    induction r with
    | nil => intro a; simp
    | cons x r ih =>
      intro a
      have h1 : outL a <+: outL (a ++ [x]) := by
        unfold outL
        rw [outF_snoc, outStep]
        split
        · exact List.prefix_refl _
        · exact List.prefix_append _ _
      have h2 := ih (a ++ [x])
      rw [List.append_assoc, List.singleton_append] at h2
      exact h1.trans h2
  exact key r a

set_option maxRecDepth 100000 in
set_option maxHeartbeats 1000000 in
theorem outer_any (gf : Nat) (lb : Array Value) (w : World) :
    Calls Tryz.prog 184 #[.func (.func gf) #[] lb] w fun e w' => e = .returned (.func (.func 248) #[] #[.pointer (some ⟨w.heap.size, 0, none⟩)]) ∧ w' = w.alloc (.cells #[.func (.func gf) #[] lb] 175) := by
  go_enter Tryz.func184, Tryz.ntmps184
  go_wp2
  go_ret
  exact ⟨rfl, rfl⟩

set_option maxRecDepth 100000 in
set_option maxHeartbeats 4000000 in
theorem outer_seq (gf : Nat) (lb : Array Value) (L : List Rdx) (n₀ Ba : Nat) (X₀ X₁ : Bs) (w : World) (hseq : SeqX Fence.wide Tryz.prog gf lb (ElR n₀) L n₀ X₀ w) (eg : ∀ args w, (callFunc gf args).run Tryz.prog w = .ok (.enter gf args) w) (hn : n₀ ≤ w.heap.size)
    (h01 : ∀ k, X₀ k → X₁ k) (hX : XB n₀ X₁ w) (hB : X₁ Ba) (hbx : w.heap[Ba]? = some (.cells #[.func (.func gf) #[] lb] 175 (0, 0))) :
    SeqX Fence.wide Tryz.prog 248 #[.pointer (some ⟨Ba, 0, none⟩)] (ElR n₀) (outL L) n₀ X₁ w := by
  intro n lp J Jx R₀ W hW hXW hR₀ hd₀ hJ hJx hY hJ0
  have hz := hW.size
  have hxb : XB n₀ X₁ W := fun k hk => by have := hX k hk; omega
  have hbW := (hXW Ba hB).trans hbx
  have hBz := (Array.getElem?_eq_some_iff.1 hbW).1
  have hb1 := (Below.heap_alloc (W.alloc (.cells #[.func (.yield lp) #[] #[]] 306)) (.cells #[.slice none 0 0] 307) Ba (by simp; omega)).trans ((Below.heap_alloc W (.cells #[.func (.yield lp) #[] #[]] 306) Ba hBz).trans hbW)
  have b0 := cells_of hb1 0
  simp only [List.getElem?_toArray, List.getElem?_cons_zero] at b0
  obtain ⟨w1, hw1⟩ : ∃ w1, w1 = (W.alloc (.cells #[.func (.yield lp) #[] #[]] 306)).alloc (.cells #[.slice none 0 0] 307) := ⟨_, rfl⟩
  have hB0 : Below W.heap.size W w1 := by rw [hw1]; go_grown
  have hz1 : w1.heap.size = W.heap.size + 1 + 1 := by rw [hw1]; simp
  have hnW : n₀ ≤ W.heap.size := by omega
  have hbg : Begin n₀ lp X₀ X₁ R₀ W w1 := begin_of hnW h01 hxb hR₀ hd₀ hB0 (by omega) (by rw [hw1]; exact (Below.heap_alloc _ _ _ (by simp)).trans (World.alloc_heap_new W _))
  have hM0 := hbg.m
  have hH0 : HeldAt n₀ (W.heap.size + 1) none X₀ (fun k => X₁ k ∨ (W.heap.size ≤ k ∧ k < w1.heap.size)) R₀ w1 := ⟨.inr (by omega), fun hx => by have := hxb _ (h01 _ hx); omega, .inl ⟨rfl, by rw [hw1]; exact heap_new_at _ _ _ (by simp)⟩⟩
  have hJ1 := hJ _ _ _ _ _ _ _ hJ0 hbg.f hbg.g
  have hs1 : SeqX Fence.wide Tryz.prog gf lb (ElR n₀) L n₀ X₀ w1 := hseq.later (hW.trans (hB0.mono hnW)) fun k hk => (hB0.block k (hxb k (h01 k hk)).2).trans (hXW k (h01 k hk))
  have HY := Lib.hid hY
  have HJ := Lib.hid hJ
  have HJx := Lib.hid hJx
  have HEG := Lib.hid eg
  clear hY hJ hJx hseq hbx hbW hb1 hbg hJ0 hB0 eg
  refine callsIn_wide.2 ((callsIn_wide (n := 9)).1 ?_)
  refine callsIn_of_wp_marks Tryz.func248 rfl trivial ?_ rfl
  simp only [Tryz.ntmps248, List.size_toArray, List.length_cons, List.length_nil, Nat.reduceAdd, Nat.reduceSub, Array.replicate_succ, Array.replicate_zero, List.push_toArray, List.append_toArray, List.nil_append, List.cons_append]
  gi_wp2_with fail
  rw [← hw1]
  clear hw1 b0
  refine wpIn_rangeX rfl (by omega) (gf := gf) (lb := lb) rfl trivial HEG.out hs1 (fun _ => False) (by omega) (fun k hk => hk.elim (fun h => by have := hxb k (h01 k h); omega) False.elim) (fun _ _ h => h) (fun x vs R W ⟨_, _, h, _⟩ => by rw [h]; rfl)
    (fun X R pre V => ∃ Y S, YMem n₀ W.heap.size lp V X R Y S ∧ HeldAt n₀ (W.heap.size + 1) (outF pre).2 X Y S V ∧ J Y S (outL pre) V)
    (fun c X R pre V => c = .ret ∧ ∃ Y S, YMem n₀ W.heap.size lp V X R Y S ∧ Jx Y S (outL pre) V)
    (fun X R X' R' s A B ⟨Y, S, h, ht, hj⟩ hf hg => by
      obtain ⟨f, g, m⟩ := h.step hf hg
      exact ⟨_, _, m, ht.step h hf hg, HJ.out _ _ _ _ _ _ _ hj f g⟩)
    (fun c X R X' R' s A B ⟨h1, Y, S, h, hj⟩ hf hg => by
      obtain ⟨f, g, m⟩ := h.step hf hg
      exact ⟨h1, _, _, m, HJx.out _ _ _ _ _ _ _ hj f g⟩)
    ⟨_, _, hM0, hH0, hJ1⟩ ?round ?done ?stop
  case round =>
    rintro lq X R pre x vs V r₀ ⟨Y, S, hM, hH, hj⟩ ⟨pv, rv, rfl, hel⟩ hxb hdis hXl hml hrl hms hpre
    obtain ⟨po, pc, rfl, -⟩ := ownsRow_formP hel.pos
    obtain ⟨ro, rc, rfl, -⟩ := ownsRow_formP hel.rules
    simp only [Array.zip]
    gi_wp2
    have hB1 : Below V.heap.size V (V.alloc (.cells #[.slice po x.1.length pc, .slice ro x.2.length rc] 182)) := by go_grown
    refine ⟨Kx.of_below hB1 hM.nz hxb, fun r => ?_⟩
    have hlV := (hxb lq (.inl hXl)).2
    obtain ⟨V2, hV2⟩ : ∃ V2, V2 = (V.alloc (.cells #[.slice po x.1.length pc, .slice ro x.2.length rc] 182)).putObj lq (.loop r) := ⟨_, rfl⟩
    have hfa : Fx n₀ X X V V2 := by rw [hV2]; exact (Fx.of_below X hB1).trans (Fx.put _ (hxb lq (.inl hXl)).1 hXl)
    have hz2 : V2.heap.size = V.heap.size + 1 := by rw [hV2]; simp
    have hrga : Rg X R X R V V2 := Rg.own_new hdis
    obtain ⟨f2, g2, hM2⟩ := hM.step hfa hrga
    have hj2 := HJ.out _ _ _ _ _ _ _ hj f2 g2
    have hH2 := hH.step hM hfa hrga
    obtain ⟨Y2, hY2⟩ : ∃ Y2 : Bs, Y2 = stepY Y R V V2 := ⟨_, rfl⟩
    obtain ⟨S2, hS2⟩ : ∃ S2 : Bs, S2 = un S R := ⟨_, rfl⟩
    have hbY : ¬ Y2 V.heap.size → False := fun h => h (by rw [hY2]; exact ⟨.inr (by omega), fun hr => by have := (hxb _ (.inr hr)).2; omega⟩)
    rw [← hY2, ← hS2] at hM2 hj2 hH2
    have hxb2 := hrga.xb hfa hM.nz hxb
    have hbu : V2.heap[V.heap.size]? = some (.cells #[.slice po x.1.length pc, .slice ro x.2.length rc] 182 (0, 0)) := by
      rw [hV2, World.putObj_heap_other (by omega)]; exact World.alloc_heap_new V _
    have hel2 : RdIs n₀ x (.slice po x.1.length pc) (.slice ro x.2.length rc) S2 V2 := hel.on hM2.rs fun k hk => hfa.block k (hxb k (.inr hk)).2 (.inr fun h => hdis k h hk)
    have c0 := cells_of hbu 0
    have c1 := cells_of hbu 1
    have y0 := cells_of hM2.ybx 0
    simp only [List.getElem?_toArray, List.getElem?_cons_zero, List.getElem?_cons_succ] at c0 c1 y0
    have HM2 := Lib.hid hM2
    have HH2 := Lib.hid hH2
    have HJ2 := Lib.hid hj2
    have HEL := Lib.hid hel2
    have HBU := Lib.hid hbu
    have HXB := Lib.hid hxb2
    have HPRE := Lib.hid hpre
    have HBY := Lib.hid (Classical.not_not.1 hbY)
    rw [← hV2]
    clear hM hj hel hxb hfa hrga f2 g2 hM2 hj2 hH hH2 hV2 hY2 hS2 hxb2 hbu hB1 hpre hrl hel2 hdis hbY
    -- the redex is held and handed on
    have give : ∀ Vb : World, Hid (Below V2.heap.size V2 Vb) → Hid (underB (outF pre).2 x = false) →
        ∃ fn tmps assign body, (Instr.yield lp #[.agg #[.slice po x.1.length pc, .slice ro x.2.length rc]]).run Tryz.prog ((Vb.setCell ⟨W.heap.size + 1, 0, none⟩ (.slice (some ⟨Vb.heap.size, 0, none⟩) 1 1)).alloc (.cells #[.slice po x.1.length pc, .slice ro x.2.length rc] 182)) =
            .ok (.round lp fn tmps assign body) ((Vb.setCell ⟨W.heap.size + 1, 0, none⟩ (.slice (some ⟨Vb.heap.size, 0, none⟩) 1 1)).alloc (.cells #[.slice po x.1.length pc, .slice ro x.2.length rc] 182)) ∧
          Hid (RoundIn (Fence.wide.inRound lq) 6 Tryz.prog lp fn tmps assign body ((Vb.setCell ⟨W.heap.size + 1, 0, none⟩ (.slice (some ⟨Vb.heap.size, 0, none⟩) 1 1)).alloc (.cells #[.slice po x.1.length pc, .slice ro x.2.length rc] 182)) fun e W' =>
          Kx n₀ (un X R) V2 W' ∧ ((e = .returned (.bool true) ∧ ∃ Y S, YMem n₀ W.heap.size lp W' X R Y S ∧ HeldAt n₀ (W.heap.size + 1) (outF (pre ++ [x])).2 X Y S W' ∧ J Y S (outL (pre ++ [x])) W') ∨
            (e = .returned (.bool false) ∧ ∃ Y S, YMem n₀ W.heap.size lp W' X R Y S ∧ Jx Y S (outL (pre ++ [x])) W'))) := by
      intro Vb hb hu
      have hb := hb.out
      have hu := hu.out
      have hzb := hb.size
      have hkb := Kx.of_below hb HM2.out.nz HM2.out.yB
      have hmb := HM2.out.kx hkb
      have hhb := HH2.out.kx hkb
      have hjb := HJ.out _ _ _ _ _ _ _ HJ2.out (Fx.of_below Y2 hb) (Rg.own_new HM2.out.dis)
      have helb := HEL.out.on (fun _ h => h) (fun k hk => hb.block k (HM2.out.yB k (.inr hk)).2)
      have hlt := (hmb.yB _ (.inl hhb.own)).2
      obtain ⟨h3, f3, m3, k3⟩ := hhb.set hmb helb rfl
      rw [World.setCell_alloc_past _ _ _ _ hlt] at h3 f3 m3 k3
      have hm3 := m3 (by omega)
      have hj3 := HJ.out _ _ _ _ _ _ _ hjb f3 (Rg.same hmb.dis (fun k hk => hmb.yB k (.inr hk)) f3.own)
      have hk3 : Kx n₀ (un X R) V2 _ := (hkb.less HM2.out.unl).trans ⟨f3.below hmb.nz, fun k hk => k3 k (hmb.yB k (hmb.unl k hk)).2 fun e => by
        subst e
        rcases hk with hk | hk
        · exact hhb.nx hk
        · exact hmb.dis _ hhb.own (hmb.rs _ hk)⟩
      have hel3 := helb.on (fun _ h => h) (fun k hk => k3 k (hmb.yB k (.inr hk)).2 fun e => by subst e; exact hmb.dis _ hhb.own hk)
      have hst : outF (pre ++ [x]) = ((outF pre).1 ++ [x], some x) := by rw [outF_snoc, outStep, hu]; rfl
      have hsl : outL (pre ++ [x]) = outL pre ++ [x] := by unfold outL; rw [hst]
      obtain ⟨fn, tmps, assign, body, hy, hRd⟩ := HY.out _ S2 (outL pre) x #[.agg #[.slice po x.1.length pc, .slice ro x.2.length rc]] _ hj3 ⟨_, _, rfl, hel3⟩ hm3.yB hm3.dis hm3.nz (by rw [← hsl]; exact outF_prefix HPRE.out)
      refine ⟨fn, tmps, assign, body, hy, Lib.hid (RoundIn.mono (show RoundIn (Fence.wide.inRound lq) 6 Tryz.prog lp fn tmps assign body _ _ from roundAny rfl hRd) ?_)⟩
      rintro e W' (⟨rfl, hj, hk⟩ | ⟨rfl, hj, hk⟩)
      · exact ⟨hk3.trans (hk.less hm3.unl), .inl ⟨rfl, _, S2, hm3.kx hk, by rw [hst]; exact h3.kx hk, by rw [hsl]; exact hj⟩⟩
      · exact ⟨hk3.trans (hk.less hm3.unl), .inr ⟨rfl, _, S2, hm3.kx hk, by rw [hsl]; exact hj⟩⟩
    have HGIVE := Lib.hid give
    clear give
    have hWV : W.heap.size + 1 < V.heap.size := by omega
    have n1 : ¬ (W.heap.size + 1 = V.heap.size) := by omega
    have n2 : ¬ (V.heap.size = W.heap.size + 1) := by omega
    have n3 : ¬ (W.heap.size = V.heap.size) := by omega
    have n4 : ¬ (V.heap.size = W.heap.size) := by omega
    have n5 : W.heap.size + 1 < V2.heap.size := by omega
    have n6 : W.heap.size < V2.heap.size := by omega
    have n7 : V.heap.size < V2.heap.size := by omega
    have ha : ∀ k, k < V2.heap.size → (V2.alloc (.cells #[.slice po x.1.length pc, .slice ro x.2.length rc] 182)).heap[k]? = V2.heap[k]? := fun k hk => Below.heap_alloc _ _ _ hk
    have p1 := cells_of ((ha _ n6).trans HM2.out.ybx) 0
    have p2 := cells_of ((ha _ n7).trans HBU.out) 0
    have p3 := cells_of ((ha _ n7).trans HBU.out) 1
    simp only [List.getElem?_toArray, List.getElem?_cons_zero, List.getElem?_cons_succ] at p1 p2 p3
    have HHA := Lib.hid ha
    have HZ2 := Lib.hid hz2
    clear ha hz2
    -- what follows where the redex is taken: it is held and handed on
    rcases HH2.out.val with ⟨htop, hv⟩ | ⟨y, hc, pv2, rv2, htop, hv, hyc, hxc, hne, hcc, hely⟩
    · have t0 := cells_of hv 0
      simp only [List.getElem?_toArray, List.getElem?_cons_zero] at t0
      have g0 : V2.frozen? ⟨W.heap.size + 1, 0, none⟩ = false := by simp [World.frozen?, hv]
      have p0 := cells_of ((HHA.out _ n5).trans hv) 0
      have q0 : (V2.alloc (.cells #[.slice po x.1.length pc, .slice ro x.2.length rc] 182)).frozen? ⟨W.heap.size + 1, 0, none⟩ = false := by simp [World.frozen?, (HHA.out _ n5).trans hv]
      simp only [List.getElem?_toArray, List.getElem?_cons_zero] at p0
      have HU := Lib.hid (show underB (outF pre).2 x = false by rw [htop]; rfl)
      clear hv htop
      gi_wp2_with fail
      refine wpIn_region_hi (S := fun w' => w'.cell? ⟨W.heap.size + 1, 0, none⟩ = some (.slice none 0 0)) (by kernel_rfl) t0 (fun _ => ?_)
      simp only [List.size_toArray, List.length_cons, List.length_nil, Nat.reduceAdd]
      refine wpHI_take (i := 0) (v := ?_) (wide_fn _) (by kernel_rfl) (by simp only [List.getElem?_toArray, List.getElem?_cons_zero]; rfl) (by kernel_rfl) (by kernel_rfl) (by kernel_rfl) (fun _ _ _ h => h) (Or.inl ⟨by rfl, ?_⟩) t0 ?_
      case refine_2 => (intro ww hSw; obtain hS := hSw; go_simp; try with_reducible rfl)
      try simp only [Act.put, List.setIfInBounds_toArray, List.set_cons_zero, List.set_cons_succ]
      refine wpHI_take (i := 1) (v := ?_) (wide_fn _) (by kernel_rfl) (by simp only [List.getElem?_toArray, List.getElem?_cons_zero, List.getElem?_cons_succ]; rfl) (by kernel_rfl) (by kernel_rfl) (by kernel_rfl) (fun _ _ _ h => h) (Or.inl ⟨by rfl, ?_⟩) t0 ?_
      case refine_2 => (intro ww hSw; obtain hS := hSw; go_simp; try with_reducible rfl)
      try simp only [Act.put, List.setIfInBounds_toArray, List.set_cons_zero, List.set_cons_succ]
      refine wpHI_take (i := 2) (v := ?_) (wide_fn _) (by kernel_rfl) (by simp only [List.getElem?_toArray, List.getElem?_cons_zero, List.getElem?_cons_succ]; rfl) (by kernel_rfl) (by kernel_rfl) (by kernel_rfl) (fun _ _ _ h => h) (Or.inl ⟨by rfl, ?_⟩) t0 ?_
      case refine_2 => (intro ww hSw; obtain hS := hSw; go_simp; try with_reducible rfl)
      try simp only [Act.put, List.setIfInBounds_toArray, List.set_cons_zero, List.set_cons_succ]
      refine wpHI_take (i := 3) (v := ?_) (wide_fn _) (by kernel_rfl) (by simp only [List.getElem?_toArray, List.getElem?_cons_zero, List.getElem?_cons_succ]; rfl) (by kernel_rfl) (by kernel_rfl) (by kernel_rfl) (fun _ _ _ h => h) (Or.inl ⟨by rfl, ?_⟩) t0 ?_
      case refine_2 => (intro ww hSw; obtain hS := hSw; go_simp; try with_reducible rfl)
      try simp only [Act.put, List.setIfInBounds_toArray, List.set_cons_zero, List.set_cons_succ]
      refine wpHI_take (i := 4) (v := _) (wide_fn _) (by kernel_rfl) (by simp only [List.getElem?_toArray, List.getElem?_cons_zero, List.getElem?_cons_succ]; rfl) (by kernel_rfl) (by kernel_rfl) (by kernel_rfl) (fun _ _ _ h => h) (Or.inr ⟨by rfl, rfl⟩) t0 ?_
      try simp only [Act.put, List.setIfInBounds_toArray, List.set_cons_zero, List.set_cons_succ]
      refine wpHI_take (i := 5) (v := _) (wide_fn _) (by kernel_rfl) (by simp only [List.getElem?_toArray, List.getElem?_cons_zero, List.getElem?_cons_succ]; rfl) (by kernel_rfl) (by kernel_rfl) (by kernel_rfl) (fun _ _ _ h => h) (Or.inr ⟨by rfl, rfl⟩) t0 ?_
      try simp only [Act.put, List.setIfInBounds_toArray, List.set_cons_zero, List.set_cons_succ]
      refine wpHI_take (i := 6) (v := _) (wide_fn _) (by kernel_rfl) (by simp only [List.getElem?_toArray, List.getElem?_cons_zero, List.getElem?_cons_succ]; rfl) (by kernel_rfl) (by kernel_rfl) (by kernel_rfl) (fun _ _ _ h => h) (Or.inr ⟨by rfl, rfl⟩) t0 ?_
      try simp only [Act.put, List.setIfInBounds_toArray, List.set_cons_zero, List.set_cons_succ]
      refine wpHI_take (i := 7) (v := _) (wide_fn _) (by kernel_rfl) (by simp only [List.getElem?_toArray, List.getElem?_cons_zero, List.getElem?_cons_succ]; rfl) (by kernel_rfl) (by kernel_rfl) (by kernel_rfl) (fun _ _ _ h => h) (Or.inr ⟨by rfl, rfl⟩) t0 ?_
      try simp only [Act.put, List.setIfInBounds_toArray, List.set_cons_zero, List.set_cons_succ]
      refine wpHI_take (i := 8) (v := _) (wide_fn _) (by kernel_rfl) (by simp only [List.getElem?_toArray, List.getElem?_cons_zero, List.getElem?_cons_succ]; rfl) (by kernel_rfl) (by kernel_rfl) (by kernel_rfl) (fun _ _ _ h => h) (Or.inr ⟨by rfl, rfl⟩) t0 ?_
      try simp only [Act.put, List.setIfInBounds_toArray, List.set_cons_zero, List.set_cons_succ]
      refine wpHI_take (i := 9) (v := _) (wide_fn _) (by kernel_rfl) (by simp only [List.getElem?_toArray, List.getElem?_cons_zero, List.getElem?_cons_succ]; rfl) (by kernel_rfl) (by kernel_rfl) (by kernel_rfl) (fun _ _ _ h => h) (Or.inr ⟨by rfl, rfl⟩) t0 ?_
      try simp only [Act.put, List.setIfInBounds_toArray, List.set_cons_zero, List.set_cons_succ]
      refine wpHI_take (i := 10) (v := _) (wide_fn _) (by kernel_rfl) (by simp only [List.getElem?_toArray, List.getElem?_cons_zero, List.getElem?_cons_succ]; rfl) (by kernel_rfl) (by kernel_rfl) (by kernel_rfl) (fun _ _ _ h => h) (Or.inr ⟨by rfl, rfl⟩) t0 ?_
      try simp only [Act.put, List.setIfInBounds_toArray, List.set_cons_zero, List.set_cons_succ]
      refine wpHI_take (i := 11) (v := ?_) (wide_fn _) (by kernel_rfl) (by simp only [List.getElem?_toArray, List.getElem?_cons_zero, List.getElem?_cons_succ]; rfl) (by kernel_rfl) (by kernel_rfl) (by kernel_rfl) (fun _ _ _ h => h) (Or.inl ⟨by rfl, ?_⟩) t0 ?_
      case refine_2 => (intro ww hSw; obtain hS := hSw; go_simp; try with_reducible rfl)
      try simp only [Act.put, List.setIfInBounds_toArray, List.set_cons_zero, List.set_cons_succ]
      refine wpHI_done (by kernel_rfl) ?_ _
      -- taken
      obtain ⟨fn, tmps, assign, body, hy, HRD⟩ := HGIVE.out V2.drew (Lib.hid (Below.refl _ _).drew) HU
      have hRD := HRD.out
      simp only [World.setCell_drew, World.alloc_drew, World.size_drew] at hy hRD
      replace HRD := Lib.hid hRD
      clear hRD
      gi_wp2_with fail
      refine HRD.out.mono ?_
      rintro e W2 ⟨hk, (⟨rfl, h⟩ | ⟨rfl, h⟩)⟩
      · have HF := Lib.hid h
        have HK := Lib.hid hk
        clear h hk hy
        gi_wp2_with fail
        exact ⟨HK.out, HF.out⟩
      · have HF := Lib.hid h
        have HK := Lib.hid hk
        clear h hk hy
        gi_wp2_with fail
        exact ⟨HK.out, rfl, HF.out⟩
    · obtain ⟨qo, qc, rfl, -⟩ := ownsRow_formP hely.pos
      obtain ⟨so, sc, rfl, -⟩ := ownsRow_formP hely.rules
      have t0 := cells_of hv 0
      have a0 := cells_of hcc 0
      have a1 := cells_of hcc 1
      simp only [List.getElem?_toArray, List.getElem?_cons_zero, List.getElem?_cons_succ] at t0 a0 a1
      have g0 : V2.frozen? ⟨W.heap.size + 1, 0, none⟩ = false := by simp [World.frozen?, hv]
      have p0 := cells_of ((HHA.out _ n5).trans hv) 0
      have q0 : (V2.alloc (.cells #[.slice po x.1.length pc, .slice ro x.2.length rc] 182)).frozen? ⟨W.heap.size + 1, 0, none⟩ = false := by simp [World.frozen?, (HHA.out _ n5).trans hv]
      simp only [List.getElem?_toArray, List.getElem?_cons_zero] at p0
      have HU := Lib.hid (show underB (outF pre).2 x = belowB x.1 y.1 by rw [htop]; rfl)
      have hS : V2.drew.cell? ⟨W.heap.size + 1, 0, none⟩ = some (.slice (some ⟨hc, 0, none⟩) 1 1) ∧ V2.drew.cell? ⟨hc, 0, none⟩ = some (.slice qo y.1.length qc) ∧ V2.drew.cell? ⟨V.heap.size, 0, none⟩ = some (.slice po x.1.length pc) := ⟨t0, a0, c0⟩
      have HELY := Lib.hid hely
      clear htop hely
      gi_wp2_with fail
      refine wpIn_region_hi (S := fun w' => w'.cell? ⟨W.heap.size + 1, 0, none⟩ = some (.slice (some ⟨hc, 0, none⟩) 1 1) ∧ w'.cell? ⟨hc, 0, none⟩ = some (.slice qo y.1.length qc) ∧ w'.cell? ⟨V.heap.size, 0, none⟩ = some (.slice po x.1.length pc)) (by kernel_rfl) hS (fun _ => ?_)
      simp only [List.size_toArray, List.length_cons, List.length_nil, Nat.reduceAdd]
      refine wpHI_take (i := 0) (v := ?_) (wide_fn _) (by kernel_rfl) (by simp only [List.getElem?_toArray, List.getElem?_cons_zero]; rfl) (by kernel_rfl) (by kernel_rfl) (by kernel_rfl) (fun _ _ _ h => h) (Or.inl ⟨by rfl, ?_⟩) hS ?_
      case refine_2 => (intro ww hSw; obtain ⟨s1, s2, s3⟩ := hSw; go_simp; try with_reducible rfl)
      try simp only [Act.put, List.setIfInBounds_toArray, List.set_cons_zero, List.set_cons_succ]
      refine wpHI_take (i := 1) (v := ?_) (wide_fn _) (by kernel_rfl) (by simp only [List.getElem?_toArray, List.getElem?_cons_zero, List.getElem?_cons_succ]; rfl) (by kernel_rfl) (by kernel_rfl) (by kernel_rfl) (fun _ _ _ h => h) (Or.inl ⟨by rfl, ?_⟩) hS ?_
      case refine_2 => (intro ww hSw; obtain ⟨s1, s2, s3⟩ := hSw; go_simp; try with_reducible rfl)
      try simp only [Act.put, List.setIfInBounds_toArray, List.set_cons_zero, List.set_cons_succ]
      refine wpHI_take (i := 2) (v := ?_) (wide_fn _) (by kernel_rfl) (by simp only [List.getElem?_toArray, List.getElem?_cons_zero, List.getElem?_cons_succ]; rfl) (by kernel_rfl) (by kernel_rfl) (by kernel_rfl) (fun _ _ _ h => h) (Or.inl ⟨by rfl, ?_⟩) hS ?_
      case refine_2 => (intro ww hSw; obtain ⟨s1, s2, s3⟩ := hSw; go_simp; try with_reducible rfl)
      try simp only [Act.put, List.setIfInBounds_toArray, List.set_cons_zero, List.set_cons_succ]
      refine wpHI_take (i := 3) (v := ?_) (wide_fn _) (by kernel_rfl) (by simp only [List.getElem?_toArray, List.getElem?_cons_zero, List.getElem?_cons_succ]; rfl) (by kernel_rfl) (by kernel_rfl) (by kernel_rfl) (fun _ _ _ h => h) (Or.inl ⟨by rfl, ?_⟩) hS ?_
      case refine_2 => (intro ww hSw; obtain ⟨s1, s2, s3⟩ := hSw; go_simp; try with_reducible rfl)
      try simp only [Act.put, List.setIfInBounds_toArray, List.set_cons_zero, List.set_cons_succ]
      refine wpHI_take (i := 4) (v := ?_) (wide_fn _) (by kernel_rfl) (by simp only [List.getElem?_toArray, List.getElem?_cons_zero, List.getElem?_cons_succ]; rfl) (by kernel_rfl) (by kernel_rfl) (by kernel_rfl) (fun _ _ _ h => h) (Or.inl ⟨by rfl, ?_⟩) hS ?_
      case refine_2 => (intro ww hSw; obtain ⟨s1, s2, s3⟩ := hSw; go_simp; try with_reducible rfl)
      try simp only [Act.put, List.setIfInBounds_toArray, List.set_cons_zero, List.set_cons_succ]
      refine wpHI_take (i := 5) (v := ?_) (wide_fn _) (by kernel_rfl) (by simp only [List.getElem?_toArray, List.getElem?_cons_zero, List.getElem?_cons_succ]; rfl) (by kernel_rfl) (by kernel_rfl) (by kernel_rfl) (fun _ _ _ h => h) (Or.inl ⟨by rfl, ?_⟩) hS ?_
      case refine_2 => (intro ww hSw; obtain ⟨s1, s2, s3⟩ := hSw; go_simp; try with_reducible rfl)
      try simp only [Act.put, List.setIfInBounds_toArray, List.set_cons_zero, List.set_cons_succ]
      refine wpHI_take (i := 6) (v := ?_) (wide_fn _) (by kernel_rfl) (by simp only [List.getElem?_toArray, List.getElem?_cons_zero, List.getElem?_cons_succ]; rfl) (by kernel_rfl) (by kernel_rfl) (by kernel_rfl) (fun _ _ _ h => h) (Or.inl ⟨by rfl, ?_⟩) hS ?_
      case refine_2 => (intro ww hSw; obtain ⟨s1, s2, s3⟩ := hSw; go_simp; try with_reducible rfl)
      try simp only [Act.put, List.setIfInBounds_toArray, List.set_cons_zero, List.set_cons_succ]
      refine wpHI_take (i := 7) (v := ?_) (wide_fn _) (by kernel_rfl) (by simp only [List.getElem?_toArray, List.getElem?_cons_zero, List.getElem?_cons_succ]; rfl) (by kernel_rfl) (by kernel_rfl) (by kernel_rfl) (fun _ _ _ h => h) (Or.inl ⟨by rfl, ?_⟩) hS ?_
      case refine_2 => (intro ww hSw; obtain ⟨s1, s2, s3⟩ := hSw; go_simp; try with_reducible rfl)
      try simp only [Act.put, List.setIfInBounds_toArray, List.set_cons_zero, List.set_cons_succ]
      refine wpHI_take (i := 8) (v := ?_) (wide_fn _) (by kernel_rfl) (by simp only [List.getElem?_toArray, List.getElem?_cons_zero, List.getElem?_cons_succ]; rfl) (by kernel_rfl) (by kernel_rfl) (by kernel_rfl) (fun _ _ _ h => h) (Or.inl ⟨by rfl, ?_⟩) hS ?_
      case refine_2 => (intro ww hSw; obtain ⟨s1, s2, s3⟩ := hSw; go_simp; try with_reducible rfl)
      try simp only [Act.put, List.setIfInBounds_toArray, List.set_cons_zero, List.set_cons_succ]
      refine wpHI_take (i := 9) (v := ?_) (wide_fn _) (by kernel_rfl) (by simp only [List.getElem?_toArray, List.getElem?_cons_zero, List.getElem?_cons_succ]; rfl) (by kernel_rfl) (by kernel_rfl) (by kernel_rfl) (fun _ _ _ h => h) (Or.inl ⟨by rfl, ?_⟩) hS ?_
      case refine_2 => (intro ww hSw; obtain ⟨s1, s2, s3⟩ := hSw; go_simp; try with_reducible rfl)
      try simp only [Act.put, List.setIfInBounds_toArray, List.set_cons_zero, List.set_cons_succ]
      refine wpHI_one (i := 10) (wide_fn _) (by kernel_rfl) (by kernel_rfl) (by simp only [List.getElem?_toArray, List.getElem?_cons_zero, List.getElem?_cons_succ]; rfl) (by rfl) (fun K' hK => ?_)
      go_simp
      refine (CallsIn.inRound lq (callsIn_wide.2 (isBelow_any x.1 y.1 _ _ V2.drew V2.heap.size (PosC.carry (Below.refl _ V2).drew (Nat.le_refl _) (PosC.ofRow HEL.out.pos)) (PosIs.carry (Below.refl _ V2).drew (Nat.le_refl _) (PosIs.ofRow HELY.out.pos)) HEL.out.plen HELY.out.plen))).mono ?_
      rintro e w5 ⟨rfl, hb5⟩
      have hb5v : Below V2.heap.size V2 w5 := ((Below.refl _ V2).drew).trans hb5
      have HB5 := Lib.hid hb5v
      have h5t := cells_of ((hb5v.block _ n5).trans hv) 0
      have h5a := cells_of ((hb5v.block hc (HM2.out.yB hc (.inl hyc)).2).trans hcc) 0
      have h5c := cells_of ((hb5v.block _ n7).trans HBU.out) 0
      have h5d := cells_of ((hb5v.block _ n7).trans HBU.out) 1
      have h5y := cells_of ((hb5v.block _ n6).trans HM2.out.ybx) 0
      have g5 : w5.frozen? ⟨W.heap.size + 1, 0, none⟩ = false := by simp [World.frozen?, (hb5v.block _ n5).trans hv]
      have z5 : Hid (V2.heap.size ≤ w5.heap.size) := Lib.hid hb5v.size
      simp only [List.getElem?_toArray, List.getElem?_cons_zero, List.getElem?_cons_succ] at h5t h5a h5c h5d h5y
      have hS5 : w5.cell? ⟨W.heap.size + 1, 0, none⟩ = some (.slice (some ⟨hc, 0, none⟩) 1 1) ∧ w5.cell? ⟨hc, 0, none⟩ = some (.slice qo y.1.length qc) ∧ w5.cell? ⟨V.heap.size, 0, none⟩ = some (.slice po x.1.length pc) := ⟨h5t, h5a, h5c⟩
      clear hb5 hb5v
      refine hK.out _ _ hS5 (fun _ => ?_)
      clear hK
      try simp only [Act.put, List.setIfInBounds_toArray, List.set_cons_zero, List.set_cons_succ]
      cases hbl : belowB x.1 y.1
      · refine wpHI_take (i := 11) (v := ?_) (wide_fn _) (by kernel_rfl) (by simp only [List.getElem?_toArray, List.getElem?_cons_zero, List.getElem?_cons_succ]; rfl) (by kernel_rfl) (by kernel_rfl) (by kernel_rfl) (fun _ _ _ h => h) (Or.inl ⟨by rfl, ?_⟩) hS5 ?_
        case refine_2 => (intro ww hSw; obtain ⟨s1, s2, s3⟩ := hSw; go_simp; try with_reducible rfl)
        try simp only [Act.put, List.setIfInBounds_toArray, List.set_cons_zero, List.set_cons_succ]
        refine wpHI_done (by kernel_rfl) ?_ _
        rw [hbl] at HU
        clear hbl
        have m5 : W.heap.size + 1 < w5.heap.size := by have := z5.out; omega
        have m6 : W.heap.size < w5.heap.size := by have := z5.out; omega
        have m7 : V.heap.size < w5.heap.size := by have := z5.out; omega
        have ha5 : ∀ k, k < w5.heap.size → (w5.alloc (.cells #[.slice po x.1.length pc, .slice ro x.2.length rc] 182)).heap[k]? = w5.heap[k]? := fun k hk => Below.heap_alloc _ _ _ hk
        have r0 := (World.cell?_of_block (a := ⟨W.heap.size + 1, 0, none⟩) (ha5 _ m5)).trans h5t
        have r1 := (World.cell?_of_block (a := ⟨W.heap.size, 0, none⟩) (ha5 _ m6)).trans h5y
        have r2 := (World.cell?_of_block (a := ⟨V.heap.size, 0, none⟩) (ha5 _ m7)).trans h5c
        have r3 := (World.cell?_of_block (a := ⟨V.heap.size, 1, none⟩) (ha5 _ m7)).trans h5d
        have r4 := (World.frozen?_of_block (a := ⟨W.heap.size + 1, 0, none⟩) (ha5 _ m5)).trans g5
        clear ha5
        obtain ⟨fn, tmps, assign, body, hy, HRD⟩ := HGIVE.out w5 HB5 HU
        gi_wp2_with fail
        refine HRD.out.mono ?_
        rintro e W2 ⟨hk, (⟨rfl, h⟩ | ⟨rfl, h⟩)⟩
        · have HF := Lib.hid h
          have HK := Lib.hid hk
          clear h hk hy
          gi_wp2_with fail
          exact ⟨HK.out, HF.out⟩
        · have HF := Lib.hid h
          have HK := Lib.hid hk
          clear h hk hy
          gi_wp2_with fail
          exact ⟨HK.out, rfl, HF.out⟩
      · refine wpHI_take (i := 11) (v := ?_) (wide_fn _) (by kernel_rfl) (by simp only [List.getElem?_toArray, List.getElem?_cons_zero, List.getElem?_cons_succ]; rfl) (by kernel_rfl) (by kernel_rfl) (by kernel_rfl) (fun _ _ _ h => h) (Or.inl ⟨by rfl, ?_⟩) hS5 ?_
        case refine_2 => (intro ww hSw; obtain ⟨s1, s2, s3⟩ := hSw; go_simp; try with_reducible rfl)
        try simp only [Act.put, List.setIfInBounds_toArray, List.set_cons_zero, List.set_cons_succ]
        refine wpHI_done (by kernel_rfl) ?_ _
        rw [hbl] at HU
        clear hbl
        gi_wp2_with fail
        have hkb := Kx.of_below HB5.out HM2.out.nz HM2.out.yB
        have hst : outF (pre ++ [x]) = outF pre := by rw [outF_snoc, outStep, HU.out]; rfl
        exact ⟨hkb.less HM2.out.unl, Y2, S2, HM2.out.kx hkb, by rw [hst]; exact HH2.out.kx hkb, by unfold outL; rw [hst]; exact HJ.out _ _ _ _ _ _ _ HJ2.out (Fx.of_below Y2 HB5.out) (Rg.own_new HM2.out.dis)⟩
  case done =>
    rintro D X R V hD hXD ⟨Y, S, hM, -, hj⟩ hxb hdis hK
    have HM := Lib.hid hM
    have HJd := Lib.hid hj
    clear hM hj
    gi_wp2
    refine ⟨by simp, .inl ⟨_, _, rfl, run_takeDeferred hK, ?_⟩⟩
    obtain ⟨h1, h2, h3⟩ := HM.out.last HJ.out HJd.out (HM.out.xy D hXD)
    exact ⟨_, results_none rfl _ _ _, ⟨_, rfl⟩, Y, S, h1, HM.out.dis, .inl h2⟩
  case stop =>
    rintro D c X R pre V hD hXD hp ⟨rfl, Y, S, hM, hj⟩ hxb hdis hK
    have HM := Lib.hid hM
    have HJd := Lib.hid hj
    clear hM hj
    gi_wp2
    refine ⟨by simp, .inl ⟨_, _, rfl, run_takeDeferred hK, ?_⟩⟩
    obtain ⟨h1, h2, h3⟩ := HM.out.last HJx.out HJd.out (HM.out.xy D hXD)
    exact ⟨_, results_none rfl _ _ _, ⟨_, rfl⟩, Y, S, h1, HM.out.dis, .inr ⟨_, outF_prefix hp, h2⟩⟩
end Go.Proofs.YtamddagmlanijaaGreat
/- chosen: the redexes that a strategy chooses, as an iterator. -/
namespace Go.Proofs.YtamddagmlanijaaGreat
open Go.RowKit Go.Shelf

/-- what a strategy chooses of the redexes in preorder -/
def choL (k : Int) (L : List Rdx) : List Rdx := if k = 2 then innL L else if k = 3 then outL L else if k = 4 then (innL L).take 1 else if k = 5 then L.take 1 else L
/-- an iterator as a value, with its contract -/
def SeqV (n₀ n₁ : Nat) (L : List Rdx) (v : Value) (X : Bs) (W : World) : Prop :=
  ∃ gf lb, v = .func (.func gf) #[] lb ∧ (∀ args w, (callFunc gf args).run Tryz.prog w = .ok (.enter gf args) w) ∧ XB n₁ X W ∧ SeqX Fence.wide Tryz.prog gf lb (ElR n₀) L n₀ X W

theorem seqV_redexes (l : List RlV) (rv lv : Value) (t : Tm) (s : Value) (n₀ n₁ : Nat) (w : World) (hn : n₀ ≤ n₁) (hn1 : n₁ ≤ w.heap.size) (hs : SlIs n₀ w t.ts s) (hr : RulV n₀ w l rv) (hrow : w.ownsRow 0 4 1 lv l.length (linVs l)) (hlv : ∀ k, lv.ownBlock = some k → n₁ ≤ k ∨ k < n₀)
    (hl : l.length ≤ 1048576) (hlo : ∀ p ∈ l, p.1.1.ok ∧ p.1.1.bulk ≤ 1048576) (hto : t.ok) (hb : t.bulk ≤ 1048576) (hd : t.depth ≤ 1048576) :
    SeqV n₀ n₁ (rdx l t) (.func (.func 245) #[] #[.pointer (some ⟨w.heap.size + 1, 0, none⟩), .pointer (some ⟨w.heap.size, 0, none⟩)]) (fun k => (k = w.heap.size ∨ k = w.heap.size + 1) ∨ (lv.ownBlock = some k ∧ n₁ ≤ k))
      ((w.alloc (.cells #[rv, lv] 178)).alloc (.cells #[.string t.nm, .bool t.vr, s] 25)) := by
  have hb0 : Below w.heap.size w ((w.alloc (.cells #[rv, lv] 178)).alloc (.cells #[.string t.nm, .bool t.vr, s] 25)) := by go_grown
  have hx : XB n₁ (fun k => (k = w.heap.size ∨ k = w.heap.size + 1) ∨ (lv.ownBlock = some k ∧ n₁ ≤ k)) ((w.alloc (.cells #[rv, lv] 178)).alloc (.cells #[.string t.nm, .bool t.vr, s] 25)) := fun k hk => by
    rcases hk with hk | hk
    · simp; omega
    · have := hrow.lt k hk.1; simp; omega
  refine ⟨_, _, rfl, enters_of Tryz.func245 (by kernel_rfl) rfl, hx, ?_⟩
  exact redexes_seq (w.heap.size + 1) w.heap.size n₀ l rv lv t s _ (by simp; omega) _ (fun k hk => by have := hx k hk; omega) ⟨.inl (.inr rfl), .inl (.inl rfl)⟩ (fun k e => (hlv k e).imp (fun h => .inr ⟨e, h⟩) id) (heap_new_at _ _ _ (by simp)) ((Below.heap_alloc _ _ _ (by simp)).trans (World.alloc_heap_new w _)) (hs.carry (hb0.mono (by omega)) (Nat.le_refl _)) (hr.carry (hb0.mono (by omega)) (Nat.le_refl _))
    (row_kept (ownsRow_mono hrow (Nat.zero_le _)) fun k e => hb0.block k (hrow.lt k e).2) hl hlo hto hb hd
theorem SeqV.later {n₀ n₁ : Nat} {L : List Rdx} {v : Value} {X : Bs} {A B : World} (h : SeqV n₀ n₁ L v X A) (hb : Below A.heap.size A B) (hn : n₀ ≤ A.heap.size) : SeqV n₀ n₁ L v X B := by
  obtain ⟨gf, lb, h1, h2, h3, h4⟩ := h
  exact ⟨gf, lb, h1, h2, fun k hk => by have := h3 k hk; have := hb.size; omega, h4.later (hb.mono hn) fun k hk => hb.block k (h3 k hk).2⟩

section
variable {n₀ n₁ : Nat} {L : List Rdx} {v : Value} {X : Bs} {w : World}
theorem start_v (h : SeqV n₀ n₁ L v X w) (h01 : n₀ ≤ n₁) (hn : n₁ ≤ w.heap.size) : Calls Tryz.prog 185 #[v] w fun e w' => (∃ v' X', e = .returned v' ∧ SeqV n₀ n₁ (L.take 1) v' X' w') ∧ Below w.heap.size w w' := by
  obtain ⟨gf, lb, rfl, h2, h3, h4⟩ := h
  refine (start_any gf lb w).mono ?_
  rintro e w' ⟨rfl, rfl⟩
  have hb0 : Below w.heap.size w (w.alloc (.cells #[.func (.func gf) #[] lb] 175)) := by go_grown
  have hx : XB n₁ (fun k => X k ∨ k = w.heap.size) (w.alloc (.cells #[.func (.func gf) #[] lb] 175)) := fun k hk => by
    rcases hk with hk | hk
    · have := h3 k hk; simp; omega
    · simp; omega
  exact ⟨⟨_, _, rfl, _, _, rfl, enters_of Tryz.func249 (by kernel_rfl) rfl, hx, start_seq gf lb L n₀ w.heap.size X _ _ (h4.later (hb0.mono (by omega)) fun k hk => hb0.block k (h3 k hk).2) h2 (by simp; omega) (fun k hk => .inl hk) (fun k hk => by have := hx k hk; omega) (.inr rfl) (World.alloc_heap_new w _)⟩, hb0⟩
theorem outer_v (h : SeqV n₀ n₁ L v X w) (h01 : n₀ ≤ n₁) (hn : n₁ ≤ w.heap.size) : Calls Tryz.prog 184 #[v] w fun e w' => (∃ v' X', e = .returned v' ∧ SeqV n₀ n₁ (outL L) v' X' w') ∧ Below w.heap.size w w' := by
  obtain ⟨gf, lb, rfl, h2, h3, h4⟩ := h
  refine (outer_any gf lb w).mono ?_
  rintro e w' ⟨rfl, rfl⟩
  have hb0 : Below w.heap.size w (w.alloc (.cells #[.func (.func gf) #[] lb] 175)) := by go_grown
  have hx : XB n₁ (fun k => X k ∨ k = w.heap.size) (w.alloc (.cells #[.func (.func gf) #[] lb] 175)) := fun k hk => by
    rcases hk with hk | hk
    · have := h3 k hk; simp; omega
    · simp; omega
  exact ⟨⟨_, _, rfl, _, _, rfl, enters_of Tryz.func248 (by kernel_rfl) rfl, hx, outer_seq gf lb L n₀ w.heap.size X _ _ (h4.later (hb0.mono (by omega)) fun k hk => hb0.block k (h3 k hk).2) h2 (by simp; omega) (fun k hk => .inl hk) (fun k hk => by have := hx k hk; omega) (.inr rfl) (World.alloc_heap_new w _)⟩, hb0⟩
theorem inner_v (h : SeqV n₀ n₁ L v X w) (h01 : n₀ ≤ n₁) (hn : n₁ ≤ w.heap.size) : Calls Tryz.prog 183 #[v] w fun e w' => (∃ v' X', e = .returned v' ∧ SeqV n₀ n₁ (innL L) v' X' w') ∧ Below w.heap.size w w' := by
  obtain ⟨gf, lb, rfl, h2, h3, h4⟩ := h
  refine (inner_any gf lb w).mono ?_
  rintro e w' ⟨rfl, rfl⟩
  have hb0 : Below w.heap.size w (w.alloc (.cells #[.func (.func gf) #[] lb] 175)) := by go_grown
  have hx : XB n₁ (fun k => X k ∨ k = w.heap.size) (w.alloc (.cells #[.func (.func gf) #[] lb] 175)) := fun k hk => by
    rcases hk with hk | hk
    · have := h3 k hk; simp; omega
    · simp; omega
  exact ⟨⟨_, _, rfl, _, _, rfl, enters_of Tryz.func247 (by kernel_rfl) rfl, hx, inner_seq gf lb L n₀ w.heap.size X _ _ (h4.later (hb0.mono (by omega)) fun k hk => hb0.block k (h3 k hk).2) h2 (by simp; omega) (fun k hk => .inl hk) (fun k hk => by have := hx k hk; omega) (.inr rfl) (World.alloc_heap_new w _)⟩, hb0⟩
end

set_option maxRecDepth 100000 in
set_option maxHeartbeats 4000000 in
theorem chosen_any (l : List RlV) (rv lv : Value) (t : Tm) (s : Value) (k : Int) (n₀ n₁ : Nat) (w : World) (h01 : n₀ ≤ n₁) (hn1 : n₁ ≤ w.heap.size) (hs : SlIs n₀ w t.ts s) (hr : RulV n₀ w l rv) (hrow : w.ownsRow 0 4 1 lv l.length (linVs l)) (hlv : ∀ k, lv.ownBlock = some k → n₁ ≤ k ∨ k < n₀)
    (hl : l.length ≤ 1048576) (hlo : ∀ p ∈ l, p.1.1.ok ∧ p.1.1.bulk ≤ 1048576) (hto : t.ok) (hb : t.bulk ≤ 1048576) (hd : t.depth ≤ 1048576) :
    Calls Tryz.prog 110 #[.agg #[rv, lv], tmv t s, .int .i64 k] w fun e w' => (∃ v X, e = .returned v ∧ SeqV n₀ n₁ (choL k (rdx l t)) v X w') ∧ Below w.heap.size w w' := by
  obtain ⟨oa, cap, rfl, -⟩ := hs.form
  obtain ⟨ra, rc, rfl⟩ := hr.shape
  obtain ⟨lo, lc, rfl, -⟩ := ownsRow_formP hrow
  have hb0 : Below w.heap.size w ((w.alloc (.cells #[.slice ra l.length rc, .slice lo l.length lc] 178)).alloc (.cells #[.string t.nm, .bool t.vr, .slice oa t.ts.length cap] 25)) := by go_grown
  obtain ⟨w1, hw1⟩ : ∃ w1, w1 = (w.alloc (.cells #[.slice ra l.length rc, .slice lo l.length lc] 178)).alloc (.cells #[.string t.nm, .bool t.vr, .slice oa t.ts.length cap] 25) := ⟨_, rfl⟩
  rw [← hw1] at hb0
  have hv := seqV_redexes l (.slice ra l.length rc) (.slice lo l.length lc) t (.slice oa t.ts.length cap) n₀ n₁ w1 h01 (Nat.le_trans hn1 hb0.size) (hs.carry (hb0.mono (by omega)) (Nat.le_refl _)) (hr.carry (hb0.mono (by omega)) (Nat.le_refl _)) (row_kept hrow fun k e => hb0.block k (hrow.lt k e).2) hlv hl hlo hto hb hd
  have hb1 : Below w.heap.size w ((w1.alloc (.cells #[.slice ra l.length rc, .slice lo l.length lc] 178)).alloc (.cells #[.string t.nm, .bool t.vr, .slice oa t.ts.length cap] 25)) := (hb0.alloc hb0.size _).alloc (by have := hb0.size; simp; omega) _
  have hz0 := hb0.size
  subst hw1
  simp only [World.size_alloc] at hv hz0
  have HB1 := Lib.hid hb1
  have HV := Lib.hid hv
  clear hs hr hrow hb1 hb0 hv
  by_cases h2 : k = 2
  · subst h2
    go_enter Tryz.func110, Tryz.ntmps110
    rw [show tmv t (.slice oa t.ts.length cap) = .agg #[.string t.nm, .bool t.vr, .slice oa t.ts.length cap] from rfl]
    go_wp2_with (first | (go_at_call 182; refine (redexes_any t (.slice oa t.ts.length cap) (.slice ra l.length rc) (.slice lo l.length lc) _ ⟨_, _, _, rfl⟩ ⟨_, _, _, rfl⟩ ⟨_, _, _, rfl⟩).mono ?_; rintro e w2 ⟨rfl, rfl⟩) | (go_at_call 183; refine (inner_v HV.out h01 (by first | (have := HB1.out.size; omega) | (simp; omega))).mono ?_; rintro e w3 ⟨⟨v3, X3, rfl, hv3⟩, hb3⟩; obtain ⟨gf3, lb3, rfl, h3a, h3b, h3c⟩ := hv3; have HV3 : Hid (SeqV n₀ n₁ _ _ _ _) := Lib.hid ⟨gf3, lb3, rfl, h3a, h3b, h3c⟩; have HB3 := Lib.hid hb3; clear hb3 h3a h3b h3c))
    go_ret
    exact ⟨⟨_, _, rfl, by rw [show choL 2 (rdx l t) = innL (rdx l t) from rfl]; exact HV3.out⟩, (HB1.out).trans (HB3.out.mono (by have := HB1.out.size; simp at *; omega))⟩
  by_cases h3 : k = 3
  · subst h3
    go_enter Tryz.func110, Tryz.ntmps110
    rw [show tmv t (.slice oa t.ts.length cap) = .agg #[.string t.nm, .bool t.vr, .slice oa t.ts.length cap] from rfl]
    go_wp2_with (first | (go_at_call 182; refine (redexes_any t (.slice oa t.ts.length cap) (.slice ra l.length rc) (.slice lo l.length lc) _ ⟨_, _, _, rfl⟩ ⟨_, _, _, rfl⟩ ⟨_, _, _, rfl⟩).mono ?_; rintro e w2 ⟨rfl, rfl⟩) | (go_at_call 184; refine (outer_v HV.out h01 (by first | (have := HB1.out.size; omega) | (simp; omega))).mono ?_; rintro e w3 ⟨⟨v3, X3, rfl, hv3⟩, hb3⟩; obtain ⟨gf3, lb3, rfl, h3a, h3b, h3c⟩ := hv3; have HV3 : Hid (SeqV n₀ n₁ _ _ _ _) := Lib.hid ⟨gf3, lb3, rfl, h3a, h3b, h3c⟩; have HB3 := Lib.hid hb3; clear hb3 h3a h3b h3c))
    go_ret
    exact ⟨⟨_, _, rfl, by rw [show choL 3 (rdx l t) = outL (rdx l t) from rfl]; exact HV3.out⟩, (HB1.out).trans (HB3.out.mono (by have := HB1.out.size; simp at *; omega))⟩
  by_cases h4 : k = 4
  · subst h4
    go_enter Tryz.func110, Tryz.ntmps110
    rw [show tmv t (.slice oa t.ts.length cap) = .agg #[.string t.nm, .bool t.vr, .slice oa t.ts.length cap] from rfl]
    go_wp2_with (first | (go_at_call 182; refine (redexes_any t (.slice oa t.ts.length cap) (.slice ra l.length rc) (.slice lo l.length lc) _ ⟨_, _, _, rfl⟩ ⟨_, _, _, rfl⟩ ⟨_, _, _, rfl⟩).mono ?_; rintro e w2 ⟨rfl, rfl⟩) | (go_at_call 183; refine (inner_v HV.out h01 (by first | (have := HB1.out.size; omega) | (simp; omega))).mono ?_; rintro e w3 ⟨⟨v3, X3, rfl, hv3⟩, hb3⟩; obtain ⟨gf3, lb3, rfl, h3a, h3b, h3c⟩ := hv3; have HV3 : Hid (SeqV n₀ n₁ _ _ _ _) := Lib.hid ⟨gf3, lb3, rfl, h3a, h3b, h3c⟩; have HB3 := Lib.hid hb3; clear hb3 h3a h3b h3c) | (go_at_call 185; refine (start_v HV3.out h01 (by first | (have := (HB1.out.trans (HB3.out.mono HB1.out.size)).size; omega) | (simp; omega))).mono ?_; rintro e w4 ⟨⟨v4, X4, rfl, hv4⟩, hb4⟩; obtain ⟨gf4, lb4, rfl, h4a, h4b, h4c⟩ := hv4; have HV4 : Hid (SeqV n₀ n₁ _ _ _ _) := Lib.hid ⟨gf4, lb4, rfl, h4a, h4b, h4c⟩; have HB4 := Lib.hid hb4; clear hb4 h4a h4b h4c))
    go_ret
    exact ⟨⟨_, _, rfl, by rw [show choL 4 (rdx l t) = (innL (rdx l t)).take 1 from rfl]; exact HV4.out⟩, ((HB1.out).trans (HB3.out.mono (by have := HB1.out.size; simp at *; omega))).trans (HB4.out.mono (by have := HB1.out.size; have := HB3.out.size; simp at *; omega))⟩
  by_cases h5 : k = 5
  · subst h5
    go_enter Tryz.func110, Tryz.ntmps110
    rw [show tmv t (.slice oa t.ts.length cap) = .agg #[.string t.nm, .bool t.vr, .slice oa t.ts.length cap] from rfl]
    go_wp2_with (first | (go_at_call 182; refine (redexes_any t (.slice oa t.ts.length cap) (.slice ra l.length rc) (.slice lo l.length lc) _ ⟨_, _, _, rfl⟩ ⟨_, _, _, rfl⟩ ⟨_, _, _, rfl⟩).mono ?_; rintro e w2 ⟨rfl, rfl⟩) | (go_at_call 185; refine (start_v HV.out h01 (by first | (have := HB1.out.size; omega) | (simp; omega))).mono ?_; rintro e w3 ⟨⟨v3, X3, rfl, hv3⟩, hb3⟩; obtain ⟨gf3, lb3, rfl, h3a, h3b, h3c⟩ := hv3; have HV3 : Hid (SeqV n₀ n₁ _ _ _ _) := Lib.hid ⟨gf3, lb3, rfl, h3a, h3b, h3c⟩; have HB3 := Lib.hid hb3; clear hb3 h3a h3b h3c))
    go_ret
    exact ⟨⟨_, _, rfl, by rw [show choL 5 (rdx l t) = (rdx l t).take 1 from rfl]; exact HV3.out⟩, (HB1.out).trans (HB3.out.mono (by have := HB1.out.size; simp at *; omega))⟩
  have e2 : (k == 2) = false := by simpa using h2
  have e3 : (k == 3) = false := by simpa using h3
  have e4 : (k == 4) = false := by simpa using h4
  have e5 : (k == 5) = false := by simpa using h5
  have HC := Lib.hid (show choL k (rdx l t) = rdx l t by unfold choL; rw [if_neg h2, if_neg h3, if_neg h4, if_neg h5])
  clear h2 h3 h4 h5
  go_enter Tryz.func110, Tryz.ntmps110
  rw [show tmv t (.slice oa t.ts.length cap) = .agg #[.string t.nm, .bool t.vr, .slice oa t.ts.length cap] from rfl]
  go_wp2_with (go_at_call 182; refine (redexes_any t (.slice oa t.ts.length cap) (.slice ra l.length rc) (.slice lo l.length lc) _ ⟨_, _, _, rfl⟩ ⟨_, _, _, rfl⟩ ⟨_, _, _, rfl⟩).mono ?_; rintro e w2 ⟨rfl, rfl⟩)
  go_ret
  exact ⟨⟨_, _, rfl, by rw [HC.out]; exact HV.out⟩, HB1.out⟩
end Go.Proofs.YtamddagmlanijaaGreat
