/- Packed: Inn. -/
import Derived.Test.YtamddagmlanijaaGreatP24
import Derived.Test.YtamddagmlanijaaGreatP22
import Derived.Deep.RegionHeld3
/- inner(all): an iterator over the redexes of another that have none below them. -/
namespace Go.Proofs.YtamddagmlanijaaGreat
open Go.RowKit Go.Shelf
attribute [local go_sem] Oper.semAt_some

def innStep (s : List Rdx × Option Rdx) (x : Rdx) : List Rdx × Option Rdx := match s.2 with | some y => if belowB x.1 y.1 then (s.1, some x) else (s.1 ++ [y], some x) | none => (s.1, some x)
def innF (l : List Rdx) : List Rdx × Option Rdx := l.foldl innStep ([], none)
def innL (l : List Rdx) : List Rdx := (innF l).1 ++ (innF l).2.toList
theorem innF_snoc (l : List Rdx) (x : Rdx) : innF (l ++ [x]) = innStep (innF l) x := by simp [innF]
theorem innF_prefix {a b : List Rdx} (h : a <+: b) : (innF a).1 <+: innL b := by
  obtain ⟨r, rfl⟩ := h
  have key : ∀ (r : List Rdx) (a : List Rdx), (innF a).1 <+: (innF (a ++ r)).1 := by
    intro r
    induction r with
    | nil => intro a; simp
    | cons x r ih =>
      intro a
      have h1 : (innF a).1 <+: (innF (a ++ [x])).1 := by
        rw [innF_snoc, innStep]
        split
        · split
          · exact List.prefix_refl _
          · exact List.prefix_append _ _
        · exact List.prefix_refl _
      have h2 := ih (a ++ [x])
      rw [List.append_assoc, List.singleton_append] at h2
      exact h1.trans h2
  exact (key r a).trans (List.prefix_append _ _)

set_option maxRecDepth 100000 in
set_option maxHeartbeats 1000000 in
theorem inner_any (gf : Nat) (lb : Array Value) (w : World) :
    Calls Tryz.prog 183 #[.func (.func gf) #[] lb] w fun e w' => e = .returned (.func (.func 247) #[] #[.pointer (some ⟨w.heap.size, 0, none⟩)]) ∧ w' = w.alloc (.cells #[.func (.func gf) #[] lb] 175) := by
  go_enter Tryz.func183, Tryz.ntmps183
  go_wp2
  go_ret
  exact ⟨rfl, rfl⟩

set_option maxRecDepth 100000 in
set_option maxHeartbeats 4000000 in
theorem inner_seq (gf : Nat) (lb : Array Value) (L : List Rdx) (n₀ Ba : Nat) (X₀ X₁ : Bs) (w : World) (hseq : SeqX Fence.wide Tryz.prog gf lb (ElR n₀) L n₀ X₀ w) (eg : ∀ args w, (callFunc gf args).run Tryz.prog w = .ok (.enter gf args) w) (hn : n₀ ≤ w.heap.size)
    (h01 : ∀ k, X₀ k → X₁ k) (hX : XB n₀ X₁ w) (hB : X₁ Ba) (hbx : w.heap[Ba]? = some (.cells #[.func (.func gf) #[] lb] 175 (0, 0))) :
    SeqX Fence.wide Tryz.prog 247 #[.pointer (some ⟨Ba, 0, none⟩)] (ElR n₀) (innL L) n₀ X₁ w := by
  intro n lp J Jx R₀ W hW hXW hR₀ hd₀ hJ hJx hY hJ0
  have hz := hW.size
  have hxb : XB n₀ X₁ W := fun k hk => by have := hX k hk; omega
  have hbW := (hXW Ba hB).trans hbx
  have hBz := (Array.getElem?_eq_some_iff.1 hbW).1
  have hb1 := (Below.heap_alloc (W.alloc (.cells #[.func (.yield lp) #[] #[]] 306)) (.cells #[.slice none 0 0] 307) Ba (by simp; omega)).trans ((Below.heap_alloc W (.cells #[.func (.yield lp) #[] #[]] 306) Ba hBz).trans hbW)
  have b0 := cells_of hb1 0
  simp only [List.getElem?_toArray, List.getElem?_cons_zero] at b0
  obtain ⟨w1, hw1⟩ : ∃ w1, w1 = (W.alloc (.cells #[.func (.yield lp) #[] #[]] 306)).alloc (.cells #[.slice none 0 0] 307) := ⟨_, rfl⟩
  have hB0 : Below W.heap.size W w1 := by rw [hw1]; go_grown
  have hz1 : w1.heap.size = W.heap.size + 1 + 1 := by rw [hw1]; simp
  have hnW : n₀ ≤ W.heap.size := by omega
  have hbg : Begin n₀ lp X₀ X₁ R₀ W w1 := begin_of hnW h01 hxb hR₀ hd₀ hB0 (by omega) (by rw [hw1]; exact (Below.heap_alloc _ _ _ (by simp)).trans (World.alloc_heap_new W _))
  have hM0 := hbg.m
  have hH0 : HeldAt n₀ (W.heap.size + 1) none X₀ (fun k => X₁ k ∨ (W.heap.size ≤ k ∧ k < w1.heap.size)) R₀ w1 := ⟨.inr (by omega), fun hx => by have := hxb _ (h01 _ hx); omega, .inl ⟨rfl, by rw [hw1]; exact heap_new_at _ _ _ (by simp)⟩⟩
  have hJ1 := hJ _ _ _ _ _ _ _ hJ0 hbg.f hbg.g
  have hs1 : SeqX Fence.wide Tryz.prog gf lb (ElR n₀) L n₀ X₀ w1 := hseq.later (hW.trans (hB0.mono hnW)) fun k hk => (hB0.block k (hxb k (h01 k hk)).2).trans (hXW k (h01 k hk))
  have HY := Lib.hid hY
  have HJ := Lib.hid hJ
  have HJx := Lib.hid hJx
  have HEG := Lib.hid eg
  clear hY hJ hJx hseq hbx hbW hb1 hbg hJ0 hB0 eg
  refine callsIn_wide.2 ((callsIn_wide (n := 9)).1 ?_)
  refine callsIn_of_wp_marks Tryz.func247 rfl trivial ?_ rfl
  simp only [Tryz.ntmps247, List.size_toArray, List.length_cons, List.length_nil, Nat.reduceAdd, Nat.reduceSub, Array.replicate_succ, Array.replicate_zero, List.push_toArray, List.append_toArray, List.nil_append, List.cons_append]
  gi_wp2_with fail
  rw [← hw1]
  clear hw1 b0
  refine wpIn_rangeX rfl (by omega) (gf := gf) (lb := lb) rfl trivial HEG.out hs1 (fun _ => False) (by omega) (fun k hk => hk.elim (fun h => by have := hxb k (h01 k h); omega) False.elim) (fun _ _ h => h) (fun x vs R W ⟨_, _, h, _⟩ => by rw [h]; rfl)
    (fun X R pre V => ∃ Y S, YMem n₀ W.heap.size lp V X R Y S ∧ HeldAt n₀ (W.heap.size + 1) (innF pre).2 X Y S V ∧ J Y S (innF pre).1 V)
    (fun c X R pre V => c = .ret ∧ ∃ Y S, YMem n₀ W.heap.size lp V X R Y S ∧ Jx Y S (innF pre).1 V)
    (fun X R X' R' s A B ⟨Y, S, h, ht, hj⟩ hf hg => by
      obtain ⟨f, g, m⟩ := h.step hf hg
      exact ⟨_, _, m, ht.step h hf hg, HJ.out _ _ _ _ _ _ _ hj f g⟩)
    (fun c X R X' R' s A B ⟨h1, Y, S, h, hj⟩ hf hg => by
      obtain ⟨f, g, m⟩ := h.step hf hg
      exact ⟨h1, _, _, m, HJx.out _ _ _ _ _ _ _ hj f g⟩)
    ⟨_, _, hM0, hH0, hJ1⟩ ?round ?done ?stop
  case round =>
    rintro lq X R pre x vs V r₀ ⟨Y, S, hM, hH, hj⟩ ⟨pv, rv, rfl, hel⟩ hxb hdis hXl hml hrl hms hpre
    obtain ⟨po, pc, rfl, -⟩ := ownsRow_formP hel.pos
    obtain ⟨ro, rc, rfl, -⟩ := ownsRow_formP hel.rules
    simp only [Array.zip]
    gi_wp2
    have hB1 : Below V.heap.size V (V.alloc (.cells #[.slice po x.1.length pc, .slice ro x.2.length rc] 182)) := by go_grown
    refine ⟨Kx.of_below hB1 hM.nz hxb, fun r => ?_⟩
    have hlV := (hxb lq (.inl hXl)).2
    obtain ⟨V2, hV2⟩ : ∃ V2, V2 = (V.alloc (.cells #[.slice po x.1.length pc, .slice ro x.2.length rc] 182)).putObj lq (.loop r) := ⟨_, rfl⟩
    have hfa : Fx n₀ X X V V2 := by rw [hV2]; exact (Fx.of_below X hB1).trans (Fx.put _ (hxb lq (.inl hXl)).1 hXl)
    have hz2 : V2.heap.size = V.heap.size + 1 := by rw [hV2]; simp
    have hrga : Rg X R X R V V2 := Rg.own_new hdis
    obtain ⟨f2, g2, hM2⟩ := hM.step hfa hrga
    have hj2 := HJ.out _ _ _ _ _ _ _ hj f2 g2
    have hH2 := hH.step hM hfa hrga
    obtain ⟨Y2, hY2⟩ : ∃ Y2 : Bs, Y2 = stepY Y R V V2 := ⟨_, rfl⟩
    obtain ⟨S2, hS2⟩ : ∃ S2 : Bs, S2 = un S R := ⟨_, rfl⟩
    have hbY : ¬ Y2 V.heap.size → False := fun h => h (by rw [hY2]; exact ⟨.inr (by omega), fun hr => by have := (hxb _ (.inr hr)).2; omega⟩)
    rw [← hY2, ← hS2] at hM2 hj2 hH2
    have hxb2 := hrga.xb hfa hM.nz hxb
    have hbu : V2.heap[V.heap.size]? = some (.cells #[.slice po x.1.length pc, .slice ro x.2.length rc] 182 (0, 0)) := by
      rw [hV2, World.putObj_heap_other (by omega)]; exact World.alloc_heap_new V _
    have hel2 : RdIs n₀ x (.slice po x.1.length pc) (.slice ro x.2.length rc) S2 V2 := hel.on hM2.rs fun k hk => hfa.block k (hxb k (.inr hk)).2 (.inr fun h => hdis k h hk)
    have c0 := cells_of hbu 0
    have c1 := cells_of hbu 1
    have y0 := cells_of hM2.ybx 0
    simp only [List.getElem?_toArray, List.getElem?_cons_zero, List.getElem?_cons_succ] at c0 c1 y0
    have HM2 := Lib.hid hM2
    have HH2 := Lib.hid hH2
    have HJ2 := Lib.hid hj2
    have HEL := Lib.hid hel2
    have HBU := Lib.hid hbu
    have HXB := Lib.hid hxb2
    have HPRE := Lib.hid hpre
    have HBY := Lib.hid (Classical.not_not.1 hbY)
    rw [← hV2]
    clear hM hj hel hxb hfa hrga f2 g2 hM2 hj2 hH hH2 hV2 hY2 hS2 hxb2 hbu hB1 hpre hrl hel2 hdis hbY
    -- the redex is held
    have hold : ∀ (Vb : World) (outs : List Rdx) (top : Option Rdx), Hid (YMem n₀ W.heap.size lp Vb X R Y2 S2 ∧ HeldAt n₀ (W.heap.size + 1) top X Y2 S2 Vb ∧ J Y2 S2 outs Vb ∧ RdIs n₀ x (.slice po x.1.length pc) (.slice ro x.2.length rc) S2 Vb ∧ Kx n₀ (un X R) V2 Vb ∧ innF (pre ++ [x]) = (outs, some x)) →
        Hid (Kx n₀ (un X R) V2 ((Vb.setCell ⟨W.heap.size + 1, 0, none⟩ (.slice (some ⟨Vb.heap.size, 0, none⟩) 1 1)).alloc (.cells #[.slice po x.1.length pc, .slice ro x.2.length rc] 182)) ∧
          ∃ Y S, YMem n₀ W.heap.size lp ((Vb.setCell ⟨W.heap.size + 1, 0, none⟩ (.slice (some ⟨Vb.heap.size, 0, none⟩) 1 1)).alloc (.cells #[.slice po x.1.length pc, .slice ro x.2.length rc] 182)) X R Y S ∧ HeldAt n₀ (W.heap.size + 1) (innF (pre ++ [x])).2 X Y S ((Vb.setCell ⟨W.heap.size + 1, 0, none⟩ (.slice (some ⟨Vb.heap.size, 0, none⟩) 1 1)).alloc (.cells #[.slice po x.1.length pc, .slice ro x.2.length rc] 182)) ∧
            J Y S (innF (pre ++ [x])).1 ((Vb.setCell ⟨W.heap.size + 1, 0, none⟩ (.slice (some ⟨Vb.heap.size, 0, none⟩) 1 1)).alloc (.cells #[.slice po x.1.length pc, .slice ro x.2.length rc] 182))) := by
      intro Vb outs top hh
      obtain ⟨hmb, hhb, hjb, helb, hkb, hst⟩ := hh.out
      have hlt := (hmb.yB _ (.inl hhb.own)).2
      obtain ⟨h3, f3, m3, k3⟩ := hhb.set hmb helb rfl
      rw [World.setCell_alloc_past _ _ _ _ hlt] at h3 f3 m3 k3
      have hm3 := m3 (by omega)
      have hj3 := HJ.out _ _ _ _ _ _ _ hjb f3 (Rg.same hmb.dis (fun k hk => hmb.yB k (.inr hk)) f3.own)
      refine Lib.hid ⟨hkb.trans ⟨f3.below hmb.nz, fun k hk => k3 k (hmb.yB k (hmb.unl k hk)).2 fun e => ?_⟩, _, S2, hm3, by rw [hst]; exact h3, by rw [hst]; exact hj3⟩
      subst e
      rcases hk with hk | hk
      · exact hhb.nx hk
      · exact hmb.dis _ hhb.own (hmb.rs _ hk)
    have HHOLD := Lib.hid hold
    clear hold
    -- another redex is handed on
    have give : ∀ (Vb : World) (y : Rdx) (qv sv : Value), Hid (Below V2.heap.size V2 Vb ∧ (innF pre).2 = some y ∧ belowB x.1 y.1 = false ∧ RdIs n₀ y qv sv S2 V2) →
        ∃ fn tmps assign body, (Instr.yield lp #[.agg #[qv, sv]]).run Tryz.prog Vb = .ok (.round lp fn tmps assign body) Vb ∧
          Hid (RoundIn (Fence.wide.inRound lq) 6 Tryz.prog lp fn tmps assign body Vb fun e W' => Kx n₀ (un Y2 S2) Vb W' ∧
            ((e = .returned (.bool true) ∧ YMem n₀ W.heap.size lp W' X R Y2 S2 ∧ HeldAt n₀ (W.heap.size + 1) (innF pre).2 X Y2 S2 W' ∧ J Y2 S2 ((innF pre).1 ++ [y]) W' ∧ RdIs n₀ x (.slice po x.1.length pc) (.slice ro x.2.length rc) S2 W' ∧ Kx n₀ (un X R) V2 W' ∧ innF (pre ++ [x]) = ((innF pre).1 ++ [y], some x)) ∨
              (e = .returned (.bool false) ∧ Kx n₀ (un X R) V2 W' ∧ ∃ Y S, YMem n₀ W.heap.size lp W' X R Y S ∧ Jx Y S (innF (pre ++ [x])).1 W'))) := by
      intro Vb y qv sv hh
      obtain ⟨hb, htop, hbl, hely⟩ := hh.out
      have hkb := Kx.of_below hb HM2.out.nz HM2.out.yB
      have hmb := HM2.out.kx hkb
      have hjb := HJ.out _ _ _ _ _ _ _ HJ2.out (Fx.of_below Y2 hb) (Rg.own_new HM2.out.dis)
      have hst : innF (pre ++ [x]) = ((innF pre).1 ++ [y], some x) := by rw [innF_snoc, innStep, htop]; simp only [hbl]; rfl
      obtain ⟨fn, tmps, assign, body, hy, hRd⟩ := HY.out Y2 S2 (innF pre).1 y #[.agg #[qv, sv]] Vb hjb ⟨_, _, rfl, hely.on (fun _ h => h) fun k hk => hkb.kept k (.inr hk)⟩ hmb.yB hmb.dis hmb.nz (by have h := innF_prefix HPRE.out; rw [hst] at h; exact h)
      refine ⟨fn, tmps, assign, body, hy, Lib.hid (RoundIn.mono (show RoundIn (Fence.wide.inRound lq) 6 Tryz.prog lp fn tmps assign body _ _ from roundAny rfl hRd) ?_)⟩
      rintro e W' (⟨rfl, hj, hk⟩ | ⟨rfl, hj, hk⟩)
      · exact ⟨hk, .inl ⟨rfl, hmb.kx hk, (HH2.out.kx hkb).kx hk, hj, HEL.out.on (fun _ h => h) (fun k e => (hk.kept k (.inr e)).trans (hkb.kept k (.inr e))), (hkb.trans hk).less HM2.out.unl, hst⟩⟩
      · exact ⟨hk, .inr ⟨rfl, (hkb.trans hk).less HM2.out.unl, Y2, S2, hmb.kx hk, by rw [hst]; exact hj⟩⟩
    have HGIVE := Lib.hid give
    clear give
    have hWV : W.heap.size + 1 < V.heap.size := by omega
    have n1 : ¬ (W.heap.size + 1 = V.heap.size) := by omega
    have n2 : ¬ (V.heap.size = W.heap.size + 1) := by omega
    have n3 : ¬ (W.heap.size = V.heap.size) := by omega
    have n4 : ¬ (V.heap.size = W.heap.size) := by omega
    have n5 : W.heap.size + 1 < V2.heap.size := by omega
    have n6 : W.heap.size < V2.heap.size := by omega
    have n7 : V.heap.size < V2.heap.size := by omega
    have HZ2 := Lib.hid hz2
    clear hz2
    rcases HH2.out.val with ⟨htop, hv⟩ | ⟨y, hc, pv2, rv2, htop, hv, hyc, hxc, hne, hcc, hely⟩
    · have t0 := cells_of hv 0
      simp only [List.getElem?_toArray, List.getElem?_cons_zero] at t0
      have HO := HHOLD.out V2.drew (innF pre).1 (innF pre).2 (Lib.hid ⟨HM2.out.kx (Kx.of_below (Below.refl _ _).drew HM2.out.nz HM2.out.yB), HH2.out.kx (Kx.of_below (Below.refl _ _).drew HM2.out.nz HM2.out.yB), HJ.out _ _ _ _ _ _ _ HJ2.out (Fx.of_below Y2 (Below.refl _ _).drew) (Rg.own_new HM2.out.dis), HEL.out.on (fun _ h => h) (fun _ _ => rfl), Kx.of_below (Below.refl _ _).drew HM2.out.nz HXB.out, by rw [innF_snoc, innStep, htop]⟩)
      have m5 : W.heap.size + 1 < V2.heap.size := by have := n7; omega
      have m7 : V.heap.size < V2.heap.size := by have := n7; omega
      have k0 := cells_of hv 0
      have k2 := cells_of HBU.out 0
      have k3 := cells_of HBU.out 1
      have k4 : V2.frozen? ⟨W.heap.size + 1, 0, none⟩ = false := by simp [World.frozen?, hv]
      have ha5 : ∀ k, k < V2.heap.size → (V2.alloc (.cells #[.slice po x.1.length pc, .slice ro x.2.length rc] 182)).heap[k]? = V2.heap[k]? := fun k hk => Below.heap_alloc _ _ _ hk
      simp only [List.getElem?_toArray, List.getElem?_cons_zero, List.getElem?_cons_succ] at k0 k2 k3
      have r0 := (World.cell?_of_block (a := ⟨W.heap.size + 1, 0, none⟩) (ha5 _ m5)).trans k0
      have r2 := (World.cell?_of_block (a := ⟨V.heap.size, 0, none⟩) (ha5 _ m7)).trans k2
      have r3 := (World.cell?_of_block (a := ⟨V.heap.size, 1, none⟩) (ha5 _ m7)).trans k3
      have r4 := (World.frozen?_of_block (a := ⟨W.heap.size + 1, 0, none⟩) (ha5 _ m5)).trans k4
      clear ha5
      clear hv htop
      gi_wp2_with fail
      refine wpIn_region_hi (S := fun w' => w'.cell? ⟨W.heap.size + 1, 0, none⟩ = some (.slice none 0 0)) (by kernel_rfl) t0 (fun _ => ?_)
      simp only [List.size_toArray, List.length_cons, List.length_nil, Nat.reduceAdd]
      refine wpHI_take (i := 0) (v := ?_) (wide_fn _) (by kernel_rfl) (by simp only [List.getElem?_toArray, List.getElem?_cons_zero]; rfl) (by kernel_rfl) (by kernel_rfl) (by kernel_rfl) (fun _ _ _ h => h) (Or.inl ⟨by rfl, ?_⟩) t0 ?_
      case refine_2 => (intro ww hSw; obtain hS := hSw; go_simp; try with_reducible rfl)
      try simp only [Act.put, List.setIfInBounds_toArray, List.set_cons_zero, List.set_cons_succ]
      refine wpHI_take (i := 1) (v := ?_) (wide_fn _) (by kernel_rfl) (by simp only [List.getElem?_toArray, List.getElem?_cons_zero, List.getElem?_cons_succ]; rfl) (by kernel_rfl) (by kernel_rfl) (by kernel_rfl) (fun _ _ _ h => h) (Or.inl ⟨by rfl, ?_⟩) t0 ?_
      case refine_2 => (intro ww hSw; obtain hS := hSw; go_simp; try with_reducible rfl)
      try simp only [Act.put, List.setIfInBounds_toArray, List.set_cons_zero, List.set_cons_succ]
      refine wpHI_take (i := 2) (v := ?_) (wide_fn _) (by kernel_rfl) (by simp only [List.getElem?_toArray, List.getElem?_cons_zero, List.getElem?_cons_succ]; rfl) (by kernel_rfl) (by kernel_rfl) (by kernel_rfl) (fun _ _ _ h => h) (Or.inl ⟨by rfl, ?_⟩) t0 ?_
      case refine_2 => (intro ww hSw; obtain hS := hSw; go_simp; try with_reducible rfl)
      try simp only [Act.put, List.setIfInBounds_toArray, List.set_cons_zero, List.set_cons_succ]
      refine wpHI_take (i := 3) (v := ?_) (wide_fn _) (by kernel_rfl) (by simp only [List.getElem?_toArray, List.getElem?_cons_zero, List.getElem?_cons_succ]; rfl) (by kernel_rfl) (by kernel_rfl) (by kernel_rfl) (fun _ _ _ h => h) (Or.inl ⟨by rfl, ?_⟩) t0 ?_
      case refine_2 => (intro ww hSw; obtain hS := hSw; go_simp; try with_reducible rfl)
      try simp only [Act.put, List.setIfInBounds_toArray, List.set_cons_zero, List.set_cons_succ]
      refine wpHI_take (i := 4) (v := _) (wide_fn _) (by kernel_rfl) (by simp only [List.getElem?_toArray, List.getElem?_cons_zero, List.getElem?_cons_succ]; rfl) (by kernel_rfl) (by kernel_rfl) (by kernel_rfl) (fun _ _ _ h => h) (Or.inr ⟨by rfl, rfl⟩) t0 ?_
      try simp only [Act.put, List.setIfInBounds_toArray, List.set_cons_zero, List.set_cons_succ]
      refine wpHI_take (i := 5) (v := _) (wide_fn _) (by kernel_rfl) (by simp only [List.getElem?_toArray, List.getElem?_cons_zero, List.getElem?_cons_succ]; rfl) (by kernel_rfl) (by kernel_rfl) (by kernel_rfl) (fun _ _ _ h => h) (Or.inr ⟨by rfl, rfl⟩) t0 ?_
      try simp only [Act.put, List.setIfInBounds_toArray, List.set_cons_zero, List.set_cons_succ]
      refine wpHI_take (i := 6) (v := _) (wide_fn _) (by kernel_rfl) (by simp only [List.getElem?_toArray, List.getElem?_cons_zero, List.getElem?_cons_succ]; rfl) (by kernel_rfl) (by kernel_rfl) (by kernel_rfl) (fun _ _ _ h => h) (Or.inr ⟨by rfl, rfl⟩) t0 ?_
      try simp only [Act.put, List.setIfInBounds_toArray, List.set_cons_zero, List.set_cons_succ]
      refine wpHI_take (i := 7) (v := _) (wide_fn _) (by kernel_rfl) (by simp only [List.getElem?_toArray, List.getElem?_cons_zero, List.getElem?_cons_succ]; rfl) (by kernel_rfl) (by kernel_rfl) (by kernel_rfl) (fun _ _ _ h => h) (Or.inr ⟨by rfl, rfl⟩) t0 ?_
      try simp only [Act.put, List.setIfInBounds_toArray, List.set_cons_zero, List.set_cons_succ]
      refine wpHI_take (i := 8) (v := _) (wide_fn _) (by kernel_rfl) (by simp only [List.getElem?_toArray, List.getElem?_cons_zero, List.getElem?_cons_succ]; rfl) (by kernel_rfl) (by kernel_rfl) (by kernel_rfl) (fun _ _ _ h => h) (Or.inr ⟨by rfl, rfl⟩) t0 ?_
      try simp only [Act.put, List.setIfInBounds_toArray, List.set_cons_zero, List.set_cons_succ]
      refine wpHI_take (i := 9) (v := _) (wide_fn _) (by kernel_rfl) (by simp only [List.getElem?_toArray, List.getElem?_cons_zero, List.getElem?_cons_succ]; rfl) (by kernel_rfl) (by kernel_rfl) (by kernel_rfl) (fun _ _ _ h => h) (Or.inr ⟨by rfl, rfl⟩) t0 ?_
      try simp only [Act.put, List.setIfInBounds_toArray, List.set_cons_zero, List.set_cons_succ]
      refine wpHI_take (i := 10) (v := _) (wide_fn _) (by kernel_rfl) (by simp only [List.getElem?_toArray, List.getElem?_cons_zero, List.getElem?_cons_succ]; rfl) (by kernel_rfl) (by kernel_rfl) (by kernel_rfl) (fun _ _ _ h => h) (Or.inr ⟨by rfl, rfl⟩) t0 ?_
      try simp only [Act.put, List.setIfInBounds_toArray, List.set_cons_zero, List.set_cons_succ]
      refine wpHI_take (i := 11) (v := _) (wide_fn _) (by kernel_rfl) (by simp only [List.getElem?_toArray, List.getElem?_cons_zero, List.getElem?_cons_succ]; rfl) (by kernel_rfl) (by kernel_rfl) (by kernel_rfl) (fun _ _ _ h => h) (Or.inr ⟨by rfl, rfl⟩) t0 ?_
      try simp only [Act.put, List.setIfInBounds_toArray, List.set_cons_zero, List.set_cons_succ]
      refine wpHI_take (i := 12) (v := ?_) (wide_fn _) (by kernel_rfl) (by simp only [List.getElem?_toArray, List.getElem?_cons_zero, List.getElem?_cons_succ]; rfl) (by kernel_rfl) (by kernel_rfl) (by kernel_rfl) (fun _ _ _ h => h) (Or.inl ⟨by rfl, ?_⟩) t0 ?_
      case refine_2 => (intro ww hSw; obtain hS := hSw; go_simp; try with_reducible rfl)
      try simp only [Act.put, List.setIfInBounds_toArray, List.set_cons_zero, List.set_cons_succ]
      refine wpHI_take (i := 13) (v := ?_) (wide_fn _) (by kernel_rfl) (by simp only [List.getElem?_toArray, List.getElem?_cons_zero, List.getElem?_cons_succ]; rfl) (by kernel_rfl) (by kernel_rfl) (by kernel_rfl) (fun _ _ _ h => h) (Or.inl ⟨by rfl, ?_⟩) t0 ?_
      case refine_2 => (intro ww hSw; obtain hS := hSw; go_simp; try with_reducible rfl)
      try simp only [Act.put, List.setIfInBounds_toArray, List.set_cons_zero, List.set_cons_succ]
      refine wpHI_take (i := 14) (v := _) (wide_fn _) (by kernel_rfl) (by simp only [List.getElem?_toArray, List.getElem?_cons_zero, List.getElem?_cons_succ]; rfl) (by kernel_rfl) (by kernel_rfl) (by kernel_rfl) (fun _ _ _ h => h) (Or.inr ⟨by rfl, rfl⟩) t0 ?_
      try simp only [Act.put, List.setIfInBounds_toArray, List.set_cons_zero, List.set_cons_succ]
      refine wpHI_take (i := 15) (v := _) (wide_fn _) (by kernel_rfl) (by simp only [List.getElem?_toArray, List.getElem?_cons_zero, List.getElem?_cons_succ]; rfl) (by kernel_rfl) (by kernel_rfl) (by kernel_rfl) (fun _ _ _ h => h) (Or.inr ⟨by rfl, rfl⟩) t0 ?_
      try simp only [Act.put, List.setIfInBounds_toArray, List.set_cons_zero, List.set_cons_succ]
      refine wpHI_take (i := 16) (v := _) (wide_fn _) (by kernel_rfl) (by simp only [List.getElem?_toArray, List.getElem?_cons_zero, List.getElem?_cons_succ]; rfl) (by kernel_rfl) (by kernel_rfl) (by kernel_rfl) (fun _ _ _ h => h) (Or.inr ⟨by rfl, rfl⟩) t0 ?_
      try simp only [Act.put, List.setIfInBounds_toArray, List.set_cons_zero, List.set_cons_succ]
      refine wpHI_take (i := 17) (v := _) (wide_fn _) (by kernel_rfl) (by simp only [List.getElem?_toArray, List.getElem?_cons_zero, List.getElem?_cons_succ]; rfl) (by kernel_rfl) (by kernel_rfl) (by kernel_rfl) (fun _ _ _ h => h) (Or.inr ⟨by rfl, rfl⟩) t0 ?_
      try simp only [Act.put, List.setIfInBounds_toArray, List.set_cons_zero, List.set_cons_succ]
      refine wpHI_take (i := 18) (v := _) (wide_fn _) (by kernel_rfl) (by simp only [List.getElem?_toArray, List.getElem?_cons_zero, List.getElem?_cons_succ]; rfl) (by kernel_rfl) (by kernel_rfl) (by kernel_rfl) (fun _ _ _ h => h) (Or.inr ⟨by rfl, rfl⟩) t0 ?_
      try simp only [Act.put, List.setIfInBounds_toArray, List.set_cons_zero, List.set_cons_succ]
      refine wpHI_take (i := 19) (v := _) (wide_fn _) (by kernel_rfl) (by simp only [List.getElem?_toArray, List.getElem?_cons_zero, List.getElem?_cons_succ]; rfl) (by kernel_rfl) (by kernel_rfl) (by kernel_rfl) (fun _ _ _ h => h) (Or.inr ⟨by rfl, rfl⟩) t0 ?_
      try simp only [Act.put, List.setIfInBounds_toArray, List.set_cons_zero, List.set_cons_succ]
      refine wpHI_take (i := 20) (v := ?_) (wide_fn _) (by kernel_rfl) (by simp only [List.getElem?_toArray, List.getElem?_cons_zero, List.getElem?_cons_succ]; rfl) (by kernel_rfl) (by kernel_rfl) (by kernel_rfl) (fun _ _ _ h => h) (Or.inl ⟨by rfl, ?_⟩) t0 ?_
      case refine_2 => (intro ww hSw; obtain hS := hSw; go_simp; try with_reducible rfl)
      try simp only [Act.put, List.setIfInBounds_toArray, List.set_cons_zero, List.set_cons_succ]
      refine wpHI_done (by kernel_rfl) ?_ _
      gi_wp2_with fail
      exact HO.out
    · obtain ⟨qo, qc, rfl, -⟩ := ownsRow_formP hely.pos
      obtain ⟨so, sc, rfl, -⟩ := ownsRow_formP hely.rules
      have t0 := cells_of hv 0
      have a0 := cells_of hcc 0
      have a1 := cells_of hcc 1
      simp only [List.getElem?_toArray, List.getElem?_cons_zero, List.getElem?_cons_succ] at t0 a0 a1
      have hS : V2.drew.cell? ⟨W.heap.size + 1, 0, none⟩ = some (.slice (some ⟨hc, 0, none⟩) 1 1) ∧ V2.drew.cell? ⟨hc, 0, none⟩ = some (.slice qo y.1.length qc) ∧ V2.drew.cell? ⟨hc, 1, none⟩ = some (.slice so y.2.length sc) ∧ V2.drew.cell? ⟨V.heap.size, 0, none⟩ = some (.slice po x.1.length pc) ∧ V2.drew.cell? ⟨W.heap.size, 0, none⟩ = some (.func (.yield lp) #[] #[]) := ⟨t0, a0, a1, c0, y0⟩
      have HELY := Lib.hid hely
      have HTOP := Lib.hid htop
      clear htop hely
      gi_wp2_with fail
      refine wpIn_region_hi (S := fun w' => w'.cell? ⟨W.heap.size + 1, 0, none⟩ = some (.slice (some ⟨hc, 0, none⟩) 1 1) ∧ w'.cell? ⟨hc, 0, none⟩ = some (.slice qo y.1.length qc) ∧ w'.cell? ⟨hc, 1, none⟩ = some (.slice so y.2.length sc) ∧ w'.cell? ⟨V.heap.size, 0, none⟩ = some (.slice po x.1.length pc) ∧ w'.cell? ⟨W.heap.size, 0, none⟩ = some (.func (.yield lp) #[] #[])) (by kernel_rfl) hS (fun _ => ?_)
      simp only [List.size_toArray, List.length_cons, List.length_nil, Nat.reduceAdd]
      refine wpHI_take (i := 0) (v := ?_) (wide_fn _) (by kernel_rfl) (by simp only [List.getElem?_toArray, List.getElem?_cons_zero]; rfl) (by kernel_rfl) (by kernel_rfl) (by kernel_rfl) (fun _ _ _ h => h) (Or.inl ⟨by rfl, ?_⟩) hS ?_
      case refine_2 => (intro ww hSw; obtain ⟨s1, s2, s3, s4, s5⟩ := hSw; go_simp; try with_reducible rfl)
      try simp only [Act.put, List.setIfInBounds_toArray, List.set_cons_zero, List.set_cons_succ]
      refine wpHI_take (i := 1) (v := ?_) (wide_fn _) (by kernel_rfl) (by simp only [List.getElem?_toArray, List.getElem?_cons_zero, List.getElem?_cons_succ]; rfl) (by kernel_rfl) (by kernel_rfl) (by kernel_rfl) (fun _ _ _ h => h) (Or.inl ⟨by rfl, ?_⟩) hS ?_
      case refine_2 => (intro ww hSw; obtain ⟨s1, s2, s3, s4, s5⟩ := hSw; go_simp; try with_reducible rfl)
      try simp only [Act.put, List.setIfInBounds_toArray, List.set_cons_zero, List.set_cons_succ]
      refine wpHI_take (i := 2) (v := ?_) (wide_fn _) (by kernel_rfl) (by simp only [List.getElem?_toArray, List.getElem?_cons_zero, List.getElem?_cons_succ]; rfl) (by kernel_rfl) (by kernel_rfl) (by kernel_rfl) (fun _ _ _ h => h) (Or.inl ⟨by rfl, ?_⟩) hS ?_
      case refine_2 => (intro ww hSw; obtain ⟨s1, s2, s3, s4, s5⟩ := hSw; go_simp; try with_reducible rfl)
      try simp only [Act.put, List.setIfInBounds_toArray, List.set_cons_zero, List.set_cons_succ]
      refine wpHI_take (i := 3) (v := ?_) (wide_fn _) (by kernel_rfl) (by simp only [List.getElem?_toArray, List.getElem?_cons_zero, List.getElem?_cons_succ]; rfl) (by kernel_rfl) (by kernel_rfl) (by kernel_rfl) (fun _ _ _ h => h) (Or.inl ⟨by rfl, ?_⟩) hS ?_
      case refine_2 => (intro ww hSw; obtain ⟨s1, s2, s3, s4, s5⟩ := hSw; go_simp; try with_reducible rfl)
      try simp only [Act.put, List.setIfInBounds_toArray, List.set_cons_zero, List.set_cons_succ]
      refine wpHI_take (i := 4) (v := ?_) (wide_fn _) (by kernel_rfl) (by simp only [List.getElem?_toArray, List.getElem?_cons_zero, List.getElem?_cons_succ]; rfl) (by kernel_rfl) (by kernel_rfl) (by kernel_rfl) (fun _ _ _ h => h) (Or.inl ⟨by rfl, ?_⟩) hS ?_
      case refine_2 => (intro ww hSw; obtain ⟨s1, s2, s3, s4, s5⟩ := hSw; go_simp; try with_reducible rfl)
      try simp only [Act.put, List.setIfInBounds_toArray, List.set_cons_zero, List.set_cons_succ]
      refine wpHI_take (i := 5) (v := ?_) (wide_fn _) (by kernel_rfl) (by simp only [List.getElem?_toArray, List.getElem?_cons_zero, List.getElem?_cons_succ]; rfl) (by kernel_rfl) (by kernel_rfl) (by kernel_rfl) (fun _ _ _ h => h) (Or.inl ⟨by rfl, ?_⟩) hS ?_
      case refine_2 => (intro ww hSw; obtain ⟨s1, s2, s3, s4, s5⟩ := hSw; go_simp; try with_reducible rfl)
      try simp only [Act.put, List.setIfInBounds_toArray, List.set_cons_zero, List.set_cons_succ]
      refine wpHI_take (i := 6) (v := ?_) (wide_fn _) (by kernel_rfl) (by simp only [List.getElem?_toArray, List.getElem?_cons_zero, List.getElem?_cons_succ]; rfl) (by kernel_rfl) (by kernel_rfl) (by kernel_rfl) (fun _ _ _ h => h) (Or.inl ⟨by rfl, ?_⟩) hS ?_
      case refine_2 => (intro ww hSw; obtain ⟨s1, s2, s3, s4, s5⟩ := hSw; go_simp; try with_reducible rfl)
      try simp only [Act.put, List.setIfInBounds_toArray, List.set_cons_zero, List.set_cons_succ]
      refine wpHI_take (i := 7) (v := ?_) (wide_fn _) (by kernel_rfl) (by simp only [List.getElem?_toArray, List.getElem?_cons_zero, List.getElem?_cons_succ]; rfl) (by kernel_rfl) (by kernel_rfl) (by kernel_rfl) (fun _ _ _ h => h) (Or.inl ⟨by rfl, ?_⟩) hS ?_
      case refine_2 => (intro ww hSw; obtain ⟨s1, s2, s3, s4, s5⟩ := hSw; go_simp; try with_reducible rfl)
      try simp only [Act.put, List.setIfInBounds_toArray, List.set_cons_zero, List.set_cons_succ]
      refine wpHI_take (i := 8) (v := ?_) (wide_fn _) (by kernel_rfl) (by simp only [List.getElem?_toArray, List.getElem?_cons_zero, List.getElem?_cons_succ]; rfl) (by kernel_rfl) (by kernel_rfl) (by kernel_rfl) (fun _ _ _ h => h) (Or.inl ⟨by rfl, ?_⟩) hS ?_
      case refine_2 => (intro ww hSw; obtain ⟨s1, s2, s3, s4, s5⟩ := hSw; go_simp; try with_reducible rfl)
      try simp only [Act.put, List.setIfInBounds_toArray, List.set_cons_zero, List.set_cons_succ]
      refine wpHI_take (i := 9) (v := ?_) (wide_fn _) (by kernel_rfl) (by simp only [List.getElem?_toArray, List.getElem?_cons_zero, List.getElem?_cons_succ]; rfl) (by kernel_rfl) (by kernel_rfl) (by kernel_rfl) (fun _ _ _ h => h) (Or.inl ⟨by rfl, ?_⟩) hS ?_
      case refine_2 => (intro ww hSw; obtain ⟨s1, s2, s3, s4, s5⟩ := hSw; go_simp; try with_reducible rfl)
      try simp only [Act.put, List.setIfInBounds_toArray, List.set_cons_zero, List.set_cons_succ]
      refine wpHI_one (i := 10) (wide_fn _) (by kernel_rfl) (by kernel_rfl) (by simp only [List.getElem?_toArray, List.getElem?_cons_zero, List.getElem?_cons_succ]; rfl) (by rfl) (fun K' hK => ?_)
      go_simp
      refine (CallsIn.inRound lq (callsIn_wide.2 (isBelow_any x.1 y.1 _ _ V2.drew V2.heap.size (PosC.carry (Below.refl _ V2).drew (Nat.le_refl _) (PosC.ofRow HEL.out.pos)) (PosIs.carry (Below.refl _ V2).drew (Nat.le_refl _) (PosIs.ofRow HELY.out.pos)) HEL.out.plen HELY.out.plen))).mono ?_
      rintro e w5 ⟨rfl, hb5⟩
      have hb5v : Below V2.heap.size V2 w5 := ((Below.refl _ V2).drew).trans hb5
      have HB5 := Lib.hid hb5v
      have hk5 := Kx.of_below hb5v HM2.out.nz HM2.out.yB
      have HK5 := Lib.hid hk5
      have z5 : Hid (V2.heap.size ≤ w5.heap.size) := Lib.hid hb5v.size
      have h5v := (hk5.kept _ (.inl HH2.out.own)).trans hv
      have h5u := (hk5.kept V.heap.size (.inl HBY.out)).trans HBU.out
      have h5t := cells_of h5v 0
      have h5a := cells_of ((hk5.kept hc (.inl hyc)).trans hcc) 0
      have h5b := cells_of ((hk5.kept hc (.inl hyc)).trans hcc) 1
      have h5c := cells_of h5u 0
      have h5y := cells_of ((hk5.kept _ (.inl HM2.out.y1)).trans HM2.out.ybx) 0
      simp only [List.getElem?_toArray, List.getElem?_cons_zero, List.getElem?_cons_succ] at h5t h5a h5b h5c h5y
      have hS5 : w5.cell? ⟨W.heap.size + 1, 0, none⟩ = some (.slice (some ⟨hc, 0, none⟩) 1 1) ∧ w5.cell? ⟨hc, 0, none⟩ = some (.slice qo y.1.length qc) ∧ w5.cell? ⟨hc, 1, none⟩ = some (.slice so y.2.length sc) ∧ w5.cell? ⟨V.heap.size, 0, none⟩ = some (.slice po x.1.length pc) ∧ w5.cell? ⟨W.heap.size, 0, none⟩ = some (.func (.yield lp) #[] #[]) := ⟨h5t, h5a, h5b, h5c, h5y⟩
      have H5V := Lib.hid h5v
      have H5U := Lib.hid h5u
      clear h5v h5u
      clear hb5 hb5v hk5
      refine hK.out _ _ hS5 (fun _ => ?_)
      clear hK
      try simp only [Act.put, List.setIfInBounds_toArray, List.set_cons_zero, List.set_cons_succ]
      cases hbl : belowB x.1 y.1
      · refine wpHI_take (i := 11) (v := ?_) (wide_fn _) (by kernel_rfl) (by simp only [List.getElem?_toArray, List.getElem?_cons_zero, List.getElem?_cons_succ]; rfl) (by kernel_rfl) (by kernel_rfl) (by kernel_rfl) (fun _ _ _ h => h) (Or.inl ⟨by rfl, ?_⟩) hS5 ?_
        case refine_2 => (intro ww hSw; obtain ⟨s1, s2, s3, s4, s5⟩ := hSw; go_simp; try with_reducible rfl)
        try simp only [Act.put, List.setIfInBounds_toArray, List.set_cons_zero, List.set_cons_succ]
        refine wpHI_take (i := 12) (v := ?_) (wide_fn _) (by kernel_rfl) (by simp only [List.getElem?_toArray, List.getElem?_cons_zero, List.getElem?_cons_succ]; rfl) (by kernel_rfl) (by kernel_rfl) (by kernel_rfl) (fun _ _ _ h => h) (Or.inl ⟨by rfl, ?_⟩) hS5 ?_
        case refine_2 => (intro ww hSw; obtain ⟨s1, s2, s3, s4, s5⟩ := hSw; go_simp; try with_reducible rfl)
        try simp only [Act.put, List.setIfInBounds_toArray, List.set_cons_zero, List.set_cons_succ]
        refine wpHI_take (i := 13) (v := ?_) (wide_fn _) (by kernel_rfl) (by simp only [List.getElem?_toArray, List.getElem?_cons_zero, List.getElem?_cons_succ]; rfl) (by kernel_rfl) (by kernel_rfl) (by kernel_rfl) (fun _ _ _ h => h) (Or.inl ⟨by rfl, ?_⟩) hS5 ?_
        case refine_2 => (intro ww hSw; obtain ⟨s1, s2, s3, s4, s5⟩ := hSw; go_simp; try with_reducible rfl)
        try simp only [Act.put, List.setIfInBounds_toArray, List.set_cons_zero, List.set_cons_succ]
        refine wpHI_take (i := 14) (v := ?_) (wide_fn _) (by kernel_rfl) (by simp only [List.getElem?_toArray, List.getElem?_cons_zero, List.getElem?_cons_succ]; rfl) (by kernel_rfl) (by kernel_rfl) (by kernel_rfl) (fun _ _ _ h => h) (Or.inl ⟨by rfl, ?_⟩) hS5 ?_
        case refine_2 => (intro ww hSw; obtain ⟨s1, s2, s3, s4, s5⟩ := hSw; go_simp; try with_reducible rfl)
        try simp only [Act.put, List.setIfInBounds_toArray, List.set_cons_zero, List.set_cons_succ]
        refine wpHI_take (i := 15) (v := ?_) (wide_fn _) (by kernel_rfl) (by simp only [List.getElem?_toArray, List.getElem?_cons_zero, List.getElem?_cons_succ]; rfl) (by kernel_rfl) (by kernel_rfl) (by kernel_rfl) (fun _ _ _ h => h) (Or.inl ⟨by rfl, ?_⟩) hS5 ?_
        case refine_2 => (intro ww hSw; obtain ⟨s1, s2, s3, s4, s5⟩ := hSw; go_simp; try with_reducible rfl)
        try simp only [Act.put, List.setIfInBounds_toArray, List.set_cons_zero, List.set_cons_succ]
        refine wpHI_take (i := 16) (v := ?_) (wide_fn _) (by kernel_rfl) (by simp only [List.getElem?_toArray, List.getElem?_cons_zero, List.getElem?_cons_succ]; rfl) (by kernel_rfl) (by kernel_rfl) (by kernel_rfl) (fun _ _ _ h => h) (Or.inl ⟨by rfl, ?_⟩) hS5 ?_
        case refine_2 => (intro ww hSw; obtain ⟨s1, s2, s3, s4, s5⟩ := hSw; go_simp; try with_reducible rfl)
        try simp only [Act.put, List.setIfInBounds_toArray, List.set_cons_zero, List.set_cons_succ]
        refine wpHI_take (i := 17) (v := ?_) (wide_fn _) (by kernel_rfl) (by simp only [List.getElem?_toArray, List.getElem?_cons_zero, List.getElem?_cons_succ]; rfl) (by kernel_rfl) (by kernel_rfl) (by kernel_rfl) (fun _ _ _ h => h) (Or.inl ⟨by rfl, ?_⟩) hS5 ?_
        case refine_2 => (intro ww hSw; obtain ⟨s1, s2, s3, s4, s5⟩ := hSw; go_simp; try with_reducible rfl)
        try simp only [Act.put, List.setIfInBounds_toArray, List.set_cons_zero, List.set_cons_succ]
        obtain ⟨fn, tmps, assign, body, hy, HRD⟩ := HGIVE.out w5 y (.slice qo y.1.length qc) (.slice so y.2.length sc) (Lib.hid ⟨HB5.out, HTOP.out, hbl, HELY.out⟩)
        clear hbl
        refine wpHI_one (i := 18) (wide_fn _) (by kernel_rfl) (by kernel_rfl) (by simp only [List.getElem?_toArray, List.getElem?_cons_zero, List.getElem?_cons_succ]; rfl) (by rfl) (fun K' hK => ?_)
        go_simp
        refine HRD.out.mono ?_
        rintro e w7 ⟨hk7, (⟨rfl, hm7⟩ | ⟨rfl, hm7⟩)⟩
        · have h7v := ((HK5.out.trans hk7).kept _ (.inl HH2.out.own)).trans hv
          have h7u := ((HK5.out.trans hk7).kept V.heap.size (.inl HBY.out)).trans HBU.out
          have h7t := cells_of h7v 0
          have h7a := cells_of (((HK5.out.trans hk7).kept hc (.inl hyc)).trans hcc) 0
          have h7b := cells_of (((HK5.out.trans hk7).kept hc (.inl hyc)).trans hcc) 1
          have h7c := cells_of h7u 0
          have h7y := cells_of (((HK5.out.trans hk7).kept _ (.inl HM2.out.y1)).trans HM2.out.ybx) 0
          simp only [List.getElem?_toArray, List.getElem?_cons_zero, List.getElem?_cons_succ] at h7t h7a h7b h7c h7y
          have hS7 : w7.cell? ⟨W.heap.size + 1, 0, none⟩ = some (.slice (some ⟨hc, 0, none⟩) 1 1) ∧ w7.cell? ⟨hc, 0, none⟩ = some (.slice qo y.1.length qc) ∧ w7.cell? ⟨hc, 1, none⟩ = some (.slice so y.2.length sc) ∧ w7.cell? ⟨V.heap.size, 0, none⟩ = some (.slice po x.1.length pc) ∧ w7.cell? ⟨W.heap.size, 0, none⟩ = some (.func (.yield lp) #[] #[]) := ⟨h7t, h7a, h7b, h7c, h7y⟩
          have H7V := Lib.hid h7v
          have H7U := Lib.hid h7u
          clear h7v h7u
          have HM7 := Lib.hid hm7
          have z7 : Hid (V2.heap.size ≤ w7.heap.size) := Lib.hid (HK5.out.trans hk7).below.size
          clear hk7 hm7 hy
          refine hK.out _ _ hS7 (fun _ => ?_)
          clear hK
          try simp only [Act.put, List.setIfInBounds_toArray, List.set_cons_zero, List.set_cons_succ]
          refine wpHI_take (i := 19) (v := ?_) (wide_fn _) (by kernel_rfl) (by simp only [List.getElem?_toArray, List.getElem?_cons_zero, List.getElem?_cons_succ]; rfl) (by kernel_rfl) (by kernel_rfl) (by kernel_rfl) (fun _ _ _ h => h) (Or.inl ⟨by rfl, ?_⟩) hS7 ?_
          case refine_2 => (intro ww hSw; obtain ⟨s1, s2, s3, s4, s5⟩ := hSw; go_simp; try with_reducible rfl)
          try simp only [Act.put, List.setIfInBounds_toArray, List.set_cons_zero, List.set_cons_succ]
          refine wpHI_take (i := 20) (v := ?_) (wide_fn _) (by kernel_rfl) (by simp only [List.getElem?_toArray, List.getElem?_cons_zero, List.getElem?_cons_succ]; rfl) (by kernel_rfl) (by kernel_rfl) (by kernel_rfl) (fun _ _ _ h => h) (Or.inl ⟨by rfl, ?_⟩) hS7 ?_
          case refine_2 => (intro ww hSw; obtain ⟨s1, s2, s3, s4, s5⟩ := hSw; go_simp; try with_reducible rfl)
          try simp only [Act.put, List.setIfInBounds_toArray, List.set_cons_zero, List.set_cons_succ]
          refine wpHI_done (by kernel_rfl) ?_ _
          have HO := HHOLD.out w7 _ _ HM7
          have m5 : W.heap.size + 1 < w7.heap.size := by have := z7.out; omega
          have m7 : V.heap.size < w7.heap.size := by have := z7.out; omega
          have k0 := cells_of H7V.out 0
          have k2 := cells_of H7U.out 0
          have k3 := cells_of H7U.out 1
          have k4 : w7.frozen? ⟨W.heap.size + 1, 0, none⟩ = false := by simp [World.frozen?, H7V.out]
          have ha5 : ∀ k, k < w7.heap.size → (w7.alloc (.cells #[.slice po x.1.length pc, .slice ro x.2.length rc] 182)).heap[k]? = w7.heap[k]? := fun k hk => Below.heap_alloc _ _ _ hk
          simp only [List.getElem?_toArray, List.getElem?_cons_zero, List.getElem?_cons_succ] at k0 k2 k3
          have r0 := (World.cell?_of_block (a := ⟨W.heap.size + 1, 0, none⟩) (ha5 _ m5)).trans k0
          have r2 := (World.cell?_of_block (a := ⟨V.heap.size, 0, none⟩) (ha5 _ m7)).trans k2
          have r3 := (World.cell?_of_block (a := ⟨V.heap.size, 1, none⟩) (ha5 _ m7)).trans k3
          have r4 := (World.frozen?_of_block (a := ⟨W.heap.size + 1, 0, none⟩) (ha5 _ m5)).trans k4
          clear ha5
          gi_wp2_with fail
          exact HO.out
        · have h7v := ((HK5.out.trans hk7).kept _ (.inl HH2.out.own)).trans hv
          have h7u := ((HK5.out.trans hk7).kept V.heap.size (.inl HBY.out)).trans HBU.out
          have h7t := cells_of h7v 0
          have h7a := cells_of (((HK5.out.trans hk7).kept hc (.inl hyc)).trans hcc) 0
          have h7b := cells_of (((HK5.out.trans hk7).kept hc (.inl hyc)).trans hcc) 1
          have h7c := cells_of h7u 0
          have h7y := cells_of (((HK5.out.trans hk7).kept _ (.inl HM2.out.y1)).trans HM2.out.ybx) 0
          simp only [List.getElem?_toArray, List.getElem?_cons_zero, List.getElem?_cons_succ] at h7t h7a h7b h7c h7y
          have hS7 : w7.cell? ⟨W.heap.size + 1, 0, none⟩ = some (.slice (some ⟨hc, 0, none⟩) 1 1) ∧ w7.cell? ⟨hc, 0, none⟩ = some (.slice qo y.1.length qc) ∧ w7.cell? ⟨hc, 1, none⟩ = some (.slice so y.2.length sc) ∧ w7.cell? ⟨V.heap.size, 0, none⟩ = some (.slice po x.1.length pc) ∧ w7.cell? ⟨W.heap.size, 0, none⟩ = some (.func (.yield lp) #[] #[]) := ⟨h7t, h7a, h7b, h7c, h7y⟩
          have H7V := Lib.hid h7v
          have H7U := Lib.hid h7u
          clear h7v h7u
          have HM7 := Lib.hid hm7
          have z7 : Hid (V2.heap.size ≤ w7.heap.size) := Lib.hid (HK5.out.trans hk7).below.size
          clear hk7 hm7 hy
          refine hK.out _ _ hS7 (fun _ => ?_)
          clear hK
          try simp only [Act.put, List.setIfInBounds_toArray, List.set_cons_zero, List.set_cons_succ]
          refine wpHI_take (i := 19) (v := ?_) (wide_fn _) (by kernel_rfl) (by simp only [List.getElem?_toArray, List.getElem?_cons_zero, List.getElem?_cons_succ]; rfl) (by kernel_rfl) (by kernel_rfl) (by kernel_rfl) (fun _ _ _ h => h) (Or.inl ⟨by rfl, ?_⟩) hS7 ?_
          case refine_2 => (intro ww hSw; obtain ⟨s1, s2, s3, s4, s5⟩ := hSw; go_simp; try with_reducible rfl)
          try simp only [Act.put, List.setIfInBounds_toArray, List.set_cons_zero, List.set_cons_succ]
          refine wpHI_take (i := 20) (v := ?_) (wide_fn _) (by kernel_rfl) (by simp only [List.getElem?_toArray, List.getElem?_cons_zero, List.getElem?_cons_succ]; rfl) (by kernel_rfl) (by kernel_rfl) (by kernel_rfl) (fun _ _ _ h => h) (Or.inl ⟨by rfl, ?_⟩) hS7 ?_
          case refine_2 => (intro ww hSw; obtain ⟨s1, s2, s3, s4, s5⟩ := hSw; go_simp; try with_reducible rfl)
          try simp only [Act.put, List.setIfInBounds_toArray, List.set_cons_zero, List.set_cons_succ]
          refine wpHI_done (by kernel_rfl) ?_ _
          gi_wp2_with fail
          exact ⟨HM7.out.1, rfl, HM7.out.2⟩
      · refine wpHI_take (i := 11) (v := ?_) (wide_fn _) (by kernel_rfl) (by simp only [List.getElem?_toArray, List.getElem?_cons_zero, List.getElem?_cons_succ]; rfl) (by kernel_rfl) (by kernel_rfl) (by kernel_rfl) (fun _ _ _ h => h) (Or.inl ⟨by rfl, ?_⟩) hS5 ?_
        case refine_2 => (intro ww hSw; obtain ⟨s1, s2, s3, s4, s5⟩ := hSw; go_simp; try with_reducible rfl)
        try simp only [Act.put, List.setIfInBounds_toArray, List.set_cons_zero, List.set_cons_succ]
        refine wpHI_take (i := 12) (v := ?_) (wide_fn _) (by kernel_rfl) (by simp only [List.getElem?_toArray, List.getElem?_cons_zero, List.getElem?_cons_succ]; rfl) (by kernel_rfl) (by kernel_rfl) (by kernel_rfl) (fun _ _ _ h => h) (Or.inl ⟨by rfl, ?_⟩) hS5 ?_
        case refine_2 => (intro ww hSw; obtain ⟨s1, s2, s3, s4, s5⟩ := hSw; go_simp; try with_reducible rfl)
        try simp only [Act.put, List.setIfInBounds_toArray, List.set_cons_zero, List.set_cons_succ]
        refine wpHI_take (i := 13) (v := ?_) (wide_fn _) (by kernel_rfl) (by simp only [List.getElem?_toArray, List.getElem?_cons_zero, List.getElem?_cons_succ]; rfl) (by kernel_rfl) (by kernel_rfl) (by kernel_rfl) (fun _ _ _ h => h) (Or.inl ⟨by rfl, ?_⟩) hS5 ?_
        case refine_2 => (intro ww hSw; obtain ⟨s1, s2, s3, s4, s5⟩ := hSw; go_simp; try with_reducible rfl)
        try simp only [Act.put, List.setIfInBounds_toArray, List.set_cons_zero, List.set_cons_succ]
        refine wpHI_take (i := 14) (v := _) (wide_fn _) (by kernel_rfl) (by simp only [List.getElem?_toArray, List.getElem?_cons_zero, List.getElem?_cons_succ]; rfl) (by kernel_rfl) (by kernel_rfl) (by kernel_rfl) (fun _ _ _ h => h) (Or.inr ⟨by rfl, rfl⟩) hS5 ?_
        try simp only [Act.put, List.setIfInBounds_toArray, List.set_cons_zero, List.set_cons_succ]
        refine wpHI_take (i := 15) (v := _) (wide_fn _) (by kernel_rfl) (by simp only [List.getElem?_toArray, List.getElem?_cons_zero, List.getElem?_cons_succ]; rfl) (by kernel_rfl) (by kernel_rfl) (by kernel_rfl) (fun _ _ _ h => h) (Or.inr ⟨by rfl, rfl⟩) hS5 ?_
        try simp only [Act.put, List.setIfInBounds_toArray, List.set_cons_zero, List.set_cons_succ]
        refine wpHI_take (i := 16) (v := _) (wide_fn _) (by kernel_rfl) (by simp only [List.getElem?_toArray, List.getElem?_cons_zero, List.getElem?_cons_succ]; rfl) (by kernel_rfl) (by kernel_rfl) (by kernel_rfl) (fun _ _ _ h => h) (Or.inr ⟨by rfl, rfl⟩) hS5 ?_
        try simp only [Act.put, List.setIfInBounds_toArray, List.set_cons_zero, List.set_cons_succ]
        refine wpHI_take (i := 17) (v := _) (wide_fn _) (by kernel_rfl) (by simp only [List.getElem?_toArray, List.getElem?_cons_zero, List.getElem?_cons_succ]; rfl) (by kernel_rfl) (by kernel_rfl) (by kernel_rfl) (fun _ _ _ h => h) (Or.inr ⟨by rfl, rfl⟩) hS5 ?_
        try simp only [Act.put, List.setIfInBounds_toArray, List.set_cons_zero, List.set_cons_succ]
        refine wpHI_take (i := 18) (v := _) (wide_fn _) (by kernel_rfl) (by simp only [List.getElem?_toArray, List.getElem?_cons_zero, List.getElem?_cons_succ]; rfl) (by kernel_rfl) (by kernel_rfl) (by kernel_rfl) (fun _ _ _ h => h) (Or.inr ⟨by rfl, rfl⟩) hS5 ?_
        try simp only [Act.put, List.setIfInBounds_toArray, List.set_cons_zero, List.set_cons_succ]
        refine wpHI_take (i := 19) (v := _) (wide_fn _) (by kernel_rfl) (by simp only [List.getElem?_toArray, List.getElem?_cons_zero, List.getElem?_cons_succ]; rfl) (by kernel_rfl) (by kernel_rfl) (by kernel_rfl) (fun _ _ _ h => h) (Or.inr ⟨by rfl, rfl⟩) hS5 ?_
        try simp only [Act.put, List.setIfInBounds_toArray, List.set_cons_zero, List.set_cons_succ]
        refine wpHI_take (i := 20) (v := ?_) (wide_fn _) (by kernel_rfl) (by simp only [List.getElem?_toArray, List.getElem?_cons_zero, List.getElem?_cons_succ]; rfl) (by kernel_rfl) (by kernel_rfl) (by kernel_rfl) (fun _ _ _ h => h) (Or.inl ⟨by rfl, ?_⟩) hS5 ?_
        case refine_2 => (intro ww hSw; obtain ⟨s1, s2, s3, s4, s5⟩ := hSw; go_simp; try with_reducible rfl)
        try simp only [Act.put, List.setIfInBounds_toArray, List.set_cons_zero, List.set_cons_succ]
        refine wpHI_done (by kernel_rfl) ?_ _
        have HO := HHOLD.out w5 (innF pre).1 (innF pre).2 (Lib.hid ⟨HM2.out.kx HK5.out, HH2.out.kx HK5.out, HJ.out _ _ _ _ _ _ _ HJ2.out (Fx.of_below Y2 HB5.out) (Rg.own_new HM2.out.dis), HEL.out.on (fun _ h => h) (fun k hk => HK5.out.kept k (.inr hk)), HK5.out.less HM2.out.unl, by rw [innF_snoc, innStep, HTOP.out]; simp only [hbl]; rfl⟩)
        have m5 : W.heap.size + 1 < w5.heap.size := by have := z5.out; omega
        have m7 : V.heap.size < w5.heap.size := by have := z5.out; omega
        have k0 := cells_of H5V.out 0
        have k2 := cells_of H5U.out 0
        have k3 := cells_of H5U.out 1
        have k4 : w5.frozen? ⟨W.heap.size + 1, 0, none⟩ = false := by simp [World.frozen?, H5V.out]
        have ha5 : ∀ k, k < w5.heap.size → (w5.alloc (.cells #[.slice po x.1.length pc, .slice ro x.2.length rc] 182)).heap[k]? = w5.heap[k]? := fun k hk => Below.heap_alloc _ _ _ hk
        simp only [List.getElem?_toArray, List.getElem?_cons_zero, List.getElem?_cons_succ] at k0 k2 k3
        have r0 := (World.cell?_of_block (a := ⟨W.heap.size + 1, 0, none⟩) (ha5 _ m5)).trans k0
        have r2 := (World.cell?_of_block (a := ⟨V.heap.size, 0, none⟩) (ha5 _ m7)).trans k2
        have r3 := (World.cell?_of_block (a := ⟨V.heap.size, 1, none⟩) (ha5 _ m7)).trans k3
        have r4 := (World.frozen?_of_block (a := ⟨W.heap.size + 1, 0, none⟩) (ha5 _ m5)).trans k4
        clear ha5
        clear hbl
        gi_wp2_with fail
        exact HO.out
  case done =>
    rintro D X R V hD hXD ⟨Y, S, hM, hH, hj⟩ hxb hdis hKD
    have HM := Lib.hid hM
    have HJd := Lib.hid hj
    have HHd := Lib.hid hH
    have hYD := hM.xy D hXD
    have HYD := Lib.hid hYD
    rcases hH.val with ⟨htop, hv⟩ | ⟨y, hc, pv2, rv2, htop, hv, hyc, hxc, hne, hcc, hely⟩
    · have t0 := cells_of hv 0
      simp only [List.getElem?_toArray, List.getElem?_cons_zero] at t0
      have HL := Lib.hid (show innL L = (innF L).1 by unfold innL; rw [htop]; simp)
      clear hM hj hH hv htop hYD
      gi_wp2_with fail
      refine ⟨by simp, .inl ⟨_, _, rfl, run_takeDeferred hKD, ?_⟩⟩
      obtain ⟨h1, h2, h3⟩ := HM.out.last HJ.out HJd.out HYD.out
      exact ⟨_, results_none rfl _ _ _, ⟨_, rfl⟩, Y, S, h1, HM.out.dis, .inl (by rw [HL.out]; exact h2)⟩
    · obtain ⟨qo, qc, rfl, -⟩ := ownsRow_formP hely.pos
      obtain ⟨so, sc, rfl, -⟩ := ownsRow_formP hely.rules
      have t0 := cells_of hv 0
      have a0 := cells_of hcc 0
      have a1 := cells_of hcc 1
      have y0 := cells_of hM.ybx 0
      simp only [List.getElem?_toArray, List.getElem?_cons_zero, List.getElem?_cons_succ] at t0 a0 a1 y0
      have HL := Lib.hid (show innL L = (innF L).1 ++ [y] by unfold innL; rw [htop]; rfl)
      have hS : V.drew.cell? ⟨W.heap.size + 1, 0, none⟩ = some (.slice (some ⟨hc, 0, none⟩) 1 1) ∧ V.drew.cell? ⟨hc, 0, none⟩ = some (.slice qo y.1.length qc) ∧ V.drew.cell? ⟨hc, 1, none⟩ = some (.slice so y.2.length sc) ∧ V.drew.cell? ⟨W.heap.size, 0, none⟩ = some (.func (.yield lp) #[] #[]) := ⟨t0, a0, a1, y0⟩
      have HELY := Lib.hid hely
      have HV := Lib.hid hv
      have HCC := Lib.hid hcc
      obtain ⟨fn, tmps, assign, body, hy, hRd⟩ := HY.out Y S (innF L).1 y #[.agg #[.slice qo y.1.length qc, .slice so y.2.length sc]] V.drew (HJ.out _ _ _ _ _ _ _ hj (Fx.of_below Y (Below.refl _ _).drew) (Rg.own_new hM.dis)) ⟨_, _, rfl, hely.on (fun _ h => h) (fun _ _ => rfl)⟩ hM.yB hM.dis hM.nz (by rw [HL.out]; exact List.prefix_refl _)
      have HRD := Lib.hid (show RoundIn Fence.wide 8 Tryz.prog lp fn tmps assign body V.drew _ from roundAny rfl hRd)
      clear hM hj hH hv hcc hely htop hYD hRd
      gi_wp2_with fail
      refine Code.wpIn_mono NoPanic.imp ?_
      refine wpIn_region_hi (S := fun w' => w'.cell? ⟨W.heap.size + 1, 0, none⟩ = some (.slice (some ⟨hc, 0, none⟩) 1 1) ∧ w'.cell? ⟨hc, 0, none⟩ = some (.slice qo y.1.length qc) ∧ w'.cell? ⟨hc, 1, none⟩ = some (.slice so y.2.length sc) ∧ w'.cell? ⟨W.heap.size, 0, none⟩ = some (.func (.yield lp) #[] #[])) (by kernel_rfl) hS (fun _ => ?_)
      simp only [List.size_toArray, List.length_cons, List.length_nil, Nat.reduceAdd]
      refine wpHI_take (i := 0) (v := ?_) (fun _ => trivial) (by kernel_rfl) (by simp only [List.getElem?_toArray, List.getElem?_cons_zero]; rfl) (by kernel_rfl) (by kernel_rfl) (by kernel_rfl) (fun _ _ _ h => h) (Or.inl ⟨by rfl, ?_⟩) hS ?_
      case refine_2 => (intro ww hSw; obtain ⟨s1, s2, s3, s4⟩ := hSw; go_simp; try with_reducible rfl)
      try simp only [Act.put, List.setIfInBounds_toArray, List.set_cons_zero, List.set_cons_succ]
      refine wpHI_take (i := 1) (v := ?_) (fun _ => trivial) (by kernel_rfl) (by simp only [List.getElem?_toArray, List.getElem?_cons_zero, List.getElem?_cons_succ]; rfl) (by kernel_rfl) (by kernel_rfl) (by kernel_rfl) (fun _ _ _ h => h) (Or.inl ⟨by rfl, ?_⟩) hS ?_
      case refine_2 => (intro ww hSw; obtain ⟨s1, s2, s3, s4⟩ := hSw; go_simp; try with_reducible rfl)
      try simp only [Act.put, List.setIfInBounds_toArray, List.set_cons_zero, List.set_cons_succ]
      refine wpHI_take (i := 2) (v := ?_) (fun _ => trivial) (by kernel_rfl) (by simp only [List.getElem?_toArray, List.getElem?_cons_zero, List.getElem?_cons_succ]; rfl) (by kernel_rfl) (by kernel_rfl) (by kernel_rfl) (fun _ _ _ h => h) (Or.inl ⟨by rfl, ?_⟩) hS ?_
      case refine_2 => (intro ww hSw; obtain ⟨s1, s2, s3, s4⟩ := hSw; go_simp; try with_reducible rfl)
      try simp only [Act.put, List.setIfInBounds_toArray, List.set_cons_zero, List.set_cons_succ]
      refine wpHI_take (i := 3) (v := ?_) (fun _ => trivial) (by kernel_rfl) (by simp only [List.getElem?_toArray, List.getElem?_cons_zero, List.getElem?_cons_succ]; rfl) (by kernel_rfl) (by kernel_rfl) (by kernel_rfl) (fun _ _ _ h => h) (Or.inl ⟨by rfl, ?_⟩) hS ?_
      case refine_2 => (intro ww hSw; obtain ⟨s1, s2, s3, s4⟩ := hSw; go_simp; try with_reducible rfl)
      try simp only [Act.put, List.setIfInBounds_toArray, List.set_cons_zero, List.set_cons_succ]
      refine wpHI_one (i := 4) (fun _ => trivial) (by kernel_rfl) (by kernel_rfl) (by simp only [List.getElem?_toArray, List.getElem?_cons_zero, List.getElem?_cons_succ]; rfl) (by rfl) (fun K' hK => ?_)
      go_simp
      refine HRD.out.mono ?_
      rintro e w7 (⟨rfl, hj7, hk7⟩ | ⟨rfl, hj7, hk7⟩)
      · have hk7v : Kx n₀ (un Y S) V w7 := (Kx.of_below (Below.refl _ _).drew HM.out.nz HM.out.yB).trans hk7
        have h7t := cells_of ((hk7v.kept _ (.inl HHd.out.own)).trans HV.out) 0
        have h7a := cells_of ((hk7v.kept hc (.inl hyc)).trans HCC.out) 0
        have h7b := cells_of ((hk7v.kept hc (.inl hyc)).trans HCC.out) 1
        have h7y := cells_of ((hk7v.kept _ (.inl HM.out.y1)).trans HM.out.ybx) 0
        simp only [List.getElem?_toArray, List.getElem?_cons_zero, List.getElem?_cons_succ] at h7t h7a h7b h7y
        have hS7 : w7.cell? ⟨W.heap.size + 1, 0, none⟩ = some (.slice (some ⟨hc, 0, none⟩) 1 1) ∧ w7.cell? ⟨hc, 0, none⟩ = some (.slice qo y.1.length qc) ∧ w7.cell? ⟨hc, 1, none⟩ = some (.slice so y.2.length sc) ∧ w7.cell? ⟨W.heap.size, 0, none⟩ = some (.func (.yield lp) #[] #[]) := ⟨h7t, h7a, h7b, h7y⟩
        have HM7 := Lib.hid (HM.out.kx hk7v)
        have hK7 := (hk7v.kept D (.inl HYD.out)).trans hKD
        have HJ7 := Lib.hid hj7
        clear hk7v hj7 hk7 hy
        refine hK.out _ _ hS7 (fun _ => ?_)
        clear hK
        try simp only [Act.put, List.setIfInBounds_toArray, List.set_cons_zero, List.set_cons_succ]
        refine wpHI_done (by kernel_rfl) ?_ _
        refine NoPanic.normal ?_
        gi_wp2_with fail
        refine ⟨by simp, .inl ⟨_, _, rfl, run_takeDeferred hK7, ?_⟩⟩
        obtain ⟨h1, h2, h3⟩ := HM7.out.last HJ.out HJ7.out HYD.out
        exact ⟨_, results_none rfl _ _ _, ⟨_, rfl⟩, Y, S, h1, HM7.out.dis, .inl (by rw [HL.out]; exact h2)⟩
      · have hk7v : Kx n₀ (un Y S) V w7 := (Kx.of_below (Below.refl _ _).drew HM.out.nz HM.out.yB).trans hk7
        have h7t := cells_of ((hk7v.kept _ (.inl HHd.out.own)).trans HV.out) 0
        have h7a := cells_of ((hk7v.kept hc (.inl hyc)).trans HCC.out) 0
        have h7b := cells_of ((hk7v.kept hc (.inl hyc)).trans HCC.out) 1
        have h7y := cells_of ((hk7v.kept _ (.inl HM.out.y1)).trans HM.out.ybx) 0
        simp only [List.getElem?_toArray, List.getElem?_cons_zero, List.getElem?_cons_succ] at h7t h7a h7b h7y
        have hS7 : w7.cell? ⟨W.heap.size + 1, 0, none⟩ = some (.slice (some ⟨hc, 0, none⟩) 1 1) ∧ w7.cell? ⟨hc, 0, none⟩ = some (.slice qo y.1.length qc) ∧ w7.cell? ⟨hc, 1, none⟩ = some (.slice so y.2.length sc) ∧ w7.cell? ⟨W.heap.size, 0, none⟩ = some (.func (.yield lp) #[] #[]) := ⟨h7t, h7a, h7b, h7y⟩
        have HM7 := Lib.hid (HM.out.kx hk7v)
        have hK7 := (hk7v.kept D (.inl HYD.out)).trans hKD
        have HJ7 := Lib.hid hj7
        clear hk7v hj7 hk7 hy
        refine hK.out _ _ hS7 (fun _ => ?_)
        clear hK
        try simp only [Act.put, List.setIfInBounds_toArray, List.set_cons_zero, List.set_cons_succ]
        refine wpHI_done (by kernel_rfl) ?_ _
        refine NoPanic.normal ?_
        gi_wp2_with fail
        refine ⟨by simp, .inl ⟨_, _, rfl, run_takeDeferred hK7, ?_⟩⟩
        obtain ⟨h1, h2, h3⟩ := HM7.out.last HJx.out HJ7.out HYD.out
        exact ⟨_, results_none rfl _ _ _, ⟨_, rfl⟩, Y, S, h1, HM7.out.dis, .inr ⟨_, by rw [HL.out]; exact List.prefix_refl _, h2⟩⟩
  case stop =>
    rintro D c X R pre V hD hXD hp ⟨rfl, Y, S, hM, hj⟩ hxb hdis hK
    have HM := Lib.hid hM
    have HJd := Lib.hid hj
    clear hM hj
    gi_wp2
    refine ⟨by simp, .inl ⟨_, _, rfl, run_takeDeferred hK, ?_⟩⟩
    obtain ⟨h1, h2, h3⟩ := HM.out.last HJx.out HJd.out (HM.out.xy D hXD)
    exact ⟨_, results_none rfl _ _ _, ⟨_, rfl⟩, Y, S, h1, HM.out.dis, .inr ⟨_, innF_prefix hp, h2⟩⟩
end Go.Proofs.YtamddagmlanijaaGreat
