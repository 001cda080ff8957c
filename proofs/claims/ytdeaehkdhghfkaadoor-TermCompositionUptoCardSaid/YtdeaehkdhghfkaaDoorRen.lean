/- The reference's Renaming. -/
import Derived.WalkKit
import Derived.ProofKit
import Derived.OpenShut
import Derived.Handy
import Derived.Lib.Hide
import Derived.Test.YtdeaehkdhghfkaaDoorBind
namespace Go.Proofs.YtdeaehkdhghfkaaDoor
open Go.RowKit

theorem infoBind : (Tryd.prog.info? 48).map (fun i => (i.zero, i.size, i.bytes)) = some (some (.agg #[.string ⟨#[]⟩, .string ⟨#[]⟩, .bool false, .slice none 0 0]), 4, 64) := by kernel_rfl
/-- the cells of bindings to bare terms -/
def bcells (bl : List Bd) : List Value := bl.flatMap fun p => [.string (kb p.1), .string p.2.nm, .bool p.2.vr, .slice none 0 0]
theorem bcells_append (a b : List Bd) : bcells (a ++ b) = bcells a ++ bcells b := by simp [bcells]
theorem bcells_length (a : List Bd) : (bcells a).length = a.length * 4 := by
  induction a with
  | nil => rfl
  | cons p a ih => simp [bcells] at ih ⊢; omega
theorem bcells_at (bl : List Bd) (i : Nat) (p : Bd) (h : bl[i]? = some p) :
    (bcells bl)[i * 4]? = some (.string (kb p.1)) ∧ (bcells bl)[i * 4 + 1]? = some (.string p.2.nm) ∧ (bcells bl)[i * 4 + 2]? = some (.bool p.2.vr) ∧ (bcells bl)[i * 4 + 3]? = some (.slice none 0 0) := by
  induction bl generalizing i with
  | nil => simp at h
  | cons q bl ih =>
    cases i with
    | zero => simp at h; subst h; simp [bcells]
    | succ i =>
      obtain ⟨h1, h2, h3, h4⟩ := ih i (by simpa using h)
      have e : ∀ r, (i + 1) * 4 + r = i * 4 + r + 4 := fun r => by omega
      refine ⟨?_, ?_, ?_, ?_⟩
      · have := e 0; simp only [Nat.add_zero] at this; rw [this]; simpa [bcells] using h1
      · rw [e 1]; simpa [bcells] using h2
      · rw [e 2]; simpa [bcells] using h3
      · rw [e 3]; simpa [bcells] using h4
theorem BindsIs.ofRow {W : World} {m : Nat} {e : TypeId} {v : Value} {bl : List Bd} (h : W.ownsRow m e 4 v bl.length (bcells bl)) (hb : ∀ p ∈ bl, p.2.ts = []) : BindsIs W.heap.size W bl v := by
  have h0 := h
  rcases h.2 with ⟨rfl, hl⟩ | ⟨g, cap, cur, rfl, hbg, hg, hle, _⟩
  · exact ⟨none, 0, by rw [hl], by omega, fun hne => absurd (List.length_eq_zero_iff.1 hl) hne⟩
  · refine ⟨_, cap, rfl, hle, fun _ => ⟨g, 0, rfl, (Array.getElem?_eq_some_iff.1 hg).1, fun i p hp => ?_⟩⟩
    obtain ⟨h1, h2, h3, h4⟩ := bcells_at bl i p hp
    have key : ∀ j u, (bcells bl)[j]? = some u → W.cell? ⟨g, 0 + j, none⟩ = some u := fun j u hj => by
      have := h0.cells (g := g) rfl j u hj
      rwa [ad_add] at this
    exact ⟨.slice none 0 0, key _ _ h1, by rw [Nat.add_assoc]; exact key _ _ h2, by rw [Nat.add_assoc]; exact key _ _ h3, by rw [Nat.add_assoc]; exact key _ _ h4, by rw [hb p (List.mem_of_getElem? hp)]; exact .nil0⟩
theorem cells_new (W : World) (a b c d : Value) (e : TypeId) : ∀ j u, [a, b, c, d][j]? = some u → (W.alloc (.cells #[a, b, c, d] e)).cell? ((⟨W.heap.size, 0, none⟩ : Addr).add j) = some u := by
  intro j u hj
  rw [ad_add, Nat.zero_add]
  have h := cells_of' (heap_new_at W (.cells #[a, b, c, d] e) W.heap.size rfl) j
  rw [h, ← Array.getElem?_toList]
  exact hj

theorem own_none (v : Value) : v.ownBlock = none ∨ v.ownBlock ≠ none := by cases v.ownBlock <;> simp
theorem ownsRow_shape {W : World} {m n size : Nat} {e : TypeId} {v : Value} {xs : List Value} (h : W.ownsRow m e size v n xs) : ∃ oa cap, v = .slice oa n cap := by
  rcases h.2 with ⟨rfl, rfl⟩ | ⟨g, cap, cur, rfl, _⟩
  · exact ⟨_, _, rfl⟩
  · exact ⟨_, _, rfl⟩
/-- what has been collected -/
structure RenSt (l r : List Key) (j i : Nat) (x : Key) (bl : List Bd) : Prop where
  say : ∀ p ∈ bl, ∃ m, l[m]? = some p.1 ∧ p.2 = .mk (xname digN m) true []
  all : ∀ k ∈ r.take j, k ∈ l → ∃ p ∈ bl, p.1 = k
  cur : x ∈ l.take i → ∃ p ∈ bl, p.1 = x
  len : bl.length ≤ j * l.length + i
theorem RenSt.skip {l r : List Key} {j i : Nat} {x y : Key} {bl : List Bd} (h : RenSt l r j i x bl) (hy : l[i]? = some y) (hne : y ≠ x) : RenSt l r j (i + 1) x bl := by
  refine ⟨h.say, h.all, fun hx => ?_, by have := h.len; omega⟩
  rw [List.take_add_one, hy] at hx
  simp only [Option.toList_some, List.mem_append, List.mem_singleton] at hx
  rcases hx with hx | hx
  · exact h.cur hx
  · exact absurd hx.symm hne
theorem RenSt.take {l r : List Key} {j i : Nat} {x : Key} {bl : List Bd} (h : RenSt l r j i x bl) (hy : l[i]? = some x) : RenSt l r j (i + 1) x (bl ++ [(x, .mk (xname digN i) true [])]) := by
  refine ⟨fun p hp => ?_, fun k hk hkl => ?_, fun _ => ⟨_, List.mem_append_right _ (List.mem_singleton.2 rfl), rfl⟩, by have := h.len; simp; omega⟩
  · rcases List.mem_append.1 hp with hp | hp
    · exact h.say p hp
    · obtain rfl := List.mem_singleton.1 hp
      exact ⟨i, hy, rfl⟩
  · obtain ⟨p, hp, e⟩ := h.all k hk hkl
    exact ⟨p, List.mem_append_left _ hp, e⟩
theorem RenSt.next {l r : List Key} {j : Nat} {x : Key} {bl : List Bd} (h : RenSt l r j l.length x bl) (hx : r[j]? = some x) (y : Key) : RenSt l r (j + 1) 0 y bl := by
  refine ⟨h.say, fun k hk hkl => ?_, fun h0 => by simp at h0, by have := h.len; rw [Nat.succ_mul]; omega⟩
  rw [List.take_add_one, hx] at hk
  simp only [Option.toList_some, List.mem_append, List.mem_singleton] at hk
  rcases hk with hk | rfl
  · exact h.all k hk hkl
  · exact h.cur (by rw [List.take_length]; exact hkl)
theorem RenSt.bare {l r : List Key} {j i : Nat} {x : Key} {bl : List Bd} (h : RenSt l r j i x bl) : ∀ p ∈ bl, p.2.ts = [] := fun p hp => by
  obtain ⟨m, _, e⟩ := h.say p hp
  rw [e]; rfl

set_option maxRecDepth 100000 in
set_option maxHeartbeats 4000000 in
theorem rrenaming_any (l : List Key) (v : Value) (w : World) (hl : StrIs w.heap.size w l v) (hlen : l.length ≤ 4096) (hls : ∀ x ∈ l, x.length ≤ 1048576) :
    Calls Tryd.prog 79 #[v, .string ⟨#[120]⟩] w fun e w' => (∃ v' bl, e = .returned v' ∧ BindsIs w'.heap.size w' bl v' ∧ bl.length ≤ 100000000 ∧ (∀ p ∈ bl, ∃ m, l[m]? = some p.1 ∧ p.2 = .mk (xname digN m) true []) ∧ ∀ k ∈ l, ∃ p ∈ bl, p.1 = k) ∧ Below w.heap.size w w' := by
  have hl' := hl
  obtain ⟨ol, cl, rfl, hcap, -, hc⟩ := hl'
  obtain ⟨i0, hi, hz, hs1, hb1⟩ := info_parts infoBind
  have HI := Lib.hid hi
  have HZ := Lib.hid hz
  have HS1 := Lib.hid hs1
  have HB1 := Lib.hid hb1
  have HL := Lib.hid hl
  have HC := Lib.hid hc
  have HLS := Lib.hid hls
  clear hl hc hls hi hz hs1 hb1
  go_enter Tryd.func79, Tryd.ntmps79
  go_wp2_with fail
  refine (rsorted_any l _ w HL.out (by omega) HLS.out).mono ?_
  rintro e w1 ⟨⟨v1, r, rfl, hr1, hr2, hr3⟩, hb1⟩
  have hr1' := hr1
  obtain ⟨or, cr, rfl, hcr, -, hcc⟩ := hr1'
  have HR1 := Lib.hid hr1
  have HCC := Lib.hid hcc
  have HR2 := Lib.hid hr2
  have HW1 := Lib.hid hb1
  have hz1 := hb1.size
  clear hr1 hcc hr2 hb1
  go_wp2_with fail
  go_loopw [5, 7, 8, 9, 13, 17, 18, 19] (fun u _ _ _ j _ _ _ wr => ∃ (k : Nat) (bl : List Bd), k ≤ r.length ∧ j = .int .i64 k ∧ Hid (wr.ownsRow w1.heap.size 48 4 u bl.length (bcells bl)) ∧ Hid (RenSt l r k 0 [] bl) ∧ Hid (Below w1.heap.size w1 wr)) (fun _ _ _ _ j _ _ _ _ => r.length - (intOf j).toNat)
  case atStart => exact ⟨0, [], by omega, rfl, Lib.hid (World.ownsRow_nil _ _ _ _), Lib.hid ⟨by simp, by simp, by simp, by simp⟩, Lib.hid (Below.refl _ _)⟩
  case round =>
    obtain ⟨j, bl, hj, rfl, HO, HR, HBW⟩ := hrel
    by_cases hlt : j < r.length
    · obtain ⟨x, hx⟩ : ∃ x, r[j]? = some x := ⟨_, List.getElem?_eq_getElem hlt⟩
      obtain ⟨b2, o2, rfl, hbn, hc1⟩ := HCC.out (by rintro rfl; simp at hlt)
      have h1 := (HBW.out.cell (p := ⟨b2, o2 + j, none⟩) hbn).trans (hc1 j x hx)
      have HX := Lib.hid hx
      have hjl : j * l.length ≤ 16777216 := Nat.le_trans (Nat.mul_le_mul (show j ≤ 4096 by omega) hlen) (by decide)
      have HSTART : Hid (RenSt l r j 0 x bl) := Lib.hid ⟨HR.out.say, HR.out.all, by simp, HR.out.len⟩
      clear hc1 hx
      go_wp2_with fail
      go_loopw [5, 8, 9, 19] (fun u' _ _ i wr' => ∃ (k : Nat) (bl' : List Bd), k ≤ l.length ∧ i = .int .i64 k ∧ Hid (wr'.ownsRow w1.heap.size 48 4 u' bl'.length (bcells bl')) ∧ Hid (RenSt l r j k x bl') ∧ Hid (Below w1.heap.size w1 wr')) (fun _ _ _ i _ => l.length - (intOf i).toNat)
      case atStart => exact ⟨0, bl, by omega, rfl, HO, HSTART, HBW⟩
      case round =>
        obtain ⟨k, bl', hk, rfl, HO', HR', HBW'⟩ := hrel
        by_cases hlk : k < l.length
        · obtain ⟨y, hy⟩ : ∃ y, l[k]? = some y := ⟨_, List.getElem?_eq_getElem hlk⟩
          obtain ⟨b3, o3, rfl, hbn3, hc3⟩ := HC.out (by rintro rfl; simp at hlk)
          have h3 := (HBW'.out.cell (p := ⟨b3, o3 + k, none⟩) (by show b3 < _; omega)).trans ((HW1.out.cell (p := ⟨b3, o3 + k, none⟩) hbn3).trans (hc3 k y hy))
          have HY := Lib.hid hy
          have hbl := HR'.out.len
          obtain ⟨oa', ca', rfl⟩ := ownsRow_shape HO'.out
          clear hc3 hy
          by_cases hyx : y = x
          · have hbb := kb_beq_yes hyx
            have hd := digN_size k
            have HST := Lib.hid (HR'.out.take (by rw [← hyx]; exact HY.out))
            have HYX := Lib.hid hyx
            clear hyx
            have hxn : ({ data := #[120] } : ByteArray) ++ digN k = xname digN k := rfl
            have hxs : ({ data := #[120] } : ByteArray).size = 1 := rfl
            go_wp2_with fail
            refine (rdigits_any k (by omega) _).mono ?_
            rintro e w2 ⟨rfl, hb2⟩
            have hzz := HBW'.out.size
            have HB2 := Lib.hid (HBW'.out.trans (hb2.mono hzz))
            have HO2 := Lib.hid (HO'.out.kept (below_grown hb2) (own_none _))
            clear hb2
            go_wp2_with (at_builtin; refine wpList_append_own_at _ rfl (.tmp 27) (.tmp 35) 45 rfl w1.heap.size 48 i0 (.agg #[.string ⟨#[]⟩, .string ⟨#[]⟩, .bool false, .slice none 0 0]) 4 64 Tryd.underlying45 HI.out HZ.out HS1.out HB1.out rfl (by decide) _ _ (bcells bl') rfl (HO2.out.alloc _) ⟨w2.heap.size, 0, none⟩ 1 1 [.string (kb x), .string (xname digN k), .bool true, .slice none 0 0] rfl rfl (cells_new _ _ _ _ _ _) (by simp [Value.oneCell']) (by unfold maxLen; omega) (by omega) (by have := HB2.out.size; simp; omega) ?_; intro v3 w3 ho3 hg3 _ hat3; have HO3 := Lib.hid ho3; have HB3 := Lib.hid ((HB2.out.alloc HB2.out.size _).grown hg3 (by have := HB2.out.size; simp; omega) (fun k hk => (HO2.out.lt k hk).1)); clear ho3 hg3 hat3)
            refine ⟨⟨k + 1, _, by omega, by go_num, Lib.hid ?_, HST, HB3⟩, by simp [intOf]; omega⟩
            rw [List.length_append, bcells_append]
            exact HO3.out
          · have hbb := kb_beq_no hyx
            have HST := Lib.hid (HR'.out.skip HY.out hyx)
            clear hyx
            go_wp2_with fail
            exact ⟨⟨k + 1, bl', by omega, by go_num, HO', HST, HBW'⟩, by simp [intOf]; omega⟩
        · obtain rfl : k = l.length := by omega
          have HST := Lib.hid (HR'.out.next HX.out [])
          go_wp2_with fail
          exact ⟨⟨j + 1, bl', by omega, by go_num, HO', HST, HBW'⟩, by simp [intOf]; omega⟩
    · have HE : Hid (r.take j = r) := Lib.hid (List.take_of_length_le (by omega))
      have hbl := HR.out.len
      have hjl : j * l.length ≤ 16777216 := Nat.le_trans (Nat.mul_le_mul (show j ≤ 4096 by omega) hlen) (by decide)
      obtain ⟨oa', ca', rfl⟩ := ownsRow_shape HO.out
      go_wp2_with fail
      go_ret
      refine ⟨⟨_, bl, rfl, BindsIs.ofRow HO.out HR.out.bare, by omega, HR.out.say, fun k hk => HR.out.all k (by rw [HE.out]; exact (HR2.out k).2 hk) hk⟩, HW1.out.trans (HBW.out.mono hz1)⟩
end Go.Proofs.YtdeaehkdhghfkaaDoor
