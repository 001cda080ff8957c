/- The law's fixed: arities and ranks of the symbols of a ground term. -/
import Derived.WalkKit
import Derived.ProofKit
import Derived.OpenShut
import Derived.Handy
import Derived.Lib.Hide
import Derived.Lib.AppendIntMem
import Derived.Deep.RegionHeld3
import Derived.Test.YtdnkommcnkbeeaaEnt
import Derived.Test.YtdnkommcnkbeeaaLpo2
import Derived.Test.YtdnkommcnkbeeaaGrt
namespace Go.Proofs.Ytdnkommcnkbeeaa
open Go.RowKit Go.Maps

/-- a symbol: name, arity -/
abbrev Sy := Key × Int
def syCells (l : List Sy) : List Value := l.flatMap fun p => [.string (kb p.1), .int .i64 p.2]
theorem syCells_append (a b : List Sy) : syCells (a ++ b) = syCells a ++ syCells b := by simp [syCells]
theorem syCells_at (l : List Sy) (i : Nat) (p : Sy) (h : l[i]? = some p) : (syCells l)[i * 2]? = some (.string (kb p.1)) ∧ (syCells l)[i * 2 + 1]? = some (.int .i64 p.2) := by
  induction l generalizing i with
  | nil => simp at h
  | cons q l ih =>
    cases i with
    | zero => simp at h; subst h; simp [syCells]
    | succ i =>
      obtain ⟨h1, h2⟩ := ih i (by simpa using h)
      have e : ∀ r, (i + 1) * 2 + r = i * 2 + r + 2 := fun r => by omega
      refine ⟨?_, ?_⟩
      · have := e 0; simp only [Nat.add_zero] at this; rw [this]; simpa [syCells] using h1
      · rw [e 1]; simpa [syCells] using h2
/-- no two symbols share a rank -/
def Con (L : List Rk) (ms : List Sy) : Prop := ∀ p ∈ ms, ∀ q ∈ ms, rkOf L p.1 = rkOf L q.1 → p = q
def inS (ms : List Sy) (f : ByteArray) (n : Nat) : Prop := (f.data.toList, (n : Int)) ∈ ms
theorem Tm.sym.mono {p q : ByteArray → Nat → Prop} (h : ∀ f n, p f n → q f n) {t : Tm} (ht : t.sym p) : t.sym q := by
  induction ht with
  | mk t h1 h2 _ ih => exact .mk t h1 (h _ _ h2) ih
theorem grown_step {A B C : World} {r r' : Option Nat} (h : A.grownBy B r) (k : B.grownBy C r') (hr : ∀ i, i < A.heap.size → some i ≠ r → some i ≠ r') : A.grownBy C r :=
  ⟨k.os.trans h.os, k.tape.trans h.tape, k.output.trans h.output, Nat.le_trans h.size k.size, fun i hi hne => (k.block i (Nat.lt_of_lt_of_le hi h.size) (hr i hi hne)).trans (h.block i hi hne)⟩
/-- what lies in the call -/
structure FxSt (base : Nat) (w W : World) (mv : Value) (t : Tm) (sl : Value) (ms : List Sy) (v : Value) : Prop where
  box : W.heap[w.heap.size]? = some (.cells #[.string t.nm, .bool t.vr, sl] 34 (0, 0))
  row : W.ownsRow base 92 2 v ms.length (syCells ms)
  gr : w.grownBy W mv.ownBlock
  own : v.ownBlock = mv.ownBlock ∨ ∃ j, v.ownBlock = some j ∧ w.heap.size + 1 ≤ j
theorem FxSt.below {base : Nat} {w A W : World} {mv : Value} {t : Tm} {sl : Value} {ms : List Sy} {v : Value} (h : FxSt base w A mv t sl ms v) (hb : Below A.heap.size A W) : FxSt base w W mv t sl ms v :=
  ⟨(hb.block _ (Array.getElem?_eq_some_iff.1 h.box).1).trans h.box, h.row.kept (below_grown hb) (own_none _), grown_step h.gr (below_grown hb) (fun _ _ _ => by simp), h.own⟩
theorem FxSt.grow {base : Nat} {w A W : World} {mv : Value} {t : Tm} {sl : Value} {ms ms' : List Sy} {v v' : Value} (h : FxSt base w A mv t sl ms v) (hlt : ∀ j, mv.ownBlock = some j → j < w.heap.size) (hg : A.grownBy W v.ownBlock) (ho : W.ownsRow base 92 2 v' ms'.length (syCells ms')) (hat : v'.ownBlock = v.ownBlock ∨ ∃ j, v'.ownBlock = some j ∧ A.heap.size ≤ j) : FxSt base w W mv t sl ms' v' := by
  have hz := (Array.getElem?_eq_some_iff.1 h.box).1
  refine ⟨(hg.block _ hz fun e => ?_).trans h.box, ho, grown_step h.gr hg fun i hi hne e => ?_, ?_⟩
  · rcases h.own with e2 | ⟨j, e2, hj⟩
    · have := hlt _ (e2.symm.trans e.symm); omega
    · rw [e2] at e; cases e; omega
  · rcases h.own with e2 | ⟨j, e2, hj⟩
    · exact hne (e.trans e2)
    · rw [e2] at e; cases e; omega
  · rcases hat with e | ⟨j, e, hj⟩
    · rw [e]; exact h.own
    · exact .inr ⟨j, e, by omega⟩
theorem FxSt.low {base : Nat} {w W : World} {mv : Value} {t : Tm} {sl : Value} {ms : List Sy} {v : Value} (h : FxSt base w W mv t sl ms v) (hb : base ≤ w.heap.size) (hm : ∀ j, mv.ownBlock = some j → base ≤ j) : Below base w W :=
  ⟨h.gr.os, h.gr.tape, h.gr.output, h.gr.size, fun i hi => h.gr.block i (by omega) fun e => by have := hm _ e.symm; omega⟩
/-- an entry of the row -/
theorem syGet {base : Nat} {W : World} {ms : List Sy} {v : Value} (h : W.ownsRow base 92 2 v ms.length (syCells ms)) {k : Nat} (hk : k < ms.length) :
    ∃ gg cap p, v = .slice (some ⟨gg, 0, none⟩) ms.length cap ∧ ms[k]? = some p ∧ W.cell? ⟨gg, k * 2, none⟩ = some (.string (kb p.1)) ∧ W.cell? ⟨gg, k * 2 + 1, none⟩ = some (.int .i64 p.2) := by
  have h0 := h
  rcases h.2 with ⟨rfl, hl⟩ | ⟨gg, cap, cur, rfl, hbg, hg, hle, _⟩
  · omega
  · have hp : ms[k]? = some ms[k] := List.getElem?_eq_getElem hk
    obtain ⟨h1, h2⟩ := syCells_at ms k _ hp
    have key : ∀ j u, (syCells ms)[j]? = some u → W.cell? ⟨gg, 0 + j, none⟩ = some u := fun j u hj => by
      have := h0.cells (g := gg) rfl j u hj
      rwa [ad_add] at this
    refine ⟨gg, cap, ms[k], rfl, hp, ?_, ?_⟩
    · have := key _ _ h1; rwa [Nat.zero_add] at this
    · have := key _ _ h2; rwa [Nat.zero_add] at this
/-- how fixed ends -/
def FxPost (base : Nat) (L : List Rk) (t : Tm) (ms : List Sy) (mv : Value) (w : World) (e : Ending) (w' : World) : Prop :=
  ∃ v' b, e = .returned (.tuple #[v', .bool b]) ∧ w.grownBy w' mv.ownBlock ∧ (b = true → ∃ ms' : List Sy, w'.ownsRow base 92 2 v' ms'.length (syCells ms') ∧ (v'.ownBlock = mv.ownBlock ∨ ∃ j, v'.ownBlock = some j ∧ w.heap.size ≤ j) ∧ (∀ p ∈ ms, p ∈ ms') ∧ (Con L ms → Con L ms') ∧ t.sym (inS ms') ∧ ms'.length ≤ ms.length + t.size)
theorem infoSym : (Try.prog.info? 92).map (fun i => (i.zero, i.size, i.bytes)) = some (some (.agg #[.string ⟨#[]⟩, .int .i64 0]), 2, 24) := by kernel_rfl
theorem cells_new2 (W : World) (a b : Value) (e : TypeId) : ∀ j u, [a, b][j]? = some u → (W.alloc (.cells #[a, b] e)).cell? ((⟨W.heap.size, 0, none⟩ : Addr).add j) = some u := by
  intro j u hj
  rw [ad_add, Nat.zero_add]
  have h := cells_of' (heap_new_at W (.cells #[a, b] e) W.heap.size rfl) j
  rw [h, ← Array.getElem?_toList]
  exact hj
/-- the symbols up to k fit with t's -/
def FitTo (L : List Rk) (ms : List Sy) (tk : Key) (n : Int) (k : Nat) : Prop := ∀ x ∈ ms.take k, (x.1 = tk → x.2 = n) ∧ (x.1 ≠ tk → rkOf L x.1 ≠ rkOf L tk)
def Found (ms : List Sy) (tk : Key) (k : Nat) (b : Bool) : Prop := b = true ↔ ∃ x ∈ ms.take k, x.1 = tk
theorem FitTo.step {L : List Rk} {ms : List Sy} {tk : Key} {n : Int} {k : Nat} (h : FitTo L ms tk n k) {p : Sy} (hp : ms[k]? = some p) (h1 : (p.1 = tk → p.2 = n) ∧ (p.1 ≠ tk → rkOf L p.1 ≠ rkOf L tk)) : FitTo L ms tk n (k + 1) := fun x hx => by
  rw [List.take_add_one, hp] at hx
  rcases List.mem_append.1 hx with hx | hx
  · exact h x hx
  · obtain rfl : x = p := by simpa using hx
    exact h1
theorem Found.yes {ms : List Sy} {tk : Key} {k : Nat} {p : Sy} (hp : ms[k]? = some p) (h : p.1 = tk) : Found ms tk (k + 1) true := ⟨fun _ => ⟨p, by rw [List.take_add_one, hp]; simp, h⟩, fun _ => rfl⟩
theorem Found.no {ms : List Sy} {tk : Key} {k : Nat} {b : Bool} (hb : Found ms tk k b) {p : Sy} (hp : ms[k]? = some p) (h : p.1 ≠ tk) : Found ms tk (k + 1) b := by
  refine hb.trans ⟨fun ⟨x, hx, e⟩ => ⟨x, by rw [List.take_add_one, hp]; simp [hx], e⟩, fun ⟨x, hx, e⟩ => ?_⟩
  rw [List.take_add_one, hp] at hx
  rcases List.mem_append.1 hx with hx | hx
  · exact ⟨x, hx, e⟩
  · obtain rfl : x = p := by simpa using hx
    exact absurd e h
theorem con_new {L : List Rk} {ms : List Sy} {tk : Key} {n : Int} (hc : Con L ms) (hf : FitTo L ms tk n ms.length) (hn : Found ms tk ms.length false) : Con L (ms ++ [(tk, n)]) := by
  rw [FitTo, List.take_length] at hf
  rw [Found, List.take_length] at hn
  have hne : ∀ x ∈ ms, x.1 ≠ tk := fun x hx e => by have := hn.2 ⟨x, hx, e⟩; cases this
  intro p hp q hq e
  rcases List.mem_append.1 hp with hp | hp <;> rcases List.mem_append.1 hq with hq | hq
  · exact hc p hp q hq e
  · obtain rfl := List.mem_singleton.1 hq; exact absurd e ((hf p hp).2 (hne p hp))
  · obtain rfl := List.mem_singleton.1 hp; exact absurd e.symm ((hf q hq).2 (hne q hq))
  · rw [List.mem_singleton.1 hp, List.mem_singleton.1 hq]
theorem found_in {L : List Rk} {ms : List Sy} {tk : Key} {n : Int} (hf : FitTo L ms tk n ms.length) (hn : Found ms tk ms.length true) : (tk, n) ∈ ms := by
  rw [FitTo, List.take_length] at hf
  rw [Found, List.take_length] at hn
  obtain ⟨x, hx, e⟩ := hn.1 rfl
  have := (hf x hx).1 e
  obtain ⟨a, b⟩ := x
  simp only at e this; subst e; subst this; exact hx
theorem syms_snoc {ms : List Sy} {l : List Tm} {k : Nat} {u : Tm} (hu : l[k]? = some u) (h : ∀ x ∈ l.take k, x.sym (inS ms)) (h2 : u.sym (inS ms)) : ∀ x ∈ l.take (k + 1), x.sym (inS ms) := fun x hx => by
  rw [Tm.take_snoc hu] at hx
  rcases List.mem_append.1 hx with hx | hx
  · exact h x hx
  · obtain rfl := List.mem_singleton.1 hx; exact h2
/-- the box of a symbol, beside what lies in the call -/
structure FxRd (base : Nat) (w W : World) (mv : Value) (t : Tm) (sl : Value) (ms : List Sy) (X : Nat) (p : Sy) : Prop where
  st : FxSt base w W mv t sl ms mv
  sy : W.heap[X]? = some (.cells #[.string (kb p.1), .int .i64 p.2] 92 (0, 0))
theorem FxRd.carry {base : Nat} {w A W : World} {mv : Value} {t : Tm} {sl : Value} {ms : List Sy} {X : Nat} {p : Sy} (h : FxRd base w A mv t sl ms X p) (hb : Below A.heap.size A W) : FxRd base w W mv t sl ms X p :=
  ⟨h.st.below hb, (hb.block _ (Array.getElem?_eq_some_iff.1 h.sy).1).trans h.sy⟩
theorem FxRd.five {base : Nat} {w W : World} {mv : Value} {t : Tm} {sl : Value} {ms : List Sy} {X : Nat} {p : Sy} (h : FxRd base w W mv t sl ms X p) : W.cell? ⟨X, 0, none⟩ = some (.string (kb p.1)) ∧ W.cell? ⟨X, 1, none⟩ = some (.int .i64 p.2) ∧ W.cell? ⟨w.heap.size, 0, none⟩ = some (.string t.nm) ∧ W.cell? ⟨w.heap.size, 1, none⟩ = some (.bool t.vr) ∧ W.cell? ⟨w.heap.size, 2, none⟩ = some sl :=
  ⟨cells_of' h.sy 0, cells_of' h.sy 1, cells_of' h.st.box 0, cells_of' h.st.box 1, cells_of' h.st.box 2⟩

set_option maxRecDepth 100000 in
set_option maxHeartbeats 16000000 in
theorem fixed_any (L : List Rk) (lv : Value) (hLl : L.length ≤ 1048576) (base : Nat) (t : Tm) : ∀ (sl mv : Value) (ms : List Sy) (w : World), base ≤ w.heap.size → RksIs base w L lv → SlIs base w t.ts sl → t.bulk ≤ 1048576 → w.ownsRow base 92 2 mv ms.length (syCells ms) → ms.length + t.size ≤ 4194304 →
    Calls Try.prog 24 #[lv, tmv t sl, mv] w fun e w' => FxPost base L t ms mv w e w' := by
  induction t using Tm.ind with
  | h t ih =>
    intro sl mv ms w hbase hL hs hb hrow hms
    obtain ⟨oa, ca, rfl, -⟩ := hs.form
    have hL' := hL
    obtain ⟨ol, cl, rfl, -, -⟩ := hL'
    obtain ⟨om, cm, rfl⟩ := ownsRow_shape hrow
    have htl : t.ts.length ≤ 1048576 := by have := Tm.length_sizes t.ts; have := Tm.size_bulk t; have := Tm.size_eq t; omega
    have htz := Tm.size_eq t
    have HMLT : Hid (∀ j, (Value.slice om ms.length cm).ownBlock = some j → base ≤ j ∧ j < w.heap.size) := Lib.hid fun j hj => hrow.lt j hj
    have HST0 : Hid (FxSt base w (w.alloc (.cells #[.string t.nm, .bool t.vr, .slice oa t.ts.length ca] 34)) (.slice om ms.length cm) t (.slice oa t.ts.length ca) ms (.slice om ms.length cm)) := Lib.hid ⟨heap_new_at _ _ _ rfl, hrow.alloc _, ⟨rfl, rfl, rfl, by simp, fun i hi _ => Below.heap_alloc _ _ _ hi⟩, .inl rfl⟩
    have IH := Lib.hid ih
    have HL := Lib.hid hL
    have HS := Lib.hid hs
    have HB := Lib.hid hb
    have HMS := Lib.hid hms
    obtain ⟨i0, hi, hz, hs1, hb1⟩ := info_parts infoSym
    have HI := Lib.hid hi
    have HZ := Lib.hid hz
    have HS1 := Lib.hid hs1
    have HB1 := Lib.hid hb1
    clear ih hL hs hb hrow hms hi hz hs1 hb1
    go_enter Try.func24, Try.ntmps24
    rw [show tmv t (.slice oa t.ts.length ca) = .agg #[.string t.nm, .bool t.vr, .slice oa t.ts.length ca] from rfl]
    cases hv : t.vr with
    | true =>
      rw [hv] at HST0
      go_wp2_with fail
      go_ret2
      exact ⟨_, false, rfl, HST0.out.gr, nofun⟩
    | false =>
    have HV := Lib.hid hv
    rw [hv] at HST0
    clear hv
    have HLOW0 := Lib.hid (show ∀ (W : World) (v2 : Value) (ms2 : List Sy), FxSt base w W (.slice om ms.length cm) t (.slice oa t.ts.length ca) ms2 v2 → Below base w W from fun W v2 ms2 h => h.low hbase fun j hj => (HMLT.out j hj).1)
    go_wp2_with fail
    go_loopw [8, 20] (fun f i wr => ∃ (k : Nat) (fb : Bool), k ≤ ms.length ∧ f = .bool fb ∧ i = .int .i64 k ∧ Hid (Found ms t.nm.data.toList k fb) ∧ Hid (FitTo L ms t.nm.data.toList t.ts.length k) ∧ Hid (FxSt base w wr (.slice om ms.length cm) t (.slice oa t.ts.length ca) ms (.slice om ms.length cm))) (fun _ i _ => ms.length - (intOf i).toNat)
    case atStart => exact ⟨0, false, by omega, rfl, rfl, Lib.hid ⟨nofun, fun ⟨x, hx, _⟩ => by simp at hx⟩, Lib.hid (fun x hx => by simp at hx), HST0⟩
    case round =>
      obtain ⟨k, fb, hk, rfl, rfl, HF, HT, HST⟩ := hrel
      have hmsl : ms.length ≤ 4194304 := by have := HMS.out; omega
      by_cases hlt : k < ms.length
      · obtain ⟨gg, cap, p, e1, hp, c0, c1⟩ := syGet HST.out.row hlt
        cases e1
        obtain ⟨⟨x0, x1, x2⟩, -⟩ := box3 HST.out.box
        have HP := Lib.hid hp
        have hrd : FxRd base w (wr.alloc (.cells #[.string (kb p.1), .int .i64 p.2] 92)) (.slice (some ⟨gg, 0, none⟩) ms.length cm) t (.slice oa t.ts.length ca) ms wr.heap.size p := ⟨HST.out.below ((Below.refl _ _).alloc (Nat.le_refl _) _), heap_new_at _ _ _ rfl⟩
        have Hw0 := Lib.hid (hrd.carry (Below.refl _ _).drew)
        clear hp hrd
        go_wp2_with fail
        by_cases hn : p.1 = t.nm.data.toList
        · have hbb := nm_beq_yes (show kb p.1 = t.nm from by rw [hn, kb_key])
          have hbn : (!((kb p.1).toList == t.nm.toList)) = false := by rw [hbb]; rfl
          by_cases ha : p.2 = (t.ts.length : Int)
          · have hab : (p.2 != (t.ts.length : Int)) = false := by rw [ha]; simp
            have HF2 := Lib.hid (Found.yes HP.out hn)
            have HT2 := Lib.hid (HT.out.step HP.out ⟨fun _ => ha, fun h => absurd hn h⟩)
            clear hn ha
            refine wp_region_noPanic ?_
            refine wp_region_held_drew (S := fun w' => w'.cell? ⟨wr.heap.size, 0, none⟩ = some (.string (kb p.1)) ∧ w'.cell? ⟨wr.heap.size, 1, none⟩ = some (.int .i64 p.2) ∧ w'.cell? ⟨w.heap.size, 0, none⟩ = some (.string t.nm) ∧ w'.cell? ⟨w.heap.size, 1, none⟩ = some (.bool t.vr) ∧ w'.cell? ⟨w.heap.size, 2, none⟩ = some (.slice oa t.ts.length ca)) (by kernel_rfl) Hw0.out.five (fun _ => ?_)
            simp only [List.size_toArray, List.length_cons, List.length_nil, Nat.reduceAdd]
            refine wpAnyH_take (i := 0) (v := ?_) (by simp only [List.getElem?_toArray, List.getElem?_cons_zero]; rfl) (by kernel_rfl) (by kernel_rfl) (by kernel_rfl) (fun _ _ _ h => h) (Or.inl ⟨by rfl, ?_⟩) Hw0.out.five ?_
            case refine_2 => (intro ww hSw; obtain ⟨s1, s2, s3, s4, s5⟩ := hSw; go_simp; try with_reducible rfl)
            try simp only [Act.put, List.setIfInBounds_toArray, List.set_cons_zero, List.set_cons_succ]
            refine wpAnyH_take (i := 1) (v := ?_) (by simp only [List.getElem?_toArray, List.getElem?_cons_zero, List.getElem?_cons_succ]; rfl) (by kernel_rfl) (by kernel_rfl) (by kernel_rfl) (fun _ _ _ h => h) (Or.inl ⟨by rfl, ?_⟩) Hw0.out.five ?_
            case refine_2 => (intro ww hSw; obtain ⟨s1, s2, s3, s4, s5⟩ := hSw; go_simp; try with_reducible rfl)
            try simp only [Act.put, List.setIfInBounds_toArray, List.set_cons_zero, List.set_cons_succ]
            refine wpAnyH_take (i := 2) (v := ?_) (by simp only [List.getElem?_toArray, List.getElem?_cons_zero, List.getElem?_cons_succ]; rfl) (by kernel_rfl) (by kernel_rfl) (by kernel_rfl) (fun _ _ _ h => h) (Or.inl ⟨by rfl, ?_⟩) Hw0.out.five ?_
            case refine_2 => (intro ww hSw; obtain ⟨s1, s2, s3, s4, s5⟩ := hSw; go_simp; try with_reducible rfl)
            try simp only [Act.put, List.setIfInBounds_toArray, List.set_cons_zero, List.set_cons_succ]
            refine wpAnyH_take (i := 3) (v := ?_) (by simp only [List.getElem?_toArray, List.getElem?_cons_zero, List.getElem?_cons_succ]; rfl) (by kernel_rfl) (by kernel_rfl) (by kernel_rfl) (fun _ _ _ h => h) (Or.inl ⟨by rfl, ?_⟩) Hw0.out.five ?_
            case refine_2 => (intro ww hSw; obtain ⟨s1, s2, s3, s4, s5⟩ := hSw; go_simp; try with_reducible rfl)
            try simp only [Act.put, List.setIfInBounds_toArray, List.set_cons_zero, List.set_cons_succ]
            refine wpAnyH_take (i := 4) (v := ?_) (by simp only [List.getElem?_toArray, List.getElem?_cons_zero, List.getElem?_cons_succ]; rfl) (by kernel_rfl) (by kernel_rfl) (by kernel_rfl) (fun _ _ _ h => h) (Or.inl ⟨by rfl, ?_⟩) Hw0.out.five ?_
            case refine_2 => (intro ww hSw; obtain ⟨s1, s2, s3, s4, s5⟩ := hSw; go_simp; try with_reducible rfl)
            try simp only [Act.put, List.setIfInBounds_toArray, List.set_cons_zero, List.set_cons_succ]
            refine wpAnyH_take (i := 5) (v := ?_) (by simp only [List.getElem?_toArray, List.getElem?_cons_zero, List.getElem?_cons_succ]; rfl) (by kernel_rfl) (by kernel_rfl) (by kernel_rfl) (fun _ _ _ h => h) (Or.inl ⟨by rfl, ?_⟩) Hw0.out.five ?_
            case refine_2 => (intro ww hSw; obtain ⟨s1, s2, s3, s4, s5⟩ := hSw; go_simp; try with_reducible rfl)
            try simp only [Act.put, List.setIfInBounds_toArray, List.set_cons_zero, List.set_cons_succ]
            refine wpAnyH_take (i := 6) (v := ?_) (by simp only [List.getElem?_toArray, List.getElem?_cons_zero, List.getElem?_cons_succ]; rfl) (by kernel_rfl) (by kernel_rfl) (by kernel_rfl) (fun _ _ _ h => h) (Or.inl ⟨by rfl, ?_⟩) Hw0.out.five ?_
            case refine_2 => (intro ww hSw; obtain ⟨s1, s2, s3, s4, s5⟩ := hSw; go_simp; try with_reducible rfl)
            try simp only [Act.put, List.setIfInBounds_toArray, List.set_cons_zero, List.set_cons_succ]
            refine wpAnyH_take (i := 7) (v := ?_) (by simp only [List.getElem?_toArray, List.getElem?_cons_zero, List.getElem?_cons_succ]; rfl) (by kernel_rfl) (by kernel_rfl) (by kernel_rfl) (fun _ _ _ h => h) (Or.inl ⟨by rfl, ?_⟩) Hw0.out.five ?_
            case refine_2 => (intro ww hSw; obtain ⟨s1, s2, s3, s4, s5⟩ := hSw; go_simp; try with_reducible rfl)
            try simp only [Act.put, List.setIfInBounds_toArray, List.set_cons_zero, List.set_cons_succ]
            refine wpAnyH_take (i := 8) (v := ?_) (by simp only [List.getElem?_toArray, List.getElem?_cons_zero, List.getElem?_cons_succ]; rfl) (by kernel_rfl) (by kernel_rfl) (by kernel_rfl) (fun _ _ _ h => h) (Or.inl ⟨by rfl, ?_⟩) Hw0.out.five ?_
            case refine_2 => (intro ww hSw; obtain ⟨s1, s2, s3, s4, s5⟩ := hSw; go_simp; try with_reducible rfl)
            try simp only [Act.put, List.setIfInBounds_toArray, List.set_cons_zero, List.set_cons_succ]
            refine wpAnyH_take (i := 9) (v := ?_) (by simp only [List.getElem?_toArray, List.getElem?_cons_zero, List.getElem?_cons_succ]; rfl) (by kernel_rfl) (by kernel_rfl) (by kernel_rfl) (fun _ _ _ h => h) (Or.inl ⟨by rfl, ?_⟩) Hw0.out.five ?_
            case refine_2 => (intro ww hSw; obtain ⟨s1, s2, s3, s4, s5⟩ := hSw; go_simp; try with_reducible rfl)
            try simp only [Act.put, List.setIfInBounds_toArray, List.set_cons_zero, List.set_cons_succ]
            refine wpAnyH_take (i := 10) (v := ?_) (by simp only [List.getElem?_toArray, List.getElem?_cons_zero, List.getElem?_cons_succ]; rfl) (by kernel_rfl) (by kernel_rfl) (by kernel_rfl) (fun _ _ _ h => h) (Or.inl ⟨by rfl, ?_⟩) Hw0.out.five ?_
            case refine_2 => (intro ww hSw; obtain ⟨s1, s2, s3, s4, s5⟩ := hSw; go_simp; try with_reducible rfl)
            try simp only [Act.put, List.setIfInBounds_toArray, List.set_cons_zero, List.set_cons_succ]
            refine wpAnyH_take (i := 11) (v := ?_) (by simp only [List.getElem?_toArray, List.getElem?_cons_zero, List.getElem?_cons_succ]; rfl) (by kernel_rfl) (by kernel_rfl) (by kernel_rfl) (fun _ _ _ h => h) (Or.inl ⟨by rfl, ?_⟩) Hw0.out.five ?_
            case refine_2 => (intro ww hSw; obtain ⟨s1, s2, s3, s4, s5⟩ := hSw; go_simp; try with_reducible rfl)
            try simp only [Act.put, List.setIfInBounds_toArray, List.set_cons_zero, List.set_cons_succ]
            refine wpAnyH_take (i := 12) (v := ?_) (by simp only [List.getElem?_toArray, List.getElem?_cons_zero, List.getElem?_cons_succ]; rfl) (by kernel_rfl) (by kernel_rfl) (by kernel_rfl) (fun _ _ _ h => h) (Or.inl ⟨by rfl, ?_⟩) Hw0.out.five ?_
            case refine_2 => (intro ww hSw; obtain ⟨s1, s2, s3, s4, s5⟩ := hSw; go_simp; try with_reducible rfl)
            try simp only [Act.put, List.setIfInBounds_toArray, List.set_cons_zero, List.set_cons_succ]
            refine wpAnyH_take (i := 13) (v := ?_) (by simp only [List.getElem?_toArray, List.getElem?_cons_zero, List.getElem?_cons_succ]; rfl) (by kernel_rfl) (by kernel_rfl) (by kernel_rfl) (fun _ _ _ h => h) (Or.inl ⟨by rfl, ?_⟩) Hw0.out.five ?_
            case refine_2 => (intro ww hSw; obtain ⟨s1, s2, s3, s4, s5⟩ := hSw; go_simp; try with_reducible rfl)
            try simp only [Act.put, List.setIfInBounds_toArray, List.set_cons_zero, List.set_cons_succ]
            refine wpAnyH_take (i := 14) (v := ?_) (by simp only [List.getElem?_toArray, List.getElem?_cons_zero, List.getElem?_cons_succ]; rfl) (by kernel_rfl) (by kernel_rfl) (by kernel_rfl) (fun _ _ _ h => h) (Or.inl ⟨by rfl, ?_⟩) Hw0.out.five ?_
            case refine_2 => (intro ww hSw; obtain ⟨s1, s2, s3, s4, s5⟩ := hSw; go_simp; try with_reducible rfl)
            try simp only [Act.put, List.setIfInBounds_toArray, List.set_cons_zero, List.set_cons_succ]
            refine wpAnyH_take (i := 15) (v := ?_) (by simp only [List.getElem?_toArray, List.getElem?_cons_zero, List.getElem?_cons_succ]; rfl) (by kernel_rfl) (by kernel_rfl) (by kernel_rfl) (fun _ _ _ h => h) (Or.inl ⟨by rfl, ?_⟩) Hw0.out.five ?_
            case refine_2 => (intro ww hSw; obtain ⟨s1, s2, s3, s4, s5⟩ := hSw; go_simp; try with_reducible rfl)
            try simp only [Act.put, List.setIfInBounds_toArray, List.set_cons_zero, List.set_cons_succ]
            refine wpAnyH_take (i := 16) (v := ?_) (by simp only [List.getElem?_toArray, List.getElem?_cons_zero, List.getElem?_cons_succ]; rfl) (by kernel_rfl) (by kernel_rfl) (by kernel_rfl) (fun _ _ _ h => h) (Or.inl ⟨by rfl, ?_⟩) Hw0.out.five ?_
            case refine_2 => (intro ww hSw; obtain ⟨s1, s2, s3, s4, s5⟩ := hSw; go_simp; try with_reducible rfl)
            try simp only [Act.put, List.setIfInBounds_toArray, List.set_cons_zero, List.set_cons_succ]
            refine wpAnyH_take (i := 17) (v := ?_) (by simp only [List.getElem?_toArray, List.getElem?_cons_zero, List.getElem?_cons_succ]; rfl) (by kernel_rfl) (by kernel_rfl) (by kernel_rfl) (fun _ _ _ h => h) (Or.inl ⟨by rfl, ?_⟩) Hw0.out.five ?_
            case refine_2 => (intro ww hSw; obtain ⟨s1, s2, s3, s4, s5⟩ := hSw; go_simp; try with_reducible rfl)
            try simp only [Act.put, List.setIfInBounds_toArray, List.set_cons_zero, List.set_cons_succ]
            refine wpAnyH_take (i := 18) (v := ?_) (by simp only [List.getElem?_toArray, List.getElem?_cons_zero, List.getElem?_cons_succ]; rfl) (by kernel_rfl) (by kernel_rfl) (by kernel_rfl) (fun _ _ _ h => h) (Or.inl ⟨by rfl, ?_⟩) Hw0.out.five ?_
            case refine_2 => (intro ww hSw; obtain ⟨s1, s2, s3, s4, s5⟩ := hSw; go_simp; try with_reducible rfl)
            try simp only [Act.put, List.setIfInBounds_toArray, List.set_cons_zero, List.set_cons_succ]
            refine wpAnyH_take (i := 19) (v := ?_) (by simp only [List.getElem?_toArray, List.getElem?_cons_zero, List.getElem?_cons_succ]; rfl) (by kernel_rfl) (by kernel_rfl) (by kernel_rfl) (fun _ _ _ h => h) (Or.inl ⟨by rfl, ?_⟩) Hw0.out.five ?_
            case refine_2 => (intro ww hSw; obtain ⟨s1, s2, s3, s4, s5⟩ := hSw; go_simp; try with_reducible rfl)
            try simp only [Act.put, List.setIfInBounds_toArray, List.set_cons_zero, List.set_cons_succ]
            refine wpAnyH_take (i := 20) (v := _) (by simp only [List.getElem?_toArray, List.getElem?_cons_zero, List.getElem?_cons_succ]; rfl) (by kernel_rfl) (by kernel_rfl) (by kernel_rfl) (fun _ _ _ h => h) (Or.inr ⟨by rfl, rfl⟩) Hw0.out.five ?_
            try simp only [Act.put, List.setIfInBounds_toArray, List.set_cons_zero, List.set_cons_succ]
            refine wpAnyH_take (i := 21) (v := _) (by simp only [List.getElem?_toArray, List.getElem?_cons_zero, List.getElem?_cons_succ]; rfl) (by kernel_rfl) (by kernel_rfl) (by kernel_rfl) (fun _ _ _ h => h) (Or.inr ⟨by rfl, rfl⟩) Hw0.out.five ?_
            try simp only [Act.put, List.setIfInBounds_toArray, List.set_cons_zero, List.set_cons_succ]
            refine wpAnyH_take (i := 22) (v := _) (by simp only [List.getElem?_toArray, List.getElem?_cons_zero, List.getElem?_cons_succ]; rfl) (by kernel_rfl) (by kernel_rfl) (by kernel_rfl) (fun _ _ _ h => h) (Or.inr ⟨by rfl, rfl⟩) Hw0.out.five ?_
            try simp only [Act.put, List.setIfInBounds_toArray, List.set_cons_zero, List.set_cons_succ]
            refine wpAnyH_take (i := 23) (v := _) (by simp only [List.getElem?_toArray, List.getElem?_cons_zero, List.getElem?_cons_succ]; rfl) (by kernel_rfl) (by kernel_rfl) (by kernel_rfl) (fun _ _ _ h => h) (Or.inr ⟨by rfl, rfl⟩) Hw0.out.five ?_
            try simp only [Act.put, List.setIfInBounds_toArray, List.set_cons_zero, List.set_cons_succ]
            refine wpAnyH_take (i := 24) (v := _) (by simp only [List.getElem?_toArray, List.getElem?_cons_zero, List.getElem?_cons_succ]; rfl) (by kernel_rfl) (by kernel_rfl) (by kernel_rfl) (fun _ _ _ h => h) (Or.inr ⟨by rfl, rfl⟩) Hw0.out.five ?_
            try simp only [Act.put, List.setIfInBounds_toArray, List.set_cons_zero, List.set_cons_succ]
            refine wpAnyH_take (i := 25) (v := _) (by simp only [List.getElem?_toArray, List.getElem?_cons_zero, List.getElem?_cons_succ]; rfl) (by kernel_rfl) (by kernel_rfl) (by kernel_rfl) (fun _ _ _ h => h) (Or.inr ⟨by rfl, rfl⟩) Hw0.out.five ?_
            try simp only [Act.put, List.setIfInBounds_toArray, List.set_cons_zero, List.set_cons_succ]
            refine wpAnyH_take (i := 26) (v := _) (by simp only [List.getElem?_toArray, List.getElem?_cons_zero, List.getElem?_cons_succ]; rfl) (by kernel_rfl) (by kernel_rfl) (by kernel_rfl) (fun _ _ _ h => h) (Or.inr ⟨by rfl, rfl⟩) Hw0.out.five ?_
            try simp only [Act.put, List.setIfInBounds_toArray, List.set_cons_zero, List.set_cons_succ]
            refine wpAnyH_take (i := 27) (v := _) (by simp only [List.getElem?_toArray, List.getElem?_cons_zero, List.getElem?_cons_succ]; rfl) (by kernel_rfl) (by kernel_rfl) (by kernel_rfl) (fun _ _ _ h => h) (Or.inr ⟨by rfl, rfl⟩) Hw0.out.five ?_
            try simp only [Act.put, List.setIfInBounds_toArray, List.set_cons_zero, List.set_cons_succ]
            refine wpAnyH_take (i := 28) (v := _) (by simp only [List.getElem?_toArray, List.getElem?_cons_zero, List.getElem?_cons_succ]; rfl) (by kernel_rfl) (by kernel_rfl) (by kernel_rfl) (fun _ _ _ h => h) (Or.inr ⟨by rfl, rfl⟩) Hw0.out.five ?_
            try simp only [Act.put, List.setIfInBounds_toArray, List.set_cons_zero, List.set_cons_succ]
            refine wpAnyH_take (i := 29) (v := _) (by simp only [List.getElem?_toArray, List.getElem?_cons_zero, List.getElem?_cons_succ]; rfl) (by kernel_rfl) (by kernel_rfl) (by kernel_rfl) (fun _ _ _ h => h) (Or.inr ⟨by rfl, rfl⟩) Hw0.out.five ?_
            try simp only [Act.put, List.setIfInBounds_toArray, List.set_cons_zero, List.set_cons_succ]
            refine wpAnyH_take (i := 30) (v := _) (by simp only [List.getElem?_toArray, List.getElem?_cons_zero, List.getElem?_cons_succ]; rfl) (by kernel_rfl) (by kernel_rfl) (by kernel_rfl) (fun _ _ _ h => h) (Or.inr ⟨by rfl, rfl⟩) Hw0.out.five ?_
            try simp only [Act.put, List.setIfInBounds_toArray, List.set_cons_zero, List.set_cons_succ]
            refine wpAnyH_take (i := 31) (v := ?_) (by simp only [List.getElem?_toArray, List.getElem?_cons_zero, List.getElem?_cons_succ]; rfl) (by kernel_rfl) (by kernel_rfl) (by kernel_rfl) (fun _ _ _ h => h) (Or.inl ⟨by rfl, ?_⟩) Hw0.out.five ?_
            case refine_2 => (intro ww hSw; obtain ⟨s1, s2, s3, s4, s5⟩ := hSw; go_simp; try with_reducible rfl)
            try simp only [Act.put, List.setIfInBounds_toArray, List.set_cons_zero, List.set_cons_succ]
            refine wpAnyH_take (i := 32) (v := ?_) (by simp only [List.getElem?_toArray, List.getElem?_cons_zero, List.getElem?_cons_succ]; rfl) (by kernel_rfl) (by kernel_rfl) (by kernel_rfl) (fun _ _ _ h => h) (Or.inl ⟨by rfl, ?_⟩) Hw0.out.five ?_
            case refine_2 => (intro ww hSw; obtain ⟨s1, s2, s3, s4, s5⟩ := hSw; go_simp; try with_reducible rfl)
            try simp only [Act.put, List.setIfInBounds_toArray, List.set_cons_zero, List.set_cons_succ]
            refine wpAnyH_done (by kernel_rfl) ?_ _
            refine NoPanic.normal ?_
            obtain ⟨y0, y1, y2, y3, y4⟩ := Hw0.out.five
            cases fb
            · go_wp2_with fail
              exact ⟨⟨k + 1, true, by omega, rfl, by go_num, HF2, HT2, Lib.hid Hw0.out.st⟩, by simp [intOf]; omega⟩
            · go_wp2_with fail
              exact ⟨⟨k + 1, true, by omega, rfl, by go_num, HF2, HT2, Lib.hid Hw0.out.st⟩, by simp [intOf]; omega⟩
          · have hab : (p.2 != (t.ts.length : Int)) = true := by rw [bne_iff_ne]; exact ha
            clear hn ha
            refine wp_region_noPanic ?_
            refine wp_region_held_drew (S := fun w' => w'.cell? ⟨wr.heap.size, 0, none⟩ = some (.string (kb p.1)) ∧ w'.cell? ⟨wr.heap.size, 1, none⟩ = some (.int .i64 p.2) ∧ w'.cell? ⟨w.heap.size, 0, none⟩ = some (.string t.nm) ∧ w'.cell? ⟨w.heap.size, 1, none⟩ = some (.bool t.vr) ∧ w'.cell? ⟨w.heap.size, 2, none⟩ = some (.slice oa t.ts.length ca)) (by kernel_rfl) Hw0.out.five (fun _ => ?_)
            simp only [List.size_toArray, List.length_cons, List.length_nil, Nat.reduceAdd]
            refine wpAnyH_take (i := 0) (v := ?_) (by simp only [List.getElem?_toArray, List.getElem?_cons_zero]; rfl) (by kernel_rfl) (by kernel_rfl) (by kernel_rfl) (fun _ _ _ h => h) (Or.inl ⟨by rfl, ?_⟩) Hw0.out.five ?_
            case refine_2 => (intro ww hSw; obtain ⟨s1, s2, s3, s4, s5⟩ := hSw; go_simp; try with_reducible rfl)
            try simp only [Act.put, List.setIfInBounds_toArray, List.set_cons_zero, List.set_cons_succ]
            refine wpAnyH_take (i := 1) (v := ?_) (by simp only [List.getElem?_toArray, List.getElem?_cons_zero, List.getElem?_cons_succ]; rfl) (by kernel_rfl) (by kernel_rfl) (by kernel_rfl) (fun _ _ _ h => h) (Or.inl ⟨by rfl, ?_⟩) Hw0.out.five ?_
            case refine_2 => (intro ww hSw; obtain ⟨s1, s2, s3, s4, s5⟩ := hSw; go_simp; try with_reducible rfl)
            try simp only [Act.put, List.setIfInBounds_toArray, List.set_cons_zero, List.set_cons_succ]
            refine wpAnyH_take (i := 2) (v := ?_) (by simp only [List.getElem?_toArray, List.getElem?_cons_zero, List.getElem?_cons_succ]; rfl) (by kernel_rfl) (by kernel_rfl) (by kernel_rfl) (fun _ _ _ h => h) (Or.inl ⟨by rfl, ?_⟩) Hw0.out.five ?_
            case refine_2 => (intro ww hSw; obtain ⟨s1, s2, s3, s4, s5⟩ := hSw; go_simp; try with_reducible rfl)
            try simp only [Act.put, List.setIfInBounds_toArray, List.set_cons_zero, List.set_cons_succ]
            refine wpAnyH_take (i := 3) (v := ?_) (by simp only [List.getElem?_toArray, List.getElem?_cons_zero, List.getElem?_cons_succ]; rfl) (by kernel_rfl) (by kernel_rfl) (by kernel_rfl) (fun _ _ _ h => h) (Or.inl ⟨by rfl, ?_⟩) Hw0.out.five ?_
            case refine_2 => (intro ww hSw; obtain ⟨s1, s2, s3, s4, s5⟩ := hSw; go_simp; try with_reducible rfl)
            try simp only [Act.put, List.setIfInBounds_toArray, List.set_cons_zero, List.set_cons_succ]
            refine wpAnyH_take (i := 4) (v := ?_) (by simp only [List.getElem?_toArray, List.getElem?_cons_zero, List.getElem?_cons_succ]; rfl) (by kernel_rfl) (by kernel_rfl) (by kernel_rfl) (fun _ _ _ h => h) (Or.inl ⟨by rfl, ?_⟩) Hw0.out.five ?_
            case refine_2 => (intro ww hSw; obtain ⟨s1, s2, s3, s4, s5⟩ := hSw; go_simp; try with_reducible rfl)
            try simp only [Act.put, List.setIfInBounds_toArray, List.set_cons_zero, List.set_cons_succ]
            refine wpAnyH_take (i := 5) (v := ?_) (by simp only [List.getElem?_toArray, List.getElem?_cons_zero, List.getElem?_cons_succ]; rfl) (by kernel_rfl) (by kernel_rfl) (by kernel_rfl) (fun _ _ _ h => h) (Or.inl ⟨by rfl, ?_⟩) Hw0.out.five ?_
            case refine_2 => (intro ww hSw; obtain ⟨s1, s2, s3, s4, s5⟩ := hSw; go_simp; try with_reducible rfl)
            try simp only [Act.put, List.setIfInBounds_toArray, List.set_cons_zero, List.set_cons_succ]
            refine wpAnyH_take (i := 6) (v := ?_) (by simp only [List.getElem?_toArray, List.getElem?_cons_zero, List.getElem?_cons_succ]; rfl) (by kernel_rfl) (by kernel_rfl) (by kernel_rfl) (fun _ _ _ h => h) (Or.inl ⟨by rfl, ?_⟩) Hw0.out.five ?_
            case refine_2 => (intro ww hSw; obtain ⟨s1, s2, s3, s4, s5⟩ := hSw; go_simp; try with_reducible rfl)
            try simp only [Act.put, List.setIfInBounds_toArray, List.set_cons_zero, List.set_cons_succ]
            refine wpAnyH_take (i := 7) (v := ?_) (by simp only [List.getElem?_toArray, List.getElem?_cons_zero, List.getElem?_cons_succ]; rfl) (by kernel_rfl) (by kernel_rfl) (by kernel_rfl) (fun _ _ _ h => h) (Or.inl ⟨by rfl, ?_⟩) Hw0.out.five ?_
            case refine_2 => (intro ww hSw; obtain ⟨s1, s2, s3, s4, s5⟩ := hSw; go_simp; try with_reducible rfl)
            try simp only [Act.put, List.setIfInBounds_toArray, List.set_cons_zero, List.set_cons_succ]
            refine wpAnyH_take (i := 8) (v := ?_) (by simp only [List.getElem?_toArray, List.getElem?_cons_zero, List.getElem?_cons_succ]; rfl) (by kernel_rfl) (by kernel_rfl) (by kernel_rfl) (fun _ _ _ h => h) (Or.inl ⟨by rfl, ?_⟩) Hw0.out.five ?_
            case refine_2 => (intro ww hSw; obtain ⟨s1, s2, s3, s4, s5⟩ := hSw; go_simp; try with_reducible rfl)
            try simp only [Act.put, List.setIfInBounds_toArray, List.set_cons_zero, List.set_cons_succ]
            refine wpAnyH_take (i := 9) (v := ?_) (by simp only [List.getElem?_toArray, List.getElem?_cons_zero, List.getElem?_cons_succ]; rfl) (by kernel_rfl) (by kernel_rfl) (by kernel_rfl) (fun _ _ _ h => h) (Or.inl ⟨by rfl, ?_⟩) Hw0.out.five ?_
            case refine_2 => (intro ww hSw; obtain ⟨s1, s2, s3, s4, s5⟩ := hSw; go_simp; try with_reducible rfl)
            try simp only [Act.put, List.setIfInBounds_toArray, List.set_cons_zero, List.set_cons_succ]
            refine wpAnyH_take (i := 10) (v := ?_) (by simp only [List.getElem?_toArray, List.getElem?_cons_zero, List.getElem?_cons_succ]; rfl) (by kernel_rfl) (by kernel_rfl) (by kernel_rfl) (fun _ _ _ h => h) (Or.inl ⟨by rfl, ?_⟩) Hw0.out.five ?_
            case refine_2 => (intro ww hSw; obtain ⟨s1, s2, s3, s4, s5⟩ := hSw; go_simp; try with_reducible rfl)
            try simp only [Act.put, List.setIfInBounds_toArray, List.set_cons_zero, List.set_cons_succ]
            refine wpAnyH_take (i := 11) (v := ?_) (by simp only [List.getElem?_toArray, List.getElem?_cons_zero, List.getElem?_cons_succ]; rfl) (by kernel_rfl) (by kernel_rfl) (by kernel_rfl) (fun _ _ _ h => h) (Or.inl ⟨by rfl, ?_⟩) Hw0.out.five ?_
            case refine_2 => (intro ww hSw; obtain ⟨s1, s2, s3, s4, s5⟩ := hSw; go_simp; try with_reducible rfl)
            try simp only [Act.put, List.setIfInBounds_toArray, List.set_cons_zero, List.set_cons_succ]
            refine wpAnyH_take (i := 12) (v := ?_) (by simp only [List.getElem?_toArray, List.getElem?_cons_zero, List.getElem?_cons_succ]; rfl) (by kernel_rfl) (by kernel_rfl) (by kernel_rfl) (fun _ _ _ h => h) (Or.inl ⟨by rfl, ?_⟩) Hw0.out.five ?_
            case refine_2 => (intro ww hSw; obtain ⟨s1, s2, s3, s4, s5⟩ := hSw; go_simp; try with_reducible rfl)
            try simp only [Act.put, List.setIfInBounds_toArray, List.set_cons_zero, List.set_cons_succ]
            refine wpAnyH_take (i := 13) (v := ?_) (by simp only [List.getElem?_toArray, List.getElem?_cons_zero, List.getElem?_cons_succ]; rfl) (by kernel_rfl) (by kernel_rfl) (by kernel_rfl) (fun _ _ _ h => h) (Or.inl ⟨by rfl, ?_⟩) Hw0.out.five ?_
            case refine_2 => (intro ww hSw; obtain ⟨s1, s2, s3, s4, s5⟩ := hSw; go_simp; try with_reducible rfl)
            try simp only [Act.put, List.setIfInBounds_toArray, List.set_cons_zero, List.set_cons_succ]
            refine wpAnyH_take (i := 14) (v := _) (by simp only [List.getElem?_toArray, List.getElem?_cons_zero, List.getElem?_cons_succ]; rfl) (by kernel_rfl) (by kernel_rfl) (by kernel_rfl) (fun _ _ _ h => h) (Or.inr ⟨by rfl, rfl⟩) Hw0.out.five ?_
            try simp only [Act.put, List.setIfInBounds_toArray, List.set_cons_zero, List.set_cons_succ]
            refine wpAnyH_take (i := 15) (v := _) (by simp only [List.getElem?_toArray, List.getElem?_cons_zero, List.getElem?_cons_succ]; rfl) (by kernel_rfl) (by kernel_rfl) (by kernel_rfl) (fun _ _ _ h => h) (Or.inr ⟨by rfl, rfl⟩) Hw0.out.five ?_
            try simp only [Act.put, List.setIfInBounds_toArray, List.set_cons_zero, List.set_cons_succ]
            refine wpAnyH_take (i := 16) (v := _) (by simp only [List.getElem?_toArray, List.getElem?_cons_zero, List.getElem?_cons_succ]; rfl) (by kernel_rfl) (by kernel_rfl) (by kernel_rfl) (fun _ _ _ h => h) (Or.inr ⟨by rfl, rfl⟩) Hw0.out.five ?_
            try simp only [Act.put, List.setIfInBounds_toArray, List.set_cons_zero, List.set_cons_succ]
            refine wpAnyH_take (i := 17) (v := _) (by simp only [List.getElem?_toArray, List.getElem?_cons_zero, List.getElem?_cons_succ]; rfl) (by kernel_rfl) (by kernel_rfl) (by kernel_rfl) (fun _ _ _ h => h) (Or.inr ⟨by rfl, rfl⟩) Hw0.out.five ?_
            try simp only [Act.put, List.setIfInBounds_toArray, List.set_cons_zero, List.set_cons_succ]
            refine wpAnyH_take (i := 18) (v := _) (by simp only [List.getElem?_toArray, List.getElem?_cons_zero, List.getElem?_cons_succ]; rfl) (by kernel_rfl) (by kernel_rfl) (by kernel_rfl) (fun _ _ _ h => h) (Or.inr ⟨by rfl, rfl⟩) Hw0.out.five ?_
            try simp only [Act.put, List.setIfInBounds_toArray, List.set_cons_zero, List.set_cons_succ]
            refine wpAnyH_take (i := 19) (v := _) (by simp only [List.getElem?_toArray, List.getElem?_cons_zero, List.getElem?_cons_succ]; rfl) (by kernel_rfl) (by kernel_rfl) (by kernel_rfl) (fun _ _ _ h => h) (Or.inr ⟨by rfl, rfl⟩) Hw0.out.five ?_
            try simp only [Act.put, List.setIfInBounds_toArray, List.set_cons_zero, List.set_cons_succ]
            refine wpAnyH_take (i := 20) (v := _) (by simp only [List.getElem?_toArray, List.getElem?_cons_zero, List.getElem?_cons_succ]; rfl) (by kernel_rfl) (by kernel_rfl) (by kernel_rfl) (fun _ _ _ h => h) (Or.inr ⟨by rfl, rfl⟩) Hw0.out.five ?_
            try simp only [Act.put, List.setIfInBounds_toArray, List.set_cons_zero, List.set_cons_succ]
            refine wpAnyH_take (i := 21) (v := _) (by simp only [List.getElem?_toArray, List.getElem?_cons_zero, List.getElem?_cons_succ]; rfl) (by kernel_rfl) (by kernel_rfl) (by kernel_rfl) (fun _ _ _ h => h) (Or.inr ⟨by rfl, rfl⟩) Hw0.out.five ?_
            try simp only [Act.put, List.setIfInBounds_toArray, List.set_cons_zero, List.set_cons_succ]
            refine wpAnyH_take (i := 22) (v := _) (by simp only [List.getElem?_toArray, List.getElem?_cons_zero, List.getElem?_cons_succ]; rfl) (by kernel_rfl) (by kernel_rfl) (by kernel_rfl) (fun _ _ _ h => h) (Or.inr ⟨by rfl, rfl⟩) Hw0.out.five ?_
            try simp only [Act.put, List.setIfInBounds_toArray, List.set_cons_zero, List.set_cons_succ]
            refine wpAnyH_take (i := 23) (v := _) (by simp only [List.getElem?_toArray, List.getElem?_cons_zero, List.getElem?_cons_succ]; rfl) (by kernel_rfl) (by kernel_rfl) (by kernel_rfl) (fun _ _ _ h => h) (Or.inr ⟨by rfl, rfl⟩) Hw0.out.five ?_
            try simp only [Act.put, List.setIfInBounds_toArray, List.set_cons_zero, List.set_cons_succ]
            refine wpAnyH_take (i := 24) (v := _) (by simp only [List.getElem?_toArray, List.getElem?_cons_zero, List.getElem?_cons_succ]; rfl) (by kernel_rfl) (by kernel_rfl) (by kernel_rfl) (fun _ _ _ h => h) (Or.inr ⟨by rfl, rfl⟩) Hw0.out.five ?_
            try simp only [Act.put, List.setIfInBounds_toArray, List.set_cons_zero, List.set_cons_succ]
            refine wpAnyH_take (i := 25) (v := _) (by simp only [List.getElem?_toArray, List.getElem?_cons_zero, List.getElem?_cons_succ]; rfl) (by kernel_rfl) (by kernel_rfl) (by kernel_rfl) (fun _ _ _ h => h) (Or.inr ⟨by rfl, rfl⟩) Hw0.out.five ?_
            try simp only [Act.put, List.setIfInBounds_toArray, List.set_cons_zero, List.set_cons_succ]
            refine wpAnyH_take (i := 26) (v := _) (by simp only [List.getElem?_toArray, List.getElem?_cons_zero, List.getElem?_cons_succ]; rfl) (by kernel_rfl) (by kernel_rfl) (by kernel_rfl) (fun _ _ _ h => h) (Or.inr ⟨by rfl, rfl⟩) Hw0.out.five ?_
            try simp only [Act.put, List.setIfInBounds_toArray, List.set_cons_zero, List.set_cons_succ]
            refine wpAnyH_take (i := 27) (v := _) (by simp only [List.getElem?_toArray, List.getElem?_cons_zero, List.getElem?_cons_succ]; rfl) (by kernel_rfl) (by kernel_rfl) (by kernel_rfl) (fun _ _ _ h => h) (Or.inr ⟨by rfl, rfl⟩) Hw0.out.five ?_
            try simp only [Act.put, List.setIfInBounds_toArray, List.set_cons_zero, List.set_cons_succ]
            refine wpAnyH_take (i := 28) (v := _) (by simp only [List.getElem?_toArray, List.getElem?_cons_zero, List.getElem?_cons_succ]; rfl) (by kernel_rfl) (by kernel_rfl) (by kernel_rfl) (fun _ _ _ h => h) (Or.inr ⟨by rfl, rfl⟩) Hw0.out.five ?_
            try simp only [Act.put, List.setIfInBounds_toArray, List.set_cons_zero, List.set_cons_succ]
            refine wpAnyH_take (i := 29) (v := _) (by simp only [List.getElem?_toArray, List.getElem?_cons_zero, List.getElem?_cons_succ]; rfl) (by kernel_rfl) (by kernel_rfl) (by kernel_rfl) (fun _ _ _ h => h) (Or.inr ⟨by rfl, rfl⟩) Hw0.out.five ?_
            try simp only [Act.put, List.setIfInBounds_toArray, List.set_cons_zero, List.set_cons_succ]
            refine wpAnyH_take (i := 30) (v := _) (by simp only [List.getElem?_toArray, List.getElem?_cons_zero, List.getElem?_cons_succ]; rfl) (by kernel_rfl) (by kernel_rfl) (by kernel_rfl) (fun _ _ _ h => h) (Or.inr ⟨by rfl, rfl⟩) Hw0.out.five ?_
            try simp only [Act.put, List.setIfInBounds_toArray, List.set_cons_zero, List.set_cons_succ]
            refine wpAnyH_take (i := 31) (v := _) (by simp only [List.getElem?_toArray, List.getElem?_cons_zero, List.getElem?_cons_succ]; rfl) (by kernel_rfl) (by kernel_rfl) (by kernel_rfl) (fun _ _ _ h => h) (Or.inr ⟨by rfl, rfl⟩) Hw0.out.five ?_
            try simp only [Act.put, List.setIfInBounds_toArray, List.set_cons_zero, List.set_cons_succ]
            refine wpAnyH_take (i := 32) (v := ?_) (by simp only [List.getElem?_toArray, List.getElem?_cons_zero, List.getElem?_cons_succ]; rfl) (by kernel_rfl) (by kernel_rfl) (by kernel_rfl) (fun _ _ _ h => h) (Or.inl ⟨by rfl, ?_⟩) Hw0.out.five ?_
            case refine_2 => (intro ww hSw; obtain ⟨s1, s2, s3, s4, s5⟩ := hSw; go_simp; try with_reducible rfl)
            try simp only [Act.put, List.setIfInBounds_toArray, List.set_cons_zero, List.set_cons_succ]
            refine wpAnyH_done (by kernel_rfl) ?_ _
            refine NoPanic.normal ?_
            go_wp2_with fail
            go_ret2
            exact ⟨_, false, rfl, Hw0.out.st.gr, nofun⟩
        · have hbb := nm_beq_no (show kb p.1 ≠ t.nm from fun e => hn (by rw [← e]; rfl))
          have hbn : (!((kb p.1).toList == t.nm.toList)) = true := by rw [hbb]; rfl
          have hfd : ∀ (x y z : Value) (w : World), (Instr.field 28 (.agg #[x, y, z]) 1).run Try.prog w = .ok y w := fun _ _ _ _ => by kernel_rfl
          have hre := fun (x : Rk) => (rfl : rkv x = .agg #[.string (kb x.1), .int .i64 x.2.1, .int .i64 x.2.2])
          have HN := Lib.hid hn
          clear hn
          obtain ⟨r, hr⟩ : ∃ r : Bool, (rkOf L p.1 == rkOf L t.nm.data.toList) = r := ⟨_, rfl⟩
          have hr2 : ((entryOf L p.1).2.1 == (entryOf L t.nm.data.toList).2.1) = r := hr
          refine wp_region_noPanic ?_
          refine wp_region_held_drew (S := fun w' => w'.cell? ⟨wr.heap.size, 0, none⟩ = some (.string (kb p.1)) ∧ w'.cell? ⟨wr.heap.size, 1, none⟩ = some (.int .i64 p.2) ∧ w'.cell? ⟨w.heap.size, 0, none⟩ = some (.string t.nm) ∧ w'.cell? ⟨w.heap.size, 1, none⟩ = some (.bool t.vr) ∧ w'.cell? ⟨w.heap.size, 2, none⟩ = some (.slice oa t.ts.length ca)) (by kernel_rfl) Hw0.out.five (fun _ => ?_)
          simp only [List.size_toArray, List.length_cons, List.length_nil, Nat.reduceAdd]
          refine wpAnyH_take (i := 0) (v := ?_) (by simp only [List.getElem?_toArray, List.getElem?_cons_zero]; rfl) (by kernel_rfl) (by kernel_rfl) (by kernel_rfl) (fun _ _ _ h => h) (Or.inl ⟨by rfl, ?_⟩) Hw0.out.five ?_
          case refine_2 => (intro ww hSw; obtain ⟨s1, s2, s3, s4, s5⟩ := hSw; go_simp; try with_reducible rfl)
          try simp only [Act.put, List.setIfInBounds_toArray, List.set_cons_zero, List.set_cons_succ]
          refine wpAnyH_take (i := 1) (v := ?_) (by simp only [List.getElem?_toArray, List.getElem?_cons_zero, List.getElem?_cons_succ]; rfl) (by kernel_rfl) (by kernel_rfl) (by kernel_rfl) (fun _ _ _ h => h) (Or.inl ⟨by rfl, ?_⟩) Hw0.out.five ?_
          case refine_2 => (intro ww hSw; obtain ⟨s1, s2, s3, s4, s5⟩ := hSw; go_simp; try with_reducible rfl)
          try simp only [Act.put, List.setIfInBounds_toArray, List.set_cons_zero, List.set_cons_succ]
          refine wpAnyH_take (i := 2) (v := ?_) (by simp only [List.getElem?_toArray, List.getElem?_cons_zero, List.getElem?_cons_succ]; rfl) (by kernel_rfl) (by kernel_rfl) (by kernel_rfl) (fun _ _ _ h => h) (Or.inl ⟨by rfl, ?_⟩) Hw0.out.five ?_
          case refine_2 => (intro ww hSw; obtain ⟨s1, s2, s3, s4, s5⟩ := hSw; go_simp; try with_reducible rfl)
          try simp only [Act.put, List.setIfInBounds_toArray, List.set_cons_zero, List.set_cons_succ]
          refine wpAnyH_take (i := 3) (v := ?_) (by simp only [List.getElem?_toArray, List.getElem?_cons_zero, List.getElem?_cons_succ]; rfl) (by kernel_rfl) (by kernel_rfl) (by kernel_rfl) (fun _ _ _ h => h) (Or.inl ⟨by rfl, ?_⟩) Hw0.out.five ?_
          case refine_2 => (intro ww hSw; obtain ⟨s1, s2, s3, s4, s5⟩ := hSw; go_simp; try with_reducible rfl)
          try simp only [Act.put, List.setIfInBounds_toArray, List.set_cons_zero, List.set_cons_succ]
          refine wpAnyH_take (i := 4) (v := ?_) (by simp only [List.getElem?_toArray, List.getElem?_cons_zero, List.getElem?_cons_succ]; rfl) (by kernel_rfl) (by kernel_rfl) (by kernel_rfl) (fun _ _ _ h => h) (Or.inl ⟨by rfl, ?_⟩) Hw0.out.five ?_
          case refine_2 => (intro ww hSw; obtain ⟨s1, s2, s3, s4, s5⟩ := hSw; go_simp; try with_reducible rfl)
          try simp only [Act.put, List.setIfInBounds_toArray, List.set_cons_zero, List.set_cons_succ]
          refine wpAnyH_take (i := 5) (v := ?_) (by simp only [List.getElem?_toArray, List.getElem?_cons_zero, List.getElem?_cons_succ]; rfl) (by kernel_rfl) (by kernel_rfl) (by kernel_rfl) (fun _ _ _ h => h) (Or.inl ⟨by rfl, ?_⟩) Hw0.out.five ?_
          case refine_2 => (intro ww hSw; obtain ⟨s1, s2, s3, s4, s5⟩ := hSw; go_simp; try with_reducible rfl)
          try simp only [Act.put, List.setIfInBounds_toArray, List.set_cons_zero, List.set_cons_succ]
          refine wpAnyH_take (i := 6) (v := _) (by simp only [List.getElem?_toArray, List.getElem?_cons_zero, List.getElem?_cons_succ]; rfl) (by kernel_rfl) (by kernel_rfl) (by kernel_rfl) (fun _ _ _ h => h) (Or.inr ⟨by rfl, rfl⟩) Hw0.out.five ?_
          try simp only [Act.put, List.setIfInBounds_toArray, List.set_cons_zero, List.set_cons_succ]
          refine wpAnyH_take (i := 7) (v := _) (by simp only [List.getElem?_toArray, List.getElem?_cons_zero, List.getElem?_cons_succ]; rfl) (by kernel_rfl) (by kernel_rfl) (by kernel_rfl) (fun _ _ _ h => h) (Or.inr ⟨by rfl, rfl⟩) Hw0.out.five ?_
          try simp only [Act.put, List.setIfInBounds_toArray, List.set_cons_zero, List.set_cons_succ]
          refine wpAnyH_take (i := 8) (v := _) (by simp only [List.getElem?_toArray, List.getElem?_cons_zero, List.getElem?_cons_succ]; rfl) (by kernel_rfl) (by kernel_rfl) (by kernel_rfl) (fun _ _ _ h => h) (Or.inr ⟨by rfl, rfl⟩) Hw0.out.five ?_
          try simp only [Act.put, List.setIfInBounds_toArray, List.set_cons_zero, List.set_cons_succ]
          refine wpAnyH_take (i := 9) (v := _) (by simp only [List.getElem?_toArray, List.getElem?_cons_zero, List.getElem?_cons_succ]; rfl) (by kernel_rfl) (by kernel_rfl) (by kernel_rfl) (fun _ _ _ h => h) (Or.inr ⟨by rfl, rfl⟩) Hw0.out.five ?_
          try simp only [Act.put, List.setIfInBounds_toArray, List.set_cons_zero, List.set_cons_succ]
          refine wpAnyH_take (i := 10) (v := _) (by simp only [List.getElem?_toArray, List.getElem?_cons_zero, List.getElem?_cons_succ]; rfl) (by kernel_rfl) (by kernel_rfl) (by kernel_rfl) (fun _ _ _ h => h) (Or.inr ⟨by rfl, rfl⟩) Hw0.out.five ?_
          try simp only [Act.put, List.setIfInBounds_toArray, List.set_cons_zero, List.set_cons_succ]
          refine wpAnyH_take (i := 11) (v := _) (by simp only [List.getElem?_toArray, List.getElem?_cons_zero, List.getElem?_cons_succ]; rfl) (by kernel_rfl) (by kernel_rfl) (by kernel_rfl) (fun _ _ _ h => h) (Or.inr ⟨by rfl, rfl⟩) Hw0.out.five ?_
          try simp only [Act.put, List.setIfInBounds_toArray, List.set_cons_zero, List.set_cons_succ]
          refine wpAnyH_take (i := 12) (v := ?_) (by simp only [List.getElem?_toArray, List.getElem?_cons_zero, List.getElem?_cons_succ]; rfl) (by kernel_rfl) (by kernel_rfl) (by kernel_rfl) (fun _ _ _ h => h) (Or.inl ⟨by rfl, ?_⟩) Hw0.out.five ?_
          case refine_2 => (intro ww hSw; obtain ⟨s1, s2, s3, s4, s5⟩ := hSw; go_simp; try with_reducible rfl)
          try simp only [Act.put, List.setIfInBounds_toArray, List.set_cons_zero, List.set_cons_succ]
          refine wpAnyH_take (i := 13) (v := ?_) (by simp only [List.getElem?_toArray, List.getElem?_cons_zero, List.getElem?_cons_succ]; rfl) (by kernel_rfl) (by kernel_rfl) (by kernel_rfl) (fun _ _ _ h => h) (Or.inl ⟨by rfl, ?_⟩) Hw0.out.five ?_
          case refine_2 => (intro ww hSw; obtain ⟨s1, s2, s3, s4, s5⟩ := hSw; go_simp; try with_reducible rfl)
          try simp only [Act.put, List.setIfInBounds_toArray, List.set_cons_zero, List.set_cons_succ]
          refine wpAnyH_take (i := 14) (v := ?_) (by simp only [List.getElem?_toArray, List.getElem?_cons_zero, List.getElem?_cons_succ]; rfl) (by kernel_rfl) (by kernel_rfl) (by kernel_rfl) (fun _ _ _ h => h) (Or.inl ⟨by rfl, ?_⟩) Hw0.out.five ?_
          case refine_2 => (intro ww hSw; obtain ⟨s1, s2, s3, s4, s5⟩ := hSw; go_simp; try with_reducible rfl)
          try simp only [Act.put, List.setIfInBounds_toArray, List.set_cons_zero, List.set_cons_succ]
          refine wpAnyH_take (i := 15) (v := ?_) (by simp only [List.getElem?_toArray, List.getElem?_cons_zero, List.getElem?_cons_succ]; rfl) (by kernel_rfl) (by kernel_rfl) (by kernel_rfl) (fun _ _ _ h => h) (Or.inl ⟨by rfl, ?_⟩) Hw0.out.five ?_
          case refine_2 => (intro ww hSw; obtain ⟨s1, s2, s3, s4, s5⟩ := hSw; go_simp; try with_reducible rfl)
          try simp only [Act.put, List.setIfInBounds_toArray, List.set_cons_zero, List.set_cons_succ]
          refine wpAnyH_take (i := 16) (v := ?_) (by simp only [List.getElem?_toArray, List.getElem?_cons_zero, List.getElem?_cons_succ]; rfl) (by kernel_rfl) (by kernel_rfl) (by kernel_rfl) (fun _ _ _ h => h) (Or.inl ⟨by rfl, ?_⟩) Hw0.out.five ?_
          case refine_2 => (intro ww hSw; obtain ⟨s1, s2, s3, s4, s5⟩ := hSw; go_simp; try with_reducible rfl)
          try simp only [Act.put, List.setIfInBounds_toArray, List.set_cons_zero, List.set_cons_succ]
          refine wpAnyH_take (i := 17) (v := ?_) (by simp only [List.getElem?_toArray, List.getElem?_cons_zero, List.getElem?_cons_succ]; rfl) (by kernel_rfl) (by kernel_rfl) (by kernel_rfl) (fun _ _ _ h => h) (Or.inl ⟨by rfl, ?_⟩) Hw0.out.five ?_
          case refine_2 => (intro ww hSw; obtain ⟨s1, s2, s3, s4, s5⟩ := hSw; go_simp; try with_reducible rfl)
          try simp only [Act.put, List.setIfInBounds_toArray, List.set_cons_zero, List.set_cons_succ]
          refine wpAnyH_take (i := 18) (v := ?_) (by simp only [List.getElem?_toArray, List.getElem?_cons_zero, List.getElem?_cons_succ]; rfl) (by kernel_rfl) (by kernel_rfl) (by kernel_rfl) (fun _ _ _ h => h) (Or.inl ⟨by rfl, ?_⟩) Hw0.out.five ?_
          case refine_2 => (intro ww hSw; obtain ⟨s1, s2, s3, s4, s5⟩ := hSw; go_simp; try with_reducible rfl)
          try simp only [Act.put, List.setIfInBounds_toArray, List.set_cons_zero, List.set_cons_succ]
          refine wpAnyH_take (i := 19) (v := ?_) (by simp only [List.getElem?_toArray, List.getElem?_cons_zero, List.getElem?_cons_succ]; rfl) (by kernel_rfl) (by kernel_rfl) (by kernel_rfl) (fun _ _ _ h => h) (Or.inl ⟨by rfl, ?_⟩) Hw0.out.five ?_
          case refine_2 => (intro ww hSw; obtain ⟨s1, s2, s3, s4, s5⟩ := hSw; go_simp; try with_reducible rfl)
          try simp only [Act.put, List.setIfInBounds_toArray, List.set_cons_zero, List.set_cons_succ]
          refine wpAnyH_take (i := 20) (v := ?_) (by simp only [List.getElem?_toArray, List.getElem?_cons_zero, List.getElem?_cons_succ]; rfl) (by kernel_rfl) (by kernel_rfl) (by kernel_rfl) (fun _ _ _ h => h) (Or.inl ⟨by rfl, ?_⟩) Hw0.out.five ?_
          case refine_2 => (intro ww hSw; obtain ⟨s1, s2, s3, s4, s5⟩ := hSw; go_simp; try with_reducible rfl)
          try simp only [Act.put, List.setIfInBounds_toArray, List.set_cons_zero, List.set_cons_succ]
          refine wpAnyH_take (i := 21) (v := ?_) (by simp only [List.getElem?_toArray, List.getElem?_cons_zero, List.getElem?_cons_succ]; rfl) (by kernel_rfl) (by kernel_rfl) (by kernel_rfl) (fun _ _ _ h => h) (Or.inl ⟨by rfl, ?_⟩) Hw0.out.five ?_
          case refine_2 => (intro ww hSw; obtain ⟨s1, s2, s3, s4, s5⟩ := hSw; go_simp; try with_reducible rfl)
          try simp only [Act.put, List.setIfInBounds_toArray, List.set_cons_zero, List.set_cons_succ]
          refine wpAnyH_take (i := 22) (v := ?_) (by simp only [List.getElem?_toArray, List.getElem?_cons_zero, List.getElem?_cons_succ]; rfl) (by kernel_rfl) (by kernel_rfl) (by kernel_rfl) (fun _ _ _ h => h) (Or.inl ⟨by rfl, ?_⟩) Hw0.out.five ?_
          case refine_2 => (intro ww hSw; obtain ⟨s1, s2, s3, s4, s5⟩ := hSw; go_simp; try with_reducible rfl)
          try simp only [Act.put, List.setIfInBounds_toArray, List.set_cons_zero, List.set_cons_succ]
          refine wpAnyH_take (i := 25) (v := ?_) (by simp only [List.getElem?_toArray, List.getElem?_cons_zero, List.getElem?_cons_succ]; rfl) (by kernel_rfl) (by kernel_rfl) (by kernel_rfl) (fun _ _ _ h => h) (Or.inl ⟨by rfl, ?_⟩) Hw0.out.five ?_
          case refine_2 => (intro ww hSw; obtain ⟨s1, s2, s3, s4, s5⟩ := hSw; go_simp; try with_reducible rfl)
          try simp only [Act.put, List.setIfInBounds_toArray, List.set_cons_zero, List.set_cons_succ]
          refine wpAnyH_take (i := 26) (v := ?_) (by simp only [List.getElem?_toArray, List.getElem?_cons_zero, List.getElem?_cons_succ]; rfl) (by kernel_rfl) (by kernel_rfl) (by kernel_rfl) (fun _ _ _ h => h) (Or.inl ⟨by rfl, ?_⟩) Hw0.out.five ?_
          case refine_2 => (intro ww hSw; obtain ⟨s1, s2, s3, s4, s5⟩ := hSw; go_simp; try with_reducible rfl)
          try simp only [Act.put, List.setIfInBounds_toArray, List.set_cons_zero, List.set_cons_succ]
          refine wpAnyH_take (i := 27) (v := ?_) (by simp only [List.getElem?_toArray, List.getElem?_cons_zero, List.getElem?_cons_succ]; rfl) (by kernel_rfl) (by kernel_rfl) (by kernel_rfl) (fun _ _ _ h => h) (Or.inl ⟨by rfl, ?_⟩) Hw0.out.five ?_
          case refine_2 => (intro ww hSw; obtain ⟨s1, s2, s3, s4, s5⟩ := hSw; go_simp; try with_reducible rfl)
          try simp only [Act.put, List.setIfInBounds_toArray, List.set_cons_zero, List.set_cons_succ]
          refine wpAnyH_ready (rs := [23]) (by kernel_rfl) (by simp) ?_
          refine AllReadyH.cons (by simp only [List.getElem?_toArray, List.getElem?_cons_zero, List.getElem?_cons_succ]; rfl) (fun K' hK => ?_) AllReadyH.nil
          go_simp
          have hent1 := rEntry_any L p.1 _ _ (HL.out.carry (HLOW0.out _ _ _ Hw0.out.st) (Nat.le_trans hbase Hw0.out.st.gr.size)) (by omega)
          refine hent1.mono ?_
          rintro e w1 ⟨rfl, hbw1⟩
          rw [hre]
          have Hw1 := Lib.hid (Hw0.out.carry hbw1)
          clear hbw1 hent1
          refine hK.out _ _ Hw1.out.five (fun _ => ?_)
          clear hK
          try simp only [Act.put, List.setIfInBounds_toArray, List.set_cons_zero, List.set_cons_succ]
          refine wpAnyH_take (i := 24) (v := ?_) (by simp only [List.getElem?_toArray, List.getElem?_cons_zero, List.getElem?_cons_succ]; rfl) (by kernel_rfl) (by kernel_rfl) (by kernel_rfl) (fun _ _ _ h => h) (Or.inl ⟨by rfl, ?_⟩) Hw1.out.five ?_
          case refine_2 => (intro ww hSw; obtain ⟨s1, s2, s3, s4, s5⟩ := hSw; go_simp; try with_reducible rfl)
          try simp only [Act.put, List.setIfInBounds_toArray, List.set_cons_zero, List.set_cons_succ]
          refine wpAnyH_ready (rs := [28]) (by kernel_rfl) (by simp) ?_
          refine AllReadyH.cons (by simp only [List.getElem?_toArray, List.getElem?_cons_zero, List.getElem?_cons_succ]; rfl) (fun K' hK => ?_) AllReadyH.nil
          go_simp
          have hent2 := rEntry_any L t.nm.data.toList _ _ (HL.out.carry (HLOW0.out _ _ _ Hw1.out.st) (Nat.le_trans hbase Hw1.out.st.gr.size)) (by omega)
          rw [kb_key] at hent2
          refine hent2.mono ?_
          rintro e w2 ⟨rfl, hbw2⟩
          rw [hre]
          have Hw2 := Lib.hid (Hw1.out.carry hbw2)
          clear hbw2 hent2
          refine hK.out _ _ Hw2.out.five (fun _ => ?_)
          clear hK
          try simp only [Act.put, List.setIfInBounds_toArray, List.set_cons_zero, List.set_cons_succ]
          refine wpAnyH_take (i := 29) (v := ?_) (by simp only [List.getElem?_toArray, List.getElem?_cons_zero, List.getElem?_cons_succ]; rfl) (by kernel_rfl) (by kernel_rfl) (by kernel_rfl) (fun _ _ _ h => h) (Or.inl ⟨by rfl, ?_⟩) Hw2.out.five ?_
          case refine_2 => (intro ww hSw; obtain ⟨s1, s2, s3, s4, s5⟩ := hSw; go_simp; try with_reducible rfl)
          try simp only [Act.put, List.setIfInBounds_toArray, List.set_cons_zero, List.set_cons_succ]
          refine wpAnyH_take (i := 30) (v := ?_) (by simp only [List.getElem?_toArray, List.getElem?_cons_zero, List.getElem?_cons_succ]; rfl) (by kernel_rfl) (by kernel_rfl) (by kernel_rfl) (fun _ _ _ h => h) (Or.inl ⟨by rfl, ?_⟩) Hw2.out.five ?_
          case refine_2 => (intro ww hSw; obtain ⟨s1, s2, s3, s4, s5⟩ := hSw; go_simp; try with_reducible rfl)
          try simp only [Act.put, List.setIfInBounds_toArray, List.set_cons_zero, List.set_cons_succ]
          refine wpAnyH_take (i := 31) (v := ?_) (by simp only [List.getElem?_toArray, List.getElem?_cons_zero, List.getElem?_cons_succ]; rfl) (by kernel_rfl) (by kernel_rfl) (by kernel_rfl) (fun _ _ _ h => h) (Or.inl ⟨by rfl, ?_⟩) Hw2.out.five ?_
          case refine_2 => (intro ww hSw; obtain ⟨s1, s2, s3, s4, s5⟩ := hSw; go_simp; try with_reducible rfl)
          try simp only [Act.put, List.setIfInBounds_toArray, List.set_cons_zero, List.set_cons_succ]
          refine wpAnyH_take (i := 32) (v := ?_) (by simp only [List.getElem?_toArray, List.getElem?_cons_zero, List.getElem?_cons_succ]; rfl) (by kernel_rfl) (by kernel_rfl) (by kernel_rfl) (fun _ _ _ h => h) (Or.inl ⟨by rfl, ?_⟩) Hw2.out.five ?_
          case refine_2 => (intro ww hSw; obtain ⟨s1, s2, s3, s4, s5⟩ := hSw; go_simp; try with_reducible rfl)
          try simp only [Act.put, List.setIfInBounds_toArray, List.set_cons_zero, List.set_cons_succ]
          refine wpAnyH_done (by kernel_rfl) ?_ _
          refine NoPanic.normal ?_
          obtain ⟨y0, y1, y2, y3, y4⟩ := Hw2.out.five
          cases r
          · have hne : rkOf L p.1 ≠ rkOf L t.nm.data.toList := by rw [beq_eq_false_iff_ne] at hr; exact hr
            have HF2 := Lib.hid (HF.out.no HP.out HN.out)
            have HT2 := Lib.hid (HT.out.step HP.out ⟨fun h => absurd h HN.out, fun _ => hne⟩)
            clear hne
            cases fb
            · go_wp2_with fail
              exact ⟨⟨k + 1, false, by omega, rfl, by go_num, HF2, HT2, Lib.hid Hw2.out.st⟩, by simp [intOf]; omega⟩
            · go_wp2_with fail
              exact ⟨⟨k + 1, true, by omega, rfl, by go_num, HF2, HT2, Lib.hid Hw2.out.st⟩, by simp [intOf]; omega⟩
          · go_wp2_with fail
            go_ret2
            exact ⟨_, false, rfl, Hw2.out.st.gr, nofun⟩
      · obtain rfl : k = ms.length := by omega
        obtain ⟨⟨x0, x1, x2⟩, -⟩ := box3 HST.out.box
        cases fb with
        | true =>
          have HSTL := HST
          have HSUB : Hid (∀ p ∈ ms, p ∈ ms) := Lib.hid fun p h => h
          have HCON : Hid (Con L ms → Con L ms) := Lib.hid fun h => h
          have HIN := Lib.hid (found_in HT.out HF.out)
          have HLEN : Hid (ms.length ≤ ms.length + 1 + Tm.sizes (t.ts.take 0)) := Lib.hid (by omega)
          clear HST HF HT
          go_wp2_with fail
          go_loopw [2, 81] (fun m i wr => ∃ (k : Nat) (v2 : Value) (M : List Sy), k ≤ t.ts.length ∧ m = v2 ∧ i = .int .i64 k ∧ Hid (FxSt base w wr (.slice om ms.length cm) t (.slice oa t.ts.length ca) M v2) ∧ Hid (∀ p ∈ ms, p ∈ M) ∧ Hid (Con L ms → Con L M) ∧ Hid ((t.nm.data.toList, (t.ts.length : Int)) ∈ M) ∧ Hid (∀ u ∈ t.ts.take k, u.sym (inS M)) ∧ Hid (M.length ≤ ms.length + 1 + Tm.sizes (t.ts.take k))) (fun _ i _ => t.ts.length - (intOf i).toNat)
          case atStart => exact ⟨0, _, _, by omega, rfl, rfl, HSTL, HSUB, HCON, HIN, Lib.hid (by simp), HLEN⟩
          case round =>
            obtain ⟨k, v2, M, hk, rfl, rfl, HST, HSUB, HCON, HIN, HSY, HLEN⟩ := hrel
            by_cases hlt : k < t.ts.length
            · obtain ⟨b, o, u, su, rfl, hbb, hu, hum, hus, c1, c2, c3⟩ := (HS.out.carry (HLOW0.out _ _ _ HST.out) (Nat.le_refl _)).get (k := k) hlt
              obtain ⟨ou, cu, rfl, -⟩ := hus.form
              obtain ⟨ov, cv, rfl⟩ := ownsRow_shape HST.out.row
              have hub : u.bulk ≤ 1048576 := by have := Tm.bulk_mem hum; have := Tm.bulk_eq t; have := HB.out; omega
              have HU := Lib.hid hu
              have hsz : Tm.sizes (t.ts.take (k + 1)) = Tm.sizes (t.ts.take k) + u.size := by rw [Tm.take_snoc hu, Tm.sizes_append]; simp [Tm.sizes]
              have hle : Tm.sizes (t.ts.take (k + 1)) ≤ Tm.sizes t.ts := Tm.sizes_take _ _
              have HX := Lib.hid (HST.out.below ((Below.refl wr.heap.size wr).alloc (Nat.le_refl _) (.cells #[.string u.nm, .bool u.vr, .slice ou u.ts.length cu] 34)))
              have hlo := HLOW0.out _ _ _ HX.out
              have HC := Lib.hid (IH.out u hum (.slice ou u.ts.length cu) (.slice ov M.length cv) M _ (Nat.le_trans hbase HX.out.gr.size) (HL.out.carry hlo (Nat.le_refl _)) (hus.carry (((Below.refl wr.heap.size wr).alloc (Nat.le_refl _) _).mono (Nat.le_trans hbase HST.out.gr.size)) (Nat.le_refl _)) hub HX.out.row (by have := HLEN.out; have := HMS.out; omega))
              have HSZ := Lib.hid hsz
              clear hu hum hus hsz hle hlo
              go_wp2_with fail
              refine HC.out.mono ?_
              rintro e w4 ⟨v', b4, rfl, hg4, hpost⟩
              cases b4 with
              | false =>
                have HG := Lib.hid (grown_step HX.out.gr hg4 fun i hi hne e => by
                  rcases HX.out.own with e2 | ⟨j, e2, hj⟩
                  · exact hne (e.trans e2)
                  · rw [e2] at e; cases e; omega)
                clear hpost hg4
                go_wp2_with fail
                go_ret2
                exact ⟨_, false, rfl, HG.out, nofun⟩
              | true =>
                obtain ⟨M2, ho2, hat2, hs2, hc2, hy2, hl2⟩ := hpost rfl
                have HST2 := Lib.hid (HX.out.grow (fun j hj => (HMLT.out j hj).2) hg4 ho2 hat2)
                have HSUB2 : Hid (∀ p ∈ ms, p ∈ M2) := Lib.hid fun p hp => hs2 p (HSUB.out p hp)
                have HCON2 : Hid (Con L ms → Con L M2) := Lib.hid fun h => hc2 (HCON.out h)
                have HIN2 := Lib.hid (hs2 _ HIN.out)
                have HSY2 := Lib.hid (syms_snoc HU.out (fun x hx => (HSY.out x hx).mono fun f n h => hs2 _ h) hy2)
                have HLEN2 : Hid (M2.length ≤ ms.length + 1 + Tm.sizes (t.ts.take (k + 1))) := Lib.hid (by have := HLEN.out; have := HSZ.out; omega)
                clear hpost hg4 ho2 hat2 hs2 hc2 hy2 hl2
                go_wp2_with fail
                exact ⟨⟨k + 1, _, M2, by omega, rfl, by go_num, HST2, HSUB2, HCON2, HIN2, HSY2, HLEN2⟩, by simp [intOf]; omega⟩
            · obtain rfl : k = t.ts.length := by omega
              have HSYM : Hid (t.sym (inS M)) := Lib.hid (.mk t HV.out HIN.out fun u hu => HSY.out u (by rw [List.take_length]; exact hu))
              have HLE : Hid (M.length ≤ ms.length + t.size) := Lib.hid (by have := HLEN.out; rw [List.take_length] at this; omega)
              go_wp2_with fail
              go_ret2
              exact ⟨_, true, rfl, HST.out.gr, fun _ => ⟨M, HST.out.row, HST.out.own.imp id (fun ⟨j, h1, h2⟩ => ⟨j, h1, by omega⟩), HSUB.out, HCON.out, HSYM.out, HLE.out⟩⟩
        | false =>
          have HSUB : Hid (∀ p ∈ ms, p ∈ ms ++ [(t.nm.data.toList, (t.ts.length : Int))]) := Lib.hid fun p h => List.mem_append.2 (.inl h)
          have HCON : Hid (Con L ms → Con L (ms ++ [(t.nm.data.toList, (t.ts.length : Int))])) := Lib.hid fun h => con_new h HT.out HF.out
          have HIN : Hid ((t.nm.data.toList, (t.ts.length : Int)) ∈ ms ++ [(t.nm.data.toList, (t.ts.length : Int))]) := Lib.hid (List.mem_append.2 (.inr (List.mem_singleton.2 rfl)))
          have HLEN : Hid ((ms ++ [(t.nm.data.toList, (t.ts.length : Int))]).length ≤ ms.length + 1 + Tm.sizes (t.ts.take 0)) := Lib.hid (by simp)
          clear HF HT
          go_wp2_with ((first
            | (at_builtin
               refine wpList_append_own_at _ rfl _ _ 63 rfl base 92 i0 (.agg #[.string ⟨#[]⟩, .int .i64 0]) 2 24 Try.underlying63 HI.out HZ.out HS1.out HB1.out rfl (by decide) (.slice om ms.length cm) ms.length (syCells ms) rfl (HST.out.row.alloc _) ⟨wr.heap.size, 0, none⟩ 1 1 [.string t.nm, .int .i64 t.ts.length] rfl rfl (cells_new2 _ _ _ _) (by simp [Value.oneCell']) (by unfold maxLen; omega) (by omega) (by have := HST.out.gr.size; simp; omega) ?_
               intro v2 w2 hown2 hgr2 _ hat2
               obtain ⟨va, vc, rfl⟩ := ownsRow_shape hown2
               have hst2 : FxSt base w w2 (.slice om ms.length cm) t (.slice oa t.ts.length ca) (ms ++ [(t.nm.data.toList, (t.ts.length : Int))]) (.slice va (ms.length + 1) vc) := (HST.out.below ((Below.refl wr.heap.size wr).alloc (Nat.le_refl _) (.cells #[.string t.nm, .int .i64 t.ts.length] 92))).grow (fun j hj => (HMLT.out j hj).2) hgr2 (by rw [List.length_append, syCells_append, show syCells [(t.nm.data.toList, (t.ts.length : Int))] = [.string t.nm, .int .i64 t.ts.length] by simp [syCells, kb_key]]; exact hown2) (hat2.imp id fun h => ⟨_, h, by simp⟩)
               obtain ⟨⟨x0, x1, x2⟩, -⟩ := box3 hst2.box
               have HSTL := Lib.hid hst2
               clear hown2 hgr2 hat2 hst2)))
          go_loopw [2, 81] (fun m i wr => ∃ (k : Nat) (v2 : Value) (M : List Sy), k ≤ t.ts.length ∧ m = v2 ∧ i = .int .i64 k ∧ Hid (FxSt base w wr (.slice om ms.length cm) t (.slice oa t.ts.length ca) M v2) ∧ Hid (∀ p ∈ ms, p ∈ M) ∧ Hid (Con L ms → Con L M) ∧ Hid ((t.nm.data.toList, (t.ts.length : Int)) ∈ M) ∧ Hid (∀ u ∈ t.ts.take k, u.sym (inS M)) ∧ Hid (M.length ≤ ms.length + 1 + Tm.sizes (t.ts.take k))) (fun _ i _ => t.ts.length - (intOf i).toNat)
          case atStart => exact ⟨0, _, _, by omega, rfl, rfl, HSTL, HSUB, HCON, HIN, Lib.hid (by simp), HLEN⟩
          case round =>
            obtain ⟨k, v2, M, hk, rfl, rfl, HST, HSUB, HCON, HIN, HSY, HLEN⟩ := hrel
            by_cases hlt : k < t.ts.length
            · obtain ⟨b, o, u, su, rfl, hbb, hu, hum, hus, c1, c2, c3⟩ := (HS.out.carry (HLOW0.out _ _ _ HST.out) (Nat.le_refl _)).get (k := k) hlt
              obtain ⟨ou, cu, rfl, -⟩ := hus.form
              obtain ⟨ov, cv, rfl⟩ := ownsRow_shape HST.out.row
              have hub : u.bulk ≤ 1048576 := by have := Tm.bulk_mem hum; have := Tm.bulk_eq t; have := HB.out; omega
              have HU := Lib.hid hu
              have hsz : Tm.sizes (t.ts.take (k + 1)) = Tm.sizes (t.ts.take k) + u.size := by rw [Tm.take_snoc hu, Tm.sizes_append]; simp [Tm.sizes]
              have hle : Tm.sizes (t.ts.take (k + 1)) ≤ Tm.sizes t.ts := Tm.sizes_take _ _
              have HX := Lib.hid (HST.out.below ((Below.refl wr.heap.size wr).alloc (Nat.le_refl _) (.cells #[.string u.nm, .bool u.vr, .slice ou u.ts.length cu] 34)))
              have hlo := HLOW0.out _ _ _ HX.out
              have HC := Lib.hid (IH.out u hum (.slice ou u.ts.length cu) (.slice ov M.length cv) M _ (Nat.le_trans hbase HX.out.gr.size) (HL.out.carry hlo (Nat.le_refl _)) (hus.carry (((Below.refl wr.heap.size wr).alloc (Nat.le_refl _) _).mono (Nat.le_trans hbase HST.out.gr.size)) (Nat.le_refl _)) hub HX.out.row (by have := HLEN.out; have := HMS.out; omega))
              have HSZ := Lib.hid hsz
              clear hu hum hus hsz hle hlo
              go_wp2_with fail
              refine HC.out.mono ?_
              rintro e w4 ⟨v', b4, rfl, hg4, hpost⟩
              cases b4 with
              | false =>
                have HG := Lib.hid (grown_step HX.out.gr hg4 fun i hi hne e => by
                  rcases HX.out.own with e2 | ⟨j, e2, hj⟩
                  · exact hne (e.trans e2)
                  · rw [e2] at e; cases e; omega)
                clear hpost hg4
                go_wp2_with fail
                go_ret2
                exact ⟨_, false, rfl, HG.out, nofun⟩
              | true =>
                obtain ⟨M2, ho2, hat2, hs2, hc2, hy2, hl2⟩ := hpost rfl
                have HST2 := Lib.hid (HX.out.grow (fun j hj => (HMLT.out j hj).2) hg4 ho2 hat2)
                have HSUB2 : Hid (∀ p ∈ ms, p ∈ M2) := Lib.hid fun p hp => hs2 p (HSUB.out p hp)
                have HCON2 : Hid (Con L ms → Con L M2) := Lib.hid fun h => hc2 (HCON.out h)
                have HIN2 := Lib.hid (hs2 _ HIN.out)
                have HSY2 := Lib.hid (syms_snoc HU.out (fun x hx => (HSY.out x hx).mono fun f n h => hs2 _ h) hy2)
                have HLEN2 : Hid (M2.length ≤ ms.length + 1 + Tm.sizes (t.ts.take (k + 1))) := Lib.hid (by have := HLEN.out; have := HSZ.out; omega)
                clear hpost hg4 ho2 hat2 hs2 hc2 hy2 hl2
                go_wp2_with fail
                exact ⟨⟨k + 1, _, M2, by omega, rfl, by go_num, HST2, HSUB2, HCON2, HIN2, HSY2, HLEN2⟩, by simp [intOf]; omega⟩
            · obtain rfl : k = t.ts.length := by omega
              have HSYM : Hid (t.sym (inS M)) := Lib.hid (.mk t HV.out HIN.out fun u hu => HSY.out u (by rw [List.take_length]; exact hu))
              have HLE : Hid (M.length ≤ ms.length + t.size) := Lib.hid (by have := HLEN.out; rw [List.take_length] at this; omega)
              go_wp2_with fail
              go_ret2
              exact ⟨_, true, rfl, HST.out.gr, fun _ => ⟨M, HST.out.row, HST.out.own.imp id (fun ⟨j, h1, h2⟩ => ⟨j, h1, by omega⟩), HSUB.out, HCON.out, HSYM.out, HLE.out⟩⟩
end Go.Proofs.Ytdnkommcnkbeeaa
