/- Packed: Rnp. -/
import Derived.WalkKit
import Derived.ProofKit
import Derived.OpenShut
import Derived.Handy
import Derived.Lib.Hide
import Derived.Test.YtnomppdmhgefiaaGreatE07
import Derived.Deep.RegionHeld3
import Derived.Test.YtnomppdmhgefiaaGreatE06
/- Merged: Ren, App, App2, Rnp. -/
/- The reference's Renaming. -/
namespace Go.Proofs.YtnomppdmhgefiaaGreat
open Go.RowKit

theorem infoBind : (Tryz.prog.info? 105).map (fun i => (i.zero, i.size, i.bytes)) = some (some (.agg #[.string ⟨#[]⟩, .string ⟨#[]⟩, .bool false, .slice none 0 0]), 4, 64) := by kernel_rfl
/-- the cells of bindings to bare terms -/
def bcells (bl : List Bd) : List Value := bl.flatMap fun p => [.string (kb p.1), .string p.2.nm, .bool p.2.vr, .slice none 0 0]
theorem bcells_at (bl : List Bd) (i : Nat) (p : Bd) (h : bl[i]? = some p) :
    (bcells bl)[i * 4]? = some (.string (kb p.1)) ∧ (bcells bl)[i * 4 + 1]? = some (.string p.2.nm) ∧ (bcells bl)[i * 4 + 2]? = some (.bool p.2.vr) ∧ (bcells bl)[i * 4 + 3]? = some (.slice none 0 0) := by
  induction bl generalizing i with
  | nil => simp at h
  | cons q bl ih =>
    cases i with
    | zero => simp at h; subst h; simp [bcells]
    | succ i =>
      obtain ⟨h1, h2, h3, h4⟩ := ih i (by simpa using h)
      have e : ∀ r, (i + 1) * 4 + r = i * 4 + r + 4 := fun r => by omega
      refine ⟨?_, ?_, ?_, ?_⟩
      · have := e 0; simp only [Nat.add_zero] at this; rw [this]; simpa [bcells] using h1
      · rw [e 1]; simpa [bcells] using h2
      · rw [e 2]; simpa [bcells] using h3
      · rw [e 3]; simpa [bcells] using h4
theorem BindsIs.ofRow {W : World} {m : Nat} {e : TypeId} {v : Value} {bl : List Bd} (h : W.ownsRow m e 4 v bl.length (bcells bl)) (hb : ∀ p ∈ bl, p.2.ts = []) : BindsIs W.heap.size W bl v := by
  have h0 := h
  rcases h.2 with ⟨rfl, hl⟩ | ⟨g, cap, cur, rfl, hbg, hg, hle, _⟩
  · exact ⟨none, 0, by rw [hl], by omega, fun hne => absurd (List.length_eq_zero_iff.1 hl) hne⟩
  · refine ⟨_, cap, rfl, hle, fun _ => ⟨g, 0, rfl, (Array.getElem?_eq_some_iff.1 hg).1, fun i p hp => ?_⟩⟩
    obtain ⟨h1, h2, h3, h4⟩ := bcells_at bl i p hp
    have key : ∀ j u, (bcells bl)[j]? = some u → W.cell? ⟨g, 0 + j, none⟩ = some u := fun j u hj => by
      have := h0.cells (g := g) rfl j u hj
      rwa [ad_add] at this
    exact ⟨.slice none 0 0, key _ _ h1, by rw [Nat.add_assoc]; exact key _ _ h2, by rw [Nat.add_assoc]; exact key _ _ h3, by rw [Nat.add_assoc]; exact key _ _ h4, by rw [hb p (List.mem_of_getElem? hp)]; exact .nil0⟩
theorem cells_new (W : World) (a b c d : Value) (e : TypeId) : ∀ j u, [a, b, c, d][j]? = some u → (W.alloc (.cells #[a, b, c, d] e)).cell? ((⟨W.heap.size, 0, none⟩ : Addr).add j) = some u := by
  intro j u hj
  rw [ad_add, Nat.zero_add]
  have h := cells_of' (heap_new_at W (.cells #[a, b, c, d] e) W.heap.size rfl) j
  rw [h, ← Array.getElem?_toList]
  exact hj

theorem own_none (v : Value) : v.ownBlock = none ∨ v.ownBlock ≠ none := by cases v.ownBlock <;> simp
theorem ownsRow_shape {W : World} {m n size : Nat} {e : TypeId} {v : Value} {xs : List Value} (h : W.ownsRow m e size v n xs) : ∃ oa cap, v = .slice oa n cap := by
  rcases h.2 with ⟨rfl, rfl⟩ | ⟨g, cap, cur, rfl, _⟩
  · exact ⟨_, _, rfl⟩
  · exact ⟨_, _, rfl⟩
/-- what has been collected -/
structure RenSt (l r : List Key) (j i : Nat) (x : Key) (bl : List Bd) : Prop where
  say : ∀ p ∈ bl, ∃ m, l[m]? = some p.1 ∧ p.2 = .mk (xname digN m) true []
  all : ∀ k ∈ r.take j, k ∈ l → ∃ p ∈ bl, p.1 = k
  cur : x ∈ l.take i → ∃ p ∈ bl, p.1 = x
  len : bl.length ≤ j * l.length + i
theorem RenSt.skip {l r : List Key} {j i : Nat} {x y : Key} {bl : List Bd} (h : RenSt l r j i x bl) (hy : l[i]? = some y) (hne : y ≠ x) : RenSt l r j (i + 1) x bl := by
  refine ⟨h.say, h.all, fun hx => ?_, by have := h.len; omega⟩
  rw [List.take_add_one, hy] at hx
  simp only [Option.toList_some, List.mem_append, List.mem_singleton] at hx
  rcases hx with hx | hx
  · exact h.cur hx
  · exact absurd hx.symm hne
theorem RenSt.take {l r : List Key} {j i : Nat} {x : Key} {bl : List Bd} (h : RenSt l r j i x bl) (hy : l[i]? = some x) : RenSt l r j (i + 1) x (bl ++ [(x, .mk (xname digN i) true [])]) := by
  refine ⟨fun p hp => ?_, fun k hk hkl => ?_, fun _ => ⟨_, List.mem_append_right _ (List.mem_singleton.2 rfl), rfl⟩, by have := h.len; simp; omega⟩
  · rcases List.mem_append.1 hp with hp | hp
    · exact h.say p hp
    · obtain rfl := List.mem_singleton.1 hp
      exact ⟨i, hy, rfl⟩
  · obtain ⟨p, hp, e⟩ := h.all k hk hkl
    exact ⟨p, List.mem_append_left _ hp, e⟩
theorem RenSt.next {l r : List Key} {j : Nat} {x : Key} {bl : List Bd} (h : RenSt l r j l.length x bl) (hx : r[j]? = some x) (y : Key) : RenSt l r (j + 1) 0 y bl := by
  refine ⟨h.say, fun k hk hkl => ?_, fun h0 => by simp at h0, by have := h.len; rw [Nat.succ_mul]; omega⟩
  rw [List.take_add_one, hx] at hk
  simp only [Option.toList_some, List.mem_append, List.mem_singleton] at hk
  rcases hk with hk | rfl
  · exact h.all k hk hkl
  · exact h.cur (by rw [List.take_length]; exact hkl)
theorem RenSt.bare {l r : List Key} {j i : Nat} {x : Key} {bl : List Bd} (h : RenSt l r j i x bl) : ∀ p ∈ bl, p.2.ts = [] := fun p hp => by
  obtain ⟨m, _, e⟩ := h.say p hp
  rw [e]; rfl

end Go.Proofs.YtnomppdmhgefiaaGreat
/- The reference's Apply. -/
namespace Go.Proofs.YtnomppdmhgefiaaGreat
open Go.RowKit

/-- The slice value s holds the terms l, in blocks of which p holds. -/
inductive SlP (p : Nat → Prop) (W : World) : List Tm → Value → Prop
  | nil0 : SlP p W [] (.slice none 0 0)
  | nil1 (a : Addr) (cap : Nat) : SlP p W [] (.slice (some a) 0 cap)
  | row (b o cap : Nat) (l : List Tm) (s : Nat → Value) : l ≠ [] → p b → l.length ≤ cap →
      (∀ i t, l[i]? = some t → W.cell? ⟨b, o + i * 3, none⟩ = some (.string t.nm) ∧ W.cell? ⟨b, o + i * 3 + 1, none⟩ = some (.bool t.vr) ∧ W.cell? ⟨b, o + i * 3 + 2, none⟩ = some (s i)) →
      (∀ i t, l[i]? = some t → SlP p W t.ts (s i)) → (∀ i, i < l.length * 3 → W.frozen? ⟨b, o + i, none⟩ = false) → SlP p W l (.slice (some ⟨b, o, none⟩) l.length cap)
theorem frozen_same {A B : World} {b : Nat} (h : B.heap[b]? = A.heap[b]?) (j : Nat) : B.frozen? ⟨b, j, none⟩ = A.frozen? ⟨b, j, none⟩ := by unfold World.frozen?; simp only [h]
theorem SlP.carry {p q : Nat → Prop} {A B : World} (h : ∀ b, p b → B.heap[b]? = A.heap[b]? ∧ q b) {l : List Tm} {s : Value} (hs : SlP p A l s) : SlP q B l s := by
  induction hs with
  | nil0 => exact .nil0
  | nil1 a cap => exact .nil1 a cap
  | row b o cap l s hl hb hc cells _ hf ih =>
    obtain ⟨e, hq⟩ := h b hb
    refine .row b o cap l s hl hq hc (fun i t ht => ?_) ih (fun i hi => (frozen_same e _).trans (hf i hi))
    obtain ⟨h1, h2, h3⟩ := cells i t ht
    exact ⟨(World.cell?_of_block (a := ⟨b, _, none⟩) e).trans h1, (World.cell?_of_block (a := ⟨b, _, none⟩) e).trans h2, (World.cell?_of_block (a := ⟨b, _, none⟩) e).trans h3⟩
theorem SlIs.toP {n : Nat} {W : World} {l : List Tm} {s : Value} (h : SlIs n W l s) : SlP (· < n) W l s := by
  induction h with
  | nil0 => exact .nil0
  | nil1 a cap => exact .nil1 a cap
  | row b o cap l s hl hb hc cells _ hf ih => exact .row b o cap l s hl hb hc cells ih hf
theorem SlP.toIs {p : Nat → Prop} {n : Nat} {W : World} {l : List Tm} {s : Value} (h : SlP p W l s) (hp : ∀ b, p b → b < n) : SlIs n W l s := by
  induction h with
  | nil0 => exact .nil0
  | nil1 a cap => exact .nil1 a cap
  | row b o cap l s hl hb hc cells _ hf ih => exact .row b o cap l s hl (hp b hb) hc cells ih hf
theorem SlP.form {p : Nat → Prop} {W : World} {l : List Tm} {s : Value} (h : SlP p W l s) : ∃ oa cap, s = .slice oa l.length cap := by
  cases h with
  | nil0 => exact ⟨_, _, rfl⟩
  | nil1 a cap => exact ⟨_, _, rfl⟩
  | row => exact ⟨_, _, rfl⟩
theorem SlP.lt {p : Nat → Prop} {W : World} {l : List Tm} {s : Value} (h : SlP p W l s) : SlP (fun b => p b ∧ b < W.heap.size) W l s := by
  induction h with
  | nil0 => exact .nil0
  | nil1 a cap => exact .nil1 a cap
  | row b o cap l s hl hb hc cells _ hf ih =>
    refine .row b o cap l s hl ⟨hb, ?_⟩ hc cells ih hf
    obtain ⟨t, r, rfl⟩ : ∃ t r, l = t :: r := by
      cases l with
      | nil => exact absurd rfl hl
      | cons t r => exact ⟨t, r, rfl⟩
    exact World.block_lt_of_cell? W _ (cells 0 t rfl).1

/-- bindings applied to a term -/
def apImg (bl : List Bd) : Unit → ByteArray → Tm × Unit := fun _ nm => (imageOf bl nm.data.toList, ())
def apB (bl : List Bd) (t : Tm) : Tm := (t.rep (apImg bl) ()).1
theorem apB_var (bl : List Bd) {t : Tm} (h : t.vr = true) : apB bl t = imageOf bl t.nm.data.toList := by rw [apB, Tm.rep_var _ _ _ h]; rfl
theorem apB_fun (bl : List Bd) {t : Tm} (h : t.vr = false) : apB bl t = .mk t.nm false (t.ts.map (apB bl)) := by
  rw [apB, Tm.rep_fun _ _ _ h]
  have : ∀ l : List Tm, (Tm.reps (apImg bl) () l).1 = l.map (apB bl) := by
    intro l
    induction l with
    | nil => rfl
    | cons x l ih => simp only [Tm.reps, List.map_cons]; rw [show (Tm.rep (apImg bl) () x).2 = () from rfl, ih]; rfl
  rw [this]

/-- k arguments being done -/
structure ApSt (n₀ : Nat) (w : World) (bl : List Bd) (nm : ByteArray) (l : List Tm) (k : Nat) (W : World) (v : Value) (ch : List (Tm × Value)) : Prop where
  terms : ch.map (·.1) = (l.take k).map (apB bl)
  row : W.ownsRow (w.heap.size + 3) 25 3 v ch.length (stCells ch)
  kids : ∀ c ∈ ch, SlP (fun b => (b < n₀ ∨ w.heap.size + 3 ≤ b) ∧ b < W.heap.size ∧ some b ≠ v.ownBlock) W c.1.ts c.2
  low : Below w.heap.size w W
  out : W.heap[w.heap.size + 2]? = some (.cells #[.string nm, .bool false, v] 25 (0, 0))
  ret : W.heap[w.heap.size + 1]? = some (.cells #[.string ⟨#[]⟩, .bool false, .slice none 0 0] 25 (0, 0))

theorem stCells_at (st : List (Tm × Value)) (i : Nat) (c : Tm × Value) (h : st[i]? = some c) :
    (stCells st)[i * 3]? = some (.string c.1.nm) ∧ (stCells st)[i * 3 + 1]? = some (.bool c.1.vr) ∧ (stCells st)[i * 3 + 2]? = some c.2 := by
  induction st generalizing i with
  | nil => simp at h
  | cons p ch ih =>
    cases i with
    | zero => simp at h; subst h; simp [stCells]
    | succ i =>
      obtain ⟨h1, h2, h3⟩ := ih i (by simpa using h)
      have e : ∀ r, (i + 1) * 3 + r = i * 3 + r + 3 := fun r => by omega
      refine ⟨?_, ?_, ?_⟩
      · have := e 0; simp only [Nat.add_zero] at this; rw [this]; simpa [stCells] using h1
      · rw [e 1]; simpa [stCells] using h2
      · rw [e 2]; simpa [stCells] using h3
/-- a row of terms that is owned, its terms' own arguments lying elsewhere -/
theorem SlP.ofRow {p : Nat → Prop} {W : World} {m : Nat} {v : Value} {ch : List (Tm × Value)} (h : W.ownsRow m 25 3 v ch.length (stCells ch)) (hp : ∀ b, m ≤ b → p b) (hk : ∀ c ∈ ch, SlP p W c.1.ts c.2) : SlP p W (ch.map (·.1)) v := by
  have h0 := h
  have hlen : (ch.map (·.1)).length = ch.length := by simp
  rcases h.2 with ⟨rfl, hl⟩ | ⟨g, cap, cur, rfl, hbg, hg, hle, _⟩
  · obtain rfl : ch = [] := List.length_eq_zero_iff.1 hl
    exact .nil0
  · by_cases hne : ch = []
    · subst hne; exact .nil1 _ _
    · have key : ∀ j u, (stCells ch)[j]? = some u → W.cell? ⟨g, 0 + j, none⟩ = some u := fun j u hj => by
        have := h0.cells (g := g) rfl j u hj
        rwa [ad_add] at this
      have hch : ∀ i t, (ch.map (·.1))[i]? = some t → ∃ c : Tm × Value, ch[i]? = some c ∧ c.1 = t := fun i t ht => by rw [List.getElem?_map, Option.map_eq_some_iff] at ht; exact ht
      have := SlP.row (p := p) (W := W) g 0 cap (ch.map (·.1)) (fun i => ((ch[i]?).map (·.2)).getD (.bool false)) (by simpa using hne) (hp g hbg) (by rw [hlen]; exact hle)
        (fun i t ht => by
          obtain ⟨c, hci, rfl⟩ := hch i t ht
          obtain ⟨h1, h2, h3⟩ := stCells_at ch i c hci
          simp only [hci, Option.map_some, Option.getD_some]
          exact ⟨key _ _ h1, by rw [Nat.add_assoc]; exact key _ _ h2, by rw [Nat.add_assoc]; exact key _ _ h3⟩)
        (fun i t ht => by
          obtain ⟨c, hci, rfl⟩ := hch i t ht
          simp only [hci, Option.map_some, Option.getD_some]
          exact hk c (List.mem_of_getElem? hci))
        (fun i _ => by unfold World.frozen?; simp [hg])
      rw [hlen] at this
      exact this

/-- one argument more -/
theorem ApSt.step {n₀ k : Nat} {w W A W4 B W5 : World} {bl : List Bd} {nm : ByteArray} {l : List Tm} {v v5 sl : Value} {ch : List (Tm × Value)} {u : Tm} (st : ApSt n₀ w bl nm l k W v ch) (hn : n₀ ≤ w.heap.size) (hu : l[k]? = some u)
    (hA : Below W.heap.size W A) (h4 : Below A.heap.size A W4) (hsl : SlP (fun b => b < n₀ ∨ A.heap.size ≤ b) W4 (apB bl u).ts sl) (hB : Below W4.heap.size W4 B) (h5 : B.grownBy W5 v.ownBlock)
    (ho : W5.ownsRow (w.heap.size + 3) 25 3 v5 (ch.length + 1) (stCells ch ++ [.string (apB bl u).nm, .bool (apB bl u).vr, sl])) (hat : v5.ownBlock = v.ownBlock ∨ v5.ownBlock = some B.heap.size) :
    ApSt n₀ w bl nm l (k + 1) (W5.setCell ⟨w.heap.size + 2, 2, none⟩ v5) v5 (ch ++ [(apB bl u, sl)]) := by
  have zA := hA.size
  have z4 := h4.size
  have zB := hB.size
  have z5 := h5.size
  have zo := (Array.getElem?_eq_some_iff.1 st.out).1
  have zs : (W5.setCell ⟨w.heap.size + 2, 2, none⟩ v5).heap.size = W5.heap.size := by simp [World.setCell]
  have own : ∀ j, v.ownBlock = some j → w.heap.size + 3 ≤ j ∧ j < W.heap.size := fun j hj => st.row.lt j hj
  have old : ∀ b, b < W.heap.size → some b ≠ v.ownBlock → b ≠ w.heap.size + 2 → (W5.setCell ⟨w.heap.size + 2, 2, none⟩ v5).heap[b]? = W.heap[b]? := fun b hb hv h2 => by
    rw [Below.heap_setCell _ _ _ _ h2]
    exact (h5.block b (by omega) hv).trans ((hB.block b (by omega)).trans ((h4.block b (by omega)).trans (hA.block b hb)))
  have hout5 : W5.heap[w.heap.size + 2]? = some (.cells #[.string nm, .bool false, v] 25 (0, 0)) :=
    (h5.block _ (by omega) (fun e => by have := (own _ e.symm).1; omega)).trans ((hB.block _ (by omega)).trans ((h4.block _ (by omega)).trans ((hA.block _ zo).trans st.out)))
  refine ⟨?_, ?_, ?_, ?_, ?_, ?_⟩
  · rw [List.map_append, st.terms, Tm.take_snoc hu, List.map_append]; rfl
  · rw [List.length_append]
    rw [stCells_append]
    have hlt : (⟨w.heap.size + 2, 2, none⟩ : Addr).block < w.heap.size + 3 := Nat.lt_succ_self _
    exact ownsRow_setCell_below ho hlt _
  · intro c hc
    rcases List.mem_append.1 hc with hc | hc
    · refine (st.kids c hc).carry fun b hb => ⟨old b hb.2.1 hb.2.2 (by omega), hb.1, by rw [zs]; omega, ?_⟩
      rcases hat with e | e
      · rw [e]; exact hb.2.2
      · rw [e]; intro h; cases h; omega
    · obtain rfl := List.mem_singleton.1 hc
      refine hsl.lt.carry fun b hb => ⟨?_, by omega, by rw [zs]; omega, ?_⟩
      · rw [Below.heap_setCell _ _ _ _ (by show b ≠ w.heap.size + 2; omega)]
        exact (h5.block b (by omega) (fun e => by have := own _ e.symm; omega)).trans (hB.block b hb.2)
      · rcases hat with e | e
        · rw [e]; intro h; have := own _ h.symm; omega
        · rw [e]; intro h; cases h; omega
  · refine (((st.low.trans (hA.mono (by omega))).trans (h4.mono (by omega))).trans (hB.mono (by omega))).grown h5 (by omega) (fun j hj => by have := own j hj; omega) |>.setCell (p := ⟨w.heap.size + 2, 2, none⟩) (by show w.heap.size ≤ w.heap.size + 2; omega) _
  · have := set1 hout5 2 v5
    simpa using this
  · exact (old _ (by omega) (fun e => by have := (own _ e.symm).1; omega) (by omega)).trans st.ret
end Go.Proofs.YtnomppdmhgefiaaGreat
/- The reference's Apply: the walk. -/
namespace Go.Proofs.YtnomppdmhgefiaaGreat
open Go.RowKit

set_option maxRecDepth 100000 in
set_option maxHeartbeats 2000000 in
theorem rapply_var (bl : List Bd) (sv : Value) (n₀ : Nat) (t : Tm) (s : Value) (w : World) (hv : t.vr = true) (hn : n₀ ≤ w.heap.size) (hbl : BindsIs n₀ w bl sv) (hs : SlIs w.heap.size w t.ts s) (hlen : bl.length ≤ 100000000) :
    Calls Tryz.prog 15 #[sv, tmv t s] w fun e w' => (∃ sl, e = .returned (tmv (apB bl t) sl) ∧ SlIs n₀ w' (apB bl t).ts sl) ∧ Below w.heap.size w w' := by
  obtain ⟨oa, ca, rfl, -⟩ := hs.form
  have HBL := Lib.hid hbl
  have hbl' := hbl
  obtain ⟨ob, cb, rfl, -, -⟩ := hbl'
  have HA := Lib.hid (apB_var bl hv)
  have hr := rimage_any bl t.nm.data.toList (.slice ob bl.length cb) ((w.alloc (.cells #[.string t.nm, .bool true, .slice oa t.ts.length ca] 25)).alloc (.cells #[.string ⟨#[]⟩, .bool false, .slice none 0 0] 25)) n₀ (by simp; omega) (HBL.out.carry (show Below n₀ w _ from (show Below w.heap.size w _ from by go_grown).mono hn) (Nat.le_refl _)) hlen
  rw [kb_key] at hr
  have HR := Lib.hid hr
  have HBX : Hid (Below w.heap.size w ((w.alloc (.cells #[.string t.nm, .bool true, .slice oa t.ts.length ca] 25)).alloc (.cells #[.string ⟨#[]⟩, .bool false, .slice none 0 0] 25))) := Lib.hid (by go_grown)
  clear hbl hr hs
  go_enter Tryz.func15, Tryz.ntmps15
  rw [show tmv t (.slice oa t.ts.length ca) = .agg #[.string t.nm, .bool t.vr, .slice oa t.ts.length ca] from rfl, hv]
  go_wp2_with (
    go_at_call 54
    refine HR.out.mono ?_
    rintro e w1 ⟨⟨sl, rfl, hsl⟩, hb1⟩
    obtain ⟨oi, ci, rfl, -⟩ := hsl.form
    dsimp only [tmv]
    have hrt := (hb1.block (w.heap.size + 1) (by simp)).trans (heap_new_at _ _ _ (by simp))
    obtain ⟨⟨r0, r1, r2⟩, f0, f1, f2⟩ := box3 hrt
    have HSL := Lib.hid hsl
    have HRT := Lib.hid hrt
    have HB1 := Lib.hid hb1
    clear hsl hrt hb1)
  have hq := box3_set HRT.out (.string (imageOf bl t.nm.data.toList).nm) (.bool (imageOf bl t.nm.data.toList).vr) (.slice oi (imageOf bl t.nm.data.toList).ts.length ci)
  obtain ⟨⟨q0, q1, q2⟩, -⟩ := box3 hq
  refine bodyPost_ret (v := tmv (imageOf bl t.nm.data.toList) (.slice oi (imageOf bl t.nm.data.toList).ts.length ci)) (by simp [results, Tryz.f15, go_sem, q0, q1, q2, tmv]) rfl ?_
  have hbf := below_set3 (HBX.out.trans (HB1.out.mono (by simp; omega))) (b := w.heap.size + 1) (by omega) (.string (imageOf bl t.nm.data.toList).nm) (.bool (imageOf bl t.nm.data.toList).vr) (.slice oi (imageOf bl t.nm.data.toList).ts.length ci)
  rw [HA.out]
  exact ⟨⟨_, rfl, HSL.out.carry (below_set3 (Below.refl n₀ w1) (by omega) _ _ _) (Nat.le_refl _)⟩, hbf⟩

theorem cells_new3 (W : World) (a b c : Value) (e : TypeId) : ∀ j u, [a, b, c][j]? = some u → (W.alloc (.cells #[a, b, c] e)).cell? ((⟨W.heap.size, 0, none⟩ : Addr).add j) = some u := by
  intro j u hj
  rw [ad_add, Nat.zero_add]
  have h := cells_of' (heap_new_at W (.cells #[a, b, c] e) W.heap.size rfl) j
  rw [h, ← Array.getElem?_toList]
  exact hj
/-- the memory at the loop's start -/
theorem ApSt.start {n₀ : Nat} {w W : World} {bl : List Bd} {nm : ByteArray} {l : List Tm} (hb : Below w.heap.size w W) (ho : W.heap[w.heap.size + 2]? = some (.cells #[.string nm, .bool false, .slice none 0 0] 25 (0, 0)))
    (hr : W.heap[w.heap.size + 1]? = some (.cells #[.string ⟨#[]⟩, .bool false, .slice none 0 0] 25 (0, 0))) : ApSt n₀ w bl nm l 0 W (.slice none 0 0) [] :=
  ⟨by simp, World.ownsRow_nil _ _ _ _, by simp, hb, ho, hr⟩

set_option maxRecDepth 100000 in
set_option maxHeartbeats 4000000 in
theorem rapply_any (bl : List Bd) (sv : Value) (n₀ : Nat) (hlen : bl.length ≤ 100000000) (t : Tm) : ∀ (s : Value) (w : World), n₀ ≤ w.heap.size → BindsIs n₀ w bl sv → SlIs w.heap.size w t.ts s → t.bulk ≤ 1048576 →
    Calls Tryz.prog 15 #[sv, tmv t s] w fun e w' => (∃ sl, e = .returned (tmv (apB bl t) sl) ∧ SlP (fun b => b < n₀ ∨ w.heap.size ≤ b) w' (apB bl t).ts sl) ∧ Below w.heap.size w w' := by
  induction t using Tm.ind with
  | h t ih =>
    intro s w hn hbl hs hb
    by_cases hv : t.vr = true
    · refine (rapply_var bl sv n₀ t s w hv hn hbl hs hlen).mono ?_
      rintro e w' ⟨⟨sl, rfl, h⟩, hb⟩
      exact ⟨⟨sl, rfl, h.toP.carry fun b hb => ⟨rfl, .inl hb⟩⟩, hb⟩
    · have hv : t.vr = false := by simpa using hv
      obtain ⟨oa, ca, rfl, -⟩ := hs.form
      have hbl' := hbl
      obtain ⟨ob, cb, rfl, -, -⟩ := hbl'
      obtain ⟨i0, hi, hz, hs1, hb1⟩ := info_parts infoTerm
      have HI := Lib.hid hi
      have HZ := Lib.hid hz
      have HS1 := Lib.hid hs1
      have HB1 := Lib.hid hb1
      have HA := Lib.hid (apB_fun bl hv)
      have htl : t.ts.length ≤ 1048576 := by have := Tm.length_sizes t.ts; have := Tm.size_bulk t; have := Tm.size_eq t; omega
      have IH := Lib.hid ih
      have HBL := Lib.hid hbl
      have HSL := Lib.hid hs
      have HBK := Lib.hid hb
      clear ih hbl hs hb hi hz hs1 hb1
      go_enter Tryz.func15, Tryz.ntmps15
      rw [show tmv t (.slice oa t.ts.length ca) = .agg #[.string t.nm, .bool t.vr, .slice oa t.ts.length ca] from rfl, hv]
      go_wp2_with fail
      have hb0 : Below w.heap.size w (((w.alloc (.cells #[.string t.nm, .bool false, .slice oa t.ts.length ca] 25)).alloc (.cells #[.string ⟨#[]⟩, .bool false, .slice none 0 0] 25)).alloc (.cells #[.string t.nm, .bool false, .slice none 0 0] 25)) := by go_grown
      have HST0 := Lib.hid (ApSt.start (n₀ := n₀) (bl := bl) (nm := t.nm) (l := t.ts) hb0 (heap_new_at _ _ _ (by simp)) ((Below.heap_alloc _ _ _ (by simp)).trans (heap_new_at _ _ _ (by simp))))
      clear hb0
      go_loopw [20] (fun i wr => ∃ (k : Nat) (v : Value) (ch : List (Tm × Value)), k ≤ t.ts.length ∧ i = .int .i64 k ∧ Hid (ApSt n₀ w bl t.nm t.ts k wr v ch)) (fun i _ => t.ts.length - (intOf i).toNat)
      case atStart => exact ⟨0, _, _, by omega, rfl, HST0⟩
      case round =>
        obtain ⟨k, v, ch, hk, rfl, HST⟩ := hrel
        have hst := HST.out
        have hzo := (Array.getElem?_eq_some_iff.1 hst.out).1
        by_cases hlt : k < t.ts.length
        · obtain ⟨b, o, u, su, rfl, hbb, hu, hum, hus, c1, c2, c3⟩ := (HSL.out.carry hst.low (Nat.le_refl _)).get (k := k) hlt
          obtain ⟨ou, cu, rfl, -⟩ := hus.form
          obtain ⟨ov, cv, rfl⟩ := ownsRow_shape hst.row
          have HCHL : Hid (ch.length = k) := Lib.hid (by have := congrArg List.length hst.terms; simp at this; omega)
          have HLOWA : Hid (Below wr.heap.size wr (wr.alloc (.cells #[.string u.nm, .bool u.vr, .slice ou u.ts.length cu] 25)).drew) := Lib.hid (by go_grown)
          have hub : u.bulk ≤ 1048576 := by have := Tm.bulk_mem hum; have := Tm.bulk_eq t; have := HBK.out; omega
          have hout := (Below.heap_alloc wr (.cells #[.string u.nm, .bool u.vr, .slice ou u.ts.length cu] 25) (w.heap.size + 2) (by omega)).trans hst.out
          obtain ⟨⟨x0, x1, x2⟩, f0, f1, f2⟩ := box3 hout
          have hown : ∀ j, (Value.slice ov ch.length cv).ownBlock = some j → w.heap.size + 3 ≤ j ∧ j < wr.heap.size := fun j hj => hst.row.lt j hj
          have HOWN := Lib.hid hown
          have HOUT := Lib.hid hout
          have HU := Lib.hid hu
          have hz := hst.low.size
          have hlow := hst.low
          have HLOW := Lib.hid hlow
          have IHu := fun W1 (hW : Below wr.heap.size wr W1) => Lib.hid (IH.out u hum _ W1 (by have := hW.size; omega) (HBL.out.carry ((hlow.trans (hW.mono hz)).mono hn) (Nat.le_refl _)) (hus.carry (B := W1) (hW.mono hz) (by have := hW.size; omega)) hub)
          clear hst hu hus hown hout hlow
          go_wp2_with fail
          have hxA := (box3 HOUT.out).1.2.2
          have HYA := Lib.hid (box3 (heap_new_at wr (.cells #[.string u.nm, .bool u.vr, .slice ou u.ts.length cu] 25) _ rfl)).1
          refine wp_region_noPanic ?_
          refine wp_region_held_drew (S := fun w' => w'.cell? ⟨wr.heap.size, 0, none⟩ = some (.string u.nm) ∧ w'.cell? ⟨wr.heap.size, 1, none⟩ = some (.bool u.vr) ∧ w'.cell? ⟨wr.heap.size, 2, none⟩ = some (.slice ou u.ts.length cu)) (by kernel_rfl) HYA.out (fun _ => ?_)
          simp only [List.size_toArray, List.length_cons, List.length_nil, Nat.reduceAdd]
          refine wpAnyH_take (i := 0) (v := ?_) (by simp only [List.getElem?_toArray, List.getElem?_cons_zero]; rfl) (by kernel_rfl) (by kernel_rfl) (by kernel_rfl) (fun _ _ _ h => h) (Or.inl ⟨by rfl, ?_⟩) HYA.out ?_
          case refine_2 => (intro ww hSw; obtain ⟨s1, s2, s3⟩ := hSw; go_simp; try with_reducible rfl)
          try simp only [Act.put, List.setIfInBounds_toArray, List.set_cons_zero, List.set_cons_succ]
          refine wpAnyH_take (i := 2) (v := ?_) (by simp only [List.getElem?_toArray, List.getElem?_cons_zero, List.getElem?_cons_succ]; rfl) (by kernel_rfl) (by kernel_rfl) (by kernel_rfl) (fun _ _ _ h => h) (Or.inl ⟨by rfl, ?_⟩) HYA.out ?_
          case refine_2 => (intro ww hSw; obtain ⟨s1, s2, s3⟩ := hSw; go_simp; try with_reducible rfl)
          try simp only [Act.put, List.setIfInBounds_toArray, List.set_cons_zero, List.set_cons_succ]
          refine wpAnyH_take (i := 3) (v := ?_) (by simp only [List.getElem?_toArray, List.getElem?_cons_zero, List.getElem?_cons_succ]; rfl) (by kernel_rfl) (by kernel_rfl) (by kernel_rfl) (fun _ _ _ h => h) (Or.inl ⟨by rfl, ?_⟩) HYA.out ?_
          case refine_2 => (intro ww hSw; obtain ⟨s1, s2, s3⟩ := hSw; go_simp; try with_reducible rfl)
          try simp only [Act.put, List.setIfInBounds_toArray, List.set_cons_zero, List.set_cons_succ]
          refine wpAnyH_ready (rs := [1, 4]) (by kernel_rfl) (by simp) ?_
          refine AllReadyH.cons (by simp only [List.getElem?_toArray, List.getElem?_cons_zero, List.getElem?_cons_succ]; rfl) (fun K' hK => ?_) ?_
          · go_simp
            refine hK.out _ _ HYA.out (fun _ => ?_)
            clear hK
            try simp only [Act.put, List.setIfInBounds_toArray, List.set_cons_zero, List.set_cons_succ]
            refine wpAnyH_ready (rs := [4]) (by kernel_rfl) (by simp) ?_
            refine AllReadyH.cons (by simp only [List.getElem?_toArray, List.getElem?_cons_zero, List.getElem?_cons_succ]; rfl) (fun K' hK => ?_) AllReadyH.nil
            go_simp
            refine (IHu _ HLOWA.out).out.mono ?_
            rintro e w4 ⟨⟨sl4, rfl, hsl4⟩, hb4⟩
            obtain ⟨o4, c4, rfl⟩ := hsl4.form
            dsimp only [tmv]
            have hout4 := (hb4.block (w.heap.size + 2) (by simp; omega)).trans HOUT.out
            have hbx4 := (hb4.block wr.heap.size (by simp)).trans (heap_new_at wr (.cells #[.string u.nm, .bool u.vr, .slice ou u.ts.length cu] 25) _ rfl)
            obtain ⟨⟨x0, x1, x2⟩, f0, f1, f2⟩ := box3 hout4
            have HY4 := Lib.hid (box3 hbx4).1
            have HSL4 := Lib.hid hsl4
            have HB4 := Lib.hid hb4
            have HOUT4 := Lib.hid hout4
            have HBX4 := Lib.hid hbx4
            have HZ4 := Lib.hid (show wr.heap.size < w4.heap.size from (Array.getElem?_eq_some_iff.1 hbx4).1)
            clear hsl4 hb4 hout4 hbx4
            refine hK.out _ _ HY4.out (fun _ => ?_)
            clear hK
            try simp only [Act.put, List.setIfInBounds_toArray, List.set_cons_zero, List.set_cons_succ]
            refine wpAnyH_ready (rs := [5]) (by kernel_rfl) (by simp) ?_
            refine AllReadyH.cons (by simp only [List.getElem?_toArray, List.getElem?_cons_zero, List.getElem?_cons_succ]; rfl) (fun K' hK => ?_) AllReadyH.nil
            go_simp
            have hy5 := (box3 ((Below.heap_alloc w4 (.cells #[.string (apB bl u).nm, .bool (apB bl u).vr, .slice o4 (apB bl u).ts.length c4] 25) _ HZ4.out).trans HBX4.out)).1
            have hx5 := (box3 ((Below.heap_alloc w4 (.cells #[.string (apB bl u).nm, .bool (apB bl u).vr, .slice o4 (apB bl u).ts.length c4] 25) (w.heap.size + 2) (by have := HZ4.out; omega)).trans HOUT4.out)).1.2.2
            have HY5 := Lib.hid hy5
            clear hy5
            refine hK.out _ _ HY5.out (fun _ => ?_)
            clear hK
            try simp only [Act.put, List.setIfInBounds_toArray, List.set_cons_zero, List.set_cons_succ]
            refine wpAnyH_ready (rs := [6]) (by kernel_rfl) (by simp) ?_
            refine AllReadyH.cons (by simp only [List.getElem?_toArray, List.getElem?_cons_zero, List.getElem?_cons_succ]; rfl) (fun K' hK => ?_) AllReadyH.nil
            refine step_append_opt rfl (.tmp 25) (.tmp 29) 23 rfl (w.heap.size + 3) 25 i0 (.agg #[.string ⟨#[]⟩, .bool false, .slice none 0 0]) 3 48 Tryz.underlying23 HI.out HZ.out HS1.out HB1.out rfl (by decide) (.slice ov ch.length cv) ch.length (stCells ch) rfl (HST.out.row.kept (below_grown (HLOWA.out.trans ((HB4.out.mono (by simp)).alloc (Nat.le_of_lt HZ4.out) _))) (own_none _)) (some ⟨w4.heap.size, 0, none⟩) 1 1 [.string (apB bl u).nm, .bool (apB bl u).vr, .slice o4 (apB bl u).ts.length c4] rfl rfl (fun h => by cases h) (fun ad had => by cases had; exact cells_new3 _ _ _ _ _) (by simp [Value.oneCell']) (by have := HCHL.out; unfold maxLen; omega) (by have := HCHL.out; omega) (by have := HZ4.out; simp; omega) ?_
            intro v5 w5 ho5 hg5 hat5
            obtain ⟨o5, c5, rfl⟩ := ownsRow_shape ho5
            have hout5 := (hg5.block (w.heap.size + 2) (by have := HZ4.out; simp; omega) (fun e => by have := (HOWN.out _ e.symm).1; omega)).trans ((Below.heap_alloc _ _ _ (by have := HZ4.out; omega)).trans HOUT4.out)
            have hbx5 := (hg5.block wr.heap.size (by have := HZ4.out; simp; omega) (fun e => by have := (HOWN.out _ e.symm).2; omega)).trans ((Below.heap_alloc _ _ _ HZ4.out).trans HBX4.out)
            obtain ⟨⟨x0, x1, x2⟩, f0, f1, f2⟩ := box3 hout5
            have HBX5 := Lib.hid hbx5
            have HY6 := Lib.hid (box3 hbx5).1
            have HST5 := Lib.hid (HST.out.step hn HU.out HLOWA.out HB4.out HSL4.out ((Below.refl _ w4).alloc (Nat.le_refl _) _) hg5 ho5 hat5)
            clear ho5 hg5 hat5 hout5 hbx5
            refine hK.out _ _ HY6.out (fun _ => ?_)
            clear hK
            try simp only [Act.put, List.setIfInBounds_toArray, List.set_cons_zero, List.set_cons_succ]
            refine wpAnyH_take (i := 7) (v := ?_) (by simp only [List.getElem?_toArray, List.getElem?_cons_zero, List.getElem?_cons_succ]; rfl) (by kernel_rfl) (by kernel_rfl) (by kernel_rfl) (fun _ _ _ h => h) (Or.inl ⟨by rfl, ?_⟩) HY6.out ?_
            case refine_2 => (intro ww hSw; obtain ⟨s1, s2, s3⟩ := hSw; go_simp; try with_reducible rfl)
            try simp only [Act.put, List.setIfInBounds_toArray, List.set_cons_zero, List.set_cons_succ]
            refine wpAnyH_ready (rs := [8]) (by kernel_rfl) (by simp) ?_
            refine AllReadyH.cons (by simp only [List.getElem?_toArray, List.getElem?_cons_zero, List.getElem?_cons_succ]; rfl) (fun K' hK => ?_) AllReadyH.nil
            go_simp
            have HY7 := Lib.hid (box3 ((Below.heap_setCell w5 ⟨w.heap.size + 2, 2, none⟩ (.slice o5 (ch.length + 1) c5) wr.heap.size (by show wr.heap.size ≠ w.heap.size + 2; omega)).trans HBX5.out)).1
            refine hK.out _ _ HY7.out (fun _ => ?_)
            clear hK
            try simp only [Act.put, List.setIfInBounds_toArray, List.set_cons_zero, List.set_cons_succ]
            refine wpAnyH_done (by kernel_rfl) ?_ _
            refine NoPanic.normal ?_
            go_wp2_with fail
            exact ⟨⟨k + 1, _, _, by omega, by go_num, HST5⟩, by simp [intOf]; omega⟩
          · refine AllReadyH.cons (by simp only [List.getElem?_toArray, List.getElem?_cons_zero, List.getElem?_cons_succ]; rfl) (fun K' hK => ?_) AllReadyH.nil
            go_simp
            refine (IHu _ HLOWA.out).out.mono ?_
            rintro e w4 ⟨⟨sl4, rfl, hsl4⟩, hb4⟩
            obtain ⟨o4, c4, rfl⟩ := hsl4.form
            dsimp only [tmv]
            have hout4 := (hb4.block (w.heap.size + 2) (by simp; omega)).trans HOUT.out
            have hbx4 := (hb4.block wr.heap.size (by simp)).trans (heap_new_at wr (.cells #[.string u.nm, .bool u.vr, .slice ou u.ts.length cu] 25) _ rfl)
            obtain ⟨⟨x0, x1, x2⟩, f0, f1, f2⟩ := box3 hout4
            have HY4 := Lib.hid (box3 hbx4).1
            have HSL4 := Lib.hid hsl4
            have HB4 := Lib.hid hb4
            have HOUT4 := Lib.hid hout4
            have HBX4 := Lib.hid hbx4
            have HZ4 := Lib.hid (show wr.heap.size < w4.heap.size from (Array.getElem?_eq_some_iff.1 hbx4).1)
            clear hsl4 hb4 hout4 hbx4
            refine hK.out _ _ HY4.out (fun _ => ?_)
            clear hK
            try simp only [Act.put, List.setIfInBounds_toArray, List.set_cons_zero, List.set_cons_succ]
            refine wpAnyH_ready (rs := [1, 5]) (by kernel_rfl) (by simp) ?_
            refine AllReadyH.cons (by simp only [List.getElem?_toArray, List.getElem?_cons_zero, List.getElem?_cons_succ]; rfl) (fun K' hK => ?_) ?_
            · go_simp
              refine hK.out _ _ HY4.out (fun _ => ?_)
              clear hK
              try simp only [Act.put, List.setIfInBounds_toArray, List.set_cons_zero, List.set_cons_succ]
              refine wpAnyH_ready (rs := [5]) (by kernel_rfl) (by simp) ?_
              refine AllReadyH.cons (by simp only [List.getElem?_toArray, List.getElem?_cons_zero, List.getElem?_cons_succ]; rfl) (fun K' hK => ?_) AllReadyH.nil
              go_simp
              have hy5 := (box3 ((Below.heap_alloc w4 (.cells #[.string (apB bl u).nm, .bool (apB bl u).vr, .slice o4 (apB bl u).ts.length c4] 25) _ HZ4.out).trans HBX4.out)).1
              have hx5 := (box3 ((Below.heap_alloc w4 (.cells #[.string (apB bl u).nm, .bool (apB bl u).vr, .slice o4 (apB bl u).ts.length c4] 25) (w.heap.size + 2) (by have := HZ4.out; omega)).trans HOUT4.out)).1.2.2
              have HY5 := Lib.hid hy5
              clear hy5
              refine hK.out _ _ HY5.out (fun _ => ?_)
              clear hK
              try simp only [Act.put, List.setIfInBounds_toArray, List.set_cons_zero, List.set_cons_succ]
              refine wpAnyH_ready (rs := [6]) (by kernel_rfl) (by simp) ?_
              refine AllReadyH.cons (by simp only [List.getElem?_toArray, List.getElem?_cons_zero, List.getElem?_cons_succ]; rfl) (fun K' hK => ?_) AllReadyH.nil
              refine step_append_opt rfl (.tmp 25) (.tmp 29) 23 rfl (w.heap.size + 3) 25 i0 (.agg #[.string ⟨#[]⟩, .bool false, .slice none 0 0]) 3 48 Tryz.underlying23 HI.out HZ.out HS1.out HB1.out rfl (by decide) (.slice ov ch.length cv) ch.length (stCells ch) rfl (HST.out.row.kept (below_grown (HLOWA.out.trans ((HB4.out.mono (by simp)).alloc (Nat.le_of_lt HZ4.out) _))) (own_none _)) (some ⟨w4.heap.size, 0, none⟩) 1 1 [.string (apB bl u).nm, .bool (apB bl u).vr, .slice o4 (apB bl u).ts.length c4] rfl rfl (fun h => by cases h) (fun ad had => by cases had; exact cells_new3 _ _ _ _ _) (by simp [Value.oneCell']) (by have := HCHL.out; unfold maxLen; omega) (by have := HCHL.out; omega) (by have := HZ4.out; simp; omega) ?_
              intro v5 w5 ho5 hg5 hat5
              obtain ⟨o5, c5, rfl⟩ := ownsRow_shape ho5
              have hout5 := (hg5.block (w.heap.size + 2) (by have := HZ4.out; simp; omega) (fun e => by have := (HOWN.out _ e.symm).1; omega)).trans ((Below.heap_alloc _ _ _ (by have := HZ4.out; omega)).trans HOUT4.out)
              have hbx5 := (hg5.block wr.heap.size (by have := HZ4.out; simp; omega) (fun e => by have := (HOWN.out _ e.symm).2; omega)).trans ((Below.heap_alloc _ _ _ HZ4.out).trans HBX4.out)
              obtain ⟨⟨x0, x1, x2⟩, f0, f1, f2⟩ := box3 hout5
              have HBX5 := Lib.hid hbx5
              have HY6 := Lib.hid (box3 hbx5).1
              have HST5 := Lib.hid (HST.out.step hn HU.out HLOWA.out HB4.out HSL4.out ((Below.refl _ w4).alloc (Nat.le_refl _) _) hg5 ho5 hat5)
              clear ho5 hg5 hat5 hout5 hbx5
              refine hK.out _ _ HY6.out (fun _ => ?_)
              clear hK
              try simp only [Act.put, List.setIfInBounds_toArray, List.set_cons_zero, List.set_cons_succ]
              refine wpAnyH_take (i := 7) (v := ?_) (by simp only [List.getElem?_toArray, List.getElem?_cons_zero, List.getElem?_cons_succ]; rfl) (by kernel_rfl) (by kernel_rfl) (by kernel_rfl) (fun _ _ _ h => h) (Or.inl ⟨by rfl, ?_⟩) HY6.out ?_
              case refine_2 => (intro ww hSw; obtain ⟨s1, s2, s3⟩ := hSw; go_simp; try with_reducible rfl)
              try simp only [Act.put, List.setIfInBounds_toArray, List.set_cons_zero, List.set_cons_succ]
              refine wpAnyH_ready (rs := [8]) (by kernel_rfl) (by simp) ?_
              refine AllReadyH.cons (by simp only [List.getElem?_toArray, List.getElem?_cons_zero, List.getElem?_cons_succ]; rfl) (fun K' hK => ?_) AllReadyH.nil
              go_simp
              have HY7 := Lib.hid (box3 ((Below.heap_setCell w5 ⟨w.heap.size + 2, 2, none⟩ (.slice o5 (ch.length + 1) c5) wr.heap.size (by show wr.heap.size ≠ w.heap.size + 2; omega)).trans HBX5.out)).1
              refine hK.out _ _ HY7.out (fun _ => ?_)
              clear hK
              try simp only [Act.put, List.setIfInBounds_toArray, List.set_cons_zero, List.set_cons_succ]
              refine wpAnyH_done (by kernel_rfl) ?_ _
              refine NoPanic.normal ?_
              go_wp2_with fail
              exact ⟨⟨k + 1, _, _, by omega, by go_num, HST5⟩, by simp [intOf]; omega⟩
            · refine AllReadyH.cons (by simp only [List.getElem?_toArray, List.getElem?_cons_zero, List.getElem?_cons_succ]; rfl) (fun K' hK => ?_) AllReadyH.nil
              go_simp
              have hy5 := (box3 ((Below.heap_alloc w4 (.cells #[.string (apB bl u).nm, .bool (apB bl u).vr, .slice o4 (apB bl u).ts.length c4] 25) _ HZ4.out).trans HBX4.out)).1
              have hx5 := (box3 ((Below.heap_alloc w4 (.cells #[.string (apB bl u).nm, .bool (apB bl u).vr, .slice o4 (apB bl u).ts.length c4] 25) (w.heap.size + 2) (by have := HZ4.out; omega)).trans HOUT4.out)).1.2.2
              have HY5 := Lib.hid hy5
              clear hy5
              refine hK.out _ _ HY5.out (fun _ => ?_)
              clear hK
              try simp only [Act.put, List.setIfInBounds_toArray, List.set_cons_zero, List.set_cons_succ]
              refine wpAnyH_ready (rs := [1]) (by kernel_rfl) (by simp) ?_
              refine AllReadyH.cons (by simp only [List.getElem?_toArray, List.getElem?_cons_zero, List.getElem?_cons_succ]; rfl) (fun K' hK => ?_) AllReadyH.nil
              go_simp
              refine hK.out _ _ HY5.out (fun _ => ?_)
              clear hK
              try simp only [Act.put, List.setIfInBounds_toArray, List.set_cons_zero, List.set_cons_succ]
              refine wpAnyH_ready (rs := [6]) (by kernel_rfl) (by simp) ?_
              refine AllReadyH.cons (by simp only [List.getElem?_toArray, List.getElem?_cons_zero, List.getElem?_cons_succ]; rfl) (fun K' hK => ?_) AllReadyH.nil
              refine step_append_opt rfl (.tmp 25) (.tmp 29) 23 rfl (w.heap.size + 3) 25 i0 (.agg #[.string ⟨#[]⟩, .bool false, .slice none 0 0]) 3 48 Tryz.underlying23 HI.out HZ.out HS1.out HB1.out rfl (by decide) (.slice ov ch.length cv) ch.length (stCells ch) rfl (HST.out.row.kept (below_grown (HLOWA.out.trans ((HB4.out.mono (by simp)).alloc (Nat.le_of_lt HZ4.out) _))) (own_none _)) (some ⟨w4.heap.size, 0, none⟩) 1 1 [.string (apB bl u).nm, .bool (apB bl u).vr, .slice o4 (apB bl u).ts.length c4] rfl rfl (fun h => by cases h) (fun ad had => by cases had; exact cells_new3 _ _ _ _ _) (by simp [Value.oneCell']) (by have := HCHL.out; unfold maxLen; omega) (by have := HCHL.out; omega) (by have := HZ4.out; simp; omega) ?_
              intro v5 w5 ho5 hg5 hat5
              obtain ⟨o5, c5, rfl⟩ := ownsRow_shape ho5
              have hout5 := (hg5.block (w.heap.size + 2) (by have := HZ4.out; simp; omega) (fun e => by have := (HOWN.out _ e.symm).1; omega)).trans ((Below.heap_alloc _ _ _ (by have := HZ4.out; omega)).trans HOUT4.out)
              have hbx5 := (hg5.block wr.heap.size (by have := HZ4.out; simp; omega) (fun e => by have := (HOWN.out _ e.symm).2; omega)).trans ((Below.heap_alloc _ _ _ HZ4.out).trans HBX4.out)
              obtain ⟨⟨x0, x1, x2⟩, f0, f1, f2⟩ := box3 hout5
              have HBX5 := Lib.hid hbx5
              have HY6 := Lib.hid (box3 hbx5).1
              have HST5 := Lib.hid (HST.out.step hn HU.out HLOWA.out HB4.out HSL4.out ((Below.refl _ w4).alloc (Nat.le_refl _) _) hg5 ho5 hat5)
              clear ho5 hg5 hat5 hout5 hbx5
              refine hK.out _ _ HY6.out (fun _ => ?_)
              clear hK
              try simp only [Act.put, List.setIfInBounds_toArray, List.set_cons_zero, List.set_cons_succ]
              refine wpAnyH_take (i := 7) (v := ?_) (by simp only [List.getElem?_toArray, List.getElem?_cons_zero, List.getElem?_cons_succ]; rfl) (by kernel_rfl) (by kernel_rfl) (by kernel_rfl) (fun _ _ _ h => h) (Or.inl ⟨by rfl, ?_⟩) HY6.out ?_
              case refine_2 => (intro ww hSw; obtain ⟨s1, s2, s3⟩ := hSw; go_simp; try with_reducible rfl)
              try simp only [Act.put, List.setIfInBounds_toArray, List.set_cons_zero, List.set_cons_succ]
              refine wpAnyH_ready (rs := [8]) (by kernel_rfl) (by simp) ?_
              refine AllReadyH.cons (by simp only [List.getElem?_toArray, List.getElem?_cons_zero, List.getElem?_cons_succ]; rfl) (fun K' hK => ?_) AllReadyH.nil
              go_simp
              have HY7 := Lib.hid (box3 ((Below.heap_setCell w5 ⟨w.heap.size + 2, 2, none⟩ (.slice o5 (ch.length + 1) c5) wr.heap.size (by show wr.heap.size ≠ w.heap.size + 2; omega)).trans HBX5.out)).1
              refine hK.out _ _ HY7.out (fun _ => ?_)
              clear hK
              try simp only [Act.put, List.setIfInBounds_toArray, List.set_cons_zero, List.set_cons_succ]
              refine wpAnyH_done (by kernel_rfl) ?_ _
              refine NoPanic.normal ?_
              go_wp2_with fail
              exact ⟨⟨k + 1, _, _, by omega, by go_num, HST5⟩, by simp [intOf]; omega⟩
        · obtain rfl : k = t.ts.length := by omega
          obtain ⟨ov, cv, rfl⟩ := ownsRow_shape hst.row
          obtain ⟨⟨x0, x1, x2⟩, -⟩ := box3 hst.out
          obtain ⟨⟨r0, r1, r2⟩, f0, f1, f2⟩ := box3 hst.ret
          clear hst
          go_wp2_with fail
          have hq := box3_set HST.out.ret (.string t.nm) (.bool false) (.slice ov ch.length cv)
          obtain ⟨⟨q0, q1, q2⟩, -⟩ := box3 hq
          refine bodyPost_ret (v := .agg #[.string t.nm, .bool false, .slice ov ch.length cv]) (by simp [results, Tryz.f15, go_sem, q0, q1, q2]) rfl ?_
          have hbf := below_set3 HST.out.low (b := w.heap.size + 1) (by omega) (.string t.nm) (.bool false) (.slice ov ch.length cv)
          refine ⟨⟨.slice ov ch.length cv, by rw [HA.out]; rfl, ?_⟩, hbf⟩
          have h1 := SlP.ofRow (p := fun b => b < n₀ ∨ w.heap.size + 3 ≤ b) HST.out.row (fun b hb => .inr hb) (fun c hc => (HST.out.kids c hc).carry fun b hb => ⟨rfl, hb.1⟩)
          have h2 := HST.out.terms
          rw [List.take_length] at h2
          rw [h2] at h1
          rw [HA.out]
          exact h1.carry fun b hb => ⟨heap_set3 _ _ _ _ _ _ (by omega), by omega⟩
end Go.Proofs.YtnomppdmhgefiaaGreat
/- Names in their order, renamings, a term in a box. -/
namespace Go.Proofs.YtnomppdmhgefiaaGreat
open Go.RowKit

theorem addKey_nodup {ss : List Key} (h : ss.Nodup) (k : Key) : (addKey ss k).Nodup := by
  unfold addKey
  split
  · exact h
  · rename_i hk
    rw [List.nodup_append]
    exact ⟨h, by simp, fun a ha b hb e => by simp only [List.mem_singleton] at hb; subst hb; subst e; exact hk ha⟩
theorem firsts_nodup (t : Tm) : ∀ ss : List Key, ss.Nodup → (firsts ss t).Nodup := by
  induction t using Tm.ind with
  | h t ih =>
    intro ss hs
    cases hv : t.vr
    · rw [firsts_fun ss hv]
      revert ih hs ss
      generalize t.ts = l
      intro ih ss hs
      induction l generalizing ss with
      | nil => exact hs
      | cons x l ihl => rw [firstsL_cons]; exact ihl (fun u hu => ih u (by simp [hu])) _ (ih x (by simp) ss hs)
    · rw [firsts_var ss hv]; exact addKey_nodup hs _
theorem imageOf_of {bl : List Bd} {k : Key} {x : Tm} (h : ∃ p ∈ bl, p.1 = k) (hx : ∀ p ∈ bl, p.1 = k → p.2 = x) : imageOf bl k = x := by
  unfold imageOf
  cases hf : bl.find? (fun p => decide (p.1 = k)) with
  | none =>
    obtain ⟨p, hp, e⟩ := h
    exact absurd e (by simpa using List.find?_eq_none.1 hf p hp)
  | some p => exact hx p (List.mem_of_find?_eq_some hf) (by simpa using List.find?_some hf)
/-- a term in a box -/
structure TBx (W : World) (b : Nat) (t : Tm) (s : Value) : Prop where
  box : W.heap[b]? = some (.cells #[.string t.nm, .bool t.vr, s] 25 (0, 0))
  is : SlIs W.heap.size W t.ts s
theorem TBx.carry {A W : World} {b : Nat} {t : Tm} {s : Value} (h : TBx A b t s) (hb : Below A.heap.size A W) : TBx W b t s :=
  ⟨(hb.block b (Array.getElem?_eq_some_iff.1 h.box).1).trans h.box, h.is.carry hb hb.size⟩
theorem TBx.new {A : World} {t : Tm} {s : Value} (h : SlIs A.heap.size A t.ts s) : TBx (A.alloc (.cells #[.string t.nm, .bool t.vr, s] 25)) A.heap.size t s :=
  ⟨heap_new_at _ _ _ rfl, h.carry ((Below.refl _ A).alloc (Nat.le_refl _) _) (by simp)⟩
theorem firsts_names (t : Tm) : ∀ ss : List Key, (∀ x ∈ ss, x.length ≤ 1048576) → t.bulk ≤ 1048576 → ∀ x ∈ firsts ss t, x.length ≤ 1048576 := by
  induction t using Tm.ind with
  | h t ih =>
    intro ss hs hb
    have hbe := Tm.bulk_eq t
    cases hv : t.vr
    · rw [firsts_fun ss hv]
      have hkid : ∀ u ∈ t.ts, u.bulk ≤ 1048576 := fun u hu => by have := Tm.bulk_mem hu; omega
      revert ih hs ss hkid
      generalize t.ts = l
      intro ih ss hs hkid
      induction l generalizing ss with
      | nil => exact hs
      | cons x l ihl => rw [firstsL_cons]; exact ihl (fun u hu => ih u (by simp [hu])) _ (ih x (by simp) ss hs (hkid x (by simp))) (fun u hu => hkid u (by simp [hu]))
    · rw [firsts_var ss hv]
      intro x hx
      unfold addKey at hx
      split at hx
      · exact hs x hx
      · rcases List.mem_append.1 hx with hx | hx
        · exact hs x hx
        · obtain rfl := List.mem_singleton.1 hx
          rw [bytes_len]; omega

end Go.Proofs.YtnomppdmhgefiaaGreat
