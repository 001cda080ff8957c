/- The reference's Apply. -/
import Derived.WalkKit
import Derived.ProofKit
import Derived.OpenShut
import Derived.Handy
import Derived.Lib.Hide
import Derived.Deep.RegionHeld3
import Derived.Test.YtdnkommcnkbeeaaRen
namespace Go.Proofs.Ytdnkommcnkbeeaa
open Go.RowKit

/-- The slice value s holds the terms l, in blocks of which p holds. -/
inductive SlP (p : Nat → Prop) (W : World) : List Tm → Value → Prop
  | nil0 : SlP p W [] (.slice none 0 0)
  | nil1 (a : Addr) (cap : Nat) : SlP p W [] (.slice (some a) 0 cap)
  | row (b o cap : Nat) (l : List Tm) (s : Nat → Value) : l ≠ [] → p b → l.length ≤ cap →
      (∀ i t, l[i]? = some t → W.cell? ⟨b, o + i * 3, none⟩ = some (.string t.nm) ∧ W.cell? ⟨b, o + i * 3 + 1, none⟩ = some (.bool t.vr) ∧ W.cell? ⟨b, o + i * 3 + 2, none⟩ = some (s i)) →
      (∀ i t, l[i]? = some t → SlP p W t.ts (s i)) → (∀ i, i < l.length * 3 → W.frozen? ⟨b, o + i, none⟩ = false) → SlP p W l (.slice (some ⟨b, o, none⟩) l.length cap)
theorem frozen_same {A B : World} {b : Nat} (h : B.heap[b]? = A.heap[b]?) (j : Nat) : B.frozen? ⟨b, j, none⟩ = A.frozen? ⟨b, j, none⟩ := by unfold World.frozen?; simp only [h]
theorem SlP.carry {p q : Nat → Prop} {A B : World} (h : ∀ b, p b → B.heap[b]? = A.heap[b]? ∧ q b) {l : List Tm} {s : Value} (hs : SlP p A l s) : SlP q B l s := by
  induction hs with
  | nil0 => exact .nil0
  | nil1 a cap => exact .nil1 a cap
  | row b o cap l s hl hb hc cells _ hf ih =>
    obtain ⟨e, hq⟩ := h b hb
    refine .row b o cap l s hl hq hc (fun i t ht => ?_) ih (fun i hi => (frozen_same e _).trans (hf i hi))
    obtain ⟨h1, h2, h3⟩ := cells i t ht
    exact ⟨(World.cell?_of_block (a := ⟨b, _, none⟩) e).trans h1, (World.cell?_of_block (a := ⟨b, _, none⟩) e).trans h2, (World.cell?_of_block (a := ⟨b, _, none⟩) e).trans h3⟩
theorem SlIs.toP {n : Nat} {W : World} {l : List Tm} {s : Value} (h : SlIs n W l s) : SlP (· < n) W l s := by
  induction h with
  | nil0 => exact .nil0
  | nil1 a cap => exact .nil1 a cap
  | row b o cap l s hl hb hc cells _ hf ih => exact .row b o cap l s hl hb hc cells ih hf
theorem SlP.toIs {p : Nat → Prop} {n : Nat} {W : World} {l : List Tm} {s : Value} (h : SlP p W l s) (hp : ∀ b, p b → b < n) : SlIs n W l s := by
  induction h with
  | nil0 => exact .nil0
  | nil1 a cap => exact .nil1 a cap
  | row b o cap l s hl hb hc cells _ hf ih => exact .row b o cap l s hl (hp b hb) hc cells ih hf
theorem SlP.form {p : Nat → Prop} {W : World} {l : List Tm} {s : Value} (h : SlP p W l s) : ∃ oa cap, s = .slice oa l.length cap := by
  cases h with
  | nil0 => exact ⟨_, _, rfl⟩
  | nil1 a cap => exact ⟨_, _, rfl⟩
  | row => exact ⟨_, _, rfl⟩
theorem SlP.lt {p : Nat → Prop} {W : World} {l : List Tm} {s : Value} (h : SlP p W l s) : SlP (fun b => p b ∧ b < W.heap.size) W l s := by
  induction h with
  | nil0 => exact .nil0
  | nil1 a cap => exact .nil1 a cap
  | row b o cap l s hl hb hc cells _ hf ih =>
    refine .row b o cap l s hl ⟨hb, ?_⟩ hc cells ih hf
    obtain ⟨t, r, rfl⟩ : ∃ t r, l = t :: r := by
      cases l with
      | nil => exact absurd rfl hl
      | cons t r => exact ⟨t, r, rfl⟩
    exact World.block_lt_of_cell? W _ (cells 0 t rfl).1

/-- bindings applied to a term -/
def apImg (bl : List Bd) : Unit → ByteArray → Tm × Unit := fun _ nm => (imageOf bl nm.data.toList, ())
def apB (bl : List Bd) (t : Tm) : Tm := (t.rep (apImg bl) ()).1
theorem apB_var (bl : List Bd) {t : Tm} (h : t.vr = true) : apB bl t = imageOf bl t.nm.data.toList := by rw [apB, Tm.rep_var _ _ _ h]; rfl
theorem apB_fun (bl : List Bd) {t : Tm} (h : t.vr = false) : apB bl t = .mk t.nm false (t.ts.map (apB bl)) := by
  rw [apB, Tm.rep_fun _ _ _ h]
  have : ∀ l : List Tm, (Tm.reps (apImg bl) () l).1 = l.map (apB bl) := by
    intro l
    induction l with
    | nil => rfl
    | cons x l ih => simp only [Tm.reps, List.map_cons]; rw [show (Tm.rep (apImg bl) () x).2 = () from rfl, ih]; rfl
  rw [this]

/-- k arguments being done -/
structure ApSt (n₀ : Nat) (w : World) (bl : List Bd) (nm : ByteArray) (l : List Tm) (k : Nat) (W : World) (v : Value) (ch : List (Tm × Value)) : Prop where
  terms : ch.map (·.1) = (l.take k).map (apB bl)
  row : W.ownsRow (w.heap.size + 3) 34 3 v ch.length (stCells ch)
  kids : ∀ c ∈ ch, SlP (fun b => (b < n₀ ∨ w.heap.size + 3 ≤ b) ∧ b < W.heap.size ∧ some b ≠ v.ownBlock) W c.1.ts c.2
  low : Below w.heap.size w W
  out : W.heap[w.heap.size + 2]? = some (.cells #[.string nm, .bool false, v] 34 (0, 0))
  ret : W.heap[w.heap.size + 1]? = some (.cells #[.string ⟨#[]⟩, .bool false, .slice none 0 0] 34 (0, 0))

theorem stCells_at (st : List (Tm × Value)) (i : Nat) (c : Tm × Value) (h : st[i]? = some c) :
    (stCells st)[i * 3]? = some (.string c.1.nm) ∧ (stCells st)[i * 3 + 1]? = some (.bool c.1.vr) ∧ (stCells st)[i * 3 + 2]? = some c.2 := by
  induction st generalizing i with
  | nil => simp at h
  | cons p ch ih =>
    cases i with
    | zero => simp at h; subst h; simp [stCells]
    | succ i =>
      obtain ⟨h1, h2, h3⟩ := ih i (by simpa using h)
      have e : ∀ r, (i + 1) * 3 + r = i * 3 + r + 3 := fun r => by omega
      refine ⟨?_, ?_, ?_⟩
      · have := e 0; simp only [Nat.add_zero] at this; rw [this]; simpa [stCells] using h1
      · rw [e 1]; simpa [stCells] using h2
      · rw [e 2]; simpa [stCells] using h3
/-- a row of terms that is owned, its terms' own arguments lying elsewhere -/
theorem SlP.ofRow {p : Nat → Prop} {W : World} {m : Nat} {v : Value} {ch : List (Tm × Value)} (h : W.ownsRow m 34 3 v ch.length (stCells ch)) (hp : ∀ b, m ≤ b → p b) (hk : ∀ c ∈ ch, SlP p W c.1.ts c.2) : SlP p W (ch.map (·.1)) v := by
  have h0 := h
  have hlen : (ch.map (·.1)).length = ch.length := by simp
  rcases h.2 with ⟨rfl, hl⟩ | ⟨g, cap, cur, rfl, hbg, hg, hle, _⟩
  · obtain rfl : ch = [] := List.length_eq_zero_iff.1 hl
    exact .nil0
  · by_cases hne : ch = []
    · subst hne; exact .nil1 _ _
    · have key : ∀ j u, (stCells ch)[j]? = some u → W.cell? ⟨g, 0 + j, none⟩ = some u := fun j u hj => by
        have := h0.cells (g := g) rfl j u hj
        rwa [ad_add] at this
      have hch : ∀ i t, (ch.map (·.1))[i]? = some t → ∃ c : Tm × Value, ch[i]? = some c ∧ c.1 = t := fun i t ht => by rw [List.getElem?_map, Option.map_eq_some_iff] at ht; exact ht
      have := SlP.row (p := p) (W := W) g 0 cap (ch.map (·.1)) (fun i => ((ch[i]?).map (·.2)).getD (.bool false)) (by simpa using hne) (hp g hbg) (by rw [hlen]; exact hle)
        (fun i t ht => by
          obtain ⟨c, hci, rfl⟩ := hch i t ht
          obtain ⟨h1, h2, h3⟩ := stCells_at ch i c hci
          simp only [hci, Option.map_some, Option.getD_some]
          exact ⟨key _ _ h1, by rw [Nat.add_assoc]; exact key _ _ h2, by rw [Nat.add_assoc]; exact key _ _ h3⟩)
        (fun i t ht => by
          obtain ⟨c, hci, rfl⟩ := hch i t ht
          simp only [hci, Option.map_some, Option.getD_some]
          exact hk c (List.mem_of_getElem? hci))
        (fun i _ => by unfold World.frozen?; simp [hg])
      rw [hlen] at this
      exact this

/-- one argument more -/
theorem ApSt.step {n₀ k : Nat} {w W A W4 B W5 : World} {bl : List Bd} {nm : ByteArray} {l : List Tm} {v v5 sl : Value} {ch : List (Tm × Value)} {u : Tm} (st : ApSt n₀ w bl nm l k W v ch) (hn : n₀ ≤ w.heap.size) (hu : l[k]? = some u)
    (hA : Below W.heap.size W A) (h4 : Below A.heap.size A W4) (hsl : SlP (fun b => b < n₀ ∨ A.heap.size ≤ b) W4 (apB bl u).ts sl) (hB : Below W4.heap.size W4 B) (h5 : B.grownBy W5 v.ownBlock)
    (ho : W5.ownsRow (w.heap.size + 3) 34 3 v5 (ch.length + 1) (stCells ch ++ [.string (apB bl u).nm, .bool (apB bl u).vr, sl])) (hat : v5.ownBlock = v.ownBlock ∨ v5.ownBlock = some B.heap.size) :
    ApSt n₀ w bl nm l (k + 1) (W5.setCell ⟨w.heap.size + 2, 2, none⟩ v5) v5 (ch ++ [(apB bl u, sl)]) := by
  have zA := hA.size
  have z4 := h4.size
  have zB := hB.size
  have z5 := h5.size
  have zo := (Array.getElem?_eq_some_iff.1 st.out).1
  have zs : (W5.setCell ⟨w.heap.size + 2, 2, none⟩ v5).heap.size = W5.heap.size := by simp [World.setCell]
  have own : ∀ j, v.ownBlock = some j → w.heap.size + 3 ≤ j ∧ j < W.heap.size := fun j hj => st.row.lt j hj
  have old : ∀ b, b < W.heap.size → some b ≠ v.ownBlock → b ≠ w.heap.size + 2 → (W5.setCell ⟨w.heap.size + 2, 2, none⟩ v5).heap[b]? = W.heap[b]? := fun b hb hv h2 => by
    rw [Below.heap_setCell _ _ _ _ h2]
    exact (h5.block b (by omega) hv).trans ((hB.block b (by omega)).trans ((h4.block b (by omega)).trans (hA.block b hb)))
  have hout5 : W5.heap[w.heap.size + 2]? = some (.cells #[.string nm, .bool false, v] 34 (0, 0)) :=
    (h5.block _ (by omega) (fun e => by have := (own _ e.symm).1; omega)).trans ((hB.block _ (by omega)).trans ((h4.block _ (by omega)).trans ((hA.block _ zo).trans st.out)))
  refine ⟨?_, ?_, ?_, ?_, ?_, ?_⟩
  · rw [List.map_append, st.terms, Tm.take_snoc hu, List.map_append]; rfl
  · rw [List.length_append]
    rw [stCells_append]
    have hlt : (⟨w.heap.size + 2, 2, none⟩ : Addr).block < w.heap.size + 3 := Nat.lt_succ_self _
    exact ownsRow_setCell_below ho hlt _
  · intro c hc
    rcases List.mem_append.1 hc with hc | hc
    · refine (st.kids c hc).carry fun b hb => ⟨old b hb.2.1 hb.2.2 (by omega), hb.1, by rw [zs]; omega, ?_⟩
      rcases hat with e | e
      · rw [e]; exact hb.2.2
      · rw [e]; intro h; cases h; omega
    · obtain rfl := List.mem_singleton.1 hc
      refine hsl.lt.carry fun b hb => ⟨?_, by omega, by rw [zs]; omega, ?_⟩
      · rw [Below.heap_setCell _ _ _ _ (by show b ≠ w.heap.size + 2; omega)]
        exact (h5.block b (by omega) (fun e => by have := own _ e.symm; omega)).trans (hB.block b hb.2)
      · rcases hat with e | e
        · rw [e]; intro h; have := own _ h.symm; omega
        · rw [e]; intro h; cases h; omega
  · refine (((st.low.trans (hA.mono (by omega))).trans (h4.mono (by omega))).trans (hB.mono (by omega))).grown h5 (by omega) (fun j hj => by have := own j hj; omega) |>.setCell (p := ⟨w.heap.size + 2, 2, none⟩) (by show w.heap.size ≤ w.heap.size + 2; omega) _
  · have := set1 hout5 2 v5
    simpa using this
  · exact (old _ (by omega) (fun e => by have := (own _ e.symm).1; omega) (by omega)).trans st.ret
end Go.Proofs.Ytdnkommcnkbeeaa
