/- Package path: terms with the ranks of their symbols, as they lie. -/
import Derived.WalkKit
import Derived.ProofKit
import Derived.OpenShut
import Derived.Handy
import Derived.Lib.Hide
import Derived.Test.YtnomppdmhgefiaaRks
import Derived.Test.YtnomppdmhgefiaaRnp
namespace Go.Proofs.Ytnomppdmhgefiaa
open Go.RowKit

/-- the rank that lies beside a term -/
def ndRank (rk : ByteArray → Int) (t : Tm) : Int := if t.vr then 0 else rk t.nm
theorem ndRank_fun {rk : ByteArray → Int} {t : Tm} (h : t.vr = false) : ndRank rk t = rk t.nm := by unfold ndRank; rw [h]; rfl
theorem ndRank_var {rk : ByteArray → Int} {t : Tm} (h : t.vr = true) : ndRank rk t = 0 := by unfold ndRank; rw [h]; rfl
/-- the slice value holds the nodes of the terms l, in blocks of which p is said -/
inductive NdP (rk : ByteArray → Int) (p : Nat → Prop) (W : World) : List Tm → Value → Prop
  | nil0 : NdP rk p W [] (.slice none 0 0)
  | nil1 (a : Addr) (cap : Nat) : NdP rk p W [] (.slice (some a) 0 cap)
  | row (b o cap : Nat) (l : List Tm) (u s : Nat → Value) : l ≠ [] → p b → l.length ≤ cap →
      (∀ i t, l[i]? = some t → W.cell? ⟨b, o + i * 5, none⟩ = some (.string t.nm) ∧ W.cell? ⟨b, o + i * 5 + 1, none⟩ = some (.bool t.vr) ∧ W.cell? ⟨b, o + i * 5 + 2, none⟩ = some (u i) ∧ W.cell? ⟨b, o + i * 5 + 3, none⟩ = some (.int .i64 (ndRank rk t)) ∧ W.cell? ⟨b, o + i * 5 + 4, none⟩ = some (s i)) →
      (∀ i t, l[i]? = some t → NdP rk p W t.ts (s i)) → NdP rk p W l (.slice (some ⟨b, o, none⟩) l.length cap)
section
variable {rk : ByteArray → Int}
theorem NdP.carry {p q : Nat → Prop} {A B : World} (h : ∀ b, p b → B.heap[b]? = A.heap[b]? ∧ q b) {l : List Tm} {s : Value} (hs : NdP rk p A l s) : NdP rk q B l s := by
  induction hs with
  | nil0 => exact .nil0
  | nil1 a cap => exact .nil1 a cap
  | row b o cap l u s hl hb hc cells _ ih =>
    obtain ⟨e, hq⟩ := h b hb
    refine .row b o cap l u s hl hq hc (fun i t ht => ?_) ih
    obtain ⟨h1, h2, h3, h4, h5⟩ := cells i t ht
    exact ⟨(World.cell?_of_block (a := ⟨b, _, none⟩) e).trans h1, (World.cell?_of_block (a := ⟨b, _, none⟩) e).trans h2, (World.cell?_of_block (a := ⟨b, _, none⟩) e).trans h3, (World.cell?_of_block (a := ⟨b, _, none⟩) e).trans h4, (World.cell?_of_block (a := ⟨b, _, none⟩) e).trans h5⟩
theorem NdP.form {p : Nat → Prop} {W : World} {l : List Tm} {s : Value} (h : NdP rk p W l s) : ∃ oa cap, s = .slice oa l.length cap := by
  cases h with
  | nil0 => exact ⟨_, _, rfl⟩
  | nil1 a cap => exact ⟨_, _, rfl⟩
  | row => exact ⟨_, _, rfl⟩
theorem NdP.lt {p : Nat → Prop} {W : World} {l : List Tm} {s : Value} (h : NdP rk p W l s) : NdP rk (fun b => p b ∧ b < W.heap.size) W l s := by
  induction h with
  | nil0 => exact .nil0
  | nil1 a cap => exact .nil1 a cap
  | row b o cap l u s hl hb hc cells _ ih =>
    refine .row b o cap l u s hl ⟨hb, ?_⟩ hc cells ih
    obtain ⟨t, r, rfl⟩ : ∃ t r, l = t :: r := by
      cases l with
      | nil => exact absurd rfl hl
      | cons t r => exact ⟨t, r, rfl⟩
    exact World.block_lt_of_cell? W _ (cells 0 t rfl).1
/-- the nodes from number k on -/
theorem NdP.drop {p : Nat → Prop} {W : World} {l : List Tm} {oa : Option Addr} {n cap : Nat} (h : NdP rk p W l (.slice oa n cap)) {k : Nat} (hk : k < l.length) :
    ∃ b o, oa = some ⟨b, o, none⟩ ∧ n = l.length ∧ l.length ≤ cap ∧ ∀ j, j ≤ l.length → NdP rk p W (l.drop j) (.slice (some ⟨b, o + j * 5, none⟩) (l.length - j) (cap - j)) := by
  cases h with
  | nil0 => simp at hk
  | nil1 a cap => simp at hk
  | row b o cap l u s hl hb hc cells kids =>
    refine ⟨b, o, rfl, rfl, hc, fun j hj => ?_⟩
    by_cases e : j = l.length
    · subst e
      rw [List.drop_length, Nat.sub_self]
      exact .nil1 _ _
    · have hne : l.drop j ≠ [] := by rw [ne_eq, List.drop_eq_nil_iff]; omega
      have := NdP.row (rk := rk) (p := p) (W := W) b (o + j * 5) (cap - j) (l.drop j) (fun i => u (j + i)) (fun i => s (j + i)) hne hb (by rw [List.length_drop]; omega)
        (fun i t ht => by
          rw [List.getElem?_drop] at ht
          have e5 : o + j * 5 + i * 5 = o + (j + i) * 5 := by omega
          rw [e5]
          exact cells (j + i) t ht) (fun i t ht => by rw [List.getElem?_drop] at ht; exact kids (j + i) t ht)
      rwa [List.length_drop] at this
/-- a node at a place -/
structure NdAt (rk : ByteArray → Int) (p : Nat → Prop) (W : World) (b o : Nat) (t : Tm) (s : Value) : Prop where
  blk : p b
  nm : W.cell? ⟨b, o, none⟩ = some (.string t.nm)
  vr : W.cell? ⟨b, o + 1, none⟩ = some (.bool t.vr)
  rnk : W.cell? ⟨b, o + 3, none⟩ = some (.int .i64 (ndRank rk t))
  ar : W.cell? ⟨b, o + 4, none⟩ = some s
  is : NdP rk p W t.ts s
theorem NdAt.carry {p q : Nat → Prop} {A B : World} {b o : Nat} {t : Tm} {s : Value} (hs : NdAt rk p A b o t s) (h : ∀ b, p b → B.heap[b]? = A.heap[b]? ∧ q b) : NdAt rk q B b o t s := by
  obtain ⟨e, hq⟩ := h b hs.blk
  exact ⟨hq, (World.cell?_of_block (a := ⟨b, _, none⟩) e).trans hs.nm, (World.cell?_of_block (a := ⟨b, _, none⟩) e).trans hs.vr, (World.cell?_of_block (a := ⟨b, _, none⟩) e).trans hs.rnk, (World.cell?_of_block (a := ⟨b, _, none⟩) e).trans hs.ar, hs.is.carry h⟩
theorem NdP.get {p : Nat → Prop} {W : World} {l : List Tm} {oa : Option Addr} {n cap : Nat} (h : NdP rk p W l (.slice oa n cap)) {k : Nat} (hk : k < l.length) :
    ∃ b o t s, oa = some ⟨b, o, none⟩ ∧ n = l.length ∧ l[k]? = some t ∧ t ∈ l ∧ NdAt rk p W b (o + k * 5) t s := by
  cases h with
  | nil0 => simp at hk
  | nil1 a cap => simp at hk
  | row b o cap l u s hl hb hc cells kids =>
    have ht : l[k]? = some l[k] := List.getElem?_eq_getElem hk
    obtain ⟨h1, h2, h3, h4, h5⟩ := cells k _ ht
    exact ⟨b, o, l[k], s k, rfl, rfl, ht, List.getElem_mem hk, ⟨hb, h1, h2, h4, h5, kids k _ ht⟩⟩

/-- the cells of a row of nodes -/
def ndCells (rk : ByteArray → Int) (st : List (Tm × Value × Value)) : List Value := st.flatMap fun p => [.string p.1.nm, .bool p.1.vr, p.2.1, .int .i64 (ndRank rk p.1), p.2.2]
theorem ndCells_append (a b : List (Tm × Value × Value)) : ndCells rk (a ++ b) = ndCells rk a ++ ndCells rk b := by simp [ndCells]
theorem ndCells_at (st : List (Tm × Value × Value)) (i : Nat) (c : Tm × Value × Value) (h : st[i]? = some c) :
    (ndCells rk st)[i * 5]? = some (.string c.1.nm) ∧ (ndCells rk st)[i * 5 + 1]? = some (.bool c.1.vr) ∧ (ndCells rk st)[i * 5 + 2]? = some c.2.1 ∧ (ndCells rk st)[i * 5 + 3]? = some (.int .i64 (ndRank rk c.1)) ∧ (ndCells rk st)[i * 5 + 4]? = some c.2.2 := by
  induction st generalizing i with
  | nil => simp at h
  | cons p ch ih =>
    cases i with
    | zero => simp at h; subst h; simp [ndCells]
    | succ i =>
      obtain ⟨h1, h2, h3, h4, h5⟩ := ih i (by simpa using h)
      have e : ∀ r, (i + 1) * 5 + r = i * 5 + r + 5 := fun r => by omega
      refine ⟨?_, ?_, ?_, ?_, ?_⟩
      · have := e 0; simp only [Nat.add_zero] at this; rw [this]; simpa [ndCells] using h1
      · rw [e 1]; simpa [ndCells] using h2
      · rw [e 2]; simpa [ndCells] using h3
      · rw [e 3]; simpa [ndCells] using h4
      · rw [e 4]; simpa [ndCells] using h5
theorem NdP.ofRow {p : Nat → Prop} {W : World} {m : Nat} {v : Value} {ch : List (Tm × Value × Value)} (h : W.ownsRow m 67 5 v ch.length (ndCells rk ch)) (hp : ∀ b, m ≤ b → p b) (hk : ∀ c ∈ ch, NdP rk p W c.1.ts c.2.2) : NdP rk p W (ch.map (·.1)) v := by
  have h0 := h
  have hlen : (ch.map (·.1)).length = ch.length := by simp
  rcases h.2 with ⟨rfl, hl⟩ | ⟨g, cap, cur, rfl, hbg, hg, hle, _⟩
  · obtain rfl : ch = [] := List.length_eq_zero_iff.1 hl
    exact .nil0
  · by_cases hne : ch = []
    · subst hne; exact .nil1 _ _
    · have key : ∀ j u, (ndCells rk ch)[j]? = some u → W.cell? ⟨g, 0 + j, none⟩ = some u := fun j u hj => by
        have := h0.cells (g := g) rfl j u hj
        rwa [ad_add] at this
      have hch : ∀ i t, (ch.map (·.1))[i]? = some t → ∃ c : Tm × Value × Value, ch[i]? = some c ∧ c.1 = t := fun i t ht => by rw [List.getElem?_map, Option.map_eq_some_iff] at ht; exact ht
      have := NdP.row (rk := rk) (p := p) (W := W) g 0 cap (ch.map (·.1)) (fun i => ((ch[i]?).map (·.2.1)).getD (.bool false)) (fun i => ((ch[i]?).map (·.2.2)).getD (.bool false)) (by simpa using hne) (hp g hbg) (by rw [hlen]; exact hle)
        (fun i t ht => by
          obtain ⟨c, hci, rfl⟩ := hch i t ht
          obtain ⟨h1, h2, h3, h4, h5⟩ := ndCells_at (rk := rk) ch i c hci
          simp only [hci, Option.map_some, Option.getD_some]
          exact ⟨key _ _ h1, by rw [Nat.add_assoc]; exact key _ _ h2, by rw [Nat.add_assoc]; exact key _ _ h3, by rw [Nat.add_assoc]; exact key _ _ h4, by rw [Nat.add_assoc]; exact key _ _ h5⟩)
        (fun i t ht => by
          obtain ⟨c, hci, rfl⟩ := hch i t ht
          simp only [hci, Option.map_some, Option.getD_some]
          exact hk c (List.mem_of_getElem? hci))
      rw [hlen] at this
      exact this

/-- k arguments being ranked -/
structure NpSt (rk : ByteArray → Int) (w : World) (nm : ByteArray) (sa : Value) (r : Int) (l : List Tm) (k : Nat) (W : World) (v : Value) (ch : List (Tm × Value × Value)) : Prop where
  terms : ch.map (·.1) = l.take k
  row : W.ownsRow (w.heap.size + 3) 67 5 v ch.length (ndCells rk ch)
  kids : ∀ c ∈ ch, NdP rk (fun b => w.heap.size + 3 ≤ b ∧ b < W.heap.size ∧ some b ≠ v.ownBlock) W c.1.ts c.2.2
  low : Below w.heap.size w W
  out : W.heap[w.heap.size + 2]? = some (.cells #[.string nm, .bool false, sa, .int .i64 r, v] 67 (0, 0))
  ret : W.heap[w.heap.size + 1]? = some (.cells #[.string ⟨#[]⟩, .bool false, .slice none 0 0, .int .i64 0, .slice none 0 0] 67 (0, 0))
theorem NpSt.start {w W : World} {nm : ByteArray} {sa : Value} {r : Int} {l : List Tm} (hb : Below w.heap.size w W) (ho : W.heap[w.heap.size + 2]? = some (.cells #[.string nm, .bool false, sa, .int .i64 r, .slice none 0 0] 67 (0, 0)))
    (hr : W.heap[w.heap.size + 1]? = some (.cells #[.string ⟨#[]⟩, .bool false, .slice none 0 0, .int .i64 0, .slice none 0 0] 67 (0, 0))) : NpSt rk w nm sa r l 0 W (.slice none 0 0) [] :=
  ⟨by simp, World.ownsRow_nil _ _ _ _, by simp, hb, ho, hr⟩
/-- one argument more -/
theorem NpSt.step {k : Nat} {w W A W4 B W5 : World} {nm : ByteArray} {sa sx : Value} {r : Int} {l : List Tm} {v v5 sl : Value} {ch : List (Tm × Value × Value)} {u : Tm} (st : NpSt rk w nm sa r l k W v ch) (hu : l[k]? = some u)
    (hA : Below W.heap.size W A) (h4 : Below A.heap.size A W4) (hsl : NdP rk (fun b => A.heap.size ≤ b) W4 u.ts sl) (hB : Below W4.heap.size W4 B) (h5 : B.grownBy W5 v.ownBlock)
    (ho : W5.ownsRow (w.heap.size + 3) 67 5 v5 (ch.length + 1) (ndCells rk ch ++ [.string u.nm, .bool u.vr, sx, .int .i64 (ndRank rk u), sl])) (hat : v5.ownBlock = v.ownBlock ∨ v5.ownBlock = some B.heap.size) :
    NpSt rk w nm sa r l (k + 1) (W5.setCell ⟨w.heap.size + 2, 4, none⟩ v5) v5 (ch ++ [(u, sx, sl)]) := by
  have zA := hA.size
  have z4 := h4.size
  have zB := hB.size
  have z5 := h5.size
  have zo := (Array.getElem?_eq_some_iff.1 st.out).1
  have zs : (W5.setCell ⟨w.heap.size + 2, 4, none⟩ v5).heap.size = W5.heap.size := by simp [World.setCell]
  have own : ∀ j, v.ownBlock = some j → w.heap.size + 3 ≤ j ∧ j < W.heap.size := fun j hj => st.row.lt j hj
  have old : ∀ b, b < W.heap.size → some b ≠ v.ownBlock → b ≠ w.heap.size + 2 → (W5.setCell ⟨w.heap.size + 2, 4, none⟩ v5).heap[b]? = W.heap[b]? := fun b hb hv h2 => by
    rw [Below.heap_setCell _ _ _ _ h2]
    exact (h5.block b (by omega) hv).trans ((hB.block b (by omega)).trans ((h4.block b (by omega)).trans (hA.block b hb)))
  have hout5 : W5.heap[w.heap.size + 2]? = some (.cells #[.string nm, .bool false, sa, .int .i64 r, v] 67 (0, 0)) :=
    (h5.block _ (by omega) (fun e => by have := (own _ e.symm).1; omega)).trans ((hB.block _ (by omega)).trans ((h4.block _ (by omega)).trans ((hA.block _ zo).trans st.out)))
  refine ⟨?_, ?_, ?_, ?_, ?_, ?_⟩
  · rw [List.map_append, st.terms, Tm.take_snoc hu]; rfl
  · rw [List.length_append]
    rw [ndCells_append]
    have hlt : (⟨w.heap.size + 2, 4, none⟩ : Addr).block < w.heap.size + 3 := Nat.lt_succ_self _
    exact ownsRow_setCell_below ho hlt _
  · intro c hc
    rcases List.mem_append.1 hc with hc | hc
    · refine (st.kids c hc).carry fun b hb => ⟨old b hb.2.1 hb.2.2 (by omega), hb.1, by rw [zs]; omega, ?_⟩
      rcases hat with e | e
      · rw [e]; exact hb.2.2
      · rw [e]; intro h; cases h; omega
    · obtain rfl := List.mem_singleton.1 hc
      refine hsl.lt.carry fun b hb => ⟨?_, by omega, by rw [zs]; omega, ?_⟩
      · rw [Below.heap_setCell _ _ _ _ (by show b ≠ w.heap.size + 2; omega)]
        exact (h5.block b (by omega) (fun e => by have := own _ e.symm; omega)).trans (hB.block b hb.2)
      · rcases hat with e | e
        · rw [e]; intro h; have := own _ h.symm; omega
        · rw [e]; intro h; cases h; omega
  · refine (((st.low.trans (hA.mono (by omega))).trans (h4.mono (by omega))).trans (hB.mono (by omega))).grown h5 (by omega) (fun j hj => by have := own j hj; omega) |>.setCell (p := ⟨w.heap.size + 2, 4, none⟩) (by show w.heap.size ≤ w.heap.size + 2; omega) _
  · have := set1 hout5 4 v5
    simpa using this
  · exact (old _ (by omega) (fun e => by have := (own _ e.symm).1; omega) (by omega)).trans st.ret
theorem infoNode : (Try.prog.info? 67).map (fun i => (i.zero, i.size, i.bytes)) = some (some (.agg #[.string ⟨#[]⟩, .bool false, .slice none 0 0, .int .i64 0, .slice none 0 0]), 5, 80) := by kernel_rfl
theorem box5 {W : World} {b : Nat} {x y z u v : Value} {e : TypeId} (h : W.heap[b]? = some (.cells #[x, y, z, u, v] e (0, 0))) :
    (W.cell? ⟨b, 0, none⟩ = some x ∧ W.cell? ⟨b, 1, none⟩ = some y ∧ W.cell? ⟨b, 2, none⟩ = some z ∧ W.cell? ⟨b, 3, none⟩ = some u ∧ W.cell? ⟨b, 4, none⟩ = some v) ∧ W.frozen? ⟨b, 0, none⟩ = false ∧ W.frozen? ⟨b, 1, none⟩ = false ∧ W.frozen? ⟨b, 2, none⟩ = false ∧ W.frozen? ⟨b, 3, none⟩ = false ∧ W.frozen? ⟨b, 4, none⟩ = false :=
  ⟨⟨cells_of' h 0, cells_of' h 1, cells_of' h 2, cells_of' h 3, cells_of' h 4⟩, by unfold World.frozen?; simp [h], by unfold World.frozen?; simp [h], by unfold World.frozen?; simp [h], by unfold World.frozen?; simp [h], by unfold World.frozen?; simp [h]⟩
theorem box5_set {W : World} {b : Nat} {x y z u v : Value} {e : TypeId} (h : W.heap[b]? = some (.cells #[x, y, z, u, v] e (0, 0))) (x' y' z' u' v' : Value) :
    (((((W.setCell ⟨b, 0, none⟩ x').setCell ⟨b, 1, none⟩ y').setCell ⟨b, 2, none⟩ z').setCell ⟨b, 3, none⟩ u').setCell ⟨b, 4, none⟩ v').heap[b]? = some (.cells #[x', y', z', u', v'] e (0, 0)) := by
  have := set1 (set1 (set1 (set1 (set1 h 0 x') 1 y') 2 z') 3 u') 4 v'; simpa using this
theorem below_set5 {B : Nat} {A W : World} (h : Below B A W) {b : Nat} (hb : B ≤ b) (x y z u v : Value) : Below B A (((((W.setCell ⟨b, 0, none⟩ x).setCell ⟨b, 1, none⟩ y).setCell ⟨b, 2, none⟩ z).setCell ⟨b, 3, none⟩ u).setCell ⟨b, 4, none⟩ v) :=
  ((((h.setCell (p := ⟨b, 0, none⟩) hb _).setCell (p := ⟨b, 1, none⟩) hb _).setCell (p := ⟨b, 2, none⟩) hb _).setCell (p := ⟨b, 3, none⟩) hb _).setCell (p := ⟨b, 4, none⟩) hb _
theorem heap_set5 (W : World) (b k : Nat) (x y z u v : Value) (h : k ≠ b) : (((((W.setCell ⟨b, 0, none⟩ x).setCell ⟨b, 1, none⟩ y).setCell ⟨b, 2, none⟩ z).setCell ⟨b, 3, none⟩ u).setCell ⟨b, 4, none⟩ v).heap[k]? = W.heap[k]? := by
  rw [Below.heap_setCell _ _ _ _ h, Below.heap_setCell _ _ _ _ h, Below.heap_setCell _ _ _ _ h, Below.heap_setCell _ _ _ _ h, Below.heap_setCell _ _ _ _ h]
end
end Go.Proofs.Ytnomppdmhgefiaa
