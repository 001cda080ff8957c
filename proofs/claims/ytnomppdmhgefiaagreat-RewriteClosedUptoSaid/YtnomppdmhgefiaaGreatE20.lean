/- Packed: Sln. -/
import Derived.Test.YtnomppdmhgefiaaGreatE10
import Derived.Test.YtnomppdmhgefiaaGreatE08
/- Terms in blocks below n other than q, bindings of such terms; the reference's Image and Apply on them. -/
namespace Go.Proofs.YtnomppdmhgefiaaGreat
open Go.RowKit

/-- the slice value s holds the terms l, in blocks below n other than the three of q -/
def SlN (q : Nat × Nat × Nat) (n : Nat) (W : World) (l : List Tm) (s : Value) : Prop := SlP (fun b => b < n ∧ b ≠ q.1 ∧ b ≠ q.2.1 ∧ b ≠ q.2.2) W l s
theorem SlN.nil0 (q : Nat × Nat × Nat) (n : Nat) (W : World) : SlN q n W [] (.slice none 0 0) := SlP.nil0
theorem SlN.toIs {q : Nat × Nat × Nat} {n : Nat} {W : World} {l : List Tm} {s : Value} (h : SlN q n W l s) : SlIs n W l s := SlP.toIs h fun _ hb => hb.1
theorem SlN.toP {q : Nat × Nat × Nat} {n : Nat} {W : World} {l : List Tm} {s : Value} (h : SlN q n W l s) : SlP (fun b => b < n ∧ b ≠ q.1 ∧ b ≠ q.2.1 ∧ b ≠ q.2.2) W l s := h
theorem SlN.form {q : Nat × Nat × Nat} {n : Nat} {W : World} {l : List Tm} {s : Value} (h : SlN q n W l s) : ∃ oa cap, s = .slice oa l.length cap ∧ True := by
  obtain ⟨oa, cap, e⟩ := SlP.form h
  exact ⟨oa, cap, e, trivial⟩
theorem SlN.carry {q : Nat × Nat × Nat} {n m : Nat} {A B : World} {l : List Tm} {s : Value} (h : SlN q n A l s) (hb : Below n A B) (hn : n ≤ m) : SlN q m B l s := SlP.carry (fun b hb' => ⟨hb.block b hb'.1, Nat.lt_of_lt_of_le hb'.1 hn, hb'.2⟩) h
theorem SlN.get {q : Nat × Nat × Nat} {n₀ : Nat} {W : World} {l : List Tm} {oa : Option Addr} {n cap k : Nat} (h : SlN q n₀ W l (.slice oa n cap)) (hk : k < l.length) :
    ∃ (b o : Nat) (u : Tm) (s : Value), oa = some ⟨b, o, none⟩ ∧ b < n₀ ∧ l[k]? = some u ∧ u ∈ l ∧ SlN q n₀ W u.ts s ∧
      W.cell? ⟨b, o + k * 3, none⟩ = some (.string u.nm) ∧ W.cell? ⟨b, o + k * 3 + 1, none⟩ = some (.bool u.vr) ∧ W.cell? ⟨b, o + k * 3 + 2, none⟩ = some s := by
  cases h with
  | nil0 => simp at hk
  | nil1 a cap => simp at hk
  | row b o cap l s hl hb hc cells hs hf =>
    have hu : l[k]? = some l[k] := List.getElem?_eq_getElem hk
    obtain ⟨h1, h2, h3⟩ := cells k _ hu
    exact ⟨b, o, l[k], s k, rfl, hb.1, hu, List.getElem_mem hk, hs k _ hu, h1, h2, h3⟩
/-- bindings of such terms; the row itself lies anywhere below n -/
def BindsN (q : Nat × Nat × Nat) (n : Nat) (W : World) (bl : List Bd) (v : Value) : Prop :=
  ∃ oa cap, v = .slice oa bl.length cap ∧ bl.length ≤ cap ∧
    (bl ≠ [] → ∃ b o, oa = some ⟨b, o, none⟩ ∧ b < n ∧ ∀ i p, bl[i]? = some p → ∃ s, W.cell? ⟨b, o + i * 4, none⟩ = some (.string (kb p.1)) ∧ W.cell? ⟨b, o + i * 4 + 1, none⟩ = some (.string p.2.nm) ∧ W.cell? ⟨b, o + i * 4 + 2, none⟩ = some (.bool p.2.vr) ∧ W.cell? ⟨b, o + i * 4 + 3, none⟩ = some s ∧ SlN q n W p.2.ts s)
theorem BindsN.carry {q : Nat × Nat × Nat} {n m : Nat} {A B : World} {l : List Bd} {v : Value} (h : BindsN q n A l v) (hb : Below n A B) (hn : n ≤ m) : BindsN q m B l v := by
  obtain ⟨oa, cap, rfl, h1, h3⟩ := h
  refine ⟨oa, cap, rfl, h1, fun hne => ?_⟩
  obtain ⟨b, o, rfl, hbn, hc⟩ := h3 hne
  refine ⟨b, o, rfl, by omega, fun i p hk => ?_⟩
  obtain ⟨s, c0, c1, c2, c3, hs⟩ := hc i p hk
  exact ⟨s, (hb.cell (p := ⟨b, _, none⟩) hbn).trans c0, (hb.cell (p := ⟨b, _, none⟩) hbn).trans c1, (hb.cell (p := ⟨b, _, none⟩) hbn).trans c2, (hb.cell (p := ⟨b, _, none⟩) hbn).trans c3, hs.carry hb hn⟩

theorem BindsN.toIs {q : Nat × Nat × Nat} {n : Nat} {W : World} {bl : List Bd} {v : Value} (h : BindsN q n W bl v) : BindsIs n W bl v := by
  obtain ⟨oa, cap, e, h1, h3⟩ := h
  refine ⟨oa, cap, e, h1, fun hne => ?_⟩
  obtain ⟨b, o, e2, hbn, hc⟩ := h3 hne
  refine ⟨b, o, e2, hbn, fun i p hk => ?_⟩
  obtain ⟨s, c0, c1, c2, c3, hs⟩ := hc i p hk
  exact ⟨s, c0, c1, c2, c3, hs.toIs⟩
theorem BindsN.get {q : Nat × Nat × Nat} {n : Nat} {W : World} {bl : List Bd} {oa : Option Addr} {cap k : Nat} (h : BindsN q n W bl (.slice oa bl.length cap)) (hk : k < bl.length) :
    ∃ (b o : Nat) (p : Bd) (s : Value), oa = some ⟨b, o, none⟩ ∧ b < n ∧ bl[k]? = some p ∧ p ∈ bl ∧ SlN q n W p.2.ts s ∧
      W.cell? ⟨b, o + k * 4, none⟩ = some (.string (kb p.1)) ∧ W.cell? ⟨b, o + k * 4 + 1, none⟩ = some (.string p.2.nm) ∧ W.cell? ⟨b, o + k * 4 + 2, none⟩ = some (.bool p.2.vr) ∧ W.cell? ⟨b, o + k * 4 + 3, none⟩ = some s := by
  obtain ⟨oa', cap', he, -, h3⟩ := h
  simp only [Value.slice.injEq, true_and] at he
  obtain ⟨rfl, rfl⟩ := he
  obtain ⟨b, o, rfl, hb, hc⟩ := h3 (by rintro rfl; simp at hk)
  have hp : bl[k]? = some bl[k] := List.getElem?_eq_getElem hk
  obtain ⟨s, c0, c1, c2, c3, hs⟩ := hc k _ hp
  exact ⟨b, o, bl[k], s, rfl, hb, hp, List.getElem_mem hk, hs, c0, c1, c2, c3⟩

/-- k arguments being done -/
structure ApSq (q : Nat × Nat × Nat) (n₀ : Nat) (w : World) (bl : List Bd) (nm : ByteArray) (l : List Tm) (k : Nat) (W : World) (v : Value) (ch : List (Tm × Value)) : Prop where
  terms : ch.map (·.1) = (l.take k).map (apB bl)
  row : W.ownsRow (w.heap.size + 3) 25 3 v ch.length (stCells ch)
  kids : ∀ c ∈ ch, SlP (fun b => ((b < n₀ ∧ b ≠ q.1 ∧ b ≠ q.2.1 ∧ b ≠ q.2.2) ∨ w.heap.size + 3 ≤ b) ∧ b < W.heap.size ∧ some b ≠ v.ownBlock) W c.1.ts c.2
  low : Below w.heap.size w W
  out : W.heap[w.heap.size + 2]? = some (.cells #[.string nm, .bool false, v] 25 (0, 0))
  ret : W.heap[w.heap.size + 1]? = some (.cells #[.string ⟨#[]⟩, .bool false, .slice none 0 0] 25 (0, 0))

/-- one argument more -/
theorem ApSq.step {q : Nat × Nat × Nat} {n₀ k : Nat} {w W A W4 B W5 : World} {bl : List Bd} {nm : ByteArray} {l : List Tm} {v v5 sl : Value} {ch : List (Tm × Value)} {u : Tm} (st : ApSq q n₀ w bl nm l k W v ch) (hn : n₀ ≤ w.heap.size) (hu : l[k]? = some u)
    (hA : Below W.heap.size W A) (h4 : Below A.heap.size A W4) (hsl : SlP (fun b => (b < n₀ ∧ b ≠ q.1 ∧ b ≠ q.2.1 ∧ b ≠ q.2.2) ∨ A.heap.size ≤ b) W4 (apB bl u).ts sl) (hB : Below W4.heap.size W4 B) (h5 : B.grownBy W5 v.ownBlock)
    (ho : W5.ownsRow (w.heap.size + 3) 25 3 v5 (ch.length + 1) (stCells ch ++ [.string (apB bl u).nm, .bool (apB bl u).vr, sl])) (hat : v5.ownBlock = v.ownBlock ∨ v5.ownBlock = some B.heap.size) :
    ApSq q n₀ w bl nm l (k + 1) (W5.setCell ⟨w.heap.size + 2, 2, none⟩ v5) v5 (ch ++ [(apB bl u, sl)]) := by
  have zA := hA.size
  have z4 := h4.size
  have zB := hB.size
  have z5 := h5.size
  have zo := (Array.getElem?_eq_some_iff.1 st.out).1
  have zs : (W5.setCell ⟨w.heap.size + 2, 2, none⟩ v5).heap.size = W5.heap.size := by simp [World.setCell]
  have own : ∀ j, v.ownBlock = some j → w.heap.size + 3 ≤ j ∧ j < W.heap.size := fun j hj => st.row.lt j hj
  have old : ∀ b, b < W.heap.size → some b ≠ v.ownBlock → b ≠ w.heap.size + 2 → (W5.setCell ⟨w.heap.size + 2, 2, none⟩ v5).heap[b]? = W.heap[b]? := fun b hb hv h2 => by
    rw [Below.heap_setCell _ _ _ _ h2]
    exact (h5.block b (by omega) hv).trans ((hB.block b (by omega)).trans ((h4.block b (by omega)).trans (hA.block b hb)))
  have hout5 : W5.heap[w.heap.size + 2]? = some (.cells #[.string nm, .bool false, v] 25 (0, 0)) :=
    (h5.block _ (by omega) (fun e => by have := (own _ e.symm).1; omega)).trans ((hB.block _ (by omega)).trans ((h4.block _ (by omega)).trans ((hA.block _ zo).trans st.out)))
  refine ⟨?_, ?_, ?_, ?_, ?_, ?_⟩
  · rw [List.map_append, st.terms, Tm.take_snoc hu, List.map_append]; rfl
  · rw [List.length_append]
    rw [stCells_append]
    have hlt : (⟨w.heap.size + 2, 2, none⟩ : Addr).block < w.heap.size + 3 := Nat.lt_succ_self _
    exact ownsRow_setCell_below ho hlt _
  · intro c hc
    rcases List.mem_append.1 hc with hc | hc
    · refine (st.kids c hc).carry fun b hb => ⟨old b hb.2.1 hb.2.2 (by omega), hb.1, by rw [zs]; omega, ?_⟩
      rcases hat with e | e
      · rw [e]; exact hb.2.2
      · rw [e]; intro h; cases h; omega
    · obtain rfl := List.mem_singleton.1 hc
      refine hsl.lt.carry fun b hb => ⟨?_, by omega, by rw [zs]; omega, ?_⟩
      · rw [Below.heap_setCell _ _ _ _ (by show b ≠ w.heap.size + 2; omega)]
        exact (h5.block b (by omega) (fun e => by have := own _ e.symm; omega)).trans (hB.block b hb.2)
      · rcases hat with e | e
        · rw [e]; intro h; have := own _ h.symm; omega
        · rw [e]; intro h; cases h; omega
  · refine (((st.low.trans (hA.mono (by omega))).trans (h4.mono (by omega))).trans (hB.mono (by omega))).grown h5 (by omega) (fun j hj => by have := own j hj; omega) |>.setCell (p := ⟨w.heap.size + 2, 2, none⟩) (by show w.heap.size ≤ w.heap.size + 2; omega) _
  · have := set1 hout5 2 v5
    simpa using this
  · exact (old _ (by omega) (fun e => by have := (own _ e.symm).1; omega) (by omega)).trans st.ret

theorem ApSq.start {q : Nat × Nat × Nat} {n₀ : Nat} {w W : World} {bl : List Bd} {nm : ByteArray} {l : List Tm} (hb : Below w.heap.size w W) (ho : W.heap[w.heap.size + 2]? = some (.cells #[.string nm, .bool false, .slice none 0 0] 25 (0, 0)))
    (hr : W.heap[w.heap.size + 1]? = some (.cells #[.string ⟨#[]⟩, .bool false, .slice none 0 0] 25 (0, 0))) : ApSq q n₀ w bl nm l 0 W (.slice none 0 0) [] :=
  ⟨by simp, World.ownsRow_nil _ _ _ _, by simp, hb, ho, hr⟩

end Go.Proofs.YtnomppdmhgefiaaGreat
