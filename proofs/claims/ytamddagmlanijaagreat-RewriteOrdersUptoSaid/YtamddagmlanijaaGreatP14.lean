/- Packed: Rpu. -/
import Derived.Test.YtamddagmlanijaaGreatP13
import Derived.Test.YtamddagmlanijaaGreatP01
import Derived.Shelf.SlicesE.Clone
/- rewrite's put. -/
namespace Go.Proofs.YtamddagmlanijaaGreat
open Go.RowKit Go.Shelf Go.Maps

theorem far3 (W : World) (g i j m : Nat) (a b c : Value) (p : Addr) (h : p.block ≠ g) : (((W.setCell ⟨g, i, none⟩ a).setCell ⟨g, j, none⟩ b).setCell ⟨g, m, none⟩ c).cell? p = W.cell? p := by
  rw [World.cell?_setCell_far _ _ _ _ (fun e => h e.symm), World.cell?_setCell_far _ _ _ _ (fun e => h e.symm), World.cell?_setCell_far _ _ _ _ (fun e => h e.symm)]
theorem far3h (W : World) (g i j m : Nat) (a b c : Value) (k : Nat) (h : k ≠ g) : (((W.setCell ⟨g, i, none⟩ a).setCell ⟨g, j, none⟩ b).setCell ⟨g, m, none⟩ c).heap[k]? = W.heap[k]? := by
  rw [Below.heap_setCell _ _ _ _ h, Below.heap_setCell _ _ _ _ h, Below.heap_setCell _ _ _ _ h]
def cloneT_ren : Go.Shelf.Ren := ⟨fun | 41 => 178 | n => n, fun | 22 => 23 | 23 => 25 | 4 => 4 | n => n, fun | n => n⟩
theorem cloneT : Go.Proofs.SlLaysE0.n41 Tryz.prog cloneT_ren := {
  mixed := by kernel_rfl
  f41 := ⟨Tryz.f178.name, by decide, Tryz.func178.trans (congrArg some (by kernel_rfl))⟩
  t4 := Tryz.underlying4
  a4 := Tryz.isAgg4
  z4 := Tryz.sizeOf4
  v4 := Tryz.zeroValue4
  t22 := Tryz.underlying23
  a22 := Tryz.isAgg23
  z22 := Tryz.sizeOf23
  v22 := Tryz.zeroValue23 }
/-- a row of cells with spare room behind it, as terms -/
theorem SlP.ofTake {e : TypeId} {W : World} {p : Nat → Prop} {g cap : Nat} {ch : List Child} {cur : Array Value} (hne : ch ≠ []) (hg : W.heap[g]? = some (.cells cur e (0, 0))) (hgn : p g) (hcap : ch.length ≤ cap) (hc : cur.toList.take (ch.length * 3) = chCells ch)
    (hk : ∀ c ∈ ch, SlP p W c.1.ts c.2.1) : SlP p W (ch.map (·.1)) (.slice (some ⟨g, 0, none⟩) ch.length cap) := by
  have hlen : (ch.map (·.1)).length = ch.length := by simp
  have hcell : ∀ j, j < ch.length * 3 → W.cell? ⟨g, j, none⟩ = (chCells ch)[j]? := fun j hj => by
    unfold World.cell?
    simp only [hg]
    rw [← hc, List.getElem?_take_of_lt hj, Array.getElem?_toList]; rfl
  have hch : ∀ i t, (ch.map (·.1))[i]? = some t → ∃ c : Child, ch[i]? = some c ∧ c.1 = t := fun i t ht => by rw [List.getElem?_map, Option.map_eq_some_iff] at ht; exact ht
  have key := SlP.row (p := p) (W := W) g 0 cap (ch.map (·.1)) (fun i => ((ch[i]?).map (·.2.1)).getD (.bool false)) (by simpa using hne) hgn (by simpa using hcap)
    (fun i t ht => by
      obtain ⟨c, hci, rfl⟩ := hch i t ht
      have hil := (List.getElem?_eq_some_iff.1 hci).1
      obtain ⟨h1, h2, h3⟩ := chCells_at ch i c hci
      simp only [Nat.zero_add, hcell (i * 3) (by omega), hcell (i * 3 + 1) (by omega), hcell (i * 3 + 2) (by omega), hci, Option.map_some, Option.getD_some]
      exact ⟨h1, h2, h3⟩)
    (fun i t ht => by
      obtain ⟨c, hci, rfl⟩ := hch i t ht
      simp only [hci, Option.map_some, Option.getD_some]
      exact hk c (List.mem_of_getElem? hci))
    (fun i _ => by unfold World.frozen?; simp [hg])
  rw [hlen] at key
  exact key
theorem chCells_mem {ch : List Child} {u : Value} (h : u ∈ chCells ch) : ∃ c ∈ ch, u = .string c.1.nm ∨ u = .bool c.1.vr ∨ u = c.2.1 := by
  unfold chCells at h
  obtain ⟨c, hc, hu⟩ := List.mem_flatMap.1 h
  refine ⟨c, hc, ?_⟩
  simpa using hu
/-- slices.Clone at a row of terms -/
theorem cloneTerms_any (l : List Tm) (v : Value) (p : Nat → Prop) (w : World) (hs : SlP p w l v) (hne : l ≠ []) (hlen : l.length ≤ 1048576) :
    Calls Tryz.prog 178 #[v] w fun e w' => (∃ (g cap : Nat) (cur : Array Value) (ch : List Child), e = .returned (.slice (some ⟨g, 0, none⟩) l.length cap) ∧ w.heap.size ≤ g ∧ w'.heap[g]? = some (.cells cur 25 (0, 0)) ∧
      l.length ≤ cap ∧ ch.map (·.1) = l ∧ (∀ c ∈ ch, SlP p w c.1.ts c.2.1) ∧ cur.toList.take (l.length * 3) = chCells ch) ∧ Below w.heap.size w w' := by
  cases hs with
  | nil0 => exact absurd rfl hne
  | nil1 => exact absurd rfl hne
  | row b o cap l s hl hb hc cells hk hf =>
    obtain ⟨ch, hch, hcl⟩ : ∃ ch : List Child, ch.map (·.1) = l ∧ ∀ i c, ch[i]? = some c → l[i]? = some c.1 ∧ c.2.1 = s i := by
      refine ⟨l.zipIdx.map fun q => (q.1, s q.2, []), ?_, fun i c h => ?_⟩
      · rw [List.map_map]
        show l.zipIdx.map (fun q => q.1) = l
        exact List.zipIdx_map_fst 0 l
      · rw [List.getElem?_map, List.getElem?_zipIdx] at h
        cases hi : l[i]? with
        | none => rw [hi] at h; cases h
        | some t => rw [hi] at h; cases h; exact ⟨rfl, by simp⟩
    have hcs : ∀ c ∈ ch, SlP p w c.1.ts c.2.1 := fun c hcm => by
      obtain ⟨i, hi, rfl⟩ := List.getElem_of_mem hcm
      obtain ⟨h1, h2⟩ := hcl i _ (List.getElem?_eq_getElem hi)
      rw [h2]; exact hk i _ h1
    have hcn : ch.length = l.length := by rw [← hch, List.length_map]
    have hinf := info24
    obtain ⟨i0, hi, hi2⟩ := Option.map_eq_some_iff.1 hinf
    simp only [Prod.mk.injEq] at hi2
    refine (AnyE.slices_Clone cloneT i0 (.agg #[.string ⟨#[]⟩, .bool false, .slice none 0 0]) 3 48 hi hi2.1 hi2.2.1 hi2.2.2 rfl (by omega) (fun w => Tryz.sizeOf25 w) b o l.length cap (chCells ch) w (by rw [chCells_length, hcn]) (by unfold maxLen; omega) (by omega) (fun j u hj => ?_) (fun u hu => ?_)).mono ?_
    · have hjl : j < ch.length * 3 := by rw [← chCells_length]; exact (List.getElem?_eq_some_iff.1 hj).1
      obtain ⟨c, hci⟩ : ∃ c, ch[j / 3]? = some c := ⟨_, List.getElem?_eq_getElem (by omega)⟩
      obtain ⟨h1, h2, h3⟩ := chCells_at ch (j / 3) c hci
      obtain ⟨g1, g2⟩ := hcl _ _ hci
      obtain ⟨c1, c2, c3⟩ := cells _ _ g1
      have hj3 : j = j / 3 * 3 ∨ j = j / 3 * 3 + 1 ∨ j = j / 3 * 3 + 2 := by omega
      rcases hj3 with e | e | e
      · rw [e] at hj ⊢; rw [h1] at hj; cases hj; exact c1
      · rw [e] at hj ⊢; rw [h2] at hj; cases hj; rw [← Nat.add_assoc]; exact c2
      · rw [e] at hj ⊢; rw [h3] at hj; cases hj; rw [← Nat.add_assoc, g2]; exact c3
    · obtain ⟨c, hcm, h | h | h⟩ := chCells_mem hu
      · rw [h]; rfl
      · rw [h]; rfl
      · obtain ⟨oa, ca, e⟩ := (hcs c hcm).form
        rw [h, e]; rfl
    · rintro e w' ⟨v', rfl, ⟨-, hv | ⟨g, cap', cur, rfl, h1, h2, h3, h4, h5, h6⟩⟩, hnn, hb'⟩
      · exact absurd hv.1 hnn
      · exact ⟨⟨g, cap', cur, ch, rfl, h1, h2, h3, hch, hcs, h6⟩, hb'⟩
set_option maxRecDepth 100000 in
set_option maxHeartbeats 1000000 in
theorem rwput_any (n₀ : Nat) (p : Nat → Prop) (l : List Int) : ∀ (t : Tm) (s : Value) (v : Value) (u : Tm) (su : Value) (w : World), n₀ ≤ w.heap.size → (∀ b, p b → b < w.heap.size) → SlP p w t.ts s → PosIs n₀ w l v → (∀ oa m c, v = .slice oa m c → m ≤ c) → SlP p w u.ts su → (t.at l).isSome → l.length ≤ 1048576 → t.bulk ≤ 1048576 →
    Calls Tryz.prog 106 #[tmv t s, v, tmv u su] w fun e w' => (∃ sr, e = .returned (tmv (t.put l u) sr) ∧ SlP (fun b => (p b ∨ w.heap.size ≤ b) ∧ b < w'.heap.size) w' (t.put l u).ts sr) ∧ Below w.heap.size w w' := by
  induction l with
  | nil =>
    intro t s v u su w hn hp0 hs hl hcap hu hat hll hb
    obtain ⟨oa, cap, rfl⟩ := hs.form
    obtain ⟨ov, cv, rfl, hp⟩ := hl.form
    obtain ⟨ou, cu, rfl⟩ := hu.form
    have HU := Lib.hid hu
    clear hs hl hu hp hcap
    go_enter Tryz.func106, Tryz.ntmps106
    go_wp2_with fail
    have hbx : Below w.heap.size w (((w.alloc (.cells #[.string t.nm, .bool t.vr, .slice oa t.ts.length cap] 25)).alloc (.cells #[.string u.nm, .bool u.vr, .slice ou u.ts.length cu] 25)).alloc (.cells #[.string u.nm, .bool u.vr, .slice ou u.ts.length cu] 25)) := by go_grown
    obtain ⟨⟨q0, q1, q2⟩, -⟩ := box3 (heap_new_at ((w.alloc (.cells #[.string t.nm, .bool t.vr, .slice oa t.ts.length cap] 25)).alloc (.cells #[.string u.nm, .bool u.vr, .slice ou u.ts.length cu] 25)) (.cells #[.string u.nm, .bool u.vr, .slice ou u.ts.length cu] 25) (w.heap.size + 1 + 1) (by simp))
    refine bodyPost_ret (v := tmv u (.slice ou u.ts.length cu)) (by simp [results, Tryz.f106, go_sem, q0, q1, q2]) rfl ?_
    exact ⟨⟨_, rfl, HU.out.carry fun b hb => ⟨hbx.block b (hp0 b hb), .inl hb, by have := hp0 b hb; have := hbx.size; omega⟩⟩, hbx⟩
  | cons i l ih =>
    intro t s v u su w hn hp0 hs hl hcap hu hat hll hb
    obtain ⟨oa, cap, rfl⟩ := hs.form
    obtain ⟨ov, cv, rfl, hp⟩ := hl.form
    obtain ⟨ou, cu, rfl⟩ := hu.form
    have HS := Lib.hid hs
    have HU := Lib.hid hu
    have HP := Lib.hid hp
    have IH := Lib.hid ih
    have HP0 := Lib.hid hp0
    have hcv := hcap _ _ _ rfl
    simp only [List.length_cons] at hcv
    clear hs hu hp hl ih hcap hp0
    obtain ⟨b3, o3, rfl, hb3, hc3⟩ := HP.out (by simp)
    have hi0 := hc3 0 i rfl
    obtain ⟨x, hkid, hxs⟩ : ∃ x, t.kid i = some x ∧ (x.at l).isSome := by
      simp only [Tm.at] at hat
      split at hat
      · rename_i x hx; exact ⟨x, hx, hat⟩
      · cases hat
    have hik : ∃ k : Nat, i = (k : Int) ∧ t.ts[k]? = some x := by
      unfold Tm.kid at hkid
      split at hkid
      · exact ⟨i.toNat, by omega, hkid⟩
      · cases hkid
    obtain ⟨k, rfl, hk⟩ := hik
    have hkl : k < t.ts.length := (List.getElem?_eq_some_iff.1 hk).1
    have hne : t.ts ≠ [] := by intro e; rw [e] at hkl; simp at hkl
    have hsz := Tm.size_bulk t
    have hls := Tm.length_sizes t.ts
    have hse := Tm.size_eq t
    have htl : t.ts.length ≤ 1048576 := by omega
    have hB0 : Below w.heap.size w (((w.alloc (.cells #[.string t.nm, .bool t.vr, .slice oa t.ts.length cap] 25)).alloc (.cells #[.string u.nm, .bool u.vr, .slice ou u.ts.length cu] 25)).alloc (.cells #[.string ⟨#[]⟩, .bool false, .slice none 0 0] 25)) := by go_grown
    have HCL := Lib.hid (cloneTerms_any t.ts (.slice oa t.ts.length cap) p _ (HS.out.carry fun b hb => ⟨hB0.block b (HP0.out b hb), hb⟩) hne htl)
    have HKID := Lib.hid hkid
    have HXS := Lib.hid hxs
    have HK := Lib.hid hk
    have HC3 := Lib.hid hc3
    have HB0 := Lib.hid hB0
    clear hsz hls hse hkid hxs hk hc3 hB0 hat
    rw [show tmv t (.slice oa t.ts.length cap) = .agg #[.string t.nm, .bool t.vr, .slice oa t.ts.length cap] from rfl, show tmv u (.slice ou u.ts.length cu) = .agg #[.string u.nm, .bool u.vr, .slice ou u.ts.length cu] from rfl]
    go_enter Tryz.func106, Tryz.ntmps106
    go_wp2_with fail
    refine HCL.out.mono ?_
    rintro e w1 ⟨⟨g, cg, cur, ch, rfl, hg, hgc, hcg, hch, hcs, hcur⟩, hb1⟩
    have HW1 := Lib.hid (HB0.out.trans (hb1.mono (by simp; omega)))
    have ht := (hb1.block w.heap.size (by simp <;> omega)).trans ((Below.heap_alloc _ _ _ (by simp <;> omega)).trans ((Below.heap_alloc _ _ _ (by simp <;> omega)).trans (heap_new_at w (.cells #[.string t.nm, .bool t.vr, .slice oa t.ts.length cap] 25) _ rfl)))
    have hx := (hb1.block (w.heap.size + 1) (by simp <;> omega)).trans ((Below.heap_alloc _ _ _ (by simp <;> omega)).trans (heap_new_at _ (.cells #[.string u.nm, .bool u.vr, .slice ou u.ts.length cu] 25) _ (by simp <;> omega)))
    have hr := (hb1.block (w.heap.size + 1 + 1) (by simp <;> omega)).trans (heap_new_at _ (.cells #[.string ⟨#[]⟩, .bool false, .slice none 0 0] 25) _ (by simp <;> omega))
    obtain ⟨⟨t0, t1, t2⟩, g0, g1, g2⟩ := box3 ht
    obtain ⟨⟨x0, x1, x2⟩, -⟩ := box3 hx
    obtain ⟨⟨r0, r1, r2⟩, f0, f1, f2⟩ := box3 hr
    have p0 := (HW1.out.cell (p := ⟨b3, _, none⟩) (by show b3 < _; omega)).trans hi0
    have HT := Lib.hid ht
    have HX := Lib.hid hx
    have HR := Lib.hid hr
    have HG := Lib.hid hgc
    have HBA := Lib.hid hb1
    have HCH := Lib.hid hch
    have HCS := Lib.hid hcs
    have HCUR := Lib.hid hcur
    have hgw : w.heap.size + 1 + 1 + 1 ≤ g := by simpa using hg
    clear ht hx hr hgc hch hcs hcur hb1 hi0 hg HCL
    go_wp2_with fail
    -- region
    have ht2 := heap_setCell_same w1 w.heap.size 2 _ _ (.slice (some ⟨g, 0, none⟩) t.ts.length cg) HT.out
    have HS0 : Hid ((w1.setCell ⟨w.heap.size, 2, none⟩ (.slice (some ⟨g, 0, none⟩) t.ts.length cg)).drew.cell? ⟨w.heap.size, 2, none⟩ = some (.slice (some ⟨g, 0, none⟩) t.ts.length cg) ∧ (w1.setCell ⟨w.heap.size, 2, none⟩ (.slice (some ⟨g, 0, none⟩) t.ts.length cg)).drew.cell? ⟨b3, o3, none⟩ = some (.int .i64 k) ∧ (w1.setCell ⟨w.heap.size, 2, none⟩ (.slice (some ⟨g, 0, none⟩) t.ts.length cg)).drew.cell? ⟨w.heap.size + 1, 0, none⟩ = some (.string u.nm) ∧
        (w1.setCell ⟨w.heap.size, 2, none⟩ (.slice (some ⟨g, 0, none⟩) t.ts.length cg)).drew.cell? ⟨w.heap.size + 1, 1, none⟩ = some (.bool u.vr) ∧ (w1.setCell ⟨w.heap.size, 2, none⟩ (.slice (some ⟨g, 0, none⟩) t.ts.length cg)).drew.cell? ⟨w.heap.size + 1, 2, none⟩ = some (.slice ou u.ts.length cu)) := Lib.hid
        ⟨(cells_of ht2 2).trans rfl, (cell_drew_own _ _).trans ((World.cell?_setCell_far w1 ⟨w.heap.size, 2, none⟩ ⟨b3, o3, none⟩ _ (by simp <;> omega)).trans p0), (cell_drew_own _ _).trans ((World.cell?_setCell_far w1 ⟨w.heap.size, 2, none⟩ ⟨w.heap.size + 1, 0, none⟩ _ (by simp <;> omega)).trans x0), (cell_drew_own _ _).trans ((World.cell?_setCell_far w1 ⟨w.heap.size, 2, none⟩ ⟨w.heap.size + 1, 1, none⟩ _ (by simp <;> omega)).trans x1), (cell_drew_own _ _).trans ((World.cell?_setCell_far w1 ⟨w.heap.size, 2, none⟩ ⟨w.heap.size + 1, 2, none⟩ _ (by simp <;> omega)).trans x2)⟩
    have HT2 := Lib.hid (show (w1.setCell ⟨w.heap.size, 2, none⟩ (.slice (some ⟨g, 0, none⟩) t.ts.length cg)).drew.heap[w.heap.size]? = some (.cells #[.string t.nm, .bool t.vr, .slice (some ⟨g, 0, none⟩) t.ts.length cg] 25 (0, 0)) from (show (w1.setCell ⟨w.heap.size, 2, none⟩ (.slice (some ⟨g, 0, none⟩) t.ts.length cg)).heap[w.heap.size]? = some (.cells #[.string t.nm, .bool t.vr, .slice (some ⟨g, 0, none⟩) t.ts.length cg] 25 (0, 0)) by simpa using ht2))
    have HR2 := Lib.hid (show (w1.setCell ⟨w.heap.size, 2, none⟩ (.slice (some ⟨g, 0, none⟩) t.ts.length cg)).drew.heap[w.heap.size + 1 + 1]? = _ from (Below.heap_setCell w1 ⟨w.heap.size, 2, none⟩ _ (w.heap.size + 1 + 1) (by show _ ≠ w.heap.size; omega)).trans HR.out)
    clear ht2
    obtain ⟨⟨x', sx, fx⟩, hcx⟩ : ∃ c, ch[k]? = some c := ⟨_, List.getElem?_eq_getElem (by rw [← List.length_map (f := (·.1)), HCH.out]; exact hkl)⟩
    obtain rfl : x' = x := by
      have h1 := HK.out
      rw [← HCH.out, List.getElem?_map, hcx] at h1
      exact Option.some.inj h1
    have hsx := HCS.out _ (List.mem_of_getElem? hcx)
    simp only at hsx
    obtain ⟨ox, cx, rfl⟩ := hsx.form
    have hch3 := chCells_at ch k _ hcx
    have hcl : ch.length = t.ts.length := by rw [← HCH.out, List.length_map]
    have hg2 : (w1.setCell ⟨w.heap.size, 2, none⟩ (.slice (some ⟨g, 0, none⟩) t.ts.length cg)).drew.heap[g]? = some (.cells cur 25 (0, 0)) := (Below.heap_setCell w1 ⟨w.heap.size, 2, none⟩ _ g (by show g ≠ w.heap.size; omega)).trans HG.out
    have hcj : ∀ j, j < t.ts.length * 3 → (w1.setCell ⟨w.heap.size, 2, none⟩ (.slice (some ⟨g, 0, none⟩) t.ts.length cg)).drew.cell? ⟨g, j, none⟩ = (chCells ch)[j]? := fun j hj => by
      rw [cells_of hg2, ← HCUR.out, List.getElem?_take_of_lt hj, Array.getElem?_toList]
    have y0 := (hcj (k * 3) (by omega)).trans hch3.1
    have y1 := (hcj (k * 3 + 1) (by omega)).trans hch3.2.1
    have y2 := (hcj (k * 3 + 2) (by omega)).trans hch3.2.2
    simp only at y0 y1 y2
    have hb2 : Below w.heap.size w (w1.setCell ⟨w.heap.size, 2, none⟩ (.slice (some ⟨g, 0, none⟩) t.ts.length cg)).drew := (HW1.out.setCell (p := ⟨w.heap.size, 2, none⟩) (Nat.le_refl _) _).drew
    have HCALL := Lib.hid (IH.out x' (.slice ox x'.ts.length cx) (.slice (if cv = 1 then some ⟨b3, o3, none⟩ else some ⟨b3, o3 + 1, none⟩) l.length (cv - 1)) u (.slice ou u.ts.length cu) _ (Nat.le_trans hn hb2.size) (fun b hb => Nat.lt_of_lt_of_le (HP0.out b hb) hb2.size) (hsx.carry fun b hb => ⟨(((HBA.out.mono (by simp <;> omega)).setCell (p := ⟨w.heap.size, 2, none⟩) (Nat.le_refl _) _).drew : Below w.heap.size _ _).block b (HP0.out b hb), hb⟩)
      ⟨_, _, rfl, fun hln => ⟨b3, o3 + 1, if_neg (by have : 0 < l.length := List.length_pos_iff.2 hln; omega), hb3, fun j y hy => (hb2.cell (p := ⟨b3, _, none⟩) (by show b3 < _; omega)).trans (by rw [show o3 + 1 + j = o3 + (j + 1) by omega]; exact HC3.out (j + 1) y (by simpa using hy))⟩⟩
      (fun oa m c e => by simp only [Value.slice.injEq] at e; omega) (HU.out.carry fun b hb => ⟨hb2.block b (HP0.out b hb), hb⟩) HXS.out (by simp at hll; omega) (by have := Tm.bulk_mem (List.mem_of_getElem? HK.out); have := Tm.bulk_eq t; omega))
    have HG2 := Lib.hid hg2
    have HB2 := Lib.hid hb2
    have HCX := Lib.hid hcx
    have HCC := Lib.hid (show cur[k * 3]? = some (.string x'.nm) ∧ cur[k * 3 + 1]? = some (.bool x'.vr) ∧ cur[k * 3 + 2]? = some (.slice ox x'.ts.length cx) from ⟨(cells_of HG2.out _).symm.trans y0, (cells_of HG2.out _).symm.trans y1, (cells_of HG2.out _).symm.trans y2⟩)
    clear hcj hch3 hsx hg2 hb2 hcx
    refine wp_region_noPanic ?_
    refine wp_region_held_drew (S := fun w' => w'.cell? ⟨w.heap.size, 2, none⟩ = some (.slice (some ⟨g, 0, none⟩) t.ts.length cg) ∧ w'.cell? ⟨b3, o3, none⟩ = some (.int .i64 k) ∧ w'.cell? ⟨w.heap.size + 1, 0, none⟩ = some (.string u.nm) ∧ w'.cell? ⟨w.heap.size + 1, 1, none⟩ = some (.bool u.vr) ∧ w'.cell? ⟨w.heap.size + 1, 2, none⟩ = some (.slice ou u.ts.length cu)) (by kernel_rfl) HS0.out (fun _ => ?_)
    simp only [List.size_toArray, List.length_cons, List.length_nil, Nat.reduceAdd]
    have h1l : (1 : Int) ≤ (l.length : Int) + 1 := by omega
    refine wpAnyH_take (i := 0) (v := ?_) (by simp only [List.getElem?_toArray, List.getElem?_cons_zero]; rfl) (by kernel_rfl) (by kernel_rfl) (by kernel_rfl) (fun _ _ _ h => h) (Or.inl ⟨by rfl, ?_⟩) HS0.out ?_
    case refine_2 => (intro ww hSw; obtain ⟨s1, s2, s3, s4, s5⟩ := hSw; go_simp; try with_reducible rfl)
    try simp only [Act.put, List.setIfInBounds_toArray, List.set_cons_zero, List.set_cons_succ]
    refine wpAnyH_take (i := 1) (v := ?_) (by simp only [List.getElem?_toArray, List.getElem?_cons_zero, List.getElem?_cons_succ]; rfl) (by kernel_rfl) (by kernel_rfl) (by kernel_rfl) (fun _ _ _ h => h) (Or.inl ⟨by rfl, ?_⟩) HS0.out ?_
    case refine_2 => (intro ww hSw; obtain ⟨s1, s2, s3, s4, s5⟩ := hSw; go_simp; try with_reducible rfl)
    try simp only [Act.put, List.setIfInBounds_toArray, List.set_cons_zero, List.set_cons_succ]
    refine wpAnyH_take (i := 2) (v := ?_) (by simp only [List.getElem?_toArray, List.getElem?_cons_zero, List.getElem?_cons_succ]; rfl) (by kernel_rfl) (by kernel_rfl) (by kernel_rfl) (fun _ _ _ h => h) (Or.inl ⟨by rfl, ?_⟩) HS0.out ?_
    case refine_2 => (intro ww hSw; obtain ⟨s1, s2, s3, s4, s5⟩ := hSw; go_simp; try with_reducible rfl)
    try simp only [Act.put, List.setIfInBounds_toArray, List.set_cons_zero, List.set_cons_succ]
    refine wpAnyH_take (i := 3) (v := ?_) (by simp only [List.getElem?_toArray, List.getElem?_cons_zero, List.getElem?_cons_succ]; rfl) (by kernel_rfl) (by kernel_rfl) (by kernel_rfl) (fun _ _ _ h => h) (Or.inl ⟨by rfl, ?_⟩) HS0.out ?_
    case refine_2 => (intro ww hSw; obtain ⟨s1, s2, s3, s4, s5⟩ := hSw; go_simp; try with_reducible rfl)
    try simp only [Act.put, List.setIfInBounds_toArray, List.set_cons_zero, List.set_cons_succ]
    refine wpAnyH_take (i := 4) (v := ?_) (by simp only [List.getElem?_toArray, List.getElem?_cons_zero, List.getElem?_cons_succ]; rfl) (by kernel_rfl) (by kernel_rfl) (by kernel_rfl) (fun _ _ _ h => h) (Or.inl ⟨by rfl, ?_⟩) HS0.out ?_
    case refine_2 => (intro ww hSw; obtain ⟨s1, s2, s3, s4, s5⟩ := hSw; go_simp; try with_reducible rfl)
    try simp only [Act.put, List.setIfInBounds_toArray, List.set_cons_zero, List.set_cons_succ]
    refine wpAnyH_take (i := 5) (v := ?_) (by simp only [List.getElem?_toArray, List.getElem?_cons_zero, List.getElem?_cons_succ]; rfl) (by kernel_rfl) (by kernel_rfl) (by kernel_rfl) (fun _ _ _ h => h) (Or.inl ⟨by rfl, ?_⟩) HS0.out ?_
    case refine_2 => (intro ww hSw; obtain ⟨s1, s2, s3, s4, s5⟩ := hSw; go_simp; try with_reducible rfl)
    try simp only [Act.put, List.setIfInBounds_toArray, List.set_cons_zero, List.set_cons_succ]
    refine wpAnyH_take (i := 6) (v := ?_) (by simp only [List.getElem?_toArray, List.getElem?_cons_zero, List.getElem?_cons_succ]; rfl) (by kernel_rfl) (by kernel_rfl) (by kernel_rfl) (fun _ _ _ h => h) (Or.inl ⟨by rfl, ?_⟩) HS0.out ?_
    case refine_2 => (intro ww hSw; obtain ⟨s1, s2, s3, s4, s5⟩ := hSw; go_simp; try with_reducible rfl)
    try simp only [Act.put, List.setIfInBounds_toArray, List.set_cons_zero, List.set_cons_succ]
    refine wpAnyH_take (i := 7) (v := ?_) (by simp only [List.getElem?_toArray, List.getElem?_cons_zero, List.getElem?_cons_succ]; rfl) (by kernel_rfl) (by kernel_rfl) (by kernel_rfl) (fun _ _ _ h => h) (Or.inl ⟨by rfl, ?_⟩) HS0.out ?_
    case refine_2 => (intro ww hSw; obtain ⟨s1, s2, s3, s4, s5⟩ := hSw; go_simp; try with_reducible rfl)
    try simp only [Act.put, List.setIfInBounds_toArray, List.set_cons_zero, List.set_cons_succ]
    refine wpAnyH_take (i := 8) (v := ?_) (by simp only [List.getElem?_toArray, List.getElem?_cons_zero, List.getElem?_cons_succ]; rfl) (by kernel_rfl) (by kernel_rfl) (by kernel_rfl) (fun _ _ _ h => h) (Or.inl ⟨by rfl, ?_⟩) HS0.out ?_
    case refine_2 => (intro ww hSw; obtain ⟨s1, s2, s3, s4, s5⟩ := hSw; go_simp; try with_reducible rfl)
    try simp only [Act.put, List.setIfInBounds_toArray, List.set_cons_zero, List.set_cons_succ]
    refine wpAnyH_take (i := 9) (v := ?_) (by simp only [List.getElem?_toArray, List.getElem?_cons_zero, List.getElem?_cons_succ]; rfl) (by kernel_rfl) (by kernel_rfl) (by kernel_rfl) (fun _ _ _ h => h) (Or.inl ⟨by rfl, ?_⟩) HS0.out ?_
    case refine_2 => (intro ww hSw; obtain ⟨s1, s2, s3, s4, s5⟩ := hSw; go_simp; try with_reducible rfl)
    try simp only [Act.put, List.setIfInBounds_toArray, List.set_cons_zero, List.set_cons_succ]
    refine wpAnyH_take (i := 10) (v := ?_) (by simp only [List.getElem?_toArray, List.getElem?_cons_zero, List.getElem?_cons_succ]; rfl) (by kernel_rfl) (by kernel_rfl) (by kernel_rfl) (fun _ _ _ h => h) (Or.inl ⟨by rfl, ?_⟩) HS0.out ?_
    case refine_2 => (intro ww hSw; obtain ⟨s1, s2, s3, s4, s5⟩ := hSw; go_simp; try with_reducible rfl)
    try simp only [Act.put, List.setIfInBounds_toArray, List.set_cons_zero, List.set_cons_succ]
    refine wpAnyH_take (i := 12) (v := ?_) (by simp only [List.getElem?_toArray, List.getElem?_cons_zero, List.getElem?_cons_succ]; rfl) (by kernel_rfl) (by kernel_rfl) (by kernel_rfl) (fun _ _ _ h => h) (Or.inl ⟨by rfl, ?_⟩) HS0.out ?_
    case refine_2 => (intro ww hSw; obtain ⟨s1, s2, s3, s4, s5⟩ := hSw; go_simp; try with_reducible rfl)
    try simp only [Act.put, List.setIfInBounds_toArray, List.set_cons_zero, List.set_cons_succ]
    refine wpAnyH_take (i := 13) (v := ?_) (by simp only [List.getElem?_toArray, List.getElem?_cons_zero, List.getElem?_cons_succ]; rfl) (by kernel_rfl) (by kernel_rfl) (by kernel_rfl) (fun _ _ _ h => h) (Or.inl ⟨by rfl, ?_⟩) HS0.out ?_
    case refine_2 => (intro ww hSw; obtain ⟨s1, s2, s3, s4, s5⟩ := hSw; go_simp; rfl)
    try simp only [Act.put, List.setIfInBounds_toArray, List.set_cons_zero, List.set_cons_succ]
    refine wpAnyH_take (i := 14) (v := ?_) (by simp only [List.getElem?_toArray, List.getElem?_cons_zero, List.getElem?_cons_succ]; rfl) (by kernel_rfl) (by kernel_rfl) (by kernel_rfl) (fun _ _ _ h => h) (Or.inl ⟨by rfl, ?_⟩) HS0.out ?_
    case refine_2 => (intro ww hSw; obtain ⟨s1, s2, s3, s4, s5⟩ := hSw; go_simp; try with_reducible rfl)
    try simp only [Act.put, List.setIfInBounds_toArray, List.set_cons_zero, List.set_cons_succ]
    refine wpAnyH_ready (rs := [11]) (by kernel_rfl) (by simp) ?_
    refine AllReadyH.cons (by simp only [List.getElem?_toArray, List.getElem?_cons_zero, List.getElem?_cons_succ]; rfl) (fun K' hK => ?_) AllReadyH.nil
    go_simp
    refine hK.out _ _ HS0.out (fun _ => ?_)
    clear hK
    try simp only [Act.put, List.setIfInBounds_toArray, List.set_cons_zero, List.set_cons_succ]
    refine wpAnyH_ready (rs := [15]) (by kernel_rfl) (by simp) ?_
    refine AllReadyH.cons (by simp only [List.getElem?_toArray, List.getElem?_cons_zero, List.getElem?_cons_succ]; rfl) (fun K' hK => ?_) AllReadyH.nil
    go_simp
    refine HCALL.out.mono ?_
    rintro e w4 ⟨⟨sr, rfl, hsr⟩, hb4⟩
    obtain ⟨or, cr, rfl⟩ := hsr.form
    dsimp only [tmv]
    have HS4 := Lib.hid (show _ ∧ _ ∧ _ ∧ _ ∧ _ from ⟨cell_next hb4 HS0.out.1, cell_next hb4 HS0.out.2.1, cell_next hb4 HS0.out.2.2.1, cell_next hb4 HS0.out.2.2.2.1, cell_next hb4 HS0.out.2.2.2.2⟩)
    have hg4 := (hb4.block g (Array.getElem?_eq_some_iff.1 HG2.out).1).trans HG2.out
    have z0 := (cells_of hg4 (k * 3)).trans HCC.out.1
    have z1 := (cells_of hg4 (k * 3 + 1)).trans HCC.out.2.1
    have z2 := (cells_of hg4 (k * 3 + 2)).trans HCC.out.2.2
    have e0 := frozen_of' hg4 (k * 3)
    have e1 := frozen_of' hg4 (k * 3 + 1)
    have e2 := frozen_of' hg4 (k * 3 + 2)
    have HG4 := Lib.hid hg4
    have HB4 := Lib.hid hb4
    have HSR := Lib.hid hsr
    clear hg4 hb4 hsr
    refine hK.out _ _ HS4.out (fun _ => ?_)
    clear hK
    try simp only [Act.put, List.setIfInBounds_toArray, List.set_cons_zero, List.set_cons_succ]
    refine wpAnyH_take (i := 16) (v := ?_) (by simp only [List.getElem?_toArray, List.getElem?_cons_zero, List.getElem?_cons_succ]; rfl) (by kernel_rfl) (by kernel_rfl) (by kernel_rfl) (fun _ _ _ h => h) (Or.inl ⟨by rfl, ?_⟩) HS4.out ?_
    case refine_2 => (intro ww hSw; obtain ⟨s1, s2, s3, s4, s5⟩ := hSw; go_simp; try with_reducible rfl)
    try simp only [Act.put, List.setIfInBounds_toArray, List.set_cons_zero, List.set_cons_succ]
    refine wpAnyH_ready (rs := [17]) (by kernel_rfl) (by simp) ?_
    refine AllReadyH.cons (by simp only [List.getElem?_toArray, List.getElem?_cons_zero, List.getElem?_cons_succ]; rfl) (fun K' hK => ?_) AllReadyH.nil
    go_simp
    have HS5 := Lib.hid (show _ ∧ _ ∧ _ ∧ _ ∧ _ from ⟨(far3 w4 g (k * 3) (k * 3 + 1) (k * 3 + 2) (.string (x'.put l u).nm) (.bool (x'.put l u).vr) (.slice or (x'.put l u).ts.length cr) ⟨w.heap.size, 2, none⟩ (by show w.heap.size ≠ g; omega)).trans HS4.out.1, (far3 w4 g (k * 3) (k * 3 + 1) (k * 3 + 2) (.string (x'.put l u).nm) (.bool (x'.put l u).vr) (.slice or (x'.put l u).ts.length cr) ⟨b3, o3, none⟩ (by show b3 ≠ g; omega)).trans HS4.out.2.1,
      (far3 w4 g (k * 3) (k * 3 + 1) (k * 3 + 2) (.string (x'.put l u).nm) (.bool (x'.put l u).vr) (.slice or (x'.put l u).ts.length cr) ⟨w.heap.size + 1, 0, none⟩ (by show w.heap.size + 1 ≠ g; omega)).trans HS4.out.2.2.1, (far3 w4 g (k * 3) (k * 3 + 1) (k * 3 + 2) (.string (x'.put l u).nm) (.bool (x'.put l u).vr) (.slice or (x'.put l u).ts.length cr) ⟨w.heap.size + 1, 1, none⟩ (by show w.heap.size + 1 ≠ g; omega)).trans HS4.out.2.2.2.1,
      (far3 w4 g (k * 3) (k * 3 + 1) (k * 3 + 2) (.string (x'.put l u).nm) (.bool (x'.put l u).vr) (.slice or (x'.put l u).ts.length cr) ⟨w.heap.size + 1, 2, none⟩ (by show w.heap.size + 1 ≠ g; omega)).trans HS4.out.2.2.2.2⟩)
    refine hK.out _ _ HS5.out (fun _ => ?_)
    clear hK
    try simp only [Act.put, List.setIfInBounds_toArray, List.set_cons_zero, List.set_cons_succ]
    refine wpAnyH_done (by kernel_rfl) ?_ _
    refine NoPanic.normal ?_
    generalize (if cv = 1 then (some ⟨b3, o3, none⟩ : Option Addr) else some ⟨b3, o3 + 1, none⟩) = adr
    have ht5 := (far3h w4 g (k * 3) (k * 3 + 1) (k * 3 + 2) (.string (x'.put l u).nm) (.bool (x'.put l u).vr) (.slice or (x'.put l u).ts.length cr) w.heap.size (by omega)).trans ((HB4.out.block w.heap.size (Array.getElem?_eq_some_iff.1 HT2.out).1).trans HT2.out)
    have hr5 := (far3h w4 g (k * 3) (k * 3 + 1) (k * 3 + 2) (.string (x'.put l u).nm) (.bool (x'.put l u).vr) (.slice or (x'.put l u).ts.length cr) (w.heap.size + 1 + 1) (by omega)).trans ((HB4.out.block (w.heap.size + 1 + 1) (Array.getElem?_eq_some_iff.1 HR2.out).1).trans HR2.out)
    have hg5 := set3 HG4.out (k * 3) (.string (x'.put l u).nm) (.bool (x'.put l u).vr) (.slice or (x'.put l u).ts.length cr)
    obtain ⟨⟨v0, v1, v2⟩, -⟩ := box3 ht5
    obtain ⟨⟨w0, w1', w2⟩, m0, m1, m2⟩ := box3 hr5
    have HR5 := Lib.hid hr5
    have HG5 := Lib.hid hg5
    clear ht5 hr5 hg5
    go_wp2_with fail
    have hput : t.put (↑k :: l) u = .mk t.nm t.vr (t.ts.set k (x'.put l u)) := by simp only [Tm.put, HKID.out, Int.toNat_natCast]
    obtain ⟨⟨q0, q1, q2⟩, -⟩ := box3 (box3_set HR5.out (.string t.nm) (.bool t.vr) (.slice (some ⟨g, 0, none⟩) t.ts.length cg))
    refine bodyPost_ret (v := .agg #[.string t.nm, .bool t.vr, .slice (some ⟨g, 0, none⟩) t.ts.length cg]) (by simp [results, Tryz.f106, go_sem, q0, q1, q2]) rfl ?_
    rw [hput]
    have hg6 := (heap_set3 _ (w.heap.size + 1 + 1) g (.string t.nm) (.bool t.vr) (.slice (some ⟨g, 0, none⟩) t.ts.length cg) (by omega)).trans HG5.out
    have hcl : ch.length = t.ts.length := by rw [← HCH.out, List.length_map]
    have hlen : (ch.set k (x'.put l u, Value.slice or (x'.put l u).ts.length cr, [])).length = t.ts.length := by rw [List.length_set, hcl]
    have hmap : (ch.set k (x'.put l u, Value.slice or (x'.put l u).ts.length cr, [])).map (·.1) = t.ts.set k (x'.put l u) := by rw [List.map_set, HCH.out]
    have hcur : (((cur.setIfInBounds (k * 3) (.string (x'.put l u).nm)).setIfInBounds (k * 3 + 1) (.bool (x'.put l u).vr)).setIfInBounds (k * 3 + 2) (.slice or (x'.put l u).ts.length cr)).toList.take ((ch.set k (x'.put l u, Value.slice or (x'.put l u).ts.length cr, [])).length * 3) = chCells (ch.set k (x'.put l u, Value.slice or (x'.put l u).ts.length cr, [])) := by
      rw [hlen, ← chCells_set ch k _ (x'.put l u, Value.slice or (x'.put l u).ts.length cr, []) HCX.out, ← HCUR.out]
      simp only [Array.toList_setIfInBounds, List.take_set]
    have hsz4 : w.heap.size + 1 + 1 + 1 ≤ w4.heap.size := by have := (Array.getElem?_eq_some_iff.1 HG4.out).1; omega
    have hbl : Below w.heap.size _ ((((((w4.setCell ⟨g, k * 3, none⟩ (.string (x'.put l u).nm)).setCell ⟨g, k * 3 + 1, none⟩ (.bool (x'.put l u).vr)).setCell ⟨g, k * 3 + 2, none⟩ (.slice or (x'.put l u).ts.length cr)).setCell ⟨w.heap.size + 1 + 1, 0, none⟩ (.string t.nm)).setCell ⟨w.heap.size + 1 + 1, 1, none⟩ (.bool t.vr)).setCell ⟨w.heap.size + 1 + 1, 2, none⟩ (.slice (some ⟨g, 0, none⟩) t.ts.length cg)) :=
      below_set3 (((((((HBA.out.mono (by simp <;> omega)).setCell (p := ⟨w.heap.size, 2, none⟩) (Nat.le_refl _) (.slice (some ⟨g, 0, none⟩) t.ts.length cg)).drew.trans (HB4.out.mono HB2.out.size)).setCell (p := ⟨g, k * 3, none⟩) (by show w.heap.size ≤ g; omega) _).setCell (p := ⟨g, k * 3 + 1, none⟩) (by show w.heap.size ≤ g; omega) _).setCell (p := ⟨g, k * 3 + 2, none⟩) (by show w.heap.size ≤ g; omega) _)) (Nat.le_add_right_of_le (Nat.le_add_right _ _)) _ _ _
    refine ⟨⟨.slice (some ⟨g, 0, none⟩) t.ts.length cg, rfl, ?_⟩, ?_⟩
    · have key := SlP.ofTake (p := fun b => (p b ∨ w.heap.size ≤ b) ∧ b < w4.heap.size) (cap := cg) (ch := ch.set k (x'.put l u, Value.slice or (x'.put l u).ts.length cr, [])) (by intro e; rw [e] at hlen; simp at hlen; omega) hg6 ⟨.inr (by omega), (Array.getElem?_eq_some_iff.1 HG4.out).1⟩ (by rw [hlen]; exact hcg) hcur (fun c hc => by
        rcases List.mem_or_eq_of_mem_set hc with hc | rfl
        · exact (HCS.out c hc).carry fun b hb => ⟨hbl.block b (HP0.out b hb), .inl hb, by have := HP0.out b hb; omega⟩
        · exact HSR.out.carry fun b hb => ⟨(heap_set3 _ _ _ _ _ _ (by rcases hb.1 with h | h; (have := HP0.out b h; omega); have := (Array.getElem?_eq_some_iff.1 HR2.out).1; omega)).trans (far3h _ _ _ _ _ _ _ _ _ (by rcases hb.1 with h | h; (have := HP0.out b h; omega); have := (Array.getElem?_eq_some_iff.1 HG2.out).1; omega)), hb.1.imp id (fun h => by have := HB2.out.size; omega), hb.2⟩)
      rw [hlen, hmap] at key
      exact key.carry fun b hb => ⟨rfl, hb.1, by simpa [World.setCell] using hb.2⟩
    · exact below_set3 ((((HB2.out.trans (HB4.out.mono HB2.out.size)).setCell (p := ⟨g, k * 3, none⟩) (by show w.heap.size ≤ g; omega) _).setCell (p := ⟨g, k * 3 + 1, none⟩) (by show w.heap.size ≤ g; omega) _).setCell (p := ⟨g, k * 3 + 2, none⟩) (by show w.heap.size ≤ g; omega) _) (by omega) _ _ _
end Go.Proofs.YtamddagmlanijaaGreat
