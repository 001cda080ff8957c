/- hasMalformed: it ends, with some answer, and changes nothing that was there. -/
import Derived.WalkKit
import Derived.ProofKit
import Derived.OpenShut
import Derived.Handy
import Derived.Lib.Hide
import Derived.WalkSmall
import Derived.BigQuiet
import Derived.Deep.RegionHeld3
import Derived.Deep.LoopGhost
import Derived.Lib.SmallJoins
import Derived.StillTailTactics
import Derived.Test.YtdnkommcnkbeeaaNm2
import Derived.Test.YtdnkommcnkbeeaaSz
import Derived.Test.YtdnkommcnkbeeaaPm
import Derived.Test.YtdnkommcnkbeeaaMem
namespace Go.Proofs.Ytdnkommcnkbeeaa
open Go.RowKit

/-- the cells of a stack of terms -/
def stCells (st : List (Tm × Value)) : List Value := st.flatMap fun p => [.string p.1.nm, .bool p.1.vr, p.2]
def stSize (st : List (Tm × Value)) : Nat := (st.map fun p => p.1.size).sum
theorem stCells_append (a b : List (Tm × Value)) : stCells (a ++ b) = stCells a ++ stCells b := by simp [stCells]
theorem stCells_length (a : List (Tm × Value)) : (stCells a).length = a.length * 3 := by
  induction a with
  | nil => rfl
  | cons p a ih => simp [stCells] at ih ⊢; omega
theorem stSize_append (a b : List (Tm × Value)) : stSize (a ++ b) = stSize a + stSize b := by simp [stSize]
theorem stSize_len (a : List (Tm × Value)) : a.length ≤ stSize a := by
  induction a with
  | nil => simp
  | cons p a ih => have := Tm.size_pos p.1; simp [stSize] at ih ⊢; omega
theorem stSize_zip (l : List Tm) (s : Nat → Value) (k : Nat) : stSize (l.zipIdx k |>.map fun x => (x.1, s x.2)) = Tm.sizes l := by
  induction l generalizing k with
  | nil => rfl
  | cons t l ih => have := ih (k + 1); simp [stSize, Tm.sizes] at this ⊢; omega
theorem stCells_get (st : List (Tm × Value)) (j : Nat) (v : Value) (h : (stCells st)[j]? = some v) :
    ∃ i p, st[i]? = some p ∧ ((j = i * 3 ∧ v = .string p.1.nm) ∨ (j = i * 3 + 1 ∧ v = .bool p.1.vr) ∨ (j = i * 3 + 2 ∧ v = p.2)) := by
  induction st generalizing j with
  | nil => simp [stCells] at h
  | cons p st ih =>
    match j, h with
    | 0, h => simp [stCells] at h; exact ⟨0, p, rfl, .inl ⟨rfl, h.symm⟩⟩
    | 1, h => simp [stCells] at h; exact ⟨0, p, rfl, .inr (.inl ⟨rfl, h.symm⟩)⟩
    | 2, h => simp [stCells] at h; exact ⟨0, p, rfl, .inr (.inr ⟨rfl, h.symm⟩)⟩
    | j + 3, h =>
      have h' : (stCells st)[j]? = some v := by simpa [stCells] using h
      obtain ⟨i, q, hq, hc⟩ := ih j h'
      refine ⟨i + 1, q, hq, ?_⟩
      rcases hc with ⟨h1, h2⟩ | ⟨h1, h2⟩ | ⟨h1, h2⟩
      · exact .inl ⟨by omega, h2⟩
      · exact .inr (.inl ⟨by omega, h2⟩)
      · exact .inr (.inr ⟨by omega, h2⟩)

/-- what is on the stack lies in memory -/
def StIs (n₀ : Nat) (W : World) (st : List (Tm × Value)) : Prop := ∀ p ∈ st, SlIs n₀ W p.1.ts p.2 ∧ p.1.bulk ≤ 1048576
theorem StIs.carry {n₀ : Nat} {A B : World} (h : Below n₀ A B) {st : List (Tm × Value)} (hs : StIs n₀ A st) : StIs n₀ B st := fun p hp => ⟨(hs p hp).1.carry h (Nat.le_refl _), (hs p hp).2⟩

/-- the arguments of a term, as they lie -/
theorem SlIs.args {n₀ : Nat} {W : World} {l : List Tm} {oa : Option Addr} {n cap : Nat} (h : SlIs n₀ W l (.slice oa n cap)) (hne : l ≠ []) (hb : Tm.bulks l ≤ 1048576) :
    ∃ (b o : Nat) (st : List (Tm × Value)), oa = some ⟨b, o, none⟩ ∧ AddrOk n₀ W ⟨b, o, none⟩ ∧ StIs n₀ W st ∧ st.length = l.length ∧ (stSize st = Tm.sizes l ∧ ∀ p ∈ st, p.1 ∈ l) ∧
      (∀ j u, (stCells st)[j]? = some u → W.cell? ((⟨b, o, none⟩ : Addr).add j) = some u) ∧ ∀ u ∈ stCells st, u.oneCell' = true := by
  cases h with
  | nil0 => exact absurd rfl hne
  | nil1 a cap => exact absurd rfl hne
  | row b o cap l s hl hbn hc cells hk hf =>
    have hget : ∀ i p, ((l.zipIdx).map fun x => (x.1, s x.2))[i]? = some p → ∃ t, l[i]? = some t ∧ p = (t, s i) := fun i p hp => by
      simp only [List.getElem?_map, List.getElem?_zipIdx, Option.map_map, Option.map_eq_some_iff] at hp
      obtain ⟨t, ht, hp⟩ := hp
      exact ⟨t, ht, by simpa using hp.symm⟩
    have hst : StIs n₀ W ((l.zipIdx).map fun x => (x.1, s x.2)) := fun p hp => by
      obtain ⟨i, hi⟩ := List.mem_iff_getElem?.1 hp
      obtain ⟨t, ht, rfl⟩ := hget i p hi
      exact ⟨hk i t ht, by have h2 := Tm.bulk_mem (List.mem_of_getElem? ht); show t.bulk ≤ _; omega⟩
    have h0 : l[0]? = some (l.head hne) := by cases l with | nil => exact absurd rfl hne | cons a l => rfl
    refine ⟨b, o, (l.zipIdx).map fun x => (x.1, s x.2), rfl, ⟨hbn, ?_, ?_⟩, hst, by simp, ⟨stSize_zip l s 0, fun p hp => by
      obtain ⟨i, hi⟩ := List.mem_iff_getElem?.1 hp
      obtain ⟨t, ht, rfl⟩ := hget i p hi
      exact List.mem_of_getElem? ht⟩, ?_, ?_⟩
    · have h1 := (cells 0 _ h0).1
      unfold World.cell? at h1
      cases hh : W.heap[b]? with
      | none => rw [hh] at h1; cases h1
      | some ob =>
        rw [hh] at h1
        cases ob with
        | cells c t fr => exact ⟨c, t, fr, rfl⟩
        | _ => cases h1
    · have := hf 0 (by have := List.length_pos_iff.2 hne; omega)
      simpa using this
    · intro j u hj
      obtain ⟨i, p, hp, hc⟩ := stCells_get _ j u hj
      obtain ⟨t, ht, rfl⟩ := hget i p hp
      obtain ⟨c1, c2, c3⟩ := cells i t ht
      have hadd : (⟨b, o, none⟩ : Addr).add j = ⟨b, o + j, none⟩ := by
        unfold Addr.add
        split
        · rename_i e; subst e; rfl
        · rfl
      rw [hadd]
      rcases hc with ⟨rfl, rfl⟩ | ⟨rfl, rfl⟩ | ⟨rfl, rfl⟩
      · exact c1
      · rw [← Nat.add_assoc]; exact c2
      · rw [← Nat.add_assoc]; exact c3
    · intro u hu
      obtain ⟨j, hj⟩ := List.mem_iff_getElem?.1 hu
      obtain ⟨i, p, hp, hc⟩ := stCells_get _ j u hj
      obtain ⟨t, ht, rfl⟩ := hget i p hp
      rcases hc with ⟨rfl, rfl⟩ | ⟨rfl, rfl⟩ | ⟨rfl, rfl⟩
      · rfl
      · rfl
      · obtain ⟨oa, cap, e, _⟩ := (hk i t ht).form
        rw [show (t, s i).2 = s i from rfl, e]; rfl

theorem info24 : (Try.prog.info? 34).map (fun i => (i.zero, i.size, i.bytes)) = some (some (.agg #[.string ⟨#[]⟩, .bool false, .slice none 0 0]), 3, 48) := by kernel_rfl

/-- every node has the form of a variable or of an applied symbol -/
inductive Tm.AllOk : Tm → Prop
  | mk (t : Tm) : nodeOk t.nm t.vr t.ts.length = true → (∀ u ∈ t.ts, u.AllOk) → t.AllOk
theorem Tm.AllOk.node {t : Tm} (h : t.AllOk) : nodeOk t.nm t.vr t.ts.length = true := by cases h with | mk _ h1 h2 => exact h1
theorem Tm.AllOk.kids {t : Tm} (h : t.AllOk) : ∀ u ∈ t.ts, u.AllOk := by cases h with | mk _ h1 h2 => exact h2

set_option maxHeartbeats 2000000 in
set_option maxRecDepth 100000 in
theorem malformed_full (t : Tm) (s : Value) (w : World) (hb : t.bulk ≤ 1048576) (hs : SlIs w.heap.size w t.ts s) :
    Calls Try.prog 64 #[tmv t s] w fun e w' => (∃ b, e = .returned (.bool b) ∧ (t.AllOk → b = false)) ∧ Below w.heap.size w w' := by
  obtain ⟨oa, cap, rfl, -⟩ := hs.form
  have hsz := Tm.size_bulk t
  have hmm := @run_makeMap Try.prog
  go_enter Try.func64, Try.ntmps64
  go_wp2_with fail
  go_loopg [4] t.size (fun k v wr => ∃ st, Hid (t.AllOk → ∀ p ∈ st, p.1.AllOk) ∧ k = stSize st ∧ stSize st ≤ 1048576 ∧ StIs w.heap.size wr st ∧ wr.ownsRow (w.heap.size + 1 + 1) 34 3 v st.length (stCells st) ∧ PMap w.heap.size wr (w.heap.size + 1) ∧ Below w.heap.size w wr ∧ w.heap.size + 2 < wr.heap.size)
  case atStart =>
    have hB : Below w.heap.size w (((w.alloc (Obj.cells #[Value.string t.nm, Value.bool t.vr, Value.slice oa t.ts.length cap] 34)).alloc (Obj.map #[] 0)).alloc (Obj.cells #[Value.string t.nm, Value.bool t.vr, Value.slice oa t.ts.length cap] 34)) := by go_grown
    refine ⟨[(t, .slice oa t.ts.length cap)], (show Hid (t.AllOk → ∀ p ∈ [(t, Value.slice oa t.ts.length cap)], p.1.AllOk) from Lib.hid fun h p hp => by rw [List.mem_singleton.1 hp]; exact h), by simp [stSize], by simp [stSize]; omega, ?_, ?_, ?_, hB, by simp⟩
    · intro p hp
      obtain rfl : p = (t, .slice oa t.ts.length cap) := by simpa using hp
      exact ⟨hs.carry hB (Nat.le_refl _), hb⟩
    · have h := World.ownsRow_lit (base := w.heap.size + 1 + 1) (e := 34) (size := 3) ((w.alloc (Obj.cells #[Value.string t.nm, Value.bool t.vr, Value.slice oa t.ts.length cap] 34)).alloc (Obj.map #[] 0)) #[Value.string t.nm, Value.bool t.vr, Value.slice oa t.ts.length cap] 1 (by simp) (by unfold maxLen; omega) rfl
      simpa [stCells] using h
    · refine ⟨#[], 0, ?_, by simp⟩
      have h1 := World.alloc_heap_new (w.alloc (Obj.cells #[Value.string t.nm, Value.bool t.vr, Value.slice oa t.ts.length cap] 34)) (Obj.map #[] 0)
      rw [World.size_alloc] at h1
      exact (Below.heap_alloc _ _ _ (by simp)).trans h1
  case round =>
    obtain ⟨st, HAO, hk, hle, hst, hown, hpm, hbw, hzw⟩ := hrel
    rcases List.eq_nil_or_concat st with rfl | ⟨st', x, rfl⟩
    · have hf := Joins.ownsRow_forms hown
      rcases hf with ⟨rfl, -⟩ | ⟨g, c, rfl⟩
      all_goals
        go_wp2_with fail
        go_ret
        exact ⟨⟨_, rfl, fun _ => rfl⟩, hbw⟩
    · obtain ⟨u, su⟩ := x
      rw [List.concat_eq_append] at hk hle hst hown HAO
      have HAO' : Hid (t.AllOk → ∀ p ∈ st', p.1.AllOk) := Lib.hid fun h p hp => HAO.out h p (by simp [hp])
      have HAU : Hid (t.AllOk → u.AllOk) := Lib.hid fun h => HAO.out h (u, su) (by simp)
      clear HAO
      obtain ⟨hus, hub⟩ := hst (u, su) (by simp)
      simp only at hus hub
      obtain ⟨oa2, cap2, rfl, -⟩ := hus.form
      have hst' : StIs w.heap.size wr st' := fun p hp => hst p (by simp [hp])
      rw [stSize_append] at hk hle
      have hx1 : stSize [(u, Value.slice oa2 u.ts.length cap2)] = u.size := by simp [stSize]
      rw [hx1] at hk hle
      have hl' := stSize_len st'
      have hnl : (st' ++ [(u, Value.slice oa2 u.ts.length cap2)]).length = st'.length + 1 := by simp
      rw [hnl, stCells_append] at hown
      have hlc := stCells_length st'
      obtain ⟨g, c, rfl⟩ := Joins.ownsRow_form hown (by omega)
      have hat := fun j hj => hown.cellAt j hj
      have c1 : wr.cell? ⟨g, st'.length * 3, none⟩ = some (.string u.nm) := by
        rw [hat _ (by omega), List.getElem?_append_right (by omega), hlc]; simp [stCells]
      have c2 : wr.cell? ⟨g, st'.length * 3 + 1, none⟩ = some (.bool u.vr) := by
        rw [hat _ (by omega), List.getElem?_append_right (by omega), hlc]; simp [stCells]
      have c3 : wr.cell? ⟨g, st'.length * 3 + 2, none⟩ = some (.slice oa2 u.ts.length cap2) := by
        rw [hat _ (by omega), List.getElem?_append_right (by omega), hlc]; simp [stCells]
      have hpop := ownsRow_pop hlc hown
      have hul := Tm.size_bulk u
      have hue := Tm.size_eq u
      have hub2 := Tm.bulk_eq u
      have hlu := Tm.length_sizes u.ts
      have hnm : u.nm.size ≤ 1048576 := by omega
      have hlu2 : u.ts.length ≤ 1048576 := by omega
      have HU := Lib.hid hue
      have HB := Lib.hid hub2
      have HK := Lib.hid hk
      have HST := Lib.hid hst'
      have HUS := Lib.hid hus
      have HPM := Lib.hid hpm
      have HPOP := Lib.hid hpop
      have hlen : st'.length + 1 ≤ c ∧ c ≤ maxLen := by
        obtain ⟨_, h⟩ := hpop
        rcases h with ⟨h, _⟩ | ⟨g1, c1, cur, hv, _, _, h1, h2, _⟩
        · cases h
        · cases hv
          obtain ⟨_, h⟩ := hown
          rcases h with ⟨h, _⟩ | ⟨g1, c1, cur, hv, _, _, h1, h2, _⟩
          · cases h
          · cases hv; exact ⟨h1, h2⟩
      obtain ⟨hlen1, hlen2⟩ := hlen
      have hlen3 : c ≤ 9223372036854775807 := by unfold maxLen at hlen2; omega
      clear hlen2
      clear hue hub2 hk hst' hus hpm hpop hat hnl hlc hst hx1 hown
      go_wp2_with fail
      refine (isFormed_any u.nm u.vr oa2 u.ts.length cap2 _ hnm hlu2).mono ?_
      rintro e w2 ⟨rfl, hb2⟩
      have b0 : w2.cell? ⟨wr.heap.size, 0, none⟩ = some (.string u.nm) := (hb2.cell (p := ⟨wr.heap.size, 0, none⟩) (by simp)).trans (cell_at_new wr _ _ 0)
      have b1 : w2.cell? ⟨wr.heap.size, 1, none⟩ = some (.bool u.vr) := (hb2.cell (p := ⟨wr.heap.size, 1, none⟩) (by simp)).trans (cell_at_new wr _ _ 1)
      have b2 : w2.cell? ⟨wr.heap.size, 2, none⟩ = some (.slice oa2 u.ts.length cap2) := (hb2.cell (p := ⟨wr.heap.size, 2, none⟩) (by simp)).trans (cell_at_new wr _ _ 2)
      have hz2 : wr.heap.size + 1 ≤ w2.heap.size := by have := hb2.size; simpa using this
      have hB2 : Below wr.heap.size wr w2 := (((Below.refl _ wr).alloc (Nat.le_refl _) _).trans (hb2.mono (by simp)))
      cases hno : nodeOk u.nm u.vr u.ts.length
      · have HNO := Lib.hid hno
        clear hno
        go_wp2_with fail
        go_ret
        exact ⟨⟨_, rfl, fun h => by have h1 := (HAU.out h).node; have h2 := HNO.out; rw [h1] at h2; cases h2⟩, hbw.trans (hB2.mono (by omega))⟩
      · clear hno
        have HB2 := Lib.hid hB2
        clear hB2 hb2
        by_cases hne : u.ts = []
        · have h0 : u.ts.length = 0 := by rw [hne]; rfl
          rw [h0] at b2 ⊢
          go_wp2_with fail
          go_quiet (fail)
          go_wp2_with fail
          have hgr := below_grown (below_drewN nq HB2.out)
          have hbB := below_drewN nq HB2.out
          have hup := Tm.size_pos u
          go_roundg (stSize st')
          case measure => have := HK.out; omega
          case rel => exact ⟨st', HAO', rfl, by omega, HST.out.carry (hbB.mono (by omega)), HPOP.out.kept hgr (.inr (by simp [Value.ownBlock])), HPM.out.kept (hbB.mono (by omega)) (hbB.block _ (by omega)), hbw.trans (hbB.mono (by omega)), by have := hbB.size; omega⟩
        · obtain ⟨b', o', stU, rfl, hak, hsu, hlu3, ⟨hsz3, hmem3⟩, hcl, hone⟩ := HUS.out.args hne (by have := HB.out; omega)
          have hpos : 0 < u.ts.length := List.length_pos_iff.2 hne
          have HPM2 : PMap w.heap.size w2.drew (w.heap.size + 1) := PMap.kept (A := wr) (B := w2.drew) HPM.out (HB2.out.mono (B' := w.heap.size) (by omega)).drew (HB2.out.block (w.heap.size + 1) (by omega))
          have HAK : AddrOk w.heap.size w2.drew ⟨b', o', none⟩ := hak.carry (A := wr) (B := w2.drew) (HB2.out.mono (B' := w.heap.size) (by omega)).drew
          obtain ⟨i24, hi, hz0, hz1, hz2'⟩ := info_parts info24
          obtain ⟨nn, kk, hrun⟩ := HPM2.lookup Try.underlying130 Try.underlying131 hi (by rw [hz1]; decide) Try.zeroValue3 HAK
          have HH := Lib.hid hak
          have HSU := Lib.hid hsu
          have HCL := Lib.hid hcl
          have HON := Lib.hid hone
          have HL3 := Lib.hid hlu3
          have HS3 := Lib.hid hsz3
          have HM3 := Lib.hid hmem3
          clear hmem3
          have HPMh := Lib.hid HPM2
          have HI := Lib.hid hi
          have HZ := Lib.hid hz1
          have HZ0 := Lib.hid hz0
          have HZ2 := Lib.hid hz2'
          clear hak hsu hcl hone hlu3 hsz3 HPM2 HAK hz0 hz1 hz2' hi
          go_wp2_with fail
          go_region_held3 (fun w' => w'.cell? ⟨wr.heap.size, 2, none⟩ = some (.slice (some ⟨b', o', none⟩) u.ts.length cap2)) (go_keep) (fail)
          rename_i hHeld
          clear hrun hHeld hmm
          have hB5 : Below wr.heap.size wr (w2.drewN (1 + kk)) := below_drewN (1 + kk) HB2.out
          by_cases hlt : nn < (u.ts.length : Int)
          · have HB5 := Lib.hid hB5
            obtain ⟨w5, hrun5, hpm5, hg5⟩ := PMap.update (w := w2.drewN (1 + kk + 1)) (n₀ := w.heap.size) HPMh.out (by omega) Try.underlying130 Try.underlying131 HI.out (by rw [HZ.out]; decide) (a := ⟨b', o', none⟩) (HH.out.carry ((below_drewN (1 + kk + 1) HB2.out).mono (by omega))) (u.ts.length : Int)
            have hsz5 : w2.heap.size ≤ w5.heap.size := hg5.size
            have b25 : w5.cell? ⟨wr.heap.size, 2, none⟩ = some (.slice (some ⟨b', o', none⟩) u.ts.length cap2) :=
              (World.cell?_of_block (w := w2.drewN (1 + kk + 1)) (a := ⟨wr.heap.size, 2, none⟩) (hg5.block wr.heap.size (by show _ < w2.heap.size; omega) (by simp; omega))).trans b2
            have hB6 : Below w.heap.size wr w5 := ((below_drewN (1 + kk + 1) HB2.out).mono (by omega)).grown hg5 (by show _ ≤ w2.heap.size; omega) (fun k e => by cases e; omega)
            have hbase := (HPOP.out.lt g rfl).1
            have HOWN5 := Lib.hid ((HPOP.out.kept (below_grown (below_drewN (1 + kk + 1) HB2.out)) (.inr (by simp [Value.ownBlock]))).kept hg5 (.inr (by simp [Value.ownBlock]; omega)))
            have HCL5 := Lib.hid (fun (j : Nat) (v : Value) (h : (stCells stU)[j]? = some v) => (hB6.cell (p := (⟨b', o', none⟩ : Addr).add j) (by have := HH.out.1; rw [add_blk]; exact this)).trans (HCL.out j v h))
            have HP5 := Lib.hid hpm5
            have HB6 := Lib.hid hB6
            clear hB5 hpm5 hg5 hB6
            have hstl := stSize_len stU
            have hlc := stCells_length stU
            have HLC := Lib.hid hlc
            have hzl : stSize stU + 1 = u.size := by rw [HS3.out, HU.out]; omega
            have HZL := Lib.hid hzl
            have hbnd : st'.length + u.ts.length ≤ 1048576 := by rw [HL3.out] at hstl; omega
            clear hlc hzl hstl
            go_wp2_with fail
            go_region_held3 (fun w' => w'.cell? ⟨wr.heap.size, 2, none⟩ = some (.slice (some ⟨b', o', none⟩) u.ts.length cap2)) (go_keep) (fail)
            rename_i hHeld1
            clear hHeld1 hrun5
            go_wp2_with (at_builtin; refine wpList_append_own _ rfl _ _ 32 rfl (w.heap.size + 1 + 1) 34 i24 (.agg #[.string ⟨#[]⟩, .bool false, .slice none 0 0]) 3 48 Try.underlying32 HI.out HZ0.out HZ.out HZ2.out rfl (by decide) _ _ _ rfl HOWN5.out ⟨b', o', none⟩ u.ts.length cap2 (stCells stU) rfl (by rw [HLC.out, HL3.out]) HCL5.out HON.out (by unfold maxLen; omega) (by omega) (by omega) ?_; intro v6 w6 hown6 hgrow6 _)
            have hrow : ∀ k, (Value.slice (some ⟨g, 0, none⟩) st'.length c).ownBlock = some k → k = g := fun k e => by simpa [Value.ownBlock, eq_comm] using e
            have h56 : Below w.heap.size w5 w6 := (Below.refl _ w5).grown hgrow6 (by omega) (fun k e => by have := hrow k e; omega)
            have h16 := HB6.out.trans h56
            have hz6 := h56.size
            go_roundg (stSize (st' ++ stU))
            case measure => have h1 := HK.out; have h2 := HZL.out; rw [stSize_append]; omega
            case rel =>
              refine ⟨st' ++ stU, Lib.hid (fun h p hp => (List.mem_append.1 hp).elim (HAO'.out h p) fun hp => (HAU.out h).kids _ (HM3.out p hp)), rfl, ?_, ?_, ?_, HP5.out.kept h56 (hgrow6.block _ (by omega) (fun e => by have := hrow _ e.symm; omega)), hbw.trans h16, by omega⟩
              · rw [stSize_append]; have h2 := HZL.out; omega
              · intro p hp
                rcases List.mem_append.1 hp with h | h
                · exact (HST.out.carry h16) p h
                · exact (HSU.out.carry h16) p h
              · rw [stCells_append, List.length_append, HL3.out]; exact hown6
          · have HB5 := Lib.hid hB5
            clear hB5
            go_wp2_with fail
            have hbB := HB5.out
            have hup := Tm.size_pos u
            go_roundg (stSize st')
            case measure => have := HK.out; omega
            case rel => exact ⟨st', HAO', rfl, by omega, HST.out.carry (hbB.mono (by omega)), HPOP.out.kept (below_grown hbB) (.inr (by simp [Value.ownBlock])), HPM.out.kept (hbB.mono (by omega)) (hbB.block _ (by omega)), hbw.trans (hbB.mono (by omega)), by have := hbB.size; omega⟩
theorem malformed_any (t : Tm) (s : Value) (w : World) (hb : t.bulk ≤ 1048576) (hs : SlIs w.heap.size w t.ts s) :
    Calls Try.prog 64 #[tmv t s] w fun e w' => (∃ b, e = .returned (.bool b)) ∧ Below w.heap.size w w' :=
  (malformed_full t s w hb hs).mono fun _ _ ⟨⟨b, h, _⟩, hb⟩ => ⟨⟨b, h⟩, hb⟩
end Go.Proofs.Ytdnkommcnkbeeaa
