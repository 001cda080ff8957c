/- apply, with the closure that it hands to replace. Apply of package term. -/
import Derived.WalkKit
import Derived.ProofKit
import Derived.OpenShut
import Derived.Handy
import Derived.Lib.Hide
import Derived.Test.YtdeaehkdhghfkaaDoorFit
import Derived.Test.YtdeaehkdhghfkaaDoorApp
import Derived.Deep.RegionHeld3
import Derived.Test.YtdeaehkdhghfkaaDoorAt
namespace Go.Proofs.YtdeaehkdhghfkaaDoor
open Go.RowKit Go.Maps

theorem SlOwn.isP {e : TypeId} {W : World} {p : Nat → Prop} {l : List Tm} {s : Value} {fp : List Nat} (h : SlOwn e W l s fp) (hn : ∀ k ∈ fp, p k) : SlP p W l s := by
  induction h with
  | nil => exact .nil0
  | row g ch cur hne hg hc hk ih =>
    have hlen : (ch.map (·.1)).length = ch.length := by simp
    have hcell : ∀ j, W.cell? ⟨g, j, none⟩ = (chCells ch)[j]? := fun j => by
      unfold World.cell?
      simp only [hg]
      rw [← hc, Array.getElem?_toList]; rfl
    have hch : ∀ i t, (ch.map (·.1))[i]? = some t → ∃ c : Child, ch[i]? = some c ∧ c.1 = t := fun i t ht => by rw [List.getElem?_map, Option.map_eq_some_iff] at ht; exact ht
    have key := SlP.row (p := p) (W := W) g 0 ch.length (ch.map (·.1)) (fun i => ((ch[i]?).map (·.2.1)).getD (.bool false)) (by simpa using hne) (hn g (by simp)) (by simp)
      (fun i t ht => by
        obtain ⟨c, hci, rfl⟩ := hch i t ht
        obtain ⟨h1, h2, h3⟩ := chCells_at ch i c hci
        simp only [Nat.zero_add, hcell, hci, Option.map_some, Option.getD_some]
        exact ⟨h1, h2, h3⟩)
      (fun i t ht => by
        obtain ⟨c, hci, rfl⟩ := hch i t ht
        have hm := List.mem_of_getElem? hci
        simp only [hci, Option.map_some, Option.getD_some]
        exact ih c hm fun k hk => hn k (List.mem_cons_of_mem _ (List.mem_flatMap.2 ⟨c, hm, hk⟩)))
      (fun i _ => by unfold World.frozen?; simp [hg])
    rw [hlen] at key
    exact key

/-- what the closure needs of the world -/
def AplI (n m bx mb : Nat) (bl : List Bd) (_ : Unit) (W : World) : Prop := n ≤ m ∧ bx < m ∧ mb < m ∧ W.heap[bx]? = some (.cells #[.map (some mb)] 116 (0, 0)) ∧ ImgMap n mb W bl
theorem AplI.stable {n m bx mb : Nat} {bl : List Bd} {u : Unit} {A B : World} (h : AplI n m bx mb bl u A) (hb : Below m A B) : AplI n m bx mb bl u B := by
  obtain ⟨h0, h1, h2, h3, h4⟩ := h
  exact ⟨h0, h1, h2, (hb.block bx h1).trans h3, h4.carry (hb.mono h0) (Nat.le_refl _) (hb.block mb h2)⟩

set_option maxRecDepth 100000 in
set_option maxHeartbeats 2000000 in
theorem apply1_any (bl : List Bd) (hok : SubOk bl) (hbk : bdBulk bl ≤ 1048576) (n m bx mb : Nat) (nm : ByteArray) (W : World) (hI : AplI n m bx mb bl () W) (hmW : m ≤ W.heap.size) (hnm : nm.size ≤ 1048576) :
    Calls Tryd.prog 114 #[.string nm, .pointer (some ⟨bx, 0, none⟩)] W fun e W' => Fresh 24 W W' (imageOf bl nm.data.toList) e ∧ AplI n m bx mb bl () W' ∧ Below W.heap.size W W' := by
  have HI := Lib.hid hI
  obtain ⟨h0, h1, h2, h3, D, hown, hinv⟩ := hI
  have hbc : (W.alloc (.cells #[.string ⟨#[]⟩, .bool false, .slice none 0 0] 24)).cell? ⟨bx, 0, none⟩ = some (.map (some mb)) := by have := cells_of' ((Below.heap_alloc W (.cells #[.string ⟨#[]⟩, .bool false, .slice none 0 0] 24) bx (by omega)).trans h3) 0; simpa using this
  have HKEY : Hid (keyOf Tryd.prog 9 (.string nm) = some (.string nm.data.toList)) := Lib.hid (WideMaps.keyOf_string_mk Tryd.underlying9 (by unfold maxLen; omega))
  have HOWN := Lib.hid (hown.alloc (.cells #[.string ⟨#[]⟩, .bool false, .slice none 0 0] 24))
  by_cases hin : nm.data.toList ∈ bl.map (·.1)
  · obtain ⟨p, hp, hpe⟩ := List.mem_map.1 hin
    obtain ⟨sp, hat, hsp⟩ := hinv.at_ p hp
    rw [hpe] at hat
    obtain ⟨os, cs, rfl, -⟩ := hsp.form
    have HAT := Lib.hid hat
    have HHAS : Hid (Maps.has D (.string nm.data.toList) = true) := Lib.hid (by rw [hinv.has]; simpa using hin)
    have HIM : Hid (imageOf bl nm.data.toList = p.2) := Lib.hid (by rw [← hpe]; exact imageOf_in hok.nodup hp)
    have hpb : p.2.bulk ≤ 1048576 := by have := bdBulk_mem hp; omega
    have HCL := Lib.hid (fun V (hV : Below W.heap.size W V) => clone_any p.2 (.slice os p.2.ts.length cs) V (hsp.carry (hV.mono (by omega)) (by have := hV.size; omega)) hpb (hok.terms p hp).1.bare)
    clear hp hpe hat hsp hinv hin hown h3
    go_enter Tryd.func114, Tryd.ntmps114
    go_wp2_with (refine look_hit rfl (.tmp 7) (.tmp 8) rfl mb bl.length D rfl HOWN.out (.string nm) (.string nm.data.toList) rfl HKEY.out (.agg #[.string p.2.nm, .bool p.2.vr, .slice os p.2.ts.length cs, .int .i64 p.2.size, .int .i64 p.2.depth]) HAT.out HHAS.out ?_)
    refine (HCL.out _ (by go_grown)).mono ?_
    rintro e w1 ⟨⟨sl, fp, rfl, ho, hnd, hf⟩, hb1⟩
    obtain ⟨o1, n1, c1, rfl⟩ := ho.form
    dsimp only [tmv]
    have hr := (hb1.block W.heap.size (by simp; omega)).trans ((Below.heap_alloc _ _ _ (by simp)).trans (heap_new_at _ _ _ rfl))
    obtain ⟨⟨r0, r1, r2⟩, f0, f1, f2⟩ := box3 hr
    have HR := Lib.hid hr
    have HO := Lib.hid ho
    have HND := Lib.hid hnd
    have HF := Lib.hid hf
    have HBW : Hid (Below W.heap.size W w1) := Lib.hid ((show Below W.heap.size W ((W.alloc (.cells #[.string ⟨#[]⟩, .bool false, .slice none 0 0] 24)).alloc (.cells #[.string p.2.nm, .bool p.2.vr, .slice os p.2.ts.length cs, .int .i64 p.2.size, .int .i64 p.2.depth] 119)) from by go_grown).trans (hb1.mono (by simp; omega)))
    clear hr ho hnd hf hb1
    go_wp2_with fail
    have hq := box3_set HR.out (.string p.2.nm) (.bool p.2.vr) (.slice o1 n1 c1)
    obtain ⟨⟨q0, q1, q2⟩, -⟩ := box3 hq
    have hbf := below_set3 HBW.out (Nat.le_refl _) (.string p.2.nm) (.bool p.2.vr) (.slice o1 n1 c1)
    refine bodyPost_ret (v := tmv p.2 (.slice o1 n1 c1)) (by simp [results, Tryd.f114, go_sem, q0, q1, q2, tmv]) rfl ?_
    rw [HIM.out]
    exact ⟨⟨_, fp, rfl, HO.out.carry fun k hk => heap_set3 _ _ _ _ _ _ (by have := HF.out k hk; simp at this; omega), HND.out, fun b hb => by have := HF.out b hb; simp at this; omega⟩, HI.out.stable (hbf.mono hmW), hbf⟩
  · have HHAS : Hid (Maps.has D (.string nm.data.toList) = false) := Lib.hid (by rw [hinv.has]; simpa using hin)
    have HIM : Hid (imageOf bl nm.data.toList = .mk nm true []) := Lib.hid (by rw [imageOf_out hin, kb_key])
    clear hinv hin hown h3
    go_enter Tryd.func114, Tryd.ntmps114
    go_wp2_with (refine look_miss rfl (.tmp 7) (.tmp 8) rfl mb bl.length D rfl HOWN.out (.string nm) (.string nm.data.toList) rfl HKEY.out HHAS.out ?_)
    refine (variable_any _ _).mono ?_
    rintro e w1 ⟨rfl, hb1⟩
    dsimp only [tmv, Tm.nm, Tm.vr]
    have hr := (hb1.block W.heap.size (by simp; omega)).trans ((Below.heap_alloc _ _ _ (by simp)).trans (heap_new_at _ _ _ rfl))
    obtain ⟨⟨r0, r1, r2⟩, f0, f1, f2⟩ := box3 hr
    have HR := Lib.hid hr
    have HBW : Hid (Below W.heap.size W w1) := Lib.hid ((show Below W.heap.size W ((W.alloc (.cells #[.string ⟨#[]⟩, .bool false, .slice none 0 0] 24)).alloc (.cells #[.string ⟨#[]⟩, .bool false, .slice none 0 0, .int .i64 0, .int .i64 0] 119)) from by go_grown).trans (hb1.mono (by simp; omega)))
    clear hr hb1
    go_wp2_with fail
    have hq := box3_set HR.out (.string nm) (.bool true) (.slice none 0 0)
    obtain ⟨⟨q0, q1, q2⟩, -⟩ := box3 hq
    have hbf := below_set3 HBW.out (Nat.le_refl _) (.string nm) (.bool true) (.slice none 0 0)
    refine bodyPost_ret (v := tmv (.mk nm true []) (.slice none 0 0)) (by simp [results, Tryd.f114, go_sem, q0, q1, q2, tmv, Tm.nm, Tm.vr]) rfl ?_
    rw [HIM.out]
    exact ⟨⟨_, [], rfl, .nil, by simp, by simp⟩, HI.out.stable (hbf.mono hmW), hbf⟩

set_option maxRecDepth 100000 in
set_option maxHeartbeats 2000000 in
theorem apply_any (bl : List Bd) (hok : SubOk bl) (hbk : bdBulk bl ≤ 1048576) (n mb : Nat) (t : Tm) (s : Value) (w : World) (hn : n ≤ w.heap.size) (hmb : mb < w.heap.size) (hm : ImgMap n mb w bl) (hs : SlIs w.heap.size w t.ts s) (hb : t.bulk ≤ 1048576) (ht : t.ok) :
    Calls Tryd.prog 87 #[.map (some mb), tmv t s] w fun e w' => (∃ u c sl, e = .returned (.tuple #[tmv u sl, .int .i64 c]) ∧ SlP (fun b => w.heap.size ≤ b) w' u.ts sl ∧
      ((c = 0 ∧ (apB bl t).size ≤ 4000 ∧ (apB bl t).depth ≤ 200 ∧ u = apB bl t) ∨ (c = 3 ∧ ¬ ((apB bl t).size ≤ 4000 ∧ (apB bl t).depth ≤ 200) ∧ u = Tm.none))) ∧ Below w.heap.size w w' := by
  obtain ⟨oa, ca, rfl, -⟩ := hs.form
  obtain ⟨W0, hW0⟩ : ∃ W, W = ((w.alloc (.cells #[.map (some mb)] 116)).alloc (.cells #[.string t.nm, .bool t.vr, .slice oa t.ts.length ca] 24)).alloc (.cells #[.string ⟨#[]⟩, .bool false, .slice none 0 0] 24) := ⟨_, rfl⟩
  have hb0 : Below w.heap.size w W0 := by rw [hW0]; go_grown
  have hz0 : W0.heap.size = w.heap.size + 3 := by rw [hW0]; simp
  have hmx : W0.heap[w.heap.size]? = some (.cells #[.map (some mb)] 116 (0, 0)) := by rw [hW0]; exact (Below.heap_alloc _ _ _ (by simp; omega)).trans ((Below.heap_alloc _ _ _ (by simp)).trans (heap_new_at _ _ _ rfl))
  have htx : W0.heap[w.heap.size + 1]? = some (.cells #[.string t.nm, .bool t.vr, .slice oa t.ts.length ca] 24 (0, 0)) := by rw [hW0]; exact (Below.heap_alloc _ _ _ (by simp)).trans (heap_new_at _ _ _ (by simp))
  have hrx : W0.heap[w.heap.size + 2]? = some (.cells #[.string ⟨#[]⟩, .bool false, .slice none 0 0] 24 (0, 0)) := by rw [hW0]; exact heap_new_at _ _ _ (by simp)
  have HFIT := Lib.hid (fits_any bl hok mb t (.slice oa t.ts.length ca) W0 n (by omega) (by omega) (hm.carry (hb0.mono hn) (Nat.le_refl _) (hb0.block mb hmb)) (hs.carry hb0 hb0.size) hb ht)
  have HM := Lib.hid hm
  have HS := Lib.hid hs
  have HOK := Lib.hid hok
  have HB0 := Lib.hid hb0
  have HRX := Lib.hid hrx
  have HTX := Lib.hid htx
  have HMX := Lib.hid hmx
  have HT := Lib.hid ht
  clear hm hs hok hb0 hrx htx hmx ht
  go_enter Tryd.func87, Tryd.ntmps87
  rw [show tmv t (.slice oa t.ts.length ca) = .agg #[.string t.nm, .bool t.vr, .slice oa t.ts.length ca] from rfl]
  go_wp2_with fail
  rw [← hW0]
  clear hW0
  refine HFIT.out.mono ?_
  rintro e w1 ⟨rfl, hb1⟩
  clear HFIT
  have HB1 := Lib.hid (HB0.out.trans (hb1.mono (by omega)))
  have hr1 := (hb1.block _ (by omega)).trans HRX.out
  have ht1 := (hb1.block _ (by omega)).trans HTX.out
  have hm1 := (hb1.block _ (by omega)).trans HMX.out
  have hz1 := hb1.size
  obtain ⟨⟨r0, r1, r2⟩, f0, f1, f2⟩ := box3 hr1
  obtain ⟨⟨t0, t1, t2⟩, -⟩ := box3 ht1
  have HR1 := Lib.hid hr1
  have HM1 := Lib.hid hm1
  clear hr1 ht1 hm1 hb1 HTX HMX HRX
  by_cases hf : (apB bl t).size ≤ 4000 ∧ (apB bl t).depth ≤ 200
  · rw [decide_eq_true hf]
    have HF := Lib.hid hf
    clear hf
    have hrep := replace_any (apImg bl) 114 #[.pointer (some ⟨w.heap.size, 0, none⟩)] Tryd.call114 w1.heap.size w1.heap.size (Nat.le_refl _) (AplI w.heap.size w1.heap.size w.heap.size mb bl) (fun _ _ _ h k => h.stable k) (fun _ => 0) t.size (fun _ _ => by omega)
      (Lib.hid fun s nm V hI hV hnm _ => (apply1_any bl HOK.out hbk w.heap.size w1.heap.size w.heap.size mb nm V hI hV hnm).mono fun e V' h => ⟨h.1, h.2.1, Fr.of_below h.2.2⟩) t () (.slice oa t.ts.length ca) w1 (by omega) hb (HS.out.carry HB1.out (by omega)) (Nat.le_refl _)
      ⟨by omega, by omega, by omega, HM1.out, HM.out.carry (HB1.out.mono hn) hn (HB1.out.block mb hmb)⟩
    have HREP := Lib.hid hrep
    clear hrep
    go_wp2_with fail
    refine HREP.out.mono ?_
    rintro e w2 ⟨⟨sl, fp, rfl, ho, hnd, hfp⟩, -, hfr⟩
    rw [show (t.rep (apImg bl) ()).1 = apB bl t from rfl] at ho ⊢
    obtain ⟨o2, n2, c2, rfl⟩ := ho.form
    dsimp only [tmv]
    have hb2 := hfr.all
    have hz2 := hb2.size
    have hr2 := (Below.heap_alloc w2 (.cells #[.string (apB bl t).nm, .bool (apB bl t).vr, .slice o2 n2 c2] 24) (w.heap.size + 2) (by omega)).trans ((hb2.block _ (by omega)).trans HR1.out)
    obtain ⟨⟨q0, q1, q2⟩, g0, g1, g2⟩ := box3 hr2
    have HR2 := Lib.hid hr2
    have HO := Lib.hid ho
    have HFP := Lib.hid hfp
    have HB2 := Lib.hid (HB1.out.trans (hb2.mono (by omega)))
    clear hr2 ho hfp hb2 hfr hnd HREP
    go_wp2_with fail
    have hq := box3_set HR2.out (.string (apB bl t).nm) (.bool (apB bl t).vr) (.slice o2 n2 c2)
    obtain ⟨⟨p0, p1, p2⟩, -⟩ := box3 hq
    refine bodyPost_ret (v := .tuple #[tmv (apB bl t) (.slice o2 n2 c2), .int .i64 0]) (by simp [results, Tryd.f87, go_sem, p0, p1, p2, tmv]) rfl ?_
    refine ⟨⟨_, 0, _, rfl, ?_, .inl ⟨rfl, HF.out.1, HF.out.2, rfl⟩⟩, below_set3 (HB2.out.alloc (by omega) _) (by omega) _ _ _⟩
    have h1 := HO.out.isP (p := fun b => w1.heap.size ≤ b ∧ b < w2.heap.size) (fun k hk => ⟨HFP.out k hk, HO.out.lt k hk⟩)
    exact h1.carry fun b hb => ⟨(heap_set3 _ _ _ _ _ _ (by omega)).trans (Below.heap_alloc _ _ _ hb.2), by omega⟩
  · rw [decide_eq_false hf]
    have HF := Lib.hid hf
    clear hf
    go_wp2_with fail
    have hq := box3_set HR1.out (.string ⟨#[]⟩) (.bool false) (.slice none 0 0)
    obtain ⟨⟨p0, p1, p2⟩, -⟩ := box3 hq
    refine bodyPost_ret (v := .tuple #[tmv Tm.none (.slice none 0 0), .int .i64 3]) (by simp [results, Tryd.f87, go_sem, p0, p1, p2, tmv, Tm.nm, Tm.vr]) rfl ?_
    exact ⟨⟨Tm.none, 3, _, rfl, .nil0, .inr ⟨rfl, HF.out, rfl⟩⟩, below_set3 HB1.out (by omega) _ _ _⟩
end Go.Proofs.YtdeaehkdhghfkaaDoor
namespace Go.Proofs.YtdeaehkdhghfkaaDoor
open Go.RowKit Go.Maps

def Tm.small (t : Tm) : Prop := t.size ≤ 4000 ∧ t.depth ≤ 200

set_option maxRecDepth 100000 in
set_option maxHeartbeats 4000000 in
theorem tapply_any (bl : List Bd) (v : Value) (t : Tm) (s : Value) (w : World) (hl : BindsIs w.heap.size w bl v) (hbk : bdBulk bl ≤ 1048576) (hs : SlIs w.heap.size w t.ts s) (hb : t.bulk ≤ 1048576) :
    Calls Tryd.prog 45 #[v, tmv t s] w fun e w' => ∃ u c, TmNum w w' e u c ∧ ((c = 0 ∧ SubOk bl ∧ t.ok ∧ (apB bl t).small ∧ u = apB bl t) ∨ (c ≠ 0 ∧ u = Tm.none ∧ (SubOk bl → t.ok → ¬ (apB bl t).small ∧ c = 3))) := by
  obtain ⟨oa, ca, rfl, -⟩ := hs.form
  have hl' := hl
  obtain ⟨ov, cv, rfl, -, -⟩ := hl'
  obtain ⟨W0, hW0⟩ : ∃ W, W = (w.alloc (.cells #[.string t.nm, .bool t.vr, .slice oa t.ts.length ca] 24)).alloc (.cells #[.string ⟨#[]⟩, .bool false, .slice none 0 0] 24) := ⟨_, rfl⟩
  have hb0 : Below w.heap.size w W0 := by rw [hW0]; go_grown
  have hz0 : W0.heap.size = w.heap.size + 2 := by rw [hW0]; simp
  have htx : W0.heap[w.heap.size]? = some (.cells #[.string t.nm, .bool t.vr, .slice oa t.ts.length ca] 24 (0, 0)) := by rw [hW0]; exact (Below.heap_alloc _ _ _ (by simp)).trans (heap_new_at _ _ _ rfl)
  have hrx : W0.heap[w.heap.size + 1]? = some (.cells #[.string ⟨#[]⟩, .bool false, .slice none 0 0] 24 (0, 0)) := by rw [hW0]; exact heap_new_at _ _ _ (by simp)
  have HL := Lib.hid hl
  have HS := Lib.hid hs
  have HB0 := Lib.hid hb0
  have HRX := Lib.hid hrx
  have HTX := Lib.hid htx
  clear hl hs hb0 hrx htx
  go_enter Tryd.func45, Tryd.ntmps45
  rw [show tmv t (.slice oa t.ts.length ca) = .agg #[.string t.nm, .bool t.vr, .slice oa t.ts.length ca] from rfl]
  go_wp2_with fail
  rw [← hW0]
  clear hW0
  refine (checkSubst_any bl _ W0 (HL.out.carry HB0.out HB0.out.size) hbk).mono ?_
  rintro e w1 ⟨⟨c1, rfl, hc1⟩, hb1⟩
  have HB1 := Lib.hid (HB0.out.trans (hb1.mono (by omega)))
  have hr1 := (hb1.block _ (by omega)).trans HRX.out
  have ht1 := (hb1.block _ (by omega)).trans HTX.out
  have hz1 := hb1.size
  obtain ⟨⟨r0, r1, r2⟩, f0, f1, f2⟩ := box3 hr1
  obtain ⟨⟨t0, t1, t2⟩, -⟩ := box3 ht1
  have HR1 := Lib.hid hr1
  have HT1 := Lib.hid ht1
  have HC1 := Lib.hid hc1
  clear hr1 ht1 hb1 hc1 HTX HRX
  by_cases h1 : c1 = 0
  · subst h1
    have HOK := Lib.hid (HC1.out.1 rfl)
    go_wp2_with fail
    refine (check_any t _ _ (HS.out.carry HB1.out (by omega)) hb).mono ?_
    rintro e w2 ⟨⟨c2, rfl, hc2⟩, hb2⟩
    have HB2 := Lib.hid (HB1.out.trans (hb2.mono (by omega)))
    have hr2 := (hb2.block _ (by omega)).trans HR1.out
    have ht2 := (hb2.block _ (by omega)).trans HT1.out
    have hz2 := hb2.size
    clear r0 r1 r2 f0 f1 f2 t0 t1 t2
    obtain ⟨⟨r0, r1, r2⟩, f0, f1, f2⟩ := box3 hr2
    obtain ⟨⟨t0, t1, t2⟩, -⟩ := box3 ht2
    have HR2 := Lib.hid hr2
    have HT2 := Lib.hid ht2
    have HC2 := Lib.hid hc2
    clear hr2 ht2 hb2 hc2
    by_cases h2 : c2 = 0
    · subst h2
      have HTO := Lib.hid (HC2.out.1 rfl)
      have HZW : Hid (w.heap.size + 2 ≤ w2.drew.heap.size) := Lib.hid (by show _ ≤ w2.heap.size; omega)
      have HBD : Hid (Below w.heap.size w w2.drew) := Lib.hid (HB2.out.trans ((Below.refl w2.heap.size w2).drew.mono (by omega)))
      have HRD : Hid (w2.drew.heap[w.heap.size + 1]? = some (.cells #[.string ⟨#[]⟩, .bool false, .slice none 0 0] 24 (0, 0))) := Lib.hid HR2.out
      have HTD : Hid (w2.drew.heap[w.heap.size]? = some (.cells #[.string t.nm, .bool t.vr, .slice oa t.ts.length ca] 24 (0, 0))) := Lib.hid HT2.out
      go_wp2_with fail
      go_region_held3 (fun w' => w'.cell? ⟨w.heap.size, 0, none⟩ = some (.string t.nm) ∧ w'.cell? ⟨w.heap.size, 1, none⟩ = some (.bool t.vr) ∧ w'.cell? ⟨w.heap.size, 2, none⟩ = some (.slice oa t.ts.length ca)) (go_keep) ((first
        | (go_at_call 87
           refine (apply_any bl HOK.out hbk w2.drew.heap.size w2.drew.heap.size t _ w3 HZ3.out HZ3'.out HIM3.out (HS.out.carry HB3.out HB3.out.size) hb HTO.out).mono ?_
           rintro e w4 ⟨⟨u, c4, sl4, rfl, h4, hc4⟩, hb4⟩
           obtain ⟨o4, k4, rfl⟩ := h4.form
           dsimp only [tmv]
           have HB4 := Lib.hid (HB3.out.trans (hb4.mono HB3.out.size))
           have hr4 := (hb4.block _ (by have := HZ3.out; have := HZW.out; omega)).trans HR3.out
           have ht4 := (hb4.block _ (by have := HZ3.out; have := HZW.out; omega)).trans HT3.out
           obtain ⟨⟨r0, r1, r2⟩, f0, f1, f2⟩ := box3 hr4
           obtain ⟨⟨t0, t1, t2⟩, -⟩ := box3 ht4
           have HR4 := Lib.hid hr4
           have HT4 := Lib.hid ht4
           have H4 := Lib.hid h4
           have HC4 := Lib.hid hc4
           have HZ4 := Lib.hid hb4.size
           clear hr4 ht4 h4 hc4 hb4)
        | (go_at_call 88
           refine (images_any bl _ w2.drew (HL.out.carry HBD.out HBD.out.size) hbk HOK.out.nodup).mono ?_
           rintro e w3 ⟨⟨rfl, him⟩, hb3⟩
           have hz3 := hb3.size
           have HIM3 := Lib.hid him
           have HZ3 := Lib.hid hz3
           have HZ3' : Hid (w2.drew.heap.size < w3.heap.size) := Lib.hid (by obtain ⟨D, ⟨es, cl, hes, _⟩, _⟩ := him; exact (Array.getElem?_eq_some_iff.1 hes).1)
           have HB3 := Lib.hid (HBD.out.trans (hb3.mono HBD.out.size))
           have hr3 := (hb3.block (w.heap.size + 1) (by have := HZW.out; omega)).trans HRD.out
           have ht3 := (hb3.block w.heap.size (by have := HZW.out; omega)).trans HTD.out
           obtain ⟨⟨r0, r1, r2⟩, f0, f1, f2⟩ := box3 hr3
           obtain ⟨⟨t0, t1, t2⟩, -⟩ := box3 ht3
           have HR3 := Lib.hid hr3
           have HT3 := Lib.hid ht3
           clear hr3 ht3 him hb3 hz3)
        ))
      go_wp2_with fail
      have hq := box3_set HR4.out (.string u.nm) (.bool u.vr) (.slice o4 u.ts.length k4)
      obtain ⟨⟨q0, q1, q2⟩, -⟩ := box3 hq
      refine bodyPost_ret (v := .tuple #[tmv u (.slice o4 u.ts.length k4), .int .i64 c4]) (by simp [results, Tryd.f45, go_sem, q0, q1, q2, tmv]) rfl ?_
      refine ⟨u, c4, ⟨⟨_, rfl, ?_⟩, below_set3 HB4.out (by omega) _ _ _⟩, ?_⟩
      · refine SlP.toIs (H4.out.lt.carry (q := fun b => b < w4.heap.size) fun b hb => ⟨heap_set3 _ _ _ _ _ _ (by have := HZ3.out; have := HZW.out; omega), hb.2⟩) (fun b hb => by simpa [World.setCell] using hb)
      · rcases HC4.out with ⟨h0, h1, h2, h3⟩ | ⟨h0, h1, h2⟩
        · exact .inl ⟨h0, HOK.out, HTO.out, ⟨h1, h2⟩, h3⟩
        · exact .inr ⟨by omega, h2, fun _ _ => ⟨h1, h0⟩⟩
    · have h2' : (c2 != 0) = true := by rw [bne_iff_ne]; exact h2
      have H2 := Lib.hid h2
      clear h2
      go_wp2_with fail
      have hq := box3_set HR2.out (.string ⟨#[]⟩) (.bool false) (.slice none 0 0)
      obtain ⟨⟨q0, q1, q2⟩, -⟩ := box3 hq
      refine bodyPost_ret (v := .tuple #[tmv Tm.none (.slice none 0 0), .int .i64 c2]) (by simp [results, Tryd.f45, go_sem, q0, q1, q2, tmv, Tm.nm, Tm.vr]) rfl ?_
      exact ⟨Tm.none, c2, ⟨⟨_, rfl, .nil0⟩, below_set3 HB2.out (by omega) _ _ _⟩, .inr ⟨H2.out, rfl, fun _ h => absurd (HC2.out.2 h) H2.out⟩⟩
  · have h1' : (c1 != 0) = true := by rw [bne_iff_ne]; exact h1
    have H1 := Lib.hid h1
    clear h1
    go_wp2_with fail
    have hq := box3_set HR1.out (.string ⟨#[]⟩) (.bool false) (.slice none 0 0)
    obtain ⟨⟨q0, q1, q2⟩, -⟩ := box3 hq
    refine bodyPost_ret (v := .tuple #[tmv Tm.none (.slice none 0 0), .int .i64 c1]) (by simp [results, Tryd.f45, go_sem, q0, q1, q2, tmv, Tm.nm, Tm.vr]) rfl ?_
    exact ⟨Tm.none, c1, ⟨⟨_, rfl, .nil0⟩, below_set3 HB1.out (by omega) _ _ _⟩, .inr ⟨H1.out, rfl, fun h _ => absurd (HC1.out.2 h) H1.out⟩⟩
end Go.Proofs.YtdeaehkdhghfkaaDoor
