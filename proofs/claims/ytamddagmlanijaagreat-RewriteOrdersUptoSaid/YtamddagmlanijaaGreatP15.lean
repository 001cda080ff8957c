/- Packed: Apf, Put, Rpf. -/
import Derived.WalkKit
import Derived.ProofKit
import Derived.OpenShut
import Derived.Handy
import Derived.Lib.Hide
import Derived.Test.YtamddagmlanijaaGreatP08
import Derived.Test.YtamddagmlanijaaGreatP07
import Derived.Deep.RegionHeld3
import Derived.Test.YtamddagmlanijaaGreatP04
import Derived.Test.YtamddagmlanijaaGreatP11
import Derived.Test.YtamddagmlanijaaGreatP14
/- apply, with the closure that it hands to replace. Apply of package term. -/
namespace Go.Proofs.YtamddagmlanijaaGreat
open Go.RowKit Go.Maps

theorem SlOwn.isP {e : TypeId} {W : World} {p : Nat → Prop} {l : List Tm} {s : Value} {fp : List Nat} (h : SlOwn e W l s fp) (hn : ∀ k ∈ fp, p k) : SlP p W l s := by
  induction h with
  | nil => exact .nil0
  | row g ch cur hne hg hc hk ih =>
    have hlen : (ch.map (·.1)).length = ch.length := by simp
    have hcell : ∀ j, W.cell? ⟨g, j, none⟩ = (chCells ch)[j]? := fun j => by
      unfold World.cell?
      simp only [hg]
      rw [← hc, Array.getElem?_toList]; rfl
    have hch : ∀ i t, (ch.map (·.1))[i]? = some t → ∃ c : Child, ch[i]? = some c ∧ c.1 = t := fun i t ht => by rw [List.getElem?_map, Option.map_eq_some_iff] at ht; exact ht
    have key := SlP.row (p := p) (W := W) g 0 ch.length (ch.map (·.1)) (fun i => ((ch[i]?).map (·.2.1)).getD (.bool false)) (by simpa using hne) (hn g (by simp)) (by simp)
      (fun i t ht => by
        obtain ⟨c, hci, rfl⟩ := hch i t ht
        obtain ⟨h1, h2, h3⟩ := chCells_at ch i c hci
        simp only [Nat.zero_add, hcell, hci, Option.map_some, Option.getD_some]
        exact ⟨h1, h2, h3⟩)
      (fun i t ht => by
        obtain ⟨c, hci, rfl⟩ := hch i t ht
        have hm := List.mem_of_getElem? hci
        simp only [hci, Option.map_some, Option.getD_some]
        exact ih c hm fun k hk => hn k (List.mem_cons_of_mem _ (List.mem_flatMap.2 ⟨c, hm, hk⟩)))
      (fun i _ => by unfold World.frozen?; simp [hg])
    rw [hlen] at key
    exact key

/-- what the closure needs of the world -/
def AplI (n m bx mb : Nat) (bl : List Bd) (_ : Unit) (W : World) : Prop := n ≤ m ∧ bx < m ∧ mb < m ∧ W.heap[bx]? = some (.cells #[.map (some mb)] 238 (0, 0)) ∧ ImgMap n mb W bl
theorem AplI.stable {n m bx mb : Nat} {bl : List Bd} {u : Unit} {A B : World} (h : AplI n m bx mb bl u A) (hb : Below m A B) : AplI n m bx mb bl u B := by
  obtain ⟨h0, h1, h2, h3, h4⟩ := h
  exact ⟨h0, h1, h2, (hb.block bx h1).trans h3, h4.carry (hb.mono h0) (Nat.le_refl _) (hb.block mb h2)⟩

set_option maxRecDepth 100000 in
set_option maxHeartbeats 2000000 in
theorem apply1_any (bl : List Bd) (hok : SubOk bl) (hbk : bdBulk bl ≤ 1048576) (n m bx mb : Nat) (nm : ByteArray) (W : World) (hI : AplI n m bx mb bl () W) (hmW : m ≤ W.heap.size) (hnm : nm.size ≤ 1048576) :
    Calls Tryz.prog 241 #[.string nm, .pointer (some ⟨bx, 0, none⟩)] W fun e W' => Fresh 25 W W' (imageOf bl nm.data.toList) e ∧ AplI n m bx mb bl () W' ∧ Below W.heap.size W W' := by
  have HI := Lib.hid hI
  obtain ⟨h0, h1, h2, h3, D, hown, hinv⟩ := hI
  have hbc : (W.alloc (.cells #[.string ⟨#[]⟩, .bool false, .slice none 0 0] 25)).cell? ⟨bx, 0, none⟩ = some (.map (some mb)) := by have := cells_of' ((Below.heap_alloc W (.cells #[.string ⟨#[]⟩, .bool false, .slice none 0 0] 25) bx (by omega)).trans h3) 0; simpa using this
  have HKEY : Hid (keyOf Tryz.prog 9 (.string nm) = some (.string nm.data.toList)) := Lib.hid (WideMaps.keyOf_string_mk Tryz.underlying9 (by unfold maxLen; omega))
  have HOWN := Lib.hid (hown.alloc (.cells #[.string ⟨#[]⟩, .bool false, .slice none 0 0] 25))
  by_cases hin : nm.data.toList ∈ bl.map (·.1)
  · obtain ⟨p, hp, hpe⟩ := List.mem_map.1 hin
    obtain ⟨sp, hat, hsp⟩ := hinv.at_ p hp
    rw [hpe] at hat
    obtain ⟨os, cs, rfl, -⟩ := hsp.form
    have HAT := Lib.hid hat
    have HHAS : Hid (Maps.has D (.string nm.data.toList) = true) := Lib.hid (by rw [hinv.has]; simpa using hin)
    have HIM : Hid (imageOf bl nm.data.toList = p.2) := Lib.hid (by rw [← hpe]; exact imageOf_in hok.nodup hp)
    have hpb : p.2.bulk ≤ 1048576 := by have := bdBulk_mem hp; omega
    have HCL := Lib.hid (fun V (hV : Below W.heap.size W V) => clone_any p.2 (.slice os p.2.ts.length cs) V (hsp.carry (hV.mono (by omega)) (by have := hV.size; omega)) hpb (hok.terms p hp).1.bare)
    clear hp hpe hat hsp hinv hin hown h3
    go_enter Tryz.func241, Tryz.ntmps241
    go_wp2_with (refine look_hit rfl (.tmp 7) (.tmp 8) rfl mb bl.length D rfl HOWN.out (.string nm) (.string nm.data.toList) rfl HKEY.out (.agg #[.string p.2.nm, .bool p.2.vr, .slice os p.2.ts.length cs, .int .i64 p.2.size, .int .i64 p.2.depth]) HAT.out HHAS.out ?_)
    refine (HCL.out _ (by go_grown)).mono ?_
    rintro e w1 ⟨⟨sl, fp, rfl, ho, hnd, hf⟩, hb1⟩
    obtain ⟨o1, n1, c1, rfl⟩ := ho.form
    dsimp only [tmv]
    have hr := (hb1.block W.heap.size (by simp; omega)).trans ((Below.heap_alloc _ _ _ (by simp)).trans (heap_new_at _ _ _ rfl))
    obtain ⟨⟨r0, r1, r2⟩, f0, f1, f2⟩ := box3 hr
    have HR := Lib.hid hr
    have HO := Lib.hid ho
    have HND := Lib.hid hnd
    have HF := Lib.hid hf
    have HBW : Hid (Below W.heap.size W w1) := Lib.hid ((show Below W.heap.size W ((W.alloc (.cells #[.string ⟨#[]⟩, .bool false, .slice none 0 0] 25)).alloc (.cells #[.string p.2.nm, .bool p.2.vr, .slice os p.2.ts.length cs, .int .i64 p.2.size, .int .i64 p.2.depth] 301)) from by go_grown).trans (hb1.mono (by simp; omega)))
    clear hr ho hnd hf hb1
    go_wp2_with fail
    have hq := box3_set HR.out (.string p.2.nm) (.bool p.2.vr) (.slice o1 n1 c1)
    obtain ⟨⟨q0, q1, q2⟩, -⟩ := box3 hq
    have hbf := below_set3 HBW.out (Nat.le_refl _) (.string p.2.nm) (.bool p.2.vr) (.slice o1 n1 c1)
    refine bodyPost_ret (v := tmv p.2 (.slice o1 n1 c1)) (by simp [results, Tryz.f241, go_sem, q0, q1, q2, tmv]) rfl ?_
    rw [HIM.out]
    exact ⟨⟨_, fp, rfl, HO.out.carry fun k hk => heap_set3 _ _ _ _ _ _ (by have := HF.out k hk; simp at this; omega), HND.out, fun b hb => by have := HF.out b hb; simp at this; omega⟩, HI.out.stable (hbf.mono hmW), hbf⟩
  · have HHAS : Hid (Maps.has D (.string nm.data.toList) = false) := Lib.hid (by rw [hinv.has]; simpa using hin)
    have HIM : Hid (imageOf bl nm.data.toList = .mk nm true []) := Lib.hid (by rw [imageOf_out hin, kb_key])
    clear hinv hin hown h3
    go_enter Tryz.func241, Tryz.ntmps241
    go_wp2_with (refine look_miss rfl (.tmp 7) (.tmp 8) rfl mb bl.length D rfl HOWN.out (.string nm) (.string nm.data.toList) rfl HKEY.out HHAS.out ?_)
    refine (variable_any _ _).mono ?_
    rintro e w1 ⟨rfl, hb1⟩
    dsimp only [tmv, Tm.nm, Tm.vr]
    have hr := (hb1.block W.heap.size (by simp; omega)).trans ((Below.heap_alloc _ _ _ (by simp)).trans (heap_new_at _ _ _ rfl))
    obtain ⟨⟨r0, r1, r2⟩, f0, f1, f2⟩ := box3 hr
    have HR := Lib.hid hr
    have HBW : Hid (Below W.heap.size W w1) := Lib.hid ((show Below W.heap.size W ((W.alloc (.cells #[.string ⟨#[]⟩, .bool false, .slice none 0 0] 25)).alloc (.cells #[.string ⟨#[]⟩, .bool false, .slice none 0 0, .int .i64 0, .int .i64 0] 301)) from by go_grown).trans (hb1.mono (by simp; omega)))
    clear hr hb1
    go_wp2_with fail
    have hq := box3_set HR.out (.string nm) (.bool true) (.slice none 0 0)
    obtain ⟨⟨q0, q1, q2⟩, -⟩ := box3 hq
    have hbf := below_set3 HBW.out (Nat.le_refl _) (.string nm) (.bool true) (.slice none 0 0)
    refine bodyPost_ret (v := tmv (.mk nm true []) (.slice none 0 0)) (by simp [results, Tryz.f241, go_sem, q0, q1, q2, tmv, Tm.nm, Tm.vr]) rfl ?_
    rw [HIM.out]
    exact ⟨⟨_, [], rfl, .nil, by simp, by simp⟩, HI.out.stable (hbf.mono hmW), hbf⟩

set_option maxRecDepth 100000 in
set_option maxHeartbeats 2000000 in
theorem apply_any (bl : List Bd) (hok : SubOk bl) (hbk : bdBulk bl ≤ 1048576) (n mb : Nat) (t : Tm) (s : Value) (w : World) (hn : n ≤ w.heap.size) (hmb : mb < w.heap.size) (hm : ImgMap n mb w bl) (hs : SlIs w.heap.size w t.ts s) (hb : t.bulk ≤ 1048576) (ht : t.ok) :
    Calls Tryz.prog 176 #[.map (some mb), tmv t s] w fun e w' => (∃ u c sl, e = .returned (.tuple #[tmv u sl, .int .i64 c]) ∧ SlP (fun b => w.heap.size ≤ b) w' u.ts sl ∧
      ((c = 0 ∧ (apB bl t).size ≤ 4000 ∧ (apB bl t).depth ≤ 200 ∧ u = apB bl t) ∨ (c = 3 ∧ ¬ ((apB bl t).size ≤ 4000 ∧ (apB bl t).depth ≤ 200) ∧ u = Tm.zero))) ∧ Below w.heap.size w w' := by
  obtain ⟨oa, ca, rfl, -⟩ := hs.form
  obtain ⟨W0, hW0⟩ : ∃ W, W = ((w.alloc (.cells #[.map (some mb)] 238)).alloc (.cells #[.string t.nm, .bool t.vr, .slice oa t.ts.length ca] 25)).alloc (.cells #[.string ⟨#[]⟩, .bool false, .slice none 0 0] 25) := ⟨_, rfl⟩
  have hb0 : Below w.heap.size w W0 := by rw [hW0]; go_grown
  have hz0 : W0.heap.size = w.heap.size + 3 := by rw [hW0]; simp
  have hmx : W0.heap[w.heap.size]? = some (.cells #[.map (some mb)] 238 (0, 0)) := by rw [hW0]; exact (Below.heap_alloc _ _ _ (by simp; omega)).trans ((Below.heap_alloc _ _ _ (by simp)).trans (heap_new_at _ _ _ rfl))
  have htx : W0.heap[w.heap.size + 1]? = some (.cells #[.string t.nm, .bool t.vr, .slice oa t.ts.length ca] 25 (0, 0)) := by rw [hW0]; exact (Below.heap_alloc _ _ _ (by simp)).trans (heap_new_at _ _ _ (by simp))
  have hrx : W0.heap[w.heap.size + 2]? = some (.cells #[.string ⟨#[]⟩, .bool false, .slice none 0 0] 25 (0, 0)) := by rw [hW0]; exact heap_new_at _ _ _ (by simp)
  have HFIT := Lib.hid (fits_any bl hok mb t (.slice oa t.ts.length ca) W0 n (by omega) (by omega) (hm.carry (hb0.mono hn) (Nat.le_refl _) (hb0.block mb hmb)) (hs.carry hb0 hb0.size) hb ht)
  have HM := Lib.hid hm
  have HS := Lib.hid hs
  have HOK := Lib.hid hok
  have HB0 := Lib.hid hb0
  have HRX := Lib.hid hrx
  have HTX := Lib.hid htx
  have HMX := Lib.hid hmx
  have HT := Lib.hid ht
  clear hm hs hok hb0 hrx htx hmx ht
  go_enter Tryz.func176, Tryz.ntmps176
  rw [show tmv t (.slice oa t.ts.length ca) = .agg #[.string t.nm, .bool t.vr, .slice oa t.ts.length ca] from rfl]
  go_wp2_with fail
  rw [← hW0]
  clear hW0
  refine HFIT.out.mono ?_
  rintro e w1 ⟨rfl, hb1⟩
  clear HFIT
  have HB1 := Lib.hid (HB0.out.trans (hb1.mono (by omega)))
  have hr1 := (hb1.block _ (by omega)).trans HRX.out
  have ht1 := (hb1.block _ (by omega)).trans HTX.out
  have hm1 := (hb1.block _ (by omega)).trans HMX.out
  have hz1 := hb1.size
  obtain ⟨⟨r0, r1, r2⟩, f0, f1, f2⟩ := box3 hr1
  obtain ⟨⟨t0, t1, t2⟩, -⟩ := box3 ht1
  have HR1 := Lib.hid hr1
  have HM1 := Lib.hid hm1
  clear hr1 ht1 hm1 hb1 HTX HMX HRX
  by_cases hf : (apB bl t).size ≤ 4000 ∧ (apB bl t).depth ≤ 200
  · rw [decide_eq_true hf]
    have HF := Lib.hid hf
    clear hf
    have hrep := replace_any (apImg bl) 241 #[.pointer (some ⟨w.heap.size, 0, none⟩)] Tryz.call241 w1.heap.size w1.heap.size (Nat.le_refl _) (AplI w.heap.size w1.heap.size w.heap.size mb bl) (fun _ _ _ h k => h.stable k) (fun _ => 0) t.size (fun _ _ => by omega)
      (Lib.hid fun s nm V hI hV hnm _ => (apply1_any bl HOK.out hbk w.heap.size w1.heap.size w.heap.size mb nm V hI hV hnm).mono fun e V' h => ⟨h.1, h.2.1, Fr.of_below h.2.2⟩) t () (.slice oa t.ts.length ca) w1 (by omega) hb (HS.out.carry HB1.out (by omega)) (Nat.le_refl _)
      ⟨by omega, by omega, by omega, HM1.out, HM.out.carry (HB1.out.mono hn) hn (HB1.out.block mb hmb)⟩
    have HREP := Lib.hid hrep
    clear hrep
    go_wp2_with fail
    refine HREP.out.mono ?_
    rintro e w2 ⟨⟨sl, fp, rfl, ho, hnd, hfp⟩, -, hfr⟩
    rw [show (t.rep (apImg bl) ()).1 = apB bl t from rfl] at ho ⊢
    obtain ⟨o2, n2, c2, rfl⟩ := ho.form
    dsimp only [tmv]
    have hb2 := hfr.all
    have hz2 := hb2.size
    have hr2 := (Below.heap_alloc w2 (.cells #[.string (apB bl t).nm, .bool (apB bl t).vr, .slice o2 n2 c2] 25) (w.heap.size + 2) (by omega)).trans ((hb2.block _ (by omega)).trans HR1.out)
    obtain ⟨⟨q0, q1, q2⟩, g0, g1, g2⟩ := box3 hr2
    have HR2 := Lib.hid hr2
    have HO := Lib.hid ho
    have HFP := Lib.hid hfp
    have HB2 := Lib.hid (HB1.out.trans (hb2.mono (by omega)))
    clear hr2 ho hfp hb2 hfr hnd HREP
    go_wp2_with fail
    have hq := box3_set HR2.out (.string (apB bl t).nm) (.bool (apB bl t).vr) (.slice o2 n2 c2)
    obtain ⟨⟨p0, p1, p2⟩, -⟩ := box3 hq
    refine bodyPost_ret (v := .tuple #[tmv (apB bl t) (.slice o2 n2 c2), .int .i64 0]) (by simp [results, Tryz.f176, go_sem, p0, p1, p2, tmv]) rfl ?_
    refine ⟨⟨_, 0, _, rfl, ?_, .inl ⟨rfl, HF.out.1, HF.out.2, rfl⟩⟩, below_set3 (HB2.out.alloc (by omega) _) (by omega) _ _ _⟩
    have h1 := HO.out.isP (p := fun b => w1.heap.size ≤ b ∧ b < w2.heap.size) (fun k hk => ⟨HFP.out k hk, HO.out.lt k hk⟩)
    exact h1.carry fun b hb => ⟨(heap_set3 _ _ _ _ _ _ (by omega)).trans (Below.heap_alloc _ _ _ hb.2), by omega⟩
  · rw [decide_eq_false hf]
    have HF := Lib.hid hf
    clear hf
    go_wp2_with fail
    have hq := box3_set HR1.out (.string ⟨#[]⟩) (.bool false) (.slice none 0 0)
    obtain ⟨⟨p0, p1, p2⟩, -⟩ := box3 hq
    refine bodyPost_ret (v := .tuple #[tmv Tm.zero (.slice none 0 0), .int .i64 3]) (by simp [results, Tryz.f176, go_sem, p0, p1, p2, tmv, Tm.nm, Tm.vr]) rfl ?_
    exact ⟨⟨Tm.zero, 3, _, rfl, .nil0, .inr ⟨rfl, HF.out, rfl⟩⟩, below_set3 HB1.out (by omega) _ _ _⟩
end Go.Proofs.YtamddagmlanijaaGreat
namespace Go.Proofs.YtamddagmlanijaaGreat
open Go.RowKit Go.Maps

def Tm.small (t : Tm) : Prop := t.size ≤ 4000 ∧ t.depth ≤ 200

/-- as TmNum; the term lies in new memory -/
def TmNew (w w' : World) (e : Ending) (u : Tm) (c : Int) : Prop := (∃ sl, e = .returned (.tuple #[tmv u sl, .int .i64 c]) ∧ SlP (fun b => w.heap.size ≤ b ∧ b < w'.heap.size) w' u.ts sl) ∧ Below w.heap.size w w'
set_option maxRecDepth 100000 in
set_option maxHeartbeats 4000000 in
theorem tapply_new (bl : List Bd) (v : Value) (t : Tm) (s : Value) (w : World) (hl : BindsIs w.heap.size w bl v) (hbk : bdBulk bl ≤ 1048576) (hs : SlIs w.heap.size w t.ts s) (hb : t.bulk ≤ 1048576) :
    Calls Tryz.prog 104 #[v, tmv t s] w fun e w' => ∃ u c, TmNew w w' e u c ∧ ((c = 0 ∧ SubOk bl ∧ t.ok ∧ (apB bl t).small ∧ u = apB bl t) ∨ (c ≠ 0 ∧ u = Tm.zero ∧ (SubOk bl → t.ok → ¬ (apB bl t).small ∧ c = 3))) := by
  obtain ⟨oa, ca, rfl, -⟩ := hs.form
  have hl' := hl
  obtain ⟨ov, cv, rfl, -, -⟩ := hl'
  obtain ⟨W0, hW0⟩ : ∃ W, W = (w.alloc (.cells #[.string t.nm, .bool t.vr, .slice oa t.ts.length ca] 25)).alloc (.cells #[.string ⟨#[]⟩, .bool false, .slice none 0 0] 25) := ⟨_, rfl⟩
  have hb0 : Below w.heap.size w W0 := by rw [hW0]; go_grown
  have hz0 : W0.heap.size = w.heap.size + 2 := by rw [hW0]; simp
  have htx : W0.heap[w.heap.size]? = some (.cells #[.string t.nm, .bool t.vr, .slice oa t.ts.length ca] 25 (0, 0)) := by rw [hW0]; exact (Below.heap_alloc _ _ _ (by simp)).trans (heap_new_at _ _ _ rfl)
  have hrx : W0.heap[w.heap.size + 1]? = some (.cells #[.string ⟨#[]⟩, .bool false, .slice none 0 0] 25 (0, 0)) := by rw [hW0]; exact heap_new_at _ _ _ (by simp)
  have HL := Lib.hid hl
  have HS := Lib.hid hs
  have HB0 := Lib.hid hb0
  have HRX := Lib.hid hrx
  have HTX := Lib.hid htx
  clear hl hs hb0 hrx htx
  go_enter Tryz.func104, Tryz.ntmps104
  rw [show tmv t (.slice oa t.ts.length ca) = .agg #[.string t.nm, .bool t.vr, .slice oa t.ts.length ca] from rfl]
  go_wp2_with fail
  rw [← hW0]
  clear hW0
  refine (checkSubst_any bl _ W0 (HL.out.carry HB0.out HB0.out.size) hbk).mono ?_
  rintro e w1 ⟨⟨c1, rfl, hc1⟩, hb1⟩
  have HB1 := Lib.hid (HB0.out.trans (hb1.mono (by omega)))
  have hr1 := (hb1.block _ (by omega)).trans HRX.out
  have ht1 := (hb1.block _ (by omega)).trans HTX.out
  have hz1 := hb1.size
  obtain ⟨⟨r0, r1, r2⟩, f0, f1, f2⟩ := box3 hr1
  obtain ⟨⟨t0, t1, t2⟩, -⟩ := box3 ht1
  have HR1 := Lib.hid hr1
  have HT1 := Lib.hid ht1
  have HC1 := Lib.hid hc1
  clear hr1 ht1 hb1 hc1 HTX HRX
  by_cases h1 : c1 = 0
  · subst h1
    have HOK := Lib.hid (HC1.out.1 rfl)
    go_wp2_with fail
    refine (check_any t _ _ (HS.out.carry HB1.out (by omega)) hb).mono ?_
    rintro e w2 ⟨⟨c2, rfl, hc2⟩, hb2⟩
    have HB2 := Lib.hid (HB1.out.trans (hb2.mono (by omega)))
    have hr2 := (hb2.block _ (by omega)).trans HR1.out
    have ht2 := (hb2.block _ (by omega)).trans HT1.out
    have hz2 := hb2.size
    clear r0 r1 r2 f0 f1 f2 t0 t1 t2
    obtain ⟨⟨r0, r1, r2⟩, f0, f1, f2⟩ := box3 hr2
    obtain ⟨⟨t0, t1, t2⟩, -⟩ := box3 ht2
    have HR2 := Lib.hid hr2
    have HT2 := Lib.hid ht2
    have HC2 := Lib.hid hc2
    clear hr2 ht2 hb2 hc2
    by_cases h2 : c2 = 0
    · subst h2
      have HTO := Lib.hid (HC2.out.1 rfl)
      have HZW : Hid (w.heap.size + 2 ≤ w2.drew.heap.size) := Lib.hid (by show _ ≤ w2.heap.size; omega)
      have HBD : Hid (Below w.heap.size w w2.drew) := Lib.hid (HB2.out.trans ((Below.refl w2.heap.size w2).drew.mono (by omega)))
      have HRD : Hid (w2.drew.heap[w.heap.size + 1]? = some (.cells #[.string ⟨#[]⟩, .bool false, .slice none 0 0] 25 (0, 0))) := Lib.hid HR2.out
      have HTD : Hid (w2.drew.heap[w.heap.size]? = some (.cells #[.string t.nm, .bool t.vr, .slice oa t.ts.length ca] 25 (0, 0))) := Lib.hid HT2.out
      go_wp2_with fail
      go_region_held3 (fun w' => w'.cell? ⟨w.heap.size, 0, none⟩ = some (.string t.nm) ∧ w'.cell? ⟨w.heap.size, 1, none⟩ = some (.bool t.vr) ∧ w'.cell? ⟨w.heap.size, 2, none⟩ = some (.slice oa t.ts.length ca)) (go_keep) ((first
        | (go_at_call 176
           refine (apply_any bl HOK.out hbk w2.drew.heap.size w2.drew.heap.size t _ w3 HZ3.out HZ3'.out HIM3.out (HS.out.carry HB3.out HB3.out.size) hb HTO.out).mono ?_
           rintro e w4 ⟨⟨u, c4, sl4, rfl, h4, hc4⟩, hb4⟩
           obtain ⟨o4, k4, rfl⟩ := h4.form
           dsimp only [tmv]
           have HB4 := Lib.hid (HB3.out.trans (hb4.mono HB3.out.size))
           have hr4 := (hb4.block _ (by have := HZ3.out; have := HZW.out; omega)).trans HR3.out
           have ht4 := (hb4.block _ (by have := HZ3.out; have := HZW.out; omega)).trans HT3.out
           obtain ⟨⟨r0, r1, r2⟩, f0, f1, f2⟩ := box3 hr4
           obtain ⟨⟨t0, t1, t2⟩, -⟩ := box3 ht4
           have HR4 := Lib.hid hr4
           have HT4 := Lib.hid ht4
           have H4 := Lib.hid h4
           have HC4 := Lib.hid hc4
           have HZ4 := Lib.hid hb4.size
           clear hr4 ht4 h4 hc4 hb4)
        | (go_at_call 177
           refine (images_any bl _ w2.drew (HL.out.carry HBD.out HBD.out.size) hbk HOK.out.nodup).mono ?_
           rintro e w3 ⟨⟨rfl, him⟩, hb3⟩
           have hz3 := hb3.size
           have HIM3 := Lib.hid him
           have HZ3 := Lib.hid hz3
           have HZ3' : Hid (w2.drew.heap.size < w3.heap.size) := Lib.hid (by obtain ⟨D, ⟨es, cl, hes, _⟩, _⟩ := him; exact (Array.getElem?_eq_some_iff.1 hes).1)
           have HB3 := Lib.hid (HBD.out.trans (hb3.mono HBD.out.size))
           have hr3 := (hb3.block (w.heap.size + 1) (by have := HZW.out; omega)).trans HRD.out
           have ht3 := (hb3.block w.heap.size (by have := HZW.out; omega)).trans HTD.out
           obtain ⟨⟨r0, r1, r2⟩, f0, f1, f2⟩ := box3 hr3
           obtain ⟨⟨t0, t1, t2⟩, -⟩ := box3 ht3
           have HR3 := Lib.hid hr3
           have HT3 := Lib.hid ht3
           clear hr3 ht3 him hb3 hz3)
        ))
      go_wp2_with fail
      have hq := box3_set HR4.out (.string u.nm) (.bool u.vr) (.slice o4 u.ts.length k4)
      obtain ⟨⟨q0, q1, q2⟩, -⟩ := box3 hq
      refine bodyPost_ret (v := .tuple #[tmv u (.slice o4 u.ts.length k4), .int .i64 c4]) (by simp [results, Tryz.f104, go_sem, q0, q1, q2, tmv]) rfl ?_
      refine ⟨u, c4, ⟨⟨_, rfl, ?_⟩, below_set3 HB4.out (by omega) _ _ _⟩, ?_⟩
      · exact (H4.out.lt.carry (q := fun b => w.heap.size ≤ b ∧ b < w4.heap.size) fun b hb => ⟨heap_set3 _ _ _ _ _ _ (by have := HZ3.out; have := HZW.out; omega), by have := HZ3.out; have := HBD.out.size; omega, hb.2⟩).carry fun b hb => ⟨rfl, hb.1, by simpa [World.setCell] using hb.2⟩
      · rcases HC4.out with ⟨h0, h1, h2, h3⟩ | ⟨h0, h1, h2⟩
        · exact .inl ⟨h0, HOK.out, HTO.out, ⟨h1, h2⟩, h3⟩
        · exact .inr ⟨by omega, h2, fun _ _ => ⟨h1, h0⟩⟩
    · have h2' : (c2 != 0) = true := by rw [bne_iff_ne]; exact h2
      have H2 := Lib.hid h2
      clear h2
      go_wp2_with fail
      have hq := box3_set HR2.out (.string ⟨#[]⟩) (.bool false) (.slice none 0 0)
      obtain ⟨⟨q0, q1, q2⟩, -⟩ := box3 hq
      refine bodyPost_ret (v := .tuple #[tmv Tm.zero (.slice none 0 0), .int .i64 c2]) (by simp [results, Tryz.f104, go_sem, q0, q1, q2, tmv, Tm.nm, Tm.vr]) rfl ?_
      exact ⟨Tm.zero, c2, ⟨⟨_, rfl, .nil0⟩, below_set3 HB2.out (by omega) _ _ _⟩, .inr ⟨H2.out, rfl, fun _ h => absurd (HC2.out.2 h) H2.out⟩⟩
  · have h1' : (c1 != 0) = true := by rw [bne_iff_ne]; exact h1
    have H1 := Lib.hid h1
    clear h1
    go_wp2_with fail
    have hq := box3_set HR1.out (.string ⟨#[]⟩) (.bool false) (.slice none 0 0)
    obtain ⟨⟨q0, q1, q2⟩, -⟩ := box3 hq
    refine bodyPost_ret (v := .tuple #[tmv Tm.zero (.slice none 0 0), .int .i64 c1]) (by simp [results, Tryz.f104, go_sem, q0, q1, q2, tmv, Tm.nm, Tm.vr]) rfl ?_
    exact ⟨Tm.zero, c1, ⟨⟨_, rfl, .nil0⟩, below_set3 HB1.out (by omega) _ _ _⟩, .inr ⟨H1.out, rfl, fun h _ => absurd (HC1.out.2 h) H1.out⟩⟩

end Go.Proofs.YtamddagmlanijaaGreat
/- Put. -/
namespace Go.Proofs.YtamddagmlanijaaGreat
open Go.RowKit

theorem bulks_set {l : List Tm} {i : Nat} {x y : Tm} (h : l[i]? = some x) : Tm.bulks (l.set i y) + x.bulk = Tm.bulks l + y.bulk := by
  induction l generalizing i with
  | nil => simp at h
  | cons z l ih =>
    cases i with
    | zero => simp at h; subst h; simp [Tm.bulks]; omega
    | succ i => have := ih (i := i) (by simpa using h); simp [Tm.bulks]; omega
theorem Tm.put_bulk (t : Tm) (l : List Int) (u : Tm) : (t.put l u).bulk ≤ t.bulk + u.bulk := by
  induction l generalizing t with
  | nil => simp only [Tm.put]; omega
  | cons i l ih =>
    simp only [Tm.put]
    split
    · rename_i x hx
      have h1 := ih x
      unfold Tm.kid at hx
      split at hx
      · have h2 := bulks_set (y := x.put l u) hx
        have h3 := Tm.bulk_eq t
        rw [Tm.bulk_eq]; simp only [Tm.nm, Tm.ts] at h2 h3 ⊢; omega
      · cases hx
    · omega
theorem Steps.carry {A B : World} (h : Below A.heap.size A B) {b o b' o' : Nat} {l : List Int} (hs : Steps A b o l b' o') : Steps B b o l b' o' := by
  induction hs with
  | nil b o => exact .nil _ _
  | cons b o i l b1 o1 n cap b' o' hi hc _ ih =>
    refine .cons _ _ _ _ b1 o1 n cap _ _ hi ?_ ih
    by_cases hb : b < A.heap.size
    · exact (h.cell (p := ⟨b, _, none⟩) hb).trans hc
    · exfalso
      unfold World.cell? at hc
      rw [Array.getElem?_eq_none (by show _ ≤ b; omega)] at hc
      cases hc
theorem SlOwn.blocks {e : TypeId} {W : World} {l : List Tm} {s : Value} {fp : List Nat} (h : SlOwn e W l s fp) : ∀ k ∈ fp, ∃ cur, W.heap[k]? = some (.cells cur e (0, 0)) := by
  induction h with
  | nil => simp
  | row g ch cur hne hg hc _ ih =>
    intro k hk
    rcases List.mem_cons.1 hk with rfl | hk
    · exact ⟨_, hg⟩
    · obtain ⟨c, hcm, hk⟩ := List.mem_flatMap.1 hk
      exact ih c hcm k hk
end Go.Proofs.YtamddagmlanijaaGreat
/- rewrite's perform: steps one after the other. -/
namespace Go.Proofs.YtamddagmlanijaaGreat
open Go.RowKit Go.Shelf Go.Maps

abbrev Stp := Int × List Int
/-- positions in memory, with room enough -/
def PosC (n : Nat) (W : World) (l : List Int) (v : Value) : Prop := PosIs n W l v ∧ ∀ oa m c, v = .slice oa m c → m ≤ c
theorem PosC.carry {n₀ n₁ : Nat} {A B : World} (h : Below n₀ A B) (hn : n₀ ≤ n₁) {l : List Int} {s : Value} (hs : PosC n₀ A l s) : PosC n₁ B l s := ⟨hs.1.carry h hn, hs.2⟩
/-- steps in memory -/
def StpsIs (n : Nat) (W : World) (l : List Stp) (v : Value) : Prop :=
  ∃ oa cap, v = .slice oa l.length cap ∧ l.length ≤ cap ∧
    (l ≠ [] → ∃ b o, oa = some ⟨b, o, none⟩ ∧ b < n ∧ ∀ i p, l[i]? = some p → ∃ pv, W.cell? ⟨b, o + i * 2, none⟩ = some (.int .i64 p.1) ∧ W.cell? ⟨b, o + i * 2 + 1, none⟩ = some pv ∧ PosC n W p.2 pv ∧ p.2.length ≤ 1048576)
theorem StpsIs.carry {n m : Nat} {A B : World} {l : List Stp} {v : Value} (h : StpsIs n A l v) (hb : Below n A B) (hn : n ≤ m) : StpsIs m B l v := by
  obtain ⟨oa, cap, rfl, h1, h3⟩ := h
  refine ⟨oa, cap, rfl, h1, fun hne => ?_⟩
  obtain ⟨b, o, rfl, hbn, hc⟩ := h3 hne
  refine ⟨b, o, rfl, by omega, fun i p hk => ?_⟩
  obtain ⟨pv, c0, c1, hp, hl⟩ := hc i p hk
  exact ⟨pv, (hb.cell (p := ⟨b, _, none⟩) hbn).trans c0, (hb.cell (p := ⟨b, _, none⟩) hbn).trans c1, hp.carry hb hn, hl⟩
theorem StpsIs.get {n : Nat} {W : World} {l : List Stp} {oa : Option Addr} {cap k : Nat} (h : StpsIs n W l (.slice oa l.length cap)) (hk : k < l.length) :
    ∃ (b o : Nat) (p : Stp) (ov : Option Addr) (cv : Nat), oa = some ⟨b, o, none⟩ ∧ b < n ∧ l[k]? = some p ∧ W.cell? ⟨b, o + k * 2, none⟩ = some (.int .i64 p.1) ∧ W.cell? ⟨b, o + k * 2 + 1, none⟩ = some (.slice ov p.2.length cv) ∧ PosC n W p.2 (.slice ov p.2.length cv) ∧ p.2.length ≤ 1048576 := by
  obtain ⟨oa', cap', he, -, h3⟩ := h
  simp only [Value.slice.injEq, true_and] at he
  obtain ⟨rfl, rfl⟩ := he
  obtain ⟨b, o, rfl, hb, hc⟩ := h3 (by rintro rfl; simp at hk)
  have hp : l[k]? = some l[k] := List.getElem?_eq_getElem hk
  obtain ⟨pv, c0, c1, h2, hl⟩ := hc k _ hp
  obtain ⟨ov, cv, rfl, -⟩ := h2.1.form
  exact ⟨b, o, l[k], ov, cv, rfl, hb, hp, c0, c1, h2, hl⟩
/-- how perform goes on: the term and the size of what has been put in; too large; no step -/
inductive PfR
  | ok (t : Tm) (n : Nat)
  | big
  | bad
open Classical in
noncomputable def pfRun (L : List RlV) (t : Tm) : Tm → Nat → List Stp → PfR
  | r, n, [] => .ok r n
  | r, n, s :: l => match stepM L t s.1 s.2 with
    | none => .bad
    | some (b, p) => if (apB b p.2.1).small ∧ n + (apB b p.2.1).size ≤ 4000 then pfRun L t (r.put s.2 (apB b p.2.1)) (n + (apB b p.2.1).size) l else .big
/-- all positions exist where they are needed -/
def PfGood (L : List RlV) (t : Tm) : Tm → List Stp → Prop
  | _, [] => True
  | r, s :: l => ∀ b p, stepM L t s.1 s.2 = some (b, p) → (r.at s.2).isSome ∧ PfGood L t (r.put s.2 (apB b p.2.1)) l
/-- how perform answers -/
def PfPost (x : PfR) (w' : World) (e : Ending) : Prop :=
  match x with
  | .ok r _ => (r.ok ∧ ∃ sr, e = .returned (.tuple #[tmv r sr, .int .i64 0]) ∧ SlIs w'.heap.size w' r.ts sr) ∨ (¬ r.ok ∧ ∃ c : Int, c ≠ 0 ∧ (r.formed → c = 3) ∧ e = .returned (.tuple #[.agg #[.string ⟨#[]⟩, .bool false, .slice none 0 0], .int .i64 c]))
  | .big => e = .returned (.tuple #[.agg #[.string ⟨#[]⟩, .bool false, .slice none 0 0], .int .i64 3])
  | .bad => ∃ c : Int, c ≠ 0 ∧ e = .returned (.tuple #[.agg #[.string ⟨#[]⟩, .bool false, .slice none 0 0], .int .i64 c])

theorem box2g {W : World} {b : Nat} {x y : Value} {e : TypeId} (h : W.heap[b]? = some (.cells #[x, y] e (0, 0))) : (W.cell? ⟨b, 0, none⟩ = some x ∧ W.cell? ⟨b, 1, none⟩ = some y) ∧ W.frozen? ⟨b, 0, none⟩ = false ∧ W.frozen? ⟨b, 1, none⟩ = false :=
  ⟨⟨cells_of' h 0, cells_of' h 1⟩, frozen_of' h _, frozen_of' h _⟩
/-- the variables of perform, as they lie -/
structure PfMem (w wr : World) (t : Tm) (st : Value) (r : Tm) (sr : Value) : Prop where
  tb : wr.heap[w.heap.size]? = some (.cells #[.string t.nm, .bool t.vr, st] 25 (0, 0))
  rb : wr.heap[w.heap.size + 1]? = some (.cells #[.string ⟨#[]⟩, .bool false, .slice none 0 0] 25 (0, 0))
  vb : wr.heap[w.heap.size + 1 + 1]? = some (.cells #[.string r.nm, .bool r.vr, sr] 25 (0, 0))
  is : SlP (fun b => (b < w.heap.size ∨ w.heap.size + 1 + 1 < b) ∧ b < wr.heap.size) wr r.ts sr
  bl : Below w.heap.size w wr
theorem PfMem.next {w wr wr' : World} {t : Tm} {st : Value} {r : Tm} {sr : Value} (h : PfMem w wr t st r sr) (hb : Below wr.heap.size wr wr') : PfMem w wr' t st r sr :=
  ⟨(hb.block _ (Array.getElem?_eq_some_iff.1 h.tb).1).trans h.tb, (hb.block _ (Array.getElem?_eq_some_iff.1 h.rb).1).trans h.rb, (hb.block _ (Array.getElem?_eq_some_iff.1 h.vb).1).trans h.vb, h.is.carry (fun b hb' => ⟨hb.block b hb'.2, hb'.1, Nat.lt_of_lt_of_le hb'.2 hb.size⟩), h.bl.trans (hb.mono h.bl.size)⟩
theorem PfMem.is' {w wr : World} {t : Tm} {st : Value} {r : Tm} {sr : Value} (h : PfMem w wr t st r sr) : SlIs wr.heap.size wr r.ts sr := h.is.toIs fun _ hb => hb.2
theorem PfMem.lt {w wr : World} {t : Tm} {st : Value} {r : Tm} {sr : Value} (h : PfMem w wr t st r sr) : w.heap.size + 1 + 1 < wr.heap.size := (Array.getElem?_eq_some_iff.1 h.vb).1

set_option maxRecDepth 100000 in
set_option maxHeartbeats 4000000 in
theorem perform_any (L : List RlV) (rv : Value) (t : Tm) (s : Value) (l : List Stp) (lv : Value) (w : World) (hr : RulV w.heap.size w L rv) (hs : SlIs w.heap.size w t.ts s) (hl : StpsIs w.heap.size w l lv)
    (hok : SysOk L) (ht : t.ok) (hlb : ∀ x ∈ sidesV L, x.1.bulk ≤ 1048576) (hll : l.length ≤ 1048576) (hg : PfGood L t t l) :
    Calls Tryz.prog 42 #[rv, tmv t s, lv] w fun e w' => PfPost (pfRun L t t 0 l) w' e ∧ Below w.heap.size w w' := by
  obtain ⟨oa, cap, rfl, -⟩ := hs.form
  obtain ⟨ol, cl, rfl⟩ := hr.shape
  obtain ⟨ov, cv, rfl, hcv, -⟩ := id hl
  have HR := Lib.hid hr
  have HS := Lib.hid hs
  have HL := Lib.hid hl
  have HOK := Lib.hid hok
  have HT := Lib.hid ht
  have HLB := Lib.hid hlb
  have HG := Lib.hid hg
  have htb := ht.bulk
  clear hr hs hl hok ht hlb hg
  rw [show tmv t (.slice oa t.ts.length cap) = .agg #[.string t.nm, .bool t.vr, .slice oa t.ts.length cap] from rfl]
  go_enter Tryz.func42, Tryz.ntmps42
  go_wp2_with fail
  go_loopw [9, 19] (fun sz i wr => ∃ (j : Nat) (r : Tm) (n : Nat) (sr : Value), j ≤ l.length ∧ i = .int .i64 j ∧ sz = .int .i64 n ∧ n ≤ 4000 ∧ Hid (PfMem w wr t (.slice oa t.ts.length cap) r sr) ∧ Hid (pfRun L t t 0 l = pfRun L t r n (l.drop j)) ∧ Hid (PfGood L t r (l.drop j)) ∧ Hid (r.formed ∧ r.size ≤ 4000 + n)) (fun _ i _ => l.length - (intOf i).toNat)
  case atStart => exact ⟨0, t, 0, _, by omega, rfl, rfl, by omega, Lib.hid ⟨(Below.heap_alloc _ _ _ (by simp <;> omega)).trans ((Below.heap_alloc _ _ _ (by simp <;> omega)).trans (heap_new_at _ _ _ rfl)), (Below.heap_alloc _ _ _ (by simp <;> omega)).trans (heap_new_at _ _ _ (by simp)), heap_new_at _ _ _ (by simp), HS.out.toP.carry (fun b hb => ⟨(show Below w.heap.size w _ from by go_grown).block b hb, .inl hb, by simp; omega⟩), by go_grown⟩, Lib.hid (by simp), Lib.hid (by simpa using HG.out), Lib.hid ⟨HT.out.1, by have := HT.out.2.1; omega⟩⟩
  case round =>
    obtain ⟨j, r, n, sr, hj, rfl, rfl, hn4, HM, HRUN, HGOOD, HF⟩ := hrel
    obtain ⟨or, cr, rfl⟩ := HM.out.is.form
    obtain ⟨⟨t0, t1, t2⟩, -⟩ := box3 HM.out.tb
    obtain ⟨⟨r0, r1, r2⟩, f0, f1, f2⟩ := box3 HM.out.rb
    obtain ⟨⟨v0, v1, v2⟩, g0, g1, g2⟩ := box3 HM.out.vb
    have hwz := HM.out.lt
    by_cases hlt : j < l.length
    · obtain ⟨b, o, p, op, cp, rfl, hbn, hpk, c0, c1, hpos, hpl⟩ := (HL.out.carry HM.out.bl (Nat.le_refl _)).get hlt
      have HDR : Hid (l.drop j = p :: l.drop (j + 1)) := Lib.hid (by rw [List.drop_eq_getElem_cons hlt]; rw [List.getElem?_eq_getElem hlt] at hpk; cases hpk; rfl)
      obtain ⟨rule, pos⟩ := p
      simp only at c0 c1 hpos hpl
      have hba : Below wr.heap.size wr (wr.alloc (.cells #[.int .i64 rule, .slice op pos.length cp] 36)) := by go_grown
      have HSB := Lib.hid (rwsubst_any L (.slice ol L.length cl) t (.slice oa t.ts.length cap) rule pos (.slice op pos.length cp) _ (HR.out.carry ((HM.out.next hba).bl) (HM.out.next hba).bl.size) (HS.out.carry ((HM.out.next hba).bl) (HM.out.next hba).bl.size) (hpos.1.carry (hba.mono HM.out.bl.size) (by simp; omega)) HOK.out HT.out HLB.out hpl (by omega))
      have HPOS := Lib.hid (hpos.carry (hba.mono HM.out.bl.size) (Nat.le_refl _))
      have HM1 := Lib.hid (HM.out.next hba)
      clear hba hpk hpos t0 t1 t2
      obtain ⟨⟨t0, t1, t2⟩, -⟩ := box3 HM1.out.tb
      obtain ⟨⟨s0, s1⟩, -⟩ := box2g (heap_new_at wr (.cells #[.int .i64 rule, .slice op pos.length cp] 36) _ rfl)
      go_wp2_with fail
      refine HSB.out.mono ?_
      rintro e w1 ⟨hpost, hb1⟩
      have hsb := (hb1.block wr.heap.size (by simp)).trans (heap_new_at wr (.cells #[.int .i64 rule, .slice op pos.length cp] 36) _ rfl)
      have HM2 := Lib.hid (HM1.out.next hb1)
      have HSBX := Lib.hid hsb
      have HPOS1 := Lib.hid (HPOS.out.carry (hb1.mono (by simp; omega)) (Nat.le_refl _))
      have hz1 := hb1.size
      simp only [World.size_alloc] at hz1
      clear hb1 HSB HM1 HPOS t0 t1 t2 r0 r1 r2 f0 f1 f2 v0 v1 v2 g0 g1 g2 s0 s1
      obtain ⟨⟨t0, t1, t2⟩, -⟩ := box3 HM2.out.tb
      obtain ⟨⟨r0, r1, r2⟩, f0, f1, f2⟩ := box3 HM2.out.rb
      obtain ⟨⟨v0, v1, v2⟩, g0, g1, g2⟩ := box3 HM2.out.vb
      obtain ⟨⟨s0, s1⟩, -⟩ := box2g HSBX.out
      rcases hpost with ⟨bs, q, bv, rfl, hstep, hbi⟩ | ⟨c, rfl, hc, hstep⟩
      · have HST := Lib.hid hstep
        have HBI := Lib.hid hbi
        clear hstep hbi
        obtain ⟨hsub, hql, xx, -, -⟩ := stepM_sub HST.out HOK.out HT.out
        obtain ⟨k, x, m, rfl, hkq, hx, hm, rfl⟩ := stepM_some HST.out
        have hkl : k < L.length := (List.getElem?_eq_some_iff.1 hkq).1
        have hbl : (subK m).length ≤ 1048576 := by
          have h1 := (match_len (HOK.out.2.1 _ (sidesV_mem hql).1).1.bare hm).2
          have h2 := (HOK.out.2.1 _ (sidesV_mem hql).1).2.1
          rw [subK_len]; omega
        obtain ⟨b', o', pl, pr, olx, orx, clx, crx, rfl, hbn', hpk', -, hsr, -, -, -, d3, d4, d5⟩ := (HR.out.carry HM2.out.bl (Nat.le_refl _)).get hkl
        rw [hkq] at hpk'
        obtain rfl : q = _ := Option.some.inj hpk'
        have hpro := HOK.out.2.1 _ (sidesV_mem hql).2
        have HAP := Lib.hid (tapply_new (subK m) bv pr (.slice orx pr.ts.length crx) w1 HBI.out (hsub.bulk hbl) (hsr.carry (Below.refl _ _) HM2.out.bl.size) (by have := hpro.bulk; simp only at this; omega))
        have HSUB := Lib.hid hsub
        have HPRO := Lib.hid hpro
        obtain ⟨obv, cbv, rfl, -, -⟩ := id HBI.out
        clear hsub hql hkq hx hm hbl hpk' hsr hpro
        go_wp2_with fail
        refine HAP.out.mono ?_
        rintro e w2 ⟨u, c, ⟨⟨su, rfl, hsu⟩, hb2⟩, hc⟩
        obtain ⟨ou, cu, rfl⟩ := hsu.form
        dsimp only [tmv]
        have hsb2 := (hb2.block wr.heap.size (Array.getElem?_eq_some_iff.1 HSBX.out).1).trans HSBX.out
        have hbx : Below w2.heap.size w2 (w2.alloc (.cells #[.string u.nm, .bool u.vr, .slice ou u.ts.length cu] 25)) := by go_grown
        have HM3 := Lib.hid ((HM2.out.next hb2).next hbx)
        have HSB3 := Lib.hid ((hbx.block wr.heap.size (Array.getElem?_eq_some_iff.1 hsb2).1).trans hsb2)
        have HPOS3 := Lib.hid ((HPOS1.out.carry (hb2.mono HM2.out.bl.size) (Nat.le_refl _)).carry (hbx.mono (by have := (HM2.out.next hb2).bl.size; omega)) (Nat.le_refl _))
        have HSU := Lib.hid hsu
        have HBX := Lib.hid hbx
        have hz2 := hb2.size
        clear hsb2 hbx hb2 hsu t0 t1 t2 r0 r1 r2 f0 f1 f2 v0 v1 v2 g0 g1 g2 s0 s1
        obtain ⟨⟨r0, r1, r2⟩, f0, f1, f2⟩ := box3 HM3.out.rb
        obtain ⟨⟨v0, v1, v2⟩, g0, g1, g2⟩ := box3 HM3.out.vb
        obtain ⟨⟨s0, s1⟩, -⟩ := box2g HSB3.out
        obtain ⟨⟨x0, x1, x2⟩, -⟩ := box3 (heap_new_at w2 (.cells #[.string u.nm, .bool u.vr, .slice ou u.ts.length cu] 25) _ rfl)
        rcases hc with ⟨rfl, -, -, hsm, hu⟩ | ⟨hc, hu, hbig⟩
        · have HSM := Lib.hid hsm
          have HU := Lib.hid hu
          clear hsm hu
          have huf : u.formed := by rw [HU.out]; exact apB_formed (fun q hq => (HSUB.out.terms q hq).1) HPRO.out.1
          have husz : u.size ≤ 4000 ∧ u.depth ≤ 200 := by rw [HU.out]; exact HSM.out
          have hub : u.bulk ≤ 100000 := (show u.ok from ⟨huf, husz.1, husz.2⟩).bulk
          have HUF := Lib.hid huf
          have husz1 := husz.1
          clear huf husz
          have HSZ := Lib.hid (tsize_any u (.slice ou u.ts.length cu) _ ((HSU.out.toIs fun b hb => hb.2).carry HBX.out HBX.out.size) (by omega))
          go_wp2_with fail
          refine HSZ.out.mono ?_
          rintro e w4 ⟨rfl, hb4⟩
          have hsb4 := (hb4.block wr.heap.size (Array.getElem?_eq_some_iff.1 HSB3.out).1).trans HSB3.out
          have hxb4 := (hb4.block w2.heap.size (by simp)).trans (heap_new_at w2 (.cells #[.string u.nm, .bool u.vr, .slice ou u.ts.length cu] 25) _ rfl)
          have HM4 := Lib.hid (HM3.out.next hb4)
          have HPOS4 := Lib.hid (HPOS3.out.carry (hb4.mono HM3.out.bl.size) (Nat.le_refl _))
          have HBX4 := Lib.hid (HBX.out.trans (hb4.mono HBX.out.size))
          have hz4 := hb4.size
          clear hb4 HSZ r0 r1 r2 f0 f1 f2 v0 v1 v2 g0 g1 g2 s0 s1 x0 x1 x2
          obtain ⟨⟨r0, r1, r2⟩, f0, f1, f2⟩ := box3 HM4.out.rb
          obtain ⟨⟨v0, v1, v2⟩, g0, g1, g2⟩ := box3 HM4.out.vb
          obtain ⟨⟨s0, s1⟩, -⟩ := box2g hsb4
          obtain ⟨⟨x0, x1, x2⟩, -⟩ := box3 hxb4
          by_cases hbg : 4000 < n + u.size
          · have HBR : Hid (pfRun L t t 0 l = .big) := Lib.hid (by rw [HRUN.out, HDR.out]; simp only [pfRun, HST.out]; rw [if_neg (fun h => by have := h.2; rw [← HU.out] at this; omega)])
            clear hsb4 hxb4
            go_wp2_with fail
            obtain ⟨⟨q0, q1, q2⟩, -⟩ := box3 (box3_set HM4.out.rb (.string ⟨#[]⟩) (.bool false) (.slice none 0 0))
            refine bodyPost_ret (v := .tuple #[.agg #[.string ⟨#[]⟩, .bool false, .slice none 0 0], .int .i64 3]) (by simp [results, Tryz.f42, go_sem, q0, q1, q2]) rfl ?_
            rw [HBR.out]
            exact ⟨rfl, below_set3 HM4.out.bl (by omega) _ _ _⟩
          · have hgd := HGOOD.out
            rw [HDR.out] at hgd
            have hgn := (hgd _ _ HST.out).2
            have hga := (hgd _ _ HST.out).1
            have HRUN2 : Hid (pfRun L t t 0 l = pfRun L t (r.put pos u) (n + u.size) (l.drop (j + 1))) := Lib.hid (by rw [HRUN.out, HDR.out, HU.out]; simp only [pfRun, HST.out]; rw [if_pos ⟨HSM.out, by have := hbg; rw [HU.out] at this; omega⟩])
            rw [← show u = apB (subK m) pr from HU.out] at hgn
            have HPT := Lib.hid (rwput_any w.heap.size (fun b => (b < w.heap.size ∨ w.heap.size + 1 + 1 < b) ∧ b < w4.heap.size) pos r (.slice or r.ts.length cr) (.slice op pos.length cp) u (.slice ou u.ts.length cu) w4 HM4.out.bl.size (fun b hb => hb.2) HM4.out.is HPOS4.out.1 HPOS4.out.2
              (HSU.out.carry fun b hb => ⟨HBX4.out.block b hb.2, .inr (by have := HM2.out.lt; omega), by simp at hz4; omega⟩) hga hpl (by have := HF.out.1.bulk25; have := HF.out.2; omega))
            have HGN := Lib.hid hgn
            clear hsb4 hxb4 hgd hgn hga
            go_wp2_with fail
            refine HPT.out.mono ?_
            rintro e w5 ⟨⟨sr5, rfl, hsr5⟩, hb5⟩
            obtain ⟨o5, c5, rfl⟩ := hsr5.form
            dsimp only [tmv]
            have HM5 := Lib.hid (HM4.out.next hb5)
            have HS5 := Lib.hid hsr5
            have hz5 := hb5.size
            clear hb5 hsr5 r0 r1 r2 f0 f1 f2 v0 v1 v2 g0 g1 g2 s0 s1 x0 x1 x2
            obtain ⟨⟨v0, v1, v2⟩, g0, g1, g2⟩ := box3 HM5.out.vb
            go_wp2_with fail
            have hlt4 := HM4.out.lt
            refine ⟨⟨j + 1, r.put pos u, n + u.size, _, by omega, by go_num, by push_cast; rfl, by omega, Lib.hid ⟨(heap_set3 _ _ _ _ _ _ (by omega)).trans HM5.out.tb, (heap_set3 _ _ _ _ _ _ (by omega)).trans HM5.out.rb, box3_set HM5.out.vb _ _ _, ?_, below_set3 HM5.out.bl (by omega) _ _ _⟩, HRUN2, HGN, Lib.hid ⟨Tm.put_formed HF.out.1 HUF.out pos, by have := Tm.put_size r pos u; have := HF.out.2; omega⟩⟩, by simp only [intOf]; omega⟩
            exact HS5.out.carry fun b hb => ⟨heap_set3 _ _ _ _ _ _ (by rcases hb.1 with h | h <;> omega), by rcases hb.1 with h | h <;> omega, by simpa [World.setCell] using hb.2⟩
        · have HBIG := Lib.hid (hbig HSUB.out HPRO.out)
          obtain rfl : c = 3 := HBIG.out.2
          have HBR : Hid (pfRun L t t 0 l = .big) := Lib.hid (by rw [HRUN.out, HDR.out]; simp only [pfRun, HST.out]; rw [if_neg (fun h => HBIG.out.1 h.1)])
          clear hbig hc hu
          go_wp2_with fail
          obtain ⟨⟨q0, q1, q2⟩, -⟩ := box3 (box3_set HM3.out.rb (.string ⟨#[]⟩) (.bool false) (.slice none 0 0))
          refine bodyPost_ret (v := .tuple #[.agg #[.string ⟨#[]⟩, .bool false, .slice none 0 0], .int .i64 3]) (by simp [results, Tryz.f42, go_sem, q0, q1, q2]) rfl ?_
          rw [HBR.out]
          exact ⟨rfl, below_set3 HM3.out.bl (by omega) _ _ _⟩
      · have HBAD : Hid (pfRun L t t 0 l = .bad) := Lib.hid (by rw [HRUN.out, HDR.out]; simp only [pfRun, hstep])
        clear hstep
        have hcb : (c != 0) = true := by simpa using hc
        go_wp2_with fail
        obtain ⟨⟨q0, q1, q2⟩, -⟩ := box3 (box3_set HM2.out.rb (.string ⟨#[]⟩) (.bool false) (.slice none 0 0))
        refine bodyPost_ret (v := .tuple #[.agg #[.string ⟨#[]⟩, .bool false, .slice none 0 0], .int .i64 c]) (by simp [results, Tryz.f42, go_sem, q0, q1, q2]) rfl ?_
        rw [HBAD.out]
        exact ⟨⟨c, hc, rfl⟩, below_set3 HM2.out.bl (by omega) _ _ _⟩
    · have hd : l.drop j = [] := List.drop_eq_nil_of_le (by omega)
      have HEND : Hid (pfRun L t t 0 l = .ok r n) := Lib.hid (by rw [HRUN.out, hd]; rfl)
      clear hd
      have HCK := Lib.hid (check_full r (.slice or r.ts.length cr) wr HM.out.is' (by have := HF.out.1.bulk25; have := HF.out.2; omega))
      go_wp2_with fail
      refine HCK.out.mono ?_
      rintro e w1 ⟨⟨c, rfl, hc⟩, hb1⟩
      have HM2 := Lib.hid (HM.out.next hb1)
      clear hb1 t0 t1 t2 r0 r1 r2 f0 f1 f2 v0 v1 v2 g0 g1 g2
      obtain ⟨⟨r0, r1, r2⟩, f0, f1, f2⟩ := box3 HM2.out.rb
      obtain ⟨⟨v0, v1, v2⟩, -⟩ := box3 HM2.out.vb
      by_cases hc0 : c = 0
      · have HOKR := Lib.hid (hc.1.1 hc0)
        subst hc0
        clear hc
        go_wp2_with fail
        obtain ⟨⟨q0, q1, q2⟩, -⟩ := box3 (box3_set HM2.out.rb (.string r.nm) (.bool r.vr) (.slice or r.ts.length cr))
        refine bodyPost_ret (v := .tuple #[.agg #[.string r.nm, .bool r.vr, .slice or r.ts.length cr], .int .i64 0]) (by simp [results, Tryz.f42, go_sem, q0, q1, q2]) rfl ?_
        rw [HEND.out]
        exact ⟨.inl ⟨HOKR.out, _, rfl, (HM2.out.is.carry (q := fun b => b < w1.heap.size) fun b hb => ⟨heap_set3 _ _ _ _ _ _ (by omega), hb.2⟩).toIs fun b hb => by simpa [World.setCell] using hb⟩, below_set3 HM2.out.bl (by omega) _ _ _⟩
      · have hcb : (c != 0) = true := by simpa using hc0
        have HC := Lib.hid hc
        clear hc
        go_wp2_with fail
        obtain ⟨⟨q0, q1, q2⟩, -⟩ := box3 (box3_set HM2.out.rb (.string ⟨#[]⟩) (.bool false) (.slice none 0 0))
        refine bodyPost_ret (v := .tuple #[.agg #[.string ⟨#[]⟩, .bool false, .slice none 0 0], .int .i64 c]) (by simp [results, Tryz.f42, go_sem, q0, q1, q2]) rfl ?_
        rw [HEND.out]
        have hno : ¬ r.ok := fun h => hc0 (HC.out.1.2 h)
        exact ⟨.inr ⟨hno, c, hc0, fun hf => HC.out.2.1 hf.allOk hno, rfl⟩, below_set3 HM2.out.bl (by omega) _ _ _⟩
end Go.Proofs.YtamddagmlanijaaGreat
