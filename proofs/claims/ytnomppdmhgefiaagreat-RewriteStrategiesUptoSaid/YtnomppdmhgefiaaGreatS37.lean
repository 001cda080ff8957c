/- Packed: Rva, Rsm, Rwi, Rcy, Chn. -/
import Derived.WalkKit
import Derived.ProofKit
import Derived.OpenShut
import Derived.Handy
import Derived.Lib.Hide
import Derived.Test.YtnomppdmhgefiaaGreatS19
import Derived.Test.YtnomppdmhgefiaaGreatS10
import Derived.Test.YtnomppdmhgefiaaGreatS16
import Derived.Test.YtnomppdmhgefiaaGreatS36
import Derived.StillTailTactics
import Derived.Test.YtnomppdmhgefiaaGreatS33
/- The reference's Vars. -/
namespace Go.Proofs.YtnomppdmhgefiaaGreat
open Go.RowKit

theorem firsts_vs (t : Tm) : ∀ (ss : List Key) (x : Key), x ∈ firsts ss t ↔ x ∈ ss ∨ x ∈ t.vs := by
  induction t using Tm.ind with
  | h t ih =>
    intro ss x
    cases hv : t.vr
    · rw [firsts_fun ss hv, Tm.vs_fun hv]
      have key : ∀ (l : List Tm) (ss : List Key), (∀ u ∈ l, u ∈ t.ts) → (x ∈ firstsL ss l ↔ x ∈ ss ∨ x ∈ Tm.vss l) := by
        intro l
        induction l with
        | nil => intro ss _; simp [firstsL, Tm.reps, Tm.vss]
        | cons y l ihl =>
          intro ss hs
          rw [firstsL_cons, ihl _ fun u hu => hs u (by simp [hu]), ih y (hs y (by simp)), Tm.vss, List.mem_append, or_assoc]
      exact key t.ts ss fun u hu => hu
    · rw [firsts_var ss hv, Tm.vs_var hv, addKey_iff]; simp
theorem firstsL_vs (l : List Tm) : ∀ (ss : List Key) (x : Key), x ∈ firstsL ss l ↔ x ∈ ss ∨ x ∈ Tm.vss l := by
  induction l with
  | nil => intro ss x; simp [firstsL, Tm.reps, Tm.vss]
  | cons y l ihl => intro ss x; rw [firstsL_cons, ihl, firsts_vs, Tm.vss, List.mem_append, or_assoc]
theorem Tm.vs_names (t : Tm) : ∀ x ∈ t.vs, x.length ≤ t.bulk := by
  induction t using Tm.ind with
  | h t ih =>
    intro x hx
    rw [Tm.bulk_eq]
    cases hv : t.vr
    · rw [Tm.vs_fun hv, Tm.vss_mem] at hx
      obtain ⟨u, hu, hx⟩ := hx
      have := ih u hu x hx
      have := Tm.bulk_mem hu
      omega
    · rw [Tm.vs_var hv] at hx
      obtain rfl := List.mem_singleton.1 hx
      rw [bytes_len]; omega
theorem vss_names {l : List Tm} {x : Key} (h : x ∈ Tm.vss l) : x.length ≤ Tm.bulks l := by
  obtain ⟨u, hu, hx⟩ := Tm.vss_mem.1 h
  exact Nat.le_trans (u.vs_names x hx) (Tm.bulk_mem hu)
theorem vss_take {l : List Tm} {k : Nat} {x : Key} (h : x ∈ Tm.vss (l.take k)) : x ∈ Tm.vss l := by
  obtain ⟨u, hu, hx⟩ := Tm.vss_mem.1 h
  exact Tm.vss_mem.2 ⟨u, List.mem_of_mem_take hu, hx⟩

set_option maxRecDepth 100000 in
set_option maxHeartbeats 4000000 in
theorem rvars_any (L : List Tm) (hbare : ∀ t ∈ L, t.bare) (s : Value) (w : World) (hs : SlIs w.heap.size w L s) (hb : Tm.bulks L ≤ 1048576) :
    Calls Tryz.prog 176 #[s] w fun e w' => (∃ (v' : Value) (r : List Key), e = .returned v' ∧ StrIs w'.heap.size w' r v' ∧ r.Pairwise (· < ·) ∧ ∀ x, x ∈ r ↔ x ∈ Tm.vss L) ∧ Below w.heap.size w w' := by
  obtain ⟨oa, ca, rfl, -⟩ := hs.form
  have HSL := Lib.hid hs
  have HBR := Lib.hid hbare
  have hsz := Tm.sizes_bulks L fun u _ => Tm.size_bulk u
  have hlen := Tm.length_sizes L
  clear hs hbare
  go_enter Tryz.func176, Tryz.ntmps176
  go_wp2_with fail
  go_loopw [3, 8] (fun l i wr => ∃ (k : Nat) (r : List Key), k ≤ L.length ∧ i = .int .i64 k ∧ Hid (StrIs wr.heap.size wr r l) ∧ Hid (r.Pairwise (· < ·)) ∧ Hid (∀ x, x ∈ r ↔ x ∈ firstsL [] (L.take k)) ∧ Hid (Below w.heap.size w wr)) (fun _ i _ => L.length - (intOf i).toNat)
  case atStart => exact ⟨0, [], by omega, rfl, Lib.hid (StrIs.nil _ _), Lib.hid List.Pairwise.nil, Lib.hid (fun x => Iff.rfl), Lib.hid (Below.refl _ _)⟩
  case round =>
    obtain ⟨k, r, hk, rfl, HS, HO, HMR, HBW⟩ := hrel
    by_cases hlt : k < L.length
    · have hz := HBW.out.size
      obtain ⟨b, o, u, su, rfl, hbb, hu, hum, hus, c1, c2, c3⟩ := (HSL.out.carry HBW.out hz).get hlt
      obtain ⟨ou, cu, rfl, -⟩ := hus.form
      have hs2 := HS.out
      obtain ⟨of, cf, rfl, -, -, -⟩ := hs2
      have hub := Tm.bulk_mem hum
      have htk := Tm.take_snoc hu
      have h1 := Tm.sizes_take L (k + 1)
      rw [htk, Tm.sizes_append, Tm.sizes, Tm.sizes] at h1
      have h2 := firstsL_length (L.take k) []
      rw [List.length_nil] at h2
      have h3 : ∀ x ∈ firsts (firstsL [] (L.take k)) u, x.length ≤ 1048576 := fun x hx => by
        rw [← firstsL_snoc, ← htk, firstsL_vs] at hx
        have := vss_names (vss_take (hx.resolve_left (by simp)))
        omega
      have IHu : ∀ W1, Below wr.heap.size wr W1 → Hid (Calls Tryz.prog 222 #[tmv u (.slice ou u.ts.length cu), .slice of r.length cf] W1 fun e w' => (∃ (v' : Value) (r : List Key), e = .returned v' ∧ StrIs w'.heap.size w' r v' ∧ r.Pairwise (· < ·) ∧ ∀ x, x ∈ r ↔ x ∈ firsts (firstsL [] (L.take k)) u) ∧ Below W1.heap.size W1 w') := fun W1 hW => Lib.hid
        (rcollect_any u (HBR.out u hum) _ _ (firstsL [] (L.take k)) r W1 (hus.carry hW hW.size) (HS.out.carry hW hW.size) HO.out HMR.out (by omega) (by omega) h3)
      have HTK : Hid (firsts (firstsL [] (L.take k)) u = firstsL [] (L.take (k + 1))) := Lib.hid (by rw [htk, firstsL_snoc])
      clear hu hum hus htk h1 h2 h3
      go_wp2_with fail
      refine (IHu _ (by go_grown)).out.mono ?_
      rintro e w1 ⟨⟨v1, r1, rfl, h1, h2, h3⟩, hb1⟩
      rw [HTK.out] at h3
      have HS1 := Lib.hid h1
      have H2 := Lib.hid h2
      have H3 := Lib.hid h3
      have HB1 : Hid (Below w.heap.size w w1) := Lib.hid (HBW.out.trans ((show Below wr.heap.size wr _ from by go_grown).trans (hb1.mono (by simp)) |>.mono hz))
      clear h1 h2 h3 hb1 IHu
      go_wp2_with fail
      exact ⟨⟨k + 1, r1, by omega, by go_num, HS1, H2, H3, HB1⟩, by simp [intOf]; omega⟩
    · obtain rfl : k = L.length := by omega
      have HM : Hid (∀ x, x ∈ r ↔ x ∈ Tm.vss L) := Lib.hid fun x => by
        rw [HMR.out x, List.take_length, firstsL_vs]; simp
      go_wp2_with fail
      go_ret
      exact ⟨⟨_, r, rfl, HS.out, HO.out, HM.out⟩, HBW.out⟩
end Go.Proofs.YtnomppdmhgefiaaGreat
/- The reference's Symbols, Within, CheckSystem, Check: where they answer 0 the program's checks do, too. -/
namespace Go.Proofs.YtnomppdmhgefiaaGreat
open Go.RowKit

/-- all sides' symbols stand in S -/
def SyTms (S : List Sy) (L : List Tm) : Prop := ∀ u ∈ L, SyAll S (u.nodes 1)
theorem SyTms.mono {S S' : List Sy} {L : List Tm} (h : SyTms S L) (hs : ∀ p ∈ S, p ∈ S') : SyTms S' L := fun u hu => (h u hu).mono hs
structure SymSt (S : List Sy) (N : Nat) (L : List Tm) (s : Value) (n : Nat) (W : World) : Prop where
  is : SyIs n W S s
  n : SyN s
  ord : SyOrd S
  nms : ∀ p ∈ S, p.1.length ≤ 1048576
  len : S.length ≤ N
  all : SyTms S L
theorem SymSt.carry {S : List Sy} {N : Nat} {L : List Tm} {s : Value} {n m : Nat} {A B : World} (h : SymSt S N L s n A) (hb : Below n A B) (hn : n ≤ m) : SymSt S N L s m B := { h with is := h.is.carry hb hn }
def sidesT (R : List RlV) : List Tm := (sidesV R).map (·.1)
theorem arRun_sides {S : List Sy} {R : List RlV} (hS : SyOrd S) (h : SyTms S (sidesT R)) : arRun [] (viewsV (sidesV R)) ≠ none := by
  refine arRun_sy hS _ (fun v hv => ?_) _ (fun k n h => by simp [getA] at h)
  unfold viewsV at hv
  obtain ⟨l, hl, hv⟩ := List.mem_flatten.1 hv
  obtain ⟨x, hx, rfl⟩ := List.mem_map.1 hl
  exact h x.1 (List.mem_map.2 ⟨x, hx, rfl⟩) v hv
theorem sidesT_takeS {l : List RlV} {k : Nat} {p : RlV} (h : l[k]? = some p) : sidesT (l.take (k + 1)) = sidesT (l.take k) ++ [p.1.1, p.2.1] := by
  unfold sidesT; rw [sidesV_takeS h]; simp
set_option maxRecDepth 100000 in
set_option maxHeartbeats 8000000 in
theorem rSymbols_any (R : List RlV) (v : Value) (w : World) (hv : RulV w.heap.size w R v) (hl : R.length ≤ 64) (hok : ∀ x ∈ sidesV R, x.1.ok) :
    Calls Tryz.prog 114 #[v] w fun e w' => (∃ (v' : Value) (b : Bool), e = .returned (.tuple #[v', .bool b]) ∧ (b = true → ∃ S, SyOrd S ∧ SyTms S (sidesT R))) ∧ Below w.heap.size w w' := by
  obtain ⟨oa, cap, rfl⟩ := hv.shape
  have HV := Lib.hid hv
  have HOK := Lib.hid hok
  clear hv hok
  go_enter Tryz.func114, Tryz.ntmps114
  go_wp2_with fail
  go_loopw [4, 13] (fun s4 i wr => ∃ (k : Nat) (S : List Sy), k ≤ R.length ∧ i = .int .i64 k ∧ Hid (SymSt S (8000 * k) (sidesT (R.take k)) s4 wr.heap.size wr) ∧ Hid (Below w.heap.size w wr)) (fun _ i _ => R.length - (intOf i).toNat)
  case atStart => exact ⟨0, [], by omega, rfl, Lib.hid ⟨⟨none, 0, rfl, by simp, fun h => absurd rfl h⟩, ⟨fun m k e => by cases e; exact ⟨rfl, rfl⟩, fun a m k e => by cases e⟩, List.Pairwise.nil, by simp, by simp, by intro u hu; simp [sidesT, sidesV] at hu⟩, Lib.hid (Below.refl _ _)⟩
  case round =>
    obtain ⟨k, S, hk, rfl, HST, HBW⟩ := hrel
    by_cases hlt : k < R.length
    · have hz := HBW.out.size
      obtain ⟨b, o, x, y, ox, oy, cx, cy, rfl, hbn, hp, hsx, hsy, c0, c1, c2, c3, c4, c5⟩ := (HV.out.carry HBW.out hz).get hlt
      have HTK := Lib.hid (sidesT_takeS hp)
      have hmx : (x, _) ∈ sidesV R ∧ (y, _) ∈ sidesV R := sidesV_mem (List.mem_of_getElem? hp)
      have HXO := Lib.hid (HOK.out _ hmx.1)
      have HYO := Lib.hid (HOK.out _ hmx.2)
      simp only at HXO HYO
      have hA : Below wr.heap.size wr ((wr.alloc (.cells #[.string x.nm, .bool x.vr, .slice ox x.ts.length cx, .string y.nm, .bool y.vr, .slice oy y.ts.length cy] 96)).alloc (.cells #[.string x.nm, .bool x.vr, .slice ox x.ts.length cx, .string y.nm, .bool y.vr, .slice oy y.ts.length cy] 25)) := by go_grown
      have HROW := Lib.hid (rowIs [(x, .slice ox x.ts.length cx), (y, .slice oy y.ts.length cy)] (heap_new_at (wr.alloc (.cells #[.string x.nm, .bool x.vr, .slice ox x.ts.length cx, .string y.nm, .bool y.vr, .slice oy y.ts.length cy] 96)) (.cells #[.string x.nm, .bool x.vr, .slice ox x.ts.length cx, .string y.nm, .bool y.vr, .slice oy y.ts.length cy] 25) (wr.heap.size + 1) (by simp)) (show 2 ≤ 8 by decide) (by
          simp only [List.mem_cons, List.not_mem_nil, or_false]
          rintro c (rfl | rfl)
          · exact hsx.carry hA hA.size
          · exact hsy.carry hA hA.size))
      have HA := Lib.hid (HBW.out.trans (hA.mono hz))
      have HSA := Lib.hid (HST.out.carry hA hA.size)
      obtain ⟨os, cs, rfl, hcs⟩ := HST.out.is.form
      clear hp hmx hsx hsy hA HST
      go_wp2_with fail
      have hge : wr.heap.size ≤ ((wr.alloc (.cells #[.string x.nm, .bool x.vr, .slice ox x.ts.length cx, .string y.nm, .bool y.vr, .slice oy y.ts.length cy] 96)).alloc (.cells #[.string x.nm, .bool x.vr, .slice ox x.ts.length cx, .string y.nm, .bool y.vr, .slice oy y.ts.length cy] 25)).heap.size := by simp; omega
      generalize (wr.alloc (.cells #[.string x.nm, .bool x.vr, .slice ox x.ts.length cx, .string y.nm, .bool y.vr, .slice oy y.ts.length cy] 96)).alloc (.cells #[.string x.nm, .bool x.vr, .slice ox x.ts.length cx, .string y.nm, .bool y.vr, .slice oy y.ts.length cy] 25) = wq at *
      have HRW : Hid (SlIs wq.heap.size wq [x, y] (.slice (some ⟨wr.heap.size + 1, 0, none⟩) 2 2)) := HROW
      have HOK2 := Lib.hid (show ∀ u ∈ [x, y], u.ok from fun u hu => by
        simp only [List.mem_cons, List.not_mem_nil, or_false] at hu
        rcases hu with rfl | rfl
        · exact HXO.out
        · exact HYO.out)
      clear HROW HXO HYO c0 c1 c2 c3 c4 c5
      go_loopw [4, 23] (fun s4 i w5 => ∃ (m : Nat) (S4 : List Sy), m ≤ 2 ∧ i = .int .i64 m ∧ Hid (SymSt S4 (8000 * k + 4000 * m) (sidesT (R.take k) ++ [x, y].take m) s4 w5.heap.size w5) ∧ Hid (Below wq.heap.size wq w5)) (fun _ i _ => 2 - (intOf i).toNat)
      case atStart => exact ⟨0, S, by omega, rfl, by simpa using HSA, Lib.hid (Below.refl _ _)⟩
      case round =>
        obtain ⟨m, S4, hm, rfl, HST4, HB5⟩ := hrel
        obtain ⟨os4, cs4, rfl, hcs4⟩ := HST4.out.is.form
        by_cases hltm : m < 2
        · obtain ⟨b6, o6, u, su, hbo, hbb, hu, hum, hus, d0, d1, d2⟩ := (HRW.out.carry HB5.out HB5.out.size).get (k := m) hltm
          cases hbo
          simp only [Nat.zero_add] at d0 d1 d2
          obtain ⟨ou, cu, rfl, -⟩ := hus.form
          have HUO := Lib.hid (HOK2.out u hum)
          have hub : u.bulk ≤ 1048576 := by have := HUO.out.bulk; omega
          have hus2 : u.size ≤ 4000 := HUO.out.2.1
          have hln := HST4.out.len
          have hba : Below wr.heap.size wr (wr.alloc (.cells #[.string u.nm, .bool u.vr, .slice ou u.ts.length cu] 25)) := (Below.refl wr.heap.size wr).alloc (Nat.le_refl _) _
          have HC := Lib.hid (rsymbols_any u 1 (.slice ou u.ts.length cu) (.slice os4 S4.length cs4) S4 (wr.alloc (.cells #[.string u.nm, .bool u.vr, .slice ou u.ts.length cu] 25)) (hus.carry hba hba.size) HUO.out.1.bare hub (HST4.out.is.carry hba hba.size) HST4.out.n HST4.out.ord (by omega) HST4.out.nms)
          have HBn := Lib.hid (HB5.out.trans (hba.mono HB5.out.size))
          have HTM := Lib.hid (show [x, y].take (m + 1) = [x, y].take m ++ [u] by rw [List.take_add_one, hu]; rfl)
          have HALL := HST4.out.all
          have HAL := Lib.hid HALL
          clear hu hum hus hba HALL
          go_wp2_with fail
          refine HC.out.mono ?_
          rintro e w6 ⟨⟨v', l4, b4, rfl, hl4, hnn4, hr4⟩, hb4⟩
          have HL4 := Lib.hid hl4
          have HNN4 := Lib.hid hnn4
          have HR4 := Lib.hid hr4
          have HB6 := Lib.hid (HBn.out.trans (hb4.mono HBn.out.size))
          clear hl4 hnn4 hr4 hb4 HC
          cases b4 with
          | false =>
            go_wp2_with fail
            refine bodyPost_ret (v := .tuple #[.slice none 0 0, .bool false]) (by simp [results, Tryz.f114, go_sem]) rfl ?_
            exact ⟨⟨_, false, rfl, nofun⟩, HA.out.trans (HB6.out.mono HA.out.size)⟩
          | true =>
            have HST6 : Hid (SymSt l4 (8000 * k + 4000 * (m + 1)) (sidesT (R.take k) ++ [x, y].take (m + 1)) v' w6.heap.size w6) := Lib.hid ⟨HL4.out, HNN4.out, HR4.out.ord, HR4.out.nms, by have := HR4.out.len; omega, by
              rw [HTM.out, ← List.append_assoc]
              intro z hz
              rcases List.mem_append.1 hz with h | h
              · exact (HAL.out z h).mono (HR4.out.yes rfl).1
              · obtain rfl := List.mem_singleton.1 h
                exact (HR4.out.yes rfl).2⟩
            obtain ⟨o4, c4, rfl, -⟩ := HL4.out.form
            go_wp2_with fail
            exact ⟨⟨m + 1, l4, by omega, by go_num, HST6, HB6⟩, by simp [intOf]; omega⟩
        · obtain rfl : m = 2 := by omega
          have HST7 : Hid (SymSt S4 (8000 * (k + 1)) (sidesT (R.take (k + 1))) (.slice os4 S4.length cs4) wr.heap.size wr) := Lib.hid { HST4.out with len := (by have := HST4.out.len; omega), all := (by rw [HTK.out]; exact HST4.out.all) }
          have HB7 := Lib.hid (HA.out.trans (HB5.out.mono HA.out.size))
          clear HST4
          go_wp2_with fail
          exact ⟨⟨k + 1, S4, by omega, by go_num, HST7, HB7⟩, by simp [intOf]; omega⟩
    · obtain rfl : k = R.length := by omega
      have HALL : Hid (∃ S, SyOrd S ∧ SyTms S (sidesT R)) := Lib.hid ⟨S, HST.out.ord, by have := HST.out.all; rwa [List.take_length] at this⟩
      obtain ⟨os, cs, rfl, hcs⟩ := HST.out.is.form
      go_wp2_with fail
      refine bodyPost_ret (v := .tuple #[.slice os S.length cs, .bool true]) (by simp [results, Tryz.f114, go_sem]) rfl ?_
      exact ⟨⟨_, true, rfl, fun _ => HALL.out⟩, HBW.out⟩
end Go.Proofs.YtnomppdmhgefiaaGreat
/- The reference's Count and Within. -/
namespace Go.Proofs.YtnomppdmhgefiaaGreat
open Go.RowKit

set_option maxRecDepth 100000 in
set_option maxHeartbeats 4000000 in
theorem rcount_any (k : Key) (t : Tm) : ∀ (s : Value) (w : World), t.bare → t.bulk ≤ 1048576 → SlIs w.heap.size w t.ts s →
    Calls Tryz.prog 177 #[tmv t s, .string (kb k)] w fun e w' => (∃ n : Nat, e = .returned (.int .i64 n) ∧ n ≤ t.size ∧ (n = 0 ↔ k ∉ t.vs)) ∧ Below w.heap.size w w' := by
  induction t using Tm.ind with
  | h t ih =>
  intro s w hbare hbt hs
  obtain ⟨oa, ca, rfl, -⟩ := hs.form
  have hts : t.ts.length ≤ 1048576 := by have := Tm.length_sizes t.ts; have := Tm.size_eq t; have := Tm.size_bulk t; omega
  have IH := Lib.hid ih
  have HE := Lib.hid (Tm.size_eq t)
  have HBA := Lib.hid hbare
  have HS := Lib.hid hs
  have hzs := Tm.size_bulk t
  have HBX := Lib.hid (show (w.alloc (.cells #[.string t.nm, .bool t.vr, .slice oa t.ts.length ca] 25)).heap[w.heap.size]? = some (.cells #[.string t.nm, .bool t.vr, .slice oa t.ts.length ca] 25 (0, 0)) from heap_new_at _ _ _ rfl)
  have HB0 := Lib.hid (show Below w.heap.size w (w.alloc (.cells #[.string t.nm, .bool t.vr, .slice oa t.ts.length ca] 25)) by go_grown)
  clear ih hbare hs
  go_enter Tryz.func177, Tryz.ntmps177
  rw [show tmv t (.slice oa t.ts.length ca) = .agg #[.string t.nm, .bool t.vr, .slice oa t.ts.length ca] from rfl]
  generalize hv : t.vr = vb at HBX HB0 ⊢
  have HV := Lib.hid hv
  clear hv
  go_upto_region 2 with fail
  generalize w.alloc (.cells #[.string t.nm, .bool vb, .slice oa t.ts.length ca] 25) = W0 at *
  go_cut [15] (fun s15 wx => ∃ b : Bool, s15 = .bool b ∧ Hid (b = true ↔ vb = true ∧ t.nm.data.toList = k) ∧ Hid (Below W0.heap.size W0 wx))
  case first =>
    obtain ⟨⟨x0, x1, x2⟩, -⟩ := box3 HBX.out
    cases vb with
    | false =>
      go_wp2_with fail
      go_meet
      exact ⟨false, rfl, Lib.hid (by simp), Lib.hid (Below.refl _ _)⟩
    | true =>
      by_cases hk : t.nm.data.toList = k
      · have hbc := kb_beq_yes hk
        rw [kb_key] at hbc
        have HK := Lib.hid hk
        clear hk
        go_wp2_with fail
        go_meet
        exact ⟨true, rfl, Lib.hid (by rw [HK.out]; simp), Lib.hid (Below.refl _ _)⟩
      · have hbc := kb_beq_no hk
        rw [kb_key] at hbc
        have HK := Lib.hid hk
        clear hk
        go_wp2_with fail
        go_meet
        exact ⟨false, rfl, Lib.hid ⟨nofun, fun h => absurd h.2 HK.out⟩, Lib.hid (Below.refl _ _)⟩
  case rest =>
  obtain ⟨b, rfl, HB, HBW⟩ := hcut
  have HBXc := Lib.hid ((HBW.out.block w.heap.size (Array.getElem?_eq_some_iff.1 HBX.out).1).trans HBX.out)
  have HBc := Lib.hid (HB0.out.trans (HBW.out.mono HB0.out.size))
  obtain ⟨⟨x0, x1, x2⟩, -⟩ := box3 HBXc.out
  obtain ⟨n0, hn0⟩ : ∃ n0 : Nat, n0 = if b = true then 1 else 0 := ⟨_, rfl⟩
  have HN0 := Lib.hid hn0
  have hn1 : n0 ≤ 1 := by rw [hn0]; split <;> omega
  have HZ : Hid (n0 = 0 ∧ k ∉ Tm.vss t.ts ↔ k ∉ t.vs) := Lib.hid (by
    rw [hn0]
    cases hv : t.vr with
    | true =>
      rw [Tm.vs_var hv, HBA.out.vr0 hv]
      have hb := HB.out
      rw [← HV.out, hv] at hb
      cases b with
      | true => simp [(hb.1 rfl).2]
      | false =>
        have : t.nm.data.toList ≠ k := fun e => by have := hb.2 ⟨rfl, e⟩; cases this
        simp [Tm.vss, Ne.symm this]
    | false =>
      rw [Tm.vs_fun hv]
      have hb := HB.out
      rw [← HV.out, hv] at hb
      cases b with
      | true => have := (hb.1 rfl).1; cases this
      | false => simp)
  have HZ1 : Hid (n0 + Tm.sizes t.ts ≤ t.size) := Lib.hid (by have := HE.out; omega)
  go_upto_if 15 with fail
  go_cut [5] (fun s5 wx => s5 = .int .i64 n0 ∧ wx = wc)
  case first =>
    cases b with
    | true =>
      obtain rfl : n0 = 1 := HN0.out
      go_wp2_with fail
      go_meet
      exact ⟨rfl, rfl⟩
    | false =>
      obtain rfl : n0 = 0 := HN0.out
      go_wp2_with fail
      go_meet
      exact ⟨rfl, rfl⟩
  case rest =>
  obtain ⟨rfl, rfl⟩ := hcut
  clear hn0 HN0 HB
  go_wp2_with fail
  go_loopw [5, 19] (fun n i wr => ∃ (m c : Nat), m ≤ t.ts.length ∧ i = .int .i64 m ∧ n = .int .i64 c ∧ Hid (c ≤ n0 + Tm.sizes (t.ts.take m)) ∧ Hid (c = 0 ↔ n0 = 0 ∧ k ∉ Tm.vss (t.ts.take m)) ∧ Hid (Below w.heap.size w wr)) (fun _ i _ => t.ts.length - (intOf i).toNat)
  case atStart => exact ⟨0, n0, by omega, rfl, rfl, Lib.hid (by omega), Lib.hid (by simp [Tm.vss]), HBc⟩
  case round =>
    clear x0 x1 x2
    obtain ⟨m, c, hm, rfl, rfl, HCL, HCZ, HBr⟩ := hrel
    by_cases hlt : m < t.ts.length
    · obtain ⟨b, o, u, s, rfl, hbb, hu, hum, hus, c1, c2, c3⟩ := (HS.out.carry HBr.out (Nat.le_refl _)).get hlt
      obtain ⟨oa2, cap2, rfl, -⟩ := hus.form
      have hub : u.bulk ≤ 1048576 := by have := Tm.bulk_mem hum; have := Tm.bulk_eq t; omega
      have HST := Lib.hid (show Tm.sizes (t.ts.take (m+1)) = Tm.sizes (t.ts.take m) + u.size by rw [Tm.take_snoc hu, Tm.sizes_append]; simp [Tm.sizes])
      have HVT := Lib.hid (show ∀ x, x ∈ Tm.vss (t.ts.take (m+1)) ↔ x ∈ Tm.vss (t.ts.take m) ∨ x ∈ u.vs from fun x => by
        rw [Tm.take_snoc hu]; simp only [Tm.vss_mem, List.mem_append, List.mem_singleton]
        constructor
        · rintro ⟨z, h | rfl, hz⟩
          · exact .inl ⟨z, h, hz⟩
          · exact .inr hz
        · rintro (⟨z, h, hz⟩ | hz)
          · exact ⟨z, .inl h, hz⟩
          · exact ⟨u, .inr rfl, hz⟩)
      have hsk := Tm.sizes_take t.ts (m + 1)
      have hcl2 : c + u.size ≤ 1048577 := by have := HCL.out; have := HST.out; have := HE.out; omega
      have hba : Below wr.heap.size wr (wr.alloc (.cells #[.string u.nm, .bool u.vr, .slice oa2 u.ts.length cap2] 25)) := (Below.refl wr.heap.size wr).alloc (Nat.le_refl _) _
      have HC := Lib.hid (IH.out u hum _ (wr.alloc (.cells #[.string u.nm, .bool u.vr, .slice oa2 u.ts.length cap2] 25)) (HBA.out.kids u hum) hub (hus.carry (hba.mono HBr.out.size) (Nat.le_trans HBr.out.size hba.size)))
      have HBn := Lib.hid (HBr.out.trans (hba.mono HBr.out.size))
      clear hu hum hus hba hsk
      go_wp2_with fail
      refine HC.out.mono ?_
      rintro e w2 ⟨⟨c2, rfl, hc2, hz2⟩, hb2⟩
      have HB2 := Lib.hid (HBn.out.trans (hb2.mono HBn.out.size))
      have HZ2 := Lib.hid hz2
      clear hb2 hz2 HC
      go_wp2_with fail
      exact ⟨⟨m + 1, c + c2, by omega, by go_num, by go_num, Lib.hid (by have := HCL.out; have := HST.out; omega), Lib.hid (by
        rw [HVT.out, not_or, Nat.add_eq_zero_iff, HCZ.out, HZ2.out, and_assoc]), HB2⟩, by simp [intOf]; omega⟩
    · obtain rfl : m = t.ts.length := by omega
      have HF : Hid (c ≤ t.size ∧ (c = 0 ↔ k ∉ t.vs)) := Lib.hid ⟨by have := HCL.out; rw [List.take_length] at this; have := HZ1.out; omega, by rw [HCZ.out, List.take_length]; exact HZ.out⟩
      go_wp2_with fail
      go_ret
      exact ⟨⟨c, rfl, HF.out⟩, HBr.out⟩
set_option maxRecDepth 100000 in
set_option maxHeartbeats 4000000 in
/-- Within answers true only where every variable of x occurs in y -/
theorem rwithin_any (x y : Tm) (sx sy : Value) (w : World) (hx : SlIs w.heap.size w x.ts sx) (hy : SlIs w.heap.size w y.ts sy) (hxb : x.bare) (hyb : y.bare) (hxl : x.bulk ≤ 1048576) (hyl : y.bulk ≤ 1048576) :
    Calls Tryz.prog 115 #[tmv x sx, tmv y sy] w fun e w' => (∃ b : Bool, e = .returned (.bool b) ∧ (b = true ↔ ∀ k ∈ x.vs, k ∈ y.vs)) ∧ Below w.heap.size w w' := by
  obtain ⟨ox, cx, rfl, -⟩ := hx.form
  obtain ⟨oy, cy, rfl, -⟩ := hy.form
  have HY := Lib.hid hy
  have HX := Lib.hid hx
  go_enter Tryz.func115, Tryz.ntmps115
  rw [show tmv x (.slice ox x.ts.length cx) = .agg #[.string x.nm, .bool x.vr, .slice ox x.ts.length cx] from rfl, show tmv y (.slice oy y.ts.length cy) = .agg #[.string y.nm, .bool y.vr, .slice oy y.ts.length cy] from rfl]
  clear hx hy
  go_wp2_with fail
  have hB : Below w.heap.size w (((w.alloc (.cells #[.string x.nm, .bool x.vr, .slice ox x.ts.length cx] 25)).alloc (.cells #[.string y.nm, .bool y.vr, .slice oy y.ts.length cy] 25)).alloc (.cells #[.string x.nm, .bool x.vr, .slice ox x.ts.length cx] 25)) := by go_grown
  have HYB := Lib.hid (show (((w.alloc (.cells #[.string x.nm, .bool x.vr, .slice ox x.ts.length cx] 25)).alloc (.cells #[.string y.nm, .bool y.vr, .slice oy y.ts.length cy] 25)).alloc (.cells #[.string x.nm, .bool x.vr, .slice ox x.ts.length cx] 25)).heap[w.heap.size + 1]? = some (.cells #[.string y.nm, .bool y.vr, .slice oy y.ts.length cy] 25 (0, 0)) from (Below.heap_alloc _ _ _ (by simp)).trans (heap_new_at _ _ _ (by simp)))
  have HVR := Lib.hid (rvars_any [x] (fun z hz => by rw [List.mem_singleton.1 hz]; exact hxb) (.slice (some ⟨w.heap.size + 1 + 1, 0, none⟩) 1 1) (((w.alloc (.cells #[.string x.nm, .bool x.vr, .slice ox x.ts.length cx] 25)).alloc (.cells #[.string y.nm, .bool y.vr, .slice oy y.ts.length cy] 25)).alloc (.cells #[.string x.nm, .bool x.vr, .slice ox x.ts.length cx] 25)) (rowIs [(x, .slice ox x.ts.length cx)] (heap_new_at ((w.alloc (.cells #[.string x.nm, .bool x.vr, .slice ox x.ts.length cx] 25)).alloc (.cells #[.string y.nm, .bool y.vr, .slice oy y.ts.length cy] 25)) (.cells #[.string x.nm, .bool x.vr, .slice ox x.ts.length cx] 25) (w.heap.size + 1 + 1) (by simp)) (show 1 ≤ 8 by decide) (by
    simp only [List.mem_singleton]
    rintro c rfl
    exact HX.out.carry hB hB.size)) (by simp only [Tm.bulks]; omega))
  have HB3 := Lib.hid hB
  clear hB
  refine HVR.out.mono ?_
  rintro e w4 ⟨⟨vn, r, rfl, hr, hord, hmem⟩, hb4⟩
  have HM := Lib.hid (show ∀ k, k ∈ r ↔ k ∈ x.vs from fun k => by rw [hmem]; simp [Tm.vss])
  have HR := Lib.hid hr
  have HB4 := Lib.hid (HB3.out.trans (hb4.mono HB3.out.size))
  have HYB4 := Lib.hid ((hb4.block (w.heap.size + 1) (Array.getElem?_eq_some_iff.1 HYB.out).1).trans HYB.out)
  obtain ⟨on, cn, rfl, hcn, -, hc⟩ := hr
  have HC := Lib.hid hc
  have hrl : r.length ≤ 1048576 := by
    have h1 := nodup_len (l := r) (K := x.vs) (hord.imp (S := (· ≠ ·)) fun h e => by subst e; exact List.lt_irrefl _ h) (fun z hz => (HM.out z).1 hz)
    have h2 := Tm.vs_len x
    have := Tm.size_bulk x
    omega
  clear hmem hb4 hc HVR HYB HB3 hord
  go_wp2_with fail
  go_loopw [11] (fun i wr => ∃ m : Nat, m ≤ r.length ∧ i = .int .i64 m ∧ Hid (∀ k ∈ r.take m, k ∈ y.vs) ∧ Hid (Below w4.heap.size w4 wr)) (fun i _ => r.length - (intOf i).toNat)
  case atStart => exact ⟨0, by omega, rfl, Lib.hid (by simp), Lib.hid (Below.refl _ _)⟩
  case round =>
    obtain ⟨m, hm, rfl, HAL, HBr⟩ := hrel
    have HYBr := Lib.hid ((HBr.out.block (w.heap.size + 1) (Array.getElem?_eq_some_iff.1 HYB4.out).1).trans HYB4.out)
    obtain ⟨⟨y0, y1, y2⟩, -⟩ := box3 HYBr.out
    have HBw := Lib.hid (HB4.out.trans (HBr.out.mono HB4.out.size))
    by_cases hlt : m < r.length
    · obtain ⟨k, hk⟩ : ∃ k, r[m]? = some k := ⟨_, List.getElem?_eq_getElem hlt⟩
      obtain ⟨b2, o2, rfl, hbn, hc1⟩ := HC.out (by rintro rfl; simp at hlt)
      have h1 := (HBr.out.cell (p := ⟨b2, o2 + m, none⟩) hbn).trans (hc1 m k hk)
      have HK := Lib.hid hk
      have HCT := Lib.hid (rcount_any k y (.slice oy y.ts.length cy) wr hyb hyl (HY.out.carry HBw.out HBw.out.size))
      clear hk hc1
      go_wp2_with fail
      refine HCT.out.mono ?_
      rintro e w5 ⟨⟨n, rfl, -, hn⟩, hb5⟩
      have HN := Lib.hid hn
      have HB5 := Lib.hid (HBr.out.trans (hb5.mono HBr.out.size))
      clear hn hb5 HCT h1 y0 y1 y2
      by_cases h0 : n = 0
      · obtain rfl := h0
        go_wp2_with fail
        go_ret
        exact ⟨⟨false, rfl, nofun, fun h => absurd (h k ((HM.out k).1 (List.mem_of_getElem? HK.out))) (HN.out.1 (by trivial))⟩, HB4.out.trans (HB5.out.mono HB4.out.size)⟩
      · have hnz : ((n : Int) == 0) = false := by rw [beq_eq_false_iff_ne]; omega
        have HN0 := Lib.hid h0
        clear h0
        go_wp2_with fail
        exact ⟨⟨m + 1, by omega, by go_num, Lib.hid (fun z hz => by
          rw [List.take_add_one, HK.out] at hz
          rcases List.mem_append.1 hz with h | h
          · exact HAL.out z h
          · obtain rfl : z = k := by simpa using h
            exact Classical.byContradiction fun hh => HN0.out (HN.out.2 hh)), HB5⟩, by simp [intOf]; omega⟩
    · obtain rfl : m = r.length := by omega
      have HF := Lib.hid (show ∀ k ∈ x.vs, k ∈ y.vs from fun k hk => HAL.out k (by rw [List.take_length]; exact (HM.out k).2 hk))
      go_wp2_with fail
      go_ret
      exact ⟨⟨true, rfl, fun _ => HF.out, fun _ => rfl⟩, HBw.out⟩
end Go.Proofs.YtnomppdmhgefiaaGreat
/- The reference's CheckSystem and Check of stage 4. -/
namespace Go.Proofs.YtnomppdmhgefiaaGreat
open Go.RowKit

theorem hasVar_vs (k : Key) (t : Tm) : t.bare → ∀ d, ((t.nodes d).any fun v => v.2.2.1 && decide (v.2.1.data.toList = k)) = true ↔ k ∈ t.vs := by
  induction t using Tm.ind with
  | h t ih =>
    intro hb d
    have key : ∀ (l : List Tm) (d : Nat), (∀ u ∈ l, u ∈ t.ts) → (((Tm.nodesL d l).any fun v => v.2.2.1 && decide (v.2.1.data.toList = k)) = true ↔ k ∈ Tm.vss l) := by
      intro l
      induction l with
      | nil => intro d _; simp [Tm.nodesL, Tm.vss]
      | cons y l ihl =>
        intro d hs
        rw [Tm.nodesL, List.any_append, Bool.or_eq_true, ih y (hs y (by simp)) (hb.kids y (hs y (by simp))) d, ihl d fun u hu => hs u (by simp [hu]), Tm.vss, List.mem_append]
    rw [Tm.nodes_eq, List.any_cons, Bool.or_eq_true, key t.ts (d + 1) fun _ h => h]
    cases hv : t.vr with
    | true => rw [Tm.vs_var hv, hb.vr0 hv]; simp [Tm.vss, eq_comm]
    | false => rw [Tm.vs_fun hv]; simp
theorem extraV_no {x y : Tm} (hx : x.bare) (hy : y.bare) (h : ∀ k ∈ y.vs, k ∈ x.vs) : extraV x y = false := by
  cases he : extraV x y with
  | false => rfl
  | true =>
    obtain ⟨k, h1, h2⟩ := (extraV_iff x y).1 he
    have := (hasVar_vs k x hx 1).2 (h k ((hasVar_vs k y hy 1).1 h1))
    unfold hasVar at h2
    rw [h2] at this; cases this
set_option maxRecDepth 100000 in
set_option maxHeartbeats 8000000 in
theorem rcheckSystem_any (l : List RlV) (v : Value) (w : World) (hv : RulV w.heap.size w l v) (hl : l.length ≤ 1048576) (hb : ∀ x ∈ sidesV l, x.1.bulk ≤ 1048576) :
    Calls Tryz.prog 59 #[v] w fun e w' => (∃ c : Int, e = .returned (.int .i64 c) ∧ (c = 0 → SysOk l)) ∧ Below w.heap.size w w' := by
  obtain ⟨oa, cap, rfl⟩ := hv.shape
  have HV := Lib.hid hv
  have HBK := Lib.hid hb
  clear hv hb
  go_enter Tryz.func59, Tryz.ntmps59
  go_wp2_with fail
  refine (rrules_any l _ w HV.out hl HBK.out).mono ?_
  rintro e w1 ⟨⟨c, rfl, hc⟩, hb1⟩
  have HB1 := Lib.hid hb1
  have HC := Lib.hid hc
  clear hb1 hc
  by_cases hc0 : c = 0
  rotate_left
  · have hcn : (c != 0) = true := by simpa using hc0
    have HC0 := Lib.hid hc0
    clear hc0
    go_wp2_with fail
    go_ret
    exact ⟨⟨c, rfl, fun e => absurd e HC0.out⟩, HB1.out⟩
  obtain rfl := hc0
  have HOK := Lib.hid (HC.out.1 rfl)
  have hl64 := HOK.out.1
  clear HC
  go_wp2_with fail
  refine (rSymbols_any l _ w1 (HV.out.carry HB1.out HB1.out.size) hl64 HOK.out.2).mono ?_
  rintro e w2 ⟨⟨v', b, rfl, hS⟩, hb2⟩
  have HB2 := Lib.hid (HB1.out.trans (hb2.mono HB1.out.size))
  have HSY := Lib.hid hS
  clear hb2 hS
  cases b with
  | false =>
    go_wp2_with fail
    go_ret
    exact ⟨⟨6, rfl, fun e => by cases e⟩, HB2.out⟩
  | true =>
  have HAR := Lib.hid (show arRun [] (viewsV (sidesV l)) ≠ none from by
    obtain ⟨S, h1, h2⟩ := HSY.out rfl
    exact arRun_sides h1 h2)
  clear HSY HB1
  go_wp2_with fail
  go_loopw [22] (fun i wr => ∃ k : Nat, k ≤ l.length ∧ i = .int .i64 k ∧ Hid (∀ p ∈ l.take k, p.1.1.vr = false ∧ extraV p.1.1 p.2.1 = false) ∧ Hid (Below w.heap.size w wr)) (fun i _ => l.length - (intOf i).toNat)
  case atStart => exact ⟨0, by omega, rfl, Lib.hid (by simp), HB2⟩
  case round =>
    obtain ⟨k, hk, rfl, HAL, HBr⟩ := hrel
    by_cases hlt : k < l.length
    · obtain ⟨b, o, x, y, ox, oy, cx, cy, rfl, hbn, hp, hsx, hsy, c0, c1, c2, c3, c4, c5⟩ := (HV.out.carry HBr.out HBr.out.size).get hlt
      have hmx : (x, _) ∈ sidesV l ∧ (y, _) ∈ sidesV l := sidesV_mem (List.mem_of_getElem? hp)
      have HXO := Lib.hid (HOK.out.2 _ hmx.1)
      have HYO := Lib.hid (HOK.out.2 _ hmx.2)
      have hbx := HBK.out _ hmx.1
      have hby := HBK.out _ hmx.2
      simp only at HXO HYO hbx hby
      have hA : Below wr.heap.size wr (wr.alloc (.cells #[.string x.nm, .bool x.vr, .slice ox x.ts.length cx, .string y.nm, .bool y.vr, .slice oy y.ts.length cy] 96)) := (Below.refl wr.heap.size wr).alloc (Nat.le_refl _) _
      have HSX := Lib.hid (hsx.carry hA hA.size)
      have HSYy := Lib.hid (hsy.carry hA hA.size)
      have HA := Lib.hid (HBr.out.trans (hA.mono HBr.out.size))
      have HP := Lib.hid hp
      generalize hxv : x.vr = xv at *
      have HXV := Lib.hid hxv
      clear hp hmx hsx hsy hA hxv
      cases xv with
      | true =>
        go_wp2_with fail
        go_ret
        exact ⟨⟨7, rfl, fun e => by cases e⟩, HA.out⟩
      | false =>
        have HW := Lib.hid (rwithin_any y x (.slice oy y.ts.length cy) (.slice ox x.ts.length cx) (wr.alloc (.cells #[.string x.nm, .bool false, .slice ox x.ts.length cx, .string y.nm, .bool y.vr, .slice oy y.ts.length cy] 96)) HSYy.out HSX.out HYO.out.1.bare HXO.out.1.bare hby (by omega))
        rw [show tmv x (.slice ox x.ts.length cx) = .agg #[.string x.nm, .bool false, .slice ox x.ts.length cx] by unfold tmv; rw [HXV.out]] at HW
        go_wp2_with fail
        refine HW.out.mono ?_
        rintro e w5 ⟨⟨b5, rfl, hb5⟩, hbl5⟩
        have HB5 := Lib.hid hb5
        have HL5 := Lib.hid (HA.out.trans (hbl5.mono HA.out.size))
        clear hb5 hbl5 HW
        cases b5 with
        | false =>
          go_wp2_with fail
          go_ret
          exact ⟨⟨7, rfl, fun e => by cases e⟩, HL5.out⟩
        | true =>
          have HE := Lib.hid (extraV_no HXO.out.1.bare HYO.out.1.bare (HB5.out.1 rfl))
          go_wp2_with fail
          exact ⟨⟨k + 1, by omega, by go_num, Lib.hid (fun p hp => by
            rw [List.take_add_one, HP.out] at hp
            rcases List.mem_append.1 hp with h | h
            · exact HAL.out p h
            · simp only [Option.toList_some, List.mem_singleton] at h
              subst h
              exact ⟨HXV.out, HE.out⟩), HL5⟩, by simp [intOf]; omega⟩
    · obtain rfl : k = l.length := by omega
      have HF := Lib.hid (show SysOk l from ⟨hl64, HOK.out.2, HAR.out, by have := HAL.out; rwa [List.take_length] at this⟩)
      go_wp2_with fail
      go_ret
      exact ⟨⟨0, rfl, fun _ => HF.out⟩, HBr.out⟩
set_option maxHeartbeats 1000000 in
/-- Check of stage 4's reference -/
theorem rcheck4_any (l : List RlV) (v : Value) (t : Tm) (s : Value) (w : World) (hv : RulV w.heap.size w l v) (hs : SlIs w.heap.size w t.ts s) (hl : l.length ≤ 1048576) (hb : ∀ x ∈ sidesV l, x.1.bulk ≤ 1048576) (htb : t.bulk ≤ 1048576) :
    Calls Tryz.prog 21 #[v, tmv t s] w fun e w' => (∃ c : Int, e = .returned (.int .i64 c) ∧ (c = 0 → SysOk l ∧ t.ok)) ∧ Below w.heap.size w w' := by
  obtain ⟨oa, cap, rfl⟩ := hv.shape
  obtain ⟨ot, ct, rfl, -⟩ := hs.form
  have hA : Below w.heap.size w (w.alloc (.cells #[.string t.nm, .bool t.vr, .slice ot t.ts.length ct] 25)) := by go_grown
  have HBX := Lib.hid (show (w.alloc (.cells #[.string t.nm, .bool t.vr, .slice ot t.ts.length ct] 25)).heap[w.heap.size]? = some (.cells #[.string t.nm, .bool t.vr, .slice ot t.ts.length ct] 25 (0, 0)) from heap_new_at _ _ _ rfl)
  have HCS := Lib.hid (rcheckSystem_any l (.slice oa l.length cap) _ (hv.carry hA hA.size) hl hb)
  have HS := Lib.hid hs
  have HA := Lib.hid hA
  clear hv hs hb hA
  go_enter Tryz.func21, Tryz.ntmps21
  rw [show tmv t (.slice ot t.ts.length ct) = .agg #[.string t.nm, .bool t.vr, .slice ot t.ts.length ct] from rfl]
  go_wp2_with fail
  refine HCS.out.mono ?_
  rintro e w1 ⟨⟨c, rfl, hc⟩, hb1⟩
  have HC := Lib.hid hc
  have HB1 := Lib.hid (HA.out.trans (hb1.mono HA.out.size))
  have HBX1 := Lib.hid ((hb1.block w.heap.size (Array.getElem?_eq_some_iff.1 HBX.out).1).trans HBX.out)
  clear hc hb1 HCS
  by_cases hc0 : c = 0
  rotate_left
  · have hcn : (c != 0) = true := by simpa using hc0
    have HC0 := Lib.hid hc0
    clear hc0
    go_wp2_with fail
    go_ret
    exact ⟨⟨c, rfl, fun e => absurd e HC0.out⟩, HB1.out⟩
  obtain rfl := hc0
  have HSO := Lib.hid (HC.out rfl)
  clear HC
  obtain ⟨⟨x0, x1, x2⟩, -⟩ := box3 HBX1.out
  go_wp2_with fail
  refine (rcheck_iff t _ _ (HS.out.carry HB1.out HB1.out.size) htb).mono ?_
  rintro e w2 ⟨⟨c, rfl, hc⟩, hb2⟩
  have HC := Lib.hid hc
  have HB2 := Lib.hid (HB1.out.trans (hb2.mono HB1.out.size))
  clear hc hb2
  go_wp2_with fail
  go_ret
  exact ⟨⟨c, rfl, fun e => ⟨HSO.out, HC.out.1 e⟩⟩, HB2.out⟩
end Go.Proofs.YtnomppdmhgefiaaGreat
/- A strategy chooses something wherever there is something: plain. -/
namespace Go.Proofs.YtnomppdmhgefiaaGreat
open Go.RowKit

theorem innL_ne {L : List Rdx} (h : L ≠ []) : innL L ≠ [] := by
  obtain ⟨l, x, rfl⟩ : ∃ l x, L = l ++ [x] := ⟨_, _, (List.dropLast_concat_getLast h).symm⟩
  unfold innL
  rw [innF_snoc, innStep]
  split
  · split <;> simp
  · simp
theorem outL_ne {L : List Rdx} (h : L ≠ []) : outL L ≠ [] := by
  have key : ∀ (r a : List Rdx), outL a ≠ [] → outL (a ++ r) ≠ [] := by
    intro r
    induction r with
    | nil => intro a h; simpa using h
    | cons x r ih =>
      intro a h
      have h1 : outL (a ++ [x]) ≠ [] := by
        unfold outL at h ⊢
        rw [outF_snoc, outStep]
        split
        · exact h
        · simp
      have h2 := ih _ h1
      rwa [List.append_assoc, List.singleton_append] at h2
  cases L with
  | nil => exact absurd rfl h
  | cons x l =>
    have h1 : outL [x] ≠ [] := by
      unfold outL
      rw [show [x] = [] ++ [x] from rfl, outF_snoc, outStep]
      split
      · rename_i h2
        exact absurd h2 (by simp [outF, underB])
      · simp
    exact key l [x] h1
/-- a strategy has a redex just where there is one -/
theorem choL_nil {k : Int} {L : List Rdx} : choL k L = [] ↔ L = [] := by
  constructor
  · intro h
    by_cases hL : L = []
    · exact hL
    · exfalso
      have hi := innL_ne hL
      have ho := outL_ne hL
      unfold choL at h
      split at h
      · exact hi h
      · split at h
        · exact ho h
        · split at h
          · rcases List.take_eq_nil_iff.1 h with h | h
            · cases h
            · exact hi h
          · split at h
            · rcases List.take_eq_nil_iff.1 h with h | h
              · cases h
              · exact hL h
            · exact hL h
  · rintro rfl
    unfold choL
    have h1 : innL [] = [] := rfl
    have h2 : outL [] = [] := rfl
    simp [h1, h2]
theorem flatS_nil {L : List Rdx} (h : ∀ x ∈ L, x.2 ≠ []) : flatS L = [] ↔ L = [] := by
  constructor
  · intro h2
    cases L with
    | nil => rfl
    | cons x L =>
      exfalso
      rw [show flatS (x :: L) = stepsOf x ++ flatS L by simp [flatS], List.append_eq_nil_iff] at h2
      exact h x (by simp) (List.map_eq_nil_iff.1 h2.1)
  · rintro rfl; rfl
theorem rdx_ne {l : List RlV} {t : Tm} {x : Rdx} (h : x ∈ rdx l t) : x.2 ≠ [] := by
  unfold rdx selsR at h
  obtain ⟨y, -, hy⟩ := List.mem_filterMap.1 h
  unfold selR at hy
  split at hy
  · cases hy
  · rename_i hne; cases hy; exact hne
/-- steps under a strategy: some just where there are some at all, each one of all -/
theorem steps_nil {l : List RlV} {t : Tm} {k : Int} : flatS (choL k (rdx l t)) = [] ↔ rdx l t = [] := by
  rw [flatS_nil fun x hx => rdx_ne ((choL_sub k _).subset hx)]
  exact choL_nil
theorem flatS_sub {a b : List Rdx} (h : a.Sublist b) : (flatS a).Sublist (flatS b) := by
  unfold flatS
  induction h with
  | slnil => exact List.Sublist.refl _
  | cons x h ih => simpa using ih.trans (List.sublist_append_right _ _)
  | cons_cons x h ih => simpa using (List.Sublist.refl (stepsOf x)).append ih
theorem steps_sub {l : List RlV} {t : Tm} {k : Int} : (flatS (choL k (rdx l t))).Sublist (flatS (rdx l t)) := flatS_sub (choL_sub k _)
end Go.Proofs.YtnomppdmhgefiaaGreat
