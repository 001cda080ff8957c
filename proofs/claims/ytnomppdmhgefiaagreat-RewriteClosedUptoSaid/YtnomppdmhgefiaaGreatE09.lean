/- Packed: RdW, Sid, RdR. -/
import Derived.Test.YtnomppdmhgefiaaGreatE01
import Derived.Test.YtnomppdmhgefiaaGreatE08
import Derived.Test.YtnomppdmhgefiaaGreatE03
import Derived.Test.YtnomppdmhgefiaaGreatE04
/- Merged: RdB, RdX, RdW. -/
/- What an argument reads as: bindings in memory. -/
namespace Go.Proofs.YtnomppdmhgefiaaGreat
open Go.RowKit Go.ChangeShapes Go.WideShapes Go.ChangeAt Go.Deep

theorem cellsBind : Tryz.prog.cellsOf 105 = 4 := by kernel_rfl
instance : Inhabited Bd := ⟨([], .mk ⟨#[]⟩ false [])⟩
set_option maxRecDepth 100000 in
set_option maxHeartbeats 1000000 in
theorem bind_open {H : Type} (enc : TypeId × Value → H) (W : World) (n : Nat) (cs : List Value) (x : DataW H × List MemPlace) (h : DataW.trod enc Tryz.prog W 0 (fun _ => true) true n 105 cs = some x) (hfz : W.noneFrozen x.2) :
    ∃ (p : Bd) (s : Value), cs = [.string (kb p.1), .string p.2.nm, .bool p.2.vr, s] ∧ SlIs W.heap.size W p.2.ts s ∧ 1 + p.1.length + p.2.bulk ≤ Rows.uptoBulk x.1 := by
  obtain ⟨xs, m, rfl, rfl, hl, hlen, hf⟩ := DataW.trod_struct Tryz.underlying105 h
  rw [cellsBind] at hl
  match cs, hl with
  | [v0, v1, v2, v3], _ =>
    match xs, hlen with
    | [y0, y1], _ =>
      have h0 := hf 0 _ rfl
      have h1 := hf 1 _ rfl
      simp only [List.getElem?_cons_zero, List.getElem?_cons_succ] at h0 h1
      obtain ⟨s, hs, rfl, -⟩ := DataW.trod_string Tryz.underlying9 h0
      cases hs
      obtain ⟨t, st, e1, ht, hbt⟩ := term_open enc W m _ _ h1 (fun b off hp => hfz b off (by simp only [List.flatMap_cons, List.flatMap_nil, List.mem_append]; exact .inr (.inl hp)))
      cases e1
      refine ⟨(s.data.toList, t), v3, by rw [kb_key], ht, ?_⟩
      have hb' : t.bulk ≤ Rows.uptoBulk y1.1 := hbt
      have hl := bytes_len s
      simp [Rows.uptoBulk, Rows.uptoBulkAll]
      have : s.data.size = s.size := rfl
      simp at hl
      omega
set_option maxRecDepth 100000 in
set_option maxHeartbeats 1000000 in
theorem binds_open {H : Type} (enc : TypeId × Value → H) (W : World) (n : Nat) (v : Value) (x : DataW H × List MemPlace) (h : DataW.trod enc Tryz.prog W 0 (fun _ => true) true n 29 [v] = some x) (hfz : W.noneFrozen x.2) :
    ∃ (bl : List Bd), BindsIs W.heap.size W bl v ∧ bdBulk bl ≤ Rows.uptoBulk x.1 ∧ bl.length ≤ Rows.uptoBulk x.1 := by
  rcases DataW.trod_slice Tryz.underlying29 h with ⟨hc, rfl⟩ | ⟨a, len, cap, elems, rest, k, rfl, hc, rfl, hba, hlc, hcm, hel, hall, -, -⟩
  · cases hc
    exact ⟨[], ⟨none, 0, rfl, Nat.le_refl _, fun h => absurd rfl h⟩, bdBulk_le (by simp) (by simp), by simp⟩
  · cases hc
    rw [cellsBind] at hall hfz
    have key : ∀ i, i < len → ∃ ps : Bd × Value, W.cells? 0 (a.add (i * 4)) 4 = some [.string (kb ps.1.1), .string ps.1.2.nm, .bool ps.1.2.vr, ps.2] ∧ SlIs W.heap.size W ps.1.2.ts ps.2 ∧ ∃ e, elems[i]? = some e ∧ 1 + ps.1.1.length + ps.1.2.bulk ≤ Rows.uptoBulk e.1 := fun i hi => by
      have hi2 : i < elems.length := by omega
      have hh := hall i hi
      rw [List.getElem?_eq_getElem hi2] at hh
      obtain ⟨cs', g1, g2⟩ := Option.bind_eq_some_iff.1 hh
      obtain ⟨p, s', rfl, ht, hbk⟩ := bind_open enc W k cs' _ g2 (fun b' off hp => hfz b' off (List.mem_append.2 (.inr (List.mem_flatMap.2 ⟨elems[i], List.mem_append.2 (.inl (List.getElem_mem hi2)), hp⟩))))
      exact ⟨(p, s'), g1, ht, _, List.getElem?_eq_getElem hi2, hbk⟩
    obtain ⟨TS, hTS⟩ := choose_lt (α := Bd × Value) key
    have hlen : ((List.range len).map fun i => (TS i).1).length = len := by simp
    have hle : len ≤ Rows.uptoBulkAll (elems.map (·.1)) := by
      rw [← hel]
      have : ∀ l : List (DataW H × List MemPlace), (∀ e ∈ l, 1 ≤ Rows.uptoBulk e.1) → l.length ≤ Rows.uptoBulkAll (l.map (·.1)) := by
        intro l
        induction l with
        | nil => intro _; simp
        | cons e l ih => intro h; have h1 := h e (by simp); have h2 := ih fun x hx => h x (by simp [hx]); simp only [List.length_cons, List.map_cons, Rows.uptoBulkAll]; omega
      refine this elems fun e he => ?_
      obtain ⟨i, hi, hie⟩ := List.mem_iff_getElem.1 he
      obtain ⟨_, _, e', he', hb'⟩ := hTS i (by omega)
      rw [List.getElem?_eq_getElem hi, hie] at he'; cases he'
      omega
    have hup : Rows.uptoBulkAll (elems.map (·.1)) ≤ Rows.uptoBulk (DataW.slice (elems.map (·.1)) (rest.map (·.1))) := by simp only [Rows.uptoBulk]; omega
    refine ⟨(List.range len).map fun i => (TS i).1, ⟨some a, cap, by rw [hlen], by rw [hlen]; exact hlc, fun hne => ?_⟩, bdBulk_le (by rw [hlen]; exact Nat.le_trans hle hup) fun p hp => ?_, by rw [hlen]; exact Nat.le_trans hle hup⟩
    · have hz0 : len ≠ 0 := by rintro rfl; simp at hne
      obtain ⟨c0, _, _⟩ := hTS 0 (by omega)
      have hsp : a.spot = none := by
        have := (World.cells?_some c0).2.2 0 (by omega)
        simp only [Nat.zero_mul] at this
        have e : (a.add 0).add 0 = a := by simp [Addr.add]
        rw [e] at this
        exact World.cell?_spot this
      obtain ⟨ab, ao, asp⟩ := a
      simp only at hsp; subst hsp
      have hlt : ab < W.heap.size := by
        have := (World.cells?_some c0).2.2 0 (by omega)
        exact World.block_lt_of_cell? W _ this
      refine ⟨ab, ao, rfl, hlt, fun i p hp => ?_⟩
      have hi : i < len := by have := (List.getElem?_eq_some_iff.1 hp).1; simpa using this
      rw [List.getElem?_map, List.getElem?_range hi] at hp
      cases hp
      have hc := (World.cells?_some (hTS i hi).1).2.2
      have k0 := hc 0 (by omega)
      have k1 := hc 1 (by omega)
      have k2 := hc 2 (by omega)
      have k3 := hc 3 (by omega)
      simp only [addr_add, Nat.add_zero, Nat.add_assoc] at k0 k1 k2 k3
      exact ⟨(TS i).2, k0, by rw [Nat.add_assoc]; exact k1, by rw [Nat.add_assoc]; exact k2, by rw [Nat.add_assoc]; exact k3, (hTS i hi).2.1⟩
    · obtain ⟨i, hi, rfl⟩ := List.mem_map.1 hp
      have hi := List.mem_range.1 hi
      obtain ⟨_, _, e, he, hb⟩ := hTS i hi
      have := uptoBulk_mem (d := e.1) (l := elems.map (·.1)) (List.mem_map.2 ⟨e, List.mem_of_getElem? he, rfl⟩)
      exact Nat.le_trans hb (Nat.le_trans this hup)
section
variable {H : Type} {enc : TypeId × Value → H} {w : World} (sp : Nat → Bool)
theorem sp_bind (k : Nat) : SpAt enc Tryz.prog w sp k 105 := by
  match k with
  | 0 => exact sp_zero sp _
  | k + 1 => exact sp_struct2 sp Tryz.underlying105 (sp_string sp Tryz.underlying9 _) (sp_term sp _)
theorem sp_binds (k : Nat) : SpAt enc Tryz.prog w sp k 29 := by
  match k with
  | 0 => exact sp_zero sp _
  | k + 1 => exact sp_slice sp Tryz.underlying29 (by rw [cellsBind]; omega) (sp_bind sp k)
end
end Go.Proofs.YtnomppdmhgefiaaGreat
/- What an argument reads as: two terms; a substitution, a term and a position. -/
namespace Go.Proofs.YtnomppdmhgefiaaGreat
open Go.RowKit Go.ChangeShapes Go.WideShapes Go.ChangeAt Go.Deep

theorem cellsIntX : Tryz.prog.cellsOf 3 = 1 := by kernel_rfl
theorem bulk_posX {H : Type} (d : DataW H) : 1 ≤ Rows.uptoBulk d := by
  cases d with
  | lit l => cases l <;> simp [Rows.uptoBulk]
  | nil => simp [Rows.uptoBulk]
  | ptr d => simp [Rows.uptoBulk]
  | slice elems spare => simp [Rows.uptoBulk]
  | agg parts => simp [Rows.uptoBulk]
  | iface t d => simp [Rows.uptoBulk]
  | map entries => simp [Rows.uptoBulk]
  | held h => simp [Rows.uptoBulk]
theorem bulk_lengthX {H : Type} (l : List (DataW H)) : l.length ≤ Rows.uptoBulkAll l := by
  induction l with
  | nil => simp [Rows.uptoBulkAll]
  | cons x r ih => have := bulk_posX x; simp only [Rows.uptoBulkAll, List.length_cons]; omega
theorem pos_openX {H : Type} (enc : TypeId × Value → H) (W : World) (n : Nat) (cs : List Value) (x : DataW H × List MemPlace) (h : DataW.trod enc Tryz.prog W 0 (fun _ => true) true n 26 cs = some x) :
    ∃ (l : List Int) (v : Value), cs = [v] ∧ PosIs W.heap.size W l v ∧ l.length ≤ Rows.uptoBulk x.1 ∧ (∀ oa m k, v = .slice oa m k → m ≤ k) := by
  rcases open_ints Tryz.underlying26 Tryz.underlying3 cellsIntX h with ⟨rfl, rfl⟩ | ⟨a, len, cap, zs, rfl, hba, hlc, hcm, hzl, rfl, hcell, -⟩
  · exact ⟨[], _, rfl, ⟨_, _, rfl, fun h => absurd rfl h⟩, by simp, by rintro oa m k ⟨⟩; exact Nat.le_refl _⟩
  · simp only [if_true] at hzl
    have hll : (zs.take len).length = len := by simp; omega
    refine ⟨zs.take len, _, rfl, ⟨some a, cap, by rw [hll], fun hne => ?_⟩, ?_, by rintro oa m k ⟨⟩; exact hlc⟩
    · have hpos : 0 < len := by
        cases len with
        | zero => exact absurd rfl hne
        | succ n => omega
      have h0 := hcell 0 (by omega)
      have e0 : a.add 0 = a := by simp [Addr.add]
      rw [e0] at h0
      have hsp := World.cell?_spot h0
      obtain ⟨ab, ao, asp⟩ := a
      simp only at hsp; subst hsp
      refine ⟨ab, ao, rfl, World.block_lt_of_cell? W _ h0, fun i x hx => ?_⟩
      have hi : i < len := by have := (List.getElem?_eq_some_iff.1 hx).1; omega
      have hc := hcell i (by omega)
      rw [addr_add] at hc
      rw [hc]
      rw [List.getElem?_take, if_pos hi] at hx
      rw [List.getD_eq_getElem?_getD, hx]; rfl
    · rw [hll]
      simp only [Rows.uptoBulk]
      have := bulk_lengthX (H := H) (lits .i64 (zs.take len))
      rw [show (lits (H := H) IntKind.i64 (zs.take len)).length = len by rw [lits, List.length_map]; exact hll] at this
      omega
section
variable {H : Type} {enc : TypeId × Value → H} {w : World} (sp : Nat → Bool)
theorem sp_intsX (k : Nat) : SpAt enc Tryz.prog w sp k 26 := by
  match k with
  | 0 => exact sp_zero sp _
  | k + 1 => exact sp_slice sp Tryz.underlying26 (by rw [cellsIntX]; omega) (sp_int sp Tryz.underlying3 k)
end
end Go.Proofs.YtnomppdmhgefiaaGreat
/- What an argument reads as: a weight order. -/
namespace Go.Proofs.YtnomppdmhgefiaaGreat
open Go.RowKit Go.ChangeShapes Go.WideShapes Go.ChangeAt Go.Deep

section
variable {H : Type} {enc : TypeId × Value → H} {w : World} (sp : Nat → Bool)
end
end Go.Proofs.YtnomppdmhgefiaaGreat
/- Rules in memory; sides(r) gives an iterator over the terms of the rules. -/
namespace Go.Proofs.YtnomppdmhgefiaaGreat
open Go.RowKit Go.Shelf
attribute [local go_sem] Oper.semAt_some

/-- a term with the slice value of its arguments -/
abbrev TmV := Tm × Value
abbrev RlV := TmV × TmV
/-- the slice value v holds these rules, in blocks below n -/
def RulV (n : Nat) (W : World) (l : List RlV) (v : Value) : Prop :=
  ∃ oa cap, v = .slice oa l.length cap ∧ l.length ≤ cap ∧
    (l ≠ [] → ∃ b o, oa = some ⟨b, o, none⟩ ∧ b < n ∧ ∀ i p, l[i]? = some p → (W.cell? ⟨b, o + i * 6, none⟩ = some (.string p.1.1.nm) ∧ W.cell? ⟨b, o + i * 6 + 1, none⟩ = some (.bool p.1.1.vr) ∧ W.cell? ⟨b, o + i * 6 + 2, none⟩ = some p.1.2 ∧
      W.cell? ⟨b, o + i * 6 + 3, none⟩ = some (.string p.2.1.nm) ∧ W.cell? ⟨b, o + i * 6 + 4, none⟩ = some (.bool p.2.1.vr) ∧ W.cell? ⟨b, o + i * 6 + 5, none⟩ = some p.2.2) ∧ SlIs n W p.1.1.ts p.1.2 ∧ SlIs n W p.2.1.ts p.2.2)
theorem RulV.carry {n m : Nat} {A B : World} {l : List RlV} {v : Value} (h : RulV n A l v) (hb : Below n A B) (hn : n ≤ m) : RulV m B l v := by
  obtain ⟨oa, cap, rfl, h1, h3⟩ := h
  refine ⟨oa, cap, rfl, h1, fun hne => ?_⟩
  obtain ⟨b, o, rfl, hbn, hc⟩ := h3 hne
  refine ⟨b, o, rfl, by omega, fun i p hk => ?_⟩
  obtain ⟨⟨c0, c1, c2, c3, c4, c5⟩, hs, ht⟩ := hc i p hk
  exact ⟨⟨(hb.cell (p := ⟨b, _, none⟩) hbn).trans c0, (hb.cell (p := ⟨b, _, none⟩) hbn).trans c1, (hb.cell (p := ⟨b, _, none⟩) hbn).trans c2, (hb.cell (p := ⟨b, _, none⟩) hbn).trans c3, (hb.cell (p := ⟨b, _, none⟩) hbn).trans c4, (hb.cell (p := ⟨b, _, none⟩) hbn).trans c5⟩, hs.carry hb hn, ht.carry hb hn⟩
theorem RulV.shape {n : Nat} {W : World} {l : List RlV} {v : Value} (h : RulV n W l v) : ∃ oa cap, v = .slice oa l.length cap := by obtain ⟨oa, cap, rfl, -⟩ := h; exact ⟨oa, cap, rfl⟩
/-- a rule's cells -/
theorem RulV.get {n : Nat} {W : World} {l : List RlV} {oa : Option Addr} {cap k : Nat} (h : RulV n W l (.slice oa l.length cap)) (hk : k < l.length) :
    ∃ (b o : Nat) (s t : Tm) (os ot : Option Addr) (cs ct : Nat), oa = some ⟨b, o, none⟩ ∧ b < n ∧ l[k]? = some ((s, .slice os s.ts.length cs), (t, .slice ot t.ts.length ct)) ∧ SlIs n W s.ts (.slice os s.ts.length cs) ∧ SlIs n W t.ts (.slice ot t.ts.length ct) ∧
      W.cell? ⟨b, o + k * 6, none⟩ = some (.string s.nm) ∧ W.cell? ⟨b, o + k * 6 + 1, none⟩ = some (.bool s.vr) ∧ W.cell? ⟨b, o + k * 6 + 2, none⟩ = some (.slice os s.ts.length cs) ∧
      W.cell? ⟨b, o + k * 6 + 3, none⟩ = some (.string t.nm) ∧ W.cell? ⟨b, o + k * 6 + 4, none⟩ = some (.bool t.vr) ∧ W.cell? ⟨b, o + k * 6 + 5, none⟩ = some (.slice ot t.ts.length ct) := by
  obtain ⟨oa', cap', he, -, h3⟩ := h
  simp only [Value.slice.injEq, true_and] at he
  obtain ⟨rfl, rfl⟩ := he
  obtain ⟨b, o, rfl, hb, hc⟩ := h3 (by rintro rfl; simp at hk)
  have hp : l[k]? = some l[k] := List.getElem?_eq_getElem hk
  obtain ⟨⟨c0, c1, c2, c3, c4, c5⟩, hs, ht⟩ := hc k _ hp
  obtain ⟨os, cs, e1, -⟩ := hs.form
  obtain ⟨ot, ct, e2, -⟩ := ht.form
  refine ⟨b, o, l[k].1.1, l[k].2.1, os, ot, cs, ct, rfl, hb, ?_, by rw [← e1]; exact hs, by rw [← e2]; exact ht, c0, c1, by rw [← e1]; exact c2, c3, c4, by rw [← e2]; exact c5⟩
  rw [hp, ← e1, ← e2]
def sidesV : List RlV → List TmV
  | [] => []
  | p :: l => p.1 :: p.2 :: sidesV l
theorem sidesV_append (l r : List RlV) : sidesV (l ++ r) = sidesV l ++ sidesV r := by
  induction l with
  | nil => rfl
  | cons p l ih => simp only [List.cons_append, sidesV, ih]
theorem sidesV_length (l : List RlV) : (sidesV l).length = 2 * l.length := by
  induction l with
  | nil => rfl
  | cons p l ih => simp only [sidesV, List.length_cons, ih]; omega
theorem sidesV_take (k : Nat) (l : List RlV) : sidesV (l.take k) <+: sidesV l := ⟨sidesV (l.drop k), by rw [← sidesV_append, List.take_append_drop]⟩
@[reducible] def TmV.encs (x : TmV) : Array Value := #[.agg #[.string x.1.nm, .bool x.1.vr, x.2]]

set_option maxRecDepth 100000 in
set_option maxHeartbeats 1000000 in
theorem sides_in (F : Fence) (n : Nat) (hf : F.fn 164) (hro : F.round = none) (v : Value) (hv : ∃ oa l c, v = .slice oa l c) (w : World) :
    CallsIn F n Tryz.prog 164 #[v] w fun e w' =>
      e = .returned (.func (.func 213) #[] #[.pointer (some ⟨w.heap.size, 0, none⟩)]) ∧ w' = w.alloc (.cells #[v] 22) := by
  obtain ⟨oa, l, c, rfl⟩ := hv
  refine callsIn_of_wp Tryz.func164 rfl hf ?_ hro
  simp only [Tryz.ntmps164, List.size_toArray, List.length_cons, List.length_nil, Nat.reduceAdd, Nat.reduceSub, Array.replicate_succ, Array.replicate_zero, List.push_toArray, List.append_toArray, List.nil_append, List.cons_append]
  gi_wp2
  go_ret
  exact ⟨rfl, rfl⟩

set_option maxRecDepth 100000 in
set_option maxHeartbeats 4000000 in
theorem sides1_in (F : Fence) (hd : F.depth = none) (n : Nat) (hf : F.fn 213) (hro : F.round = none) (lp Bt n₀ m₀ : Nat) (l : List RlV) (s : Value) (J Jx : List TmV → World → Prop) (hJ : ∀ s A o, J s A → J s (World.alloc A o))
    (hnm : n₀ ≤ m₀)
    (hY : ∀ pre (x : TmV) W, J pre W → pre ++ [x] <+: sidesV l → YieldAt F (n - 1) Tryz.prog lp x.encs W fun e W' =>
      (e = .returned (.bool true) ∧ J (pre ++ [x]) W' ∧ Keep n₀ m₀ W W') ∨ (e = .returned (.bool false) ∧ Jx (pre ++ [x]) W'))
    (W : World) (hm : m₀ ≤ W.heap.size) (h0 : W.cell? ⟨Bt, 0, none⟩ = some s) (hs : RulV n₀ W l s) (hl : l.length ≤ 1048576) (hJ0 : J [] W) :
    CallsIn F n Tryz.prog 213 #[.func (.yield lp) #[] #[], .pointer (some ⟨Bt, 0, none⟩)] W fun e W' => (∃ v, e = .returned v) ∧
      (J (sidesV l) W' ∨ (∃ pre : List TmV, pre <+: sidesV l ∧ Jx pre W')) := by
  have hdd : ∀ k : Nat, (F.depth.isSome = true → 1 ≤ k) := fun k h => by rw [hd] at h; cases h
  have hsl := sidesV_length l
  have HY := Lib.hid hY
  have HS := Lib.hid hs
  obtain ⟨oa, cap, rfl, -, -⟩ := hs
  clear hY
  refine callsIn_of_wp Tryz.func213 rfl hf ?_ hro
  simp only [Tryz.ntmps213, List.size_toArray, List.length_cons, List.length_nil, Nat.reduceAdd, Nat.reduceSub, Array.replicate_succ, Array.replicate_zero, List.push_toArray, List.append_toArray, List.nil_append, List.cons_append]
  gi_wp2_with fail
  gi_loopw [7] (fun i wr => ∃ k : Nat, k ≤ l.length ∧ i = .int .i64 k ∧ J (sidesV (l.take k)) wr ∧ Below n₀ W wr ∧ m₀ ≤ wr.heap.size) (fun i _ => l.length - (intOf i).toNat)
  case atStart => exact ⟨0, by omega, rfl, by simpa [sidesV] using hJ0, Below.refl _ _, hm⟩
  case round =>
    obtain ⟨k, hk, rfl, hJw, hbw, hmw⟩ := hrel
    by_cases hlt : k < l.length
    · obtain ⟨b, o, x, y, ox, oy, cx, cy, rfl, hbn, hp, hsx, hsy, c0, c1, c2, c3, c4, c5⟩ := (HS.out.carry hbw (Nat.le_refl _)).get hlt
      have HP := Lib.hid hp
      have hpre : (sidesV (l.take k)).length = 2 * k := by rw [sidesV_length, List.length_take]; omega
      have hz0 := hbw.size
      have HTK : Hid (sidesV (l.take (k + 1)) = (sidesV (l.take k) ++ [(x, .slice ox x.ts.length cx)]) ++ [(y, .slice oy y.ts.length cy)]) := Lib.hid (by
        rw [List.take_add_one, hp, sidesV_append, List.append_assoc]; rfl)
      clear hp
      have HPX : Hid (sidesV (l.take k) ++ [(x, .slice ox x.ts.length cx)] <+: sidesV l ∧ (sidesV (l.take k) ++ [(x, .slice ox x.ts.length cx)]) ++ [(y, .slice oy y.ts.length cy)] <+: sidesV l) := Lib.hid (by
        have h1 := sidesV_take (k + 1) l
        rw [HTK.out] at h1
        exact ⟨(List.prefix_append _ _).trans h1, h1⟩)
      obtain ⟨fn, tmps, assign, body, hy, hR⟩ := HY.out (sidesV (l.take k)) (x, .slice ox x.ts.length cx) _ (hJ _ _ (.cells #[.string x.nm, .bool x.vr, .slice ox x.ts.length cx, .string y.nm, .bool y.vr, .slice oy y.ts.length cy] 96) hJw) HPX.out.1
      gi_wp2_with fail
      refine hR.mono ?_
      clear hR hy
      rintro e W1 (⟨rfl, hJ1, hk1⟩ | ⟨rfl, hJx1⟩)
      · have b3 := hk1.new hmw 3
        have b4 := hk1.new hmw 4
        have b5 := hk1.new hmw 5
        simp only [List.getElem?_toArray, List.getElem?_cons_zero, List.getElem?_cons_succ] at b3 b4 b5
        have hb1 : Below n₀ wr W1 := Below.trans ((Below.refl n₀ wr).alloc (by omega) _) hk1.below
        have hz1 := hk1.below.size
        have HB1 := Lib.hid (hbw.trans hb1)
        obtain ⟨fn2, tmps2, assign2, body2, hy2, hR2⟩ := HY.out _ (y, .slice oy y.ts.length cy) W1 hJ1 HPX.out.2
        clear hJ1 hk1 hb1
        gi_wp2_with fail
        refine hR2.mono ?_
        clear hR2 hy2
        rintro e W2 (⟨rfl, hJ2, hk2⟩ | ⟨rfl, hJx2⟩)
        · rw [← HTK.out] at hJ2
          have hz2 := hk2.below.size
          have HB2 := Lib.hid (HB1.out.trans hk2.below)
          have HJ2 := Lib.hid hJ2
          clear hJ2 hk2
          gi_wp2_with fail
          exact ⟨⟨k + 1, by omega, by go_num, HJ2.out, HB2.out, by simp at hz1; omega⟩, by simp [intOf]; omega⟩
        · have HJ2 := Lib.hid hJx2
          clear hJx2
          gi_wp2_with fail
          refine bodyPost_ret (results_none rfl _ _ _) rfl ?_
          exact ⟨⟨_, rfl⟩, .inr ⟨_, HPX.out.2, HJ2.out⟩⟩
      · have HJ1 := Lib.hid hJx1
        clear hJx1
        gi_wp2_with fail
        refine ⟨fun f h => (by cases h), ?_⟩
        gi_wp2_with fail
        refine bodyPost_ret (results_none rfl _ _ _) rfl ?_
        exact ⟨⟨_, rfl⟩, .inr ⟨_, HPX.out.1, HJ1.out⟩⟩
    · obtain rfl : k = l.length := by omega
      rw [List.take_length] at hJw
      have HJ := Lib.hid hJw
      gi_wp2_with fail
      go_end0
      exact ⟨⟨_, rfl⟩, .inl HJ.out⟩
theorem RulV.mem {n : Nat} {W : World} {l : List RlV} {v : Value} (h : RulV n W l v) {x : TmV} (hx : x ∈ sidesV l) : SlIs n W x.1.ts x.2 := by
  obtain ⟨oa, cap, rfl, -, h3⟩ := h
  by_cases hl : l = []
  · subst hl; cases hx
  obtain ⟨b, o, -, -, hc⟩ := h3 hl
  have key : ∀ l' : List RlV, (∀ p ∈ l', p ∈ l) → x ∈ sidesV l' → ∃ p ∈ l, x = p.1 ∨ x = p.2 := by
    intro l'
    induction l' with
    | nil => intro _ h; cases h
    | cons p l' ih =>
      intro hm h
      simp only [sidesV, List.mem_cons] at h
      rcases h with h | h | h
      · exact ⟨p, hm p (by simp), .inl h⟩
      · exact ⟨p, hm p (by simp), .inr h⟩
      · exact ih (fun q hq => hm q (by simp [hq])) h
  obtain ⟨p, hp, hxp⟩ := key l (fun _ h => h) hx
  obtain ⟨i, hi, rfl⟩ := List.getElem_of_mem hp
  obtain ⟨-, hs, ht⟩ := hc i _ (List.getElem?_eq_getElem hi)
  rcases hxp with rfl | rfl
  · exact hs
  · exact ht
/-- one of the terms of the rules -/
abbrev SdV (l : List RlV) := {x : TmV // x ∈ sidesV l}
/-- THE ITERATOR'S CONTRACT. -/
theorem sides_stops (F : Fence) (hd : F.depth = none) (n : Nat) (hf : F.fn 213) (hro : F.round = none) (Bt n₀ : Nat) (l : List RlV) (s : Value) (w : World) (hBt : Bt < w.heap.size) (hn : n₀ ≤ w.heap.size)
    (h0 : w.cell? ⟨Bt, 0, none⟩ = some s) (hs : RulV n₀ w l s) (hl : l.length ≤ 1048576) :
    SeqStopsK F n Tryz.prog 213 #[.pointer (some ⟨Bt, 0, none⟩)] (fun x : SdV l => x.1.encs) (Keep n₀ w.heap.size) (fun ys => ys.map Subtype.val = sidesV l) (fun pre => pre.map Subtype.val <+: sidesV l) (sidesV l).length w := fun lp J Jx W hW hJ _ hY hJ0 =>
  (sides1_in F hd n hf hro lp Bt n₀ w.heap.size l s (fun pre W => ∃ ys : List (SdV l), ys.map Subtype.val = pre ∧ J ys W) (fun pre W => ∃ ys : List (SdV l), ys.map Subtype.val = pre ∧ Jx ys W)
    (fun s A o ⟨ys, h1, h⟩ => ⟨ys, h1, hJ ys A _ none h (World.grownBy_alloc A o none) (fun r e => by cases e)⟩) hn
    (fun pre x W ⟨ys, h1, h⟩ hp => by
      have hx : x ∈ sidesV l := hp.subset (by simp)
      have hlen : ys.length < (sidesV l).length := by
        have := hp.length_le
        rw [List.length_append, ← h1, List.length_map] at this
        simp at this
        omega
      obtain ⟨fn, tmps, assign, body, hy, hR⟩ := hY ys ⟨x, hx⟩ W h hlen
      refine ⟨fn, tmps, assign, body, hy, hR.mono ?_⟩
      rintro e W' (⟨he, hj, hk⟩ | ⟨he, hj⟩)
      · exact .inl ⟨he, ⟨ys ++ [⟨x, hx⟩], by simp [h1], hj⟩, hk⟩
      · exact .inr ⟨he, ⟨ys ++ [⟨x, hx⟩], by simp [h1], hj⟩⟩)
    W hW.size
    ((hW.cell (p := ⟨Bt, 0, none⟩) hBt).trans h0) (hs.carry (hW.mono hn) (Nat.le_refl _)) hl ⟨[], rfl, hJ0⟩).mono fun e W' ⟨h1, h2⟩ => ⟨h1, h2.imp (fun ⟨ys, h, hj⟩ => ⟨ys, h, hj⟩) (fun ⟨pre, hp, ys, h, hj⟩ => ⟨ys, by show List.map Subtype.val ys <+: _; rw [h]; exact hp, hj⟩)⟩
end Go.Proofs.YtnomppdmhgefiaaGreat
/- What an argument reads as: rules; rows in general. -/
namespace Go.Proofs.YtnomppdmhgefiaaGreat
open Go.RowKit Go.ChangeShapes Go.WideShapes Go.ChangeAt Go.Deep

set_option maxRecDepth 100000 in
set_option maxHeartbeats 1000000 in
/-- a slice of elements of c cells each, read as a row -/
theorem row_open {H : Type} (enc : TypeId × Value → H) (W : World) {t e : TypeId} {c : Nat} {α : Type} [Inhabited α] (ht : Tryz.prog.underlying t = some (.slice e)) (hce : Tryz.prog.cellsOf e = c) (hc0 : 0 < c) (Q : α → List Value → Prop) (bd : α → Nat)
    (elem : ∀ n cs x, DataW.trod enc Tryz.prog W 0 (fun _ => true) true n e cs = some x → W.noneFrozen x.2 → ∃ a, Q a cs ∧ 1 + bd a ≤ Rows.uptoBulk x.1)
    (n : Nat) (v : Value) (x : DataW H × List MemPlace) (h : DataW.trod enc Tryz.prog W 0 (fun _ => true) true n t [v] = some x) (hfz : W.noneFrozen x.2) :
    ∃ (l : List α) (oa : Option Addr) (cap : Nat), v = .slice oa l.length cap ∧ l.length ≤ cap ∧ l.length < Rows.uptoBulk x.1 ∧ (∀ a ∈ l, bd a < Rows.uptoBulk x.1) ∧
      (l ≠ [] → ∃ b o, oa = some ⟨b, o, none⟩ ∧ b < W.heap.size ∧ (∀ i, i < l.length * c → W.frozen? ⟨b, o + i, none⟩ = false) ∧ ∀ i a, l[i]? = some a → ∃ cs, Q a cs ∧ cs.length = c ∧ ∀ j, j < c → W.cell? ⟨b, o + i * c + j, none⟩ = cs[j]?) := by
  rcases DataW.trod_slice ht h with ⟨hc, rfl⟩ | ⟨a, len, cap, elems, rest, k, rfl, hc, rfl, hba, hlc, hcm, hel, hall, -, -⟩
  · cases hc
    exact ⟨[], none, 0, rfl, Nat.le_refl _, by simp [Rows.uptoBulk], by simp, fun h => absurd rfl h⟩
  · cases hc
    rw [hce] at hall hfz
    have key : ∀ i, i < len → ∃ ps : α × List Value, W.cells? 0 (a.add (i * c)) c = some ps.2 ∧ Q ps.1 ps.2 ∧ ∃ e, elems[i]? = some e ∧ 1 + bd ps.1 ≤ Rows.uptoBulk e.1 := fun i hi => by
      have hi2 : i < elems.length := by omega
      have hh := hall i hi
      rw [List.getElem?_eq_getElem hi2] at hh
      obtain ⟨cs', g1, g2⟩ := Option.bind_eq_some_iff.1 hh
      obtain ⟨p, hq, hbk⟩ := elem k cs' _ g2 (fun b' off hp => hfz b' off (List.mem_append.2 (.inr (List.mem_flatMap.2 ⟨elems[i], List.mem_append.2 (.inl (List.getElem_mem hi2)), hp⟩))))
      exact ⟨(p, cs'), g1, hq, _, List.getElem?_eq_getElem hi2, hbk⟩
    obtain ⟨TS, hTS⟩ := choose_lt (α := α × List Value) key
    have hlen : ((List.range len).map fun i => (TS i).1).length = len := by simp
    have hle : len ≤ Rows.uptoBulkAll (elems.map (·.1)) := by
      have := bulk_lengthX (elems.map (·.1))
      rw [List.length_map] at this
      omega
    have hup : Rows.uptoBulkAll (elems.map (·.1)) < Rows.uptoBulk (DataW.slice (elems.map (·.1)) (rest.map (·.1))) := by simp only [Rows.uptoBulk]; omega
    refine ⟨(List.range len).map fun i => (TS i).1, some a, cap, by rw [hlen], by rw [hlen]; exact hlc, by rw [hlen]; exact Nat.lt_of_le_of_lt hle hup, fun p hp => ?_, fun hne => ?_⟩
    · obtain ⟨i, hi, rfl⟩ := List.mem_map.1 hp
      have hi := List.mem_range.1 hi
      obtain ⟨_, _, e, he, hb⟩ := hTS i hi
      have := uptoBulk_mem (d := e.1) (l := elems.map (·.1)) (List.mem_map.2 ⟨e, List.mem_of_getElem? he, rfl⟩)
      show bd (TS i).1 < Rows.uptoBulk (DataW.slice (elems.map (·.1)) (rest.map (·.1)))
      omega
    · have hz0 : len ≠ 0 := by rintro rfl; simp at hne
      obtain ⟨c0, _, _⟩ := hTS 0 (by omega)
      have hsp : a.spot = none := by
        have := (World.cells?_some c0).2.2 0 hc0
        simp only [Nat.zero_mul] at this
        have e : (a.add 0).add 0 = a := by simp [Addr.add]
        rw [e] at this
        have hl0 := (World.cells?_some c0).2.1
        rw [List.getElem?_eq_getElem (by omega)] at this
        exact World.cell?_spot this
      obtain ⟨ab, ao, asp⟩ := a
      simp only at hsp; subst hsp
      have hlt : ab < W.heap.size := by
        have := (World.cells?_some c0).2.2 0 hc0
        have hl0 := (World.cells?_some c0).2.1
        rw [List.getElem?_eq_getElem (by omega)] at this
        have := World.block_lt_of_cell? W _ this
        simpa [addr_add] using this
      refine ⟨ab, ao, rfl, hlt, fun i hi => hfz ab (ao + i) (List.mem_append.2 (.inl ?_)), fun i p hp => ?_⟩
      · rw [hlen] at hi
        simp only [MemPlace.row, List.mem_map, List.mem_range]
        exact ⟨i, Nat.lt_of_lt_of_le hi (Nat.mul_le_mul_right c (show len ≤ elems.length + rest.length by omega)), rfl⟩
      · have hi : i < len := by have := (List.getElem?_eq_some_iff.1 hp).1; simpa using this
        rw [List.getElem?_map, List.getElem?_range hi] at hp
        cases hp
        have hc := World.cells?_some (hTS i hi).1
        refine ⟨_, (hTS i hi).2.1, hc.2.1, fun j hj => ?_⟩
        have k0 := hc.2.2 j hj
        simp only [addr_add] at k0
        exact k0

theorem cellsRule : Tryz.prog.cellsOf 96 = 6 := by kernel_rfl
theorem cellsStep : Tryz.prog.cellsOf 28 = 2 := by kernel_rfl
instance : Inhabited RlV := ⟨((.mk ⟨#[]⟩ false [], .bool false), (.mk ⟨#[]⟩ false [], .bool false))⟩
set_option maxRecDepth 100000 in
set_option maxHeartbeats 1000000 in
theorem rule_open {H : Type} (enc : TypeId × Value → H) (W : World) (n : Nat) (cs : List Value) (x : DataW H × List MemPlace) (h : DataW.trod enc Tryz.prog W 0 (fun _ => true) true n 96 cs = some x) (hfz : W.noneFrozen x.2) :
    ∃ p : RlV, (cs = [.string p.1.1.nm, .bool p.1.1.vr, p.1.2, .string p.2.1.nm, .bool p.2.1.vr, p.2.2] ∧ SlIs W.heap.size W p.1.1.ts p.1.2 ∧ SlIs W.heap.size W p.2.1.ts p.2.2) ∧ 1 + (p.1.1.bulk + p.2.1.bulk) ≤ Rows.uptoBulk x.1 := by
  obtain ⟨xs, m, rfl, rfl, hl, hlen, hf⟩ := DataW.trod_struct Tryz.underlying96 h
  rw [cellsRule] at hl
  match cs, hl with
  | [a0, a1, a2, b0, b1, b2], _ =>
    match xs, hlen with
    | [y0, y1], _ =>
      have h0 := hf 0 _ rfl
      have h1 := hf 1 _ rfl
      simp only [List.getElem?_cons_zero, List.getElem?_cons_succ] at h0 h1
      obtain ⟨s, sv, e0, hs, k0⟩ := term_open enc W m _ _ h0 (fun b off hp => hfz b off (by simp only [List.flatMap_cons, List.flatMap_nil, List.mem_append]; exact .inl hp))
      obtain ⟨t, tv, e1, ht, k1⟩ := term_open enc W m _ _ h1 (fun b off hp => hfz b off (by simp only [List.flatMap_cons, List.flatMap_nil, List.mem_append]; exact .inr (.inl hp)))
      cases e0
      cases e1
      have e : Rows.uptoBulk (DataW.agg ([y0, y1].map (·.1))) = Rows.uptoBulk y0.1 + (Rows.uptoBulk y1.1 + 0) + 1 := by simp only [List.map_cons, List.map_nil, Rows.uptoBulk, Rows.uptoBulkAll]
      refine ⟨((s, _), (t, _)), ⟨rfl, hs, ht⟩, ?_⟩
      show _ ≤ Rows.uptoBulk (DataW.agg ([y0, y1].map (·.1)))
      rw [e]
      have k0' : s.bulk ≤ Rows.uptoBulk y0.1 := k0
      have k1' : t.bulk ≤ Rows.uptoBulk y1.1 := k1
      show 1 + (s.bulk + t.bulk) ≤ _
      omega
theorem sides_bulk {R : List RlV} {B : Nat} (h : ∀ p ∈ R, p.1.1.bulk + p.2.1.bulk < B) : ∀ x ∈ sidesV R, x.1.bulk < B := by
  induction R with
  | nil => intro x hx; simp [sidesV] at hx
  | cons p l ih =>
    intro x hx
    have hp := h p (by simp)
    simp only [sidesV, List.mem_cons] at hx
    rcases hx with rfl | rfl | hx
    · omega
    · omega
    · exact ih (fun q hq => h q (by simp [hq])) x hx
set_option maxRecDepth 100000 in
set_option maxHeartbeats 1000000 in
theorem rules_open {H : Type} (enc : TypeId × Value → H) (W : World) (n : Nat) (v : Value) (x : DataW H × List MemPlace) (h : DataW.trod enc Tryz.prog W 0 (fun _ => true) true n 22 [v] = some x) (hfz : W.noneFrozen x.2) :
    ∃ (R : List RlV), RulV W.heap.size W R v ∧ R.length < Rows.uptoBulk x.1 ∧ (∀ x' ∈ sidesV R, x'.1.bulk < Rows.uptoBulk x.1) := by
  obtain ⟨l, oa, cap, rfl, hlc, hlb, hbd, hrow⟩ := row_open (α := RlV) enc W Tryz.underlying22 cellsRule (by omega) (fun p cs => cs = [.string p.1.1.nm, .bool p.1.1.vr, p.1.2, .string p.2.1.nm, .bool p.2.1.vr, p.2.2] ∧ SlIs W.heap.size W p.1.1.ts p.1.2 ∧ SlIs W.heap.size W p.2.1.ts p.2.2) (fun p => p.1.1.bulk + p.2.1.bulk) (fun n cs x h hf => rule_open enc W n cs x h hf) n v x h hfz
  refine ⟨l, ⟨oa, cap, rfl, hlc, fun hne => ?_⟩, hlb, sides_bulk hbd⟩
  obtain ⟨b, o, rfl, hb, -, hcs⟩ := hrow hne
  refine ⟨b, o, rfl, hb, fun i p hp => ?_⟩
  obtain ⟨cs, ⟨rfl, h1, h2⟩, -, hj⟩ := hcs i p hp
  exact ⟨⟨hj 0 (by omega), hj 1 (by omega), hj 2 (by omega), hj 3 (by omega), hj 4 (by omega), hj 5 (by omega)⟩, h1, h2⟩
section
variable {H : Type} {enc : TypeId × Value → H} {w : World} (sp : Nat → Bool)
theorem sp_rule (k : Nat) : SpAt enc Tryz.prog w sp k 96 := by
  match k with
  | 0 => exact sp_zero sp _
  | k + 1 => exact sp_struct2 sp Tryz.underlying96 (sp_term sp _) (sp_term sp _)
theorem sp_rules (k : Nat) : SpAt enc Tryz.prog w sp k 22 := by
  match k with
  | 0 => exact sp_zero sp _
  | k + 1 => exact sp_slice sp Tryz.underlying22 (by rw [cellsRule]; omega) (sp_rule sp k)
theorem sp_step (k : Nat) : SpAt enc Tryz.prog w sp k 28 := by
  match k with
  | 0 => exact sp_zero sp _
  | k + 1 => exact sp_struct2 sp Tryz.underlying28 (sp_int sp Tryz.underlying3 _) (sp_intsX sp _)
end
end Go.Proofs.YtnomppdmhgefiaaGreat
