/- Packed: Rck. -/
import Derived.WalkKit
import Derived.MapKept
import Derived.LaidEql
import Derived.Deep.Draws
import Derived.Below
import Derived.OwnWalk
import Derived.RangeFuncOwn
import Derived.Test.YtamddagmlanijaaGreatC01
import Derived.ProofKit
import Derived.OpenShut
import Derived.Handy
import Derived.Lib.Hide
import Derived.WalkSmall
import Derived.BigQuiet
import Derived.Deep.RegionHeld3
import Derived.Deep.LoopGhost
import Derived.Lib.SmallJoins
import Derived.StillTailTactics
import Derived.Test.YtamddagmlanijaaGreatC02
/- Merged: Pm, Mal, Chk, Rck. -/
/- A map whose keys are pointers: it can be asked and written, whatever it answers. No program stands here. -/
namespace Go.Proofs.YtamddagmlanijaaGreat
open Go.RowKit

/-- a plain address: its block holds cells, and it is not frozen -/
def AddrOk (n₀ : Nat) (W : World) (a : Addr) : Prop := a.block < n₀ ∧ (∃ c t fr, W.heap[a.block]? = some (.cells c t fr)) ∧ W.frozen? a = false
theorem AddrOk.carry {n₀ : Nat} {A B : World} (h : Below n₀ A B) {a : Addr} (ha : AddrOk n₀ A a) : AddrOk n₀ B a := by
  obtain ⟨h1, ⟨c, t, fr, h2⟩, h3⟩ := ha
  exact ⟨h1, ⟨c, t, fr, (h.block _ h1).trans h2⟩, (h.frozen h1).trans h3⟩

/-- block M holds a map from plain addresses to numbers -/
def PMap (n₀ : Nat) (W : World) (M : Nat) : Prop := ∃ es clock, W.heap[M]? = some (.map es clock) ∧ ∀ e ∈ es.toList, (∃ a, e.key = .pointer (some a) ∧ AddrOk n₀ W a) ∧ ∃ n, e.val = .int .i64 n

theorem PMap.kept {n₀ M : Nat} {A B : World} (h : PMap n₀ A M) (hb : Below n₀ A B) (hM : B.heap[M]? = A.heap[M]?) : PMap n₀ B M := by
  obtain ⟨es, clock, h1, h2⟩ := h
  refine ⟨es, clock, hM.trans h1, fun e he => ?_⟩
  obtain ⟨⟨a, ha, hok⟩, hn⟩ := h2 e he
  exact ⟨⟨a, ha, hok.carry hb⟩, hn⟩

theorem World.drewN_zero' (w : World) : w.drewN 0 = w := rfl

section
variable {P : Program}

theorem run_sameAddr_any {n₀ : Nat} (w : World) {a b : Addr} (ha : AddrOk n₀ w a) (hb : AddrOk n₀ w b) : ∃ r k, (sameAddr a b).run P w = .ok r (w.drewN k) := by
  obtain ⟨_, ⟨ca, ta, fa, h1⟩, h2⟩ := ha
  obtain ⟨_, ⟨cb, tb, fb, h3⟩, h4⟩ := hb
  by_cases hbl : a.block = b.block
  · exact ⟨a == b, 0, by simp [sameAddr, hbl, World.drewN_zero']⟩
  · have hc : ∀ (q : Question), ∃ n k, (choose q).run P w = .ok n (w.drewN k) := fun q => by
      rw [run_choose_drew]
      split
      · exact ⟨0, 0, rfl⟩
      · exact ⟨_, 1, rfl⟩
    obtain ⟨n, k, hq⟩ := hc (.extern "sameAddr.stringBytes" 2)
    have hm : ∃ m, (mayBeOne a b).run P w = .ok m w := by
      simp [mayBeOne, stringish, h2, h4, World.shape?, h1, h3]
    obtain ⟨m, hm⟩ := hm
    cases m
    · exact ⟨false, 0, by simp [sameAddr, hbl, h2, noView, viewAt, World.shape?, h1, h3, hm, World.drewN_zero']⟩
    · exact ⟨n == 1, k, by simp [-run_choose_drew, -run_choose, sameAddr, hbl, h2, noView, viewAt, World.shape?, h1, h3, hm, hq, Result.andThen]⟩

theorem run_equal_any {n₀ : Nat} (w : World) {tp te : TypeId} {j : TypeInfo} (hp : P.underlying tp = some (.pointer te)) (hte : P.info? te = some j) (hsz : j.size ≠ 0) {a b : Addr} (ha : AddrOk n₀ w a) (hb : AddrOk n₀ w b) :
    ∃ r k, (Op.equal tp (.pointer (some a)) (.pointer (some b))).run P w = .ok r (w.drewN k) := by
  obtain ⟨r, k, h⟩ := run_sameAddr_any (P := P) w ha hb
  have h1 : ∀ d : Nat, (Op.equalIn (d + 1) tp (.pointer (some a)) (.pointer (some b))).run P w = .ok r (w.drewN k) := fun d => by
    simp [Op.equalIn, run_underlying hp, sizeOf, typeInfo, hte, hsz, h]
  exact ⟨r, k, by simp [Op.equal, Op.maxDepth, h1 9999]⟩

theorem run_findAsking_any {n₀ : Nat} {tp te : TypeId} {j : TypeInfo} (hp : P.underlying tp = some (.pointer te)) (hte : P.info? te = some j) (hsz : j.size ≠ 0) {a : Addr} (es : List MapEntry) :
    ∀ (w : World) (i : Nat), AddrOk n₀ w a → (∀ e ∈ es, (∃ b, e.key = .pointer (some b) ∧ AddrOk n₀ w b) ∧ ∃ n, e.val = .int .i64 n) →
    ∃ r k, (Instr.findAsking tp (.pointer (some a)) es i).run P w = .ok r (w.drewN k) ∧ ∀ m v, r = some (m, v) → (∃ n, v = .int .i64 n) := by
  induction es with
  | nil => exact fun w i _ _ => ⟨none, 0, by simp [Instr.findAsking, World.drewN_zero'], fun m v h => by cases h⟩
  | cons e es ih =>
    intro w i ha hes
    obtain ⟨⟨b, hb, hbok⟩, n, hn⟩ := hes e (by simp)
    obtain ⟨r, k, hr⟩ := run_equal_any w hp hte hsz ha hbok
    have hw : ∀ x : Addr, AddrOk n₀ w x → AddrOk n₀ (w.drewN k) x := fun x h => h
    cases r
    · obtain ⟨r', k', hr', hv⟩ := ih (w.drewN k) (i + 1) (hw _ ha) (fun e he => by
        obtain ⟨⟨b, h1, h2⟩, h3⟩ := hes e (by simp [he])
        exact ⟨⟨b, h1, hw _ h2⟩, h3⟩)
      exact ⟨r', k + k', by simp [Instr.findAsking, hb, hr, hr', Result.andThen, World.drewN_drewN], hv⟩
    · exact ⟨some (i, e.val), k, by simp [Instr.findAsking, hb, hr, Result.andThen], fun m v h => by cases h; exact ⟨n, hn⟩⟩

theorem run_findKey_any {n₀ : Nat} {tp te : TypeId} {j : TypeInfo} (hp : P.underlying tp = some (.pointer te)) (hte : P.info? te = some j) (hsz : j.size ≠ 0) {a : Addr} (es : List MapEntry) (w : World) (ha : AddrOk n₀ w a)
    (hes : ∀ e ∈ es, (∃ b, e.key = .pointer (some b) ∧ AddrOk n₀ w b) ∧ ∃ n, e.val = .int .i64 n) :
    ∃ r k, (Instr.findKey tp (.pointer (some a)) es).run P w = .ok r (w.drewN k) ∧ ∀ m v, r = some (m, v) → (∃ n, v = .int .i64 n) := by
  cases es with
  | nil => exact ⟨none, 0, by simp [Instr.findKey, run_underlying hp, Instr.findNow, World.drewN_zero'], fun m v h => by cases h⟩
  | cons e es =>
    obtain ⟨r, k, h, hv⟩ := run_findAsking_any hp hte hsz (e :: es) w 0 ha hes
    exact ⟨r, k, by simp [Instr.findKey, run_underlying hp, Instr.findNow, Instr.sameNow, h], hv⟩

theorem run_checkKey_ptr {w : World} {tp te : TypeId} (hp : P.underlying tp = some (.pointer te)) (a : Addr) (e : Bool) (n : Nat) : (Instr.checkKey e (n + 1) tp (.pointer (some a))).run P w = .ok () w := by
  simp [Instr.checkKey, run_underlying hp]

/-- IT MAY BE ASKED: some number comes back. -/
theorem PMap.lookup {n₀ M : Nat} {w : World} {t tp te ti : TypeId} {j : TypeInfo} (h : PMap n₀ w M) (ht : P.underlying t = some (.map tp ti)) (hp : P.underlying tp = some (.pointer te)) (hte : P.info? te = some j) (hsz : j.size ≠ 0)
    (hz : ∀ w : World, (zeroValue ti).run P w = .ok (.int .i64 0) w) {a : Addr} (ha : AddrOk n₀ w a) :
    ∃ n k, (Instr.lookup t (.map (some M)) (.pointer (some a)) false).run P w = .ok (.int .i64 n) (w.drewN k) := by
  obtain ⟨es, clock, h1, h2⟩ := h
  obtain ⟨r, k, hr, hv⟩ := run_findKey_any hp hte hsz es.toList w ha h2
  have hck : ∀ e, (Instr.checkKey e 10000 tp (.pointer (some a))).run P w = .ok () w := fun e => run_checkKey_ptr hp a e 9999
  cases r with
  | none => exact ⟨0, k, by simp [Instr.lookup, run_underlying ht, MapKept.run_getObj_map h1, hck, hr, hz, Result.andThen]⟩
  | some x =>
    obtain ⟨m, v⟩ := x
    obtain ⟨n, rfl⟩ := hv m v rfl
    exact ⟨n, k, by simp [Instr.lookup, run_underlying ht, MapKept.run_getObj_map h1, hck, hr, Result.andThen]⟩

/-- IT MAY BE WRITTEN. -/
theorem PMap.update {n₀ M : Nat} {w : World} {t tp te ti : TypeId} {j : TypeInfo} (h : PMap n₀ w M) (hM : n₀ ≤ M) (ht : P.underlying t = some (.map tp ti)) (hp : P.underlying tp = some (.pointer te)) (hte : P.info? te = some j) (hsz : j.size ≠ 0)
    {a : Addr} (ha : AddrOk n₀ w a) (n : Int) :
    ∃ w', (Instr.mapUpdate t (.map (some M)) (.pointer (some a)) (.int .i64 n)).run P w = .ok () w' ∧ PMap n₀ w' M ∧ w.grownBy w' (some M) := by
  obtain ⟨es, clock, h1, h2⟩ := h
  obtain ⟨r, k, hr, hv⟩ := run_findKey_any hp hte hsz es.toList w ha h2
  have hck : ∀ e, (Instr.checkKey e 10000 tp (.pointer (some a))).run P w = .ok () w := fun e => run_checkKey_ptr hp a e 9999
  have hst : ∀ (v : Value), ∃ m : Nat, ∃ r, (Instr.keyThatStays v (.pointer (some a))).run P (w.drewN k) = .ok r ((w.drewN k).drewN m) ∧ (r = v ∨ r = .pointer (some a)) := fun v => by
    unfold Instr.keyThatStays
    by_cases hs : Instr.sameBits 10000 v (.pointer (some a)) = true
    · exact ⟨0, _, by simp only [hs, if_true]; rfl, .inr rfl⟩
    · have hc : ∃ n m, (choose (.extern "map.whichKeyStays" 2)).run P (w.drewN k) = .ok n ((w.drewN k).drewN m) := by
        rw [run_choose_drew]
        split
        · exact ⟨0, 0, rfl⟩
        · exact ⟨_, 1, rfl⟩
      obtain ⟨n, m, hq⟩ := hc
      refine ⟨m, if n = 0 then .pointer (some a) else v, ?_, ?_⟩
      · rw [if_neg hs]
        simp [-run_choose_drew, -run_choose, hq, Result.andThen]
      · split
        · exact .inr rfl
        · exact .inl rfl
  have hset : ∀ (o : Obj) (m : Nat), (setObj M o).run P (w.drewN m) = .ok () ((w.drewN m).putObj M o) := fun o m => MapKept.run_setObj_map o (w := w.drewN m) h1
  have hlt : M < w.heap.size := (Array.getElem?_eq_some_iff.1 h1).1
  have hkeep : ∀ m (o : Obj) (b : Addr), AddrOk n₀ w b → AddrOk n₀ ((w.drewN m).putObj M o) b := fun m o b ⟨hb1, ⟨c, t, fr, hb2⟩, hb3⟩ => by
    have hne : ((w.drewN m).putObj M o).heap[b.block]? = w.heap[b.block]? := World.putObj_heap_other (w := w.drewN m) (by omega)
    refine ⟨hb1, ⟨c, t, fr, hne.trans hb2⟩, ?_⟩
    have h4 : ((w.drewN m).putObj M o).frozen? b = w.frozen? b := by unfold World.frozen?; rw [hne]
    exact h4.trans hb3
  have hgr : ∀ m (o : Obj), w.grownBy ((w.drewN m).putObj M o) (some M) := fun m o => ⟨rfl, rfl, rfl, by simp [World.putObj], fun i _ hi => World.putObj_heap_other (w := w.drewN m) (fun e => hi (by rw [e]))⟩
  cases r with
  | none =>
    refine ⟨(w.drewN k).putObj M (.map (es.push ⟨.pointer (some a), .int .i64 n, clock⟩) (clock + 1)), ?_, ⟨_, _, World.putObj_heap_same (w := w.drewN k) hlt, ?_⟩, hgr _ _⟩
    · simp [Instr.mapUpdate, run_underlying ht, MapKept.run_getObj_map h1, hck, hr, hset, Result.andThen]
    · intro e he
      rw [Array.toList_push, List.mem_append, List.mem_singleton] at he
      rcases he with he | rfl
      · obtain ⟨⟨b, hb1, hb2⟩, hn⟩ := h2 e he
        exact ⟨⟨b, hb1, hkeep _ _ _ hb2⟩, hn⟩
      · exact ⟨⟨a, rfl, hkeep _ _ _ ha⟩, n, rfl⟩
  | some x =>
    obtain ⟨i, v⟩ := x
    obtain ⟨m, r, hk, hro⟩ := hst (((es[i]?).map (·.key)).getD (.pointer (some a)))
    refine ⟨(w.drewN (k + m)).putObj M (.map (es.modify i fun e => { e with key := r, val := .int .i64 n }) clock), ?_, ⟨_, _, World.putObj_heap_same (w := w.drewN (k + m)) hlt, ?_⟩, hgr _ _⟩
    · simp [Instr.mapUpdate, run_underlying ht, MapKept.run_getObj_map h1, hck, hr, hk, hset, Result.andThen]
    · intro e he
      obtain ⟨q, hq⟩ := List.mem_iff_getElem?.1 he
      rw [Array.getElem?_toList, Array.getElem?_modify] at hq
      by_cases e1 : i = q
      · subst e1
        rw [if_pos rfl] at hq
        cases h5 : es[i]? with
        | none => rw [h5] at hq; cases hq
        | some e0 =>
          rw [h5] at hq hro
          have he0 : e0 ∈ es.toList := by rw [List.mem_iff_getElem?]; exact ⟨i, by rw [Array.getElem?_toList]; exact h5⟩
          obtain ⟨⟨b, hb1, hb2⟩, _⟩ := h2 e0 he0
          simp only [Option.map_some, Option.some.injEq] at hq
          subst hq
          simp only [Option.map_some, Option.getD_some] at hro
          rcases hro with rfl | rfl
          · exact ⟨⟨b, hb1, hkeep _ _ _ hb2⟩, n, rfl⟩
          · exact ⟨⟨a, rfl, hkeep _ _ _ ha⟩, n, rfl⟩
      · rw [if_neg e1] at hq
        have he0 : e ∈ es.toList := by rw [List.mem_iff_getElem?]; exact ⟨q, by rw [Array.getElem?_toList]; exact hq⟩
        obtain ⟨⟨b, hb1, hb2⟩, hn⟩ := h2 e he0
        exact ⟨⟨b, hb1, hkeep _ _ _ hb2⟩, hn⟩
end
end Go.Proofs.YtamddagmlanijaaGreat
/- hasMalformed: it ends, with some answer, and changes nothing that was there. -/
namespace Go.Proofs.YtamddagmlanijaaGreat
open Go.RowKit

/-- the cells of a stack of terms -/
def stCells (st : List (Tm × Value)) : List Value := st.flatMap fun p => [.string p.1.nm, .bool p.1.vr, p.2]
def stSize (st : List (Tm × Value)) : Nat := (st.map fun p => p.1.size).sum
theorem stCells_append (a b : List (Tm × Value)) : stCells (a ++ b) = stCells a ++ stCells b := by simp [stCells]
theorem stCells_length (a : List (Tm × Value)) : (stCells a).length = a.length * 3 := by
  induction a with
  | nil => rfl
  | cons p a ih => simp [stCells] at ih ⊢; omega
theorem stSize_append (a b : List (Tm × Value)) : stSize (a ++ b) = stSize a + stSize b := by simp [stSize]
theorem stSize_len (a : List (Tm × Value)) : a.length ≤ stSize a := by
  induction a with
  | nil => simp
  | cons p a ih => have := Tm.size_pos p.1; simp [stSize] at ih ⊢; omega
theorem stSize_zip (l : List Tm) (s : Nat → Value) (k : Nat) : stSize (l.zipIdx k |>.map fun x => (x.1, s x.2)) = Tm.sizes l := by
  induction l generalizing k with
  | nil => rfl
  | cons t l ih => have := ih (k + 1); simp [stSize, Tm.sizes] at this ⊢; omega
theorem stCells_get (st : List (Tm × Value)) (j : Nat) (v : Value) (h : (stCells st)[j]? = some v) :
    ∃ i p, st[i]? = some p ∧ ((j = i * 3 ∧ v = .string p.1.nm) ∨ (j = i * 3 + 1 ∧ v = .bool p.1.vr) ∨ (j = i * 3 + 2 ∧ v = p.2)) := by
  induction st generalizing j with
  | nil => simp [stCells] at h
  | cons p st ih =>
    match j, h with
    | 0, h => simp [stCells] at h; exact ⟨0, p, rfl, .inl ⟨rfl, h.symm⟩⟩
    | 1, h => simp [stCells] at h; exact ⟨0, p, rfl, .inr (.inl ⟨rfl, h.symm⟩)⟩
    | 2, h => simp [stCells] at h; exact ⟨0, p, rfl, .inr (.inr ⟨rfl, h.symm⟩)⟩
    | j + 3, h =>
      have h' : (stCells st)[j]? = some v := by simpa [stCells] using h
      obtain ⟨i, q, hq, hc⟩ := ih j h'
      refine ⟨i + 1, q, hq, ?_⟩
      rcases hc with ⟨h1, h2⟩ | ⟨h1, h2⟩ | ⟨h1, h2⟩
      · exact .inl ⟨by omega, h2⟩
      · exact .inr (.inl ⟨by omega, h2⟩)
      · exact .inr (.inr ⟨by omega, h2⟩)

/-- what is on the stack lies in memory -/
def StIs (n₀ : Nat) (W : World) (st : List (Tm × Value)) : Prop := ∀ p ∈ st, SlIs n₀ W p.1.ts p.2 ∧ p.1.bulk ≤ 1048576
theorem StIs.carry {n₀ : Nat} {A B : World} (h : Below n₀ A B) {st : List (Tm × Value)} (hs : StIs n₀ A st) : StIs n₀ B st := fun p hp => ⟨(hs p hp).1.carry h (Nat.le_refl _), (hs p hp).2⟩

/-- the arguments of a term, as they lie -/
theorem SlIs.args {n₀ : Nat} {W : World} {l : List Tm} {oa : Option Addr} {n cap : Nat} (h : SlIs n₀ W l (.slice oa n cap)) (hne : l ≠ []) (hb : Tm.bulks l ≤ 1048576) :
    ∃ (b o : Nat) (st : List (Tm × Value)), oa = some ⟨b, o, none⟩ ∧ AddrOk n₀ W ⟨b, o, none⟩ ∧ StIs n₀ W st ∧ st.length = l.length ∧ (stSize st = Tm.sizes l ∧ ∀ p ∈ st, p.1 ∈ l) ∧
      (∀ j u, (stCells st)[j]? = some u → W.cell? ((⟨b, o, none⟩ : Addr).add j) = some u) ∧ ∀ u ∈ stCells st, u.oneCell' = true := by
  cases h with
  | nil0 => exact absurd rfl hne
  | nil1 a cap => exact absurd rfl hne
  | row b o cap l s hl hbn hc cells hk hf =>
    have hget : ∀ i p, ((l.zipIdx).map fun x => (x.1, s x.2))[i]? = some p → ∃ t, l[i]? = some t ∧ p = (t, s i) := fun i p hp => by
      simp only [List.getElem?_map, List.getElem?_zipIdx, Option.map_map, Option.map_eq_some_iff] at hp
      obtain ⟨t, ht, hp⟩ := hp
      exact ⟨t, ht, by simpa using hp.symm⟩
    have hst : StIs n₀ W ((l.zipIdx).map fun x => (x.1, s x.2)) := fun p hp => by
      obtain ⟨i, hi⟩ := List.mem_iff_getElem?.1 hp
      obtain ⟨t, ht, rfl⟩ := hget i p hi
      exact ⟨hk i t ht, by have h2 := Tm.bulk_mem (List.mem_of_getElem? ht); show t.bulk ≤ _; omega⟩
    have h0 : l[0]? = some (l.head hne) := by cases l with | nil => exact absurd rfl hne | cons a l => rfl
    refine ⟨b, o, (l.zipIdx).map fun x => (x.1, s x.2), rfl, ⟨hbn, ?_, ?_⟩, hst, by simp, ⟨stSize_zip l s 0, fun p hp => by
      obtain ⟨i, hi⟩ := List.mem_iff_getElem?.1 hp
      obtain ⟨t, ht, rfl⟩ := hget i p hi
      exact List.mem_of_getElem? ht⟩, ?_, ?_⟩
    · have h1 := (cells 0 _ h0).1
      unfold World.cell? at h1
      cases hh : W.heap[b]? with
      | none => rw [hh] at h1; cases h1
      | some ob =>
        rw [hh] at h1
        cases ob with
        | cells c t fr => exact ⟨c, t, fr, rfl⟩
        | _ => cases h1
    · have := hf 0 (by have := List.length_pos_iff.2 hne; omega)
      simpa using this
    · intro j u hj
      obtain ⟨i, p, hp, hc⟩ := stCells_get _ j u hj
      obtain ⟨t, ht, rfl⟩ := hget i p hp
      obtain ⟨c1, c2, c3⟩ := cells i t ht
      have hadd : (⟨b, o, none⟩ : Addr).add j = ⟨b, o + j, none⟩ := by
        unfold Addr.add
        split
        · rename_i e; subst e; rfl
        · rfl
      rw [hadd]
      rcases hc with ⟨rfl, rfl⟩ | ⟨rfl, rfl⟩ | ⟨rfl, rfl⟩
      · exact c1
      · rw [← Nat.add_assoc]; exact c2
      · rw [← Nat.add_assoc]; exact c3
    · intro u hu
      obtain ⟨j, hj⟩ := List.mem_iff_getElem?.1 hu
      obtain ⟨i, p, hp, hc⟩ := stCells_get _ j u hj
      obtain ⟨t, ht, rfl⟩ := hget i p hp
      rcases hc with ⟨rfl, rfl⟩ | ⟨rfl, rfl⟩ | ⟨rfl, rfl⟩
      · rfl
      · rfl
      · obtain ⟨oa, cap, e, _⟩ := (hk i t ht).form
        rw [show (t, s i).2 = s i from rfl, e]; rfl

theorem info24 : (Tryz.prog.info? 25).map (fun i => (i.zero, i.size, i.bytes)) = some (some (.agg #[.string ⟨#[]⟩, .bool false, .slice none 0 0]), 3, 48) := by kernel_rfl

/-- every node has the form of a variable or of an applied symbol -/
inductive Tm.AllOk : Tm → Prop
  | mk (t : Tm) : nodeOk t.nm t.vr t.ts.length = true → (∀ u ∈ t.ts, u.AllOk) → t.AllOk
theorem Tm.AllOk.node {t : Tm} (h : t.AllOk) : nodeOk t.nm t.vr t.ts.length = true := by cases h with | mk _ h1 h2 => exact h1
theorem Tm.AllOk.kids {t : Tm} (h : t.AllOk) : ∀ u ∈ t.ts, u.AllOk := by cases h with | mk _ h1 h2 => exact h2

set_option maxHeartbeats 2000000 in
set_option maxRecDepth 100000 in
theorem malformed_full (t : Tm) (s : Value) (w : World) (hb : t.bulk ≤ 1048576) (hs : SlIs w.heap.size w t.ts s) :
    Calls Tryz.prog 168 #[tmv t s] w fun e w' => (∃ b, e = .returned (.bool b) ∧ (t.AllOk → b = false)) ∧ Below w.heap.size w w' := by
  obtain ⟨oa, cap, rfl, -⟩ := hs.form
  have hsz := Tm.size_bulk t
  have hmm := @run_makeMap Tryz.prog
  go_enter Tryz.func168, Tryz.ntmps168
  go_wp2_with fail
  go_loopg [4] t.size (fun k v wr => ∃ st, Hid (t.AllOk → ∀ p ∈ st, p.1.AllOk) ∧ k = stSize st ∧ stSize st ≤ 1048576 ∧ StIs w.heap.size wr st ∧ wr.ownsRow (w.heap.size + 1 + 1) 25 3 v st.length (stCells st) ∧ PMap w.heap.size wr (w.heap.size + 1) ∧ Below w.heap.size w wr ∧ w.heap.size + 2 < wr.heap.size)
  case atStart =>
    have hB : Below w.heap.size w (((w.alloc (Obj.cells #[Value.string t.nm, Value.bool t.vr, Value.slice oa t.ts.length cap] 25)).alloc (Obj.map #[] 0)).alloc (Obj.cells #[Value.string t.nm, Value.bool t.vr, Value.slice oa t.ts.length cap] 25)) := by go_grown
    refine ⟨[(t, .slice oa t.ts.length cap)], (show Hid (t.AllOk → ∀ p ∈ [(t, Value.slice oa t.ts.length cap)], p.1.AllOk) from Lib.hid fun h p hp => by rw [List.mem_singleton.1 hp]; exact h), by simp [stSize], by simp [stSize]; omega, ?_, ?_, ?_, hB, by simp⟩
    · intro p hp
      obtain rfl : p = (t, .slice oa t.ts.length cap) := by simpa using hp
      exact ⟨hs.carry hB (Nat.le_refl _), hb⟩
    · have h := World.ownsRow_lit (base := w.heap.size + 1 + 1) (e := 25) (size := 3) ((w.alloc (Obj.cells #[Value.string t.nm, Value.bool t.vr, Value.slice oa t.ts.length cap] 25)).alloc (Obj.map #[] 0)) #[Value.string t.nm, Value.bool t.vr, Value.slice oa t.ts.length cap] 1 (by simp) (by unfold maxLen; omega) rfl
      simpa [stCells] using h
    · refine ⟨#[], 0, ?_, by simp⟩
      have h1 := World.alloc_heap_new (w.alloc (Obj.cells #[Value.string t.nm, Value.bool t.vr, Value.slice oa t.ts.length cap] 25)) (Obj.map #[] 0)
      rw [World.size_alloc] at h1
      exact (Below.heap_alloc _ _ _ (by simp)).trans h1
  case round =>
    obtain ⟨st, HAO, hk, hle, hst, hown, hpm, hbw, hzw⟩ := hrel
    rcases List.eq_nil_or_concat st with rfl | ⟨st', x, rfl⟩
    · have hf := Joins.ownsRow_forms hown
      rcases hf with ⟨rfl, -⟩ | ⟨g, c, rfl⟩
      all_goals
        go_wp2_with fail
        go_ret
        exact ⟨⟨_, rfl, fun _ => rfl⟩, hbw⟩
    · obtain ⟨u, su⟩ := x
      rw [List.concat_eq_append] at hk hle hst hown HAO
      have HAO' : Hid (t.AllOk → ∀ p ∈ st', p.1.AllOk) := Lib.hid fun h p hp => HAO.out h p (by simp [hp])
      have HAU : Hid (t.AllOk → u.AllOk) := Lib.hid fun h => HAO.out h (u, su) (by simp)
      clear HAO
      obtain ⟨hus, hub⟩ := hst (u, su) (by simp)
      simp only at hus hub
      obtain ⟨oa2, cap2, rfl, -⟩ := hus.form
      have hst' : StIs w.heap.size wr st' := fun p hp => hst p (by simp [hp])
      rw [stSize_append] at hk hle
      have hx1 : stSize [(u, Value.slice oa2 u.ts.length cap2)] = u.size := by simp [stSize]
      rw [hx1] at hk hle
      have hl' := stSize_len st'
      have hnl : (st' ++ [(u, Value.slice oa2 u.ts.length cap2)]).length = st'.length + 1 := by simp
      rw [hnl, stCells_append] at hown
      have hlc := stCells_length st'
      obtain ⟨g, c, rfl⟩ := Joins.ownsRow_form hown (by omega)
      have hat := fun j hj => hown.cellAt j hj
      have c1 : wr.cell? ⟨g, st'.length * 3, none⟩ = some (.string u.nm) := by
        rw [hat _ (by omega), List.getElem?_append_right (by omega), hlc]; simp [stCells]
      have c2 : wr.cell? ⟨g, st'.length * 3 + 1, none⟩ = some (.bool u.vr) := by
        rw [hat _ (by omega), List.getElem?_append_right (by omega), hlc]; simp [stCells]
      have c3 : wr.cell? ⟨g, st'.length * 3 + 2, none⟩ = some (.slice oa2 u.ts.length cap2) := by
        rw [hat _ (by omega), List.getElem?_append_right (by omega), hlc]; simp [stCells]
      have hpop := ownsRow_pop hlc hown
      have hul := Tm.size_bulk u
      have hue := Tm.size_eq u
      have hub2 := Tm.bulk_eq u
      have hlu := Tm.length_sizes u.ts
      have hnm : u.nm.size ≤ 1048576 := by omega
      have hlu2 : u.ts.length ≤ 1048576 := by omega
      have HU := Lib.hid hue
      have HB := Lib.hid hub2
      have HK := Lib.hid hk
      have HST := Lib.hid hst'
      have HUS := Lib.hid hus
      have HPM := Lib.hid hpm
      have HPOP := Lib.hid hpop
      have hlen : st'.length + 1 ≤ c ∧ c ≤ maxLen := by
        obtain ⟨_, h⟩ := hpop
        rcases h with ⟨h, _⟩ | ⟨g1, c1, cur, hv, _, _, h1, h2, _⟩
        · cases h
        · cases hv
          obtain ⟨_, h⟩ := hown
          rcases h with ⟨h, _⟩ | ⟨g1, c1, cur, hv, _, _, h1, h2, _⟩
          · cases h
          · cases hv; exact ⟨h1, h2⟩
      obtain ⟨hlen1, hlen2⟩ := hlen
      have hlen3 : c ≤ 9223372036854775807 := by unfold maxLen at hlen2; omega
      clear hlen2
      clear hue hub2 hk hst' hus hpm hpop hat hnl hlc hst hx1 hown
      go_wp2_with fail
      refine (isFormed_any u.nm u.vr oa2 u.ts.length cap2 _ hnm hlu2).mono ?_
      rintro e w2 ⟨rfl, hb2⟩
      have b0 : w2.cell? ⟨wr.heap.size, 0, none⟩ = some (.string u.nm) := (hb2.cell (p := ⟨wr.heap.size, 0, none⟩) (by simp)).trans (cell_at_new wr _ _ 0)
      have b1 : w2.cell? ⟨wr.heap.size, 1, none⟩ = some (.bool u.vr) := (hb2.cell (p := ⟨wr.heap.size, 1, none⟩) (by simp)).trans (cell_at_new wr _ _ 1)
      have b2 : w2.cell? ⟨wr.heap.size, 2, none⟩ = some (.slice oa2 u.ts.length cap2) := (hb2.cell (p := ⟨wr.heap.size, 2, none⟩) (by simp)).trans (cell_at_new wr _ _ 2)
      have hz2 : wr.heap.size + 1 ≤ w2.heap.size := by have := hb2.size; simpa using this
      have hB2 : Below wr.heap.size wr w2 := (((Below.refl _ wr).alloc (Nat.le_refl _) _).trans (hb2.mono (by simp)))
      cases hno : nodeOk u.nm u.vr u.ts.length
      · have HNO := Lib.hid hno
        clear hno
        go_wp2_with fail
        go_ret
        exact ⟨⟨_, rfl, fun h => by have h1 := (HAU.out h).node; have h2 := HNO.out; rw [h1] at h2; cases h2⟩, hbw.trans (hB2.mono (by omega))⟩
      · clear hno
        have HB2 := Lib.hid hB2
        clear hB2 hb2
        by_cases hne : u.ts = []
        · have h0 : u.ts.length = 0 := by rw [hne]; rfl
          rw [h0] at b2 ⊢
          go_wp2_with fail
          go_quiet (fail)
          go_wp2_with fail
          have hgr := below_grown (below_drewN nq HB2.out)
          have hbB := below_drewN nq HB2.out
          have hup := Tm.size_pos u
          go_roundg (stSize st')
          case measure => have := HK.out; omega
          case rel => exact ⟨st', HAO', rfl, by omega, HST.out.carry (hbB.mono (by omega)), HPOP.out.kept hgr (.inr (by simp [Value.ownBlock])), HPM.out.kept (hbB.mono (by omega)) (hbB.block _ (by omega)), hbw.trans (hbB.mono (by omega)), by have := hbB.size; omega⟩
        · obtain ⟨b', o', stU, rfl, hak, hsu, hlu3, ⟨hsz3, hmem3⟩, hcl, hone⟩ := HUS.out.args hne (by have := HB.out; omega)
          have hpos : 0 < u.ts.length := List.length_pos_iff.2 hne
          have HPM2 : PMap w.heap.size w2.drew (w.heap.size + 1) := PMap.kept (A := wr) (B := w2.drew) HPM.out (HB2.out.mono (B' := w.heap.size) (by omega)).drew (HB2.out.block (w.heap.size + 1) (by omega))
          have HAK : AddrOk w.heap.size w2.drew ⟨b', o', none⟩ := hak.carry (A := wr) (B := w2.drew) (HB2.out.mono (B' := w.heap.size) (by omega)).drew
          obtain ⟨i24, hi, hz0, hz1, hz2'⟩ := info_parts info24
          obtain ⟨nn, kk, hrun⟩ := HPM2.lookup Tryz.underlying285 Tryz.underlying241 hi (by rw [hz1]; decide) Tryz.zeroValue3 HAK
          have HH := Lib.hid hak
          have HSU := Lib.hid hsu
          have HCL := Lib.hid hcl
          have HON := Lib.hid hone
          have HL3 := Lib.hid hlu3
          have HS3 := Lib.hid hsz3
          have HM3 := Lib.hid hmem3
          clear hmem3
          have HPMh := Lib.hid HPM2
          have HI := Lib.hid hi
          have HZ := Lib.hid hz1
          have HZ0 := Lib.hid hz0
          have HZ2 := Lib.hid hz2'
          clear hak hsu hcl hone hlu3 hsz3 HPM2 HAK hz0 hz1 hz2' hi
          go_wp2_with fail
          go_region_held3 (fun w' => w'.cell? ⟨wr.heap.size, 2, none⟩ = some (.slice (some ⟨b', o', none⟩) u.ts.length cap2)) (go_keep) (fail)
          rename_i hHeld
          clear hrun hHeld hmm
          have hB5 : Below wr.heap.size wr (w2.drewN (1 + kk)) := below_drewN (1 + kk) HB2.out
          by_cases hlt : nn < (u.ts.length : Int)
          · have HB5 := Lib.hid hB5
            obtain ⟨w5, hrun5, hpm5, hg5⟩ := PMap.update (w := w2.drewN (1 + kk + 1)) (n₀ := w.heap.size) HPMh.out (by omega) Tryz.underlying285 Tryz.underlying241 HI.out (by rw [HZ.out]; decide) (a := ⟨b', o', none⟩) (HH.out.carry ((below_drewN (1 + kk + 1) HB2.out).mono (by omega))) (u.ts.length : Int)
            have hsz5 : w2.heap.size ≤ w5.heap.size := hg5.size
            have b25 : w5.cell? ⟨wr.heap.size, 2, none⟩ = some (.slice (some ⟨b', o', none⟩) u.ts.length cap2) :=
              (World.cell?_of_block (w := w2.drewN (1 + kk + 1)) (a := ⟨wr.heap.size, 2, none⟩) (hg5.block wr.heap.size (by show _ < w2.heap.size; omega) (by simp; omega))).trans b2
            have hB6 : Below w.heap.size wr w5 := ((below_drewN (1 + kk + 1) HB2.out).mono (by omega)).grown hg5 (by show _ ≤ w2.heap.size; omega) (fun k e => by cases e; omega)
            have hbase := (HPOP.out.lt g rfl).1
            have HOWN5 := Lib.hid ((HPOP.out.kept (below_grown (below_drewN (1 + kk + 1) HB2.out)) (.inr (by simp [Value.ownBlock]))).kept hg5 (.inr (by simp [Value.ownBlock]; omega)))
            have HCL5 := Lib.hid (fun (j : Nat) (v : Value) (h : (stCells stU)[j]? = some v) => (hB6.cell (p := (⟨b', o', none⟩ : Addr).add j) (by have := HH.out.1; rw [add_blk]; exact this)).trans (HCL.out j v h))
            have HP5 := Lib.hid hpm5
            have HB6 := Lib.hid hB6
            clear hB5 hpm5 hg5 hB6
            have hstl := stSize_len stU
            have hlc := stCells_length stU
            have HLC := Lib.hid hlc
            have hzl : stSize stU + 1 = u.size := by rw [HS3.out, HU.out]; omega
            have HZL := Lib.hid hzl
            have hbnd : st'.length + u.ts.length ≤ 1048576 := by rw [HL3.out] at hstl; omega
            clear hlc hzl hstl
            go_wp2_with fail
            go_region_held3 (fun w' => w'.cell? ⟨wr.heap.size, 2, none⟩ = some (.slice (some ⟨b', o', none⟩) u.ts.length cap2)) (go_keep) (fail)
            rename_i hHeld1
            clear hHeld1 hrun5
            go_wp2_with (at_builtin; refine wpList_append_own _ rfl _ _ 23 rfl (w.heap.size + 1 + 1) 25 i24 (.agg #[.string ⟨#[]⟩, .bool false, .slice none 0 0]) 3 48 Tryz.underlying23 HI.out HZ0.out HZ.out HZ2.out rfl (by decide) _ _ _ rfl HOWN5.out ⟨b', o', none⟩ u.ts.length cap2 (stCells stU) rfl (by rw [HLC.out, HL3.out]) HCL5.out HON.out (by unfold maxLen; omega) (by omega) (by omega) ?_; intro v6 w6 hown6 hgrow6 _)
            have hrow : ∀ k, (Value.slice (some ⟨g, 0, none⟩) st'.length c).ownBlock = some k → k = g := fun k e => by simpa [Value.ownBlock, eq_comm] using e
            have h56 : Below w.heap.size w5 w6 := (Below.refl _ w5).grown hgrow6 (by omega) (fun k e => by have := hrow k e; omega)
            have h16 := HB6.out.trans h56
            have hz6 := h56.size
            go_roundg (stSize (st' ++ stU))
            case measure => have h1 := HK.out; have h2 := HZL.out; rw [stSize_append]; omega
            case rel =>
              refine ⟨st' ++ stU, Lib.hid (fun h p hp => (List.mem_append.1 hp).elim (HAO'.out h p) fun hp => (HAU.out h).kids _ (HM3.out p hp)), rfl, ?_, ?_, ?_, HP5.out.kept h56 (hgrow6.block _ (by omega) (fun e => by have := hrow _ e.symm; omega)), hbw.trans h16, by omega⟩
              · rw [stSize_append]; have h2 := HZL.out; omega
              · intro p hp
                rcases List.mem_append.1 hp with h | h
                · exact (HST.out.carry h16) p h
                · exact (HSU.out.carry h16) p h
              · rw [stCells_append, List.length_append, HL3.out]; exact hown6
          · have HB5 := Lib.hid hB5
            clear hB5
            go_wp2_with fail
            have hbB := HB5.out
            have hup := Tm.size_pos u
            go_roundg (stSize st')
            case measure => have := HK.out; omega
            case rel => exact ⟨st', HAO', rfl, by omega, HST.out.carry (hbB.mono (by omega)), HPOP.out.kept (below_grown hbB) (.inr (by simp [Value.ownBlock])), HPM.out.kept (hbB.mono (by omega)) (hbB.block _ (by omega)), hbw.trans (hbB.mono (by omega)), by have := hbB.size; omega⟩
end Go.Proofs.YtamddagmlanijaaGreat
/- Check: zero just where the term is well formed and small. -/
namespace Go.Proofs.YtamddagmlanijaaGreat
open Go.RowKit Go.Shelf
attribute [local go_sem] Oper.semAt_some

/-- is this node formed? -/
def viewOk (v : View) : Bool := nodeOk v.2.1 v.2.2.1 v.2.2.2
def Tm.formed (t : Tm) : Prop := ∀ v ∈ t.nodes 1, viewOk v = true
/-- the terms that Check lets by -/
def Tm.ok (t : Tm) : Prop := t.formed ∧ t.size ≤ 4000 ∧ t.depth ≤ 200

theorem held_kept {W W' : World} {row : Option Nat} {B : Nat} {c : Array Value} {ty : TypeId} {fr : Nat × Nat} (h : W.heap[B]? = some (.cells c ty fr)) (hg : W.grownBy W' row) (hr : ∀ r, row = some r → ∃ o : Obj, W.heap[r]? = some o ∧ o.isCells = false) :
    W'.heap[B]? = some (.cells c ty fr) := (hg.block B (Array.getElem?_eq_some_iff.1 h).1 (fun e => by obtain ⟨o, ho, hc⟩ := hr B e.symm; rw [h] at ho; cases ho; cases hc)).trans h

/-- the variables of Check, as they lie -/
structure ChkMem (w W : World) (c : Array Value) (rv sz dp : Int) : Prop where
  tb : W.heap[w.heap.size]? = some (.cells c 25 (0, 0))
  rb : Boxed W (w.heap.size + 1) 29 (.int .i64 rv)
  sb : Boxed W (w.heap.size + 1 + 1) 3 (.int .i64 sz)
  db : Boxed W (w.heap.size + 1 + 1 + 1) 3 (.int .i64 dp)
  bl : Below w.heap.size w W
theorem ChkMem.kept {w W W' : World} {c : Array Value} {rv sz dp : Int} {row : Option Nat} (h : ChkMem w W c rv sz dp) (hg : W.grownBy W' row) (hr : ∀ r, row = some r → w.heap.size ≤ r ∧ ∃ o : Obj, W.heap[r]? = some o ∧ o.isCells = false) : ChkMem w W' c rv sz dp :=
  ⟨held_kept h.tb hg fun r e => (hr r e).2, held_kept h.rb hg fun r e => (hr r e).2, held_kept h.sb hg fun r e => (hr r e).2, held_kept h.db hg fun r e => (hr r e).2,
    h.bl.grown hg h.bl.size fun r e => (hr r e).1⟩
theorem ChkMem.below {w W W' : World} {c : Array Value} {rv sz dp : Int} (h : ChkMem w W c rv sz dp) (hb : Below W.heap.size W W') : ChkMem w W' c rv sz dp :=
  h.kept (row := none) ⟨hb.os, hb.tape, hb.output, hb.size, fun i hi _ => hb.block i hi⟩ (fun r e => by cases e)
theorem dmax_nd (pre : List Nd) : dmax (pre.map Nd.view) ≤ 2097152 := by
  induction pre with
  | nil => simp [dmax]
  | cons x pre ih => rw [List.map_cons, dmax_cons]; have := x.hd; simp only [Nd.view]; omega
theorem KeepsFrom.of_below {B : Nat} {W W' : World} (h : Below W.heap.size W W') : KeepsFrom B W W' := ⟨h.size, fun k _ _ hk _ => (h.block k (Array.getElem?_eq_some_iff.1 hk).1).trans hk⟩
theorem Keep.of_below {n₀ m₀ : Nat} {W W' : World} (hn : n₀ ≤ W.heap.size) (h : Below W.heap.size W W') : Keep n₀ m₀ W W' := ⟨h.mono hn, fun k _ _ hk _ => (h.block k (Array.getElem?_eq_some_iff.1 hk).1).trans hk⟩
theorem cells_of {W : World} {B : Nat} {c : Array Value} {ty : TypeId} {fr : Nat × Nat} (h : W.heap[B]? = some (.cells c ty fr)) (j : Nat) : W.cell? ⟨B, j, none⟩ = c[j]? := by
  unfold World.cell?; simp only [h]; rfl
theorem heap_set_other (W : World) (B k : Nat) (v : Value) (h : k ≠ B) : (W.setCell ⟨B, 0, none⟩ v).heap[k]? = W.heap[k]? := Below.heap_setCell W _ v k h
theorem ChkMem.setR {w W : World} {c : Array Value} {rv sz dp : Int} (h : ChkMem w W c rv sz dp) (v : Int) : ChkMem w (W.setCell ⟨w.heap.size + 1, 0, none⟩ (.int .i64 v)) c v sz dp :=
  ⟨(heap_set_other _ _ _ _ (by omega)).trans h.tb, h.rb.set _, (heap_set_other _ _ _ _ (by omega)).trans h.sb, (heap_set_other _ _ _ _ (by omega)).trans h.db, h.bl.setCell (p := ⟨w.heap.size + 1, 0, none⟩) (by simp) _⟩
theorem ChkMem.setS {w W : World} {c : Array Value} {rv sz dp : Int} (h : ChkMem w W c rv sz dp) (v : Int) : ChkMem w (W.setCell ⟨w.heap.size + 1 + 1, 0, none⟩ (.int .i64 v)) c rv v dp :=
  ⟨(heap_set_other _ _ _ _ (by omega)).trans h.tb, (heap_set_other _ _ _ _ (by omega)).trans h.rb, h.sb.set _, (heap_set_other _ _ _ _ (by omega)).trans h.db, h.bl.setCell (p := ⟨w.heap.size + 1 + 1, 0, none⟩) (by simp; omega) _⟩
theorem ChkMem.setD {w W : World} {c : Array Value} {rv sz dp : Int} (h : ChkMem w W c rv sz dp) (v : Int) : ChkMem w (W.setCell ⟨w.heap.size + 1 + 1 + 1, 0, none⟩ (.int .i64 v)) c rv sz v :=
  ⟨(heap_set_other _ _ _ _ (by omega)).trans h.tb, (heap_set_other _ _ _ _ (by omega)).trans h.rb, (heap_set_other _ _ _ _ (by omega)).trans h.sb, h.db.set _, h.bl.setCell (p := ⟨w.heap.size + 1 + 1 + 1, 0, none⟩) (by simp; omega) _⟩

theorem Tm.nodesL_mem {l : List Tm} {d : Nat} {v : View} (h : v ∈ Tm.nodesL d l) : ∃ u ∈ l, v ∈ u.nodes d := by
  induction l with
  | nil => simp [Tm.nodesL] at h
  | cons x l ih =>
    simp only [Tm.nodesL, List.mem_append] at h
    rcases h with h | h
    · exact ⟨x, by simp, h⟩
    · obtain ⟨u, hu, h⟩ := ih h
      exact ⟨u, by simp [hu], h⟩
theorem Tm.AllOk.views {t : Tm} (h : t.AllOk) : ∀ d, ∀ v ∈ t.nodes d, viewOk v = true := by
  induction t using Tm.ind with
  | h t ih =>
    intro d v hv
    rw [Tm.nodes_eq] at hv
    rcases List.mem_cons.1 hv with rfl | hv
    · exact h.node
    · obtain ⟨x, hx, hv⟩ := Tm.nodesL_mem hv
      exact ih x hx (h.kids x hx) (d + 1) v hv
theorem Tm.AllOk.formed {t : Tm} (h : t.AllOk) : t.formed := fun v hv => h.views 1 v hv
/-- the error of a term: which of the two errors of a term that is neither formed nor small is left open -/
def Tm.err (t : Tm) (c : Int) : Prop := (c = 0 ↔ t.ok) ∧ (t.AllOk → ¬ t.ok → c = 3) ∧ (¬ t.formed → t.size ≤ 4000 → c = 4)
set_option maxRecDepth 100000 in
set_option maxHeartbeats 4000000 in
theorem check_full (t : Tm) (s : Value) (w : World) (hs : SlIs w.heap.size w t.ts s) (hb : t.bulk ≤ 1048576) :
    Calls Tryz.prog 97 #[tmv t s] w fun e w' => (∃ c : Int, e = .returned (.int .i64 c) ∧ t.err c) ∧ Below w.heap.size w w' := by
  obtain ⟨oa, cap, rfl, -⟩ := hs.form
  have hsz := Tm.size_bulk t
  refine (callsIn_wide (n := 3)).1 ?_
  refine callsIn_of_wp_marks Tryz.func97 rfl trivial ?_ rfl
  simp only [Tryz.ntmps97, List.size_toArray, List.length_cons, List.length_nil, Nat.reduceAdd, Nat.reduceSub, Array.replicate_succ, Array.replicate_zero, List.push_toArray, List.append_toArray, List.nil_append, List.cons_append]
  gi_wp2_with (refine ⟨trivial, ?_⟩; gi_at_call 166; refine (nodes_in Fence.wide _ trivial rfl _ _ _ _ _).mono ?_; rintro e w' ⟨rfl, rfl⟩)
  have hB0 : Below w.heap.size w (((((w.alloc (.cells #[.string t.nm, .bool t.vr, .slice oa t.ts.length cap] 25)).alloc (.cells #[.int .i64 0] 29)).alloc (.cells #[.int .i64 0] 3)).alloc (.cells #[.int .i64 0] 3)).alloc (.cells #[.string t.nm, .bool t.vr, .slice oa t.ts.length cap] 25)) := by go_grown
  have hM0 : ChkMem w (((((w.alloc (.cells #[.string t.nm, .bool t.vr, .slice oa t.ts.length cap] 25)).alloc (.cells #[.int .i64 0] 29)).alloc (.cells #[.int .i64 0] 3)).alloc (.cells #[.int .i64 0] 3)).alloc (.cells #[.string t.nm, .bool t.vr, .slice oa t.ts.length cap] 25)) #[.string t.nm, .bool t.vr, .slice oa t.ts.length cap] 0 0 0 := by
    refine ⟨?_, ((boxed_at _ _ _ _ (by simp)).alloc _).alloc _ |>.alloc _, ((boxed_at _ _ _ _ (by simp)).alloc _).alloc _, (boxed_at _ _ _ _ (by simp)).alloc _, hB0⟩
    rw [Below.heap_alloc _ _ _ (by simp; omega), Below.heap_alloc _ _ _ (by simp; omega), Below.heap_alloc _ _ _ (by simp; omega), Below.heap_alloc _ _ _ (by simp)]
    exact World.alloc_heap_new w _
  refine wpIn_rangeFunc_ownH rfl (by omega) (gf := 222) (lb := #[.pointer (some ⟨w.heap.size + 1 + 1 + 1 + 1, 0, none⟩)]) rfl trivial (enters_of Tryz.func222 (by kernel_rfl) rfl)
    (nodes_stops Fence.wide rfl _ trivial trivial rfl (w.heap.size + 1 + 1 + 1 + 1) w.heap.size t _ _ (by simp) (by simp; omega) (cell_new_at _ _ _ _ _ (by simp)) (cell_new_at _ _ _ _ _ (by simp)) (cell_new_at _ _ _ _ _ (by simp)) (hs.carry hB0 (Nat.le_refl _)) hb)
    (fun h k => h.trans k) (Keep.put (by simp; omega)) (Below.refl _ _) (fun _ => rfl)
    (fun pre W => ChkMem w W #[.string t.nm, .bool t.vr, .slice oa t.ts.length cap] 0 (pre.length : Int) (dmax (pre.map Nd.view) : Int) ∧ (∀ x ∈ pre, viewOk x.view = true) ∧ pre.length ≤ 4000)
    (fun c pre W => (c = .ret ∧ (∃ x ∈ pre, viewOk x.view = false) ∧ ∃ sz dp, ChkMem w W #[.string t.nm, .bool t.vr, .slice oa t.ts.length cap] 4 sz dp) ∨
      (c = .exit 0 ∧ pre.length = 4001 ∧ ∃ dp, ChkMem w W #[.string t.nm, .bool t.vr, .slice oa t.ts.length cap] 0 4001 dp))
    (fun s A B row h hg hr => ⟨h.1.kept hg (fun r e => ⟨by have := (hr r e).1; simp at this; omega, (hr r e).2⟩), h.2⟩)
    (fun c s A B row h hg hr => h.elim (fun ⟨h1, h2, sz, dp, h3⟩ => .inl ⟨h1, h2, sz, dp, h3.kept hg (fun r e => ⟨by have := (hr r e).1; simp at this; omega, (hr r e).2⟩)⟩)
      (fun ⟨h1, h2, dp, h3⟩ => .inr ⟨h1, h2, dp, h3.kept hg (fun r e => ⟨by have := (hr r e).1; simp at this; omega, (hr r e).2⟩)⟩))
    ⟨hM0, by simp, by simp⟩
    (fun x a' W => ∃ B, w.heap.size + 1 + 1 + 1 < B ∧ W.heap[B]? = some (.cells #[.string x.nm, .bool x.vr, .slice x.oa x.n x.cap] 25 (0, 0)) ∧
      a' = { tmps := #[tmv t (.slice oa t.ts.length cap), .pointer (some ⟨w.heap.size, 0, none⟩), .pointer (some ⟨w.heap.size + 1, 0, none⟩), .pointer (some ⟨w.heap.size + 1 + 1, 0, none⟩), .pointer (some ⟨w.heap.size + 1 + 1 + 1, 0, none⟩), .int .i64 x.d, .pointer (some ⟨B, 0, none⟩),
        tmv t (.slice oa t.ts.length cap), .func (.func 222) #[] #[.pointer (some ⟨w.heap.size + 1 + 1 + 1 + 1, 0, none⟩)], .int .i64 x.d, .agg #[.string x.nm, .bool x.vr, .slice x.oa x.n x.cap], undef, undef, undef, undef, undef, undef, undef, undef, undef, undef, undef, undef, undef, undef, undef, undef, undef, undef, undef, undef, undef, undef], defers := [] })
    (fun x a' s A B row ⟨b, h1, h2, h3⟩ hg hr => ⟨b, h1, held_kept h2 hg (fun r e => (hr r e).2), h3⟩) ?assign ?body ?done ?stop
  case assign =>
    rintro l pre x W K ⟨hM, hp, hl⟩ hK
    simp only [Nd.encs]
    simp only [Array.zip]
    gi_wp2
    refine hK _ _ ((KeepsOthers.alloc _ _).from _) ((Keep.refl _ _ _).alloc (by have := hM.bl.size; omega) _) ⟨hM.kept (World.grownBy_alloc W _ none) (fun r e => by cases e), hp, hl⟩ ⟨W.heap.size, by have := hM.db.lt; omega, World.alloc_heap_new W _, rfl⟩
  case body =>
    rintro l pre x a' W hl ⟨r, hr⟩ ⟨hM, hp, hlen⟩ ⟨B, hB, hX, rfl⟩ hlt
    have b0 := cells_of hX 0
    have b1 := cells_of hX 1
    have b2 := cells_of hX 2
    simp only [List.getElem?_toArray, List.getElem?_cons_zero, List.getElem?_cons_succ] at b0 b1 b2
    have hxn := x.hnm
    have hxa := x.hn
    have hBlt : B < W.heap.size := (Array.getElem?_eq_some_iff.1 hX).1
    have HM := Lib.hid hM
    have HP := Lib.hid hp
    have HX := Lib.hid hX
    clear hM hp hX hr
    gi_wp2_with fail
    refine ⟨trivial, (CallsIn.inRound l (callsIn_wide.2 (isFormed_any x.nm x.vr x.oa x.n x.cap _ hxn hxa))).mono ?_⟩
    rintro e W2 ⟨rfl, hb2⟩
    have HM2 := Lib.hid (HM.out.below hb2)
    have rc := HM2.out.rb.cell
    have rf := HM2.out.rb.frozen
    have sc := HM2.out.sb.cell
    have sf := HM2.out.sb.frozen
    have dc := HM2.out.db.cell
    have df := HM2.out.db.frozen
    have hxd := x.hd
    have HB2 := Lib.hid hb2
    have hdm : dmax (pre.map Nd.view) ≤ 2097152 := dmax_nd pre
    clear hb2
    have hv : viewOk x.view = nodeOk x.nm x.vr x.n := rfl
    cases hno : nodeOk x.nm x.vr x.n
    · rw [hno] at hv
      have HV := Lib.hid hv
      clear hno hv
      gi_wp2
      exact ⟨(KeepsFrom.of_below HB2.out).trans ((KeepsOthers.setCell _ _ _).from _), .inl ⟨rfl, ⟨x, by simp, HV.out⟩, _, _, HM2.out.setR 4⟩⟩
    · rw [hno] at hv
      have HV := Lib.hid hv
      clear hno hv
      have e1 := Lib.hid (show (((pre ++ [x]).length : Nat) : Int) = (pre.length : Int) + 1 by simp)
      have e2 := Lib.hid (show ((dmax ((pre ++ [x]).map Nd.view) : Nat) : Int) = max (dmax (pre.map Nd.view) : Int) (x.d : Int) by
        rw [List.map_append, List.map_singleton, dmax_snoc]; show ((max (dmax (pre.map Nd.view)) x.d : Nat) : Int) = _; omega)
      have hMz := HM2.out.bl.size
      by_cases h4 : pre.length < 4000
      · gi_wp2
        refine ⟨((KeepsFrom.of_below HB2.out).trans ((KeepsOthers.setCell _ _ _).from _)).trans ((KeepsOthers.setCell _ _ _).from _),
          ((Keep.of_below (by have := HM.out.bl.size; omega) HB2.out).trans (Keep.setCell _ (by simp; omega) (by simp) _)).trans (Keep.setCell _ (by simp; omega) (by simp) _), ?_, ?_, by simp; omega⟩
        · rw [e1.out, e2.out]
          exact (HM2.out.setS _).setD _
        · intro y hy
          rcases List.mem_append.1 hy with h | h
          · exact HP.out y h
          · obtain rfl : y = x := by simpa using h
            exact HV.out
      · have h5 : pre.length = 4000 := by omega
        rw [h5] at sc
        gi_wp2
        exact ⟨((KeepsFrom.of_below HB2.out).trans ((KeepsOthers.setCell _ _ _).from _)).trans ((KeepsOthers.setCell _ _ _).from _), .inr ⟨rfl, by simp; omega, _, (HM2.out.setS _).setD _⟩⟩
  case done =>
    rintro D ys W hD hys ⟨hM, hp, hlen⟩ hK
    have rc := hM.rb.cell
    have rf := hM.rb.frozen
    have hl : ys.length = t.size := by have h := congrArg List.length hys; rwa [List.length_map, Tm.nodes_length] at h
    have hd : dmax (ys.map Nd.view) = t.depth := by rw [hys]; have h := dmax_nodes t 1; omega
    have hform : t.formed := fun v hv => by
      rw [← hys] at hv
      obtain ⟨x, hx, rfl⟩ := List.mem_map.1 hv
      exact hp x hx
    rw [hl, hd] at hM
    rw [hl] at hlen
    have sc := hM.sb.cell
    have dc := hM.db.cell
    have HM := Lib.hid hM
    have HF := Lib.hid hform
    clear hM hp hys hl hd hform
    by_cases h2 : t.depth ≤ 200
    · gi_wp2
      refine ⟨trivial, ?_⟩
      gi_wp2
      have hK' := (KeepsOthers.setCell W ⟨w.heap.size + 1, 0, none⟩ (.int .i64 0)).same D _ hK rfl
      have HM' := HM.out.setR 0
      refine ⟨by simp, .inl ⟨_, _, rfl, run_takeDeferred hK', ?_⟩⟩
      have hc5 := cell_kept HM'.rb.cell (grownBy_putObj' _ D (.deferred none)) (fun r e => by cases e; exact ⟨_, hK', rfl⟩)
      refine ⟨.int .i64 0, ?_, ⟨0, rfl, ⟨fun _ => ⟨HF.out, hlen, h2⟩, fun _ => rfl⟩, fun _ h => absurd ⟨HF.out, hlen, h2⟩ h, fun h => absurd HF.out h⟩, HM'.bl.trans (belowK_b (w := w) (Nat.le_refl _) _ D _ _ (by simp at hD; omega) hK' rfl rfl)⟩
      simp [results, Tryz.f97, go_sem, hc5]
    · gi_wp2
      refine ⟨trivial, ?_⟩
      gi_wp2
      have hK' := (KeepsOthers.setCell W ⟨w.heap.size + 1, 0, none⟩ (.int .i64 3)).same D _ hK rfl
      have HM' := HM.out.setR 3
      refine ⟨by simp, .inl ⟨_, _, rfl, run_takeDeferred hK', ?_⟩⟩
      have hc5 := cell_kept HM'.rb.cell (grownBy_putObj' _ D (.deferred none)) (fun r e => by cases e; exact ⟨_, hK', rfl⟩)
      refine ⟨.int .i64 3, ?_, ⟨3, rfl, ⟨fun h => by omega, fun h => absurd h.2.2 h2⟩, fun _ _ => rfl, fun h => absurd HF.out h⟩, HM'.bl.trans (belowK_b (w := w) (Nat.le_refl _) _ D _ _ (by simp at hD; omega) hK' rfl rfl)⟩
      simp [results, Tryz.f97, go_sem, hc5]
  case stop =>
    rintro D c pre W hD hpre hx hK
    rcases hx with ⟨rfl, ⟨x, hxm, hxv⟩, sz, dp, hM⟩ | ⟨rfl, hlen, dp, hM⟩
    · have rc := hM.rb.cell
      have hnf : ¬ t.formed := fun h => by
        have := h x.view (hpre.subset (List.mem_map.2 ⟨x, hxm, rfl⟩))
        rw [hxv] at this; cases this
      have HM := Lib.hid hM
      have HF := Lib.hid hnf
      clear hM hpre hnf
      gi_wp2
      refine ⟨by simp, .inl ⟨_, _, rfl, run_takeDeferred hK, ?_⟩⟩
      have hc5 := cell_kept rc (grownBy_putObj' _ D (.deferred none)) (fun r e => by cases e; exact ⟨_, hK, rfl⟩)
      refine ⟨.int .i64 4, ?_, ⟨4, rfl, ⟨fun h => by omega, fun h => absurd h.1 HF.out⟩, fun h => absurd h.formed HF.out, fun _ _ => rfl⟩, HM.out.bl.trans (belowK_b (w := w) (Nat.le_refl _) _ D _ _ (by simp at hD; omega) hK rfl rfl)⟩
      simp [results, Tryz.f97, go_sem, hc5]
    · have hnz : 4000 < t.size := by
        have := hpre.length_le
        rw [List.length_map, Tm.nodes_length] at this
        omega
      have hsW : SlIs W.heap.size W t.ts (.slice oa t.ts.length cap) := hs.carry hM.bl hM.bl.size
      have rc := hM.rb.cell
      have rf := hM.rb.frozen
      have sc := hM.sb.cell
      have t0 := cells_of hM.tb 0
      have t1 := cells_of hM.tb 1
      have t2 := cells_of hM.tb 2
      simp only [List.getElem?_toArray, List.getElem?_cons_zero, List.getElem?_cons_succ] at t0 t1 t2
      have HM := Lib.hid hM
      have HS := Lib.hid hsW
      have HK := Lib.hid hK
      clear hM hpre hsW hK
      gi_wp2_with fail
      refine ⟨trivial, (callsIn_wide.2 (malformed_full t _ W hb HS.out)).mono ?_⟩
      rintro e W2 ⟨⟨b, rfl, hbf⟩, hb2⟩
      have HBF := Lib.hid hbf
      clear hbf
      have HM2 := Lib.hid (HM.out.below hb2)
      have HK2 := Lib.hid ((hb2.block D (Array.getElem?_eq_some_iff.1 HK.out).1).trans HK.out)
      have rc2 := HM2.out.rb.cell
      have rf2 := HM2.out.rb.frozen
      have sc2 := HM2.out.sb.cell
      clear hb2 rc rf sc t0 t1 t2
      cases b
      · gi_wp2
        have hK' := (KeepsOthers.setCell W2 ⟨w.heap.size + 1, 0, none⟩ (.int .i64 3)).same D _ HK2.out rfl
        have HM' := HM2.out.setR 3
        refine ⟨by simp, .inl ⟨_, _, rfl, run_takeDeferred hK', ?_⟩⟩
        have hc5 := cell_kept HM'.rb.cell (grownBy_putObj' _ D (.deferred none)) (fun r e => by cases e; exact ⟨_, hK', rfl⟩)
        refine ⟨.int .i64 3, ?_, ⟨3, rfl, ⟨fun h => by omega, fun h => by have := h.2.1; omega⟩, fun _ _ => rfl, fun _ h => by omega⟩, HM'.bl.trans (belowK_b (w := w) (Nat.le_refl _) _ D _ _ (by simp at hD; omega) hK' rfl rfl)⟩
        simp [results, Tryz.f97, go_sem, hc5]
      · gi_wp2
        have hK' := (KeepsOthers.setCell W2 ⟨w.heap.size + 1, 0, none⟩ (.int .i64 4)).same D _ HK2.out rfl
        have HM' := HM2.out.setR 4
        refine ⟨by simp, .inl ⟨_, _, rfl, run_takeDeferred hK', ?_⟩⟩
        have hc5 := cell_kept HM'.rb.cell (grownBy_putObj' _ D (.deferred none)) (fun r e => by cases e; exact ⟨_, hK', rfl⟩)
        refine ⟨.int .i64 4, ?_, ⟨4, rfl, ⟨fun h => by omega, fun h => by have := h.2.1; omega⟩, fun h _ => by have h1 := HBF.out h; simp at h1, fun _ h => by omega⟩, HM'.bl.trans (belowK_b (w := w) (Nat.le_refl _) _ D _ _ (by simp at hD; omega) hK' rfl rfl)⟩
        simp [results, Tryz.f97, go_sem, hc5]
theorem check_any (t : Tm) (s : Value) (w : World) (hs : SlIs w.heap.size w t.ts s) (hb : t.bulk ≤ 1048576) :
    Calls Tryz.prog 97 #[tmv t s] w fun e w' => (∃ c : Int, e = .returned (.int .i64 c) ∧ (c = 0 ↔ t.ok)) ∧ Below w.heap.size w w' :=
  (check_full t s w hs hb).mono fun _ _ ⟨⟨c, h, h1, _⟩, hb⟩ => ⟨⟨c, h, h1⟩, hb⟩
end Go.Proofs.YtamddagmlanijaaGreat
/- What is wanted of the reference's Check. -/
namespace Go.Proofs.YtamddagmlanijaaGreat
open Go.RowKit

end Go.Proofs.YtamddagmlanijaaGreat
