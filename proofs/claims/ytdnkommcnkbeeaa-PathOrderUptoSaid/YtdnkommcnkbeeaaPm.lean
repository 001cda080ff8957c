/- A map whose keys are pointers: it can be asked and written, whatever it answers. No program stands here. -/
import Derived.WalkKit
import Derived.MapKept
import Derived.LaidEql
import Derived.Deep.Draws
import Derived.Below
import Derived.OwnWalk
import Derived.RangeFuncOwn
import Derived.Test.YtdnkommcnkbeeaaTm
namespace Go.Proofs.Ytdnkommcnkbeeaa
open Go.RowKit

/-- a plain address: its block holds cells, and it is not frozen -/
def AddrOk (n₀ : Nat) (W : World) (a : Addr) : Prop := a.block < n₀ ∧ (∃ c t fr, W.heap[a.block]? = some (.cells c t fr)) ∧ W.frozen? a = false
theorem AddrOk.carry {n₀ : Nat} {A B : World} (h : Below n₀ A B) {a : Addr} (ha : AddrOk n₀ A a) : AddrOk n₀ B a := by
  obtain ⟨h1, ⟨c, t, fr, h2⟩, h3⟩ := ha
  exact ⟨h1, ⟨c, t, fr, (h.block _ h1).trans h2⟩, (h.frozen h1).trans h3⟩

/-- block M holds a map from plain addresses to numbers -/
def PMap (n₀ : Nat) (W : World) (M : Nat) : Prop := ∃ es clock, W.heap[M]? = some (.map es clock) ∧ ∀ e ∈ es.toList, (∃ a, e.key = .pointer (some a) ∧ AddrOk n₀ W a) ∧ ∃ n, e.val = .int .i64 n

theorem PMap.kept {n₀ M : Nat} {A B : World} (h : PMap n₀ A M) (hb : Below n₀ A B) (hM : B.heap[M]? = A.heap[M]?) : PMap n₀ B M := by
  obtain ⟨es, clock, h1, h2⟩ := h
  refine ⟨es, clock, hM.trans h1, fun e he => ?_⟩
  obtain ⟨⟨a, ha, hok⟩, hn⟩ := h2 e he
  exact ⟨⟨a, ha, hok.carry hb⟩, hn⟩

theorem World.drewN_zero' (w : World) : w.drewN 0 = w := rfl

section
variable {P : Program}

theorem run_sameAddr_any {n₀ : Nat} (w : World) {a b : Addr} (ha : AddrOk n₀ w a) (hb : AddrOk n₀ w b) : ∃ r k, (sameAddr a b).run P w = .ok r (w.drewN k) := by
  obtain ⟨_, ⟨ca, ta, fa, h1⟩, h2⟩ := ha
  obtain ⟨_, ⟨cb, tb, fb, h3⟩, h4⟩ := hb
  by_cases hbl : a.block = b.block
  · exact ⟨a == b, 0, by simp [sameAddr, hbl, World.drewN_zero']⟩
  · have hc : ∀ (q : Question), ∃ n k, (choose q).run P w = .ok n (w.drewN k) := fun q => by
      rw [run_choose_drew]
      split
      · exact ⟨0, 0, rfl⟩
      · exact ⟨_, 1, rfl⟩
    obtain ⟨n, k, hq⟩ := hc (.extern "sameAddr.stringBytes" 2)
    have hm : ∃ m, (mayBeOne a b).run P w = .ok m w := by
      simp [mayBeOne, stringish, h2, h4, World.shape?, h1, h3]
    obtain ⟨m, hm⟩ := hm
    cases m
    · exact ⟨false, 0, by simp [sameAddr, hbl, h2, noView, viewAt, World.shape?, h1, h3, hm, World.drewN_zero']⟩
    · exact ⟨n == 1, k, by simp [-run_choose_drew, -run_choose, sameAddr, hbl, h2, noView, viewAt, World.shape?, h1, h3, hm, hq, Result.andThen]⟩

theorem run_equal_any {n₀ : Nat} (w : World) {tp te : TypeId} {j : TypeInfo} (hp : P.underlying tp = some (.pointer te)) (hte : P.info? te = some j) (hsz : j.size ≠ 0) {a b : Addr} (ha : AddrOk n₀ w a) (hb : AddrOk n₀ w b) :
    ∃ r k, (Op.equal tp (.pointer (some a)) (.pointer (some b))).run P w = .ok r (w.drewN k) := by
  obtain ⟨r, k, h⟩ := run_sameAddr_any (P := P) w ha hb
  have h1 : ∀ d : Nat, (Op.equalIn (d + 1) tp (.pointer (some a)) (.pointer (some b))).run P w = .ok r (w.drewN k) := fun d => by
    simp [Op.equalIn, run_underlying hp, sizeOf, typeInfo, hte, hsz, h]
  exact ⟨r, k, by simp [Op.equal, Op.maxDepth, h1 9999]⟩

theorem run_findAsking_any {n₀ : Nat} {tp te : TypeId} {j : TypeInfo} (hp : P.underlying tp = some (.pointer te)) (hte : P.info? te = some j) (hsz : j.size ≠ 0) {a : Addr} (es : List MapEntry) :
    ∀ (w : World) (i : Nat), AddrOk n₀ w a → (∀ e ∈ es, (∃ b, e.key = .pointer (some b) ∧ AddrOk n₀ w b) ∧ ∃ n, e.val = .int .i64 n) →
    ∃ r k, (Instr.findAsking tp (.pointer (some a)) es i).run P w = .ok r (w.drewN k) ∧ ∀ m v, r = some (m, v) → (∃ n, v = .int .i64 n) := by
  induction es with
  | nil => exact fun w i _ _ => ⟨none, 0, by simp [Instr.findAsking, World.drewN_zero'], fun m v h => by cases h⟩
  | cons e es ih =>
    intro w i ha hes
    obtain ⟨⟨b, hb, hbok⟩, n, hn⟩ := hes e (by simp)
    obtain ⟨r, k, hr⟩ := run_equal_any w hp hte hsz ha hbok
    have hw : ∀ x : Addr, AddrOk n₀ w x → AddrOk n₀ (w.drewN k) x := fun x h => h
    cases r
    · obtain ⟨r', k', hr', hv⟩ := ih (w.drewN k) (i + 1) (hw _ ha) (fun e he => by
        obtain ⟨⟨b, h1, h2⟩, h3⟩ := hes e (by simp [he])
        exact ⟨⟨b, h1, hw _ h2⟩, h3⟩)
      exact ⟨r', k + k', by simp [Instr.findAsking, hb, hr, hr', Result.andThen, World.drewN_drewN], hv⟩
    · exact ⟨some (i, e.val), k, by simp [Instr.findAsking, hb, hr, Result.andThen], fun m v h => by cases h; exact ⟨n, hn⟩⟩

theorem run_findKey_any {n₀ : Nat} {tp te : TypeId} {j : TypeInfo} (hp : P.underlying tp = some (.pointer te)) (hte : P.info? te = some j) (hsz : j.size ≠ 0) {a : Addr} (es : List MapEntry) (w : World) (ha : AddrOk n₀ w a)
    (hes : ∀ e ∈ es, (∃ b, e.key = .pointer (some b) ∧ AddrOk n₀ w b) ∧ ∃ n, e.val = .int .i64 n) :
    ∃ r k, (Instr.findKey tp (.pointer (some a)) es).run P w = .ok r (w.drewN k) ∧ ∀ m v, r = some (m, v) → (∃ n, v = .int .i64 n) := by
  cases es with
  | nil => exact ⟨none, 0, by simp [Instr.findKey, run_underlying hp, Instr.findNow, World.drewN_zero'], fun m v h => by cases h⟩
  | cons e es =>
    obtain ⟨r, k, h, hv⟩ := run_findAsking_any hp hte hsz (e :: es) w 0 ha hes
    exact ⟨r, k, by simp [Instr.findKey, run_underlying hp, Instr.findNow, Instr.sameNow, h], hv⟩

theorem run_checkKey_ptr {w : World} {tp te : TypeId} (hp : P.underlying tp = some (.pointer te)) (a : Addr) (e : Bool) (n : Nat) : (Instr.checkKey e (n + 1) tp (.pointer (some a))).run P w = .ok () w := by
  simp [Instr.checkKey, run_underlying hp]

/-- IT MAY BE ASKED: some number comes back. -/
theorem PMap.lookup {n₀ M : Nat} {w : World} {t tp te ti : TypeId} {j : TypeInfo} (h : PMap n₀ w M) (ht : P.underlying t = some (.map tp ti)) (hp : P.underlying tp = some (.pointer te)) (hte : P.info? te = some j) (hsz : j.size ≠ 0)
    (hz : ∀ w : World, (zeroValue ti).run P w = .ok (.int .i64 0) w) {a : Addr} (ha : AddrOk n₀ w a) :
    ∃ n k, (Instr.lookup t (.map (some M)) (.pointer (some a)) false).run P w = .ok (.int .i64 n) (w.drewN k) := by
  obtain ⟨es, clock, h1, h2⟩ := h
  obtain ⟨r, k, hr, hv⟩ := run_findKey_any hp hte hsz es.toList w ha h2
  have hck : ∀ e, (Instr.checkKey e 10000 tp (.pointer (some a))).run P w = .ok () w := fun e => run_checkKey_ptr hp a e 9999
  cases r with
  | none => exact ⟨0, k, by simp [Instr.lookup, run_underlying ht, MapKept.run_getObj_map h1, hck, hr, hz, Result.andThen]⟩
  | some x =>
    obtain ⟨m, v⟩ := x
    obtain ⟨n, rfl⟩ := hv m v rfl
    exact ⟨n, k, by simp [Instr.lookup, run_underlying ht, MapKept.run_getObj_map h1, hck, hr, Result.andThen]⟩

/-- IT MAY BE WRITTEN. -/
theorem PMap.update {n₀ M : Nat} {w : World} {t tp te ti : TypeId} {j : TypeInfo} (h : PMap n₀ w M) (hM : n₀ ≤ M) (ht : P.underlying t = some (.map tp ti)) (hp : P.underlying tp = some (.pointer te)) (hte : P.info? te = some j) (hsz : j.size ≠ 0)
    {a : Addr} (ha : AddrOk n₀ w a) (n : Int) :
    ∃ w', (Instr.mapUpdate t (.map (some M)) (.pointer (some a)) (.int .i64 n)).run P w = .ok () w' ∧ PMap n₀ w' M ∧ w.grownBy w' (some M) := by
  obtain ⟨es, clock, h1, h2⟩ := h
  obtain ⟨r, k, hr, hv⟩ := run_findKey_any hp hte hsz es.toList w ha h2
  have hck : ∀ e, (Instr.checkKey e 10000 tp (.pointer (some a))).run P w = .ok () w := fun e => run_checkKey_ptr hp a e 9999
  have hst : ∀ (v : Value), ∃ m : Nat, ∃ r, (Instr.keyThatStays v (.pointer (some a))).run P (w.drewN k) = .ok r ((w.drewN k).drewN m) ∧ (r = v ∨ r = .pointer (some a)) := fun v => by
    unfold Instr.keyThatStays
    by_cases hs : Instr.sameBits 10000 v (.pointer (some a)) = true
    · exact ⟨0, _, by simp only [hs, if_true]; rfl, .inr rfl⟩
    · have hc : ∃ n m, (choose (.extern "map.whichKeyStays" 2)).run P (w.drewN k) = .ok n ((w.drewN k).drewN m) := by
        rw [run_choose_drew]
        split
        · exact ⟨0, 0, rfl⟩
        · exact ⟨_, 1, rfl⟩
      obtain ⟨n, m, hq⟩ := hc
      refine ⟨m, if n = 0 then .pointer (some a) else v, ?_, ?_⟩
      · rw [if_neg hs]
        simp [-run_choose_drew, -run_choose, hq, Result.andThen]
      · split
        · exact .inr rfl
        · exact .inl rfl
  have hset : ∀ (o : Obj) (m : Nat), (setObj M o).run P (w.drewN m) = .ok () ((w.drewN m).putObj M o) := fun o m => MapKept.run_setObj_map o (w := w.drewN m) h1
  have hlt : M < w.heap.size := (Array.getElem?_eq_some_iff.1 h1).1
  have hkeep : ∀ m (o : Obj) (b : Addr), AddrOk n₀ w b → AddrOk n₀ ((w.drewN m).putObj M o) b := fun m o b ⟨hb1, ⟨c, t, fr, hb2⟩, hb3⟩ => by
    have hne : ((w.drewN m).putObj M o).heap[b.block]? = w.heap[b.block]? := World.putObj_heap_other (w := w.drewN m) (by omega)
    refine ⟨hb1, ⟨c, t, fr, hne.trans hb2⟩, ?_⟩
    have h4 : ((w.drewN m).putObj M o).frozen? b = w.frozen? b := by unfold World.frozen?; rw [hne]
    exact h4.trans hb3
  have hgr : ∀ m (o : Obj), w.grownBy ((w.drewN m).putObj M o) (some M) := fun m o => ⟨rfl, rfl, rfl, by simp [World.putObj], fun i _ hi => World.putObj_heap_other (w := w.drewN m) (fun e => hi (by rw [e]))⟩
  cases r with
  | none =>
    refine ⟨(w.drewN k).putObj M (.map (es.push ⟨.pointer (some a), .int .i64 n, clock⟩) (clock + 1)), ?_, ⟨_, _, World.putObj_heap_same (w := w.drewN k) hlt, ?_⟩, hgr _ _⟩
    · simp [Instr.mapUpdate, run_underlying ht, MapKept.run_getObj_map h1, hck, hr, hset, Result.andThen]
    · intro e he
      rw [Array.toList_push, List.mem_append, List.mem_singleton] at he
      rcases he with he | rfl
      · obtain ⟨⟨b, hb1, hb2⟩, hn⟩ := h2 e he
        exact ⟨⟨b, hb1, hkeep _ _ _ hb2⟩, hn⟩
      · exact ⟨⟨a, rfl, hkeep _ _ _ ha⟩, n, rfl⟩
  | some x =>
    obtain ⟨i, v⟩ := x
    obtain ⟨m, r, hk, hro⟩ := hst (((es[i]?).map (·.key)).getD (.pointer (some a)))
    refine ⟨(w.drewN (k + m)).putObj M (.map (es.modify i fun e => { e with key := r, val := .int .i64 n }) clock), ?_, ⟨_, _, World.putObj_heap_same (w := w.drewN (k + m)) hlt, ?_⟩, hgr _ _⟩
    · simp [Instr.mapUpdate, run_underlying ht, MapKept.run_getObj_map h1, hck, hr, hk, hset, Result.andThen]
    · intro e he
      obtain ⟨q, hq⟩ := List.mem_iff_getElem?.1 he
      rw [Array.getElem?_toList, Array.getElem?_modify] at hq
      by_cases e1 : i = q
      · subst e1
        rw [if_pos rfl] at hq
        cases h5 : es[i]? with
        | none => rw [h5] at hq; cases hq
        | some e0 =>
          rw [h5] at hq hro
          have he0 : e0 ∈ es.toList := by rw [List.mem_iff_getElem?]; exact ⟨i, by rw [Array.getElem?_toList]; exact h5⟩
          obtain ⟨⟨b, hb1, hb2⟩, _⟩ := h2 e0 he0
          simp only [Option.map_some, Option.some.injEq] at hq
          subst hq
          simp only [Option.map_some, Option.getD_some] at hro
          rcases hro with rfl | rfl
          · exact ⟨⟨b, hb1, hkeep _ _ _ hb2⟩, n, rfl⟩
          · exact ⟨⟨a, rfl, hkeep _ _ _ ha⟩, n, rfl⟩
      · rw [if_neg e1] at hq
        have he0 : e ∈ es.toList := by rw [List.mem_iff_getElem?]; exact ⟨q, by rw [Array.getElem?_toList]; exact hq⟩
        obtain ⟨⟨b, hb1, hb2⟩, hn⟩ := h2 e he0
        exact ⟨⟨b, hb1, hkeep _ _ _ hb2⟩, hn⟩
end
end Go.Proofs.Ytdnkommcnkbeeaa
