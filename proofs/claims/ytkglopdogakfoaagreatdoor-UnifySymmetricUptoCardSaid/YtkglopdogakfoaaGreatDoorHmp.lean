/- Maps of strings to values held as they are; a function that finds nothing: IndexFunc, ContainsFunc. The names that a solver speaks of. -/
import Derived.WalkKit
import Derived.ProofKit
import Derived.OpenShut
import Derived.Handy
import Derived.Lib.Hide
import Derived.Test.YtkglopdogakfoaaGreatDoorGo
namespace Go.Proofs.YtkglopdogakfoaaGreatDoor
open Go.RowKit Go.Maps

structure HInv {α : Type} (enc : α → Value) (D : DataW Value) (l : List (Key × α)) : Prop where
  tidy : Tidy D
  nodup : (l.map (·.1)).Nodup
  size : Maps.size D = l.length
  has : ∀ k, Maps.has D (.string k) = decide (k ∈ l.map (·.1))
  at_ : ∀ k v, getA l k = some v → ∀ z, D.atKey (.string k) z = .held (enc v)
def HMap {α : Type} (enc : α → Value) (W : World) (mb : Nat) (l : List (Key × α)) : Prop := ∃ D : DataW Value, W.ownsMap Tryz.prog 9 imgR mb l.length D ∧ HInv enc D l
section
variable {α : Type} {enc : α → Value}
theorem HMap.lt {W : World} {mb : Nat} {l : List (Key × α)} (h : HMap enc W mb l) : mb < W.heap.size := by obtain ⟨D, h, _⟩ := h; exact h.lt
theorem HMap.kept {mb : Nat} {A B : World} {l : List (Key × α)} (h : HMap enc A mb l) (hm : B.heap[mb]? = A.heap[mb]?) : HMap enc B mb l := by
  obtain ⟨D, ⟨es, cl, hes, h1⟩, h2⟩ := h
  exact ⟨D, ⟨es, cl, hm.trans hes, h1⟩, h2⟩
theorem HMap.nocell {mb : Nat} {A : World} {l : List (Key × α)} (h : HMap enc A mb l) : ∀ c t f, A.heap[mb]? ≠ some (Obj.cells c t f) := by
  obtain ⟨D, ⟨es, cl, hes, _⟩, _⟩ := h
  intro c t f e; rw [hes] at e; cases e
theorem HMap.nodup {mb : Nat} {A : World} {l : List (Key × α)} (h : HMap enc A mb l) : (l.map (·.1)).Nodup := by obtain ⟨D, _, h⟩ := h; exact h.nodup
theorem HMap.at {W : World} {mb : Nat} {l : List (Key × α)} (h : HMap enc W mb l) {k : Key} {v : α} (hk : getA l k = some v) :
    ∃ D : DataW Value, W.ownsMap Tryz.prog 9 imgR mb l.length D ∧ Maps.has D (.string k) = true ∧ (∀ z, D.atKey (.string k) z = .held (enc v)) := by
  obtain ⟨D, h1, h2⟩ := h
  exact ⟨D, h1, by rw [h2.has]; exact decide_eq_true (getA_mem.2 ⟨v, hk⟩), h2.at_ k v hk⟩
theorem HMap.no {W : World} {mb : Nat} {l : List (Key × α)} (h : HMap enc W mb l) {k : Key} (hk : getA l k = none) :
    ∃ D : DataW Value, W.ownsMap Tryz.prog 9 imgR mb l.length D ∧ Maps.has D (.string k) = false := by
  obtain ⟨D, h1, h2⟩ := h
  exact ⟨D, h1, by rw [h2.has]; exact decide_eq_false (getA_none.1 hk)⟩
theorem HInv.put {D : DataW Value} {l : List (Key × α)} (h : HInv enc D l) (k : Key) (v : α) : HInv enc (D.put (.string k) (.held (enc v))) (putA l k v) := by
  have hl : WideAt.IsKeyLit (.string k) := trivial
  have hks := putA_keys l k v
  refine ⟨h.tidy.put hl _, by rw [hks]; exact addKey_nodup h.nodup _, ?_, fun k' => ?_, fun k' t' hg z => ?_⟩
  · have h1 : (putA l k v).length = ((putA l k v).map (·.1)).length := by rw [List.length_map]
    rw [h1, hks, size_put h.tidy, h.has, h.size]
    unfold addKey
    by_cases e : k ∈ l.map (·.1)
    · simp only [e, decide_true, if_true, List.length_map]
    · simp only [e, decide_false, if_false, List.length_append, List.length_map]; simp
  · rw [hks]
    by_cases e : k' = k
    · subst e; rw [has_put_same h.tidy.isMap hl]; simp [addKey_mem]
    · rw [has_put_other (by simpa using e), h.has]
      unfold addKey
      split
      · rfl
      · simp [e]
  · rw [getA_put] at hg
    by_cases e : k' = k
    · subst e
      rw [if_pos rfl] at hg; cases hg
      exact atKey_put_same h.tidy.isMap hl _ z
    · rw [if_neg e] at hg
      rw [atKey_put_other (by simpa using e)]; exact h.at_ k' t' hg z
theorem HMap.store {W' : World} {mb : Nat} {l : List (Key × α)} {D : DataW Value} (hi : HInv enc D l) {k : Key} {v : α} {j : Nat} (ho : W'.ownsMap Tryz.prog 9 imgR mb j (D.put (.string k) (.held (enc v)))) : HMap enc W' mb (putA l k v) := by
  have h := hi.put k v
  exact ⟨_, ho.tight h.size, h⟩
theorem HMap.made (W : World) : HMap enc (W.alloc (.map #[] 0)) W.heap.size [] := ⟨_, World.ownsMap_made W _ _ _, tidy_empty, by simp, rfl, (fun k => by simp [Maps.has_eq]), fun k v h => by cases h⟩
end
section
variable (w : World) {ops : Array Oper} {rest : List Oper} {o : Oper} {a : Act} {Q : Exit → Act → World → Prop}
theorem hlook_hit (ty te : TypeId) (z0 : Value) (hty : Tryz.prog.underlying ty = some (.map 9 te)) (hz : (zeroValue te).run Tryz.prog w = .ok z0 w) (hg : o.guard = none) (m x : Operand) (hop : o.op = Op.lookup ty m x true) (b n : Nat) (D : DataW Value) (hm : a.eval m = .map (some b)) (hown : w.ownsMap Tryz.prog 9 imgR b n D)
    (key : Value) (kl : Lit) (hx : a.eval x = key) (hkey : keyOf Tryz.prog 9 key = some kl) (val : Value) (hat : ∀ z, D.atKey kl z = .held val) (hh : Maps.has D kl = true)
    (hK : wpList Tryz.prog ops Q rest (a.put o.dst (.tuple #[val, .bool true])) w) : wpList Tryz.prog ops Q (o :: rest) a w :=
  wpList_lookup_own_ok _ hg m x ty hop 9 te strKeyed hty imgR hz (.held z0) [] rfl b n D hm hown key kl hx hkey fun v ps hv => by
    rw [hat] at hv
    simp only [imgR, Option.some.injEq, Prod.mk.injEq, DataW.held.injEq] at hv
    obtain ⟨rfl, -⟩ := hv
    rw [hh]; exact hK
theorem hlook_miss (ty te : TypeId) (z0 : Value) (hty : Tryz.prog.underlying ty = some (.map 9 te)) (hz : (zeroValue te).run Tryz.prog w = .ok z0 w) (hg : o.guard = none) (m x : Operand) (hop : o.op = Op.lookup ty m x true) (b n : Nat) (D : DataW Value) (hm : a.eval m = .map (some b)) (hown : w.ownsMap Tryz.prog 9 imgR b n D)
    (key : Value) (kl : Lit) (hx : a.eval x = key) (hkey : keyOf Tryz.prog 9 key = some kl) (hh : Maps.has D kl = false)
    (hK : wpList Tryz.prog ops Q rest (a.put o.dst (.tuple #[z0, .bool false])) w) : wpList Tryz.prog ops Q (o :: rest) a w :=
  wpList_lookup_own_ok _ hg m x ty hop 9 te strKeyed hty imgR hz (.held z0) [] rfl b n D hm hown key kl hx hkey fun v ps hv => by
    rw [atKey_of_not_has hh] at hv
    simp only [imgR, Option.some.injEq, Prod.mk.injEq, DataW.held.injEq] at hv
    obtain ⟨rfl, -⟩ := hv
    rw [hh]; exact hK
end

/-- how a function that finds nothing ends -/
def NoPost (X : Nat → Prop) (I : World → Prop) (v : Value) (w : World) (e : Ending) (w' : World) : Prop := e = .returned v ∧ I w' ∧ FrX X w w'
set_option maxRecDepth 100000 in
set_option maxHeartbeats 2000000 in
theorem indexFunc_no (k : Nat) (cap : Array Value) (hcf : ∀ args w, (callFunc k args).run Tryz.prog w = .ok (.enter k args) w) (X : Nat → Prop) (I : World → Prop) (hI : ∀ A B, I A → Below A.heap.size A B → I B) (L : List Tm) (w : World)
    (HX : Hid (∀ W, I W → FrX X w W → KpC 0 w W))
    (HC : Hid (∀ u ∈ L, ∀ (su : Value) (W : World), I W → SlIs W.heap.size W u.ts su → Calls Tryz.prog k (#[tmv u su] ++ cap) W (NoPost X I (.bool false) W)))
    (o1 : Option Addr) (k1 : Nat) (hl : L.length ≤ 1048576) (h1 : SlIs w.heap.size w L (.slice o1 L.length k1)) (hS : I w) :
    Calls Tryz.prog 191 #[.slice o1 L.length k1, .func (.func k) #[] cap] w (NoPost X I (.int .i64 (-1)) w) := by
  have H1 := Lib.hid h1
  have HS := Lib.hid hS
  have HI := Lib.hid hI
  clear h1 hS hI
  go_enter Tryz.func191, Tryz.ntmps191
  go_wp2_with fail
  go_loopw [8] (fun i wr => ∃ j : Nat, j ≤ L.length ∧ i = .int .i64 j ∧ Hid (I wr) ∧ Hid (FrX X w wr)) (fun i _ => L.length - (intOf i).toNat)
  case atStart => exact ⟨0, by omega, rfl, HS, Lib.hid (FrX.refl _ _)⟩
  case round =>
    obtain ⟨j, hj, rfl, HS1, HF⟩ := hrel
    by_cases hlt : j < L.length
    · obtain ⟨b1, p1, u, su, rfl, hbb1, hu, hum, hus, c1, c2, c3⟩ := (H1.out.kp (HX.out _ HS1.out HF.out) HF.out.size).get hlt
      obtain ⟨ou, cu, rfl, -⟩ := hus.form
      have HCU := Lib.hid (HC.out u hum (.slice ou u.ts.length cu) wr HS1.out hus)
      clear hu hus
      go_wp2_with fail
      refine HCU.out.mono ?_
      rintro e w2 ⟨rfl, hi2, hk2⟩
      have HI2 := Lib.hid hi2
      have HK2 := Lib.hid (HF.out.trans hk2)
      clear hi2 hk2
      go_wp2_with fail
      exact ⟨⟨j + 1, by omega, by go_num, HI2, HK2⟩, by simp [intOf]; omega⟩
    · obtain rfl : j = L.length := by omega
      go_wp2_with fail
      go_ret
      exact ⟨rfl, HS1.out, HF.out⟩
set_option maxRecDepth 100000 in
set_option maxHeartbeats 2000000 in
theorem containsFunc_no (k : Nat) (cap : Array Value) (hcf : ∀ args w, (callFunc k args).run Tryz.prog w = .ok (.enter k args) w) (X : Nat → Prop) (I : World → Prop) (hI : ∀ A B, I A → Below A.heap.size A B → I B) (L : List Tm) (w : World)
    (HX : Hid (∀ W, I W → FrX X w W → KpC 0 w W))
    (HC : Hid (∀ u ∈ L, ∀ (su : Value) (W : World), I W → SlIs W.heap.size W u.ts su → Calls Tryz.prog k (#[tmv u su] ++ cap) W (NoPost X I (.bool false) W)))
    (o1 : Option Addr) (k1 : Nat) (hl : L.length ≤ 1048576) (h1 : SlIs w.heap.size w L (.slice o1 L.length k1)) (hS : I w) :
    Calls Tryz.prog 168 #[.slice o1 L.length k1, .func (.func k) #[] cap] w (NoPost X I (.bool false) w) := by
  have HIN := Lib.hid (indexFunc_no k cap hcf X I hI L w HX HC o1 k1 hl h1 hS)
  clear h1 hS hI hcf
  go_enter Tryz.func168, Tryz.ntmps168
  go_wp2_with fail
  refine HIN.out.mono ?_
  rintro e w2 ⟨rfl, hi2, hk2⟩
  have HI2 := Lib.hid hi2
  have HK2 := Lib.hid hk2
  clear hi2 hk2
  go_wp2_with fail
  go_ret
  exact ⟨rfl, HI2.out, HK2.out⟩

/-- the names that a solver speaks of, and what they stand for -/
def univ (S : Sv) : List Key := S.eq.map (·.1) ++ S.bd.map (·.1) ++ S.bd.flatMap fun p => p.2.ts.map fun t => t.nm.data.toList
def reps (S : Sv) : List Key := (univ S).map (repE S.eq)
theorem reps_len {S : Sv} (h : SvOk S) : (reps S).length ≤ S.eq.length + 9 * S.bd.length := by
  have key : ∀ l : List Bd, (∀ p ∈ l, p ∈ S.bd) → (l.flatMap fun p => p.2.ts.map fun t => t.nm.data.toList).length ≤ 8 * l.length := by
    intro l
    induction l with
    | nil => intro _; simp
    | cons p l ih =>
      intro hs
      have h1 := ih fun q hq => hs q (by simp [hq])
      obtain ⟨_, _, ks, h3, h4, _⟩ := h.flat p.1 p.2 (hs p (by simp))
      rw [List.flatMap_cons, List.length_append, List.length_map, List.length_cons, h3, List.length_map]
      omega
  have := key S.bd fun p hp => hp
  unfold reps univ
  rw [List.length_map, List.length_append, List.length_append, List.length_map, List.length_map]
  omega
theorem univ_arg {S : Sv} {x : Key} {t u : Tm} (h : getA S.bd x = some t) (hu : u ∈ t.ts) : u.nm.data.toList ∈ univ S := by
  unfold univ
  exact List.mem_append.2 (.inr (List.mem_flatMap.2 ⟨_, getA_some h, List.mem_map.2 ⟨u, hu, rfl⟩⟩))
theorem univ_bd {S : Sv} {x : Key} (h : x ∈ S.bd.map (·.1)) : x ∈ univ S := by
  unfold univ
  exact List.mem_append.2 (.inl (List.mem_append.2 (.inr h)))
theorem univ_eq {S : Sv} {x : Key} (h : x ∈ S.eq.map (·.1)) : x ∈ univ S := by
  unfold univ
  exact List.mem_append.2 (.inl (List.mem_append.2 (.inl h)))
/-- no name stands for a term that contains it: ranks go down -/
def Acy (S : Sv) (rk : Key → Nat) : Prop := ∀ x t, getA S.bd x = some t → repE S.eq x = x → ∀ u ∈ t.ts, rk (repE S.eq u.nm.data.toList) < rk x
theorem univ_len {S : Sv} (h : SvOk S) {u : Key} (hu : u ∈ univ S) : u.length ≤ 24 := by
  unfold univ at hu
  rcases List.mem_append.1 hu with hu | hu
  · rcases List.mem_append.1 hu with hu | hu
    · obtain ⟨p, hp, rfl⟩ := List.mem_map.1 hu
      exact (h.eqs p hp).1.1
    · rw [h.keys] at hu
      obtain ⟨i, _, rfl⟩ := List.mem_map.1 hu
      have := hname_len i; omega
  · obtain ⟨p, hp, hu⟩ := List.mem_flatMap.1 hu
    obtain ⟨t, ht, rfl⟩ := List.mem_map.1 hu
    obtain ⟨_, _, ks, h3, _, h5⟩ := h.flat p.1 p.2 hp
    rw [h3] at ht
    obtain ⟨a, ha, rfl⟩ := List.mem_map.1 ht
    exact (h5 a ha).1
theorem repE_len {S : Sv} (h : SvOk S) {u : Key} (hu : u.length ≤ 24) : (repE S.eq u).length ≤ 24 := by
  have key : ∀ (l : List (Key × Key)) (u : Key), (∀ p ∈ l, p ∈ S.eq) → u.length ≤ 24 → (l.foldl (fun r p => if r = p.1 then p.2 else r) u).length ≤ 24 := by
    intro l
    induction l with
    | nil => intro u _ hu; exact hu
    | cons p l ih =>
      intro u hs hu
      rw [List.foldl_cons]
      refine ih _ (fun q hq => hs q (by simp [hq])) ?_
      split
      · exact (h.eqs p (hs p (by simp))).2.1
      · exact hu
  exact key S.eq u (fun p hp => hp) hu
theorem repE_free {E : List (Key × Key)} {x : Key} (h : x ∉ E.map (·.1)) : repE E x = x := by
  unfold repE
  have key : ∀ l : List (Key × Key), (∀ p ∈ l, p ∈ E) → l.foldl (fun r p => if r = p.1 then p.2 else r) x = x := by
    intro l
    induction l with
    | nil => intro _; rfl
    | cons p l ih =>
      intro hs
      rw [List.foldl_cons, if_neg (fun e => h (by rw [e]; exact List.mem_map.2 ⟨p, hs p (by simp), rfl⟩))]
      exact ih fun q hq => hs q (by simp [hq])
  exact key E fun p hp => hp
end Go.Proofs.YtkglopdogakfoaaGreatDoor
