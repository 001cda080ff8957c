/- Packed: Rsy. -/
import Derived.WalkKit
import Derived.ProofKit
import Derived.OpenShut
import Derived.Handy
import Derived.Lib.Hide
import Derived.Deep.DeepCutAuto
import Derived.Deep.CutBlock
import Derived.Test.YtnomppdmhgefiaaGreatS07
import Derived.Test.YtnomppdmhgefiaaGreatS10
import Derived.BigQuiet
import Derived.Test.YtnomppdmhgefiaaGreatS12
import Derived.Test.YtnomppdmhgefiaaGreatS14
import Derived.Test.YtnomppdmhgefiaaGreatS15
/- The reference's symbols: the symbols of a term, in order. -/
namespace Go.Proofs.YtnomppdmhgefiaaGreat
open Go.RowKit Go.Maps

/-- a nil slice is empty, an address is one of the heap's own -/
def SyN (v : Value) : Prop := (∀ m k, v = .slice none m k → m = 0 ∧ k = 0) ∧ ∀ a m k, v = .slice (some a) m k → a.spot = none
/-- a term's symbols stand in S, none is marked -/
def SyAll (S : List Sy) (V : List View) : Prop := ∀ v ∈ V, v.2.2.1 = false → marked v.2.1 = false ∧ (v.2.1.data.toList, (v.2.2.2 : Int)) ∈ S
def SyOrd (S : List Sy) : Prop := (S.map Prod.fst).Pairwise (· < ·)
theorem SyAll.mono {S S' : List Sy} {V : List View} (h : SyAll S V) (hs : ∀ p ∈ S, p ∈ S') : SyAll S' V := fun v hv e => ⟨(h v hv e).1, hs _ (h v hv e).2⟩
theorem SyAll.append {S : List Sy} {V V' : List View} (h : SyAll S V) (h' : SyAll S V') : SyAll S (V ++ V') := fun v hv e => (List.mem_append.1 hv).elim (fun k => h v k e) fun k => h' v k e
theorem SyOrd.uniq {S : List Sy} (h : SyOrd S) {k : Key} {m n : Int} (h1 : (k, m) ∈ S) (h2 : (k, n) ∈ S) : m = n := by
  induction S with
  | nil => cases h1
  | cons p S ih =>
    obtain ⟨ha, hb⟩ := List.pairwise_cons.1 (show List.Pairwise (· < ·) (p.1 :: S.map Prod.fst) from h)
    rcases List.mem_cons.1 h1 with e1 | h1
    · rcases List.mem_cons.1 h2 with e2 | h2
      · have := e1.trans e2.symm; cases this; rfl
      · have := ha k (List.mem_map.2 ⟨_, h2, rfl⟩); rw [← e1] at this; exact absurd this (List.lt_irrefl _)
    · rcases List.mem_cons.1 h2 with e2 | h2
      · have := ha k (List.mem_map.2 ⟨_, h1, rfl⟩); rw [← e2] at this; exact absurd this (List.lt_irrefl _)
      · exact ih hb h1 h2
theorem arRun_sy {S : List Sy} (hS : SyOrd S) (V : List View) (h : SyAll S V) : ∀ m : List (Key × Nat), (∀ k n, getA m k = some n → (k, (n : Int)) ∈ S) → arRun m V ≠ none := by
  induction V with
  | nil => intro m _; simp [arRun]
  | cons v V ih =>
    intro m hm
    have ih := ih (fun u hu => h u (List.mem_cons_of_mem _ hu))
    rw [arRun]
    cases hv : v.2.2.1 with
    | true => rw [arStep, if_pos hv]; exact ih m hm
    | false =>
      obtain ⟨h1, h2⟩ := h v List.mem_cons_self hv
      have hput : ∀ k n, getA (putA m v.2.1.data.toList v.2.2.2) k = some n → (k, (n : Int)) ∈ S := fun k n hk => by
        rw [getA_put] at hk
        split at hk
        · rename_i e; cases hk; rw [e]; exact h2
        · exact hm k n hk
      rw [arStep, if_neg (by rw [hv]; decide), if_neg (by unfold marked at h1; rw [h1]; decide)]
      cases hg : getA m v.2.1.data.toList with
      | none => exact ih _ hput
      | some n =>
        have := SyOrd.uniq hS (hm _ _ hg) h2
        simp only
        rw [if_pos (by omega)]
        exact ih _ hput
/-- what symbols answers -/
structure RsyR (l : List Sy) (V : List View) (n : Nat) (l' : List Sy) (b : Bool) : Prop where
  ord : SyOrd l'
  nms : ∀ p ∈ l', p.1.length ≤ 1048576
  len : l'.length ≤ l.length + n
  yes : b = true → (∀ p ∈ l, p ∈ l') ∧ SyAll l' V
theorem RsyR.no {l : List Sy} (V : List View) {l' : List Sy} {n : Nat} (h1 : SyOrd l') (h2 : ∀ p ∈ l', p.1.length ≤ 1048576) (h3 : l'.length ≤ l.length + n) : RsyR l V n l' false := ⟨h1, h2, h3, nofun⟩
/-- an insertion keeps the order -/
theorem SyOrd.ins {l : List Sy} {k : Key} {n : Int} {j : Nat} (hl : SyOrd l) (hj : j ≤ l.length) (h1 : ∀ x ∈ (l.map Prod.fst).take j, x < k) (h2 : ∀ x, (l.map Prod.fst)[j]? = some x → x ≠ k ∧ ¬ x < k) : SyOrd (l.take j ++ [(k, n)] ++ l.drop j) :=
  InsAt.sorted (l := l.map Prod.fst) (k := k) ⟨j, by simpa using hj, h1, .inr ⟨by simp [List.map_append, List.map_take, List.map_drop], h2⟩⟩ hl
theorem ins_at {l : List Sy} (p : Sy) {j : Nat} (hj : j ≤ l.length) : (l.take j ++ [p] ++ l.drop j)[j]? = some p := by
  rw [List.append_assoc, List.getElem?_append_right (by simp; omega)]
  simp [List.length_take, Nat.min_eq_left hj]
theorem ins_sub {l : List Sy} (p : Sy) (j : Nat) : ∀ x ∈ l, x ∈ l.take j ++ [p] ++ l.drop j := fun x hx => by
  rw [← List.take_append_drop j l] at hx
  rcases List.mem_append.1 hx with h | h
  · simp [h]
  · simp [h]
theorem ins_mem {l : List Sy} {p : Sy} {j : Nat} {x : Sy} (hx : x ∈ l.take j ++ [p] ++ l.drop j) : x ∈ l ∨ x = p := by
  simp only [List.mem_append, List.mem_singleton] at hx
  rcases hx with (h | h) | h
  · exact .inl (List.mem_of_mem_take h)
  · exact .inr h
  · exact .inl (List.mem_of_mem_drop h)
theorem ins_len {l : List Sy} (p : Sy) {j : Nat} (hj : j ≤ l.length) : (l.take j ++ [p] ++ l.drop j).length = l.length + 1 := by simp; omega
theorem SyIs.form {n : Nat} {W : World} {l : List Sy} {v : Value} (h : SyIs n W l v) : ∃ oa cap, v = .slice oa l.length cap ∧ l.length ≤ cap := by
  obtain ⟨oa, cap, e, hc, -⟩ := h; exact ⟨oa, cap, e, hc⟩
theorem SyIs.get {n : Nat} {W : World} {l : List Sy} {oa : Option Addr} {m cap : Nat} (h : SyIs n W l (.slice oa m cap)) {j : Nat} {p : Sy} (hp : l[j]? = some p) :
    ∃ b o, oa = some ⟨b, o, none⟩ ∧ b < n ∧ W.cell? ⟨b, o + j * 2, none⟩ = some (.string (kb p.1)) ∧ W.cell? ⟨b, o + j * 2 + 1, none⟩ = some (.int .i64 p.2) := by
  obtain ⟨oa', cap', e, hc, h⟩ := h
  cases e
  obtain ⟨b, o, rfl, hb, h⟩ := h (by rintro rfl; simp at hp)
  exact ⟨b, o, rfl, hb, h j p hp⟩
theorem take_less_sy {l : List Sy} {k : Key} {p : Sy} {j : Nat} (h : ∀ x ∈ (l.map Prod.fst).take j, x < k) (hp : l[j]? = some p) (hl : p.1 < k) : ∀ x ∈ (l.map Prod.fst).take (j + 1), x < k :=
  take_less h (by rw [List.getElem?_map, hp]; rfl) hl
theorem cmpN_neg {a b : ByteArray} : cmpN a b < 0 ↔ a.data.toList < b.data.toList := by
  unfold cmpN
  by_cases e : a = b
  · subst e; rw [if_pos rfl]; exact ⟨fun h => absurd h (by decide), fun h => absurd h (List.lt_irrefl _)⟩
  · rw [if_neg e]
    by_cases l : a.data.toList < b.data.toList
    · rw [if_pos l]; exact ⟨fun _ => l, fun _ => by decide⟩
    · rw [if_neg l]; exact ⟨fun h => absurd h (by decide), fun h => absurd h l⟩
theorem SyIs.cells {n : Nat} {W : World} {l : List Sy} {oa : Option Addr} {m cap : Nat} (h : SyIs n W l (.slice oa m cap)) : ∀ ad, oa = some ad → ∀ i u, (syCells l)[i]? = some u → W.cell? (ad.add i) = some u := by
  intro ad had i u hu
  have hlt := (List.getElem?_eq_some_iff.1 hu).1
  rw [syCells_length] at hlt
  have hp : l[i / 2]? = some l[i / 2] := List.getElem?_eq_getElem (by omega)
  obtain ⟨b, o, e, -, c0, c1⟩ := h.get hp
  rw [had] at e
  cases e
  obtain ⟨k0, k1⟩ := syCells_at l (i / 2) _ hp
  rw [ad_add]
  rcases Nat.mod_two_eq_zero_or_one i with hi | hi
  · have e : i = i / 2 * 2 := by omega
    rw [e] at hu ⊢
    rw [k0] at hu; cases hu; exact c0
  · have e : i = i / 2 * 2 + 1 := by omega
    rw [e] at hu ⊢
    rw [k1] at hu; cases hu
    exact (show W.cell? ⟨b, o + (i / 2 * 2 + 1), none⟩ = _ from c1)
theorem SyIs.takes {n : Nat} {W : World} {l : List Sy} {oa : Option Addr} {m cap : Nat} (h : SyIs n W l (.slice oa m cap)) (j : Nat) : ∀ ad, oa = some ad → ∀ i u, (syCells (l.take j))[i]? = some u → W.cell? (ad.add i) = some u := fun ad had i u hu =>
  h.cells ad had i u (by
    rw [← List.take_append_drop j l, syCells_append, List.getElem?_append_left (List.getElem?_eq_some_iff.1 hu).1]; exact hu)
theorem SyIs.drops {n : Nat} {W : World} {l : List Sy} {b o m cap : Nat} (h : SyIs n W l (.slice (some ⟨b, o, none⟩) m cap)) {j : Nat} (hj : j ≤ l.length) : ∀ ad, (some ⟨b, o + j * 2, none⟩ : Option Addr) = some ad → ∀ i u, (syCells (l.drop j))[i]? = some u → W.cell? (ad.add i) = some u := fun ad had i u hu => by
  cases had
  have := h.cells _ rfl (j * 2 + i) u (by
    rw [← List.take_append_drop j l, syCells_append, List.getElem?_append_right (by rw [syCells_length]; simp; omega)]
    rw [syCells_length, List.length_take, Nat.min_eq_left hj, Nat.add_sub_cancel_left]; exact hu)
  rw [ad_add] at this ⊢
  rw [Nat.add_assoc]; exact this
theorem own_below_any {b0 n size : Nat} {A W : World} {v : Value} {e : TypeId} {xs : List Value} (h : A.ownsRow b0 e size v n xs) (hg : A.grownBy W v.ownBlock) (hb : b0 ≤ A.heap.size) : Below b0 A W :=
  (Below.refl b0 A).grown hg hb fun j hj => (h.lt j hj).1
theorem nil_src (W : World) (xs : List Value) : ∀ ad, (none : Option Addr) = some ad → ∀ i u, xs[i]? = some u → W.cell? (ad.add i) = some u := nofun
theorem sy_rest (W : World) {l : List Sy} {j : Nat} (hj : l.length ≤ j) (ad : Addr) : ∀ a, (some ad : Option Addr) = some a → ∀ i u, (syCells (l.drop j))[i]? = some u → W.cell? (a.add i) = some u := fun a _ i u hu => by
  rw [List.drop_eq_nil_of_le hj] at hu; simp [syCells] at hu
theorem cells_two_at {W : World} {g : Nat} {a b : Value} {ty : TypeId} (h : W.heap[g]? = some (.cells #[a, b] ty (0, 0))) : ∀ ad, (some ⟨g, 0, none⟩ : Option Addr) = some ad → ∀ i u, ([a, b] : List Value)[i]? = some u → W.cell? (ad.add i) = some u := by
  intro ad had i u hu
  cases had
  rw [ad_add, Nat.zero_add]
  unfold World.cell?
  simp only [h]
  have hlt := (List.getElem?_eq_some_iff.1 hu).1
  match i, hu, hlt with
  | 0, hu, _ => cases hu; rfl
  | 1, hu, _ => cases hu; rfl
structure Rs9 (n0 : Nat) (w0 : World) (l : List Sy) (j : Nat) (t : Tm) (LV TV E52 E64 : Value) (f : Nat → Bool) (w : World) (v49 v50 v51 v52 v53 v54 v55 v56 v57 v58 v59 v60 v61 v62 v63 v64 v65 v1 : Value) : Prop where
  low : Below w0.heap.size w0 w
  f0 : f 0 = true → (f 4 = false → w.ownsRow w0.heap.size 141 2 v49 0 [])
  f1 : f 1 = true → v50 = LV
  f2 : f 2 = true → v51 = (.int .i64 j)
  f3 : f 3 = true → v52 = E52
  f4 : f 4 = true → (f 12 = false → w.ownsRow w0.heap.size 141 2 v53 j (syCells (l.take j)))
  f5 : f 5 = true → v54 = (.pointer (some ⟨n0, 0, none⟩))
  f6 : f 6 = true → v55 = (.string t.nm)
  f7 : f 7 = true → v56 = (.pointer (some ⟨n0, 2, none⟩))
  f8 : f 8 = true → v57 = TV
  f9 : f 9 = true → v58 = (.int .i64 t.ts.length)
  f10 : f 10 = true → v59 = (.agg #[.string t.nm, .int .i64 t.ts.length])
  f11 : f 11 = true → (f 12 = false → ∃ g, v60 = .slice (some ⟨g, 0, none⟩) 1 1 ∧ w0.heap.size ≤ g ∧ g < w.heap.size ∧ w.heap[g]? = some (.cells #[.string t.nm, .int .i64 t.ts.length] 141 (0, 0)))
  f12 : f 12 = true → (f 16 = false → w.ownsRow w0.heap.size 141 2 v61 (j + 1) (syCells (l.take j) ++ [.string t.nm, .int .i64 t.ts.length]))
  f13 : f 13 = true → v62 = LV
  f14 : f 14 = true → v63 = (.int .i64 j)
  f15 : f 15 = true → v64 = E64
  f16 : f 16 = true → (∃ o c, v65 = .slice o (j + 1 + (l.length - j)) c) ∧ w.ownsRow w0.heap.size 141 2 v65 (j + 1 + (l.length - j)) (syCells (l.take j) ++ [.string t.nm, .int .i64 t.ts.length] ++ syCells (l.drop j))
  f17 : f 17 = true → v1 = v65
  n1 : f 17 = false → v1 = LV
  o17 : f 17 = true → f 1 = true ∧ f 13 = true ∧ f 16 = true
  o12 : f 12 = true → f 4 = true ∧ f 11 = true
  n12 : f 0 = false → f 12 = false
  o4 : f 4 = true → f 0 = true
  o16 : f 16 = true → f 12 = true
  d : f 0 = true → f 11 = true → f 4 = false → v49.ownBlock ≠ v60.ownBlock
theorem Rs9.keep {n0 : Nat} {w0 : World} {l : List Sy} {j : Nat} {t : Tm} {LV TV E52 E64 : Value} {A W : World} {f : Nat → Bool} {v49 v50 v51 v52 v53 v54 v55 v56 v57 v58 v59 v60 v61 v62 v63 v64 v65 v1 : Value} (h : Rs9 n0 w0 l j t LV TV E52 E64 f A v49 v50 v51 v52 v53 v54 v55 v56 v57 v58 v59 v60 v61 v62 v63 v64 v65 v1) (hb : Below A.heap.size A W) : Rs9 n0 w0 l j t LV TV E52 E64 f W v49 v50 v51 v52 v53 v54 v55 v56 v57 v58 v59 v60 v61 v62 v63 v64 v65 v1 :=
  ⟨h.low.trans (hb.mono h.low.size),
   fun k e => (h.f0 k e).kept (below_grown hb) (own_none _),
   h.f1,
   h.f2,
   h.f3,
   fun k e => (h.f4 k e).kept (below_grown hb) (own_none _),
   h.f5,
   h.f6,
   h.f7,
   h.f8,
   h.f9,
   h.f10,
   fun k e => by obtain ⟨g, h1, h2, h3, h4⟩ := h.f11 k e; exact ⟨g, h1, h2, Nat.lt_of_lt_of_le h3 hb.size, (hb.block g h3).trans h4⟩,
   fun k e => (h.f12 k e).kept (below_grown hb) (own_none _),
   h.f13,
   h.f14,
   h.f15,
   fun k => ⟨(h.f16 k).1, (h.f16 k).2.kept (below_grown hb) (own_none _)⟩,
   h.f17,
   h.n1,
   h.o17,
   h.o12,
   h.n12,
   h.o4,
   h.o16,
   h.d⟩
def Rs9nv (n0 : Nat) (w0 : World) (l : List Sy) (j : Nat) (t : Tm) (LV TV E52 E64 : Value) (z : Nat → Value) (f : Nat → Bool) (a : Act) (w : World) : Prop :=
  ∃ v49 v50 v51 v52 v53 v54 v55 v56 v57 v58 v59 v60 v61 v62 v63 v64 v65 v1, a = { tmps := #[z 0, v1, .pointer (some ⟨n0, 0, none⟩), z 3, z 4, z 5, .int .i64 j, z 7, z 8, z 9, z 10, z 11, z 12, z 13, z 14, z 15, z 16, z 17, z 18, z 19, z 20, z 21, z 22, z 23, z 24, z 25, z 26, z 27, z 28, z 29, z 30, z 31, z 32, z 33, z 34, z 35, z 36, z 37, z 38, z 39, z 40, z 41, z 42, z 43, z 44, z 45, z 46, z 47, z 48, v49, v50, v51, v52, v53, v54, v55, v56, v57, v58, v59, v60, v61, v62, v63, v64, v65, z 66, z 67, z 68, z 69, z 70, z 71, z 72, z 73, z 74, z 75, z 76, z 77, z 78, z 79, z 80, z 81, z 82, z 83, z 84, z 85, z 86, z 87, z 88, z 89, z 90, z 91, z 92, z 93, z 94], defers := [] } ∧ Rs9 n0 w0 l j t LV TV E52 E64 f w v49 v50 v51 v52 v53 v54 v55 v56 v57 v58 v59 v60 v61 v62 v63 v64 v65 v1
set_option maxRecDepth 100000 in
set_option maxHeartbeats 8000000 in
theorem rsymbols_any (t : Tm) : ∀ (d : Nat) (sl v : Value) (l : List Sy) (w : World), SlIs w.heap.size w t.ts sl → t.bare → t.bulk ≤ 1048576 → SyIs w.heap.size w l v → (SyN v) → SyOrd l → l.length + t.size ≤ 4294967296 → (∀ p ∈ l, p.1.length ≤ 1048576) →
    Calls Tryz.prog 175 #[tmv t sl, v] w fun e w' => (∃ v' l' b, e = .returned (.tuple #[v', .bool b]) ∧ SyIs w'.heap.size w' l' v' ∧ (SyN v') ∧ RsyR l (t.nodes d) t.size l' b) ∧ Below w.heap.size w w' := by
  induction t using Tm.ind with
  | h t ih =>
  intro d sl v l w hs hbare hbt hl hnn hord hlen hnm
  obtain ⟨oa, ca, rfl, -⟩ := hs.form
  obtain ⟨ol, cl, rfl, hcap⟩ := hl.form
  have hts : t.ts.length ≤ 1048576 := by have := Tm.length_sizes t.ts; have := Tm.size_eq t; have := Tm.size_bulk t; omega
  have htn : t.nm.size ≤ 1048576 := by have := Tm.bulk_eq t; omega
  have htk : t.nm.data.toList.length ≤ 1048576 := by simpa [bytes_len] using htn
  have hsz1 : 1 ≤ t.size := by have := Tm.size_eq t; omega
  have HNN := Lib.hid hnn
  have HND := Lib.hid (Tm.nodes_eq d t)
  have HS := Lib.hid hs
  have HL := Lib.hid hl
  have HO := Lib.hid hord
  have HNM := Lib.hid hnm
  have IH := Lib.hid ih
  have HSZ := Lib.hid (Tm.size_eq t)
  have HBA := Lib.hid hbare
  have hB0 : Below w.heap.size w (w.alloc (.cells #[.string t.nm, .bool t.vr, .slice oa t.ts.length ca] 25)) := by go_grown
  have HBX := Lib.hid (show (w.alloc (.cells #[.string t.nm, .bool t.vr, .slice oa t.ts.length ca] 25)).heap[w.heap.size]? = some (.cells #[.string t.nm, .bool t.vr, .slice oa t.ts.length ca] 25 (0, 0)) from heap_new_at _ _ _ rfl)
  have HB0 := Lib.hid hB0
  clear hs hl hnn hord hnm ih hB0 hbare
  go_enter Tryz.func175, Tryz.ntmps175
  rw [show tmv t (.slice oa t.ts.length ca) = .agg #[.string t.nm, .bool t.vr, .slice oa t.ts.length ca] from rfl]
  cases hv : t.vr with
  | true =>
    have HV := Lib.hid hv
    rw [hv] at HBX HB0
    clear hv
    go_wp2_with fail
    refine bodyPost_ret (v := .tuple #[.slice ol l.length cl, .bool true]) (by simp [results, Tryz.f175, go_sem]) rfl ?_
    exact ⟨⟨_, l, true, rfl, HL.out.carry HB0.out HB0.out.size, HNN.out, HO.out, HNM.out, by omega, fun _ => ⟨fun _ h => h, by rw [HND.out, HBA.out.vr0 HV.out]; intro v hv; simp [Tm.nodesL] at hv; subst hv; intro e; rw [HV.out] at e; cases e⟩⟩, HB0.out⟩
  | false =>
  have HV := Lib.hid hv
  rw [hv] at HBX HB0
  clear hv
  go_wp2_with fail
  generalize w.alloc (.cells #[.string t.nm, .bool false, .slice oa t.ts.length ca] 25) = W0 at *
  obtain ⟨⟨x0, x1, x2⟩, -⟩ := box3 HBX.out
  refine (rmarked_any t.nm _ htn).mono ?_
  rintro e w1 ⟨rfl, rfl⟩
  cases hmk : marked t.nm with
  | true =>
    clear hmk
    go_wp2_with fail
    refine bodyPost_ret (v := .tuple #[.slice ol l.length cl, .bool false]) (by simp [results, Tryz.f175, go_sem]) rfl ?_
    exact ⟨⟨_, l, false, rfl, HL.out.carry HB0.out HB0.out.size, HNN.out, RsyR.no _ HO.out HNM.out (by omega)⟩, HB0.out⟩
  | false =>
  have HMK := Lib.hid hmk
  clear hmk x0 x1 x2
  go_upto_block 0 with fail
  go_cut [6] (fun s6 wx => ∃ j : Nat, s6 = .int .i64 j ∧ j ≤ l.length ∧ Hid (∀ x ∈ (l.map Prod.fst).take j, x < t.nm.data.toList) ∧ Hid (∀ x, (l.map Prod.fst)[j]? = some x → ¬ x < t.nm.data.toList) ∧ Hid (Below W0.heap.size W0 wx))
  case first =>
    go_wp2_with fail
    go_loopw [6] (fun i wr => ∃ j : Nat, j ≤ l.length ∧ i = .int .i64 j ∧ Hid (∀ x ∈ (l.map Prod.fst).take j, x < t.nm.data.toList) ∧ Hid (Below W0.heap.size W0 wr)) (fun i _ => l.length - (intOf i).toNat)
    case atStart => exact ⟨0, by omega, rfl, Lib.hid (by simp), Lib.hid (Below.refl _ _)⟩
    case round =>
      obtain ⟨j, hj, rfl, HLS, HBW⟩ := hrel
      by_cases hlt : j < l.length
      · obtain ⟨p, hp⟩ : ∃ p, l[j]? = some p := ⟨_, List.getElem?_eq_getElem hlt⟩
        obtain ⟨b1, o1, rfl, hbn, h1, -⟩ := HL.out.get hp
        have hbw := HB0.out.trans (HBW.out.mono HB0.out.size)
        have h1 := (hbw.cell (p := ⟨b1, _, none⟩) hbn).trans h1
        have hbx := (HBW.out.block w.heap.size (Array.getElem?_eq_some_iff.1 HBX.out).1).trans HBX.out
        obtain ⟨⟨x0, x1, x2⟩, -⟩ := box3 hbx
        have hpl := HNM.out p (List.mem_of_getElem? hp)
        have HX := Lib.hid hp
        have hz := HBW.out.size
        clear hp hbw hbx
        have hqs : (kb p.1).size ≤ 1048576 := by show p.1.toArray.size ≤ _; simpa using hpl
        by_cases hc0 : cmpN (kb p.1) t.nm < 0
        · have hdc : decide (cmpN (kb p.1) t.nm < 0) = true := decide_eq_true hc0
          have HCL := Lib.hid (cmpN_neg.1 hc0)
          clear hc0
          go_wp2_with fail
          go_quiet ((go_at_call 52; exact Calls.quiet_of (cmpNames_quiet _ _ _ hqs htn)))
          go_wp2_with fail
          exact ⟨⟨j + 1, by omega, by go_num, Lib.hid (take_less_sy HLS.out HX.out (by simpa [key_kb] using HCL.out)), Lib.hid (below_drewN nq HBW.out)⟩, by simp [intOf]; omega⟩
        · have hdc : decide (cmpN (kb p.1) t.nm < 0) = false := decide_eq_false hc0
          have HCL := Lib.hid (fun h => hc0 (cmpN_neg.2 h))
          clear hc0
          go_wp2_with fail
          go_quiet ((go_at_call 52; exact Calls.quiet_of (cmpNames_quiet _ _ _ hqs htn)))
          go_wp2_with fail
          go_meet
          exact ⟨j, rfl, hj, HLS, Lib.hid (fun x hx hl => by rw [List.getElem?_map, HX.out] at hx; cases hx; exact HCL.out (by simpa [key_kb] using hl)), Lib.hid (below_drewN nq HBW.out)⟩
      · obtain rfl : j = l.length := by omega
        go_wp2_with fail
        go_quiet (fail)
        go_wp2_with fail
        go_meet
        exact ⟨l.length, rfl, hj, HLS, Lib.hid (fun x hx => by rw [List.getElem?_eq_none (by simp)] at hx; cases hx), Lib.hid (below_drewN nq HBW.out)⟩
  case rest =>
  obtain ⟨j, rfl, hj, HLS, HNL, HBW⟩ := hcut
  obtain ⟨wA, rfl⟩ : ∃ W, W = wc := ⟨_, rfl⟩
  have HBW1 := Lib.hid (HB0.out.trans (HBW.out.mono HB0.out.size))
  have HBXw := Lib.hid ((HBW.out.block w.heap.size (Array.getElem?_eq_some_iff.1 HBX.out).1).trans HBX.out)
  go_upto_region 8 with fail
  go_cut [48] (fun s48 wx => ∃ b : Bool, s48 = .bool b ∧ Hid (b = false → ∃ p, l[j]? = some p ∧ p.1 = t.nm.data.toList) ∧ Hid (b = true → ∀ x, (l.map Prod.fst)[j]? = some x → x ≠ t.nm.data.toList) ∧ Hid (Below wA.heap.size wA wx))
  case first =>
    obtain ⟨⟨x0, x1, x2⟩, -⟩ := box3 HBXw.out
    by_cases hlt : j < l.length
    · obtain ⟨p, hp⟩ : ∃ p, l[j]? = some p := ⟨_, List.getElem?_eq_getElem hlt⟩
      obtain ⟨b1, o1, rfl, hbn, h1, -⟩ := HL.out.get hp
      have h1 := (HBW1.out.cell (p := ⟨b1, _, none⟩) hbn).trans h1
      have HX := Lib.hid hp
      have hjl : ((j : Int) == (l.length : Int)) = false := by rw [beq_eq_false_iff_ne]; omega
      clear hp
      by_cases hpk : p.1 = t.nm.data.toList
      · have hbc := kb_beq_yes hpk
        rw [kb_key] at hbc
        have HPK := Lib.hid hpk
        clear hpk
        go_wp2_with fail
        go_quiet (fail)
        go_wp2_with fail
        go_meet
        exact ⟨false, rfl, Lib.hid (fun _ => ⟨p, HX.out, HPK.out⟩), Lib.hid nofun, Lib.hid (below_drewN nq (Below.refl _ _))⟩
      · have hbc := kb_beq_no hpk
        rw [kb_key] at hbc
        have HPK := Lib.hid hpk
        clear hpk
        go_wp2_with fail
        go_quiet (fail)
        go_wp2_with fail
        go_meet
        exact ⟨true, rfl, Lib.hid nofun, Lib.hid (fun _ x hx e => by rw [List.getElem?_map, HX.out] at hx; cases hx; exact HPK.out e), Lib.hid (below_drewN nq (Below.refl _ _))⟩
    · have hjl : ((j : Int) == (l.length : Int)) = true := by rw [beq_iff_eq]; omega
      have HNO := Lib.hid (show ∀ x, (l.map Prod.fst)[j]? = some x → x ≠ t.nm.data.toList from fun x hx => by rw [List.getElem?_eq_none (by simp; omega)] at hx; cases hx)
      go_wp2_with fail
      go_quiet (fail)
      go_wp2_with fail
      go_meet
      exact ⟨true, rfl, Lib.hid nofun, Lib.hid (fun _ => HNO.out), Lib.hid (below_drewN nq (Below.refl _ _))⟩
  case rest =>
  obtain ⟨b48, rfl, HBF, HBT, HBWb⟩ := hcut
  obtain ⟨wB, rfl⟩ : ∃ W, W = wc := ⟨_, rfl⟩
  have HBWd := Lib.hid (HBW1.out.trans (HBWb.out.mono HBW1.out.size))
  have HBXd := Lib.hid ((HBWb.out.block w.heap.size (Array.getElem?_eq_some_iff.1 HBXw.out).1).trans HBXw.out)
  clear HBW1 HBXw
  have HBW1 := HBWd
  have HBXw := HBXd
  clear HBWd HBXd
  go_upto_if 48 with fail
  go_cut [1] (fun s1 wx => ∃ (v2 : Value) (l2 : List Sy) (n2 : Int), s1 = v2 ∧ Hid (SyIs wx.heap.size wx l2 v2) ∧ Hid (SyN v2) ∧ Hid (SyOrd l2) ∧ Hid (∀ p ∈ l2, p.1.length ≤ 1048576) ∧ l2.length ≤ l.length + 1 ∧ Hid (l2[j]? = some (t.nm.data.toList, n2)) ∧ Hid (∀ p ∈ l, p ∈ l2) ∧ Hid (Below wB.heap.size wB wx))
  case first =>
    obtain ⟨i0, hi, hz, hs1, hb1⟩ := info_parts infoSym
    have I1 := Lib.hid hi
    have I2 := Lib.hid hz
    have I3 := Lib.hid hs1
    have I4 := Lib.hid hb1
    have HN0 := Lib.hid (Nat.lt_of_lt_of_le (Array.getElem?_eq_some_iff.1 HBX.out).1 (Nat.le_trans HBW.out.size HBWb.out.size))
    have HLB := Lib.hid (HL.out.carry HBW1.out HBW1.out.size)
    clear hi hz hs1 hb1
    cases b48 with
    | false =>
      obtain ⟨p, hp, hpk⟩ := HBF.out rfl
      have HP := Lib.hid hp
      have HPK := Lib.hid hpk
      clear hp hpk
      go_wp2_with fail
      go_meet
      exact ⟨_, l, p.2, rfl, HLB, HNN, HO, HNM, by omega, Lib.hid (by rw [HP.out, ← HPK.out]), Lib.hid (fun _ h => h), Lib.hid (Below.refl _ _)⟩
    | true =>
    have HT48 := Lib.hid (HBT.out rfl)
    go_wp2_with fail
    cases ol with
    | none =>
      have hn0 := HNN.out.1 _ _ rfl
      have hn1 : l.length ≤ 0 := by omega
      have hn2 : cl ≤ 0 := by omega
      have hjc : j ≤ cl := by omega
      clear hn0 HNN
      refine wp_region_invE (Rs9nv w.heap.size wB l j t (.slice none l.length cl) (.slice oa t.ts.length ca) (.slice none j 0) (.slice none (l.length - j) (cl - j))) (by kernel_rfl) (by kernel_rfl) ?h0 ?hend ?hstep
      case h0 => exact ⟨_, _, _, _, _, _, _, _, _, _, _, _, _, _, _, _, _, _, rfl, (Below.refl _ wB).drew, nofun, nofun, nofun, nofun, nofun, nofun, nofun, nofun, nofun, nofun, nofun, nofun, nofun, nofun, nofun, nofun, nofun, nofun, (fun _ => rfl), nofun, nofun, (fun _ => rfl), nofun, nofun, nofun⟩
      case hstep =>
        rintro z i o ho f a W ⟨v49, v50, v51, v52, v53, v54, v55, v56, v57, v58, v59, v60, v61, v62, v63, v64, v65, v1, rfl, h⟩ hfi hd K' hK
        have HI := Lib.hid h
        match i, ho with
        | 0, ho =>
          cases ho
          clear h
          go_simp
          have hb := (Below.refl W.heap.size W).alloc (Nat.le_refl _) (.cells #[] 141)
          have H1 := HI.out.keep hb
          exact hK.out _ (W.alloc (.cells #[] 141)) ⟨_, v50, v51, v52, v53, v54, v55, v56, v57, v58, v59, v60, v61, v62, v63, v64, v65, v1, rfl, H1.low, (fun _ _ => ⟨by simp, .inr ⟨W.heap.size, 0, #[], rfl, HI.out.low.size, heap_new_at _ _ _ rfl, Nat.le_refl _, by simp, by simp, by simp⟩⟩), H1.f1, H1.f2, H1.f3, H1.f4, H1.f5, H1.f6, H1.f7, H1.f8, H1.f9, H1.f10, H1.f11, H1.f12, H1.f13, H1.f14, H1.f15, H1.f16, H1.f17, H1.n1, H1.o17, H1.o12, (fun k => nomatch k), (fun _ => rfl), H1.o16, (fun _ k _ => by obtain ⟨g, e, -, h3, -⟩ := HI.out.f11 k (HI.out.n12 hfi); rw [e]; simp [Value.ownBlock]; omega)⟩
        | 1, ho =>
          cases ho
          have e1 := h.n1 (by cases e17 : f 17 with | false => rfl | true => have := (h.o17 e17).1; rw [hfi] at this; cases this)
          subst e1
          clear h
          go_simp
          exact hK.out _ _ ⟨v49, _, v51, v52, v53, v54, v55, v56, v57, v58, v59, v60, v61, v62, v63, v64, v65, _, rfl, HI.out.low, HI.out.f0, (fun _ => rfl), HI.out.f2, HI.out.f3, HI.out.f4, HI.out.f5, HI.out.f6, HI.out.f7, HI.out.f8, HI.out.f9, HI.out.f10, HI.out.f11, HI.out.f12, HI.out.f13, HI.out.f14, HI.out.f15, HI.out.f16, HI.out.f17, (fun _ => rfl), (fun k => absurd (HI.out.o17 k).1 (by rw [hfi]; decide)), HI.out.o12, HI.out.n12, HI.out.o4, HI.out.o16, HI.out.d⟩
        | 2, ho =>
          cases ho
          clear h
          go_simp
          exact hK.out _ _ ⟨v49, v50, _, v52, v53, v54, v55, v56, v57, v58, v59, v60, v61, v62, v63, v64, v65, v1, rfl, HI.out.low, HI.out.f0, HI.out.f1, (fun _ => rfl), HI.out.f3, HI.out.f4, HI.out.f5, HI.out.f6, HI.out.f7, HI.out.f8, HI.out.f9, HI.out.f10, HI.out.f11, HI.out.f12, HI.out.f13, HI.out.f14, HI.out.f15, HI.out.f16, HI.out.f17, HI.out.n1, HI.out.o17, HI.out.o12, HI.out.n12, HI.out.o4, HI.out.o16, HI.out.d⟩
        | 3, ho =>
          cases ho
          have e := h.f1 (hd ⟨1, .data⟩ (by simp) rfl)
          subst e
          have e := h.f2 (hd ⟨2, .data⟩ (by simp) rfl)
          subst e
          clear h
          go_simp
          exact hK.out _ _ ⟨v49, _, _, _, v53, v54, v55, v56, v57, v58, v59, v60, v61, v62, v63, v64, v65, v1, rfl, HI.out.low, HI.out.f0, HI.out.f1, HI.out.f2, (fun _ => rfl), HI.out.f4, HI.out.f5, HI.out.f6, HI.out.f7, HI.out.f8, HI.out.f9, HI.out.f10, HI.out.f11, HI.out.f12, HI.out.f13, HI.out.f14, HI.out.f15, HI.out.f16, HI.out.f17, HI.out.n1, HI.out.o17, HI.out.o12, HI.out.n12, HI.out.o4, HI.out.o16, HI.out.d⟩
        | 4, ho =>
          cases ho
          have d0q := hd ⟨0, .data⟩ (by simp) rfl
          have HDD := Lib.hid (show f 11 = true → v49.ownBlock ≠ v60.ownBlock from fun k => h.d (hd ⟨0, .data⟩ (by simp) rfl) k hfi)
          have hr := h.f0 (hd ⟨0, .data⟩ (by simp) rfl) hfi
          have HR := Lib.hid hr
          have hbs := h.low.size
          have e := h.f3 (hd ⟨3, .data⟩ (by simp) rfl)
          subst e
          have hsrc := nil_src W (syCells (l.take j))
          clear h hd hr
          refine step_append_opt rfl _ _ 71 rfl wB.heap.size 141 i0 (.agg #[.string ⟨#[]⟩, .int .i64 0]) 2 24 Tryz.underlying71 I1.out I2.out I3.out I4.out rfl (by decide) v49 0 ([]) rfl HR.out _ j _ (syCells (l.take j)) rfl (by first | rfl | (simp [syCells_length]; done) | (simp [syCells_length]; omega)) (fun _ => ⟨by omega, by omega⟩) hsrc (syCells_one _) (by unfold maxLen; omega) (by omega) hbs ?_
          intro v' w' how hg hat
          have hbl := own_below_any HR.out hg hbs
          obtain ⟨og, cg, rfl⟩ := ownsRow_shape how
          exact hK.out _ _ ⟨v49, v50, v51, _, _, v54, v55, v56, v57, v58, v59, v60, v61, v62, v63, v64, v65, v1, rfl, HI.out.low.trans hbl, (fun _ e => nomatch e), HI.out.f1, HI.out.f2, HI.out.f3, (fun _ _ => by simpa using how), HI.out.f5, HI.out.f6, HI.out.f7, HI.out.f8, HI.out.f9, HI.out.f10, (fun k e => by obtain ⟨g, h1, h2, h3, h4⟩ := HI.out.f11 k e; exact ⟨g, h1, h2, Nat.lt_of_lt_of_le h3 hg.size, (hg.block g h3 (fun q => HDD.out k (by rw [h1]; exact q.symm))).trans h4⟩), (fun k => absurd (HI.out.o12 k).1 (by rw [hfi]; decide)), HI.out.f13, HI.out.f14, HI.out.f15, (fun k => absurd (HI.out.o12 (HI.out.o16 k)).1 (by rw [hfi]; decide)), HI.out.f17, HI.out.n1, HI.out.o17, (fun k => absurd (HI.out.o12 k).1 (by rw [hfi]; decide)), HI.out.n12, (fun _ => d0q), HI.out.o16, (fun _ _ e => nomatch e)⟩
        | 5, ho =>
          cases ho
          clear h
          go_simp
          exact hK.out _ _ ⟨v49, v50, v51, v52, v53, _, v55, v56, v57, v58, v59, v60, v61, v62, v63, v64, v65, v1, rfl, HI.out.low, HI.out.f0, HI.out.f1, HI.out.f2, HI.out.f3, HI.out.f4, (fun _ => rfl), HI.out.f6, HI.out.f7, HI.out.f8, HI.out.f9, HI.out.f10, HI.out.f11, HI.out.f12, HI.out.f13, HI.out.f14, HI.out.f15, HI.out.f16, HI.out.f17, HI.out.n1, HI.out.o17, HI.out.o12, HI.out.n12, HI.out.o4, HI.out.o16, HI.out.d⟩
        | 6, ho =>
          cases ho
          have e := h.f5 (hd ⟨5, .data⟩ (by simp) rfl)
          subst e
          obtain ⟨⟨c0, c1, c2⟩, -⟩ := box3 (Eq.trans (h.low.block w.heap.size HN0.out) HBXw.out)
          clear h
          go_simp
          exact hK.out _ _ ⟨v49, v50, v51, v52, v53, _, _, v56, v57, v58, v59, v60, v61, v62, v63, v64, v65, v1, rfl, HI.out.low, HI.out.f0, HI.out.f1, HI.out.f2, HI.out.f3, HI.out.f4, HI.out.f5, (fun _ => rfl), HI.out.f7, HI.out.f8, HI.out.f9, HI.out.f10, HI.out.f11, HI.out.f12, HI.out.f13, HI.out.f14, HI.out.f15, HI.out.f16, HI.out.f17, HI.out.n1, HI.out.o17, HI.out.o12, HI.out.n12, HI.out.o4, HI.out.o16, HI.out.d⟩
        | 7, ho =>
          cases ho
          clear h
          go_simp
          exact hK.out _ _ ⟨v49, v50, v51, v52, v53, v54, v55, _, v57, v58, v59, v60, v61, v62, v63, v64, v65, v1, rfl, HI.out.low, HI.out.f0, HI.out.f1, HI.out.f2, HI.out.f3, HI.out.f4, HI.out.f5, HI.out.f6, (fun _ => rfl), HI.out.f8, HI.out.f9, HI.out.f10, HI.out.f11, HI.out.f12, HI.out.f13, HI.out.f14, HI.out.f15, HI.out.f16, HI.out.f17, HI.out.n1, HI.out.o17, HI.out.o12, HI.out.n12, HI.out.o4, HI.out.o16, HI.out.d⟩
        | 8, ho =>
          cases ho
          have e := h.f7 (hd ⟨7, .data⟩ (by simp) rfl)
          subst e
          obtain ⟨⟨c0, c1, c2⟩, -⟩ := box3 (Eq.trans (h.low.block w.heap.size HN0.out) HBXw.out)
          clear h
          go_simp
          exact hK.out _ _ ⟨v49, v50, v51, v52, v53, v54, v55, _, _, v58, v59, v60, v61, v62, v63, v64, v65, v1, rfl, HI.out.low, HI.out.f0, HI.out.f1, HI.out.f2, HI.out.f3, HI.out.f4, HI.out.f5, HI.out.f6, HI.out.f7, (fun _ => rfl), HI.out.f9, HI.out.f10, HI.out.f11, HI.out.f12, HI.out.f13, HI.out.f14, HI.out.f15, HI.out.f16, HI.out.f17, HI.out.n1, HI.out.o17, HI.out.o12, HI.out.n12, HI.out.o4, HI.out.o16, HI.out.d⟩
        | 9, ho =>
          cases ho
          have e := h.f8 (hd ⟨8, .data⟩ (by simp) rfl)
          subst e
          clear h
          go_simp
          exact hK.out _ _ ⟨v49, v50, v51, v52, v53, v54, v55, v56, _, _, v59, v60, v61, v62, v63, v64, v65, v1, rfl, HI.out.low, HI.out.f0, HI.out.f1, HI.out.f2, HI.out.f3, HI.out.f4, HI.out.f5, HI.out.f6, HI.out.f7, HI.out.f8, (fun _ => rfl), HI.out.f10, HI.out.f11, HI.out.f12, HI.out.f13, HI.out.f14, HI.out.f15, HI.out.f16, HI.out.f17, HI.out.n1, HI.out.o17, HI.out.o12, HI.out.n12, HI.out.o4, HI.out.o16, HI.out.d⟩
        | 10, ho =>
          cases ho
          have e := h.f6 (hd ⟨6, .data⟩ (by simp) rfl)
          subst e
          have e := h.f9 (hd ⟨9, .data⟩ (by simp) rfl)
          subst e
          clear h
          go_simp
          exact hK.out _ _ ⟨v49, v50, v51, v52, v53, v54, _, v56, v57, _, _, v60, v61, v62, v63, v64, v65, v1, rfl, HI.out.low, HI.out.f0, HI.out.f1, HI.out.f2, HI.out.f3, HI.out.f4, HI.out.f5, HI.out.f6, HI.out.f7, HI.out.f8, HI.out.f9, (fun _ => rfl), HI.out.f11, HI.out.f12, HI.out.f13, HI.out.f14, HI.out.f15, HI.out.f16, HI.out.f17, HI.out.n1, HI.out.o17, HI.out.o12, HI.out.n12, HI.out.o4, HI.out.o16, HI.out.d⟩
        | 11, ho =>
          cases ho
          have e := h.f10 (hd ⟨10, .data⟩ (by simp) rfl)
          subst e
          clear h
          go_simp
          have hb := (Below.refl W.heap.size W).alloc (Nat.le_refl _) (.cells #[.string t.nm, .int .i64 t.ts.length] 141)
          have H1 := HI.out.keep hb
          exact hK.out _ (W.alloc (.cells #[.string t.nm, .int .i64 t.ts.length] 141)) ⟨v49, v50, v51, v52, v53, v54, v55, v56, v57, v58, _, _, v61, v62, v63, v64, v65, v1, rfl, H1.low, H1.f0, H1.f1, H1.f2, H1.f3, H1.f4, H1.f5, H1.f6, H1.f7, H1.f8, H1.f9, H1.f10, (fun _ _ => ⟨W.heap.size, rfl, HI.out.low.size, by simp, heap_new_at _ _ _ rfl⟩), H1.f12, H1.f13, H1.f14, H1.f15, H1.f16, H1.f17, H1.n1, H1.o17, (fun k => absurd (HI.out.o12 k).2 (by rw [hfi]; decide)), H1.n12, H1.o4, H1.o16, (fun k _ e => by have := (HI.out.f0 k e).lt; simp only [Value.ownBlock]; intro h; have := (this _ h).2; omega)⟩
        | 12, ho =>
          cases ho
          have d4q := hd ⟨4, .data⟩ (by simp) rfl
          have d11q := hd ⟨11, .data⟩ (by simp) rfl
          obtain ⟨gq, e, h2q, h3q, h4q⟩ := h.f11 d11q hfi
          subst e
          have hr := h.f4 (hd ⟨4, .data⟩ (by simp) rfl) hfi
          have HR := Lib.hid hr
          have hbs := h.low.size
          have hsrc := cells_two_at h4q
          clear h hd hr
          refine step_append_opt rfl _ _ 71 rfl wB.heap.size 141 i0 (.agg #[.string ⟨#[]⟩, .int .i64 0]) 2 24 Tryz.underlying71 I1.out I2.out I3.out I4.out rfl (by decide) v53 j (syCells (l.take j)) rfl HR.out _ 1 _ ([.string t.nm, .int .i64 t.ts.length]) rfl (by first | rfl | (simp [syCells_length]; done) | (simp [syCells_length]; omega)) (fun h => by cases h) hsrc (by simp [Value.oneCell']) (by unfold maxLen; omega) (by omega) hbs ?_
          intro v' w' how hg hat
          have hbl := own_below_any HR.out hg hbs
          obtain ⟨og, cg, rfl⟩ := ownsRow_shape how
          exact hK.out _ _ ⟨v49, v50, v51, v52, v53, v54, v55, v56, v57, v58, v59, _, _, v62, v63, v64, v65, v1, rfl, HI.out.low.trans hbl, (fun _ e => by rw [show flag f 12 4 = f 4 from rfl, d4q] at e; cases e), HI.out.f1, HI.out.f2, HI.out.f3, (fun _ e => nomatch e), HI.out.f5, HI.out.f6, HI.out.f7, HI.out.f8, HI.out.f9, HI.out.f10, (fun _ e => nomatch e), (fun _ _ => how), HI.out.f13, HI.out.f14, HI.out.f15, (fun k => absurd (HI.out.o16 k) (by rw [hfi]; decide)), HI.out.f17, HI.out.n1, HI.out.o17, (fun _ => ⟨d4q, d11q⟩), (fun e => by have := HI.out.o4 d4q; rw [show flag f 12 0 = f 0 from rfl, this] at e; cases e), HI.out.o4, (fun k => absurd (HI.out.o16 k) (by rw [hfi]; decide)), (fun _ _ e => by rw [show flag f 12 4 = f 4 from rfl, d4q] at e; cases e)⟩
        | 13, ho =>
          cases ho
          have e1 := h.n1 (by cases e17 : f 17 with | false => rfl | true => have := (h.o17 e17).2.1; rw [hfi] at this; cases this)
          subst e1
          clear h
          go_simp
          exact hK.out _ _ ⟨v49, v50, v51, v52, v53, v54, v55, v56, v57, v58, v59, v60, v61, _, v63, v64, v65, _, rfl, HI.out.low, HI.out.f0, HI.out.f1, HI.out.f2, HI.out.f3, HI.out.f4, HI.out.f5, HI.out.f6, HI.out.f7, HI.out.f8, HI.out.f9, HI.out.f10, HI.out.f11, HI.out.f12, (fun _ => rfl), HI.out.f14, HI.out.f15, HI.out.f16, HI.out.f17, (fun _ => rfl), (fun k => absurd (HI.out.o17 k).2.1 (by rw [hfi]; decide)), HI.out.o12, HI.out.n12, HI.out.o4, HI.out.o16, HI.out.d⟩
        | 14, ho =>
          cases ho
          clear h
          go_simp
          exact hK.out _ _ ⟨v49, v50, v51, v52, v53, v54, v55, v56, v57, v58, v59, v60, v61, v62, _, v64, v65, v1, rfl, HI.out.low, HI.out.f0, HI.out.f1, HI.out.f2, HI.out.f3, HI.out.f4, HI.out.f5, HI.out.f6, HI.out.f7, HI.out.f8, HI.out.f9, HI.out.f10, HI.out.f11, HI.out.f12, HI.out.f13, (fun _ => rfl), HI.out.f15, HI.out.f16, HI.out.f17, HI.out.n1, HI.out.o17, HI.out.o12, HI.out.n12, HI.out.o4, HI.out.o16, HI.out.d⟩
        | 15, ho =>
          cases ho
          have e := h.f13 (hd ⟨13, .data⟩ (by simp) rfl)
          subst e
          have e := h.f14 (hd ⟨14, .data⟩ (by simp) rfl)
          subst e
          clear h
          go_simp
          exact hK.out _ _ ⟨v49, v50, v51, v52, v53, v54, v55, v56, v57, v58, v59, v60, v61, _, _, _, v65, v1, rfl, HI.out.low, HI.out.f0, HI.out.f1, HI.out.f2, HI.out.f3, HI.out.f4, HI.out.f5, HI.out.f6, HI.out.f7, HI.out.f8, HI.out.f9, HI.out.f10, HI.out.f11, HI.out.f12, HI.out.f13, HI.out.f14, (fun _ => by first | rfl | (rw [show l.length - j = 0 by omega])), HI.out.f16, HI.out.f17, HI.out.n1, HI.out.o17, HI.out.o12, HI.out.n12, HI.out.o4, HI.out.o16, HI.out.d⟩
        | 16, ho =>
          cases ho
          have d12q := hd ⟨12, .data⟩ (by simp) rfl
          have hr := h.f12 (hd ⟨12, .data⟩ (by simp) rfl) hfi
          have HR := Lib.hid hr
          have hbs := h.low.size
          have e := h.f15 (hd ⟨15, .data⟩ (by simp) rfl)
          subst e
          have hsrc := nil_src W (syCells (l.drop j))
          clear h hd hr
          refine step_append_opt rfl _ _ 71 rfl wB.heap.size 141 i0 (.agg #[.string ⟨#[]⟩, .int .i64 0]) 2 24 Tryz.underlying71 I1.out I2.out I3.out I4.out rfl (by decide) v61 (j + 1) (syCells (l.take j) ++ [.string t.nm, .int .i64 t.ts.length]) rfl HR.out _ (l.length - j) _ (syCells (l.drop j)) rfl (by first | rfl | (simp [syCells_length]; done) | (simp [syCells_length]; omega)) (fun _ => ⟨by omega, by omega⟩) hsrc (syCells_one _) (by unfold maxLen; omega) (by omega) hbs ?_
          intro v' w' how hg hat
          have hbl := own_below_any HR.out hg hbs
          obtain ⟨og, cg, rfl⟩ := ownsRow_shape how
          exact hK.out _ _ ⟨v49, v50, v51, v52, v53, v54, v55, v56, v57, v58, v59, v60, v61, v62, v63, _, _, v1, rfl, HI.out.low.trans hbl, (fun k e => by rw [show flag f 16 4 = f 4 from rfl, (HI.out.o12 d12q).1] at e; cases e), HI.out.f1, HI.out.f2, HI.out.f3, (fun k e => by rw [show flag f 16 12 = f 12 from rfl, d12q] at e; cases e), HI.out.f5, HI.out.f6, HI.out.f7, HI.out.f8, HI.out.f9, HI.out.f10, (fun k e => by rw [show flag f 16 12 = f 12 from rfl, d12q] at e; cases e), (fun _ e => nomatch e), HI.out.f13, HI.out.f14, HI.out.f15, (fun _ => ⟨⟨_, _, rfl⟩, how⟩), (fun k => absurd (HI.out.o17 k).2.2 (by rw [hfi]; decide)), HI.out.n1, (fun k => absurd (HI.out.o17 k).2.2 (by rw [hfi]; decide)), HI.out.o12, HI.out.n12, HI.out.o4, (fun _ => d12q), (fun _ _ e => by rw [show flag f 16 4 = f 4 from rfl, (HI.out.o12 d12q).1] at e; cases e)⟩
        | 17, ho =>
          cases ho
          have d1 := hd ⟨1, .phase⟩ (by simp) rfl
          have d13 := hd ⟨13, .phase⟩ (by simp) rfl
          have d16 := hd ⟨16, .data⟩ (by simp) rfl
          clear h
          go_simp
          exact hK.out _ _ ⟨v49, v50, v51, v52, v53, v54, v55, v56, v57, v58, v59, v60, v61, v62, v63, v64, v65, _, rfl, HI.out.low, HI.out.f0, HI.out.f1, HI.out.f2, HI.out.f3, HI.out.f4, HI.out.f5, HI.out.f6, HI.out.f7, HI.out.f8, HI.out.f9, HI.out.f10, HI.out.f11, HI.out.f12, HI.out.f13, HI.out.f14, HI.out.f15, HI.out.f16, (fun _ => rfl), (fun e => nomatch e), (fun _ => ⟨d1, d13, d16⟩), HI.out.o12, HI.out.n12, HI.out.o4, HI.out.o16, HI.out.d⟩
        | i + 18, ho => simp at ho
      case hend =>
        rintro z f a Wq HZ ⟨v49, v50, v51, v52, v53, v54, v55, v56, v57, v58, v59, v60, v61, v62, v63, v64, v65, v1, rfl, h⟩ hall
        have e17 := h.f17 (hall 17 (by simp))
        subst e17
        obtain ⟨⟨og, cg, e⟩, how⟩ := h.f16 (hall 16 (by simp))
        subst e
        have HLO := Lib.hid h.low
        have hrow : Wq.ownsRow wB.heap.size 141 2 (.slice og (j + 1 + (l.length - j)) cg) (l.take j ++ [(t.nm.data.toList, (t.ts.length : Int))] ++ l.drop j).length (syCells (l.take j ++ [(t.nm.data.toList, (t.ts.length : Int))] ++ l.drop j)) := by
          rw [syCells_append, syCells_append, sy_one, ins_len _ hj, show l.length + 1 = j + 1 + (l.length - j) by omega]; exact how
        have HOW := Lib.hid hrow
        have HON := Lib.hid (show SyN (.slice og (j + 1 + (l.length - j)) cg : Value) by
          refine ⟨fun m k e => ?_, fun a m k e => ?_⟩
          · cases e
            rcases how.2 with ⟨-, hl⟩ | ⟨g, cap, cur, e, -⟩
            · omega
            · cases e
          · cases e
            rcases how.2 with ⟨e, -⟩ | ⟨g, cap, cur, e, -⟩
            · cases e
            · cases e; rfl)
        clear h hall how hrow
        have hz := HZ.out
        clear HZ
        subst hz
        go_wp2_with fail
        go_meet
        exact ⟨_, l.take j ++ [(t.nm.data.toList, (t.ts.length : Int))] ++ l.drop j, (t.ts.length : Int), rfl, Lib.hid (SyIs.ofRow HOW.out), HON, Lib.hid (SyOrd.ins HO.out hj HLS.out (fun x hx => ⟨HT48.out x hx, HNL.out x hx⟩)), Lib.hid (fun p hp => (ins_mem hp).elim (HNM.out p) (fun e => by rw [e]; exact htk)), Nat.le_of_eq (ins_len _ hj), Lib.hid (ins_at _ hj), Lib.hid (ins_sub _ j), HLO⟩

    | some ad0 =>
    obtain ⟨b1, o1, sp1⟩ := ad0
    obtain rfl : sp1 = none := HNN.out.2 _ _ _ rfl
    have hjc : j ≤ cl := by omega
    by_cases hcj : cl = j
    · obtain rfl : j = cl := hcj.symm
      clear HNN hcj
      refine wp_region_invE (Rs9nv w.heap.size wB l j t (.slice (some ⟨b1, o1, none⟩) l.length j) (.slice oa t.ts.length ca) (.slice (some ⟨b1, o1, none⟩) j j) (.slice (some ⟨b1, o1, none⟩) (l.length - j) 0)) (by kernel_rfl) (by kernel_rfl) ?h0 ?hend ?hstep
      case h0 => exact ⟨_, _, _, _, _, _, _, _, _, _, _, _, _, _, _, _, _, _, rfl, (Below.refl _ wB).drew, nofun, nofun, nofun, nofun, nofun, nofun, nofun, nofun, nofun, nofun, nofun, nofun, nofun, nofun, nofun, nofun, nofun, nofun, (fun _ => rfl), nofun, nofun, (fun _ => rfl), nofun, nofun, nofun⟩
      case hstep =>
        rintro z i o ho f a W ⟨v49, v50, v51, v52, v53, v54, v55, v56, v57, v58, v59, v60, v61, v62, v63, v64, v65, v1, rfl, h⟩ hfi hd K' hK
        have HI := Lib.hid h
        match i, ho with
        | 0, ho =>
          cases ho
          clear h
          go_simp
          have hb := (Below.refl W.heap.size W).alloc (Nat.le_refl _) (.cells #[] 141)
          have H1 := HI.out.keep hb
          exact hK.out _ (W.alloc (.cells #[] 141)) ⟨_, v50, v51, v52, v53, v54, v55, v56, v57, v58, v59, v60, v61, v62, v63, v64, v65, v1, rfl, H1.low, (fun _ _ => ⟨by simp, .inr ⟨W.heap.size, 0, #[], rfl, HI.out.low.size, heap_new_at _ _ _ rfl, Nat.le_refl _, by simp, by simp, by simp⟩⟩), H1.f1, H1.f2, H1.f3, H1.f4, H1.f5, H1.f6, H1.f7, H1.f8, H1.f9, H1.f10, H1.f11, H1.f12, H1.f13, H1.f14, H1.f15, H1.f16, H1.f17, H1.n1, H1.o17, H1.o12, (fun k => nomatch k), (fun _ => rfl), H1.o16, (fun _ k _ => by obtain ⟨g, e, -, h3, -⟩ := HI.out.f11 k (HI.out.n12 hfi); rw [e]; simp [Value.ownBlock]; omega)⟩
        | 1, ho =>
          cases ho
          have e1 := h.n1 (by cases e17 : f 17 with | false => rfl | true => have := (h.o17 e17).1; rw [hfi] at this; cases this)
          subst e1
          clear h
          go_simp
          exact hK.out _ _ ⟨v49, _, v51, v52, v53, v54, v55, v56, v57, v58, v59, v60, v61, v62, v63, v64, v65, _, rfl, HI.out.low, HI.out.f0, (fun _ => rfl), HI.out.f2, HI.out.f3, HI.out.f4, HI.out.f5, HI.out.f6, HI.out.f7, HI.out.f8, HI.out.f9, HI.out.f10, HI.out.f11, HI.out.f12, HI.out.f13, HI.out.f14, HI.out.f15, HI.out.f16, HI.out.f17, (fun _ => rfl), (fun k => absurd (HI.out.o17 k).1 (by rw [hfi]; decide)), HI.out.o12, HI.out.n12, HI.out.o4, HI.out.o16, HI.out.d⟩
        | 2, ho =>
          cases ho
          clear h
          go_simp
          exact hK.out _ _ ⟨v49, v50, _, v52, v53, v54, v55, v56, v57, v58, v59, v60, v61, v62, v63, v64, v65, v1, rfl, HI.out.low, HI.out.f0, HI.out.f1, (fun _ => rfl), HI.out.f3, HI.out.f4, HI.out.f5, HI.out.f6, HI.out.f7, HI.out.f8, HI.out.f9, HI.out.f10, HI.out.f11, HI.out.f12, HI.out.f13, HI.out.f14, HI.out.f15, HI.out.f16, HI.out.f17, HI.out.n1, HI.out.o17, HI.out.o12, HI.out.n12, HI.out.o4, HI.out.o16, HI.out.d⟩
        | 3, ho =>
          cases ho
          have e := h.f1 (hd ⟨1, .data⟩ (by simp) rfl)
          subst e
          have e := h.f2 (hd ⟨2, .data⟩ (by simp) rfl)
          subst e
          clear h
          go_simp
          exact hK.out _ _ ⟨v49, _, _, _, v53, v54, v55, v56, v57, v58, v59, v60, v61, v62, v63, v64, v65, v1, rfl, HI.out.low, HI.out.f0, HI.out.f1, HI.out.f2, (fun _ => rfl), HI.out.f4, HI.out.f5, HI.out.f6, HI.out.f7, HI.out.f8, HI.out.f9, HI.out.f10, HI.out.f11, HI.out.f12, HI.out.f13, HI.out.f14, HI.out.f15, HI.out.f16, HI.out.f17, HI.out.n1, HI.out.o17, HI.out.o12, HI.out.n12, HI.out.o4, HI.out.o16, HI.out.d⟩
        | 4, ho =>
          cases ho
          have d0q := hd ⟨0, .data⟩ (by simp) rfl
          have HDD := Lib.hid (show f 11 = true → v49.ownBlock ≠ v60.ownBlock from fun k => h.d (hd ⟨0, .data⟩ (by simp) rfl) k hfi)
          have hr := h.f0 (hd ⟨0, .data⟩ (by simp) rfl) hfi
          have HR := Lib.hid hr
          have hbs := h.low.size
          have e := h.f3 (hd ⟨3, .data⟩ (by simp) rfl)
          subst e
          have hsrc := (HLB.out.carry h.low (Nat.le_refl _)).takes j
          clear h hd hr
          refine step_append_opt rfl _ _ 71 rfl wB.heap.size 141 i0 (.agg #[.string ⟨#[]⟩, .int .i64 0]) 2 24 Tryz.underlying71 I1.out I2.out I3.out I4.out rfl (by decide) v49 0 ([]) rfl HR.out _ j _ (syCells (l.take j)) rfl (by first | rfl | (simp [syCells_length]; done) | (simp [syCells_length]; omega)) (fun h => by cases h) hsrc (syCells_one _) (by unfold maxLen; omega) (by omega) hbs ?_
          intro v' w' how hg hat
          have hbl := own_below_any HR.out hg hbs
          obtain ⟨og, cg, rfl⟩ := ownsRow_shape how
          exact hK.out _ _ ⟨v49, v50, v51, _, _, v54, v55, v56, v57, v58, v59, v60, v61, v62, v63, v64, v65, v1, rfl, HI.out.low.trans hbl, (fun _ e => nomatch e), HI.out.f1, HI.out.f2, HI.out.f3, (fun _ _ => by simpa using how), HI.out.f5, HI.out.f6, HI.out.f7, HI.out.f8, HI.out.f9, HI.out.f10, (fun k e => by obtain ⟨g, h1, h2, h3, h4⟩ := HI.out.f11 k e; exact ⟨g, h1, h2, Nat.lt_of_lt_of_le h3 hg.size, (hg.block g h3 (fun q => HDD.out k (by rw [h1]; exact q.symm))).trans h4⟩), (fun k => absurd (HI.out.o12 k).1 (by rw [hfi]; decide)), HI.out.f13, HI.out.f14, HI.out.f15, (fun k => absurd (HI.out.o12 (HI.out.o16 k)).1 (by rw [hfi]; decide)), HI.out.f17, HI.out.n1, HI.out.o17, (fun k => absurd (HI.out.o12 k).1 (by rw [hfi]; decide)), HI.out.n12, (fun _ => d0q), HI.out.o16, (fun _ _ e => nomatch e)⟩
        | 5, ho =>
          cases ho
          clear h
          go_simp
          exact hK.out _ _ ⟨v49, v50, v51, v52, v53, _, v55, v56, v57, v58, v59, v60, v61, v62, v63, v64, v65, v1, rfl, HI.out.low, HI.out.f0, HI.out.f1, HI.out.f2, HI.out.f3, HI.out.f4, (fun _ => rfl), HI.out.f6, HI.out.f7, HI.out.f8, HI.out.f9, HI.out.f10, HI.out.f11, HI.out.f12, HI.out.f13, HI.out.f14, HI.out.f15, HI.out.f16, HI.out.f17, HI.out.n1, HI.out.o17, HI.out.o12, HI.out.n12, HI.out.o4, HI.out.o16, HI.out.d⟩
        | 6, ho =>
          cases ho
          have e := h.f5 (hd ⟨5, .data⟩ (by simp) rfl)
          subst e
          obtain ⟨⟨c0, c1, c2⟩, -⟩ := box3 (Eq.trans (h.low.block w.heap.size HN0.out) HBXw.out)
          clear h
          go_simp
          exact hK.out _ _ ⟨v49, v50, v51, v52, v53, _, _, v56, v57, v58, v59, v60, v61, v62, v63, v64, v65, v1, rfl, HI.out.low, HI.out.f0, HI.out.f1, HI.out.f2, HI.out.f3, HI.out.f4, HI.out.f5, (fun _ => rfl), HI.out.f7, HI.out.f8, HI.out.f9, HI.out.f10, HI.out.f11, HI.out.f12, HI.out.f13, HI.out.f14, HI.out.f15, HI.out.f16, HI.out.f17, HI.out.n1, HI.out.o17, HI.out.o12, HI.out.n12, HI.out.o4, HI.out.o16, HI.out.d⟩
        | 7, ho =>
          cases ho
          clear h
          go_simp
          exact hK.out _ _ ⟨v49, v50, v51, v52, v53, v54, v55, _, v57, v58, v59, v60, v61, v62, v63, v64, v65, v1, rfl, HI.out.low, HI.out.f0, HI.out.f1, HI.out.f2, HI.out.f3, HI.out.f4, HI.out.f5, HI.out.f6, (fun _ => rfl), HI.out.f8, HI.out.f9, HI.out.f10, HI.out.f11, HI.out.f12, HI.out.f13, HI.out.f14, HI.out.f15, HI.out.f16, HI.out.f17, HI.out.n1, HI.out.o17, HI.out.o12, HI.out.n12, HI.out.o4, HI.out.o16, HI.out.d⟩
        | 8, ho =>
          cases ho
          have e := h.f7 (hd ⟨7, .data⟩ (by simp) rfl)
          subst e
          obtain ⟨⟨c0, c1, c2⟩, -⟩ := box3 (Eq.trans (h.low.block w.heap.size HN0.out) HBXw.out)
          clear h
          go_simp
          exact hK.out _ _ ⟨v49, v50, v51, v52, v53, v54, v55, _, _, v58, v59, v60, v61, v62, v63, v64, v65, v1, rfl, HI.out.low, HI.out.f0, HI.out.f1, HI.out.f2, HI.out.f3, HI.out.f4, HI.out.f5, HI.out.f6, HI.out.f7, (fun _ => rfl), HI.out.f9, HI.out.f10, HI.out.f11, HI.out.f12, HI.out.f13, HI.out.f14, HI.out.f15, HI.out.f16, HI.out.f17, HI.out.n1, HI.out.o17, HI.out.o12, HI.out.n12, HI.out.o4, HI.out.o16, HI.out.d⟩
        | 9, ho =>
          cases ho
          have e := h.f8 (hd ⟨8, .data⟩ (by simp) rfl)
          subst e
          clear h
          go_simp
          exact hK.out _ _ ⟨v49, v50, v51, v52, v53, v54, v55, v56, _, _, v59, v60, v61, v62, v63, v64, v65, v1, rfl, HI.out.low, HI.out.f0, HI.out.f1, HI.out.f2, HI.out.f3, HI.out.f4, HI.out.f5, HI.out.f6, HI.out.f7, HI.out.f8, (fun _ => rfl), HI.out.f10, HI.out.f11, HI.out.f12, HI.out.f13, HI.out.f14, HI.out.f15, HI.out.f16, HI.out.f17, HI.out.n1, HI.out.o17, HI.out.o12, HI.out.n12, HI.out.o4, HI.out.o16, HI.out.d⟩
        | 10, ho =>
          cases ho
          have e := h.f6 (hd ⟨6, .data⟩ (by simp) rfl)
          subst e
          have e := h.f9 (hd ⟨9, .data⟩ (by simp) rfl)
          subst e
          clear h
          go_simp
          exact hK.out _ _ ⟨v49, v50, v51, v52, v53, v54, _, v56, v57, _, _, v60, v61, v62, v63, v64, v65, v1, rfl, HI.out.low, HI.out.f0, HI.out.f1, HI.out.f2, HI.out.f3, HI.out.f4, HI.out.f5, HI.out.f6, HI.out.f7, HI.out.f8, HI.out.f9, (fun _ => rfl), HI.out.f11, HI.out.f12, HI.out.f13, HI.out.f14, HI.out.f15, HI.out.f16, HI.out.f17, HI.out.n1, HI.out.o17, HI.out.o12, HI.out.n12, HI.out.o4, HI.out.o16, HI.out.d⟩
        | 11, ho =>
          cases ho
          have e := h.f10 (hd ⟨10, .data⟩ (by simp) rfl)
          subst e
          clear h
          go_simp
          have hb := (Below.refl W.heap.size W).alloc (Nat.le_refl _) (.cells #[.string t.nm, .int .i64 t.ts.length] 141)
          have H1 := HI.out.keep hb
          exact hK.out _ (W.alloc (.cells #[.string t.nm, .int .i64 t.ts.length] 141)) ⟨v49, v50, v51, v52, v53, v54, v55, v56, v57, v58, _, _, v61, v62, v63, v64, v65, v1, rfl, H1.low, H1.f0, H1.f1, H1.f2, H1.f3, H1.f4, H1.f5, H1.f6, H1.f7, H1.f8, H1.f9, H1.f10, (fun _ _ => ⟨W.heap.size, rfl, HI.out.low.size, by simp, heap_new_at _ _ _ rfl⟩), H1.f12, H1.f13, H1.f14, H1.f15, H1.f16, H1.f17, H1.n1, H1.o17, (fun k => absurd (HI.out.o12 k).2 (by rw [hfi]; decide)), H1.n12, H1.o4, H1.o16, (fun k _ e => by have := (HI.out.f0 k e).lt; simp only [Value.ownBlock]; intro h; have := (this _ h).2; omega)⟩
        | 12, ho =>
          cases ho
          have d4q := hd ⟨4, .data⟩ (by simp) rfl
          have d11q := hd ⟨11, .data⟩ (by simp) rfl
          obtain ⟨gq, e, h2q, h3q, h4q⟩ := h.f11 d11q hfi
          subst e
          have hr := h.f4 (hd ⟨4, .data⟩ (by simp) rfl) hfi
          have HR := Lib.hid hr
          have hbs := h.low.size
          have hsrc := cells_two_at h4q
          clear h hd hr
          refine step_append_opt rfl _ _ 71 rfl wB.heap.size 141 i0 (.agg #[.string ⟨#[]⟩, .int .i64 0]) 2 24 Tryz.underlying71 I1.out I2.out I3.out I4.out rfl (by decide) v53 j (syCells (l.take j)) rfl HR.out _ 1 _ ([.string t.nm, .int .i64 t.ts.length]) rfl (by first | rfl | (simp [syCells_length]; done) | (simp [syCells_length]; omega)) (fun h => by cases h) hsrc (by simp [Value.oneCell']) (by unfold maxLen; omega) (by omega) hbs ?_
          intro v' w' how hg hat
          have hbl := own_below_any HR.out hg hbs
          obtain ⟨og, cg, rfl⟩ := ownsRow_shape how
          exact hK.out _ _ ⟨v49, v50, v51, v52, v53, v54, v55, v56, v57, v58, v59, _, _, v62, v63, v64, v65, v1, rfl, HI.out.low.trans hbl, (fun _ e => by rw [show flag f 12 4 = f 4 from rfl, d4q] at e; cases e), HI.out.f1, HI.out.f2, HI.out.f3, (fun _ e => nomatch e), HI.out.f5, HI.out.f6, HI.out.f7, HI.out.f8, HI.out.f9, HI.out.f10, (fun _ e => nomatch e), (fun _ _ => how), HI.out.f13, HI.out.f14, HI.out.f15, (fun k => absurd (HI.out.o16 k) (by rw [hfi]; decide)), HI.out.f17, HI.out.n1, HI.out.o17, (fun _ => ⟨d4q, d11q⟩), (fun e => by have := HI.out.o4 d4q; rw [show flag f 12 0 = f 0 from rfl, this] at e; cases e), HI.out.o4, (fun k => absurd (HI.out.o16 k) (by rw [hfi]; decide)), (fun _ _ e => by rw [show flag f 12 4 = f 4 from rfl, d4q] at e; cases e)⟩
        | 13, ho =>
          cases ho
          have e1 := h.n1 (by cases e17 : f 17 with | false => rfl | true => have := (h.o17 e17).2.1; rw [hfi] at this; cases this)
          subst e1
          clear h
          go_simp
          exact hK.out _ _ ⟨v49, v50, v51, v52, v53, v54, v55, v56, v57, v58, v59, v60, v61, _, v63, v64, v65, _, rfl, HI.out.low, HI.out.f0, HI.out.f1, HI.out.f2, HI.out.f3, HI.out.f4, HI.out.f5, HI.out.f6, HI.out.f7, HI.out.f8, HI.out.f9, HI.out.f10, HI.out.f11, HI.out.f12, (fun _ => rfl), HI.out.f14, HI.out.f15, HI.out.f16, HI.out.f17, (fun _ => rfl), (fun k => absurd (HI.out.o17 k).2.1 (by rw [hfi]; decide)), HI.out.o12, HI.out.n12, HI.out.o4, HI.out.o16, HI.out.d⟩
        | 14, ho =>
          cases ho
          clear h
          go_simp
          exact hK.out _ _ ⟨v49, v50, v51, v52, v53, v54, v55, v56, v57, v58, v59, v60, v61, v62, _, v64, v65, v1, rfl, HI.out.low, HI.out.f0, HI.out.f1, HI.out.f2, HI.out.f3, HI.out.f4, HI.out.f5, HI.out.f6, HI.out.f7, HI.out.f8, HI.out.f9, HI.out.f10, HI.out.f11, HI.out.f12, HI.out.f13, (fun _ => rfl), HI.out.f15, HI.out.f16, HI.out.f17, HI.out.n1, HI.out.o17, HI.out.o12, HI.out.n12, HI.out.o4, HI.out.o16, HI.out.d⟩
        | 15, ho =>
          cases ho
          have e := h.f13 (hd ⟨13, .data⟩ (by simp) rfl)
          subst e
          have e := h.f14 (hd ⟨14, .data⟩ (by simp) rfl)
          subst e
          clear h
          go_simp
          exact hK.out _ _ ⟨v49, v50, v51, v52, v53, v54, v55, v56, v57, v58, v59, v60, v61, _, _, _, v65, v1, rfl, HI.out.low, HI.out.f0, HI.out.f1, HI.out.f2, HI.out.f3, HI.out.f4, HI.out.f5, HI.out.f6, HI.out.f7, HI.out.f8, HI.out.f9, HI.out.f10, HI.out.f11, HI.out.f12, HI.out.f13, HI.out.f14, (fun _ => by first | rfl | (rw [show l.length - j = 0 by omega])), HI.out.f16, HI.out.f17, HI.out.n1, HI.out.o17, HI.out.o12, HI.out.n12, HI.out.o4, HI.out.o16, HI.out.d⟩
        | 16, ho =>
          cases ho
          have d12q := hd ⟨12, .data⟩ (by simp) rfl
          have hr := h.f12 (hd ⟨12, .data⟩ (by simp) rfl) hfi
          have HR := Lib.hid hr
          have hbs := h.low.size
          have e := h.f15 (hd ⟨15, .data⟩ (by simp) rfl)
          subst e
          have hsrc := sy_rest W (l := l) (j := j) (by omega) ⟨b1, o1, none⟩
          clear h hd hr
          refine step_append_opt rfl _ _ 71 rfl wB.heap.size 141 i0 (.agg #[.string ⟨#[]⟩, .int .i64 0]) 2 24 Tryz.underlying71 I1.out I2.out I3.out I4.out rfl (by decide) v61 (j + 1) (syCells (l.take j) ++ [.string t.nm, .int .i64 t.ts.length]) rfl HR.out _ (l.length - j) _ (syCells (l.drop j)) rfl (by first | rfl | (simp [syCells_length]; done) | (simp [syCells_length]; omega)) (fun h => by cases h) hsrc (syCells_one _) (by unfold maxLen; omega) (by omega) hbs ?_
          intro v' w' how hg hat
          have hbl := own_below_any HR.out hg hbs
          obtain ⟨og, cg, rfl⟩ := ownsRow_shape how
          exact hK.out _ _ ⟨v49, v50, v51, v52, v53, v54, v55, v56, v57, v58, v59, v60, v61, v62, v63, _, _, v1, rfl, HI.out.low.trans hbl, (fun k e => by rw [show flag f 16 4 = f 4 from rfl, (HI.out.o12 d12q).1] at e; cases e), HI.out.f1, HI.out.f2, HI.out.f3, (fun k e => by rw [show flag f 16 12 = f 12 from rfl, d12q] at e; cases e), HI.out.f5, HI.out.f6, HI.out.f7, HI.out.f8, HI.out.f9, HI.out.f10, (fun k e => by rw [show flag f 16 12 = f 12 from rfl, d12q] at e; cases e), (fun _ e => nomatch e), HI.out.f13, HI.out.f14, HI.out.f15, (fun _ => ⟨⟨_, _, rfl⟩, how⟩), (fun k => absurd (HI.out.o17 k).2.2 (by rw [hfi]; decide)), HI.out.n1, (fun k => absurd (HI.out.o17 k).2.2 (by rw [hfi]; decide)), HI.out.o12, HI.out.n12, HI.out.o4, (fun _ => d12q), (fun _ _ e => by rw [show flag f 16 4 = f 4 from rfl, (HI.out.o12 d12q).1] at e; cases e)⟩
        | 17, ho =>
          cases ho
          have d1 := hd ⟨1, .phase⟩ (by simp) rfl
          have d13 := hd ⟨13, .phase⟩ (by simp) rfl
          have d16 := hd ⟨16, .data⟩ (by simp) rfl
          clear h
          go_simp
          exact hK.out _ _ ⟨v49, v50, v51, v52, v53, v54, v55, v56, v57, v58, v59, v60, v61, v62, v63, v64, v65, _, rfl, HI.out.low, HI.out.f0, HI.out.f1, HI.out.f2, HI.out.f3, HI.out.f4, HI.out.f5, HI.out.f6, HI.out.f7, HI.out.f8, HI.out.f9, HI.out.f10, HI.out.f11, HI.out.f12, HI.out.f13, HI.out.f14, HI.out.f15, HI.out.f16, (fun _ => rfl), (fun e => nomatch e), (fun _ => ⟨d1, d13, d16⟩), HI.out.o12, HI.out.n12, HI.out.o4, HI.out.o16, HI.out.d⟩
        | i + 18, ho => simp at ho
      case hend =>
        rintro z f a Wq HZ ⟨v49, v50, v51, v52, v53, v54, v55, v56, v57, v58, v59, v60, v61, v62, v63, v64, v65, v1, rfl, h⟩ hall
        have e17 := h.f17 (hall 17 (by simp))
        subst e17
        obtain ⟨⟨og, cg, e⟩, how⟩ := h.f16 (hall 16 (by simp))
        subst e
        have HLO := Lib.hid h.low
        have hrow : Wq.ownsRow wB.heap.size 141 2 (.slice og (j + 1 + (l.length - j)) cg) (l.take j ++ [(t.nm.data.toList, (t.ts.length : Int))] ++ l.drop j).length (syCells (l.take j ++ [(t.nm.data.toList, (t.ts.length : Int))] ++ l.drop j)) := by
          rw [syCells_append, syCells_append, sy_one, ins_len _ hj, show l.length + 1 = j + 1 + (l.length - j) by omega]; exact how
        have HOW := Lib.hid hrow
        have HON := Lib.hid (show SyN (.slice og (j + 1 + (l.length - j)) cg : Value) by
          refine ⟨fun m k e => ?_, fun a m k e => ?_⟩
          · cases e
            rcases how.2 with ⟨-, hl⟩ | ⟨g, cap, cur, e, -⟩
            · omega
            · cases e
          · cases e
            rcases how.2 with ⟨e, -⟩ | ⟨g, cap, cur, e, -⟩
            · cases e
            · cases e; rfl)
        clear h hall how hrow
        have hz := HZ.out
        clear HZ
        subst hz
        go_wp2_with fail
        go_meet
        exact ⟨_, l.take j ++ [(t.nm.data.toList, (t.ts.length : Int))] ++ l.drop j, (t.ts.length : Int), rfl, Lib.hid (SyIs.ofRow HOW.out), HON, Lib.hid (SyOrd.ins HO.out hj HLS.out (fun x hx => ⟨HT48.out x hx, HNL.out x hx⟩)), Lib.hid (fun p hp => (ins_mem hp).elim (HNM.out p) (fun e => by rw [e]; exact htk)), Nat.le_of_eq (ins_len _ hj), Lib.hid (ins_at _ hj), Lib.hid (ins_sub _ j), HLO⟩

    · clear HNN
      refine wp_region_invE (Rs9nv w.heap.size wB l j t (.slice (some ⟨b1, o1, none⟩) l.length cl) (.slice oa t.ts.length ca) (.slice (some ⟨b1, o1, none⟩) j cl) (.slice (some ⟨b1, o1 + j * 2, none⟩) (l.length - j) (cl - j))) (by kernel_rfl) (by kernel_rfl) ?h0 ?hend ?hstep
      case h0 => exact ⟨_, _, _, _, _, _, _, _, _, _, _, _, _, _, _, _, _, _, rfl, (Below.refl _ wB).drew, nofun, nofun, nofun, nofun, nofun, nofun, nofun, nofun, nofun, nofun, nofun, nofun, nofun, nofun, nofun, nofun, nofun, nofun, (fun _ => rfl), nofun, nofun, (fun _ => rfl), nofun, nofun, nofun⟩
      case hstep =>
        rintro z i o ho f a W ⟨v49, v50, v51, v52, v53, v54, v55, v56, v57, v58, v59, v60, v61, v62, v63, v64, v65, v1, rfl, h⟩ hfi hd K' hK
        have HI := Lib.hid h
        match i, ho with
        | 0, ho =>
          cases ho
          clear h
          go_simp
          have hb := (Below.refl W.heap.size W).alloc (Nat.le_refl _) (.cells #[] 141)
          have H1 := HI.out.keep hb
          exact hK.out _ (W.alloc (.cells #[] 141)) ⟨_, v50, v51, v52, v53, v54, v55, v56, v57, v58, v59, v60, v61, v62, v63, v64, v65, v1, rfl, H1.low, (fun _ _ => ⟨by simp, .inr ⟨W.heap.size, 0, #[], rfl, HI.out.low.size, heap_new_at _ _ _ rfl, Nat.le_refl _, by simp, by simp, by simp⟩⟩), H1.f1, H1.f2, H1.f3, H1.f4, H1.f5, H1.f6, H1.f7, H1.f8, H1.f9, H1.f10, H1.f11, H1.f12, H1.f13, H1.f14, H1.f15, H1.f16, H1.f17, H1.n1, H1.o17, H1.o12, (fun k => nomatch k), (fun _ => rfl), H1.o16, (fun _ k _ => by obtain ⟨g, e, -, h3, -⟩ := HI.out.f11 k (HI.out.n12 hfi); rw [e]; simp [Value.ownBlock]; omega)⟩
        | 1, ho =>
          cases ho
          have e1 := h.n1 (by cases e17 : f 17 with | false => rfl | true => have := (h.o17 e17).1; rw [hfi] at this; cases this)
          subst e1
          clear h
          go_simp
          exact hK.out _ _ ⟨v49, _, v51, v52, v53, v54, v55, v56, v57, v58, v59, v60, v61, v62, v63, v64, v65, _, rfl, HI.out.low, HI.out.f0, (fun _ => rfl), HI.out.f2, HI.out.f3, HI.out.f4, HI.out.f5, HI.out.f6, HI.out.f7, HI.out.f8, HI.out.f9, HI.out.f10, HI.out.f11, HI.out.f12, HI.out.f13, HI.out.f14, HI.out.f15, HI.out.f16, HI.out.f17, (fun _ => rfl), (fun k => absurd (HI.out.o17 k).1 (by rw [hfi]; decide)), HI.out.o12, HI.out.n12, HI.out.o4, HI.out.o16, HI.out.d⟩
        | 2, ho =>
          cases ho
          clear h
          go_simp
          exact hK.out _ _ ⟨v49, v50, _, v52, v53, v54, v55, v56, v57, v58, v59, v60, v61, v62, v63, v64, v65, v1, rfl, HI.out.low, HI.out.f0, HI.out.f1, (fun _ => rfl), HI.out.f3, HI.out.f4, HI.out.f5, HI.out.f6, HI.out.f7, HI.out.f8, HI.out.f9, HI.out.f10, HI.out.f11, HI.out.f12, HI.out.f13, HI.out.f14, HI.out.f15, HI.out.f16, HI.out.f17, HI.out.n1, HI.out.o17, HI.out.o12, HI.out.n12, HI.out.o4, HI.out.o16, HI.out.d⟩
        | 3, ho =>
          cases ho
          have e := h.f1 (hd ⟨1, .data⟩ (by simp) rfl)
          subst e
          have e := h.f2 (hd ⟨2, .data⟩ (by simp) rfl)
          subst e
          clear h
          go_simp
          exact hK.out _ _ ⟨v49, _, _, _, v53, v54, v55, v56, v57, v58, v59, v60, v61, v62, v63, v64, v65, v1, rfl, HI.out.low, HI.out.f0, HI.out.f1, HI.out.f2, (fun _ => rfl), HI.out.f4, HI.out.f5, HI.out.f6, HI.out.f7, HI.out.f8, HI.out.f9, HI.out.f10, HI.out.f11, HI.out.f12, HI.out.f13, HI.out.f14, HI.out.f15, HI.out.f16, HI.out.f17, HI.out.n1, HI.out.o17, HI.out.o12, HI.out.n12, HI.out.o4, HI.out.o16, HI.out.d⟩
        | 4, ho =>
          cases ho
          have d0q := hd ⟨0, .data⟩ (by simp) rfl
          have HDD := Lib.hid (show f 11 = true → v49.ownBlock ≠ v60.ownBlock from fun k => h.d (hd ⟨0, .data⟩ (by simp) rfl) k hfi)
          have hr := h.f0 (hd ⟨0, .data⟩ (by simp) rfl) hfi
          have HR := Lib.hid hr
          have hbs := h.low.size
          have e := h.f3 (hd ⟨3, .data⟩ (by simp) rfl)
          subst e
          have hsrc := (HLB.out.carry h.low (Nat.le_refl _)).takes j
          clear h hd hr
          refine step_append_opt rfl _ _ 71 rfl wB.heap.size 141 i0 (.agg #[.string ⟨#[]⟩, .int .i64 0]) 2 24 Tryz.underlying71 I1.out I2.out I3.out I4.out rfl (by decide) v49 0 ([]) rfl HR.out _ j _ (syCells (l.take j)) rfl (by first | rfl | (simp [syCells_length]; done) | (simp [syCells_length]; omega)) (fun h => by cases h) hsrc (syCells_one _) (by unfold maxLen; omega) (by omega) hbs ?_
          intro v' w' how hg hat
          have hbl := own_below_any HR.out hg hbs
          obtain ⟨og, cg, rfl⟩ := ownsRow_shape how
          exact hK.out _ _ ⟨v49, v50, v51, _, _, v54, v55, v56, v57, v58, v59, v60, v61, v62, v63, v64, v65, v1, rfl, HI.out.low.trans hbl, (fun _ e => nomatch e), HI.out.f1, HI.out.f2, HI.out.f3, (fun _ _ => by simpa using how), HI.out.f5, HI.out.f6, HI.out.f7, HI.out.f8, HI.out.f9, HI.out.f10, (fun k e => by obtain ⟨g, h1, h2, h3, h4⟩ := HI.out.f11 k e; exact ⟨g, h1, h2, Nat.lt_of_lt_of_le h3 hg.size, (hg.block g h3 (fun q => HDD.out k (by rw [h1]; exact q.symm))).trans h4⟩), (fun k => absurd (HI.out.o12 k).1 (by rw [hfi]; decide)), HI.out.f13, HI.out.f14, HI.out.f15, (fun k => absurd (HI.out.o12 (HI.out.o16 k)).1 (by rw [hfi]; decide)), HI.out.f17, HI.out.n1, HI.out.o17, (fun k => absurd (HI.out.o12 k).1 (by rw [hfi]; decide)), HI.out.n12, (fun _ => d0q), HI.out.o16, (fun _ _ e => nomatch e)⟩
        | 5, ho =>
          cases ho
          clear h
          go_simp
          exact hK.out _ _ ⟨v49, v50, v51, v52, v53, _, v55, v56, v57, v58, v59, v60, v61, v62, v63, v64, v65, v1, rfl, HI.out.low, HI.out.f0, HI.out.f1, HI.out.f2, HI.out.f3, HI.out.f4, (fun _ => rfl), HI.out.f6, HI.out.f7, HI.out.f8, HI.out.f9, HI.out.f10, HI.out.f11, HI.out.f12, HI.out.f13, HI.out.f14, HI.out.f15, HI.out.f16, HI.out.f17, HI.out.n1, HI.out.o17, HI.out.o12, HI.out.n12, HI.out.o4, HI.out.o16, HI.out.d⟩
        | 6, ho =>
          cases ho
          have e := h.f5 (hd ⟨5, .data⟩ (by simp) rfl)
          subst e
          obtain ⟨⟨c0, c1, c2⟩, -⟩ := box3 (Eq.trans (h.low.block w.heap.size HN0.out) HBXw.out)
          clear h
          go_simp
          exact hK.out _ _ ⟨v49, v50, v51, v52, v53, _, _, v56, v57, v58, v59, v60, v61, v62, v63, v64, v65, v1, rfl, HI.out.low, HI.out.f0, HI.out.f1, HI.out.f2, HI.out.f3, HI.out.f4, HI.out.f5, (fun _ => rfl), HI.out.f7, HI.out.f8, HI.out.f9, HI.out.f10, HI.out.f11, HI.out.f12, HI.out.f13, HI.out.f14, HI.out.f15, HI.out.f16, HI.out.f17, HI.out.n1, HI.out.o17, HI.out.o12, HI.out.n12, HI.out.o4, HI.out.o16, HI.out.d⟩
        | 7, ho =>
          cases ho
          clear h
          go_simp
          exact hK.out _ _ ⟨v49, v50, v51, v52, v53, v54, v55, _, v57, v58, v59, v60, v61, v62, v63, v64, v65, v1, rfl, HI.out.low, HI.out.f0, HI.out.f1, HI.out.f2, HI.out.f3, HI.out.f4, HI.out.f5, HI.out.f6, (fun _ => rfl), HI.out.f8, HI.out.f9, HI.out.f10, HI.out.f11, HI.out.f12, HI.out.f13, HI.out.f14, HI.out.f15, HI.out.f16, HI.out.f17, HI.out.n1, HI.out.o17, HI.out.o12, HI.out.n12, HI.out.o4, HI.out.o16, HI.out.d⟩
        | 8, ho =>
          cases ho
          have e := h.f7 (hd ⟨7, .data⟩ (by simp) rfl)
          subst e
          obtain ⟨⟨c0, c1, c2⟩, -⟩ := box3 (Eq.trans (h.low.block w.heap.size HN0.out) HBXw.out)
          clear h
          go_simp
          exact hK.out _ _ ⟨v49, v50, v51, v52, v53, v54, v55, _, _, v58, v59, v60, v61, v62, v63, v64, v65, v1, rfl, HI.out.low, HI.out.f0, HI.out.f1, HI.out.f2, HI.out.f3, HI.out.f4, HI.out.f5, HI.out.f6, HI.out.f7, (fun _ => rfl), HI.out.f9, HI.out.f10, HI.out.f11, HI.out.f12, HI.out.f13, HI.out.f14, HI.out.f15, HI.out.f16, HI.out.f17, HI.out.n1, HI.out.o17, HI.out.o12, HI.out.n12, HI.out.o4, HI.out.o16, HI.out.d⟩
        | 9, ho =>
          cases ho
          have e := h.f8 (hd ⟨8, .data⟩ (by simp) rfl)
          subst e
          clear h
          go_simp
          exact hK.out _ _ ⟨v49, v50, v51, v52, v53, v54, v55, v56, _, _, v59, v60, v61, v62, v63, v64, v65, v1, rfl, HI.out.low, HI.out.f0, HI.out.f1, HI.out.f2, HI.out.f3, HI.out.f4, HI.out.f5, HI.out.f6, HI.out.f7, HI.out.f8, (fun _ => rfl), HI.out.f10, HI.out.f11, HI.out.f12, HI.out.f13, HI.out.f14, HI.out.f15, HI.out.f16, HI.out.f17, HI.out.n1, HI.out.o17, HI.out.o12, HI.out.n12, HI.out.o4, HI.out.o16, HI.out.d⟩
        | 10, ho =>
          cases ho
          have e := h.f6 (hd ⟨6, .data⟩ (by simp) rfl)
          subst e
          have e := h.f9 (hd ⟨9, .data⟩ (by simp) rfl)
          subst e
          clear h
          go_simp
          exact hK.out _ _ ⟨v49, v50, v51, v52, v53, v54, _, v56, v57, _, _, v60, v61, v62, v63, v64, v65, v1, rfl, HI.out.low, HI.out.f0, HI.out.f1, HI.out.f2, HI.out.f3, HI.out.f4, HI.out.f5, HI.out.f6, HI.out.f7, HI.out.f8, HI.out.f9, (fun _ => rfl), HI.out.f11, HI.out.f12, HI.out.f13, HI.out.f14, HI.out.f15, HI.out.f16, HI.out.f17, HI.out.n1, HI.out.o17, HI.out.o12, HI.out.n12, HI.out.o4, HI.out.o16, HI.out.d⟩
        | 11, ho =>
          cases ho
          have e := h.f10 (hd ⟨10, .data⟩ (by simp) rfl)
          subst e
          clear h
          go_simp
          have hb := (Below.refl W.heap.size W).alloc (Nat.le_refl _) (.cells #[.string t.nm, .int .i64 t.ts.length] 141)
          have H1 := HI.out.keep hb
          exact hK.out _ (W.alloc (.cells #[.string t.nm, .int .i64 t.ts.length] 141)) ⟨v49, v50, v51, v52, v53, v54, v55, v56, v57, v58, _, _, v61, v62, v63, v64, v65, v1, rfl, H1.low, H1.f0, H1.f1, H1.f2, H1.f3, H1.f4, H1.f5, H1.f6, H1.f7, H1.f8, H1.f9, H1.f10, (fun _ _ => ⟨W.heap.size, rfl, HI.out.low.size, by simp, heap_new_at _ _ _ rfl⟩), H1.f12, H1.f13, H1.f14, H1.f15, H1.f16, H1.f17, H1.n1, H1.o17, (fun k => absurd (HI.out.o12 k).2 (by rw [hfi]; decide)), H1.n12, H1.o4, H1.o16, (fun k _ e => by have := (HI.out.f0 k e).lt; simp only [Value.ownBlock]; intro h; have := (this _ h).2; omega)⟩
        | 12, ho =>
          cases ho
          have d4q := hd ⟨4, .data⟩ (by simp) rfl
          have d11q := hd ⟨11, .data⟩ (by simp) rfl
          obtain ⟨gq, e, h2q, h3q, h4q⟩ := h.f11 d11q hfi
          subst e
          have hr := h.f4 (hd ⟨4, .data⟩ (by simp) rfl) hfi
          have HR := Lib.hid hr
          have hbs := h.low.size
          have hsrc := cells_two_at h4q
          clear h hd hr
          refine step_append_opt rfl _ _ 71 rfl wB.heap.size 141 i0 (.agg #[.string ⟨#[]⟩, .int .i64 0]) 2 24 Tryz.underlying71 I1.out I2.out I3.out I4.out rfl (by decide) v53 j (syCells (l.take j)) rfl HR.out _ 1 _ ([.string t.nm, .int .i64 t.ts.length]) rfl (by first | rfl | (simp [syCells_length]; done) | (simp [syCells_length]; omega)) (fun h => by cases h) hsrc (by simp [Value.oneCell']) (by unfold maxLen; omega) (by omega) hbs ?_
          intro v' w' how hg hat
          have hbl := own_below_any HR.out hg hbs
          obtain ⟨og, cg, rfl⟩ := ownsRow_shape how
          exact hK.out _ _ ⟨v49, v50, v51, v52, v53, v54, v55, v56, v57, v58, v59, _, _, v62, v63, v64, v65, v1, rfl, HI.out.low.trans hbl, (fun _ e => by rw [show flag f 12 4 = f 4 from rfl, d4q] at e; cases e), HI.out.f1, HI.out.f2, HI.out.f3, (fun _ e => nomatch e), HI.out.f5, HI.out.f6, HI.out.f7, HI.out.f8, HI.out.f9, HI.out.f10, (fun _ e => nomatch e), (fun _ _ => how), HI.out.f13, HI.out.f14, HI.out.f15, (fun k => absurd (HI.out.o16 k) (by rw [hfi]; decide)), HI.out.f17, HI.out.n1, HI.out.o17, (fun _ => ⟨d4q, d11q⟩), (fun e => by have := HI.out.o4 d4q; rw [show flag f 12 0 = f 0 from rfl, this] at e; cases e), HI.out.o4, (fun k => absurd (HI.out.o16 k) (by rw [hfi]; decide)), (fun _ _ e => by rw [show flag f 12 4 = f 4 from rfl, d4q] at e; cases e)⟩
        | 13, ho =>
          cases ho
          have e1 := h.n1 (by cases e17 : f 17 with | false => rfl | true => have := (h.o17 e17).2.1; rw [hfi] at this; cases this)
          subst e1
          clear h
          go_simp
          exact hK.out _ _ ⟨v49, v50, v51, v52, v53, v54, v55, v56, v57, v58, v59, v60, v61, _, v63, v64, v65, _, rfl, HI.out.low, HI.out.f0, HI.out.f1, HI.out.f2, HI.out.f3, HI.out.f4, HI.out.f5, HI.out.f6, HI.out.f7, HI.out.f8, HI.out.f9, HI.out.f10, HI.out.f11, HI.out.f12, (fun _ => rfl), HI.out.f14, HI.out.f15, HI.out.f16, HI.out.f17, (fun _ => rfl), (fun k => absurd (HI.out.o17 k).2.1 (by rw [hfi]; decide)), HI.out.o12, HI.out.n12, HI.out.o4, HI.out.o16, HI.out.d⟩
        | 14, ho =>
          cases ho
          clear h
          go_simp
          exact hK.out _ _ ⟨v49, v50, v51, v52, v53, v54, v55, v56, v57, v58, v59, v60, v61, v62, _, v64, v65, v1, rfl, HI.out.low, HI.out.f0, HI.out.f1, HI.out.f2, HI.out.f3, HI.out.f4, HI.out.f5, HI.out.f6, HI.out.f7, HI.out.f8, HI.out.f9, HI.out.f10, HI.out.f11, HI.out.f12, HI.out.f13, (fun _ => rfl), HI.out.f15, HI.out.f16, HI.out.f17, HI.out.n1, HI.out.o17, HI.out.o12, HI.out.n12, HI.out.o4, HI.out.o16, HI.out.d⟩
        | 15, ho =>
          cases ho
          have e := h.f13 (hd ⟨13, .data⟩ (by simp) rfl)
          subst e
          have e := h.f14 (hd ⟨14, .data⟩ (by simp) rfl)
          subst e
          clear h
          go_simp
          exact hK.out _ _ ⟨v49, v50, v51, v52, v53, v54, v55, v56, v57, v58, v59, v60, v61, _, _, _, v65, v1, rfl, HI.out.low, HI.out.f0, HI.out.f1, HI.out.f2, HI.out.f3, HI.out.f4, HI.out.f5, HI.out.f6, HI.out.f7, HI.out.f8, HI.out.f9, HI.out.f10, HI.out.f11, HI.out.f12, HI.out.f13, HI.out.f14, (fun _ => by first | rfl | (rw [show l.length - j = 0 by omega])), HI.out.f16, HI.out.f17, HI.out.n1, HI.out.o17, HI.out.o12, HI.out.n12, HI.out.o4, HI.out.o16, HI.out.d⟩
        | 16, ho =>
          cases ho
          have d12q := hd ⟨12, .data⟩ (by simp) rfl
          have hr := h.f12 (hd ⟨12, .data⟩ (by simp) rfl) hfi
          have HR := Lib.hid hr
          have hbs := h.low.size
          have e := h.f15 (hd ⟨15, .data⟩ (by simp) rfl)
          subst e
          have hsrc := (HLB.out.carry h.low (Nat.le_refl _)).drops hj
          clear h hd hr
          refine step_append_opt rfl _ _ 71 rfl wB.heap.size 141 i0 (.agg #[.string ⟨#[]⟩, .int .i64 0]) 2 24 Tryz.underlying71 I1.out I2.out I3.out I4.out rfl (by decide) v61 (j + 1) (syCells (l.take j) ++ [.string t.nm, .int .i64 t.ts.length]) rfl HR.out _ (l.length - j) _ (syCells (l.drop j)) rfl (by first | rfl | (simp [syCells_length]; done) | (simp [syCells_length]; omega)) (fun h => by cases h) hsrc (syCells_one _) (by unfold maxLen; omega) (by omega) hbs ?_
          intro v' w' how hg hat
          have hbl := own_below_any HR.out hg hbs
          obtain ⟨og, cg, rfl⟩ := ownsRow_shape how
          exact hK.out _ _ ⟨v49, v50, v51, v52, v53, v54, v55, v56, v57, v58, v59, v60, v61, v62, v63, _, _, v1, rfl, HI.out.low.trans hbl, (fun k e => by rw [show flag f 16 4 = f 4 from rfl, (HI.out.o12 d12q).1] at e; cases e), HI.out.f1, HI.out.f2, HI.out.f3, (fun k e => by rw [show flag f 16 12 = f 12 from rfl, d12q] at e; cases e), HI.out.f5, HI.out.f6, HI.out.f7, HI.out.f8, HI.out.f9, HI.out.f10, (fun k e => by rw [show flag f 16 12 = f 12 from rfl, d12q] at e; cases e), (fun _ e => nomatch e), HI.out.f13, HI.out.f14, HI.out.f15, (fun _ => ⟨⟨_, _, rfl⟩, how⟩), (fun k => absurd (HI.out.o17 k).2.2 (by rw [hfi]; decide)), HI.out.n1, (fun k => absurd (HI.out.o17 k).2.2 (by rw [hfi]; decide)), HI.out.o12, HI.out.n12, HI.out.o4, (fun _ => d12q), (fun _ _ e => by rw [show flag f 16 4 = f 4 from rfl, (HI.out.o12 d12q).1] at e; cases e)⟩
        | 17, ho =>
          cases ho
          have d1 := hd ⟨1, .phase⟩ (by simp) rfl
          have d13 := hd ⟨13, .phase⟩ (by simp) rfl
          have d16 := hd ⟨16, .data⟩ (by simp) rfl
          clear h
          go_simp
          exact hK.out _ _ ⟨v49, v50, v51, v52, v53, v54, v55, v56, v57, v58, v59, v60, v61, v62, v63, v64, v65, _, rfl, HI.out.low, HI.out.f0, HI.out.f1, HI.out.f2, HI.out.f3, HI.out.f4, HI.out.f5, HI.out.f6, HI.out.f7, HI.out.f8, HI.out.f9, HI.out.f10, HI.out.f11, HI.out.f12, HI.out.f13, HI.out.f14, HI.out.f15, HI.out.f16, (fun _ => rfl), (fun e => nomatch e), (fun _ => ⟨d1, d13, d16⟩), HI.out.o12, HI.out.n12, HI.out.o4, HI.out.o16, HI.out.d⟩
        | i + 18, ho => simp at ho
      case hend =>
        rintro z f a Wq HZ ⟨v49, v50, v51, v52, v53, v54, v55, v56, v57, v58, v59, v60, v61, v62, v63, v64, v65, v1, rfl, h⟩ hall
        have e17 := h.f17 (hall 17 (by simp))
        subst e17
        obtain ⟨⟨og, cg, e⟩, how⟩ := h.f16 (hall 16 (by simp))
        subst e
        have HLO := Lib.hid h.low
        have hrow : Wq.ownsRow wB.heap.size 141 2 (.slice og (j + 1 + (l.length - j)) cg) (l.take j ++ [(t.nm.data.toList, (t.ts.length : Int))] ++ l.drop j).length (syCells (l.take j ++ [(t.nm.data.toList, (t.ts.length : Int))] ++ l.drop j)) := by
          rw [syCells_append, syCells_append, sy_one, ins_len _ hj, show l.length + 1 = j + 1 + (l.length - j) by omega]; exact how
        have HOW := Lib.hid hrow
        have HON := Lib.hid (show SyN (.slice og (j + 1 + (l.length - j)) cg : Value) by
          refine ⟨fun m k e => ?_, fun a m k e => ?_⟩
          · cases e
            rcases how.2 with ⟨-, hl⟩ | ⟨g, cap, cur, e, -⟩
            · omega
            · cases e
          · cases e
            rcases how.2 with ⟨e, -⟩ | ⟨g, cap, cur, e, -⟩
            · cases e
            · cases e; rfl)
        clear h hall how hrow
        have hz := HZ.out
        clear HZ
        subst hz
        go_wp2_with fail
        go_meet
        exact ⟨_, l.take j ++ [(t.nm.data.toList, (t.ts.length : Int))] ++ l.drop j, (t.ts.length : Int), rfl, Lib.hid (SyIs.ofRow HOW.out), HON, Lib.hid (SyOrd.ins HO.out hj HLS.out (fun x hx => ⟨HT48.out x hx, HNL.out x hx⟩)), Lib.hid (fun p hp => (ins_mem hp).elim (HNM.out p) (fun e => by rw [e]; exact htk)), Nat.le_of_eq (ins_len _ hj), Lib.hid (ins_at _ hj), Lib.hid (ins_sub _ j), HLO⟩
  case rest =>
  obtain ⟨v2, l2, n2, rfl, HL2, HNN2, HO2, HNM2, hl2, HAT, HSUB, HBW2⟩ := hcut
  have HBXc := Lib.hid ((HBW2.out.block w.heap.size (Array.getElem?_eq_some_iff.1 HBXw.out).1).trans HBXw.out)
  have HBWc := Lib.hid (HBW1.out.trans (HBW2.out.mono HBW1.out.size))
  obtain ⟨⟨x0, x1, x2⟩, -⟩ := box3 HBXc.out
  obtain ⟨ol2, cl2, rfl, hcap2⟩ := HL2.out.form
  have hj2 : j < l2.length := (List.getElem?_eq_some_iff.1 HAT.out).1
  obtain ⟨b2, o2, rfl, hbl2, -, a1⟩ := HL2.out.get HAT.out
  by_cases har : n2 = (t.ts.length : Int)
  rotate_left
  · have hne : (n2 != (t.ts.length : Int)) = true := by simpa using har
    clear har
    go_wp2_with fail
    go_quiet (fail)
    go_wp2_with fail
    refine bodyPost_ret (v := .tuple #[.slice (some ⟨b2, o2, none⟩) l2.length cl2, .bool false]) (by simp [results, Tryz.f175, go_sem]) rfl ?_
    exact ⟨⟨_, l2, false, rfl, HL2.out.carry (below_drewN nq (Below.refl _ _)) (by simp), HNN2.out, RsyR.no _ HO2.out HNM2.out (by omega)⟩, below_drewN nq HBWc.out⟩
  have hne : (n2 != (t.ts.length : Int)) = false := by simpa using har
  have HMEM := Lib.hid (show (t.nm.data.toList, (t.ts.length : Int)) ∈ l2 by rw [← har]; exact List.mem_of_getElem? HAT.out)
  clear har HAT
  go_wp2_with fail
  go_quiet (fail)
  have HLq := Lib.hid (HL2.out.carry (below_drewN nq (Below.refl wc.heap.size wc)) (m := (wc.drewN nq).heap.size) (by simp))
  have HBq := Lib.hid (below_drewN nq HBWc.out)
  have HXq := Lib.hid (show (wc.drewN nq).heap[w.heap.size]? = _ from by simpa using HBXc.out)
  clear x0 x1 x2 a1 HL2 HBWc HBXc hne
  generalize wc.drewN nq = wq at *
  obtain ⟨⟨x0, x1, x2⟩, -⟩ := box3 HXq.out
  go_wp2_with fail
  go_loopw [1, 79] (fun s1 i wr => ∃ (k : Nat) (l3 : List Sy), k ≤ t.ts.length ∧ i = .int .i64 k ∧ Hid (SyIs wr.heap.size wr l3 s1) ∧ Hid (SyN s1) ∧ Hid (RsyR l2 (Tm.nodesL (d + 1) (t.ts.take k)) (Tm.sizes (t.ts.take k)) l3 true) ∧ Hid (Below w.heap.size w wr)) (fun _ i _ => t.ts.length - (intOf i).toNat)
  case atStart => exact ⟨0, l2, by omega, rfl, HLq, HNN2, Lib.hid ⟨HO2.out, HNM2.out, by omega, fun _ => ⟨fun _ h => h, fun v hv => by simp [Tm.nodesL] at hv⟩⟩, HBq⟩
  case round =>
    clear x0 x1 x2
    obtain ⟨k, l3, hk, rfl, HL3, HNN3, HR3, HB3⟩ := hrel
    by_cases hltk : k < t.ts.length
    · obtain ⟨b, o, u, su, rfl, hbb, hu, hum, hus, c0, c1, c2⟩ := (HS.out.carry HB3.out (Nat.le_refl _)).get (k := k) hltk
      obtain ⟨ou, cu, rfl, -⟩ := hus.form
      obtain ⟨ov, cv, rfl, hcapv⟩ := HL3.out.form
      have hub : u.bulk ≤ 1048576 := by have := Tm.bulk_mem hum; have := Tm.bulk_eq t; omega
      have hsz2 : Tm.sizes (t.ts.take (k + 1)) = Tm.sizes (t.ts.take k) + u.size := by rw [Tm.take_snoc hu, Tm.sizes_append]; simp [Tm.sizes]
      have hle : Tm.sizes (t.ts.take (k + 1)) ≤ Tm.sizes t.ts := Tm.sizes_take _ _
      have hll : l3.length + u.size ≤ 4294967296 := by have := HR3.out.len; have := HSZ.out; omega
      have hba : Below wr.heap.size wr (wr.alloc (.cells #[.string u.nm, .bool u.vr, .slice ou u.ts.length cu] 25)) := (Below.refl wr.heap.size wr).alloc (Nat.le_refl _) _
      have HBn := Lib.hid (HB3.out.trans (hba.mono HB3.out.size))
      have HC := Lib.hid (IH.out u hum (d + 1) (.slice ou u.ts.length cu) (.slice ov l3.length cv) l3 (wr.alloc (.cells #[.string u.nm, .bool u.vr, .slice ou u.ts.length cu] 25)) (hus.carry (hba.mono HB3.out.size) HBn.out.size) (HBA.out.kids u hum) hub (HL3.out.carry hba hba.size) HNN3.out HR3.out.ord hll HR3.out.nms)
      have HSN : Hid (Tm.nodesL (d + 1) (t.ts.take (k + 1)) = Tm.nodesL (d + 1) (t.ts.take k) ++ u.nodes (d + 1)) := Lib.hid (by rw [Tm.take_snoc hu, Tm.nodesL_append]; simp [Tm.nodesL])
      have HL3b := Lib.hid (HL3.out.carry hba hba.size)
      have HZ2 := Lib.hid hsz2
      clear hu hum hus hsz2 hle hll hba
      go_wp2_with fail
      refine HC.out.mono ?_
      rintro e w4 ⟨⟨v', l4, b4, rfl, hl4, hnn4, hr4⟩, hb4⟩
      have HL4 := Lib.hid hl4
      have HNN4 := Lib.hid hnn4
      have HR4 := Lib.hid hr4
      have HB4 := Lib.hid (HBn.out.trans (hb4.mono HBn.out.size))
      have HL3c := Lib.hid (HL3b.out.carry hb4 hb4.size)
      clear hl4 hnn4 hr4 hb4 HC
      cases b4 with
      | false =>
        go_wp2_with fail
        refine bodyPost_ret (v := .tuple #[.slice ov l3.length cv, .bool false]) (by simp [results, Tryz.f175, go_sem]) rfl ?_
        exact ⟨⟨_, l3, false, rfl, HL3c.out, HNN3.out, RsyR.no _ HR3.out.ord HR3.out.nms (by have := HR3.out.len; have := HSZ.out; have := Tm.sizes_take t.ts k; omega)⟩, HB4.out⟩
      | true =>
        obtain ⟨o4, c4, rfl, -⟩ := HL4.out.form
        have HR5 : Hid (RsyR l2 (Tm.nodesL (d + 1) (t.ts.take (k + 1))) (Tm.sizes (t.ts.take (k + 1))) l4 true) := Lib.hid ⟨HR4.out.ord, HR4.out.nms, by have := HR4.out.len; have := HR3.out.len; have := HZ2.out; omega, fun _ => ⟨fun p hp => (HR4.out.yes rfl).1 p ((HR3.out.yes rfl).1 p hp), by rw [HSN.out]; exact ((HR3.out.yes rfl).2.mono (HR4.out.yes rfl).1).append (HR4.out.yes rfl).2⟩⟩
        go_wp2_with fail
        exact ⟨⟨k + 1, l4, by omega, by go_num, HL4, HNN4, HR5, HB4⟩, by simp [intOf]; omega⟩
    · obtain rfl : k = t.ts.length := by omega
      obtain ⟨ov, cv, rfl, hcapv⟩ := HL3.out.form
      have HR6 : Hid (RsyR l (t.nodes d) t.size l3 true) := Lib.hid (by
        have h := HR3.out
        rw [List.take_length] at h
        refine ⟨h.ord, h.nms, by have := h.len; have := HSZ.out; omega, fun _ => ⟨fun p hp => (h.yes rfl).1 p (HSUB.out p hp), ?_⟩⟩
        rw [HND.out]
        intro v hv e
        rcases List.mem_cons.1 hv with rfl | hv
        · exact ⟨HMK.out, (h.yes rfl).1 _ HMEM.out⟩
        · exact (h.yes rfl).2 v hv e)
      go_wp2_with fail
      refine bodyPost_ret (v := .tuple #[.slice ov l3.length cv, .bool true]) (by simp [results, Tryz.f175, go_sem]) rfl ?_
      exact ⟨⟨_, l3, true, rfl, HL3.out, HNN3.out, HR6.out⟩, HB3.out⟩
end Go.Proofs.YtnomppdmhgefiaaGreat
