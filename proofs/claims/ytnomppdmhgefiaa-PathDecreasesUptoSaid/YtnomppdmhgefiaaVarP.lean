/- Merged: Cln, Tmn, Can, Can2, VarP. -/
import Derived.WalkKit
import Derived.ProofKit
import Derived.OpenShut
import Derived.Handy
import Derived.Lib.Hide
import Derived.Test.YtnomppdmhgefiaaRep
import Derived.Test.YtnomppdmhgefiaaRck
import Derived.StringKeys
import Derived.Maps.OwnSet
import Derived.Maps.OwnOps
import Derived.Maps.StringElems
import Derived.Lib.ItoaNum
/- clone, and the small makers of terms. -/
namespace Go.Proofs.Ytnomppdmhgefiaa
open Go.RowKit

/-- variables have no arguments -/
inductive Tm.bare : Tm → Prop
  | mk (t : Tm) : (t.vr = true → t.ts = []) → (∀ u ∈ t.ts, u.bare) → t.bare
theorem Tm.bare.kids {t : Tm} (h : t.bare) : ∀ u ∈ t.ts, u.bare := by cases h with | mk _ h1 h2 => exact h2
theorem Tm.bare.vr0 {t : Tm} (h : t.bare) : t.vr = true → t.ts = [] := by cases h with | mk _ h1 h2 => exact h1
theorem Tm.mem_nodesL {u : Tm} {l : List Tm} (h : u ∈ l) (d : Nat) : ∀ v ∈ u.nodes d, v ∈ Tm.nodesL d l := by
  induction l with
  | nil => cases h
  | cons x l ih =>
    intro v hv
    simp only [Tm.nodesL, List.mem_append]
    rcases List.mem_cons.1 h with rfl | h
    · exact .inl hv
    · exact .inr (ih h v hv)
/-- formed, node by node -/
theorem Tm.formed_iff (t : Tm) : t.formed ↔ nodeOk t.nm t.vr t.ts.length = true ∧ ∀ u ∈ t.ts, u.formed := by
  have sh : ∀ (u : Tm) (d : Nat), (∀ v ∈ u.nodes d, viewOk v = true) → ∀ d', ∀ v ∈ u.nodes d', viewOk v = true := by
    intro u
    induction u using Tm.ind with
    | h u ih =>
      intro d h d' v hv
      rw [Tm.nodes_eq] at hv h
      rcases List.mem_cons.1 hv with rfl | hv
      · have := h _ (List.mem_cons_self ..); exact this
      · obtain ⟨x, hx, hv⟩ := Tm.nodesL_mem hv
        exact ih x hx (d + 1) (fun v hv => h v (List.mem_cons_of_mem _ (Tm.mem_nodesL hx _ v hv))) _ v hv
  unfold Tm.formed
  rw [Tm.nodes_eq]
  constructor
  · intro h
    refine ⟨h _ (List.mem_cons_self ..), fun u hu => sh u 2 (fun v hv => h v (List.mem_cons_of_mem _ (Tm.mem_nodesL hu _ v hv))) 1⟩
  · rintro ⟨h1, h2⟩ v hv
    rcases List.mem_cons.1 hv with rfl | hv
    · exact h1
    · obtain ⟨x, hx, hv⟩ := Tm.nodesL_mem hv
      exact sh x 1 (h2 x hx) 2 v hv
theorem Tm.formed.bare {t : Tm} (h : t.formed) : t.bare := by
  induction t using Tm.ind with
  | h t ih =>
    obtain ⟨h1, h2⟩ := (Tm.formed_iff t).1 h
    refine .mk t (fun hv => ?_) fun u hu => ih u hu (h2 u hu)
    simp only [nodeOk, hv, if_true, Bool.and_eq_true, beq_iff_eq] at h1
    exact List.length_eq_zero_iff.1 h1.2

/-- a clone's image: the variable itself -/
def cloneImg : Unit → ByteArray → Tm × Unit := fun s nm => (.mk nm true [], s)
theorem reps_clone (l : List Tm) (h : ∀ u ∈ l, u.rep cloneImg () = (u, ())) : Tm.reps cloneImg () l = (l, ()) := by
  induction l with
  | nil => rfl
  | cons x l ih => simp only [Tm.reps, h x (by simp), ih fun u hu => h u (by simp [hu])]
theorem rep_clone {t : Tm} (h : t.bare) : t.rep cloneImg () = (t, ()) := by
  induction t using Tm.ind with
  | h t ih =>
    cases hv : t.vr
    · rw [Tm.rep_fun _ _ _ hv, reps_clone _ fun u hu => ih u hu (h.kids u hu)]
      cases t; simp only [Tm.vr] at hv; subst hv; rfl
    · rw [Tm.rep_var _ _ _ hv]
      have := h.vr0 hv
      cases t; simp only [Tm.vr] at hv; simp only [Tm.ts] at this; subst hv; subst this; rfl

theorem lvariable_any (nm : ByteArray) (w : World) : Calls Try.prog 13 #[.string nm] w fun e w' => e = .returned (tmv (.mk nm true []) (.slice none 0 0)) ∧ Below w.heap.size w w' := by
  go_enter Try.func13, Try.ntmps13
  go_wp2_with fail
  exact bodyPost_ret (v := tmv (.mk nm true []) (.slice none 0 0)) (by simp [results, Try.f13, go_sem, tmv, Tm.nm, Tm.vr]) rfl ⟨rfl, by go_grown⟩
theorem symbol_any (nm : ByteArray) (oa : Option Addr) (n cap : Nat) (w : World) : Calls Try.prog 14 #[.string nm, .slice oa n cap] w fun e w' => e = .returned (.agg #[.string nm, .bool false, .slice oa n cap]) ∧ Below w.heap.size w w' := by
  go_enter Try.func14, Try.ntmps14
  go_wp2_with fail
  exact bodyPost_ret (v := .agg #[.string nm, .bool false, .slice oa n cap]) (by simp [results, Try.f14, go_sem]) rfl ⟨rfl, by go_grown⟩

theorem box3 {W : World} {b : Nat} {x y z : Value} {e : TypeId} (h : W.heap[b]? = some (.cells #[x, y, z] e (0, 0))) :
    (W.cell? ⟨b, 0, none⟩ = some x ∧ W.cell? ⟨b, 1, none⟩ = some y ∧ W.cell? ⟨b, 2, none⟩ = some z) ∧ W.frozen? ⟨b, 0, none⟩ = false ∧ W.frozen? ⟨b, 1, none⟩ = false ∧ W.frozen? ⟨b, 2, none⟩ = false :=
  ⟨⟨by have := cells_of' h 0; simpa using this, by have := cells_of' h 1; simpa using this, by have := cells_of' h 2; simpa using this⟩, frozen_of' h _, frozen_of' h _, frozen_of' h _⟩
theorem box3_set {W : World} {b : Nat} {x y z : Value} {e : TypeId} (h : W.heap[b]? = some (.cells #[x, y, z] e (0, 0))) (x' y' z' : Value) :
    (((W.setCell ⟨b, 0, none⟩ x').setCell ⟨b, 1, none⟩ y').setCell ⟨b, 2, none⟩ z').heap[b]? = some (.cells #[x', y', z'] e (0, 0)) := by
  have := set3 h 0 x' y' z'; simpa using this
theorem below_set3 {B : Nat} {A W : World} (h : Below B A W) {b : Nat} (hb : B ≤ b) (x y z : Value) : Below B A (((W.setCell ⟨b, 0, none⟩ x).setCell ⟨b, 1, none⟩ y).setCell ⟨b, 2, none⟩ z) :=
  ((h.setCell (p := ⟨b, 0, none⟩) hb _).setCell (p := ⟨b, 1, none⟩) hb _).setCell (p := ⟨b, 2, none⟩) hb _
theorem heap_set3 (W : World) (b k : Nat) (x y z : Value) (h : k ≠ b) : (((W.setCell ⟨b, 0, none⟩ x).setCell ⟨b, 1, none⟩ y).setCell ⟨b, 2, none⟩ z).heap[k]? = W.heap[k]? := by
  rw [Below.heap_setCell _ _ _ _ h, Below.heap_setCell _ _ _ _ h, Below.heap_setCell _ _ _ _ h]

end Go.Proofs.Ytnomppdmhgefiaa
/- A term and a number as results. -/
namespace Go.Proofs.Ytnomppdmhgefiaa
open Go.RowKit

abbrev Tm.zero : Tm := .mk ⟨#[]⟩ false []
/-- a term and a number, in new memory -/
def TmNum (w w' : World) (e : Ending) (u : Tm) (c : Int) : Prop := (∃ sl, e = .returned (.tuple #[tmv u sl, .int .i64 c]) ∧ SlIs w'.heap.size w' u.ts sl) ∧ Below w.heap.size w w'
end Go.Proofs.Ytnomppdmhgefiaa
/- Canonical: the names in the order of their first showing. -/
namespace Go.Proofs.Ytnomppdmhgefiaa
open Go.RowKit Go.Maps

abbrev Key := List UInt8
def xname (dig : Nat → ByteArray) (i : Nat) : ByteArray := ⟨#[120]⟩ ++ dig i
/-- the variable's canonical name, given the names seen -/
def canImg (dig : Nat → ByteArray) (ss : List Key) (nm : ByteArray) : Tm × List Key :=
  if nm.data.toList ∈ ss then (.mk (xname dig (ss.idxOf nm.data.toList)) true [], ss) else (.mk (xname dig ss.length) true [], ss ++ [nm.data.toList])

/-- the map's datum and the names seen -/
structure MapInv (dig : Nat → ByteArray) (D : DataW Unit) (ss : List Key) : Prop where
  tidy : Tidy D
  size : Maps.size D = ss.length
  has : ∀ k, Maps.has D (.string k) = decide (k ∈ ss)
  at_ : ∀ i k, ss[i]? = some k → ∀ z, D.atKey (.string k) z = .lit (.string (xname dig i).data.toList)
theorem MapInv.empty (dig : Nat → ByteArray) : MapInv dig (.map []) [] := ⟨tidy_empty, rfl, fun k => by simp [Maps.has_eq], fun i k h => by simp at h⟩
theorem MapInv.put {dig : Nat → ByteArray} {D : DataW Unit} {ss : List Key} (h : MapInv dig D ss) {k : Key} (hk : k ∉ ss) : MapInv dig (D.put (.string k) (.lit (.string (xname dig ss.length).data.toList))) (ss ++ [k]) := by
  have hl : WideAt.IsKeyLit (.string k) := trivial
  refine ⟨h.tidy.put hl _, ?_, fun k' => ?_, fun i k' hi z => ?_⟩
  · rw [size_put h.tidy, h.has, h.size]; simp [hk]
  · by_cases e : k' = k
    · subst e; rw [has_put_same h.tidy.isMap hl]; simp
    · rw [has_put_other (by simpa using e), h.has]; simp [e]
  · by_cases e : k' = k
    · subst e
      rw [atKey_put_same h.tidy.isMap hl]
      have hlt := (List.getElem?_eq_some_iff.1 hi).1
      by_cases hil : i < ss.length
      · rw [List.getElem?_append_left hil] at hi; exact absurd (List.mem_of_getElem? hi) hk
      · simp at hlt; rw [show i = ss.length by omega]
    · rw [atKey_put_other (by simpa using e)]
      refine h.at_ i k' ?_ z
      by_cases hil : i < ss.length
      · rwa [List.getElem?_append_left hil] at hi
      · rw [List.getElem?_append_right (by omega)] at hi
        have hlt := (List.getElem?_eq_some_iff.1 hi).1
        simp at hlt
        rw [show i - ss.length = 0 by omega] at hi
        simp at hi; exact absurd hi.symm e
theorem idxOf_at {ss : List Key} {k : Key} (h : k ∈ ss) : ss[ss.idxOf k]? = some k := by
  have hlt := List.idxOf_lt_length_iff.2 h
  rw [List.getElem?_eq_getElem hlt]
  exact congrArg some (List.getElem_idxOf hlt)

section
variable {H : Type} {P : Program} (w : World) {ops : Array Oper} {rest : List Oper} {o : Oper} {a : Act} {Q : Exit → Act → World → Prop}
theorem wpList_lookup_own_plain (hg : o.guard = none) (m x : Operand) (t : TypeId) (hop : o.op = Op.lookup t m x false)
    (k e : TypeId) (K : Keyed P k) (ht : P.underlying t = some (.map k e)) (R : Value → Option (DataW H × List MemPlace)) {z : Value} (hz : (zeroValue e).run P w = .ok z w) (zd : DataW H) (zp : List MemPlace) (hzd : R z = some (zd, zp)) (b n : Nat) (D : DataW H)
    (hm : a.eval m = .map (some b)) (hown : w.ownsMap P k R b n D) (key : Value) (kl : Lit) (hx : a.eval x = key) (hkey : keyOf P k key = some kl)
    (hK : ∀ v ps, R v = some (D.atKey kl zd, ps) → wpList P ops Q rest (a.put o.dst v) w) :
    wpList P ops Q (o :: rest) a w := by
  refine wpList_plain hg fun K' hK' => ?_
  obtain ⟨v, ps, hrun, hv⟩ := hown.lookup K ht hz hzd hkey
  unfold Oper.wp
  simp [execOp, hop, hm, hx, hrun, Result.andThen]
  exact hK' _ _ (hK v ps hv)
end

theorem strKeyed : Keyed Try.prog 9 := string_keyed Try.underlying9
theorem zeroStr (w : World) : (zeroValue 9).run Try.prog w = .ok (.string ⟨#[]⟩) w := Try.zeroValue9 w
theorem zeroRead : plainElem (H := Unit) Try.prog 9 (.string ⟨#[]⟩) = some (.lit (.string []), []) := plainElem_string Try.underlying9 (by decide)
theorem xname_size (dig : Nat → ByteArray) (i : Nat) (h : (dig i).size ≤ 30) : (({ data := #[120] } : ByteArray) ++ dig i).size ≤ maxLen := by rw [ByteArray.size_append]; have : ({ data := #[120] } : ByteArray).size = 1 := rfl; unfold maxLen; omega
theorem bytes_ext {a b : ByteArray} (h : a.data.toList = b.data.toList) : a = b := by cases a; cases b; simpa using h

end Go.Proofs.Ytnomppdmhgefiaa
/- Canonical: the walk. -/
namespace Go.Proofs.Ytnomppdmhgefiaa
open Go.RowKit Go.Maps

theorem canImg_count (dig : Nat → ByteArray) (ss : List Key) (nm : ByteArray) : (canImg dig ss nm).2.length ≤ ss.length + 1 := by
  unfold canImg; split <;> simp

end Go.Proofs.Ytnomppdmhgefiaa
/- Canonical forms and renamings: plain facts. -/
namespace Go.Proofs.Ytnomppdmhgefiaa
open Go.RowKit

/-- a name from its bytes -/
def kb (k : Key) : ByteArray := ⟨k.toArray⟩
theorem kb_key (nm : ByteArray) : kb nm.data.toList = nm := by cases nm; rfl
theorem key_kb (k : Key) : (kb k).data.toList = k := rfl
theorem kb_inj {a b : Key} : kb a = kb b ↔ a = b := ⟨fun h => by rw [← key_kb a, h, key_kb], fun h => by rw [h]⟩

def digN (i : Nat) : ByteArray := if i < 1048576 then kb (Lib.decDigits i) else ⟨#[]⟩
theorem dec_step {i : Nat} (h : ¬ i < 10) : Lib.decDigits i = Lib.decDigits (i / 10) ++ [UInt8.ofNat (48 + i % 10)] := by rw [Lib.decDigits, dif_neg h]
theorem dec_len (k : Nat) : ∀ i, i < 10 ^ (k + 1) → (Lib.decDigits i).length ≤ k + 1 := by
  induction k with
  | zero => intro i h; rw [Lib.decDigits_one (by simpa using h)]; simp
  | succ k ih =>
    intro i h
    by_cases h10 : i < 10
    · rw [Lib.decDigits_one h10]; simp
    · rw [dec_step h10, List.length_append]
      have := ih (i / 10) (by rw [Nat.div_lt_iff_lt_mul (by omega)]; rw [Nat.pow_succ] at h; exact h)
      simp; omega
theorem digN_size (i : Nat) : (digN i).size ≤ 7 := by
  unfold digN
  split
  · have := dec_len 6 i (by omega)
    simpa [kb, ByteArray.size] using this
  · decide
def decVal (l : List UInt8) : Nat := l.foldl (fun a c => a * 10 + (c.toNat - 48)) 0
theorem decVal_dec (i : Nat) : decVal (Lib.decDigits i) = i := by
  induction i using Nat.strongRecOn with
  | ind i ih =>
    by_cases h : i < 10
    · rw [Lib.decDigits_one h]
      have : (UInt8.ofNat (48 + i)).toNat = 48 + i := by simp; omega
      simp only [decVal, List.foldl_cons, List.foldl_nil, this]; omega
    · rw [dec_step h, decVal, List.foldl_append, ← decVal, ih (i / 10) (by omega)]
      have : (UInt8.ofNat (48 + i % 10)).toNat = 48 + i % 10 := by simp; omega
      simp only [List.foldl_cons, List.foldl_nil, this]; omega
theorem digN_inj {i j : Nat} (hi : i < 1048576) (hj : j < 1048576) (h : digN i = digN j) : i = j := by
  rw [digN, if_pos hi, digN, if_pos hj, kb_inj] at h
  rw [← decVal_dec i, h, decVal_dec]
theorem dec_bytes (i : Nat) : ∀ c ∈ Lib.decDigits i, 48 ≤ c.toNat ∧ c.toNat ≤ 57 := by
  induction i using Nat.strongRecOn with
  | ind i ih =>
    intro c hc
    by_cases h : i < 10
    · rw [Lib.decDigits_one h] at hc
      simp only [List.mem_singleton] at hc; subst hc
      have : (UInt8.ofNat (48 + i)).toNat = 48 + i := by simp; omega
      omega
    · rw [dec_step h] at hc
      rcases List.mem_append.1 hc with hc | hc
      · exact ih (i / 10) (by omega) c hc
      · simp only [List.mem_singleton] at hc; subst hc
        have : (UInt8.ofNat (48 + i % 10)).toNat = 48 + i % 10 := by simp; omega
        omega
theorem xname_data (dig : Nat → ByteArray) (i : Nat) : (xname dig i).data.toList = 120 :: (dig i).data.toList := by
  unfold xname; rw [ByteArray.toList_data_append]; rfl
theorem xname_inj {dig : Nat → ByteArray} {i j : Nat} (h : xname dig i = xname dig j) : dig i = dig j := by
  have h1 := xname_data dig i
  rw [h, xname_data] at h1
  simp only [List.cons.injEq, true_and] at h1
  exact (bytes_ext h1).symm
theorem xname_isName (i : Nat) : isName (xname digN i) false = true := by
  have h0 : (xname digN i).size = 1 + (digN i).size := by
    have := congrArg List.length (xname_data digN i)
    rw [bytes_len, List.length_cons, bytes_len] at this; omega
  have h7 := digN_size i
  refine isName_eq (by show 0 < (xname digN i).size; omega) (by omega) ?_
  show plain (xname digN i) = true
  rw [plain, xname_data, List.all_cons, Bool.and_eq_true]
  refine ⟨by decide, ?_⟩
  rw [List.all_eq_true]
  intro c hc
  unfold digN at hc
  split at hc
  · have := dec_bytes i c hc
    exact okByte_yes (by omega)
  · cases hc

/-- one name more, if it is new -/
def addKey (ss : List Key) (k : Key) : List Key := if k ∈ ss then ss else ss ++ [k]
theorem addKey_pre (ss : List Key) (k : Key) : ss <+: addKey ss k := by unfold addKey; split; exact List.prefix_refl _; exact List.prefix_append _ _
theorem addKey_mem (ss : List Key) (k : Key) : k ∈ addKey ss k := by unfold addKey; split; assumption; simp
theorem canImg_eq (dig : Nat → ByteArray) (ss : List Key) (nm : ByteArray) : canImg dig ss nm = (.mk (xname dig ((addKey ss nm.data.toList).idxOf nm.data.toList)) true [], addKey ss nm.data.toList) := by
  unfold canImg addKey
  split
  · rfl
  · rename_i h
    have : (ss ++ [nm.data.toList]).idxOf nm.data.toList = ss.length := by rw [List.idxOf_append, if_neg h]; simp
    rw [this]

/-- variables renamed -/
def renImg (g : Key → ByteArray) : Unit → ByteArray → Tm × Unit := fun _ nm => (.mk (g nm.data.toList) true [], ())
def ren (g : Key → ByteArray) (t : Tm) : Tm := (t.rep (renImg g) ()).1
def rens (g : Key → ByteArray) (l : List Tm) : List Tm := (Tm.reps (renImg g) () l).1
theorem ren_var (g : Key → ByteArray) {t : Tm} (h : t.vr = true) : ren g t = .mk (g t.nm.data.toList) true [] := by rw [ren, Tm.rep_var _ _ _ h]; rfl
theorem ren_fun (g : Key → ByteArray) {t : Tm} (h : t.vr = false) : ren g t = .mk t.nm false (rens g t.ts) := by rw [ren, Tm.rep_fun _ _ _ h]; rfl
theorem rens_eq (g : Key → ByteArray) (l : List Tm) : rens g l = l.map (ren g) := by
  unfold rens
  induction l with
  | nil => rfl
  | cons x l ih => simp only [Tm.reps, List.map_cons]; rw [show (Tm.rep (renImg g) () x).2 = () from rfl, ih]; rfl

def firsts (ss : List Key) (t : Tm) : List Key := (t.rep (canImg digN) ss).2
def firstsL (ss : List Key) (l : List Tm) : List Key := (Tm.reps (canImg digN) ss l).2
theorem firsts_var (ss : List Key) {t : Tm} (h : t.vr = true) : firsts ss t = addKey ss t.nm.data.toList := by rw [firsts, Tm.rep_var _ _ _ h, canImg_eq]
theorem firsts_fun (ss : List Key) {t : Tm} (h : t.vr = false) : firsts ss t = firstsL ss t.ts := by rw [firsts, Tm.rep_fun _ _ _ h]; rfl
theorem firstsL_cons (ss : List Key) (t : Tm) (l : List Tm) : firstsL ss (t :: l) = firstsL (firsts ss t) l := rfl
theorem firstsL_snoc (ss : List Key) (l : List Tm) (t : Tm) : firstsL ss (l ++ [t]) = firsts (firstsL ss l) t := by unfold firstsL; rw [Tm.reps_snoc]; rfl
theorem firstsL_pre (l : List Tm) (h : ∀ u ∈ l, ∀ ss, ss <+: firsts ss u) (ss : List Key) : ss <+: firstsL ss l := by
  induction l generalizing ss with
  | nil => exact List.prefix_refl _
  | cons x l ih => rw [firstsL_cons]; exact (h x (by simp) ss).trans (ih (fun u hu => h u (by simp [hu])) _)
theorem firsts_pre (t : Tm) : ∀ ss, ss <+: firsts ss t := by
  induction t using Tm.ind with
  | h t ih =>
    intro ss
    cases hv : t.vr
    · rw [firsts_fun ss hv]; exact firstsL_pre _ ih ss
    · rw [firsts_var ss hv]; exact addKey_pre _ _
theorem firsts_length (t : Tm) (ss : List Key) : (firsts ss t).length ≤ ss.length + t.size := Tm.rep_count (canImg digN) List.length (canImg_count digN) t ss
theorem firstsL_length (l : List Tm) (ss : List Key) : (firstsL ss l).length ≤ ss.length + Tm.sizes l := Tm.reps_count (canImg digN) List.length l (fun u _ s => Tm.rep_count (canImg digN) List.length (canImg_count digN) u s) ss

theorem idx_pre {a b : List Key} (h : a <+: b) {k : Key} (hk : k ∈ a) : b.idxOf k = a.idxOf k := by
  obtain ⟨r, rfl⟩ := h; rw [List.idxOf_append, if_pos hk]
/-- the canonical form as a renaming -/
theorem can_ren (t : Tm) : ∀ ss S, firsts ss t <+: S → (t.rep (canImg digN) ss).1 = ren (fun k => xname digN (S.idxOf k)) t := by
  induction t using Tm.ind with
  | h t ih =>
    intro ss S hS
    cases hv : t.vr
    · rw [Tm.rep_fun _ _ _ hv, ren_fun _ hv, rens_eq]
      rw [firsts_fun ss hv] at hS
      simp only [Tm.mk.injEq, true_and]
      revert ih hS ss
      generalize t.ts = l
      intro ih ss hS
      induction l generalizing ss with
      | nil => rfl
      | cons x l ihl =>
        rw [firstsL_cons] at hS
        simp only [Tm.reps, List.map_cons]
        rw [ih x (by simp) ss S ((firstsL_pre l (fun u _ => firsts_pre u) _).trans hS), ihl (fun u hu => ih u (by simp [hu])) (x.rep (canImg digN) ss).2 hS]
    · rw [Tm.rep_var _ _ _ hv, ren_var _ hv, canImg_eq]
      rw [firsts_var ss hv] at hS
      simp only [idx_pre hS (addKey_mem _ _)]
/-- the names of a renamed term -/
theorem firsts_ren (g : Key → ByteArray) (S : List Key) (hg : ∀ a ∈ S, ∀ b ∈ S, g a = g b → a = b) (t : Tm) : ∀ ss, firsts ss t <+: S → firsts (ss.map fun k => (g k).data.toList) (ren g t) = (firsts ss t).map fun k => (g k).data.toList := by
  induction t using Tm.ind with
  | h t ih =>
    intro ss hS
    cases hv : t.vr
    · rw [ren_fun _ hv, firsts_fun _ (show (Tm.mk t.nm false (rens g t.ts)).vr = false from rfl), firsts_fun ss hv, rens_eq]
      rw [firsts_fun ss hv] at hS
      show firstsL _ (List.map (ren g) t.ts) = _
      revert ih hS ss
      generalize t.ts = l
      intro ih ss hS
      induction l generalizing ss with
      | nil => rfl
      | cons x l ihl =>
        rw [firstsL_cons] at hS
        rw [List.map_cons, firstsL_cons, firstsL_cons, ih x (by simp) ss ((firstsL_pre l (fun u _ => firsts_pre u) _).trans hS)]
        exact ihl (fun u hu => ih u (by simp [hu])) _ hS
    · rw [ren_var _ hv, firsts_var _ (show (Tm.mk (g t.nm.data.toList) true []).vr = true from rfl), firsts_var ss hv]
      rw [firsts_var ss hv] at hS
      have hk : t.nm.data.toList ∈ S := hS.subset (addKey_mem _ _)
      have hss : ∀ a ∈ ss, a ∈ S := fun a ha => hS.subset ((addKey_pre _ _).subset ha)
      show addKey _ (g t.nm.data.toList).data.toList = _
      unfold addKey
      by_cases hin : t.nm.data.toList ∈ ss
      · rw [if_pos hin, if_pos (List.mem_map.2 ⟨_, hin, rfl⟩)]
      · rw [if_neg hin, if_neg]
        · simp
        · intro hm
          obtain ⟨a, ha, he⟩ := List.mem_map.1 hm
          exact hin (hg a (hss a ha) _ hk (bytes_ext he) ▸ ha)
theorem ren_ren (h g : Key → ByteArray) (t : Tm) : ren h (ren g t) = ren (fun k => h (g k).data.toList) t := by
  induction t using Tm.ind with
  | h t ih =>
    cases hv : t.vr
    · rw [ren_fun g hv, ren_fun _ hv, ren_fun _ (show (Tm.mk t.nm false (rens g t.ts)).vr = false from rfl), rens_eq, rens_eq, rens_eq]
      simp only [Tm.nm, Tm.ts, List.map_map, Tm.mk.injEq, true_and]
      exact List.map_congr_left fun u hu => ih u hu
    · rw [ren_var g hv, ren_var _ hv, ren_var _ (show (Tm.mk (g t.nm.data.toList) true []).vr = true from rfl)]; rfl
theorem ren_congr {h g : Key → ByteArray} (t : Tm) : ∀ ss, (∀ k ∈ firsts ss t, h k = g k) → ren h t = ren g t := by
  induction t using Tm.ind with
  | h t ih =>
    intro ss hk
    cases hv : t.vr
    · rw [ren_fun _ hv, ren_fun _ hv, rens_eq, rens_eq]
      rw [firsts_fun ss hv] at hk
      simp only [Tm.mk.injEq, true_and]
      revert ih hk ss
      generalize t.ts = l
      intro ih ss hk
      induction l generalizing ss with
      | nil => rfl
      | cons x l ihl =>
        rw [firstsL_cons] at hk
        rw [List.map_cons, List.map_cons, ih x (by simp) ss (fun k hk' => hk k ((firstsL_pre l (fun u _ => firsts_pre u) _).subset hk')), ihl (fun u hu => ih u (by simp [hu])) _ hk]
    · rw [firsts_var ss hv] at hk
      rw [ren_var _ hv, ren_var _ hv, hk _ (addKey_mem _ _)]
theorem idx_map {f : Key → Key} (S : List Key) (hf : ∀ a ∈ S, ∀ b ∈ S, f a = f b → a = b) (k : Key) (hk : k ∈ S) : (S.map f).idxOf (f k) = S.idxOf k := by
  induction S with
  | nil => cases hk
  | cons x S ih =>
    rw [List.map_cons, List.idxOf_cons, List.idxOf_cons]
    by_cases e : x = k
    · subst e; simp
    · have h1 : (x == k) = false := by simpa using e
      have h2 : (f x == f k) = false := by simpa using fun h => e (hf x (by simp) k hk h)
      rw [h1, h2]
      simp only [cond_false]
      rw [ih (fun a ha b hb => hf a (by simp [ha]) b (by simp [hb])) (by rcases List.mem_cons.1 hk with h | h; exact absurd h.symm e; exact h)]

def canon (t : Tm) : Tm := (t.rep (canImg digN) []).1
theorem canon_ren (t : Tm) : canon t = ren (fun k => xname digN ((firsts [] t).idxOf k)) t := can_ren t [] _ (List.prefix_refl _)
theorem canon_inj (t : Tm) (h : t.size ≤ 1048576) : ∀ a ∈ firsts [] t, ∀ b ∈ firsts [] t, xname digN ((firsts [] t).idxOf a) = xname digN ((firsts [] t).idxOf b) → a = b := by
  intro a ha b hb he
  have hl := firsts_length t []
  simp only [List.length_nil, Nat.zero_add] at hl
  have h1 := List.idxOf_lt_length_iff.2 ha
  have h2 := List.idxOf_lt_length_iff.2 hb
  have h3 := digN_inj (by omega) (by omega) (xname_inj he)
  have h4 := idxOf_at ha
  rw [h3, idxOf_at hb] at h4
  exact (Option.some.inj h4).symm
theorem firsts_canon (t : Tm) (h : t.size ≤ 1048576) : firsts [] (canon t) = (firsts [] t).map fun k => (xname digN ((firsts [] t).idxOf k)).data.toList := by
  have := firsts_ren _ (firsts [] t) (canon_inj t h) t [] (List.prefix_refl _)
  rw [← canon_ren] at this
  exact this
theorem canon_canon (t : Tm) (h : t.size ≤ 1048576) : canon (canon t) = canon t := by
  have key : ∀ G : Key → ByteArray, ren G (canon t) = ren (fun k => G (xname digN ((firsts [] t).idxOf k)).data.toList) t := fun G => by rw [canon_ren t, ren_ren]
  rw [canon_ren (canon t), firsts_canon t h, key, canon_ren t]
  refine ren_congr t [] fun k hk => ?_
  have := idx_map (f := fun k => (xname digN ((firsts [] t).idxOf k)).data.toList) (firsts [] t) (fun a ha b hb e => canon_inj t h a ha b hb (bytes_ext e)) k hk
  rw [this]
theorem canon_firsts (t : Tm) (h : t.size ≤ 1048576) : (firsts [] (canon t)).length = (firsts [] t).length := by rw [firsts_canon t h, List.length_map]
/-- as many names, and the same form: the same form -/
theorem renamed_iff (a b : Tm) (ha : a.size ≤ 1048576) (hb : b.size ≤ 1048576) : ((firsts [] a).length = (firsts [] b).length ∧ canon a = canon b) ↔ canon a = canon b :=
  ⟨fun h => h.2, fun h => ⟨by rw [← canon_firsts a ha, h, canon_firsts b hb], h⟩⟩

theorem ren_size (g : Key → ByteArray) {t : Tm} (h : t.bare) : (ren g t).size = t.size ∧ (ren g t).depth = t.depth := by
  induction t using Tm.ind with
  | h t ih =>
    cases hv : t.vr
    · rw [ren_fun _ hv, rens_eq, Tm.size_eq, Tm.size_eq t, Tm.depth_eq, Tm.depth_eq t]
      have key : ∀ l : List Tm, (∀ u ∈ l, (ren g u).size = u.size ∧ (ren g u).depth = u.depth) → Tm.sizes (l.map (ren g)) = Tm.sizes l ∧ Tm.depths (l.map (ren g)) = Tm.depths l := by
        intro l hl
        induction l with
        | nil => exact ⟨rfl, rfl⟩
        | cons x l ihl =>
          have h1 := hl x (by simp)
          have h2 := ihl fun u hu => hl u (by simp [hu])
          simp only [List.map_cons, Tm.sizes, Tm.depths, h1.1, h1.2, h2.1, h2.2, and_self]
      have := key t.ts fun u hu => ih u hu (h.kids u hu)
      simp only [Tm.ts] at this ⊢
      exact ⟨by rw [this.1], by rw [this.2]⟩
    · rw [ren_var _ hv, Tm.size_eq, Tm.size_eq t, Tm.depth_eq, Tm.depth_eq t, h.vr0 hv]; exact ⟨rfl, rfl⟩
theorem ren_formed (g : Key → ByteArray) (hg : ∀ k, isName (g k) false = true) {t : Tm} (h : t.formed) : (ren g t).formed := by
  induction t using Tm.ind with
  | h t ih =>
    obtain ⟨h1, h2⟩ := (Tm.formed_iff t).1 h
    rw [Tm.formed_iff]
    cases hv : t.vr
    · rw [ren_fun _ hv, rens_eq]
      simp only [Tm.nm, Tm.vr, Tm.ts, List.length_map]
      rw [hv] at h1
      refine ⟨h1, fun u hu => ?_⟩
      obtain ⟨x, hx, rfl⟩ := List.mem_map.1 hu
      exact ih x hx (h2 x hx)
    · rw [ren_var _ hv]
      simp only [Tm.nm, Tm.vr, Tm.ts]
      refine ⟨?_, fun u hu => by cases hu⟩
      simp [nodeOk, hg]
theorem canon_ok {t : Tm} (h : t.ok) : (canon t).ok := by
  have := ren_size (fun k => xname digN ((firsts [] t).idxOf k)) h.1.bare
  rw [canon_ren]
  exact ⟨ren_formed _ (fun k => xname_isName _) h.1, by rw [this.1]; exact h.2.1, by rw [this.2]; exact h.2.2⟩
end Go.Proofs.Ytnomppdmhgefiaa
