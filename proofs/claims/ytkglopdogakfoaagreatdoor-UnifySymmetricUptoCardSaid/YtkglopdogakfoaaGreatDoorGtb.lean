/- Itoa wherever the table of powers of ten lies; what the laws on unifiers rest on. -/
import Derived.WalkKit
import Derived.ProofKit
import Derived.OpenShut
import Derived.Handy
import Derived.Lib.Hide
import Derived.Lib.SmallJoins
import Derived.Lib.AppendIntMem
import Derived.Deep.RegionHeld3
import Derived.Test.YtkglopdogakfoaaGreatDoorUmg
import Derived.Test.YtkglopdogakfoaaGreatDoorGm
namespace Go.Proofs.YtkglopdogakfoaaGreatDoor
open Go.RowKit

theorem pow10Glob : ∃ g, Tryz.prog.globalNamed "internal/strconv.uint64pow10" = some g := by
  cases h : Tryz.prog.globalNamed "internal/strconv.uint64pow10" with
  | some g => exact ⟨g, rfl⟩
  | none => exact absurd h (by decide +kernel)
/-- the table of powers of ten lies as the program's text lays it -/
def GT (W : World) : Prop := Lib.TabIs Tryz.prog W "internal/strconv.uint64pow10" .u64 Lib.pow10Tab
theorem itoa_tab : ItoaOk 1048576 GT := by
  obtain ⟨g, hg⟩ := pow10Glob
  refine ⟨Nat.le_refl _, fun A B h k => ?_, fun i W hi h => ?_⟩
  · unfold GT Lib.TabIs World.var? at h ⊢
    rw [hg] at h ⊢
    simp only [Option.bind_some] at h ⊢
    split at h
    · rename_i cs e f heq
      rw [k.cells _ _ _ _ heq]; exact h
    · cases h
  · refine (Tryz.strconv_Itoa i (by omega) (by omega) W h).mono ?_
    rintro e w' ⟨rfl, k, os, rfl⟩
    exact ⟨by rw [digN, if_pos hi, kb, Lib.itoa_nonneg], Lib.below_grow _ _ (Nat.le_refl _) _ _⟩
theorem itoa_table : Hid (ItoaOk 1048576 GT) := Lib.hid itoa_tab

theorem nameTm_ok {k : Key} (h : isName (kb k) false = true) : (Tm.mk (kb k) true []).ok := by
  refine ⟨(Tm.formed_iff _).2 ⟨by show nodeOk (kb k) true 0 = true; simp [nodeOk, h], fun u hu => by cases hu⟩, by simp [Tm.size, Tm.sizes], by simp [Tm.depth, Tm.depths]⟩
theorem imageOf_ok {s : List Bd} (hs : SubOk s) {k : Key} (h : isName (kb k) false = true) : (imageOf s k).ok := by
  by_cases hk : ∃ q ∈ s, q.1 = k
  · obtain ⟨q, hq, rfl⟩ := hk
    rw [imageOf_in hs.nodup hq]; exact hs.terms q hq
  · rw [imageOf_miss fun q hq e => hk ⟨q, hq, e⟩]; exact nameTm_ok h
theorem imageOf_bulk {s : List Bd} (hs : SubOk s) {k : Key} (h : isName (kb k) false = true) : (imageOf s k).bulk ≤ 1048576 := by have := (imageOf_ok hs h).bulk; omega
theorem apB_ok {s : List Bd} (hs : SubOk s) {t : Tm} (ht : t.formed) (h : (apB s t).size ≤ 4000 ∧ (apB s t).depth ≤ 200) : (apB s t).ok := ⟨apB_formed (fun q hq => (hs.terms q hq).1) ht, h.1, h.2⟩

theorem LmSt.six {w W : World} {a b : Tm} {sp st : Value} {s : List Bd} {sv : Value} (h : LmSt w W a b sp st s sv) : W.cell? ⟨w.heap.size, 0, none⟩ = some (.string a.nm) ∧ W.cell? ⟨w.heap.size, 1, none⟩ = some (.bool a.vr) ∧ W.cell? ⟨w.heap.size, 2, none⟩ = some sp ∧ W.cell? ⟨w.heap.size + 1, 0, none⟩ = some (.string b.nm) ∧ W.cell? ⟨w.heap.size + 1, 1, none⟩ = some (.bool b.vr) ∧ W.cell? ⟨w.heap.size + 1, 2, none⟩ = some st := by
  obtain ⟨⟨x0, x1, x2⟩, -⟩ := box3 h.a.box
  obtain ⟨⟨y0, y1, y2⟩, -⟩ := box3 h.b.box
  exact ⟨x0, x1, x2, y0, y1, y2⟩
/-- a most general unifier -/
structure UniOk (a b : Tm) (U : List Bd) : Prop where
  ok : SubOk U
  len : U.length ≤ 16000
  uni : apB U a = apB U b
  stay : ∀ q ∈ U, apB U q.2 = q.2
  most : ∀ s : List Bd, apB s a = apB s b → ∀ k ∈ a.vs ++ b.vs, apB s (imageOf U k) = imageOf s k
def UnPost2 (a b : Tm) (e : Ending) (w' : World) : Prop :=
  (∃ c : Int, c ≠ 0 ∧ e = .returned (.tuple #[.slice none 0 0, .bool false, .int .i64 c]) ∧ ¬ (a.ok ∧ b.ok)) ∨
  (a.ok ∧ b.ok ∧ (∀ s : List Bd, apB s a ≠ apB s b) ∧ e = .returned (.tuple #[.slice none 0 0, .bool false, .int .i64 0])) ∨
  (a.ok ∧ b.ok ∧ e = .returned (.tuple #[.slice none 0 0, .bool false, .int .i64 3])) ∨
  (a.ok ∧ b.ok ∧ ∃ (v : Value) (U : List Bd), e = .returned (.tuple #[v, .bool true, .int .i64 0]) ∧ BindsIs w'.heap.size w' U v ∧ UniOk a b U)
theorem UnPost.gen {a b : Tm} {e : Ending} {w' : World} (h : UnPost a b e w') : UnPost2 a b e w' := by
  rcases h with h | ⟨h1, h2, h3, h4⟩ | ⟨h1, h2, S, rk, hm, ⟨-, h3⟩ | ⟨hf, v, L, h3, h4, h5⟩⟩
  · exact .inl h
  · exact .inr (.inl ⟨h1, h2, fun s hs => h3 (imageOf s) (by rw [← apB_apF, ← apB_apF]; exact hs), h4⟩)
  · exact .inr (.inr (.inl ⟨h1, h2, h3⟩))
  · refine .inr (.inr (.inr ⟨h1, h2, v, _, h3, h4, hm.subOk h1.1 h2.1 h5 hf, ?_, hm.unifies h1.1 h2.1 h5, fun q hq => hm.stays h1.1 h2.1 h5 hq, fun s hs k hk => ?_⟩))
    · have hn : L.Nodup := h5.1.imp (fun h e => by subst e; exact absurd h (List.lt_irrefl _))
      have h6 := nodup_len hn (K := S.eq.map (·.1)) fun x hx => ((h5.2 x).1 hx).1
      have := hm.el
      unfold subS
      rw [List.length_map]
      rw [List.length_map] at h6
      omega
    · rw [hm.image h1.1 h2.1 h5 hk, apB_apF]
      exact hm.most h1.1 h2.1 (by rw [← apB_apF, ← apB_apF]; exact hs) hk
end Go.Proofs.YtkglopdogakfoaaGreatDoor
