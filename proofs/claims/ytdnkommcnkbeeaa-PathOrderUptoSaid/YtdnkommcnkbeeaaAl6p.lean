/- The chapter's example of a path order, plain; terms and rows of terms between the operations of a drawn region. -/
import Derived.Test.YtdnkommcnkbeeaaGrt
namespace Go.Proofs.Ytdnkommcnkbeeaa
open Go.RowKit

def nX6 : ByteArray := ⟨#[120]⟩
def nY6 : ByteArray := ⟨#[121]⟩
def nS6 : ByteArray := ⟨#[115]⟩
def nAdd6 : ByteArray := ⟨#[97, 100, 100]⟩
def tX6 : Tm := .mk nX6 true []
def tY6 : Tm := .mk nY6 true []
def tS6 (t : Tm) : Tm := .mk nS6 false [t]
def tAdd6 (t u : Tm) : Tm := .mk nAdd6 false [t, u]
def exS6 : Tm := tAdd6 (tS6 tX6) tY6
def exT6 : Tm := tS6 (tAdd6 tX6 tY6)
def exL6 : List Rk := [([97, 100, 100], 2, 0), ([115], 1, 0)]
theorem tX6_f : tX6.formed := by unfold Tm.formed; decide
theorem tY6_f : tY6.formed := by unfold Tm.formed; decide
theorem tSX6_f : (tS6 tX6).formed := by unfold Tm.formed; decide
theorem tAXY6_f : (tAdd6 tX6 tY6).formed := by unfold Tm.formed; decide
theorem exS6_ok : exS6.ok := ⟨by unfold Tm.formed; decide, by decide, by decide⟩
theorem exT6_ok : exT6.ok := ⟨by unfold Tm.formed; decide, by decide, by decide⟩
theorem exL6_nms : NmsOk exL6 := by
  intro i p hp
  match i, hp with
  | 0, hp => cases hp; exact ⟨by decide, fun q h => absurd h (by omega)⟩
  | 1, hp => cases hp; exact ⟨by decide, fun q _ hq => by cases hq; decide⟩
  | i + 2, hp => simp [exL6] at hp
theorem exL6_ok : PrecOk exL6 := by
  refine ⟨by decide, exL6_nms, fun p hp => ?_⟩
  simp only [exL6, List.mem_cons, List.not_mem_nil, or_false] at hp
  rcases hp with rfl | rfl <;> decide
theorem ex6_gt : Lpo (rkB exL6) exS6 exT6 := by
  have hr : rkB exL6 nS6 < rkB exL6 nAdd6 := by decide
  have h1 : Lpo (rkB exL6) (tS6 tX6) tX6 := .arg _ _ rfl (by simp [tS6, Tm.ts])
  have h2 : ∀ b ∈ (tAdd6 tX6 tY6).ts, Lpo (rkB exL6) exS6 b := by
    intro b hb
    simp only [tAdd6, Tm.ts, List.mem_cons, List.not_mem_nil, or_false] at hb
    rcases hb with rfl | rfl
    · exact .sub _ _ (tS6 tX6) rfl (by simp [exS6, tAdd6, Tm.ts]) h1
    · exact .arg _ _ rfl (by simp [exS6, tAdd6, Tm.ts])
  refine .top exS6 exT6 rfl rfl hr fun b hb => ?_
  simp only [exT6, tS6, Tm.ts, List.mem_cons, List.not_mem_nil, or_false] at hb
  subst hb
  exact .lex _ _ 0 (tS6 tX6) tX6 rfl rfl rfl rfl h2 rfl rfl rfl h1
theorem ex6_yes : gpB exL6 exS6 exT6 = true := gpB_yes.2 ⟨exL6_ok, exS6_ok, exT6_ok, ex6_gt⟩
theorem ex6_no : gpB exL6 exT6 exS6 = false := gpB_no.2 fun h => ex6_gt.asymm h.2.2.2

/-- a term as a value -/
def TmW (W : World) (t : Tm) (v : Value) : Prop := ∃ o n c, v = .agg #[.string t.nm, .bool t.vr, .slice o n c] ∧ SlIs W.heap.size W t.ts (.slice o n c)
/-- a new row of terms -/
def RowW (W : World) (l : List Tm) (v : Value) : Prop := ∃ b, v = .slice (some ⟨b, 0, none⟩) l.length l.length ∧ SlIs W.heap.size W l v
def zeroTm : Obj := .cells #[.string ⟨#[]⟩, .bool false, .slice none 0 0] 34 (0, 0)
/-- a formed term's arguments do not lie in a zero term's box -/
theorem SlIs.zbox {n c : Nat} {W : World} {l : List Tm} {s : Value} (h : SlIs n W l s) (hc : W.heap[c]? = some zeroTm) (hf : ∀ u ∈ l, u.formed) : SlP (fun b => b < n ∧ b ≠ c) W l s := by
  induction h with
  | nil0 => exact .nil0
  | nil1 a cap => exact .nil1 a cap
  | row b o cap l s hl hb hcap cells hk hfz ih =>
    refine .row b o cap l s hl ⟨hb, ?_⟩ hcap cells (fun i t ht => ih i t ht fun u hu => ((Tm.formed_iff t).1 (hf t (List.mem_of_getElem? ht))).2 u hu) hfz
    rintro rfl
    obtain ⟨t, ht⟩ : ∃ t, l[0]? = some t := by cases l with
      | nil => exact absurd rfl hl
      | cons t l => exact ⟨t, rfl⟩
    have h1 := (cells 0 t ht).1
    rw [cells_of' hc] at h1
    have hn : t.nm ≠ ⟨#[]⟩ := fun e => by
      have h2 := ((Tm.formed_iff t).1 (hf t (List.mem_of_getElem? ht))).1
      rw [e] at h2
      unfold nodeOk at h2
      split at h2
      · rw [show isName ⟨#[]⟩ false = false by decide] at h2; simp at h2
      · rw [show isName ⟨#[]⟩ true = false by decide] at h2; simp at h2
    rcases o with _ | _ | _ | o
    · simp only [Nat.zero_add, Nat.zero_mul, List.getElem?_toArray, List.getElem?_cons_zero, Option.some.injEq, Value.string.injEq] at h1; exact hn h1.symm
    · simp at h1
    · simp at h1
    · simp at h1
theorem TmW.keep {A W : World} {t : Tm} {v : Value} (h : TmW A t v) (hb : Below A.heap.size A W) : TmW W t v := by
  obtain ⟨o, n, c, rfl, h⟩ := h
  exact ⟨o, n, c, rfl, h.carry hb hb.size⟩
theorem RowW.keep {A W : World} {l : List Tm} {v : Value} (h : RowW A l v) (hb : Below A.heap.size A W) : RowW W l v := by
  obtain ⟨b, rfl, h⟩ := h
  exact ⟨b, rfl, h.carry hb hb.size⟩
theorem SlIs.setz {W : World} {l : List Tm} {v : Value} {p : Nat} (h : SlIs W.heap.size W l v) (hc : W.heap[p]? = some zeroTm) (hf : ∀ u ∈ l, u.formed) (x y z : Value) : SlIs (((W.setCell ⟨p, 0, none⟩ x).setCell ⟨p, 1, none⟩ y).setCell ⟨p, 2, none⟩ z).heap.size (((W.setCell ⟨p, 0, none⟩ x).setCell ⟨p, 1, none⟩ y).setCell ⟨p, 2, none⟩ z) l v := by
  refine ((h.zbox hc hf).carry (q := fun b => b < W.heap.size) fun b hb => ⟨heap_set3 _ _ _ _ _ _ hb.2, hb.1⟩).toIs fun b hb => ?_
  simp [World.setCell]; omega
theorem TmW.setz {W : World} {t : Tm} {v : Value} {p : Nat} (h : TmW W t v) (hc : W.heap[p]? = some zeroTm) (hf : ∀ u ∈ t.ts, u.formed) (x y z : Value) : TmW (((W.setCell ⟨p, 0, none⟩ x).setCell ⟨p, 1, none⟩ y).setCell ⟨p, 2, none⟩ z) t v := by
  obtain ⟨o, n, c, rfl, h⟩ := h
  exact ⟨o, n, c, rfl, h.setz hc hf x y z⟩
theorem RowW.setz {W : World} {l : List Tm} {v : Value} {p : Nat} (h : RowW W l v) (hc : W.heap[p]? = some zeroTm) (hf : ∀ u ∈ l, u.formed) (x y z : Value) : RowW (((W.setCell ⟨p, 0, none⟩ x).setCell ⟨p, 1, none⟩ y).setCell ⟨p, 2, none⟩ z) l v := by
  obtain ⟨b, rfl, h⟩ := h
  exact ⟨b, rfl, h.setz hc hf x y z⟩
theorem ownsRow_block {W : World} {g n k : Nat} {e : TypeId} {c : List Value} (h : W.heap[g]? = some (.cells c.toArray e (0, 0))) (hl : c.length = n * k) (hm : n ≤ maxLen) : W.ownsRow 0 e k (.slice (some ⟨g, 0, none⟩) n n) n c :=
  ⟨by simp [hl], .inr ⟨g, n, c.toArray, rfl, Nat.zero_le _, h, Nat.le_refl _, hm, by simp [hl], by simp [← hl]⟩⟩
theorem rowIs {W : World} {g : Nat} (ch : List (Tm × Value)) (h : W.heap[g]? = some (.cells (stCells ch).toArray 34 (0, 0))) (hm : ch.length ≤ 8) (hk : ∀ c ∈ ch, SlIs W.heap.size W c.1.ts c.2) : SlIs W.heap.size W (ch.map (·.1)) (.slice (some ⟨g, 0, none⟩) ch.length ch.length) := by
  have hl : (stCells ch).length = ch.length * 3 := by
    clear h hm hk
    induction ch with
    | nil => rfl
    | cons p ch ih => rw [show stCells (p :: ch) = [.string p.1.nm, .bool p.1.vr, p.2] ++ stCells ch from rfl, List.length_append, ih]; simp; omega
  have h1 := SlP.ofRow (p := fun _ => True) (ownsRow_block h hl (by unfold maxLen; omega)) (fun _ _ => trivial) (fun c hc => (hk c hc).toP.carry fun b _ => ⟨rfl, trivial⟩)
  exact h1.lt.toIs fun b hb => hb.2
/-- a row of one term, of two, just built -/
theorem RowW.one {W : World} {t : Tm} {s : Value} (h : SlIs W.heap.size W t.ts s) : RowW (W.alloc (.cells #[.string t.nm, .bool t.vr, s] 34)) [t] (.slice (some ⟨W.heap.size, 0, none⟩) 1 1) :=
  ⟨_, rfl, rowIs [(t, s)] (heap_new_at _ _ _ rfl) (by simp) (by
    intro c hc
    obtain rfl := List.mem_singleton.1 hc
    exact h.carry ((Below.refl _ _).alloc (Nat.le_refl _) _) (by simp))⟩
theorem RowW.two {W : World} {t u : Tm} {s r : Value} (h : SlIs W.heap.size W t.ts s) (k : SlIs W.heap.size W u.ts r) : RowW (W.alloc (.cells #[.string t.nm, .bool t.vr, s, .string u.nm, .bool u.vr, r] 34)) [t, u] (.slice (some ⟨W.heap.size, 0, none⟩) 2 2) :=
  ⟨_, rfl, rowIs [(t, s), (u, r)] (heap_new_at _ _ _ rfl) (by simp) (by
    intro c hc
    simp only [List.mem_cons, List.not_mem_nil, or_false] at hc
    rcases hc with rfl | rfl
    · exact h.carry ((Below.refl _ _).alloc (Nat.le_refl _) _) (by simp)
    · exact k.carry ((Below.refl _ _).alloc (Nat.le_refl _) _) (by simp))⟩
end Go.Proofs.Ytdnkommcnkbeeaa
