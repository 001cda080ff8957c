/- Packed: Wkp. -/
import Derived.Test.YtnomppdmhgefiaaGreatF09
import Derived.Test.YtnomppdmhgefiaaGreatF04
import Derived.Test.YtnomppdmhgefiaaGreatF13
import Derived.Test.YtnomppdmhgefiaaGreatF15
/- Merged: Kbo, Wkp. -/
/- The Knuth-Bendix order of terms: plain mathematics. No program stands here. -/
namespace Go.Proofs.YtnomppdmhgefiaaGreat
open Go.RowKit

/-- how often a name occurs in a list -/
def cntL (k : Key) : List Key → Nat
  | [] => 0
  | x :: l => (if x = k then 1 else 0) + cntL k l
theorem cntL_append (k : Key) (l r : List Key) : cntL k (l ++ r) = cntL k l + cntL k r := by
  induction l with
  | nil => simp [cntL]
  | cons x l ih => simp only [List.cons_append, cntL, ih]; omega
theorem cntL_zero {k : Key} {l : List Key} (h : k ∉ l) : cntL k l = 0 := by
  induction l with
  | nil => rfl
  | cons x l ih =>
    simp only [List.mem_cons, not_or] at h
    rw [cntL, if_neg (fun e => h.1 e.symm), ih h.2]
theorem cntL_pos {k : Key} {l : List Key} (h : 1 ≤ cntL k l) : k ∈ l := Classical.byContradiction fun hn => by rw [cntL_zero hn] at h; omega
/-- a sum over a list of names -/
def sumL (d : Key → Int) : List Key → Int
  | [] => 0
  | x :: l => d x + sumL d l
theorem sumL_append (d : Key → Int) (l r : List Key) : sumL d (l ++ r) = sumL d l + sumL d r := by
  induction l with
  | nil => simp [sumL]
  | cons x l ih => simp only [List.cons_append, sumL, ih]; omega
theorem sumL_nonneg {d : Key → Int} {l : List Key} (h : ∀ x ∈ l, 0 ≤ d x) : 0 ≤ sumL d l := by
  induction l with
  | nil => simp [sumL]
  | cons x l ih => have := h x (by simp); have := ih fun y hy => h y (by simp [hy]); rw [sumL]; omega
theorem erase_split {x : Key} {l : List Key} (h : x ∈ l) : ∃ p q, l = p ++ x :: q := List.append_of_mem h
/-- the more occurrences, the greater the sum -/
theorem sumL_mono {d : Key → Int} {l : List Key} : ∀ {r : List Key}, (∀ x ∈ r, 0 ≤ d x) → (∀ k, cntL k l ≤ cntL k r) → sumL d l ≤ sumL d r := by
  induction l with
  | nil => intro r h _; exact sumL_nonneg h
  | cons x l ih =>
    intro r h hc
    have hx : x ∈ r := cntL_pos (by have := hc x; rw [cntL, if_pos rfl] at this; omega)
    obtain ⟨p, q, rfl⟩ := erase_split hx
    have h1 := ih (r := p ++ q) (fun y hy => h y (by rcases List.mem_append.1 hy with hy | hy <;> simp [hy])) fun k => by
      have := hc k
      rw [cntL_append, cntL, cntL] at this
      rw [cntL_append]
      omega
    rw [sumL_append] at h1
    rw [sumL_append, sumL, sumL]
    omega

section
variable {wt rk : ByteArray → Int} {un : Int}
mutual
/-- the weight of a term -/
def kw (wt : ByteArray → Int) (un : Int) : Tm → Int
  | .mk nm vr l => if vr = true then un else wt nm + kws wt un l
def kws (wt : ByteArray → Int) (un : Int) : List Tm → Int
  | [] => 0
  | t :: r => kw wt un t + kws wt un r
end
theorem kw_var {t : Tm} (h : t.vr = true) : kw wt un t = un := by cases t; simp only [Tm.vr] at h; subst h; rw [kw, if_pos rfl]
theorem kw_fun {t : Tm} (h : t.vr = false) : kw wt un t = wt t.nm + kws wt un t.ts := by cases t; simp only [Tm.vr] at h; subst h; rw [kw, if_neg (by simp)]; rfl
theorem kws_append (l r : List Tm) : kws wt un (l ++ r) = kws wt un l + kws wt un r := by
  induction l with
  | nil => simp [kws]
  | cons x l ih => simp only [List.cons_append, kws, ih]; omega
def Cov (s t : Tm) : Prop := ∀ k, cntL k t.vs ≤ cntL k s.vs
theorem Cov.trans {s t u : Tm} (h : Cov s t) (k : Cov t u) : Cov s u := fun x => Nat.le_trans (k x) (h x)
/-- s is greater than t -/
inductive Kbo (wt rk : ByteArray → Int) (un : Int) : Tm → Tm → Prop
  | heavy (s t : Tm) : Cov s t → kw wt un t < kw wt un s → Kbo wt rk un s t
  | var (s t : Tm) : Cov s t → kw wt un s = kw wt un t → s.vr = false → t.vr = true → Kbo wt rk un s t
  | top (s t : Tm) : Cov s t → kw wt un s = kw wt un t → s.vr = false → t.vr = false → rk t.nm < rk s.nm → Kbo wt rk un s t
  | lex (s t : Tm) (i : Nat) (a b : Tm) : Cov s t → kw wt un s = kw wt un t → s.vr = false → t.vr = false → s.nm = t.nm → s.ts.length = t.ts.length → s.ts[i]? = some a → t.ts[i]? = some b → s.ts.take i = t.ts.take i → a ≠ b → Kbo wt rk un a b → Kbo wt rk un s t
theorem Kbo.cov {s t : Tm} (h : Kbo wt rk un s t) : Cov s t := by cases h <;> assumption
theorem Kbo.le {s t : Tm} (h : Kbo wt rk un s t) : kw wt un t ≤ kw wt un s := by cases h <;> omega
theorem Kbo.irrefl (s : Tm) : ¬ Kbo wt rk un s s := by
  intro h
  cases h with
  | heavy _ _ _ h => omega
  | var _ _ _ _ h1 h2 => rw [h1] at h2; cases h2
  | top _ _ _ _ _ _ h => omega
  | lex _ _ i a b _ _ _ _ _ _ h1 h2 _ h3 _ => exact h3 (Option.some.inj (h1.symm.trans h2))
theorem Kbo.trans {s t u : Tm} (h : Kbo wt rk un s t) : Kbo wt rk un t u → Kbo wt rk un s u := by
  induction h generalizing u with
  | heavy s t hc hw => intro k; exact .heavy _ _ (hc.trans k.cov) (Int.lt_of_le_of_lt k.le hw)
  | var s t hc hw hs ht =>
    intro k
    cases k with
    | heavy _ _ kc kw' => exact .heavy _ _ (hc.trans kc) (by omega)
    | var _ _ _ _ h1 _ => rw [ht] at h1; cases h1
    | top _ _ _ _ h1 _ _ => rw [ht] at h1; cases h1
    | lex _ _ _ _ _ _ _ h1 => rw [ht] at h1; cases h1
  | top s t hc hw hs ht hr =>
    intro k
    cases k with
    | heavy _ _ kc kw' => exact .heavy _ _ (hc.trans kc) (by omega)
    | var _ _ kc kw' _ hu => exact .var _ _ (hc.trans kc) (by omega) hs hu
    | top _ _ kc kw' _ hu kr => exact .top _ _ (hc.trans kc) (by omega) hs hu (by omega)
    | lex _ _ _ _ _ kc kw' _ hu kn => exact .top _ _ (hc.trans kc) (by omega) hs hu (by rw [← kn]; exact hr)
  | lex s t i a b hc hw hs ht hn hl ha hb hti hne hab ih =>
    intro k
    cases k with
    | heavy _ _ kc kw' => exact .heavy _ _ (hc.trans kc) (by omega)
    | var _ _ kc kw' _ hu => exact .var _ _ (hc.trans kc) (by omega) hs hu
    | top _ _ kc kw' _ hu kr => exact .top _ _ (hc.trans kc) (by omega) hs hu (by rw [hn]; exact kr)
    | lex _ _ j b2 c kc kw' _ hu kn kl hb2 hcm htj kne hbc =>
      rcases Nat.lt_trichotomy i j with hij | hij | hij
      · refine .lex _ _ i a b (hc.trans kc) (by omega) hs hu (hn.trans kn) (hl.trans kl) ha ?_ (hti.trans (take_eq_le htj (Nat.le_of_lt hij))) hne hab
        rw [← take_eq_of_lt htj hij]; exact hb
      · subst hij
        obtain rfl : b = b2 := by rw [hb] at hb2; exact Option.some.inj hb2
        have hac := ih hbc
        exact .lex _ _ i a c (hc.trans kc) (by omega) hs hu (hn.trans kn) (hl.trans kl) ha hcm (hti.trans htj) (fun e => by subst e; exact Kbo.irrefl _ hac) hac
      · refine .lex _ _ j b2 c (hc.trans kc) (by omega) hs hu (hn.trans kn) (hl.trans kl) ?_ hcm ((take_eq_le hti (Nat.le_of_lt hij)).trans htj) kne hbc
        rw [take_eq_of_lt hti hij]; exact hb2
theorem vss_append (l r : List Tm) : Tm.vss (l ++ r) = Tm.vss l ++ Tm.vss r := by
  induction l with
  | nil => simp [Tm.vss]
  | cons x l ih => simp only [List.cons_append, Tm.vss, ih, List.append_assoc]
/-- closed under contexts: one argument -/
theorem Kbo.context {s t : Tm} (h : Kbo wt rk un s t) (nm : ByteArray) (l r : List Tm) : Kbo wt rk un (.mk nm false (l ++ s :: r)) (.mk nm false (l ++ t :: r)) := by
  have hc : Cov (.mk nm false (l ++ s :: r)) (.mk nm false (l ++ t :: r)) := fun k => by
    rw [Tm.vs_fun rfl, Tm.vs_fun rfl]
    show cntL k (Tm.vss (l ++ t :: r)) ≤ cntL k (Tm.vss (l ++ s :: r))
    rw [vss_append, vss_append, Tm.vss, Tm.vss, cntL_append, cntL_append, cntL_append, cntL_append]
    have := h.cov k; omega
  have hw : ∀ x : Tm, kw wt un (.mk nm false (l ++ x :: r)) = wt nm + (kws wt un l + (kw wt un x + kws wt un r)) := fun x => by
    rw [kw_fun rfl]
    show wt nm + kws wt un (l ++ x :: r) = _
    rw [kws_append, kws]
  have hle := h.le
  by_cases he : kw wt un t = kw wt un s
  · refine .lex _ _ l.length s t hc (by rw [hw, hw, he]) rfl rfl rfl (by simp [Tm.ts]) (by simp [Tm.ts]) (by simp [Tm.ts]) (by simp [Tm.ts]) (fun e => by subst e; exact Kbo.irrefl _ h) h
  · exact .heavy _ _ hc (by rw [hw, hw]; omega)

/-- closed under contexts -/
theorem Kbo.put {s t : Tm} (h : Kbo wt rk un s t) {c : Tm} (hc : c.bare) : ∀ {pos : List Int} {x : Tm}, c.at pos = some x → Kbo wt rk un (c.put pos s) (c.put pos t) := by
  induction c using Tm.ind with
  | h c ih =>
    intro pos x hx
    cases pos with
    | nil => simpa [Tm.put] using h
    | cons i l =>
      simp only [Tm.at] at hx
      cases hk : c.kid i with
      | none => rw [hk] at hx; cases hx
      | some u =>
        rw [hk] at hx
        have hu := Tm.kid_mem hk
        have hv : c.vr = false := by
          cases hv : c.vr with
          | false => rfl
          | true => rw [hc.vr0 hv] at hu; cases hu
        have h1 := ih u hu (hc.kids u hu) hx
        have hk' := hk
        unfold Tm.kid at hk'
        split at hk'
        · simp only [Tm.put, hk]
          have hlt : i.toNat < c.ts.length := (List.getElem?_eq_some_iff.1 hk').1
          have e : ∀ v : Tm, c.ts.set i.toNat v = c.ts.take i.toNat ++ v :: c.ts.drop (i.toNat + 1) := fun v => List.set_eq_take_append_cons_drop .. |>.trans (by rw [if_pos hlt])
          rw [e, e, hv]
          exact h1.context c.nm _ _
        · cases hk'

/-- the symbols among which the order is admissible -/
structure Adm (wt rk : ByteArray → Int) (un : Int) (p : ByteArray → Nat → Prop) : Prop where
  unit : 1 ≤ un
  nn : ∀ f n, p f n → 0 ≤ wt f
  const : ∀ f, p f 0 → un ≤ wt f
  one : ∀ f g n, p f 1 → wt f = 0 → p g n → ¬ (f = g ∧ n = 1) → rk g < rk f
/-- all function symbols of a term -/
inductive Tm.syms (p : ByteArray → Nat → Prop) : Tm → Prop
  | mk (t : Tm) : (t.vr = false → p t.nm t.ts.length) → (t.vr = true → t.ts = []) → (∀ u ∈ t.ts, u.syms p) → t.syms p
theorem Tm.syms.top {p : ByteArray → Nat → Prop} {t : Tm} (h : t.syms p) : t.vr = false → p t.nm t.ts.length := by cases h; assumption
theorem Tm.syms.vr0 {p : ByteArray → Nat → Prop} {t : Tm} (h : t.syms p) : t.vr = true → t.ts = [] := by cases h; assumption
theorem Tm.syms.kids {p : ByteArray → Nat → Prop} {t : Tm} (h : t.syms p) : ∀ u ∈ t.ts, u.syms p := by cases h; assumption
theorem kws_ge {l : List Tm} (h : ∀ u ∈ l, 1 ≤ kw wt un u) : (l.length : Int) ≤ kws wt un l := by
  induction l with
  | nil => simp [kws]
  | cons x l ih => have := h x (by simp); have := ih fun u hu => h u (by simp [hu]); rw [kws, List.length_cons]; omega
theorem kws_unit {l : List Tm} (hl : l ≠ []) (hu : 1 ≤ un) (h : ∀ u ∈ l, un ≤ kw wt un u) : un ≤ kws wt un l := by
  cases l with
  | nil => exact absurd rfl hl
  | cons x l =>
    have h1 := h x (by simp)
    have h2 := kws_ge (wt := wt) (un := un) (l := l) fun u hu' => Int.le_trans hu (h u (by simp [hu']))
    rw [kws]; omega
theorem Adm.weight {p : ByteArray → Nat → Prop} (ha : Adm wt rk un p) {t : Tm} (h : t.syms p) : un ≤ kw wt un t := by
  induction t using Tm.ind with
  | h t ih =>
    cases hv : t.vr with
    | true => rw [kw_var hv]; exact Int.le_refl _
    | false =>
      rw [kw_fun hv]
      have htop := h.top hv
      by_cases hl : t.ts = []
      · rw [hl] at htop ⊢
        have := ha.const _ htop
        simp only [kws]; omega
      · have h1 := ha.nn _ _ htop
        have h2 := kws_unit (wt := wt) (un := un) hl ha.unit fun u hu => ih u hu (h.kids u hu)
        omega
/-- a term is greater than its arguments -/
theorem Adm.arg {p : ByteArray → Nat → Prop} (ha : Adm wt rk un p) {c : Tm} (h : c.syms p) (hv : c.vr = false) {u : Tm} (hu : u ∈ c.ts) : Kbo wt rk un c u := by
  induction c using Tm.ind generalizing u with
  | h c ih =>
    obtain ⟨l, r, e⟩ := List.append_of_mem hu
    have hcov : Cov c u := fun k => by
      rw [Tm.vs_fun hv, e, vss_append, Tm.vss, cntL_append, cntL_append]; omega
    have hw : kw wt un c = wt c.nm + (kws wt un l + (kw wt un u + kws wt un r)) := by rw [kw_fun hv, e, kws_append, kws]
    have htop := h.top hv
    have h1 := ha.nn _ _ htop
    have hk : ∀ x ∈ c.ts, 1 ≤ kw wt un x := fun x hx => Int.le_trans ha.unit (ha.weight (h.kids x hx))
    have h2 := kws_ge (wt := wt) (un := un) (l := l) fun x hx => hk x (by rw [e]; simp [hx])
    have h3 := kws_ge (wt := wt) (un := un) (l := r) fun x hx => hk x (by rw [e]; simp [hx])
    by_cases hlt : kw wt un u < kw wt un c
    · exact .heavy _ _ hcov hlt
    · have hl0 : l = [] := List.length_eq_zero_iff.1 (by omega)
      have hr0 : r = [] := List.length_eq_zero_iff.1 (by omega)
      subst hl0; subst hr0
      simp only [List.nil_append] at e
      simp only [kws] at hw
      have heq : kw wt un c = kw wt un u := by omega
      have hw0 : wt c.nm = 0 := by omega
      have hp1 : p c.nm 1 := by rw [e] at htop; exact htop
      cases huv : u.vr with
      | true => exact .var _ _ hcov heq hv huv
      | false =>
        have hpu := (h.kids u hu).top huv
        by_cases hsame : c.nm = u.nm ∧ u.ts.length = 1
        · obtain ⟨v, hv1⟩ : ∃ v, u.ts = [v] := by
            have hl := hsame.2
            cases hts : u.ts with
            | nil => rw [hts] at hl; simp at hl
            | cons v q => cases q with
              | nil => exact ⟨v, rfl⟩
              | cons _ _ => rw [hts] at hl; simp at hl
          have hvm : v ∈ u.ts := by rw [hv1]; simp
          have hrec := ih u hu (h.kids u hu) huv hvm
          refine .lex _ _ 0 u v hcov heq hv huv hsame.1 (by rw [e, hv1]; rfl) (by rw [e]; rfl) (by rw [hv1]; rfl) rfl (fun e' => ?_) hrec
          have := mem_size hvm; rw [← e'] at this; omega
        · exact .top _ _ hcov heq hv huv (ha.one _ _ _ hp1 hw0 hpu hsame)
/-- a variable below the top -/
theorem Adm.occurs {p : ByteArray → Nat → Prop} (ha : Adm wt rk un p) (σ : Key → Tm) {s : Tm} {x : Key} (hv : s.vr = false) (hx : x ∈ s.vs) (h : (apF σ s).syms p) : Kbo wt rk un (apF σ s) (σ x) := by
  induction s using Tm.ind with
  | h s ih =>
    rw [Tm.vs_fun hv, Tm.vss_mem] at hx
    obtain ⟨u, hu, hx⟩ := hx
    rw [apF_fun σ hv] at h ⊢
    have hum : apF σ u ∈ (Tm.mk s.nm false (s.ts.map (apF σ))).ts := List.mem_map.2 ⟨u, hu, rfl⟩
    have h1 := ha.arg h rfl hum
    cases huv : u.vr with
    | true =>
      rw [Tm.vs_var huv] at hx
      obtain rfl := List.mem_singleton.1 hx
      rw [apF_var σ huv] at h1
      exact h1
    | false => exact h1.trans (ih u hu huv hx (h.kids _ hum))
theorem vs_apF (σ : Key → Tm) (k : Key) (t : Tm) : (cntL k (apF σ t).vs : Int) = sumL (fun x => (cntL k (σ x).vs : Int)) t.vs := by
  induction t using Tm.ind with
  | h t ih =>
    cases hv : t.vr with
    | true => rw [apF_var σ hv, Tm.vs_var hv]; simp [sumL]
    | false =>
      rw [apF_fun σ hv, Tm.vs_fun rfl, Tm.vs_fun hv]
      show (cntL k (Tm.vss (t.ts.map (apF σ))) : Int) = _
      have key : ∀ l : List Tm, (∀ u ∈ l, (cntL k (apF σ u).vs : Int) = sumL (fun x => (cntL k (σ x).vs : Int)) u.vs) → (cntL k (Tm.vss (l.map (apF σ))) : Int) = sumL (fun x => (cntL k (σ x).vs : Int)) (Tm.vss l) := by
        intro l
        induction l with
        | nil => intro _; simp [Tm.vss, cntL, sumL]
        | cons u l ihl =>
          intro h
          have h1 := h u (by simp)
          have h2 := ihl fun v hv => h v (by simp [hv])
          simp only [List.map_cons, Tm.vss, cntL_append, sumL_append]
          omega
      exact key t.ts ih
theorem kw_apF (σ : Key → Tm) (t : Tm) : kw wt un (apF σ t) = kw wt un t + sumL (fun x => kw wt un (σ x) - un) t.vs := by
  induction t using Tm.ind with
  | h t ih =>
    cases hv : t.vr with
    | true => rw [apF_var σ hv, Tm.vs_var hv, kw_var hv]; simp only [sumL]; omega
    | false =>
      rw [apF_fun σ hv, Tm.vs_fun hv, kw_fun rfl, kw_fun hv]
      show wt t.nm + kws wt un (t.ts.map (apF σ)) = _
      have key : ∀ l : List Tm, (∀ u ∈ l, kw wt un (apF σ u) = kw wt un u + sumL (fun x => kw wt un (σ x) - un) u.vs) → kws wt un (l.map (apF σ)) = kws wt un l + sumL (fun x => kw wt un (σ x) - un) (Tm.vss l) := by
        intro l
        induction l with
        | nil => intro _; simp [Tm.vss, kws, sumL]
        | cons u l ihl =>
          intro h
          have h1 := h u (by simp)
          have h2 := ihl fun v hv => h v (by simp [hv])
          simp only [List.map_cons, Tm.vss, kws, sumL_append]
          omega
      have := key t.ts ih
      omega
theorem syms_image {p : ByteArray → Nat → Prop} (σ : Key → Tm) {t : Tm} (h : (apF σ t).syms p) : ∀ x ∈ t.vs, (σ x).syms p := by
  induction t using Tm.ind with
  | h t ih =>
    intro x hx
    cases hv : t.vr with
    | true => rw [Tm.vs_var hv] at hx; obtain rfl := List.mem_singleton.1 hx; rwa [apF_var σ hv] at h
    | false =>
      rw [Tm.vs_fun hv, Tm.vss_mem] at hx
      obtain ⟨u, hu, hx⟩ := hx
      rw [apF_fun σ hv] at h
      exact ih u hu (h.kids _ (List.mem_map.2 ⟨u, hu, rfl⟩)) x hx
/-- closed under substitutions -/
theorem Adm.subst {p : ByteArray → Nat → Prop} (ha : Adm wt rk un p) (σ : Key → Tm) {s t : Tm} (h : Kbo wt rk un s t) : (apF σ s).syms p → Kbo wt rk un (apF σ s) (apF σ t) := by
  have hcov : ∀ s t : Tm, Cov s t → Cov (apF σ s) (apF σ t) := fun s t hc k => by
    have h1 := sumL_mono (d := fun x => (cntL k (σ x).vs : Int)) (fun _ _ => by omega) hc
    have h2 := vs_apF σ k s
    have h3 := vs_apF σ k t
    omega
  have hmore : ∀ s t : Tm, Cov s t → (apF σ s).syms p → sumL (fun x => kw wt un (σ x) - un) t.vs ≤ sumL (fun x => kw wt un (σ x) - un) s.vs := fun s t hc hs =>
    sumL_mono (fun x hx => by have := ha.weight (syms_image σ hs x hx); show 0 ≤ kw wt un (σ x) - un; omega) hc
  induction h with
  | heavy s t hc hw =>
    intro hs
    have := hmore s t hc hs
    exact .heavy _ _ (hcov s t hc) (by rw [kw_apF, kw_apF]; omega)
  | var s t hc hw hsv htv =>
    intro hs
    have hx : t.nm.data.toList ∈ s.vs := cntL_pos (by have := hc t.nm.data.toList; rw [Tm.vs_var htv] at this; simp only [cntL, if_true] at this; omega)
    rw [apF_var σ htv]
    exact ha.occurs σ hsv hx hs
  | top s t hc hw hsv htv hr =>
    intro hs
    have h1 := hmore s t hc hs
    have h2 := hcov s t hc
    by_cases he : kw wt un (apF σ s) = kw wt un (apF σ t)
    · rw [apF_fun σ hsv] at h2 he ⊢
      rw [apF_fun σ htv] at h2 he ⊢
      exact .top _ _ h2 he rfl rfl hr
    · exact .heavy _ _ h2 (by rw [kw_apF, kw_apF] at *; omega)
  | lex s t i a b hc hw hsv htv hn hl hia hib hti hne hab ih =>
    intro hs
    have h1 := hmore s t hc hs
    have h2 := hcov s t hc
    by_cases he : kw wt un (apF σ s) = kw wt un (apF σ t)
    · have hs' := hs
      rw [apF_fun σ hsv] at hs'
      have hk := ih (hs'.kids _ (List.mem_map.2 ⟨a, List.mem_of_getElem? hia, rfl⟩))
      rw [apF_fun σ hsv] at h2 he ⊢
      rw [apF_fun σ htv] at h2 he ⊢
      refine .lex _ _ i (apF σ a) (apF σ b) h2 he rfl rfl hn ?_ ?_ ?_ ?_ (fun e => by rw [e] at hk; exact Kbo.irrefl _ hk) hk
      · show (s.ts.map (apF σ)).length = (t.ts.map (apF σ)).length
        rw [List.length_map, List.length_map, hl]
      · show (s.ts.map (apF σ))[i]? = _
        rw [List.getElem?_map, hia]; rfl
      · show (t.ts.map (apF σ))[i]? = _
        rw [List.getElem?_map, hib]; rfl
      · show (s.ts.map (apF σ)).take i = (t.ts.map (apF σ)).take i
        rw [← List.map_take, ← List.map_take, hti]
    · exact .heavy _ _ h2 (by rw [kw_apF, kw_apF] at *; omega)
end
end Go.Proofs.YtnomppdmhgefiaaGreat
/- Weight orders: what is said of them. Plain mathematics; no program stands here. -/
namespace Go.Proofs.YtnomppdmhgefiaaGreat
open Go.RowKit

/-- valid entries and unit -/
structure WtOk (L : List Rk) (u : Int) : Prop where
  len : L.length ≤ 256
  nms : NmsOk L
  rks : ∀ p ∈ L, 0 ≤ p.2.1 ∧ p.2.1 ≤ 1000 ∧ 0 ≤ p.2.2 ∧ p.2.2 ≤ 1000
  unit : 1 ≤ u ∧ u ≤ 1000
/-- the weight of a name -/
def wtOf (L : List Rk) (k : Key) : Int := (entryOf L k).2.2
/-- the weight of a name as it lies -/
def wtB (L : List Rk) (b : ByteArray) : Int := wtOf L b.data.toList
theorem entryOf_cases (L : List Rk) (k : Key) : (entryOf L k ∈ L ∧ (entryOf L k).1 = k) ∨ entryOf L k = (k, 0, 0) := by
  unfold entryOf
  cases h : L.find? (fun p => decide (p.1 = k)) with
  | none => exact .inr rfl
  | some p => exact .inl ⟨List.mem_of_find?_eq_some h, by have := List.find?_some h; simpa using this⟩
theorem WtOk.entry {L : List Rk} {u : Int} (h : WtOk L u) (k : Key) : 0 ≤ rkOf L k ∧ rkOf L k ≤ 1000 ∧ 0 ≤ wtOf L k ∧ wtOf L k ≤ 1000 := by
  unfold rkOf wtOf
  rcases entryOf_cases L k with e | e
  · exact h.rks _ e.1
  · rw [e]; simp
/-- what the search by halves finds -/
theorem entryOf_at {l : List Rk} (h : NmsOk l) {k : Key} {i : Nat} {p : Rk} (hp : l[i]? = some p) (hk : p.1 = k) : entryOf l k = p :=
  entryOf_hit (j := i) (fun q hq e => by
    obtain ⟨j, hj⟩ := List.getElem?_of_mem hq
    rw [List.getElem?_take] at hj
    split at hj
    · rename_i hji
      have := h.lt hji hj hp
      rw [e, hk] at this
      exact absurd this (List.lt_irrefl _)
    · cases hj) hp hk
theorem entryOf_no {l : List Rk} {k : Key} {i : Nat} (h : NmsOk l) (hlo : ∀ j p, j < i → l[j]? = some p → p.1 < k) (hhi : ∀ p, l[i]? = some p → ¬ p.1 < k ∧ p.1 ≠ k) : entryOf l k = (k, 0, 0) :=
  entryOf_miss (fun q hq e => by
    obtain ⟨j, hj⟩ := List.getElem?_of_mem hq
    rcases Nat.lt_trichotomy j i with hji | rfl | hji
    · have := hlo j q hji hj
      rw [e] at this
      exact absurd this (List.lt_irrefl _)
    · exact (hhi q hj).2 e
    · have hjl := (List.getElem?_eq_some_iff.1 hj).1
      have hm : l[i]? = some l[i] := List.getElem?_eq_getElem (by omega)
      have h1 := h.lt hji hm hj
      rw [e] at h1
      exact (hhi _ hm).1 h1)

mutual
/-- the function symbols of a term: the top first -/
def Tm.sy : Tm → List Sy
  | .mk nm vr l => if vr = true then [] else (nm.data.toList, (l.length : Int)) :: Tm.sys l
def Tm.sys : List Tm → List Sy
  | [] => []
  | t :: r => t.sy ++ Tm.sys r
end
mutual
/-- the function symbols of a term: the arguments first -/
def Tm.of : Tm → List Sy
  | .mk nm vr l => Tm.ofs l ++ (if vr = true then [] else [(nm.data.toList, (l.length : Int))])
def Tm.ofs : List Tm → List Sy
  | [] => []
  | t :: r => t.of ++ Tm.ofs r
end
theorem Tm.sy_var {t : Tm} (h : t.vr = true) : t.sy = [] := by cases t; simp only [Tm.vr] at h; subst h; rw [Tm.sy, if_pos rfl]
theorem Tm.sy_fun {t : Tm} (h : t.vr = false) : t.sy = (t.nm.data.toList, (t.ts.length : Int)) :: Tm.sys t.ts := by cases t; simp only [Tm.vr] at h; subst h; rw [Tm.sy, if_neg (by simp)]; rfl
theorem Tm.of_var {t : Tm} (h : t.vr = true) : t.of = Tm.ofs t.ts := by cases t; simp only [Tm.vr] at h; subst h; rw [Tm.of, if_pos rfl, List.append_nil]; rfl
theorem Tm.of_fun {t : Tm} (h : t.vr = false) : t.of = Tm.ofs t.ts ++ [(t.nm.data.toList, (t.ts.length : Int))] := by cases t; simp only [Tm.vr] at h; subst h; rw [Tm.of, if_neg (by simp)]; rfl
theorem Tm.sys_append (l r : List Tm) : Tm.sys (l ++ r) = Tm.sys l ++ Tm.sys r := by
  induction l with
  | nil => simp [Tm.sys]
  | cons x l ih => simp only [List.cons_append, Tm.sys, ih, List.append_assoc]
theorem Tm.ofs_append (l r : List Tm) : Tm.ofs (l ++ r) = Tm.ofs l ++ Tm.ofs r := by
  induction l with
  | nil => simp [Tm.ofs]
  | cons x l ih => simp only [List.cons_append, Tm.ofs, ih, List.append_assoc]
theorem Tm.sys_mem {l : List Tm} {x : Sy} : x ∈ Tm.sys l ↔ ∃ u ∈ l, x ∈ u.sy := by
  induction l with
  | nil => simp [Tm.sys]
  | cons t l ih => rw [Tm.sys, List.mem_append, ih]; simp
theorem Tm.ofs_mem {l : List Tm} {x : Sy} : x ∈ Tm.ofs l ↔ ∃ u ∈ l, x ∈ u.of := by
  induction l with
  | nil => simp [Tm.ofs]
  | cons t l ih => rw [Tm.ofs, List.mem_append, ih]; simp
theorem Tm.of_sy {t : Tm} (h : t.bare) (x : Sy) : x ∈ t.of ↔ x ∈ t.sy := by
  induction t using Tm.ind with
  | h t ih =>
    cases hv : t.vr with
    | true => rw [Tm.of_var hv, Tm.sy_var hv, h.vr0 hv]; simp [Tm.ofs]
    | false =>
      rw [Tm.of_fun hv, Tm.sy_fun hv, List.mem_append, Tm.ofs_mem]
      constructor
      · rintro (⟨u, hu, hx⟩ | hx)
        · exact List.mem_cons_of_mem _ (Tm.sys_mem.2 ⟨u, hu, (ih u hu (h.kids u hu)).1 hx⟩)
        · obtain rfl : x = (t.nm.data.toList, (t.ts.length : Int)) := by simpa using hx
          exact List.mem_cons_self
      · intro hx
        rcases List.mem_cons.1 hx with hx | hx
        · exact .inr (by simpa using hx)
        · obtain ⟨u, hu, hx⟩ := Tm.sys_mem.1 hx
          exact .inl ⟨u, hu, (ih u hu (h.kids u hu)).2 hx⟩
theorem Tm.sy_len (t : Tm) : t.sy.length ≤ t.size := by
  induction t using Tm.ind with
  | h t ih =>
    rw [Tm.size_eq]
    cases hv : t.vr
    · rw [Tm.sy_fun hv]
      have key : ∀ l : List Tm, (∀ u ∈ l, u.sy.length ≤ u.size) → (Tm.sys l).length ≤ Tm.sizes l := by
        intro l
        induction l with
        | nil => intro _; simp [Tm.sys]
        | cons x l ihl => intro h; rw [Tm.sys, List.length_append, Tm.sizes]; have := h x (by simp); have := ihl fun u hu => h u (by simp [hu]); omega
      have := key t.ts ih
      simp only [List.length_cons]; omega
    · rw [Tm.sy_var hv]; simp
theorem Tm.sys_len (l : List Tm) : (Tm.sys l).length ≤ Tm.sizes l := by
  induction l with
  | nil => simp [Tm.sys]
  | cons x l ih => rw [Tm.sys, List.length_append, Tm.sizes]; have := Tm.sy_len x; omega
theorem Tm.of_len (t : Tm) : t.of.length ≤ t.size := by
  induction t using Tm.ind with
  | h t ih =>
    rw [Tm.size_eq]
    have key : ∀ l : List Tm, (∀ u ∈ l, u.of.length ≤ u.size) → (Tm.ofs l).length ≤ Tm.sizes l := by
      intro l
      induction l with
      | nil => intro _; simp [Tm.ofs]
      | cons x l ihl => intro h; rw [Tm.ofs, List.length_append, Tm.sizes]; have := h x (by simp); have := ihl fun u hu => h u (by simp [hu]); omega
    have := key t.ts ih
    cases hv : t.vr
    · rw [Tm.of_fun hv, List.length_append]; simp only [List.length_cons, List.length_nil]; omega
    · rw [Tm.of_var hv]; omega
theorem Tm.ofs_len (l : List Tm) : (Tm.ofs l).length ≤ Tm.sizes l := by
  induction l with
  | nil => simp [Tm.ofs]
  | cons x l ih => rw [Tm.ofs, List.length_append, Tm.sizes]; have := Tm.of_len x; omega

/-- one symbol among others -/
def AdmX (L : List Rk) (u : Int) (S : List Sy) (x : Sy) : Prop := (x.2 = 0 → u ≤ wtOf L x.1) ∧ (x.2 = 1 → wtOf L x.1 = 0 → ∀ y ∈ S, x ≠ y → rkOf L y.1 < rkOf L x.1)
/-- the order is admissible for these symbols -/
def AdmL (L : List Rk) (u : Int) (S : List Sy) : Prop := ∀ x ∈ S, AdmX L u S x
theorem AdmL.sub {L : List Rk} {u : Int} {S T : List Sy} (h : AdmL L u S) (hs : ∀ x ∈ T, x ∈ S) : AdmL L u T := fun x hx => ⟨(h x (hs x hx)).1, fun h1 h2 y hy => (h x (hs x hx)).2 h1 h2 y (hs y hy)⟩
theorem AdmL.congr {L : List Rk} {u : Int} {S T : List Sy} (h : ∀ x, x ∈ S ↔ x ∈ T) : AdmL L u S ↔ AdmL L u T := ⟨fun k => k.sub fun x hx => (h x).2 hx, fun k => k.sub fun x hx => (h x).1 hx⟩
open Classical in
noncomputable def admB (L : List Rk) (u : Int) (S : List Sy) : Bool := decide (AdmL L u S)
open Classical in
theorem admB_yes {L : List Rk} {u : Int} {S : List Sy} : admB L u S = true ↔ AdmL L u S := by unfold admB; exact decide_eq_true_iff
open Classical in
theorem admB_no {L : List Rk} {u : Int} {S : List Sy} : admB L u S = false ↔ ¬ AdmL L u S := by unfold admB; exact decide_eq_false_iff_not
/-- the symbols of a list, as the closed theory asks of them -/
def inSy (S : List Sy) (f : ByteArray) (n : Nat) : Prop := (f.data.toList, (n : Int)) ∈ S
theorem bytes_inj {f g : ByteArray} (h : f.data.toList = g.data.toList) : f = g := by
  cases f; cases g; congr; exact Array.toList_inj.1 h
theorem AdmL.adm {L : List Rk} {u : Int} {S : List Sy} (h : AdmL L u S) (hw : WtOk L u) : Adm (wtB L) (rkB L) u (inSy S) :=
  ⟨hw.unit.1, fun f n _ => (hw.entry f.data.toList).2.2.1, fun f hf => (h _ hf).1 rfl, fun f g n hf hz hg hne => (h _ hf).2 rfl hz _ hg fun e => hne (by
    injection e with e1 e2
    exact ⟨bytes_inj e1, by omega⟩)⟩
theorem Tm.sy_syms {S : List Sy} {t : Tm} (hb : t.bare) (h : ∀ x ∈ t.sy, x ∈ S) : t.syms (inSy S) := by
  induction t using Tm.ind with
  | h t ih =>
    refine .mk t (fun hv => ?_) hb.vr0 fun u hu => ih u hu (hb.kids u hu) fun x hx => ?_
    · exact h _ (by rw [Tm.sy_fun hv]; simp)
    · cases hv : t.vr with
      | true => rw [hb.vr0 hv] at hu; cases hu
      | false => exact h x (by rw [Tm.sy_fun hv, List.mem_cons, Tm.sys_mem]; exact .inr ⟨u, hu, hx⟩)

section
variable {wt rk : ByteArray → Int} {un : Int}
open Classical in
/-- how s is related to t: 1 equal, 2 greater -/
noncomputable def krel (wt rk : ByteArray → Int) (un : Int) (s t : Tm) : Int := if s = t then 1 else if Kbo wt rk un s t then 2 else 0
open Classical in
/-- .. and the first arguments that differ -/
noncomputable def kargs (wt rk : ByteArray → Int) (un : Int) : List Tm → List Tm → Int
  | a :: l, b :: r => if a = b then kargs wt rk un l r else krel wt rk un a b
  | _, _ => 1
/-- the two tops are alike -/
def alike (s t : Tm) : Prop := s.vr = t.vr ∧ s.nm = t.nm ∧ s.ts.length = t.ts.length
open Classical in
/-- .. as if the weights were equal and no variable were lacking -/
noncomputable def ksym (wt rk : ByteArray → Int) (un : Int) (s t : Tm) : Int :=
  if alike s t then kargs wt rk un s.ts t.ts else if s.vr = false ∧ (t.vr = true ∨ rk t.nm < rk s.nm) then 2 else 0
theorem krel_self (s : Tm) : krel wt rk un s s = 1 := by unfold krel; rw [if_pos rfl]
theorem krel_ne {s t : Tm} (h : s ≠ t) : krel wt rk un s t ≠ 1 := by
  unfold krel; rw [if_neg h]; split <;> omega
theorem krel_two {s t : Tm} : krel wt rk un s t = 2 ↔ Kbo wt rk un s t := by
  unfold krel
  by_cases h : s = t
  · rw [if_pos h]; subst h; exact ⟨fun e => by omega, fun k => absurd k (Kbo.irrefl _)⟩
  · rw [if_neg h]; split
    · exact ⟨fun _ => by assumption, fun _ => rfl⟩
    · exact ⟨fun e => by omega, fun k => by contradiction⟩
theorem krel_zero {s t : Tm} (h : s ≠ t) (k : ¬ Kbo wt rk un s t) : krel wt rk un s t = 0 := by unfold krel; rw [if_neg h, if_neg k]
theorem kargs_same (l : List Tm) : kargs wt rk un l l = 1 := by
  induction l with
  | nil => rfl
  | cons x l ih => rw [kargs, if_pos rfl, ih]
theorem kargs_one : ∀ {l r : List Tm}, l.length = r.length → kargs wt rk un l r = 1 → l = r
  | [], [], _, _ => rfl
  | [], _ :: _, h, _ => by simp at h
  | _ :: _, [], h, _ => by simp at h
  | a :: l, b :: r, h, e => by
    rw [kargs] at e
    split at e
    · rename_i hab
      subst hab
      rw [kargs_one (l := l) (r := r) (by simpa using h) e]
    · exact absurd e (krel_ne (by assumption))
/-- up to the first that differ -/
theorem kargs_at {i : Nat} {a b : Tm} : ∀ {l r : List Tm}, l.take i = r.take i → l[i]? = some a → r[i]? = some b → a ≠ b → kargs wt rk un l r = krel wt rk un a b := by
  induction i with
  | zero =>
    intro l r _ ha hb hne
    cases l with
    | nil => simp at ha
    | cons x l => cases r with
      | nil => simp at hb
      | cons y r =>
        simp only [List.getElem?_cons_zero, Option.some.injEq] at ha hb
        subst ha; subst hb
        rw [kargs, if_neg hne]
  | succ i ih =>
    intro l r ht ha hb hne
    cases l with
    | nil => simp at ha
    | cons x l => cases r with
      | nil => simp at hb
      | cons y r =>
        simp only [List.take_succ_cons, List.cons.injEq] at ht
        simp only [List.getElem?_cons_succ] at ha hb
        rw [kargs, if_pos ht.1]
        exact ih ht.2 ha hb hne
theorem kargs_split : ∀ {l r : List Tm}, l.length = r.length → l ≠ r → ∃ i a b, l[i]? = some a ∧ r[i]? = some b ∧ l.take i = r.take i ∧ a ≠ b
  | [], [], _, h => absurd rfl h
  | [], _ :: _, h, _ => by simp at h
  | _ :: _, [], h, _ => by simp at h
  | x :: l, y :: r, h, hne => by
    by_cases e : x = y
    · subst e
      obtain ⟨i, a, b, h1, h2, h3, h4⟩ := kargs_split (l := l) (r := r) (by simpa using h) (fun e => hne (by rw [e]))
      exact ⟨i + 1, a, b, by simpa using h1, by simpa using h2, by simpa using h3, h4⟩
    · exact ⟨0, x, y, rfl, rfl, rfl, e⟩
theorem alike_eq {s t : Tm} (h : alike s t) (e : s.ts = t.ts) : s = t := Tm.ext' h.2.1 h.1 e
theorem ksym_alike {s t : Tm} (h : alike s t) : ksym wt rk un s t = kargs wt rk un s.ts t.ts := by unfold ksym; rw [if_pos h]
theorem ksym_top {s t : Tm} (h : ¬ alike s t) (k : s.vr = false ∧ (t.vr = true ∨ rk t.nm < rk s.nm)) : ksym wt rk un s t = 2 := by unfold ksym; rw [if_neg h, if_pos k]
theorem ksym_not {s t : Tm} (h : ¬ alike s t) (k : ¬ (s.vr = false ∧ (t.vr = true ∨ rk t.nm < rk s.nm))) : ksym wt rk un s t = 0 := by unfold ksym; rw [if_neg h, if_neg k]
theorem ksym_self (s : Tm) : ksym wt rk un s s = 1 := by rw [ksym_alike ⟨rfl, rfl, rfl⟩, kargs_same]
theorem ksym_one {s t : Tm} (e : ksym wt rk un s t = 1) : s = t := by
  by_cases h : alike s t
  · rw [ksym_alike h] at e
    exact alike_eq h (kargs_one h.2.2 e)
  · unfold ksym at e
    rw [if_neg h] at e
    split at e <;> omega
theorem krel_light {s t : Tm} (hne : s ≠ t) (h : ¬ Cov s t ∨ kw wt un s < kw wt un t) : krel wt rk un s t = 0 :=
  krel_zero hne fun k => by rcases h with h | h; exact h k.cov; have := k.le; omega
theorem krel_heavy {s t : Tm} (hc : Cov s t) (h : kw wt un t < kw wt un s) : krel wt rk un s t = 2 := krel_two.2 (.heavy _ _ hc h)
theorem krel_even {s t : Tm} (hs : s.bare) (hne : s ≠ t) (hc : Cov s t) (hw : kw wt un s = kw wt un t) : krel wt rk un s t = ksym wt rk un s t := by
  by_cases h : alike s t
  · rw [ksym_alike h]
    obtain ⟨i, a, b, ha, hb, ht, hab⟩ := kargs_split h.2.2 (fun e => hne (alike_eq h e))
    have hv : s.vr = false := by
      cases hv : s.vr with
      | false => rfl
      | true => rw [hs.vr0 hv] at ha; simp at ha
    rw [kargs_at ht ha hb hab]
    by_cases hk : Kbo wt rk un a b
    · rw [krel_two.2 hk, krel_two.2 (.lex _ _ i a b hc hw hv (by rw [← h.1]; exact hv) h.2.1 h.2.2 ha hb ht hab hk)]
    · rw [krel_zero hab hk]
      refine krel_zero hne fun k => ?_
      cases k with
      | heavy _ _ _ h1 => omega
      | var _ _ _ _ h1 h2 => rw [h.1, h2] at h1; cases h1
      | top _ _ _ _ _ _ h1 => rw [h.2.1] at h1; omega
      | lex _ _ j c d _ _ _ _ _ _ hc1 hd1 ht1 hcd h1 =>
        rcases Nat.lt_trichotomy i j with hij | hij | hij
        · have := take_eq_of_lt ht1 hij
          rw [ha, hb] at this
          exact hab (Option.some.inj this)
        · subst hij
          rw [ha] at hc1; rw [hb] at hd1
          cases hc1; cases hd1
          exact hk h1
        · have := take_eq_of_lt ht hij
          rw [hc1, hd1] at this
          exact hcd (Option.some.inj this)
  · by_cases hk : s.vr = false ∧ (t.vr = true ∨ rk t.nm < rk s.nm)
    · rw [ksym_top h hk, krel_two]
      cases htv : t.vr with
      | true => exact .var _ _ hc hw hk.1 htv
      | false => exact .top _ _ hc hw hk.1 htv (hk.2.resolve_left (by rw [htv]; simp))
    · rw [ksym_not h hk]
      refine krel_zero hne fun k => hk ?_
      cases k with
      | heavy _ _ _ h1 => omega
      | var _ _ _ _ h1 h2 => exact ⟨h1, .inl h2⟩
      | top _ _ _ _ h1 _ h2 => exact ⟨h1, .inr h2⟩
      | lex _ _ j c d _ _ h1 h2 h3 h4 _ _ _ _ _ => exact absurd ⟨h1.trans h2.symm, h3, h4⟩ h
end

/-- what a name has in a map of numbers -/
def valA (M : List (Key × Int)) (k : Key) : Int := (getA M k).getD 0
/-- how many names have less than nothing -/
def lackN (M : List (Key × Int)) : Nat := (M.filter fun p => decide (p.2 < 0)).length
theorem valA_put (M : List (Key × Int)) (k k' : Key) (x : Int) : valA (putA M k x) k' = if k' = k then x else valA M k' := by
  unfold valA; rw [getA_put]; split <;> rfl
theorem lackN_le (M : List (Key × Int)) : lackN M ≤ M.length := List.length_filter_le _ _
def neg1 (x : Int) : Nat := if x < 0 then 1 else 0
theorem lackN_cons (p : Key × Int) (M : List (Key × Int)) : lackN (p :: M) = neg1 p.2 + lackN M := by
  unfold lackN neg1
  rw [List.filter_cons]
  by_cases h : p.2 < 0
  · simp [h]; omega
  · simp [h]
theorem lackN_append (l r : List (Key × Int)) : lackN (l ++ r) = lackN l + lackN r := by unfold lackN; rw [List.filter_append, List.length_append]
theorem map_other {M : List (Key × Int)} {k : Key} {x : Int} (h : k ∉ M.map (·.1)) : M.map (fun p => if p.1 = k then (k, x) else p) = M := by
  induction M with
  | nil => rfl
  | cons p M ih =>
    simp only [List.map_cons, List.mem_cons, not_or] at h
    rw [List.map_cons, if_neg (fun e => h.1 e.symm), ih h.2]
theorem lackN_put {M : List (Key × Int)} (hn : (M.map (·.1)).Nodup) (k : Key) (x : Int) : lackN (putA M k x) + neg1 (valA M k) = lackN M + neg1 x := by
  unfold putA
  by_cases hk : k ∈ M.map (·.1)
  · rw [if_pos hk]
    induction M with
    | nil => simp at hk
    | cons p M ih =>
      simp only [List.map_cons, List.nodup_cons] at hn
      rw [List.map_cons, lackN_cons, lackN_cons]
      by_cases e : p.1 = k
      · subst e
        rw [if_pos rfl, map_other hn.1]
        have : valA (p :: M) p.1 = p.2 := by unfold valA getA; simp
        rw [this]
        simp only; omega
      · rw [if_neg e]
        have h1 := ih hn.2 (by rw [List.map_cons, List.mem_cons] at hk; exact hk.resolve_left (fun h => e h.symm))
        have : valA (p :: M) k = valA M k := by unfold valA getA; rw [List.find?_cons_of_neg (by simpa using e)]
        rw [this]; omega
  · rw [if_neg hk, lackN_append, lackN_cons]
    have : valA M k = 0 := by unfold valA; rw [getA_none.2 hk]; rfl
    rw [this]
    have h0 : neg1 0 = 0 := rfl
    have h1 : lackN [] = 0 := rfl
    rw [h0, h1]; simp only; omega
theorem lackN_pos {M : List (Key × Int)} (hn : (M.map (·.1)).Nodup) : lackN M = 0 ↔ ∀ k, 0 ≤ valA M k := by
  constructor
  · intro h k
    unfold valA
    cases hg : getA M k with
    | none => simp
    | some x =>
      simp only [Option.getD_some]
      refine Classical.byContradiction fun hx => ?_
      have h1 : (k, x) ∈ M.filter fun p => decide (p.2 < 0) := List.mem_filter.2 ⟨getA_some hg, by simp; omega⟩
      rw [List.length_eq_zero_iff.1 h] at h1
      cases h1
  · intro h
    unfold lackN
    rw [List.length_eq_zero_iff, List.filter_eq_nil_iff]
    rintro ⟨k, x⟩ hp
    have h1 := h k
    unfold valA at h1
    rw [getA_of hn hp] at h1
    simp at h1 ⊢
    exact h1
theorem valA_nil (k : Key) : valA [] k = 0 := rfl
theorem covers_iff {M : List (Key × Int)} (hn : (M.map (·.1)).Nodup) {s t : Tm} (h : ∀ k, valA M k = (cntL k s.vs : Int) - cntL k t.vs) : lackN M = 0 ↔ Cov s t := by
  rw [lackN_pos hn]
  exact forall_congr' fun k => by rw [h k]; omega
/-- the sizes of the numbers -/
structure NmB (N : Nat) (g : Int) (M : List (Key × Int)) : Prop where
  wlo : -(1000 * N : Int) ≤ g
  whi : g ≤ 1000 * N
  len : M.length ≤ N
  lo : ∀ k, -(N : Int) ≤ valA M k
  hi : ∀ k, valA M k ≤ N
theorem NmB.mono {N N' : Nat} {g : Int} {M : List (Key × Int)} (h : NmB N g M) (hN : N ≤ N') : NmB N' g M :=
  ⟨by have := h.wlo; omega, by have := h.whi; omega, Nat.le_trans h.len hN, fun k => by have := h.lo k; omega, fun k => by have := h.hi k; omega⟩
theorem NmB.nil : NmB 0 0 [] := ⟨by simp, by simp, by simp, fun k => by simp [valA_nil], fun k => by simp [valA_nil]⟩
theorem putA_len1 {α : Type} (l : List (Key × α)) (k : Key) (v : α) : (putA l k v).length ≤ l.length + 1 := by
  unfold putA
  split
  · rw [List.length_map]; omega
  · rw [List.length_append]; simp
end Go.Proofs.YtnomppdmhgefiaaGreat
