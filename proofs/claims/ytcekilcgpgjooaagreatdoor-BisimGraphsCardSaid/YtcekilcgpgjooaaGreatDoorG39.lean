/- Proved here: contracts of the walk to BisimGraphs: mapped values (pure); each under the conditions that its own statement names. -/
import Derived.Test.YtcekilcgpgjooaaGreatDoorG20
import Derived.Test.YtcekilcgpgjooaaGreatDoorG27
namespace Go.Proofs.YtcekilcgpgjooaaGreatDoor
open Go.RowKit
def wAt (x : Int × V × List Int) : V → List Int → Int
 | .nil, _ => 0
 | .cons n k ws r, aw => (if (n, k, ws) = x then aw.headD 0 else 0) + wAt x r aw.tail
def V.has (x : Int × V × List Int) : V → Prop
 | .nil => False
 | .cons n k ws r => (n, k, ws) = x ∨ r.has x
theorem cmp1_eq {n n' : Int} {k k' : V} {ws ws' : List Int} : cmp1 n k ws n' k' ws' = 0 ↔ (n, k, ws) = (n', k', ws') := by
 rw [cmp1_zero]; simp
theorem insK_has (n : Int) (k : V) (ws : List Int) (x : Int × V × List Int) : ∀ acc : V, (insK n k ws acc).has x ↔ (n, k, ws) = x ∨ acc.has x := by
 intro acc
 induction acc with
 | nil => simp [insK, V.has]
 | cons n' k' ws' r _ ih =>
  simp only [insK]
  by_cases h1 : cmp1 n k ws n' k' ws' < 0
  ·rw [if_pos h1]; simp [V.has]
  rw [if_neg h1]
  by_cases h2 : cmp1 n k ws n' k' ws' = 0
  ·rw [if_pos h2]
   have := cmp1_eq.1 h2
   simp only [V.has, this]
   constructor
   ·exact Or.inr
   ·rintro (h | h)
    ·exact Or.inl h
    ·exact h
  ·rw [if_neg h2]
   simp only [V.has, ih]
   constructor
   ·rintro (h | h | h)
    ·exact Or.inr (Or.inl h)
    ·exact Or.inl h
    ·exact Or.inr (Or.inr h)
   ·rintro (h | h | h)
    ·exact Or.inr (Or.inl h)
    ·exact Or.inl h
    ·exact Or.inr (Or.inr h)
theorem mrgA_has (wt : Bool) (x : Int × V × List Int) : ∀ (t : V) (wl : List Int) (acc : V) (aw : List Int), (mrgA wt t wl acc aw).1.has x ↔ t.has x ∨ acc.has x := by
 intro t
 induction t with
 | nil => intro wl acc aw; simp [mrgA, V.has]
 | cons n k ws r _ ih =>
  intro wl acc aw
  simp only [mrgA, V.has]
  rw [ih, insK_has]
  constructor
  ·rintro (h | h | h)
   ·exact Or.inl (Or.inr h)
   ·exact Or.inl (Or.inl h)
   ·exact Or.inr h
  ·rintro ((h | h) | h)
   ·exact Or.inr (Or.inl h)
   ·exact Or.inl h
   ·exact Or.inr (Or.inr h)
theorem insW_wAt (n : Int) (k : V) (ws : List Int) (y : Int) (x : Int × V × List Int) : ∀ (acc : V) (aw : List Int), aw.length = acc.len → wAt x (insK n k ws acc) (insW n k ws y acc aw) = (if (n, k, ws) = x then y else 0) + wAt x acc aw := by
 intro acc
 induction acc with
 | nil => intro aw _; simp [insK, insW, wAt]
 | cons n' k' ws' r _ ih =>
  intro aw hl
  cases aw with
  | nil => simp [V.len] at hl
  | cons z zs =>
   simp only [insK, insW, List.headD_cons, List.tail_cons]
   by_cases h1 : cmp1 n k ws n' k' ws' < 0
   ·rw [if_pos h1, if_pos h1]; simp [wAt]
   rw [if_neg h1, if_neg h1]
   by_cases h2 : cmp1 n k ws n' k' ws' = 0
   ·rw [if_pos h2, if_pos h2]
    have := cmp1_eq.1 h2
    simp only [wAt, this, List.headD_cons, List.tail_cons]
    split <;> omega
   ·rw [if_neg h2, if_neg h2]
    simp only [wAt, List.headD_cons, List.tail_cons]
    rw [ih zs (by simp [V.len] at hl; omega)]
    omega
theorem mrgA_wAt (x : Int × V × List Int) : ∀ (t : V) (wl : List Int) (acc : V) (aw : List Int), wl.length = t.len → (∀ y ∈ wl, 1 ≤ y) → aw.length = acc.len → (∀ y ∈ aw, 1 ≤ y) → wAt x (mrgA true t wl acc aw).1 (mrgA true t wl acc aw).2 = wAt x t wl + wAt x acc aw := by
 intro t
 induction t with
 | nil => intro wl acc aw _ _ _ _; simp [mrgA, wAt]
 | cons n k ws r _ ih =>
  intro wl acc aw hl hp h1 h2
  cases wl with
  | nil => simp [V.len] at hl
  | cons z zs =>
   obtain ⟨i1, i2⟩ := insW_ok (n := n) (k := k) (ws := ws) (hp z (List.mem_cons_self ..)) acc aw h1 h2
   simp only [mrgA, if_true, List.headD_cons, List.tail_cons, wAt]
   rw [ih zs _ _ (by simp [V.len] at hl; omega) (fun y hy => hp y (List.mem_cons_of_mem _ hy)) i1 i2, insW_wAt _ _ _ _ _ _ _ h1]
   omega
theorem inc_first {n : Int} {k : V} {ws : List Int} : ∀ {r : V}, (V.cons n k ws r).inc = true → ∀ {n' : Int} {k' : V} {ws' : List Int}, r.has (n', k', ws') → cmp1 n k ws n' k' ws' < 0 := by
 intro r
 induction r generalizing n k ws with
 | nil => intro _ _ _ _ h; exact h.elim
 | cons n1 k1 ws1 r _ ih =>
  intro h n' k' ws' hh
  rw [inc_cons2] at h
  simp only [Bool.and_eq_true, decide_eq_true_eq] at h
  rcases hh with hh | hh
  ·simp only [Prod.mk.injEq] at hh
   obtain ⟨rfl, rfl, rfl⟩ := hh
   exact h.1
  ·exact cmp1_trans h.1 (ih h.2 hh)
theorem inc_not_mem {n : Int} {k : V} {ws : List Int} {r : V} (h : (V.cons n k ws r).inc = true) : ¬ r.has (n, k, ws) := fun hh => by
 have := inc_first h hh
 have := (cmp1_zero (n := n) (n' := n) (k := k) (k' := k) (ws := ws) (ws' := ws)).2 ⟨rfl, rfl, rfl⟩
 omega
theorem inc_ext : ∀ (t u : V), t.inc = true → u.inc = true → (∀ x, t.has x ↔ u.has x) → t = u := by
 intro t
 induction t with
 | nil =>
  intro u _ _ h
  cases u with
  | nil => rfl
  | cons n k ws r => exact ((h (n, k, ws)).2 (Or.inl rfl)).elim
 | cons n k ws r _ ih =>
  intro u ht hu h
  cases u with
  | nil => exact ((h (n, k, ws)).1 (Or.inl rfl)).elim
  | cons n' k' ws' r' =>
   have e : (n, k, ws) = (n', k', ws') := by
    rcases (h (n, k, ws)).1 (Or.inl rfl) with h1 | h1
    ·exact h1.symm
    ·rcases (h (n', k', ws')).2 (Or.inl rfl) with h2 | h2
     ·exact h2
     ·have a := inc_first hu h1
      have b := inc_first ht h2
      have c := cmp1_neg n n' k k' ws ws'
      omega
   simp only [Prod.mk.injEq] at e
   obtain ⟨rfl, rfl, rfl⟩ := e
   rw [ih r' (inc_tail ht) (inc_tail hu) (fun x => ?_)]
   have hx := h x
   simp only [V.has] at hx
   by_cases hxe : (n, k, ws) = x
   ·subst hxe
    exact ⟨fun h1 => absurd h1 (inc_not_mem ht), fun h1 => absurd h1 (inc_not_mem hu)⟩
   ·constructor
    ·intro h1
     rcases hx.1 (Or.inr h1) with h2 | h2
     ·exact absurd h2 hxe
     ·exact h2
    ·intro h1
     rcases hx.2 (Or.inr h1) with h2 | h2
     ·exact absurd h2 hxe
     ·exact h2
theorem wAt_no {x : Int × V × List Int} : ∀ (t : V) (aw : List Int), ¬ t.has x → wAt x t aw = 0 := by
 intro t
 induction t with
 | nil => intro _ _; rfl
 | cons n k ws r _ ih =>
  intro aw h
  simp only [V.has, not_or] at h
  simp only [wAt, if_neg h.1, ih _ h.2]; rfl
theorem wAt_nonneg {x : Int × V × List Int} : ∀ (t : V) (aw : List Int), (∀ y ∈ aw, 1 ≤ y) → 0 ≤ wAt x t aw := by
 intro t
 induction t with
 | nil => intro _ _; exact Int.le_refl _
 | cons n k ws r _ ih =>
  intro aw h
  simp only [wAt]
  have h1 := ih aw.tail (fun y hy => h y (List.mem_of_mem_tail hy))
  have h2 : 0 ≤ aw.headD 0 := by
   cases aw with
   | nil => exact Int.le_refl _
   | cons z zs => have := h z (List.mem_cons_self ..); simp; omega
  split <;> omega
theorem wAt_pos {x : Int × V × List Int} : ∀ (t : V) (aw : List Int), aw.length = t.len → (∀ y ∈ aw, 1 ≤ y) → (t.has x ↔ 0 < wAt x t aw) := by
 intro t
 induction t with
 | nil => intro _ _ _; simp [V.has, wAt]
 | cons n k ws r _ ih =>
  intro aw hl h
  cases aw with
  | nil => simp [V.len] at hl
  | cons z zs =>
   have h1 := ih zs (by simp [V.len] at hl; omega) (fun y hy => h y (List.mem_cons_of_mem _ hy))
   have h2 := wAt_nonneg (x := x) r zs (fun y hy => h y (List.mem_cons_of_mem _ hy))
   have h3 := h z (List.mem_cons_self ..)
   simp only [V.has, wAt, List.headD_cons, List.tail_cons]
   by_cases he : (n, k, ws) = x
   ·rw [if_pos he]; simp only [he, true_or, true_iff]; omega
   ·rw [if_neg he]; simp only [he, false_or, h1]; omega
theorem inc_wAt : ∀ (t : V) (aw bw : List Int), t.inc = true → aw.length = t.len → bw.length = t.len → (∀ x, wAt x t aw = wAt x t bw) → aw = bw := by
 intro t
 induction t with
 | nil =>
  intro aw bw _ h1 h2 _
  simp only [V.len, List.length_eq_zero_iff] at h1 h2
  rw [h1, h2]
 | cons n k ws r _ ih =>
  intro aw bw hi h1 h2 h
  cases aw with
  | nil => simp [V.len] at h1
  | cons y ys =>
   cases bw with
   | nil => simp [V.len] at h2
   | cons z zs =>
    have h0 := h (n, k, ws)
    simp only [wAt, if_true, List.headD_cons, List.tail_cons] at h0
    rw [wAt_no _ _ (inc_not_mem hi), wAt_no _ _ (inc_not_mem hi)] at h0
    rw [ih ys zs (inc_tail hi) (by simp [V.len] at h1; omega) (by simp [V.len] at h2; omega) (fun x => ?_), show y = z by omega]
    have hx := h x
    simp only [wAt, List.headD_cons, List.tail_cons] at hx
    by_cases he : (n, k, ws) = x
    ·rw [if_pos he, if_pos he] at hx; omega
    ·rw [if_neg he, if_neg he] at hx; omega
theorem sumN_first (f : Nat → Int) : ∀ n, sumN f (n + 1) = f 0 + sumN (fun i => f (i + 1)) n := by
 intro n
 induction n with
 | zero => simp [sumN]
 | succ n ih => rw [sumN, ih]; simp only [sumN]; omega
theorem sumN_more {f : Nat → Int} (h : ∀ i, 0 ≤ f i) {a : Nat} : ∀ n, a ≤ n → sumN f a ≤ sumN f n := by
 intro n
 induction n with
 | zero => intro ha; rw [show a = 0 by omega]; exact Int.le_refl _
 | succ n ih =>
  intro ha
  by_cases han : a = n + 1
  ·subst han; exact Int.le_refl _
  ·have := ih (by omega); have := h n; simp only [sumN]; omega
theorem wAt_sum (x : Int × V × List Int) : ∀ (t : V) (aw : List Int), wAt x t aw = sumN (fun a => if t.el a = x then getW aw a else 0) t.len := by
 intro t
 induction t with
 | nil => intro _; rfl
 | cons n k ws r _ ih =>
  intro aw
  simp only [wAt, V.len]
  rw [sumN_first, ih aw.tail]
  have e : ∀ i, getW aw.tail i = getW aw (i + 1) := by
   intro i
   unfold getW
   cases aw <;> simp
  have e0 : getW aw 0 = aw.headD 0 := by
   unfold getW
   cases aw <;> simp
  simp only [V.el, e, e0]
  congr
def ov (p q r s : Int) : Int := max 0 (min q s - max p r)
theorem ov_comm (p q r s : Int) : ov p q r s = ov r s p q := by unfold ov; rw [Int.min_comm, Int.max_comm p r]
theorem ov_step {p q x r : Int} (hp : 0 ≤ p) (hpq : p ≤ q) (hx : 0 ≤ x) (hr : 0 ≤ r) : ov p q 0 x + ov p q x (x + r) = ov p q 0 (x + r) := by unfold ov; omega
theorem ov_all {p q x : Int} (hp : 0 ≤ p) (hpq : p ≤ q) (hx : q ≤ x) : ov p q 0 x = q - p := by unfold ov; omega
theorem ov_none {p q : Int} (hp : 0 ≤ p) (hpq : p ≤ q) : ov p q 0 0 = 0 := by unfold ov; omega
def inC {E : Type} [DecidableEq E] (c : Nat → E) (L : Nat → Int) (x : E) (n : Nat) : Int := sumN (fun i => if c i = x then L i else 0) n
theorem inC_nonneg {E : Type} [DecidableEq E] {c : Nat → E} {L : Nat → Int} (hL : ∀ i, 0 ≤ L i) (x : E) (n : Nat) : 0 ≤ inC c L x n :=
 sumN_nonneg n (fun i _ => by split; exact hL i; exact Int.le_refl _)
theorem rowSum {E : Type} [DecidableEq E] {c d : Nat → E} {L R : Nat → Int} {n m a : Nat} (hL : ∀ i, 0 ≤ L i) (hR : ∀ i, 0 ≤ R i) (ha : a < n) (h : inC c L (c a) n = inC d R (c a) m) :
    sumN (fun b => if c a = d b then ov (inC c L (c a) a) (inC c L (c a) a + L a) (inC d R (d b) b) (inC d R (d b) b + R b) else 0) m = L a := by
 have hp := inC_nonneg (c := c) hL (c a) a
 have hLa := hL a
 have key : ∀ m', sumN (fun b => if c a = d b then ov (inC c L (c a) a) (inC c L (c a) a + L a) (inC d R (d b) b) (inC d R (d b) b + R b) else 0) m' = ov (inC c L (c a) a) (inC c L (c a) a + L a) 0 (inC d R (c a) m') := by
  intro m'
  induction m' with
  | zero => exact (ov_none hp (by omega)).symm
  | succ b ih =>
   rw [sumN, ih]
   have hq := inC_nonneg (c := d) hR (c a) b
   have hs : inC d R (c a) (b + 1) = inC d R (c a) b + (if d b = c a then R b else 0) := rfl
   rw [hs]
   by_cases he : c a = d b
   ·rw [if_pos he, if_pos he.symm, ← he]
    exact ov_step hp (by omega) hq (hR b)
   ·rw [if_neg he, if_neg (fun e => he e.symm), Int.add_zero, Int.add_zero]
 rw [key, ov_all hp (by omega)]
 ·omega
 rw [← h]
 have h1 : inC c L (c a) (a + 1) ≤ inC c L (c a) n := sumN_more (fun i => by split; exact hL i; exact Int.le_refl _) n ha
 have h2 : inC c L (c a) (a + 1) = inC c L (c a) a + L a := by show inC c L (c a) a + (if c a = c a then L a else 0) = _; rw [if_pos rfl]
 omega
theorem flow_classes {E : Type} [DecidableEq E] {c d : Nat → E} {L R : Nat → Int} {n m : Nat} {Rel : Nat → Nat → Prop} (hL : ∀ i, 0 ≤ L i) (hR : ∀ i, 0 ≤ R i) (hr : ∀ a b, a < n → b < m → (Rel a b ↔ c a = d b)) :
    FlowP n m L R Rel ↔ ∀ x, inC c L x n = inC d R x m := by
 constructor
 ·intro ⟨mv, h0, h1, h2, h3⟩ x
  have e1 : inC c L x n = sumN (fun a => sumN (fun b => if c a = x then mv a b else 0) m) n := by
   refine sumN_congr n (fun a ha => ?_)
   by_cases hx : c a = x
   ·simp only [if_pos hx]; exact (h2 a ha).symm
   ·simp only [if_neg hx]; exact (sumN_zero m).symm
  have e2 : inC d R x m = sumN (fun b => sumN (fun a => if d b = x then mv a b else 0) n) m := by
   refine sumN_congr m (fun b hb => ?_)
   by_cases hx : d b = x
   ·simp only [if_pos hx]; exact (h3 b hb).symm
   ·simp only [if_neg hx]; exact (sumN_zero n).symm
  rw [e1, e2, sumN_swap]
  refine sumN_congr m (fun b hb => sumN_congr n (fun a ha => ?_))
  by_cases he : c a = d b
  ·rw [he]
  ·have := h1 a b ha hb (fun h => he ((hr a b ha hb).1 h))
   rw [this]; split <;> split <;> rfl
 ·intro h
  refine ⟨fun a b => if c a = d b then ov (inC c L (c a) a) (inC c L (c a) a + L a) (inC d R (d b) b) (inC d R (d b) b + R b) else 0, ?_, ?_, ?_, ?_⟩
  ·intro a b
   simp only
   split
   ·unfold ov; omega
   ·exact Int.le_refl _
  ·intro a b ha hb hn
   exact if_neg (fun e => hn ((hr a b ha hb).2 e))
  ·intro a ha
   exact rowSum hL hR ha (h _)
  ·intro b hb
   have := rowSum (c := d) (d := c) (L := R) (R := L) (n := m) (m := n) hR hL hb (h _).symm
   refine (sumN_congr n (fun a _ => ?_)).trans this
   show (if c a = d b then _ else 0) = _
   by_cases he : c a = d b
   ·rw [if_pos he, if_pos he.symm, ov_comm]
   ·rw [if_neg he, if_neg (fun e => he e.symm)]
theorem V.ext_el : ∀ (t u : V), t.len = u.len → (∀ i, i < t.len → t.el i = u.el i) → t = u := by
 intro t
 induction t with
 | nil => intro u h _; cases u with | nil => rfl | cons => simp [V.len] at h
 | cons n k ws r _ ih =>
  intro u h he
  cases u with
  | nil => simp [V.len] at h
  | cons n' k' ws' r' =>
   have h0 := he 0 (by simp [V.len])
   simp only [V.el, Prod.mk.injEq] at h0
   obtain ⟨rfl, rfl, rfl⟩ := h0
   rw [ih r' (by simpa [V.len] using h) (fun i hi => by have := he (i + 1) (by simpa [V.len] using hi); simpa [V.el] using this)]
theorem V.has_el (x : Int × V × List Int) : ∀ t : V, t.has x ↔ ∃ i, i < t.len ∧ t.el i = x := by
 intro t
 induction t with
 | nil => simp [V.has, V.len]
 | cons n k ws r _ ih =>
  simp only [V.has, ih]
  constructor
  ·rintro (h | ⟨i, hi, h⟩)
   ·exact ⟨0, by simp [V.len], h⟩
   ·exact ⟨i + 1, by simpa [V.len] using hi, h⟩
  ·rintro ⟨i, hi, h⟩
   cases i with
   | zero => exact Or.inl h
   | succ i => exact Or.inr ⟨i, by simpa [V.len] using hi, h⟩
theorem mrg6_iff {t u : V} {wl wl' : List Int} (h1 : wl.length = t.len) (h2 : ∀ y ∈ wl, 1 ≤ y) (h3 : wl'.length = u.len) (h4 : ∀ y ∈ wl', 1 ≤ y) : mrg 6 t wl = mrg 6 u wl' ↔ ∀ x, wAt x t wl = wAt x u wl' := by
 have w6 : wgt 6 = true := rfl
 obtain ⟨a1, a2, _⟩ := mrgA_ok t wl .nil [] h1 h2 rfl (fun y hy => by simp at hy)
 obtain ⟨b1, b2, _⟩ := mrgA_ok u wl' .nil [] h3 h4 rfl (fun y hy => by simp at hy)
 have ea := fun x => mrgA_wAt x t wl .nil [] h1 h2 rfl (fun y hy => by simp at hy)
 have eb := fun x => mrgA_wAt x u wl' .nil [] h3 h4 rfl (fun y hy => by simp at hy)
 simp only [wAt, Int.add_zero] at ea eb
 have ia := mrgA_inc true t wl .nil [] rfl
 have ib := mrgA_inc true u wl' .nil [] rfl
 unfold mrg
 rw [w6]
 simp only [show ¬ ((6 : Int) = 7) by omega, if_false, Prod.mk.injEq]
 constructor
 ·rintro ⟨e1, e2⟩ x
  rw [← ea x, ← eb x, e1, e2]
 ·intro h
  have e1 : (mrgA true t wl .nil []).1 = (mrgA true u wl' .nil []).1 := by
   refine inc_ext _ _ ia ib (fun x => ?_)
   rw [wAt_pos _ _ a1 a2, wAt_pos _ _ b1 b2, ea, eb, h x]
  refine ⟨e1, inc_wAt _ _ _ ia a1 (by rw [b1, e1]) (fun x => ?_)⟩
  rw [ea x, e1, eb x, h x]
theorem mrg5_iff {t u : V} {wl wl' : List Int} : mrg 5 t wl = mrg 5 u wl' ↔ ∀ x, t.has x ↔ u.has x := by
 have w5 : wgt 5 = false := rfl
 have k0 : ∀ (t : V) (wl : List Int) (acc : V), (mrgA false t wl acc []).2 = [] := by
  intro t
  induction t with
  | nil => intro _ _; rfl
  | cons n k ws r _ ih => intro wl acc; simp only [mrgA, Bool.false_eq_true, if_false]; exact ih _ _
 have ia := mrgA_inc false t wl .nil [] rfl
 have ib := mrgA_inc false u wl' .nil [] rfl
 have ha := fun x => mrgA_has false x t wl .nil []
 have hb := fun x => mrgA_has false x u wl' .nil []
 simp only [V.has, or_false] at ha hb
 unfold mrg
 rw [w5]
 simp only [show ¬ ((5 : Int) = 7) by omega, if_false, Prod.mk.injEq, k0, and_true]
 constructor
 ·intro e x; rw [← ha, ← hb, e]
 ·intro h
  exact inc_ext _ _ ia ib (fun x => by rw [ha, hb, h x])
theorem sumL_getW : ∀ ws : List Int, sumN (getW ws) ws.length = sumL ws := by
 intro ws
 induction ws with
 | nil => rfl
 | cons x r ih =>
  rw [List.length_cons, sumN_first]
  have : (fun i => getW (x :: r) (i + 1)) = getW r := by funext i; simp [getW]
  rw [this, ih]
  simp [getW, sumL]
theorem mrgA_sum : ∀ (t : V) (wl : List Int) (acc : V) (aw : List Int), wl.length = t.len → (∀ y ∈ wl, 1 ≤ y) → aw.length = acc.len → (∀ y ∈ aw, 1 ≤ y) → sumL (mrgA true t wl acc aw).2 = sumL wl + sumL aw := by
 intro t
 induction t with
 | nil => intro wl acc aw h _ _ _; simp only [V.len, List.length_eq_zero_iff] at h; subst h; simp [mrgA, sumL]
 | cons n k ws r _ ih =>
  intro wl acc aw hl hp h1 h2
  cases wl with
  | nil => simp [V.len] at hl
  | cons z zs =>
   obtain ⟨i1, i2⟩ := insW_ok (n := n) (k := k) (ws := ws) (hp z (List.mem_cons_self ..)) acc aw h1 h2
   simp only [mrgA, if_true, List.headD_cons, List.tail_cons]
   rw [ih zs _ _ (by simp [V.len] at hl; omega) (fun y hy => hp y (List.mem_cons_of_mem _ hy)) i1 i2, insW_sum _ _ _ _ _ _ h1]
   simp only [sumL]; omega
theorem wAt_mul (x : Int × V × List Int) (s : Int) : ∀ (t : V) (aw : List Int), wAt x t (aw.map (fun y => y * s)) = wAt x t aw * s := by
 intro t
 induction t with
 | nil => intro _; simp [wAt]
 | cons n k ws r _ ih =>
  intro aw
  simp only [wAt, Int.add_mul]
  rw [show (aw.map (fun y => y * s)).tail = aw.tail.map (fun y => y * s) by cases aw <;> rfl, ih]
  congr 1
  split
  ·cases aw <;> simp
  ·simp
theorem sumL_mul (s : Int) : ∀ aw : List Int, sumL (aw.map (fun y => y * s)) = sumL aw * s := by
 intro aw
 induction aw with
 | nil => simp [sumL]
 | cons x r ih => simp only [List.map_cons, sumL, ih, Int.add_mul]
theorem gcdL_mul (s : Int) (hs : 0 ≤ s) : ∀ (aw : List Int) (d : Nat), (∀ y ∈ aw, 0 ≤ y) → gcdL (d * s.toNat) (aw.map (fun y => y * s)) = gcdL d aw * s.toNat := by
 intro aw
 induction aw with
 | nil => intro d _; rfl
 | cons x r ih =>
  intro d h
  simp only [List.map_cons, gcdL]
  have hx := h x (List.mem_cons_self ..)
  rw [show (x * s).toNat = x.toNat * s.toNat from Int.toNat_mul hx hs, Nat.gcd_mul_right, ih _ (fun y hy => h y (List.mem_cons_of_mem _ hy))]
theorem div_eq {g g' s s' : Int} (hg : 0 < g) (hg' : 0 < g') (hs' : 0 < s') (he : g * s' = g' * s) : ∀ (A B : List Int), (∀ y ∈ A, g ∣ y) → (∀ y ∈ B, g' ∣ y) → A.map (fun y => y * s') = B.map (fun y => y * s) → A.map (fun y => y / g) = B.map (fun y => y / g') := by
 intro A
 induction A with
 | nil => intro B _ _ h; cases B with | nil => rfl | cons => simp at h
 | cons x r ih =>
  intro B hA hB h
  cases B with
  | nil => simp at h
  | cons y ys =>
   simp only [List.map_cons, List.cons.injEq] at h ⊢
   refine ⟨?_, ih ys (fun z hz => hA z (List.mem_cons_of_mem _ hz)) (fun z hz => hB z (List.mem_cons_of_mem _ hz)) h.2⟩
   obtain ⟨a, ha⟩ := hA x (List.mem_cons_self ..)
   obtain ⟨b, hb⟩ := hB y (List.mem_cons_self ..)
   subst ha hb
   rw [Int.mul_ediv_cancel_left _ (by omega), Int.mul_ediv_cancel_left _ (by omega)]
   have h1 := h.1
   have h2 : (g * s') * a = (g * s') * b := by
    calc (g * s') * a = g * a * s' := by rw [Int.mul_assoc, Int.mul_comm s' a, Int.mul_assoc]
     _ = g' * b * s := h1
     _ = (g' * s) * b := by rw [Int.mul_assoc, Int.mul_comm b s, Int.mul_assoc]
     _ = (g * s') * b := by rw [he]
   exact Int.eq_of_mul_eq_mul_left (by have := Int.mul_pos hg hs'; omega) h2
theorem gcdL_dvdI {l : List Int} (hp : ∀ y ∈ l, 1 ≤ y) : ∀ y ∈ l, ((gcdL 0 l : Nat) : Int) ∣ y := by
 intro y hy
 have h := gcdL_dvd y hy
 have h1 := hp y hy
 obtain ⟨q, hq⟩ := h
 exact ⟨q, by rw [← Int.natCast_mul, ← hq]; omega⟩
theorem sumL_gt {a : List Int} (h : ∀ y ∈ a, 1 ≤ y) (hl : 0 < a.length) : 0 < sumL a := by
 cases a with
 | nil => simp at hl
 | cons x r =>
  have := h x (List.mem_cons_self ..)
  have := sumL_pos (fun y hy => h y (List.mem_cons_of_mem _ hy))
  simp only [sumL]; omega
theorem map_swap {g g' : Int} (hg : 0 < g) (hg' : 0 < g') : ∀ {A B : List Int}, (∀ y ∈ A, g ∣ y) → (∀ y ∈ B, g' ∣ y) → A.map (fun y => y / g) = B.map (fun y => y / g') → A.map (fun y => y * g') = B.map (fun y => y * g) := by
 intro A
 induction A with
 | nil => intro B _ _ h; cases B with | nil => rfl | cons => simp at h
 | cons x r ih =>
  intro B hA hB h
  cases B with
  | nil => simp at h
  | cons y ys =>
   simp only [List.map_cons, List.cons.injEq] at h ⊢
   refine ⟨?_, ih (fun z hz => hA z (List.mem_cons_of_mem _ hz)) (fun z hz => hB z (List.mem_cons_of_mem _ hz)) h.2⟩
   obtain ⟨a, ha⟩ := hA x (List.mem_cons_self ..)
   obtain ⟨b, hb⟩ := hB y (List.mem_cons_self ..)
   have h1 := h.1
   rw [ha, hb, Int.mul_ediv_cancel_left _ (by omega), Int.mul_ediv_cancel_left _ (by omega)] at h1
   rw [ha, hb, h1, Int.mul_comm g b, Int.mul_comm g' b, Int.mul_assoc, Int.mul_assoc, Int.mul_comm g g']
theorem cross {a b c d p q : Int} (hq : 0 < q) (h1 : a * q = b * p) (h2 : c * q = d * p) : a * d = b * c := by
 have : q * (a * d) = q * (b * c) := by
  calc q * (a * d) = (a * q) * d := by rw [← Int.mul_assoc, Int.mul_comm q a]
   _ = b * (d * p) := by rw [h1, Int.mul_assoc, Int.mul_comm p d]
   _ = b * (c * q) := by rw [h2]
   _ = q * (b * c) := by rw [← Int.mul_assoc, Int.mul_comm _ q]
 exact Int.eq_of_mul_eq_mul_left (by omega) this
theorem mrg7_iff {t u : V} {wl wl' : List Int} (h1 : wl.length = t.len) (h2 : ∀ y ∈ wl, 1 ≤ y) (h3 : wl'.length = u.len) (h4 : ∀ y ∈ wl', 1 ≤ y) (h5 : 0 < t.len) (h6 : 0 < u.len) : mrg 7 t wl = mrg 7 u wl' ↔ ∀ x, wAt x t wl * sumL wl' = wAt x u wl' * sumL wl := by
 have w7 : wgt 7 = true := rfl
 obtain ⟨a1, a2, a3⟩ := mrgA_ok t wl .nil [] h1 h2 rfl (fun y hy => by simp at hy)
 obtain ⟨b1, b2, b3⟩ := mrgA_ok u wl' .nil [] h3 h4 rfl (fun y hy => by simp at hy)
 have ea := fun x => mrgA_wAt x t wl .nil [] h1 h2 rfl (fun y hy => by simp at hy)
 have eb := fun x => mrgA_wAt x u wl' .nil [] h3 h4 rfl (fun y hy => by simp at hy)
 have sa := mrgA_sum t wl .nil [] h1 h2 rfl (fun y hy => by simp at hy)
 have sb := mrgA_sum u wl' .nil [] h3 h4 rfl (fun y hy => by simp at hy)
 simp only [wAt, Int.add_zero, sumL] at ea eb sa sb
 have ia := mrgA_inc true t wl .nil [] rfl
 have ib := mrgA_inc true u wl' .nil [] rfl
 have la : 0 < (mrgA true t wl .nil []).2.length := by rw [a1]; exact a3 (Or.inl h5)
 have lb : 0 < (mrgA true u wl' .nil []).2.length := by rw [b1]; exact b3 (Or.inl h6)
 unfold mrg
 rw [w7]
 simp only [if_true, Prod.mk.injEq]
 generalize mrgA true t wl .nil [] = P at *
 generalize mrgA true u wl' .nil [] = R at *
 obtain ⟨K, A⟩ := P
 obtain ⟨K', B⟩ := R
 simp only at *
 have ga : 0 < ((gcdL 0 A : Nat) : Int) := by have := gcdL_pos la a2; omega
 have gb : 0 < ((gcdL 0 B : Nat) : Int) := by have := gcdL_pos lb b2; omega
 have pa := sumL_gt a2 la
 have pb := sumL_gt b2 lb
 have da := gcdL_dvdI a2
 have db := gcdL_dvdI b2
 have na : ∀ y ∈ A, 0 ≤ y := fun y hy => by have := a2 y hy; omega
 have nb : ∀ y ∈ B, 0 ≤ y := fun y hy => by have := b2 y hy; omega
 constructor
 ·rintro ⟨rfl, e2⟩ x
  have e3 : A.map (fun y => y * ((gcdL 0 B : Nat) : Int)) = B.map (fun y => y * ((gcdL 0 A : Nat) : Int)) := map_swap ga gb da db e2
  have h7 : wAt x K A * ((gcdL 0 B : Nat) : Int) = wAt x K B * ((gcdL 0 A : Nat) : Int) := by rw [← wAt_mul, ← wAt_mul, e3]
  have h8 : sumL A * ((gcdL 0 B : Nat) : Int) = sumL B * ((gcdL 0 A : Nat) : Int) := by rw [← sumL_mul, ← sumL_mul, e3]
  rw [← ea, ← eb, ← sa, ← sb]
  exact cross gb h7 h8
 ·intro h
  have e1 : K = K' := by
   refine inc_ext _ _ ia ib (fun x => ?_)
   have hx := h x
   rw [← ea, ← eb, ← sa, ← sb] at hx
   rw [wAt_pos _ _ a1 a2, wAt_pos _ _ b1 b2]
   have p1 := wAt_nonneg (x := x) K A a2
   have p2 := wAt_nonneg (x := x) K' B b2
   constructor
   ·intro h7
    have h8 := Int.mul_pos h7 pb
    rw [hx] at h8
    by_cases h9 : 0 < wAt x K' B
    ·exact h9
    ·rw [show wAt x K' B = 0 by omega, Int.zero_mul] at h8; omega
   ·intro h7
    have h8 := Int.mul_pos h7 pa
    rw [← hx] at h8
    by_cases h9 : 0 < wAt x K A
    ·exact h9
    ·rw [show wAt x K A = 0 by omega, Int.zero_mul] at h8; omega
  refine ⟨e1, ?_⟩
  subst e1
  have e2 : A.map (fun y => y * sumL B) = B.map (fun y => y * sumL A) := by
   refine inc_wAt K _ _ ia (by rw [List.length_map, a1]) (by rw [List.length_map, b1]) (fun x => ?_)
   rw [wAt_mul, wAt_mul, ea, eb, sa, sb, h x]
  have e3 : ((gcdL 0 A : Nat) : Int) * sumL B = ((gcdL 0 B : Nat) : Int) * sumL A := by
   have h7 := gcdL_mul (sumL B) (by omega) A 0 na
   have h8 := gcdL_mul (sumL A) (by omega) B 0 nb
   rw [Nat.zero_mul] at h7 h8
   rw [e2, h8] at h7
   have : ((gcdL 0 B * (sumL A).toNat : Nat) : Int) = ((gcdL 0 A * (sumL B).toNat : Nat) : Int) := by rw [h7]
   rw [Int.natCast_mul, Int.natCast_mul, Int.toNat_of_nonneg (by omega), Int.toNat_of_nonneg (by omega)] at this
   exact this.symm
  exact div_eq ga gb pb e3 A B da db e2
def V.mapL (h : Int → Int) : V → (Nat → F) → V
 | .nil, _ => .nil
 | .cons n k ws r, fs => .cons (if (fs 0).k = 0 then h n else n) (fin (fs 0) (k.mapL h (fun j => (fs 0).part n j)) ws).1 (fin (fs 0) (k.mapL h (fun j => (fs 0).part n j)) ws).2 (r.mapL h (fun j => fs (j + 1)))
def mapE (h : Int → Int) (f : F) (e : Int × V × List Int) : Int × V × List Int := (if f.k = 0 then h e.1 else e.1, fin f (e.2.1.mapL h (fun j => f.part e.1 j)) e.2.2)
theorem mapL_len (h : Int → Int) : ∀ (t : V) (fs : Nat → F), (t.mapL h fs).len = t.len := by
 intro t
 induction t with
 | nil => intro _; rfl
 | cons n k ws r _ ih => intro fs; simp only [V.mapL, V.len, ih]
theorem mapL_el (h : Int → Int) : ∀ (t : V) (fs : Nat → F) (i : Nat), i < t.len → (t.mapL h fs).el i = mapE h (fs i) (t.el i) := by
 intro t
 induction t with
 | nil => intro _ i hi; simp [V.len] at hi
 | cons n k ws r _ ih =>
  intro fs i hi
  cases i with
  | zero => rfl
  | succ i => exact ih (fun j => fs (j + 1)) i (by simpa [V.len] using hi)
theorem el_elems {Q : V → Prop} {t : V} (h : t.Elems Q) {i : Nat} (hi : i < t.len) : Q (t.el i).2.1 := by
 obtain ⟨n, k, ws, r, hd, _⟩ := V.drop_lt hi
 rw [V.el_drop hd]
 exact h i n k ws r hd
theorem weighs_pos {k : Int} {len : Nat} {ws : List Int} (hw : weighs k len ws = true) (hk : k = 6 ∨ k = 7) : ws.length = len ∧ ∀ y ∈ ws, 1 ≤ y := by
 unfold weighs at hw
 rw [if_pos hk] at hw
 simp only [Bool.and_eq_true, decide_eq_true_eq] at hw
 exact ⟨hw.2, fun y hy => (wOk_bd hw.1 y hy).1⟩
theorem weighs_none {k : Int} {len : Nat} {ws : List Int} (hw : weighs k len ws = true) (hk : ¬ (k = 6 ∨ k = 7)) : ws = [] := by
 unfold weighs at hw
 rw [if_neg hk] at hw
 exact List.length_eq_zero_iff.1 (of_decide_eq_true hw)
theorem getW_nonneg {ws : List Int} (h : ∀ y ∈ ws, 1 ≤ y) (i : Nat) : 0 ≤ getW ws i := by
 unfold getW
 by_cases hi : i < ws.length
 ·have := h _ (List.getElem_mem hi)
  simp [List.getD, List.getElem?_eq_getElem hi]; omega
 ·simp [List.getD, List.getElem?_eq_none (by omega : ws.length ≤ i)]
theorem len_nil {t : V} (h : t.len = 0) : t = .nil := by
 cases t with
 | nil => rfl
 | cons => simp [V.len] at h
theorem mapE_eq {h g : Int → Int} {f : F} {n n' : Int} {t t' : V} {ws ws' : List Int} : mapE h f (n, t, ws) = mapE g f (n', t', ws') ↔ (if f.k = 0 then h n else n) = (if f.k = 0 then g n' else n') ∧ fin f (t.mapL h (fun j => f.part n j)) ws = fin f (t'.mapL g (fun j => f.part n' j)) ws' := by
 unfold mapE; simp
theorem fin_no {f : F} (h : coll f.k = false) (ks : V) (ws : List Int) : fin f ks ws = (ks, ws) := by unfold fin; rw [h]; rfl
theorem fin_yes {f : F} (h : coll f.k = true) (ks : V) (ws : List Int) : fin f ks ws = mrg f.k ks ws := by unfold fin; rw [h]; rfl
theorem mapE_no {h g : Int → Int} {f : F} {n n' : Int} {t t' : V} (hc : coll f.k = false) (h0 : ¬ f.k = 0) : mapE h f (n, t, []) = mapE g f (n', t', []) ↔ n = n' ∧ t.mapL h (fun j => f.part n j) = t'.mapL g (fun j => f.part n' j) := by
 rw [mapE_eq, fin_no hc, fin_no hc, if_neg h0, if_neg h0]; simp
theorem relV_map {P : Int → Int → Prop} {h g : Int → Int} {m m' : Int} (hP : ∀ x y, 0 ≤ x → x < m → 0 ≤ y → y < m' → (P x y ↔ h x = g y)) :
    ∀ (t : V) (f : F) (n : Int) (ws : List Int) (v : Int × V × List Int), f.good = true → okV nodeOk m f n t ws = true → okV nodeOk m' f v.1 v.2.1 v.2.2 = true → (relV P f (n, t, ws) v ↔ mapE h f (n, t, ws) = mapE g f v) := by
 refine V.ind ?_
 intro t ih f n ws v hg hu hv
 obtain ⟨n', t', ws'⟩ := v
 simp only at hv
 have fu := okV_fields hu
 have fv := okV_fields hv
 have wu := okV_weighs hu
 have wv := okV_weighs hv
 have hel : ∀ i j, i < t.len → j < t'.len → f.part n i = f.part n' j → (relV P (f.part n i) (t.el i) (t'.el j) ↔ mapE h (f.part n i) (t.el i) = mapE g (f.part n i) (t'.el j)) := by
  intro i j hi hj he
  have h1 := ok_el hu hi
  have h2 := ok_el hv hj
  rw [← he] at h2
  exact el_elems ih hi (f.part n i) (t.el i).1 (t.el i).2.2 (t'.el j) (good_part hg fu hi) h1 h2
 have nu := fu
 have nv := fv
 unfold vFields numbersOf argsOf at nu nv
 simp only [Bool.and_eq_true, decide_eq_true_eq] at nu nv
 replace nu := nu.1
 replace nv := nv.1
 have key : ∀ (gs : Nat → F) i j, i < t.len → j < t'.len → gs i = f.part n i → f.part n i = f.part n' j → (t.relE P gs i (t'.el j) ↔ (t.mapL h (fun j => f.part n j)).el i = (t'.mapL g (fun j => f.part n' j)).el j) := by
  intro gs i j hi hj h1 h2
  rw [relE_el gs _ hi, h1, hel i j hi hj h2, mapL_el _ _ _ _ hi, mapL_el _ _ _ _ hj, ← h2]
 show nodeRel P f n t.len ws (n', t', ws') (fun gs i x => t.relE P gs i x) ↔ _
 unfold nodeRel
 rcases F.good_k hg with k | k | k | k | k | k | k | k
 ·-- a state
  simp only [k, if_true] at nu nv ⊢
  obtain rfl := len_nil (t := t) (by omega)
  obtain rfl := len_nil (t := t') (by omega)
  have e1 := weighs_none wu (by omega)
  have e2 := weighs_none wv (by omega)
  subst e1 e2
  rw [hP n n' nu.1 nu.2.1 nv.1 nv.2.1]
  simp [mapE, k, V.mapL, fin, coll]
 ·simp only [k] at nu nv ⊢
  simp only [show ¬ ((1 : Int) = 0) by omega, if_false, if_true] at nu nv ⊢
  obtain rfl := len_nil (t := t) (by omega)
  obtain rfl := len_nil (t := t') (by omega)
  have e1 := weighs_none wu (by omega)
  have e2 := weighs_none wv (by omega)
  subst e1 e2
  simp [mapE, k, V.mapL, fin, coll]
 ·simp only [k] at nu nv ⊢
  simp only [show ¬ ((2 : Int) = 0) by omega, show ¬ ((2 : Int) = 1) by omega, show ¬ ((2 : Int) = 3) by omega, if_false, if_true] at nu nv ⊢
  have e1 := weighs_none wu (by omega)
  have e2 := weighs_none wv (by omega)
  subst e1 e2
  have p2 : ∀ x i, f.part x i = f.t.get i := fun x i => by unfold F.part; rw [if_pos k]
  rw [key f.t.get 0 0 (by omega) (by omega) (p2 _ _).symm (by rw [p2, p2]), key f.t.get 1 1 (by omega) (by omega) (p2 _ _).symm (by rw [p2, p2])]
  have c0 : coll f.k = false := by rw [k]; rfl
  rw [mapE_no c0 (by omega)]
  constructor
  ·rintro ⟨h1, h2⟩
   refine ⟨by omega, V.ext_el _ _ (by rw [mapL_len, mapL_len]; omega) (fun i hi => ?_)⟩
   rw [mapL_len] at hi
   rcases Nat.lt_or_ge i 1 with h3 | h3
   ·obtain rfl : i = 0 := by omega
    exact h1
   ·obtain rfl : i = 1 := by omega
    exact h2
  ·rintro ⟨_, h2⟩
   rw [h2]; exact ⟨rfl, rfl⟩
 ·simp only [k] at nu nv ⊢
  simp only [show ¬ ((3 : Int) = 0) by omega, show ¬ ((3 : Int) = 1) by omega, show ¬ ((3 : Int) = 2) by omega, if_false, if_true] at nu nv ⊢
  have e1 := weighs_none wu (by omega)
  have e2 := weighs_none wv (by omega)
  subst e1 e2
  have p3 : ∀ x i, f.part x i = f.t.get x.toNat := fun x i => by unfold F.part; rw [if_neg (by omega), if_pos k]
  have c0 : coll f.k = false := by rw [k]; rfl
  rw [mapE_no c0 (by omega)]
  by_cases hn : n = n'
  ·subst hn
   rw [key _ 0 0 (by omega) (by omega) (p3 _ _).symm rfl]
   simp only [true_and]
   constructor
   ·intro h1
    refine V.ext_el _ _ (by rw [mapL_len, mapL_len]; omega) (fun i hi => ?_)
    rw [mapL_len] at hi
    obtain rfl : i = 0 := by omega
    exact h1
   ·intro h2
    rw [h2]
  ·simp [hn]
 ·simp only [k] at nu nv ⊢
  simp only [show ¬ ((4 : Int) = 0) by omega, show ¬ ((4 : Int) = 1) by omega, show ¬ ((4 : Int) = 2) by omega, show ¬ ((4 : Int) = 3) by omega, if_false, if_true] at nu nv ⊢
  have e1 := weighs_none wu (by omega)
  have e2 := weighs_none wv (by omega)
  subst e1 e2
  have p4 : ∀ x i, f.part x i = f.t.get 0 := fun x i => by unfold F.part; rw [if_neg (by omega), if_neg (by omega)]
  have c0 : coll f.k = false := by rw [k]; rfl
  rw [mapE_no c0 (by omega)]
  constructor
  ·intro h1
   refine ⟨by omega, V.ext_el _ _ (by rw [mapL_len, mapL_len]; omega) (fun i hi => ?_)⟩
   rw [mapL_len] at hi
   exact (key _ i i hi (by omega) (p4 _ _).symm (by rw [p4, p4])).1 (h1 i (by omega))
  ·rintro ⟨_, h2⟩ a ha
   rw [key _ a a (by omega) (by omega) (p4 _ _).symm (by rw [p4, p4]), h2]
 ·simp only [k] at nu nv ⊢
  simp only [show ¬ ((5 : Int) = 0) by omega, show ¬ ((5 : Int) = 1) by omega, show ¬ ((5 : Int) = 2) by omega, show ¬ ((5 : Int) = 3) by omega, show ¬ ((5 : Int) = 4) by omega, if_false, if_true] at nu nv ⊢
  have p5 : ∀ x i, f.part x i = f.t.get 0 := fun x i => by unfold F.part; rw [if_neg (by omega), if_neg (by omega)]
  have hk : ∀ a b, a < t.len → b < t'.len → (t.relE P (fun _ => f.t.get 0) a (t'.el b) ↔ (t.mapL h (fun j => f.part n j)).el a = (t'.mapL g (fun j => f.part n' j)).el b) := fun a b ha hb => key _ a b ha hb (p5 _ _).symm (by rw [p5, p5])
  have c0 : coll f.k = true := by rw [k]; rfl
  rw [mapE_eq, fin_yes c0, fin_yes c0, if_neg (by omega), if_neg (by omega), k, mrg5_iff]
  simp only [V.has_el, mapL_len]
  constructor
  ·rintro ⟨h1, h2⟩
   refine ⟨by omega, fun x => ⟨?_, ?_⟩⟩
   ·rintro ⟨i, hi, rfl⟩
    obtain ⟨b, hb, h3⟩ := h1 i hi
    exact ⟨b, hb, ((hk i b hi hb).1 h3).symm⟩
   ·rintro ⟨i, hi, rfl⟩
    obtain ⟨a, ha, h3⟩ := h2 i hi
    exact ⟨a, ha, (hk a i ha hi).1 h3⟩
  ·rintro ⟨_, h1⟩
   refine ⟨fun a ha => ?_, fun b hb => ?_⟩
   ·obtain ⟨b, hb, h3⟩ := (h1 _).1 ⟨a, ha, rfl⟩
    exact ⟨b, hb, (hk a b ha hb).2 h3.symm⟩
   ·obtain ⟨a, ha, h3⟩ := (h1 _).2 ⟨b, hb, rfl⟩
    exact ⟨a, ha, (hk a b ha hb).2 h3⟩
 ·simp only [k] at nu nv ⊢
  simp only [show ¬ ((6 : Int) = 0) by omega, show ¬ ((6 : Int) = 1) by omega, show ¬ ((6 : Int) = 2) by omega, show ¬ ((6 : Int) = 3) by omega, show ¬ ((6 : Int) = 4) by omega, show ¬ ((6 : Int) = 5) by omega, if_false, if_true] at nu nv ⊢
  have p6 : ∀ x i, f.part x i = f.t.get 0 := fun x i => by unfold F.part; rw [if_neg (by omega), if_neg (by omega)]
  obtain ⟨l1, q1⟩ := weighs_pos wu (by omega)
  obtain ⟨l2, q2⟩ := weighs_pos wv (by omega)
  rw [flow_classes (c := (t.mapL h (fun j => f.part n j)).el) (d := (t'.mapL g (fun j => f.part n' j)).el) (getW_nonneg q1) (getW_nonneg q2) (fun a b ha hb => key _ a b ha hb (p6 _ _).symm (by rw [p6, p6]))]
  have c0 : coll f.k = true := by rw [k]; rfl
  rw [mapE_eq, fin_yes c0, fin_yes c0, if_neg (by omega), if_neg (by omega), k, mrg6_iff (by rw [mapL_len]; exact l1) q1 (by rw [mapL_len]; exact l2) q2]
  simp only [wAt_sum, mapL_len, inC]
  exact ⟨fun h1 => ⟨by omega, h1⟩, fun h1 => h1.2⟩
 ·simp only [k] at nu nv ⊢
  simp only [show ¬ ((7 : Int) = 0) by omega, show ¬ ((7 : Int) = 1) by omega, show ¬ ((7 : Int) = 2) by omega, show ¬ ((7 : Int) = 3) by omega, show ¬ ((7 : Int) = 4) by omega, show ¬ ((7 : Int) = 5) by omega, show ¬ ((7 : Int) = 6) by omega, if_false, if_true] at nu nv ⊢
  have p7 : ∀ x i, f.part x i = f.t.get 0 := fun x i => by unfold F.part; rw [if_neg (by omega), if_neg (by omega)]
  obtain ⟨l1, q1⟩ := weighs_pos wu (by omega)
  obtain ⟨l2, q2⟩ := weighs_pos wv (by omega)
  rw [sumL_getW, sumL_getW]
  have s1 := sumL_pos q1
  have s2 := sumL_pos q2
  rw [flow_classes (c := (t.mapL h (fun j => f.part n j)).el) (d := (t'.mapL g (fun j => f.part n' j)).el) (fun i => Int.mul_nonneg (getW_nonneg q1 i) s2) (fun i => Int.mul_nonneg (getW_nonneg q2 i) s1) (fun a b ha hb => key _ a b ha hb (p7 _ _).symm (by rw [p7, p7]))]
  have c0 : coll f.k = true := by rw [k]; rfl
  rw [mapE_eq, fin_yes c0, fin_yes c0, if_neg (by omega), if_neg (by omega), k, mrg7_iff (by rw [mapL_len]; exact l1) q1 (by rw [mapL_len]; exact l2) q2 (by rw [mapL_len]; omega) (by rw [mapL_len]; omega)]
  have e : ∀ (c : Nat → Int × V × List Int) (W : List Int) (s : Int) (x : Int × V × List Int) (len : Nat), inC c (fun a => getW W a * s) x len = sumN (fun a => if c a = x then getW W a else 0) len * s := by
   intro c W s x len
   rw [← sumN_mul]
   refine sumN_congr _ (fun i _ => ?_)
   split
   ·rfl
   ·simp
  simp only [wAt_sum, mapL_len, e]
  exact ⟨fun h1 => ⟨by omega, h1⟩, fun h1 => h1.2⟩
end Go.Proofs.YtcekilcgpgjooaaGreatDoor
