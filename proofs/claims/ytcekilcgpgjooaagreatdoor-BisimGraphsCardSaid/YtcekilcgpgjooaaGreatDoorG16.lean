/- Proved here: contracts of the walk to BisimGraphs: the normal form (pure); each under the conditions that its own statement names. -/
import Derived.Test.YtcekilcgpgjooaaGreatDoorG08
import Derived.Test.YtcekilcgpgjooaaGreatDoorG15
namespace Go.Proofs.YtcekilcgpgjooaaGreatDoor
open Go.RowKit
def V.Row (S : Nat → Prop) (w : World) : V → List Value → Prop
 | .nil, xs => xs = []
 | .cons n kids ws rest, xs => ∃ a cap c cp ys, xs = .int .i64 n :: .slice a kids.len cap :: .slice c ws.length cp :: ys ∧ Vl S w a kids ∧ Ints S w c ws ∧ rest.Row S w ys
def V.app : V → V → V
 | .nil, u => u
 | .cons n k ws r, u => .cons n k ws (r.app u)
theorem V.app_nil (t : V) : t.app .nil = t := by
 induction t with
 | nil => rfl
 | cons n k ws r _ ih => simp [V.app, ih]
theorem V.app_assoc (t u v : V) : (t.app u).app v = t.app (u.app v) := by
 induction t with
 | nil => rfl
 | cons n k ws r _ ih => simp [V.app, ih]
theorem V.app_len (t u : V) : (t.app u).len = t.len + u.len := by
 induction t with
 | nil => simp [V.app, V.len]
 | cons n k ws r _ ih => simp [V.app, V.len, ih]; omega
theorem V.Row.app {S : Nat → Prop} {w : World} {t u : V} : ∀ {xs ys : List Value}, t.Row S w xs → u.Row S w ys → (t.app u).Row S w (xs ++ ys) := by
 induction t with
 | nil => intro xs ys h h'; simp only [V.Row] at h; subst h; exact h'
 | cons n k ws r _ ih =>
  intro xs ys h h'
  obtain ⟨a, cap, c, cp, zs, rfl, h1, h2, h3⟩ := h
  exact ⟨a, cap, c, cp, zs ++ ys, rfl, h1, h2, ih h3 h'⟩
theorem V.Row.mono {S S' : Nat → Prop} {w w' : World} {t : V} (h : ∀ a u, Vl S w a u → Vl S' w' a u) (h' : ∀ a u, Ints S w a u → Ints S' w' a u) : ∀ {xs : List Value}, t.Row S w xs → t.Row S' w' xs := by
 induction t with
 | nil => intro xs hr; exact hr
 | cons n k ws r _ ih =>
  intro xs hr
  obtain ⟨a, cap, c, cp, zs, rfl, h1, h2, h3⟩ := hr
  exact ⟨a, cap, c, cp, zs, rfl, h _ _ h1, h' _ _ h2, ih h3⟩
theorem V.Row.at {S S' : Nat → Prop} {w : World} {g : Nat} (hS : ∀ b, S b → S' b) (hg : S' g) {t : V} : ∀ {xs : List Value} {o : Nat}, t.Row S w xs → (∀ j u, xs[j]? = some u → w.cell? ⟨g, o + j, none⟩ = some u) → t.At S' w g o := by
 induction t with
 | nil => intro _ _ _ _; trivial
 | cons n k ws r _ ih =>
  intro xs o hr hc
  obtain ⟨a, cap, c, cp, ys, rfl, h1, h2, h3⟩ := hr
  have h1' := h1.weaken hS
  refine ⟨hg, hc 0 _ rfl, ⟨a, cap, hc 1 _ rfl, h1'.1, h1'.2⟩, ⟨c, cp, hc 2 _ rfl, h2.weaken hS⟩, ih h3 fun j u hj => ?_⟩
  have := hc (3 + j) u (by rw [show 3 + j = j + 3 by omega]; simpa using hj)
  rwa [show o + (3 + j) = o + 3 + j by omega] at this
theorem Vl.grown {S S' : Nat → Prop} {w w' : World} {row : Option Nat} {a : Option Addr} {t : V} (h : Vl S w a t) (hg : w.grownBy w' row) (hS : ∀ b, S b → b < w.heap.size → S' b ∧ some b ≠ row) : Vl S' w' a t :=
 h.lt.mono (fun b hb => (hS b hb.1 hb.2).1) (fun b hb hlt => hg.block b hlt (hS b hb.1 hb.2).2)
theorem Ints.grown {S S' : Nat → Prop} {w w' : World} {row : Option Nat} {a : Option Addr} {t : List Int} (h : Ints S w a t) (hg : w.grownBy w' row) (hS : ∀ b, S b → b < w.heap.size → S' b ∧ some b ≠ row) : Ints S' w' a t :=
 h.lt.mono (fun b hb => (hS b hb.1 hb.2).1) (fun b hb hlt => hg.block b hlt (hS b hb.1 hb.2).2)
theorem vl_of_row {S S' : Nat → Prop} {lo : Nat} {w : World} {v : Value} {t : V} {xs : List Value} (hn : t.len ≤ 1000000) (ho : w.ownsRow lo 58 3 v t.len xs) (hr : t.Row S w xs) (hS : ∀ b, S b → S' b) (hl : ∀ b, v.ownBlock = some b → lo ≤ b → S' b) :
    ∃ a cap, v = .slice a t.len cap ∧ Vl S' w a t := by
 have h2 := ho.2
 rcases h2 with ⟨hv, hz⟩ | ⟨g, cap, cur, hv, hb, hg, hc, _, _, htake⟩
 ·subst hv
  rw [hz]
  cases t with
  | nil => exact ⟨none, 0, rfl, by simp [V.len], rfl⟩
  | cons n k ws r => simp [V.len] at hz
 ·subst hv
  refine ⟨some ⟨g, 0, none⟩, cap, rfl, by omega, Or.inr rfl, ?_⟩
  refine V.Row.at (S := S) hS (hl _ rfl hb) hr fun j u hj => ?_
  have := ho.cells (g := g) rfl j u hj
  have hadd : (⟨g, 0, none⟩ : Addr).add j = ⟨g, j, none⟩ := by unfold Addr.add; split <;> simp_all
  rw [hadd] at this
  rwa [Nat.zero_add]
theorem ints_of_row {S' : Nat → Prop} {lo : Nat} {w : World} {v : Value} {ws : List Int} (hn : ws.length ≤ 9223372036854775807) (ho : w.ownsRow lo 3 1 v ws.length (ws.map (Value.int .i64))) (hl : ∀ b, lo ≤ b → S' b) :
    ∃ a cap, v = .slice a ws.length cap ∧ Ints S' w a ws := by
 have h2 := ho.2
 rcases h2 with ⟨hv, hz⟩ | ⟨g, cap, cur, hv, hb, hg, hc, _, _, htake⟩
 ·subst hv
  rw [hz]
  exact ⟨none, 0, rfl, hn, Or.inl (List.length_eq_zero_iff.1 hz)⟩
 ·subst hv
  refine ⟨some ⟨g, 0, none⟩, cap, rfl, hn, Or.inr ⟨g, 0, rfl, hl _ hb, fun j u hj => ?_⟩⟩
  have := ho.cells (g := g) rfl j (.int .i64 u) (by simp [hj])
  have hadd : (⟨g, 0, none⟩ : Addr).add j = ⟨g, j, none⟩ := by unfold Addr.add; split <;> simp_all
  rw [hadd] at this
  rwa [Nat.zero_add]
def cmp1 (n : Int) (k : V) (ws : List Int) (n' : Int) (k' : V) (ws' : List Int) : Int := or3 (cmpI n n') (k.cmp k') (cmpL ws ws')
def insK (n : Int) (k : V) (ws : List Int) : V → V
 | .nil => .cons n k ws .nil
 | .cons n' k' ws' r => if cmp1 n k ws n' k' ws' < 0 then .cons n k ws (.cons n' k' ws' r) else if cmp1 n k ws n' k' ws' = 0 then .cons n' k' ws' r else .cons n' k' ws' (insK n k ws r)
def insW (n : Int) (k : V) (ws : List Int) (x : Int) : V → List Int → List Int
 | .nil, _ => [x]
 | .cons n' k' ws' r, aw => if cmp1 n k ws n' k' ws' < 0 then x :: aw else if cmp1 n k ws n' k' ws' = 0 then (aw.headD 0 + x) :: aw.tail else aw.headD 0 :: insW n k ws x r aw.tail
def mrgA (wt : Bool) : V → List Int → V → List Int → V × List Int
 | .nil, _, acc, aw => (acc, aw)
 | .cons n k ws r, wl, acc, aw => mrgA wt r wl.tail (insK n k ws acc) (if wt = true then insW n k ws (wl.headD 0) acc aw else aw)
def mrg (k : Int) (t : V) (wl : List Int) : V × List Int :=
 ((mrgA (wgt k) t wl .nil []).1, if k = 7 then (mrgA (wgt k) t wl .nil []).2.map (fun x => x / (gcdL 0 (mrgA (wgt k) t wl .nil []).2 : Nat)) else (mrgA (wgt k) t wl .nil []).2)
def rFields (f : F) (m n : Int) (len : Nat) (ws : List Int) : Bool := partsOk f n len && (numOk f m n && weighsR f.k len ws)
def fin (f : F) (ks : V) (ws : List Int) : V × List Int := if coll f.k = true then mrg f.k ks ws else (ks, ws)
def nrmL (m : Int) : V → F → Int → Nat → Option V
 | .nil, _, _, _ => some .nil
 | .cons n kids ws rest, f, pn, i =>
  if rFields (f.part pn i) m n kids.len ws = true then
   match nrmL m kids (f.part pn i) n 0 with
   | none => none
   | some ks => (nrmL m rest f pn (i + 1)).map (fun rs => .cons n (fin (f.part pn i) ks ws).1 (fin (f.part pn i) ks ws).2 rs)
  else none
def nrm (m : Int) (f : F) (n : Int) (kids : V) (ws : List Int) : Option (V × List Int) :=
 if rFields f m n kids.len ws = true then (nrmL m kids f n 0).map (fun ks => fin f ks ws) else none
theorem nrmL_cons (m n : Int) (kids : V) (ws : List Int) (rest : V) (f : F) (pn : Int) (i : Nat) :
    nrmL m (.cons n kids ws rest) f pn i = (nrm m (f.part pn i) n kids ws).bind (fun p => (nrmL m rest f pn (i + 1)).map (fun rs => .cons n p.1 p.2 rs)) := by
 simp only [nrmL, nrm]
 split
 ·cases nrmL m kids (f.part pn i) n 0 <;> rfl
 ·rfl
theorem nrmL_len {m : Int} {t : V} : ∀ {f : F} {pn : Int} {i : Nat} {ks : V}, nrmL m t f pn i = some ks → ks.len = t.len := by
 induction t with
 | nil => intro f pn i ks h; simp only [nrmL, Option.some.injEq] at h; subst h; rfl
 | cons n k ws r _ ih =>
  intro f pn i ks h
  rw [nrmL_cons] at h
  cases h1 : nrm m (f.part pn i) n k ws with
  | none => rw [h1] at h; cases h
  | some p =>
   rw [h1] at h
   cases h2 : nrmL m r f pn (i + 1) with
   | none => simp [h2] at h
   | some rs =>
    simp [h2] at h
    subst h
    simp [V.len, ih h2]
theorem rFields_eq {f : F} (hg : f.good = true) (m n : Int) (len : Nat) (ws : List Int) : rFields f m n len ws = vFields f m n len ws := by
 obtain ⟨k, fn, ft⟩ := f
 unfold rFields vFields partsOk numOk mostNum weighsR weighs numbersOf argsOf wgt
 rw [Bool.eq_iff_iff]
 by_cases hw : wOk 1048576 ws = true
 all_goals
  rcases F.good_k hg with h | h | h | h | h | h | h | h
  all_goals
   simp only at h
   subst h
   simp [hw]
   try simp only [← List.length_eq_zero_iff]
   try omega
theorem cmpI_neg (a b : Int) : cmpI b a = - cmpI a b := by unfold cmpI; split <;> split <;> (try split) <;> omega
theorem cmpI_trans {a b c : Int} (h : cmpI a b < 0) (h' : cmpI b c < 0) : cmpI a c < 0 := by
 unfold cmpI at *; (repeat' split at h) <;> (repeat' split at h') <;> (repeat' split) <;> omega
theorem cmpL_zero : ∀ (a b : List Int), cmpL a b = 0 ↔ a = b := by
 intro a
 induction a with
 | nil => intro b; cases b <;> simp [cmpL]
 | cons x xs ih =>
  intro b
  cases b with
  | nil => simp [cmpL]
  | cons y ys =>
   simp only [cmpL, List.cons.injEq]
   by_cases h : cmpI x y = 0
   ·rw [if_neg (by omega), ih ys, cmpI_zero.1 h]; simp
   ·rw [if_pos h]
    constructor
    ·intro e; exact absurd e h
    ·rintro ⟨rfl, _⟩; exact absurd (cmpI_self _) h
theorem cmpL_neg : ∀ (a b : List Int), cmpL b a = - cmpL a b := by
 intro a
 induction a with
 | nil => intro b; cases b <;> simp [cmpL]
 | cons x xs ih =>
  intro b
  cases b with
  | nil => simp [cmpL]
  | cons y ys =>
   simp only [cmpL]
   have := cmpI_neg x y
   by_cases h : cmpI x y = 0
   ·rw [if_neg (by omega), if_neg (by omega), ih ys]
   ·rw [if_pos (by omega), if_pos h, this]
theorem cmpL_trans : ∀ (a b c : List Int), cmpL a b < 0 → cmpL b c < 0 → cmpL a c < 0 := by
 intro a
 induction a with
 | nil =>
  intro b c h h'
  cases b with
  | nil => simp [cmpL] at h
  | cons y ys => cases c with
   | nil => simp [cmpL] at h'
   | cons z zs => simp [cmpL]
 | cons x xs ih =>
  intro b c h h'
  cases b with
  | nil => simp [cmpL] at h
  | cons y ys =>
   cases c with
   | nil => simp [cmpL] at h'
   | cons z zs =>
    simp only [cmpL] at h h' ⊢
    by_cases hx : cmpI x y = 0
    ·obtain rfl := cmpI_zero.1 hx
     rw [if_neg (by omega)] at h
     by_cases hy : cmpI x z = 0
     ·rw [if_neg (by omega)] at h' ⊢
      exact ih _ _ h h'
     ·rw [if_pos hy] at h' ⊢
      exact h'
    ·rw [if_pos hx] at h
     by_cases hy : cmpI y z = 0
     ·obtain rfl := cmpI_zero.1 hy
      rw [if_pos hx]; exact h
     ·rw [if_pos hy] at h'
      have := cmpI_trans h h'
      rw [if_pos (by omega)]; exact this
theorem or3_zero {a b c : Int} : or3 a b c = 0 ↔ a = 0 ∧ b = 0 ∧ c = 0 := by unfold or3; split <;> (try split) <;> omega
theorem or3_neg (a b c : Int) : or3 (-a) (-b) (-c) = - or3 a b c := by unfold or3; repeat' split
                                                                       all_goals omega
theorem V.cmp_zero : ∀ (t u : V), t.cmp u = 0 ↔ t = u := by
 intro t
 induction t with
 | nil => intro u; cases u <;> simp [V.cmp]
 | cons n k ws r ihk ihr =>
  intro u
  cases u with
  | nil => simp [V.cmp]
  | cons n' k' ws' r' =>
   simp only [V.cmp, V.cons.injEq]
   by_cases h : or3 (cmpI n n') (k.cmp k') (cmpL ws ws') = 0
   ·rw [if_neg (by omega), ihr]
    obtain ⟨h1, h2, h3⟩ := or3_zero.1 h
    rw [cmpI_zero] at h1; rw [ihk] at h2; rw [cmpL_zero] at h3
    simp [h1, h2, h3]
   ·rw [if_pos h]
    constructor
    ·intro e; exact absurd e h
    ·rintro ⟨rfl, rfl, rfl, _⟩
     exact absurd (or3_zero.2 ⟨cmpI_self _, (ihk _).2 rfl, (cmpL_zero _ _).2 rfl⟩) h
theorem V.cmp_neg : ∀ (t u : V), u.cmp t = - t.cmp u := by
 intro t
 induction t with
 | nil => intro u; cases u <;> simp [V.cmp]
 | cons n k ws r ihk ihr =>
  intro u
  cases u with
  | nil => simp [V.cmp]
  | cons n' k' ws' r' =>
   simp only [V.cmp]
   rw [cmpI_neg n n', ihk k', cmpL_neg ws ws', or3_neg, ihr r']
   split <;> split <;> omega
theorem cmp1_zero {n n' : Int} {k k' : V} {ws ws' : List Int} : cmp1 n k ws n' k' ws' = 0 ↔ n = n' ∧ k = k' ∧ ws = ws' := by
 unfold cmp1; rw [or3_zero, cmpI_zero, V.cmp_zero, cmpL_zero]
theorem cmp1_neg (n n' : Int) (k k' : V) (ws ws' : List Int) : cmp1 n' k' ws' n k ws = - cmp1 n k ws n' k' ws' := by
 unfold cmp1; rw [cmpI_neg n n', V.cmp_neg k k', cmpL_neg ws ws', or3_neg]
theorem or3_lt {a b c : Int} : or3 a b c < 0 ↔ a < 0 ∨ (a = 0 ∧ (b < 0 ∨ (b = 0 ∧ c < 0))) := by unfold or3; split <;> (try split) <;> omega
theorem or3_trans {n n' n'' : Int} {k k' k'' : V} {ws ws' ws'' : List Int} (hk : k.cmp k' < 0 → k'.cmp k'' < 0 → k.cmp k'' < 0)
    (h : or3 (cmpI n n') (k.cmp k') (cmpL ws ws') < 0) (h' : or3 (cmpI n' n'') (k'.cmp k'') (cmpL ws' ws'') < 0) : or3 (cmpI n n'') (k.cmp k'') (cmpL ws ws'') < 0 := by
 rw [or3_lt] at *
 rcases h with h | ⟨h, h2⟩
 ·rcases h' with h' | ⟨h', _⟩
  ·exact Or.inl (cmpI_trans h h')
  ·rw [cmpI_zero] at h'; subst h'; exact Or.inl h
 ·rw [cmpI_zero] at h; subst h
  rcases h' with h' | ⟨h', h2'⟩
  ·exact Or.inl h'
  ·right
   refine ⟨h', ?_⟩
   rcases h2 with h2 | ⟨h2, h3⟩
   ·rcases h2' with h2' | ⟨h2', _⟩
    ·exact Or.inl (hk h2 h2')
    ·rw [V.cmp_zero] at h2'; subst h2'; exact Or.inl h2
   ·rw [V.cmp_zero] at h2; subst h2
    rcases h2' with h2' | ⟨h2', h3'⟩
    ·exact Or.inl h2'
    ·exact Or.inr ⟨h2', cmpL_trans _ _ _ h3 h3'⟩
theorem V.cmp_trans : ∀ (t u v : V), t.cmp u < 0 → u.cmp v < 0 → t.cmp v < 0 := by
 intro t
 induction t with
 | nil =>
  intro u v h h'
  cases u with
  | nil => simp [V.cmp] at h
  | cons => cases v with
   | nil => simp only [V.cmp] at h'; omega
   | cons => simp [V.cmp]
 | cons n k ws r ihk ihr =>
  intro u v h h'
  cases u with
  | nil => simp only [V.cmp] at h; omega
  | cons n' k' ws' r' =>
   cases v with
   | nil => simp only [V.cmp] at h'; omega
   | cons n'' k'' ws'' r'' =>
    simp only [V.cmp] at h h' ⊢
    by_cases hx : or3 (cmpI n n') (k.cmp k') (cmpL ws ws') = 0
    ·obtain ⟨h1, h2, h3⟩ := or3_zero.1 hx
     rw [cmpI_zero] at h1; rw [V.cmp_zero] at h2; rw [cmpL_zero] at h3
     subst h1 h2 h3
     rw [if_neg (by omega)] at h
     by_cases hy : or3 (cmpI n n'') (k.cmp k'') (cmpL ws ws'') = 0
     ·rw [if_neg (by omega)] at h' ⊢; exact ihr _ _ h h'
     ·rw [if_pos hy] at h' ⊢; exact h'
    ·rw [if_pos hx] at h
     by_cases hy : or3 (cmpI n' n'') (k'.cmp k'') (cmpL ws' ws'') = 0
     ·obtain ⟨h1, h2, h3⟩ := or3_zero.1 hy
      rw [cmpI_zero] at h1; rw [V.cmp_zero] at h2; rw [cmpL_zero] at h3
      subst h1 h2 h3
      rw [if_pos hx]; exact h
     ·rw [if_pos hy] at h'
      have := or3_trans (ihk _ _) h h'
      rw [if_pos (by omega)]; exact this
theorem cmp1_trans {n n' n'' : Int} {k k' k'' : V} {ws ws' ws'' : List Int} (h : cmp1 n k ws n' k' ws' < 0) (h' : cmp1 n' k' ws' n'' k'' ws'' < 0) : cmp1 n k ws n'' k'' ws'' < 0 :=
 or3_trans (V.cmp_trans _ _ _) h h'
theorem inc_cons2 {n n' : Int} {k k' : V} {ws ws' : List Int} {r : V} : (V.cons n k ws (.cons n' k' ws' r)).inc = (decide (cmp1 n k ws n' k' ws' < 0) && (V.cons n' k' ws' r).inc) := rfl
theorem inc_tail {n : Int} {k : V} {ws : List Int} {r : V} (h : (V.cons n k ws r).inc = true) : r.inc = true := by
 cases r with
 | nil => rfl
 | cons n' k' ws' r' => rw [inc_cons2] at h; simp only [Bool.and_eq_true] at h; exact h.2
theorem insK_inc (n : Int) (k : V) (ws : List Int) : ∀ acc : V, acc.inc = true → (insK n k ws acc).inc = true := by
 intro acc
 induction acc with
 | nil => intro _; rfl
 | cons n' k' ws' r _ ih =>
  intro h
  have hneg := cmp1_neg n n' k k' ws ws'
  simp only [insK]
  by_cases h1 : cmp1 n k ws n' k' ws' < 0
  ·rw [if_pos h1, inc_cons2, h, decide_eq_true h1]; rfl
  rw [if_neg h1]
  by_cases h2 : cmp1 n k ws n' k' ws' = 0
  ·rw [if_pos h2]; exact h
  rw [if_neg h2]
  have ih2 := ih (inc_tail h)
  cases r with
  | nil => simp only [insK]; rw [inc_cons2, decide_eq_true (by omega)]; rfl
  | cons n2 k2 ws2 r2 =>
   simp only [insK] at ih2 ⊢
   rw [inc_cons2] at h
   simp only [Bool.and_eq_true, decide_eq_true_eq] at h
   by_cases h3 : cmp1 n k ws n2 k2 ws2 < 0
   ·rw [if_pos h3] at ih2 ⊢
    rw [inc_cons2, ih2, decide_eq_true (by omega)]; rfl
   rw [if_neg h3] at ih2 ⊢
   by_cases h4 : cmp1 n k ws n2 k2 ws2 = 0
   ·rw [if_pos h4] at ih2 ⊢
    rw [inc_cons2, ih2, decide_eq_true h.1]; rfl
   ·rw [if_neg h4] at ih2 ⊢
    rw [inc_cons2, ih2, decide_eq_true h.1]; rfl
theorem mrgA_inc (wt : Bool) : ∀ (t : V) (wl : List Int) (acc : V) (aw : List Int), acc.inc = true → (mrgA wt t wl acc aw).1.inc = true := by
 intro t
 induction t with
 | nil => intro wl acc aw h; exact h
 | cons n k ws r _ ih => intro wl acc aw h; exact ih _ _ _ (insK_inc n k ws acc h)
def V.all (P : Int → V → List Int → Prop) : V → Prop
 | .nil => True
 | .cons n k ws r => P n k ws ∧ r.all P
theorem insK_all {P : Int → V → List Int → Prop} {n : Int} {k : V} {ws : List Int} (h : P n k ws) : ∀ acc : V, acc.all P → (insK n k ws acc).all P := by
 intro acc
 induction acc with
 | nil => intro _; exact ⟨h, trivial⟩
 | cons n' k' ws' r _ ih =>
  intro h'
  simp only [insK]
  split
  ·exact ⟨h, h'⟩
  ·split
   ·exact h'
   ·exact ⟨h'.1, ih h'.2⟩
theorem mrgA_all {P : Int → V → List Int → Prop} (wt : Bool) : ∀ (t : V) (wl : List Int) (acc : V) (aw : List Int), t.all P → acc.all P → (mrgA wt t wl acc aw).1.all P := by
 intro t
 induction t with
 | nil => intro wl acc aw _ h; exact h
 | cons n k ws r _ ih => intro wl acc aw ht h; exact ih _ _ _ ht.2 (insK_all ht.1 acc h)
theorem mrg_all {P : Int → V → List Int → Prop} {k : Int} {t : V} {wl : List Int} (h : t.all P) : (mrg k t wl).1.all P := mrgA_all _ _ _ _ _ h trivial
theorem mrg_inc (k : Int) (t : V) (wl : List Int) : (mrg k t wl).1.inc = true := mrgA_inc _ _ _ _ _ rfl
theorem insW_ok {n : Int} {k : V} {ws : List Int} {x : Int} (hx : 1 ≤ x) : ∀ (acc : V) (aw : List Int), aw.length = acc.len → (∀ y ∈ aw, 1 ≤ y) → (insW n k ws x acc aw).length = (insK n k ws acc).len ∧ ∀ y ∈ insW n k ws x acc aw, 1 ≤ y := by
 intro acc
 induction acc with
 | nil => intro aw _ _; simp [insW, insK, V.len, hx]
 | cons n' k' ws' r _ ih =>
  intro aw hl hp
  cases aw with
  | nil => simp [V.len] at hl
  | cons y ys =>
   simp only [insW, insK]
   have hy := hp y (List.mem_cons_self ..)
   have hys : ∀ z ∈ ys, 1 ≤ z := fun z hz => hp z (List.mem_cons_of_mem _ hz)
   simp only [List.length_cons, V.len] at hl
   by_cases h1 : cmp1 n k ws n' k' ws' < 0
   ·rw [if_pos h1, if_pos h1]
    refine ⟨by simp [V.len]; omega, ?_⟩
    intro z hz
    rcases List.mem_cons.1 hz with rfl | hz
    ·exact hx
    ·exact hp z hz
   rw [if_neg h1, if_neg h1]
   by_cases h2 : cmp1 n k ws n' k' ws' = 0
   ·rw [if_pos h2, if_pos h2]
    refine ⟨by simp [V.len]; omega, ?_⟩
    intro z hz
    simp only [List.headD_cons, List.tail_cons] at hz
    rcases List.mem_cons.1 hz with rfl | hz
    ·omega
    ·exact hys z hz
   ·rw [if_neg h2, if_neg h2]
    obtain ⟨i1, i2⟩ := ih ys (by omega) hys
    simp only [List.headD_cons, List.tail_cons]
    refine ⟨by simp [V.len, i1], ?_⟩
    intro z hz
    rcases List.mem_cons.1 hz with rfl | hz
    ·exact hy
    ·exact i2 z hz
theorem insK_len (n : Int) (k : V) (ws : List Int) : ∀ acc : V, 0 < (insK n k ws acc).len := by
 intro acc; cases acc with
 | nil => simp [insK, V.len]
 | cons n' k' ws' r => simp only [insK]; split <;> (try split) <;> simp [V.len]
theorem mrgA_ok : ∀ (t : V) (wl : List Int) (acc : V) (aw : List Int), wl.length = t.len → (∀ y ∈ wl, 1 ≤ y) → aw.length = acc.len → (∀ y ∈ aw, 1 ≤ y) → (mrgA true t wl acc aw).2.length = (mrgA true t wl acc aw).1.len ∧ (∀ y ∈ (mrgA true t wl acc aw).2, 1 ≤ y) ∧ (0 < t.len ∨ 0 < acc.len → 0 < (mrgA true t wl acc aw).1.len) := by
 intro t
 induction t with
 | nil => intro wl acc aw _ _ h1 h2; exact ⟨h1, h2, fun h => by rcases h with h | h; (simp [V.len] at h); exact h⟩
 | cons n k ws r _ ih =>
  intro wl acc aw hl hp h1 h2
  cases wl with
  | nil => simp [V.len] at hl
  | cons x xs =>
   have hx := hp x (List.mem_cons_self ..)
   obtain ⟨i1, i2⟩ := insW_ok (n := n) (k := k) (ws := ws) hx acc aw h1 h2
   obtain ⟨j1, j2, j3⟩ := ih xs (insK n k ws acc) (insW n k ws x acc aw) (by simp [V.len] at hl; omega) (fun z hz => hp z (List.mem_cons_of_mem _ hz)) i1 i2
   exact ⟨j1, j2, fun _ => j3 (Or.inr (insK_len n k ws acc))⟩
theorem gcdL_split (l : List Int) : ∀ d, gcdL d l = Nat.gcd d (gcdL 0 l) := by
 induction l with
 | nil => intro d; simp [gcdL]
 | cons x xs ih => intro d; simp only [gcdL]; rw [ih (Nat.gcd d x.toNat), ih (Nat.gcd 0 x.toNat)]; simp [Nat.gcd_assoc]
theorem gcdL_dvd {l : List Int} : ∀ x ∈ l, gcdL 0 l ∣ x.toNat := by
 induction l with
 | nil => intro x hx; simp at hx
 | cons y ys ih =>
  intro x hx
  have e : gcdL 0 (y :: ys) = Nat.gcd y.toNat (gcdL 0 ys) := by simp only [gcdL]; rw [gcdL_split]; simp
  rw [e]
  rcases List.mem_cons.1 hx with rfl | hx
  ·exact Nat.gcd_dvd_left _ _
  ·exact Nat.dvd_trans (Nat.gcd_dvd_right _ _) (ih x hx)
theorem gcdL_map {g : Nat} (hg : 0 < g) : ∀ (l : List Int) (d : Nat), (∀ x ∈ l, 0 ≤ x ∧ g ∣ x.toNat) → gcdL d (l.map (fun x => x / (g : Int))) * g = gcdL (d * g) l := by
 intro l
 induction l with
 | nil => intro d _; rfl
 | cons x xs ih =>
  intro d h
  obtain ⟨hx, hd⟩ := h x (List.mem_cons_self ..)
  simp only [List.map_cons, gcdL]
  rw [ih _ (fun y hy => h y (List.mem_cons_of_mem _ hy))]
  congr 1
  obtain ⟨q, hq⟩ := hd
  have hxq : x = ((g * q : Nat) : Int) := by omega
  rw [hxq, show (((g * q : Nat) : Int) / (g : Int)) = (q : Int) by rw [Int.natCast_mul]; exact Int.mul_ediv_cancel_left _ (by omega), Int.toNat_natCast, Int.toNat_natCast, Nat.mul_comm g q, Nat.gcd_mul_right]
theorem gcdL_pos {l : List Int} (hl : 0 < l.length) (hp : ∀ x ∈ l, 1 ≤ x) : 0 < gcdL 0 l := by
 cases l with
 | nil => simp at hl
 | cons x xs =>
  simp only [gcdL]
  rw [gcdL_split]
  have := hp x (List.mem_cons_self ..)
  exact Nat.gcd_pos_of_pos_left _ (Nat.gcd_pos_of_pos_right _ (by omega))
theorem mrg_gcd {t : V} {wl : List Int} (h : weighsR 7 t.len wl = true) : gcdL 0 (mrg 7 t wl).2 = 1 := by
 have hw : wgt 7 = true := rfl
 unfold weighsR at h
 rw [if_pos hw] at h
 simp only [Bool.and_eq_true, Bool.or_eq_true, decide_eq_true_eq] at h
 obtain ⟨h1, h2, h3⟩ := h
 have hp := fun y hy => (wOk_bd h1 y hy).1
 obtain ⟨j1, j2, j3⟩ := mrgA_ok t wl .nil [] h2 hp rfl (fun y hy => by simp at hy)
 have hlen : 0 < (mrgA true t wl .nil []).2.length := by rw [j1]; exact j3 (Or.inl (by omega))
 have hg := gcdL_pos hlen j2
 unfold mrg
 rw [hw, if_pos rfl]
 have := gcdL_map hg (mrgA true t wl .nil []).2 0 (fun x hx => ⟨by have := j2 x hx; omega, gcdL_dvd x hx⟩)
 rw [Nat.zero_mul] at this
 exact Nat.eq_of_mul_eq_mul_right hg (by rw [this, Nat.one_mul])
theorem inc_app_lt {n : Int} {k : V} {ws : List Int} {r : V} : ∀ acc : V, (acc.app (.cons n k ws r)).inc = true → acc.all (fun n' k' ws' => cmp1 n' k' ws' n k ws < 0) := by
 intro acc
 induction acc with
 | nil => intro _; trivial
 | cons n' k' ws' r' _ ih =>
  intro h
  simp only [V.app] at h
  have h2 := ih (inc_tail h)
  refine ⟨?_, h2⟩
  cases r' with
  | nil =>
   simp only [V.app] at h
   rw [inc_cons2] at h
   simp only [Bool.and_eq_true, decide_eq_true_eq] at h
   exact h.1
  | cons n2 k2 ws2 r2 =>
   simp only [V.app] at h
   rw [inc_cons2] at h
   simp only [Bool.and_eq_true, decide_eq_true_eq] at h
   exact cmp1_trans h.1 h2.1
theorem insK_last {n : Int} {k : V} {ws : List Int} : ∀ acc : V, acc.all (fun n' k' ws' => cmp1 n' k' ws' n k ws < 0) → insK n k ws acc = acc.app (.cons n k ws .nil) := by
 intro acc
 induction acc with
 | nil => intro _; rfl
 | cons n' k' ws' r _ ih =>
  intro h
  have := cmp1_neg n' n k' k ws' ws
  have h1 := h.1
  simp only at h1
  simp only [insK, V.app]
  rw [if_neg (by omega), if_neg (by omega), ih h.2]
theorem insW_last {n : Int} {k : V} {ws : List Int} {x : Int} : ∀ (acc : V) (aw : List Int), aw.length = acc.len → acc.all (fun n' k' ws' => cmp1 n' k' ws' n k ws < 0) → insW n k ws x acc aw = aw ++ [x] := by
 intro acc
 induction acc with
 | nil => intro aw hl _; simp [V.len] at hl; subst hl; rfl
 | cons n' k' ws' r _ ih =>
  intro aw hl h
  cases aw with
  | nil => simp [V.len] at hl
  | cons y ys =>
   have := cmp1_neg n' n k' k ws' ws
   have h1 := h.1
   simp only at h1
   simp only [insW, List.headD_cons, List.tail_cons]
   rw [if_neg (by omega), if_neg (by omega), ih ys (by simp [V.len] at hl; omega) h.2]; rfl
theorem mrgA_id (wt : Bool) : ∀ (t : V) (wl : List Int) (acc : V) (aw : List Int), (acc.app t).inc = true → (wt = true → wl.length = t.len ∧ aw.length = acc.len) → mrgA wt t wl acc aw = (acc.app t, if wt = true then aw ++ wl else aw) := by
 intro t
 induction t with
 | nil =>
  intro wl acc aw _ hl
  simp only [mrgA, V.app_nil]
  cases wt with
  | false => rfl
  | true =>
   have := (hl rfl).1
   simp [V.len] at this
   subst this
   simp
 | cons n k ws r _ ih =>
  intro wl acc aw hi hl
  have hlt := inc_app_lt acc hi
  simp only [mrgA]
  rw [insK_last acc hlt]
  have hi2 : ((acc.app (.cons n k ws .nil)).app r).inc = true := by rw [V.app_assoc]; exact hi
  cases wt with
  | false =>
   simp only [Bool.false_eq_true, if_false] at ih ⊢
   rw [ih wl.tail _ aw hi2 (fun h => h.elim), V.app_assoc]; rfl
  | true =>
   obtain ⟨h1, h2⟩ := hl rfl
   cases wl with
   | nil => simp [V.len] at h1
   | cons x xs =>
    simp only [if_true, List.headD_cons, List.tail_cons]
    rw [insW_last acc aw h2 hlt, ih xs _ _ hi2 (fun _ => ⟨by simp [V.len] at h1; omega, by rw [V.app_len]; simp [V.len, h2]⟩), V.app_assoc]
    simp [V.app]
theorem mrg_id {k : Int} {t : V} {wl : List Int} (hi : t.inc = true) (hw : weighsR k t.len wl = true) (hg : k = 7 → gcdL 0 wl = 1) : mrg k t wl = (t, wl) := by
 have hwl : wgt k = true → wl.length = t.len ∧ ([] : List Int).length = V.nil.len := by
  intro h
  unfold weighsR at hw
  rw [if_pos h] at hw
  simp only [Bool.and_eq_true, decide_eq_true_eq] at hw
  exact ⟨hw.2.1, rfl⟩
 unfold mrg
 rw [mrgA_id (wgt k) t wl .nil [] hi hwl]
 have h0 : (if wgt k = true then ([] : List Int) ++ wl else []) = wl := by
  by_cases h : wgt k = true
  ·rw [if_pos h]; rfl
  ·unfold weighsR at hw
   rw [if_neg h] at hw
   rw [if_neg h]
   have := of_decide_eq_true hw
   exact (List.length_eq_zero_iff.1 this).symm
 simp only [h0, V.app]
 by_cases h7 : k = 7
 ·rw [if_pos h7, hg h7]; simp
 ·rw [if_neg h7]
theorem set_second {w : World} {b : Nat} {x0 x1 x2 v : Value} {t : TypeId} (h : w.heap[b]? = some (.cells #[x0, x1, x2] t (0, 0))) : (w.setCell ⟨b, 1, none⟩ v).heap[b]? = some (.cells #[x0, v, x2] t (0, 0)) := by
 simp [World.setCell, Array.getElem?_modify, h]
theorem grown_below {w w' : World} (h : Below w.heap.size w w') (row : Option Nat) : w.grownBy w' row := ⟨h.os, h.tape, h.output, h.size, fun k hk _ => h.block k hk⟩
def MergedPost (S : Nat → Prop) (k n : Int) (t : V) (wl : List Int) (w : World) (e : Ending) (w' : World) : Prop :=
 ∃ a c cap cp, e = .returned (Vv n a (mrg k t wl).1.len cap c (mrg k t wl).2.length cp) ∧ Vl (fun b => S b ∨ w.heap.size ≤ b) w' a (mrg k t wl).1 ∧ Ints (fun b => S b ∨ w.heap.size ≤ b) w' c (mrg k t wl).2 ∧ Below w.heap.size w w'
def MergedOk : Prop := ∀ (S : Nat → Prop) (k n : Int) (t : V) (wl : List Int) (a c : Option Addr) (cap cp : Nat) (w : World), Vl S w a t → Ints S w c wl → t.len ≤ 100000 → weighsR k t.len wl = true →
 Calls Tryz.prog 161 #[.int .i64 k, Vv n a t.len cap c wl.length cp] w (MergedPost S k n t wl w)
end Go.Proofs.YtcekilcgpgjooaaGreatDoor
