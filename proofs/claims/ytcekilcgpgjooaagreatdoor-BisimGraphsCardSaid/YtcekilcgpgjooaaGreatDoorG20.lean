/- Proved here: contracts of the walk to BisimGraphs: the reference's Merged (pure part); each under the conditions that its own statement names. -/
import Derived.Test.YtcekilcgpgjooaaGreatDoorG16
import Derived.Deep.CutRange
namespace Go.Proofs.YtcekilcgpgjooaaGreatDoor
open Go.RowKit
def gtAll (n : Int) (k : V) (ws : List Int) (p : V) : Prop := p.all (fun n' k' ws' => 0 < cmp1 n k ws n' k' ws')
theorem V.all_app {P : Int → V → List Int → Prop} : ∀ (p q : V), (p.app q).all P ↔ p.all P ∧ q.all P := by
 intro p q
 induction p with
 | nil => simp [V.app, V.all]
 | cons n k ws r _ ih => simp only [V.app, V.all, ih, and_assoc]
theorem insK_app {n : Int} {k : V} {ws : List Int} {q : V} : ∀ p : V, gtAll n k ws p → insK n k ws (p.app q) = p.app (insK n k ws q) := by
 intro p
 induction p with
 | nil => intro _; rfl
 | cons n' k' ws' r _ ih =>
  intro h
  have h1 : 0 < cmp1 n k ws n' k' ws' := h.1
  simp only [V.app, insK]
  rw [if_neg (by omega), if_neg (by omega), ih h.2]
theorem insW_app {n : Int} {k : V} {ws : List Int} {x : Int} {q : V} {b : List Int} : ∀ (p : V) (a : List Int), a.length = p.len → gtAll n k ws p → insW n k ws x (p.app q) (a ++ b) = a ++ insW n k ws x q b := by
 intro p
 induction p with
 | nil => intro a hl _; simp [V.len] at hl; subst hl; rfl
 | cons n' k' ws' r _ ih =>
  intro a hl h
  have h1 : 0 < cmp1 n k ws n' k' ws' := h.1
  cases a with
  | nil => simp [V.len] at hl
  | cons y ys =>
   simp only [V.app, insW, List.cons_append, List.headD_cons, List.tail_cons]
   rw [if_neg (by omega), if_neg (by omega), ih ys (by simp [V.len] at hl; omega) h.2]
theorem V.Row.split {S : Nat → Prop} {w : World} : ∀ (p : V) {q : V} {xs : List Value}, (p.app q).Row S w xs → p.Row S w (xs.take (p.len * 3)) ∧ q.Row S w (xs.drop (p.len * 3)) := by
 intro p
 induction p with
 | nil => intro q xs h; simp only [V.app] at h; simp [V.len, V.Row, h]
 | cons n k ws r _ ih =>
  intro q xs h
  simp only [V.app] at h
  obtain ⟨a, cap, c, cp, ys, rfl, h1, h2, h3⟩ := h
  obtain ⟨i1, i2⟩ := ih h3
  have e : (r.len + 1) * 3 = r.len * 3 + 3 := by omega
  simp only [V.len]
  rw [e]
  exact ⟨⟨a, cap, c, cp, ys.take (r.len * 3), by simp [List.take_succ_cons], h1, h2, i1⟩, by simpa using i2⟩
theorem V.Row.one {S : Nat → Prop} {w : World} {n : Int} {k : V} {ws : List Int} {a c : Option Addr} {cap cp : Nat} (h : Vl S w a k) (h' : Ints S w c ws) : (V.cons n k ws .nil).Row S w [.int .i64 n, .slice a k.len cap, .slice c ws.length cp] :=
 ⟨a, cap, c, cp, [], rfl, h, h', rfl⟩
theorem V.Row.elem {S : Nat → Prop} {w : World} : ∀ (p : V) {n : Int} {k : V} {ws : List Int} {r : V} {xs : List Value}, (p.app (.cons n k ws r)).Row S w xs →
    ∃ a cap c cp, xs[p.len * 3]? = some (.int .i64 n) ∧ xs[p.len * 3 + 1]? = some (.slice a k.len cap) ∧ xs[p.len * 3 + 2]? = some (.slice c ws.length cp) ∧ Vl S w a k ∧ Ints S w c ws := by
 intro p n k ws r xs h
 obtain ⟨h1, h2⟩ := V.Row.split p h
 obtain ⟨a, cap, c, cp, ys, he, h3, h4, _⟩ := h2
 refine ⟨a, cap, c, cp, ?_, ?_, ?_, h3, h4⟩
 ·have := congrArg (fun l => l[0]?) he
  simpa using this
 ·have := congrArg (fun l => l[1]?) he
  simpa using this
 ·have := congrArg (fun l => l[2]?) he
  simpa using this
def Found (n : Int) (k : V) (ws : List Int) (acc : V) (at' : Nat) (c : Int) : Prop :=
 ∃ p q, acc = p.app q ∧ at' = p.len ∧ gtAll n k ws p ∧ (0 < c ∨ ∃ n' k' ws' r, q = .cons n' k' ws' r ∧ c = cmp1 n k ws n' k' ws')
theorem cmpL_bd : ∀ (a b : List Int), -1 ≤ cmpL a b ∧ cmpL a b ≤ 1 := by
 intro a
 induction a with
 | nil => intro b; cases b <;> simp [cmpL]
 | cons x xs ih =>
  intro b
  cases b with
  | nil => simp [cmpL]
  | cons y ys =>
   simp only [cmpL]
   split
   ·exact cmpI_bd x y
   ·exact ih ys
theorem V.cmp_bd : ∀ (t u : V), -1 ≤ t.cmp u ∧ t.cmp u ≤ 1 := by
 intro t
 induction t with
 | nil => intro u; cases u <;> simp [V.cmp]
 | cons n k ws r ihk ihr =>
  intro u
  cases u with
  | nil => simp [V.cmp]
  | cons n' k' ws' r' =>
   simp only [V.cmp]
   have h1 := cmpI_bd n n'
   have h2 := ihk k'
   have h3 := cmpL_bd ws ws'
   have h4 := ihr r'
   unfold or3
   repeat' split
   all_goals omega
theorem cmp1_bd (n : Int) (k : V) (ws : List Int) (n' : Int) (k' : V) (ws' : List Int) : -1 ≤ cmp1 n k ws n' k' ws' ∧ cmp1 n k ws n' k' ws' ≤ 1 := by
 have h1 := cmpI_bd n n'
 have h2 : -1 ≤ k.cmp k' ∧ k.cmp k' ≤ 1 := V.cmp_bd k k'
 have h3 : -1 ≤ cmpL ws ws' ∧ cmpL ws ws' ≤ 1 := cmpL_bd ws ws'
 unfold cmp1 or3; split <;> (try split) <;> omega
theorem V.Row.cells1 {S : Nat → Prop} {w : World} {t : V} : ∀ {xs : List Value}, t.Row S w xs → ∀ u ∈ xs, u.oneCell' = true := by
 induction t with
 | nil => intro xs h u hu; simp only [V.Row] at h; subst h; simp at hu
 | cons n k ws r _ ih =>
  intro xs h u hu
  obtain ⟨a, cap, c, cp, ys, rfl, _, _, h3⟩ := h
  simp only [List.mem_cons] at hu
  rcases hu with rfl | rfl | rfl | hu
  ·rfl
  ·rfl
  ·rfl
  ·exact ih h3 u hu
def sumL : List Int → Int
 | [] => 0
 | x :: r => x + sumL r
theorem wOk_sum : ∀ (ws : List Int) (q : Int), 0 ≤ q → wOk q ws = true → sumL ws ≤ q ∧ ∀ y ∈ ws, 1 ≤ y := by
 intro ws
 induction ws with
 | nil => intro q hq _; exact ⟨hq, fun y hy => by simp at hy⟩
 | cons x r ih =>
  intro q _ h
  simp only [wOk, Bool.and_eq_true, decide_eq_true_eq] at h
  obtain ⟨h1, h2⟩ := ih (q - x) (by omega) h.2
  refine ⟨by simp only [sumL]; omega, fun y hy => ?_⟩
  simp only [List.mem_cons] at hy
  rcases hy with rfl | hy
  ·exact h.1.1
  ·exact h2 y hy
theorem sumL_pos {a : List Int} (h : ∀ y ∈ a, 1 ≤ y) : 0 ≤ sumL a := by
 induction a with
 | nil => simp [sumL]
 | cons x r ih =>
  have := ih (fun y hy => h y (by simp [hy]))
  have := h x (by simp)
  simp only [sumL]; omega
theorem sumL_mem {a : List Int} (h : ∀ y ∈ a, 1 ≤ y) {y : Int} (hy : y ∈ a) : y ≤ sumL a := by
 induction a with
 | nil => simp at hy
 | cons x r ih =>
  have h1 := sumL_pos (fun y hy => h y (List.mem_cons_of_mem _ hy))
  have h2 := h x (by simp)
  simp only [List.mem_cons] at hy
  simp only [sumL]
  rcases hy with rfl | hy
  ·omega
  ·have := ih (fun y hy => h y (List.mem_cons_of_mem _ hy)) hy; omega
theorem sumL_drop {wl : List Int} {j : Nat} (h : j < wl.length) : sumL (wl.drop j) = wl[j] + sumL (wl.drop (j + 1)) := by
 rw [List.drop_eq_getElem_cons h]; rfl
theorem insW_sum (n : Int) (k : V) (ws : List Int) (x : Int) : ∀ (acc : V) (aw : List Int), aw.length = acc.len → sumL (insW n k ws x acc aw) = sumL aw + x := by
 intro acc
 induction acc with
 | nil => intro aw hl; simp [V.len] at hl; subst hl; simp [insW, sumL]
 | cons n' k' ws' r _ ih =>
  intro aw hl
  cases aw with
  | nil => simp [V.len] at hl
  | cons y ys =>
   simp only [insW, List.headD_cons, List.tail_cons]
   split
   ·simp only [sumL]; omega
   ·split
    ·simp only [sumL]; omega
    ·simp only [sumL, ih ys (by simp [V.len] at hl; omega)]; omega
def CondAt (n1 : Int) (k1 : V) (ws1 : List Int) (acc : V) (p : Nat) (cc : Int) : Prop := (∃ pp qq : V, acc = pp.app qq ∧ p = pp.len ∧ gtAll n1 k1 ws1 pp ∧ (p = acc.len ∨ cc < 0) ∧ insK n1 k1 ws1 qq = .cons n1 k1 ws1 qq ∧ ∀ x b, b.length = qq.len → insW n1 k1 ws1 x qq b = x :: b) ∨ (∃ pp n2 k2 ws2 r2, acc = pp.app (.cons n2 k2 ws2 r2) ∧ p = pp.len ∧ gtAll n1 k1 ws1 pp ∧ p < acc.len ∧ cc = 0 ∧ cmp1 n1 k1 ws1 n2 k2 ws2 = 0)
theorem CondAt.ins {n1 : Int} {k1 : V} {ws1 : List Int} {acc : V} {p : Nat} {cc : Int} (h : CondAt n1 k1 ws1 acc p cc) (hins : p = acc.len ∨ cc < 0) :
    ∃ pp qq : V, acc = pp.app qq ∧ p = pp.len ∧ insK n1 k1 ws1 acc = pp.app (.cons n1 k1 ws1 qq) ∧ ∀ x aw, aw.length = acc.len → insW n1 k1 ws1 x acc aw = aw.take p ++ x :: aw.drop p := by
 rcases h with ⟨pp, qq, rfl, rfl, h3, _, h5, h6⟩ | ⟨pp, n2, k2, ws2, r2, h1, h2, _, h4, h5, _⟩
 ·refine ⟨pp, qq, rfl, rfl, by rw [insK_app pp h3, h5], fun x aw hl => ?_⟩
  have hle : pp.len ≤ aw.length := by rw [hl, V.app_len]; omega
  have := insW_app (n := n1) (k := k1) (ws := ws1) (x := x) (q := qq) (b := aw.drop pp.len) pp (aw.take pp.len) (by simp; omega) h3
  rw [List.take_append_drop] at this
  rw [this, h6 x _ (by simp [hl, V.app_len])]
 ·omega
theorem CondAt.eq {n1 : Int} {k1 : V} {ws1 : List Int} {acc : V} {p : Nat} {cc : Int} (h : CondAt n1 k1 ws1 acc p cc) (hins : ¬ (p = acc.len ∨ cc < 0)) :
    insK n1 k1 ws1 acc = acc ∧ ∀ x aw, aw.length = acc.len → insW n1 k1 ws1 x acc aw = aw.take p ++ (aw.getD p 0 + x) :: aw.drop (p + 1) := by
 rcases h with ⟨pp, qq, h1, h2, _, h4, _⟩ | ⟨pp, n2, k2, ws2, r2, rfl, rfl, h3, h4, h5, h6⟩
 ·exact absurd h4 hins
 ·refine ⟨by rw [insK_app pp h3]; simp only [insK]; rw [if_neg (by omega), if_pos h6], fun x aw hl => ?_⟩
  have hle : pp.len ≤ aw.length := by rw [hl, V.app_len]; omega
  have := insW_app (n := n1) (k := k1) (ws := ws1) (x := x) (q := .cons n2 k2 ws2 r2) (b := aw.drop pp.len) pp (aw.take pp.len) (by simp; omega) h3
  rw [List.take_append_drop] at this
  rw [this]
  simp only [insW]
  rw [if_neg (by omega), if_pos h6]
  have hlt : pp.len < aw.length := by rw [hl, V.app_len]; simp [V.len]
  rw [List.drop_eq_getElem_cons hlt]
  simp [List.getD, List.getElem?_eq_getElem hlt]
theorem V.Row.put {S : Nat → Prop} {w : World} {pp qq : V} {n1 : Int} {k1 : V} {ws1 : List Int} {a c : Option Addr} {cap cp : Nat} {xs : List Value} (h : (pp.app qq).Row S w xs) (h1 : Vl S w a k1) (h2 : Ints S w c ws1) :
    (pp.app (.cons n1 k1 ws1 qq)).Row S w ((xs.take (pp.len * 3) ++ [.int .i64 n1, .slice a k1.len cap, .slice c ws1.length cp]) ++ xs.drop (pp.len * 3)) := by
 obtain ⟨i1, i2⟩ := V.Row.split pp h
 have := (i1.app (V.Row.one (cap := cap) (cp := cp) (n := n1) h1 h2)).app i2
 rwa [V.app_assoc] at this
end Go.Proofs.YtcekilcgpgjooaaGreatDoor
