/-
  Proved here: how the trees that the functors' values form lie in memory, and that they stay there when only new memory is laid.
-/
import Derived.WalkKit
import Derived.Lib.Hide
namespace Go.Proofs.YtioimhnebjiicaaDoor
open Go.RowKit

/-- A list of trees: the first tree's two numbers, its subtrees, and the other trees. -/
inductive T where
  | nil
  | cons (k n : Int) (kids rest : T)
deriving DecidableEq

def T.len : T → Nat
  | .nil => 0
  | .cons _ _ _ r => r.len + 1

def T.drop : T → Nat → T
  | t, 0 => t
  | .nil, _ + 1 => .nil
  | .cons _ _ _ r, i + 1 => r.drop i

@[simp] theorem T.drop_zero (t : T) : t.drop 0 = t := by cases t <;> rfl

theorem T.drop_len (t : T) (i : Nat) : (t.drop i).len = t.len - i := by
  induction t generalizing i with
  | nil => cases i <;> simp [T.drop, T.len]
  | cons k n kids rest _ ihr => cases i with
    | zero => simp [T.drop]
    | succ i => simp [T.drop, T.len, ihr]

theorem T.drop_lt {t : T} {i : Nat} (h : i < t.len) : ∃ k n kids rest, t.drop i = .cons k n kids rest ∧ t.drop (i + 1) = rest := by
  induction t generalizing i with
  | nil => simp [T.len] at h
  | cons k n kids rest _ ihr => cases i with
    | zero => exact ⟨k, n, kids, rest, rfl, by simp [T.drop]⟩
    | succ i => exact ihr (by simpa [T.len] using h)

theorem T.drop_all (t : T) : t.drop t.len = .nil := by
  induction t with
  | nil => rfl
  | cons k n kids rest _ ihr => simpa [T.len, T.drop] using ihr

/-- What holds of the subtrees of each of the trees. -/
def T.Elems (Q : T → Prop) (t : T) : Prop := ∀ i k n kids rest, t.drop i = .cons k n kids rest → Q kids

theorem T.ind {Q : T → Prop} (h : ∀ t, t.Elems Q → Q t) : ∀ t, Q t := by
  have key : ∀ t : T, Q t ∧ t.Elems Q := by
    intro t
    induction t with
    | nil =>
      have e : (T.nil).Elems Q := by
        intro i k n kids rest hd
        cases i <;> simp [T.drop] at hd
      exact ⟨h _ e, e⟩
    | cons k n kids rest ihk ihr =>
      have e : (T.cons k n kids rest).Elems Q := by
        intro i k' n' kids' rest' hd
        cases i with
        | zero => simp only [T.drop, T.cons.injEq] at hd; obtain ⟨_, _, rfl, _⟩ := hd; exact ihk.1
        | succ i => exact ihr.2 i k' n' kids' rest' hd
      exact ⟨h _ e, e⟩
  exact fun t => (key t).1

/-- A node's place is marked, and its two numbers may be written. -/
def Soft (S : Nat → Nat → Prop) (w : World) (b o : Nat) : Prop := S b o ∧ w.frozen? ⟨b, o, none⟩ = false ∧ w.frozen? ⟨b, o + 1, none⟩ = false

/-- The trees lie in the world, one behind the other, three cells each, from an offset of a block on. -/
def T.At (S : Nat → Nat → Prop) (w : World) : T → Nat → Nat → Prop
  | .nil, _, _ => True
  | .cons k n kids rest, b, o => Soft S w b o ∧ w.cell? ⟨b, o, none⟩ = some (.int .i64 k) ∧ w.cell? ⟨b, o + 1, none⟩ = some (.int .i64 n) ∧
      (∃ a cap, w.cell? ⟨b, o + 2, none⟩ = some (.slice a kids.len cap) ∧ kids.len ≤ 9223372036854775807 ∧
        match a with
        | none => kids = .nil
        | some p => (kids = .nil ∨ p.spot = none) ∧ kids.At S w p.block p.off) ∧ rest.At S w b (o + 3)

/-- A slice that reads as the trees. -/
def Sl (S : Nat → Nat → Prop) (w : World) (a : Option Addr) (t : T) : Prop :=
  t.len ≤ 9223372036854775807 ∧ match a with
    | none => t = .nil
    | some p => (t = .nil ∨ p.spot = none) ∧ t.At S w p.block p.off

theorem lt_of_cell {w : World} {b o : Nat} {v : Value} (h : w.cell? ⟨b, o, none⟩ = some v) : b < w.heap.size := by
  unfold World.cell? at h
  by_cases hb : b < w.heap.size
  · exact hb
  · simp [Array.getElem?_eq_none (Nat.le_of_not_lt hb)] at h

theorem T.At.mono {S S' : Nat → Nat → Prop} {w w' : World} (hS : ∀ b o, S b o → S' b o)
    (h : ∀ b o, S b o → b < w.heap.size → w'.heap[b]? = w.heap[b]?) {t : T} : ∀ {b o : Nat}, t.At S w b o → t.At S' w' b o := by
  induction t with
  | nil => intro b o _; trivial
  | cons k n kids rest ihk ihr =>
    intro b o ⟨h1, h2, h3, ⟨a, cap, h4, h5, h6⟩, h7⟩
    have hb := h b o h1.1 (lt_of_cell h2)
    refine ⟨⟨hS _ _ h1.1, ?_, ?_⟩, ?_, ?_, ⟨a, cap, ?_, h5, ?_⟩, ihr h7⟩
    · rw [World.frozen?_of_block (w := w) (a := ⟨b, o, none⟩) hb]; exact h1.2.1
    · rw [World.frozen?_of_block (w := w) (a := ⟨b, o + 1, none⟩) hb]; exact h1.2.2
    · rw [World.cell?_of_block (w := w) (a := ⟨b, o, none⟩) hb]; exact h2
    · rw [World.cell?_of_block (w := w) (a := ⟨b, o + 1, none⟩) hb]; exact h3
    · rw [World.cell?_of_block (w := w) (a := ⟨b, o + 2, none⟩) hb]; exact h4
    · cases a with
      | none => exact h6
      | some p => exact ⟨h6.1, ihk h6.2⟩

theorem cell_below {w w' : World} (hb : Below w.heap.size w w') {b o : Nat} {v : Value} (h : w.cell? ⟨b, o, none⟩ = some v) : w'.cell? ⟨b, o, none⟩ = some v := by
  rw [hb.cell (p := ⟨b, o, none⟩) (lt_of_cell h)]; exact h

theorem T.At.below {S : Nat → Nat → Prop} {w w' : World} (hb : Below w.heap.size w w') {t : T} {b o : Nat} (h : t.At S w b o) : t.At S w' b o :=
  T.At.mono (fun _ _ h => h) (fun b _ _ hlt => hb.block b hlt) h

theorem Sl.below {S : Nat → Nat → Prop} {w w' : World} (hb : Below w.heap.size w w') {t : T} {a : Option Addr} (h : Sl S w a t) : Sl S w' a t := by
  refine ⟨h.1, ?_⟩
  have h2 := h.2
  cases a with
  | none => exact h2
  | some p => exact ⟨h2.1, h2.2.below hb⟩

theorem T.At.drop {S : Nat → Nat → Prop} {w : World} {t : T} : ∀ {b o : Nat}, t.At S w b o → ∀ i, (t.drop i).At S w b (o + 3 * i) := by
  induction t with
  | nil => intro b o _ i; cases i <;> exact trivial
  | cons k n kids rest _ ihr =>
    intro b o h i
    cases i with
    | zero => exact h
    | succ i =>
      have := ihr h.2.2.2.2 i
      rw [show o + 3 * (i + 1) = o + 3 + 3 * i by omega]
      exact this

/-- The i-th tree: its three cells, and its subtrees. -/
theorem T.At.get {S : Nat → Nat → Prop} {w : World} {t : T} {b o i : Nat} (h : t.At S w b o) {k n : Int} {kids rest : T} (hd : t.drop i = .cons k n kids rest) :
    S b (o + 3 * i) ∧ w.cell? ⟨b, o + 3 * i, none⟩ = some (.int .i64 k) ∧ w.cell? ⟨b, o + 3 * i + 1, none⟩ = some (.int .i64 n) ∧
      ∃ a cap, w.cell? ⟨b, o + 3 * i + 2, none⟩ = some (.slice a kids.len cap) ∧ Sl S w a kids := by
  have := h.drop i
  rw [hd] at this
  obtain ⟨h1, h2, h3, ⟨a, cap, h4, h5, h6⟩, _⟩ := this
  exact ⟨h1.1, h2, h3, a, cap, h4, h5, h6⟩

/-- A slice that holds a tree has an address. -/
theorem Sl.addr {S : Nat → Nat → Prop} {w : World} {a : Option Addr} {t : T} (h : Sl S w a t) {i : Nat} (hi : i < t.len) : ∃ b o, a = some ⟨b, o, none⟩ ∧ t.At S w b o := by
  have h2 := h.2
  cases a with
  | none => subst h2; simp [T.len] at hi
  | some p =>
    obtain ⟨b, o, s⟩ := p
    obtain ⟨h3, h4⟩ := h2
    rcases h3 with h3 | h3
    · subst h3; simp [T.len] at hi
    · simp only at h3
      subst h3
      exact ⟨b, o, rfl, h4⟩

end Go.Proofs.YtioimhnebjiicaaDoor
