/-
  Proved here: facts on the copy of a list of trees, without the program.
-/
import Derived.Test.YtioimhnebjiicaaDoorAwake
import Derived.OwnWalk
import Derived.Maps.AppendAt
namespace Go.Proofs.YtioimhnebjiicaaDoor
open Go.RowKit

/-- New memory, but for one block. -/
def New (lo : Nat) (g : Option Nat) : Nat → Nat → Prop := fun b _ => lo ≤ b ∧ some b ≠ g

/-- The cells of the first trees of a copy: each has its subtrees somewhere. -/
def T.Row (S : Nat → Nat → Prop) (w : World) : T → List Value → Prop
  | .nil, xs => xs = []
  | .cons k n kids rest, xs => ∃ a cap ys, xs = .int .i64 k :: .int .i64 n :: .slice a kids.len cap :: ys ∧ Sl S w a kids ∧ rest.Row S w ys

def T.take : T → Nat → T
  | _, 0 => .nil
  | .nil, _ + 1 => .nil
  | .cons k n kids rest, i + 1 => .cons k n kids (rest.take i)

theorem T.take_all (t : T) : t.take t.len = t := by
  induction t with
  | nil => rfl
  | cons k n kids rest _ ihr => simp [T.len, T.take, ihr]

theorem T.take_len (t : T) : ∀ j, j ≤ t.len → (t.take j).len = j := by
  induction t with
  | nil => intro j hj; simp [T.len] at hj; subst hj; rfl
  | cons k n kids rest _ ihr => intro j hj; cases j with
    | zero => rfl
    | succ j => simp only [T.take, T.len] at hj ⊢; rw [ihr j (by omega)]

theorem T.len_nodes (t : T) : t.len ≤ t.nodes := by
  induction t with
  | nil => simp [T.len]
  | cons k n kids rest _ ihr => simp only [T.len, T.nodes]; omega

theorem T.Row.push {S : Nat → Nat → Prop} {w : World} {t : T} : ∀ {j : Nat} {xs : List Value} {k n : Int} {kids rest : T} {a : Option Addr} {cap : Nat}, (t.take j).Row S w xs → t.drop j = .cons k n kids rest → Sl S w a kids →
    (t.take (j + 1)).Row S w (xs ++ [.int .i64 k, .int .i64 n, .slice a kids.len cap]) := by
  induction t with
  | nil => intro j _ _ _ _ _ _ _ _ hd; cases j <;> simp [T.drop] at hd
  | cons k' n' kids' rest' _ ihr =>
    intro j xs k n kids rest a cap hr hd hs
    cases j with
    | zero =>
      simp only [T.drop, T.cons.injEq] at hd
      obtain ⟨rfl, rfl, rfl, rfl⟩ := hd
      simp only [T.take, T.Row] at hr
      subst hr
      exact ⟨a, cap, [], rfl, hs, by cases rest' <;> rfl⟩
    | succ j =>
      simp only [T.take, T.Row, T.drop] at hr hd ⊢
      obtain ⟨a0, cap0, ys, rfl, h1, h2⟩ := hr
      exact ⟨a0, cap0, _, rfl, h1, ihr h2 hd hs⟩

theorem T.Row.mono {S S' : Nat → Nat → Prop} {w w' : World} {t : T} (h : ∀ a u, Sl S w a u → Sl S' w' a u) : ∀ {xs : List Value}, t.Row S w xs → t.Row S' w' xs := by
  induction t with
  | nil => intro xs hr; exact hr
  | cons k n kids rest _ ihr =>
    intro xs hr
    obtain ⟨a0, cap0, ys, rfl, h1, h2⟩ := hr
    exact ⟨a0, cap0, ys, rfl, h _ _ h1, ihr h2⟩

theorem T.Row.at {S S' : Nat → Nat → Prop} {w : World} {g : Nat} (hS : ∀ b o, S b o → S' b o) (hg : ∀ o, Soft S' w g o) {t : T} : ∀ {xs : List Value} {o : Nat}, t.Row S w xs → (∀ j u, xs[j]? = some u → w.cell? ⟨g, o + j, none⟩ = some u) → t.At S' w g o := by
  induction t with
  | nil => intro _ _ _ _; trivial
  | cons k n kids rest _ ihr =>
    intro xs o hr hc
    obtain ⟨a0, cap0, ys, rfl, h1, h2⟩ := hr
    have h1' := h1.weaken hS
    refine ⟨hg _, hc 0 _ rfl, hc 1 _ rfl, ⟨a0, cap0, hc 2 _ rfl, h1'.1, h1'.2⟩, ihr h2 fun j u hj => ?_⟩
    have := hc (3 + j) u (by rw [show 3 + j = j + 3 by omega]; simpa using hj)
    rwa [show o + (3 + j) = o + 3 + j by omega] at this

theorem Sl.grown {S S' : Nat → Nat → Prop} {w w' : World} {row : Option Nat} {a : Option Addr} {t : T} (h : Sl S w a t) (hg : w.grownBy w' row) (hS : ∀ b o, S b o → b < w.heap.size → S' b o ∧ some b ≠ row) : Sl S' w' a t := by
  have h' := h.lt
  refine ⟨h.1, ?_⟩
  have h2 := h'.2
  cases a with
  | none => exact h2
  | some p =>
    exact ⟨h2.1, T.At.mono (fun b o hb => (hS b o hb.1 hb.2).1) (fun b o hb hlt => hg.block b hlt (hS b o hb.1 hb.2).2) h2.2⟩

/-- A row that is owned, with the subtrees of its elements, is a list of trees. -/
theorem sl_of_row {lo : Nat} {w : World} {v : Value} {t : T} {xs : List Value} (hn : t.len ≤ 100000) (ho : w.ownsRow lo 24 3 v t.len xs) (hr : t.Row (New lo v.ownBlock) w xs) :
    ∃ a cap, v = .slice a t.len cap ∧ Sl (fun b _ => lo ≤ b) w a t := by
  have h2 := ho.2
  rcases h2 with ⟨hv, hz⟩ | ⟨g, cap, cur, hv, hb, hg, hc, _, _, htake⟩
  · subst hv
    rw [hz]
    cases t with
    | nil => exact ⟨none, 0, rfl, by simp [T.len], rfl⟩
    | cons k n kids rest => simp [T.len] at hz
  · subst hv
    refine ⟨some ⟨g, 0, none⟩, cap, rfl, by omega, Or.inr rfl, ?_⟩
    refine T.Row.at (S := New lo (some g)) (fun b _ h => h.1) (fun _ => ⟨hb, by simp [World.frozen?, hg], by simp [World.frozen?, hg]⟩) hr fun j u hj => ?_
    have := ho.cells (g := g) rfl j u hj
    have hadd : (⟨g, 0, none⟩ : Addr).add j = ⟨g, j, none⟩ := by unfold Addr.add; split <;> simp_all
    rw [hadd] at this
    rwa [Nat.zero_add]
end Go.Proofs.YtioimhnebjiicaaDoor
