/-
  Proved here: what holds inside one round of the reference's Copy, whose order of evaluation is open.
-/
import Derived.Test.YtioimhnebjiicaaDoorCopA
namespace Go.Proofs.YtioimhnebjiicaaDoor
open Go.RowKit

theorem info24 : (Tryd.prog.info? 24).map (fun i => (i.zero, i.size, i.bytes)) = some (some (.agg #[.int .i64 0, .int .i64 0, .slice none 0 0]), 3, 40) := by kernel_rfl

/-- What a round of the copy is given. -/
structure Cq where
  B : Nat
  Bg : Nat
  w : World
  k : Int
  n : Int
  k1 : Int
  n1 : Int
  a1 : Option Addr
  cap1 : Nat
  kids : T
  tj : T
  v : Value
  j : Nat
  xs : List Value
  m : Nat

def Cq.elem (q : Cq) (a : Option Addr) (cap : Nat) : Array Value := #[.int .i64 q.k1, .int .i64 q.n1, .slice a q.kids.len cap]
def Cq.PV (v0 : Value) : Bool → Value → World → Prop := fun _ u _ => u = v0
def Cq.PR (q : Cq) : Bool → Value → World → Prop := fun b u wr => b = false → ∃ a cap, u = .agg (q.elem a cap) ∧ Sl (New (q.B + 3) q.v.ownBlock) wr a q.kids
def Cq.PS (q : Cq) : Bool → Value → World → Prop := fun b u wr => b = false → ∃ h a cap, u = .slice (some ⟨h, 0, none⟩) 1 1 ∧ wr.heap[h]? = some (.cells (q.elem a cap) 24 (0, 0)) ∧ Sl (New (q.B + 3) q.v.ownBlock) wr a q.kids
def Cq.PA (q : Cq) : Bool → Value → World → Prop := fun _ u wr => ∃ a cap, wr.ownsRow (q.B + 3) 24 3 u (q.j + 1) (q.xs ++ [.int .i64 q.k1, .int .i64 q.n1, .slice a q.kids.len cap]) ∧ Sl (New (q.B + 3) u.ownBlock) wr a q.kids ∧ q.tj.Row (New (q.B + 3) u.ownBlock) wr q.xs
def Cq.Own (q : Cq) (wr : World) : Prop := wr.ownsRow (q.B + 3) 24 3 q.v q.j q.xs ∧ q.tj.Row (New (q.B + 3) q.v.ownBlock) wr q.xs
def Cq.D (q : Cq) : List (Nat × Nat × (Bool → Value → World → Prop)) :=
  [(0, 18, Cq.PV (.pointer (some ⟨q.B + 2, 2, none⟩))), (1, 19, Cq.PV q.v), (2, 20, Cq.PV (.agg (q.elem q.a1 q.cap1))), (3, 21, q.PR), (4, 22, q.PS), (5, 23, q.PA), (6, 24, Cq.PV (.pointer (some ⟨q.B + 2, 2, none⟩)))]
structure Cq.Hd (q : Cq) (wr : World) : Prop where
  res : wr.heap[q.B + 1]? = some (.cells #[.int .i64 0, .int .i64 0, .slice none 0 0] 24 (0, 0))
  out : wr.heap[q.B + 2]? = some (.cells #[.int .i64 q.k, .int .i64 q.n, q.v] 24 (0, 0))
  g : wr.heap[q.Bg]? = some (.cells (q.elem q.a1 q.cap1) 24 (0, 0))
  bl : Below q.B q.w wr
  size : q.m ≤ wr.heap.size

structure Dep (L : Nat → Bool) : Prop where
  d1 : L 1 = true → L 0 = true
  d3 : L 3 = true → L 2 = true
  d4 : L 4 = true → L 3 = true
  d5 : L 5 = true → L 1 = true
  d6 : L 5 = true → L 4 = true

theorem Dep.set {L : Nat → Bool} (h : Dep L) {i : Nat} (h1 : i = 1 → L 0 = true) (h3 : i = 3 → L 2 = true) (h4 : i = 4 → L 3 = true) (h5 : i = 5 → L 1 = true) (h6 : i = 5 → L 4 = true) : Dep (lset L i) := by
  have aux : ∀ a b, (L a = true → L b = true) → (i = a → L b = true) → lset L i a = true → lset L i b = true := by
    intro a b g1 g2 g3
    unfold lset at *
    by_cases hb : b = i
    · simp [hb]
    · rw [if_neg hb]
      by_cases ha : a = i
      · exact g2 ha.symm
      · rw [if_neg ha] at g3; exact g1 g3
  exact ⟨aux _ _ h.d1 h1, aux _ _ h.d3 h3, aux _ _ h.d4 h4, aux _ _ h.d5 h5, aux _ _ h.d6 h6⟩

theorem Dep.not5 {L : Nat → Bool} (h : Dep L) {i : Nat} (hi : i < 5) (hL : L i = false) : L 5 = false := by
  cases h5 : L 5 with
  | false => rfl
  | true =>
    have a1 := h.d5 h5
    have a4 := h.d6 h5
    have a0 := h.d1 a1
    have a3 := h.d4 a4
    have a2 := h.d3 a3
    match i, hi with
    | 0, _ => rw [a0] at hL; cases hL
    | 1, _ => rw [a1] at hL; cases hL
    | 2, _ => rw [a2] at hL; cases hL
    | 3, _ => rw [a3] at hL; cases hL
    | 4, _ => rw [a4] at hL; cases hL

structure Cq.I (q : Cq) (fx : List (Nat × Value)) (L : Nat → Bool) (c : Act) (wr : World) : Prop where
  df : c.defers = []
  size : c.tmps.size = 27
  fx : ∀ x ∈ fx, c.tmps[x.1]? = some x.2
  ds : ∀ x ∈ q.D, L x.1 = true → ∃ u, c.tmps[x.2.1]? = some u ∧ x.2.2 (L 5) u wr
  own : L 5 = false → q.Own wr
  hd : q.Hd wr
  dep : Dep L

theorem Cq.I.step {q : Cq} {fx : List (Nat × Value)} {L : Nat → Bool} {c : Act} {wr : World} (hI : q.I fx L c wr) (i d : Nat) (u : Value) (wr' : World) (hd : d < 27) (hfx : ∀ x ∈ fx, x.1 ≠ d)
    (hst : ∀ x ∈ q.D, x.1 ≠ i → ∀ u', x.2.2 (L 5) u' wr → x.2.2 (lset L i 5) u' wr')
    (hD : ∀ x ∈ q.D, (x.1 = i ∧ x.2.1 = d ∧ x.2.2 (lset L i 5) u wr') ∨ (x.1 ≠ i ∧ x.2.1 ≠ d)) (ho : lset L i 5 = false → q.Own wr') (hh : q.Hd wr') (hp : Dep (lset L i)) : q.I fx (lset L i) { tmps := c.tmps.setIfInBounds d u, defers := c.defers } wr' := by
  refine ⟨hI.df, by simpa using hI.size, fun x hx => ?_, fun x hx hL => ?_, ho, hh, hp⟩
  · show (c.tmps.setIfInBounds d u)[x.1]? = _
    rw [Array.getElem?_setIfInBounds_ne (Ne.symm (hfx x hx))]
    exact hI.fx x hx
  · show ∃ u', (c.tmps.setIfInBounds d u)[x.2.1]? = some u' ∧ _
    rcases hD x hx with ⟨h1, h2, h3⟩ | ⟨h1, h2⟩
    · refine ⟨u, ?_, h3⟩
      rw [h2]
      have := hI.size
      simp [show d < c.tmps.size by omega]
    · rw [Array.getElem?_setIfInBounds_ne (Ne.symm h2)]
      rw [ls_ne _ h1] at hL
      obtain ⟨u', h3, h4⟩ := hI.ds x hx hL
      exact ⟨u', h3, hst x hx h1 u' h4⟩

theorem Cq.Hd.below {q : Cq} {u u' : World} (h : q.Hd u) (hb : Below u.heap.size u u') : q.Hd u' :=
  ⟨by rw [hb.block _ (heap_lt h.res)]; exact h.res, by rw [hb.block _ (heap_lt h.out)]; exact h.out, by rw [hb.block _ (heap_lt h.g)]; exact h.g,
   h.bl.trans (hb.mono (by have := heap_lt h.res; omega)), Nat.le_trans h.size hb.size⟩

theorem grown_of_below {u u' : World} (hb : Below u.heap.size u u') (row : Option Nat) : u.grownBy u' row := ⟨hb.os, hb.tape, hb.output, hb.size, fun k hk _ => hb.block k hk⟩

theorem Cq.Own.below {q : Cq} {u u' : World} (h : q.Own u) (hb : Below u.heap.size u u') : q.Own u' :=
  ⟨h.1.kept (row := none) (grown_of_below hb none) (by cases q.v.ownBlock <;> simp), T.Row.mono (fun _ _ hs => hs.below hb) h.2⟩

/-- What the slots say stays when only new memory is laid. -/
theorem Cq.D_below {q : Cq} {u u' : World} (hb : Below u.heap.size u u') (b : Bool) : ∀ x ∈ q.D, ∀ v, x.1 ≠ 5 → x.2.2 b v u → x.2.2 b v u' := by
  intro x hx v h5 h
  simp only [Cq.D, List.mem_cons, List.not_mem_nil, or_false] at hx
  rcases hx with rfl | rfl | rfl | rfl | rfl | rfl | rfl
  · exact h
  · exact h
  · exact h
  · intro hb0
    obtain ⟨a, cap, h1, h2⟩ := h hb0
    exact ⟨a, cap, h1, h2.below hb⟩
  · intro hb0
    obtain ⟨g, a, cap, h1, h2, h3⟩ := h hb0
    exact ⟨g, a, cap, h1, by rw [hb.block _ (heap_lt h2)]; exact h2, h3.below hb⟩
  · exact absurd rfl h5
  · exact h

/-- A step that lays new memory at most, while the append has not been made. -/
theorem Cq.I.quiet {q : Cq} {fx : List (Nat × Value)} {L : Nat → Bool} {c : Act} {wr : World} (hI : q.I fx L c wr) (hL5 : L 5 = false) (i d : Nat) (hi : i ≠ 5) (u : Value) (wr' : World) (hb : Below wr.heap.size wr wr') (hd : d < 27) (hfx : ∀ x ∈ fx, x.1 ≠ d)
    (hD : ∀ x ∈ q.D, (x.1 = i ∧ x.2.1 = d ∧ x.2.2 false u wr') ∨ (x.1 ≠ i ∧ x.2.1 ≠ d)) (hp : Dep (lset L i)) : q.I fx (lset L i) { tmps := c.tmps.setIfInBounds d u, defers := c.defers } wr' := by
  have e5 : lset L i 5 = L 5 := ls_ne _ (Ne.symm hi)
  have hown := hI.own hL5
  have key : ∀ x ∈ q.D, x.1 ≠ i → ∀ u', x.2.2 (L 5) u' wr → x.2.2 (lset L i 5) u' wr' := by
    intro x hx h1 u' h
    rw [e5]
    by_cases h5 : x.1 = 5
    · simp only [Cq.D, List.mem_cons, List.not_mem_nil, or_false] at hx
      rcases hx with rfl | rfl | rfl | rfl | rfl | rfl | rfl <;> simp at h5
      obtain ⟨a, cap, g1, g2, g3⟩ := h
      exact ⟨a, cap, g1.kept (row := none) (grown_of_below hb none) (by cases u'.ownBlock <;> simp), g2.below hb, T.Row.mono (fun _ _ hs => hs.below hb) g3⟩
    · exact Cq.D_below hb _ x hx u' h5 h
  exact hI.step i d u wr' hd hfx key (by rw [e5, hL5]; exact hD) (fun _ => hown.below hb) (hI.hd.below hb) hp
end Go.Proofs.YtioimhnebjiicaaDoor
