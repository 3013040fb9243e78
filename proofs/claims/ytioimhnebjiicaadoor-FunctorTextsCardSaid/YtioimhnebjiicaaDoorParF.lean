/-
  Proved here: a step towards the statements of chapter 1 (functors): what one of its functions does at each input.
-/
import Derived.Test.YtioimhnebjiicaaDoorParE
namespace Go.Proofs.YtioimhnebjiicaaDoor
open Go.RowKit

/-- What holds inside a statement of a closure of the parser whose order is open: slots that stay, slots that are written, what stays of memory, and how far the text has been read. -/
structure Cl (y : Lay) (w : World) (q ic n : Nat) (fx : List (Nat × Value)) (D : List (Nat × Nat × (Value → World → Prop))) (Hd : World → Prop) (Dn : Nat → World → Prop) (L : Nat → Bool) (c : Act) (wr : World) : Prop where
  df : c.defers = []
  size : c.tmps.size = n
  fx : ∀ x ∈ fx, c.tmps[x.1]? = some x.2
  ds : ∀ x ∈ D, L x.1 = true → ∃ v, c.tmps[x.2.1]? = some v ∧ x.2.2 v wr
  hd : Hd wr
  oth : Oth y.pb w wr
  ps : ∃ q1, wr.heap[y.pb]? = some (y.cells q1) ∧ (if L ic = true then Dn q1 wr else q1 = q)

/-- What stays while block pb may turn. -/
def Stays (y : Lay) (p : World → Prop) : Prop := ∀ u u', y.pb < u.heap.size → Oth y.pb u u' → p u → p u'

theorem Cl.step {y : Lay} {w : World} {q ic n : Nat} {fx : List (Nat × Value)} {D : List (Nat × Nat × (Value → World → Prop))} {Hd : World → Prop} {Dn : Nat → World → Prop} {L : Nat → Bool} {c : Act} {wr : World}
    (hI : Cl y w q ic n fx D Hd Dn L c wr) (hm : ∀ x ∈ D, ∀ v, Stays y (x.2.2 v)) (hh : Stays y Hd) (i d : Nat) (v : Value) (wr' : World) (ho : Oth y.pb wr wr')
    (hp : ∃ q1, wr'.heap[y.pb]? = some (y.cells q1) ∧ (if lset L i ic = true then Dn q1 wr' else q1 = q)) (hd : d < n) (hfx : ∀ x ∈ fx, x.1 ≠ d)
    (hD : ∀ x ∈ D, (x.1 = i ∧ x.2.1 = d ∧ x.2.2 v wr') ∨ (x.1 ≠ i ∧ x.2.1 ≠ d)) : Cl y w q ic n fx D Hd Dn (lset L i) { tmps := c.tmps.setIfInBounds d v, defers := c.defers } wr' := by
  obtain ⟨q0, hq0, _⟩ := hI.ps
  have hlt := heap_lt hq0
  refine ⟨hI.df, by simpa using hI.size, fun x hx => ?_, fun x hx hL => ?_, hh _ _ hlt ho hI.hd, hI.oth.trans ho, hp⟩
  · show (c.tmps.setIfInBounds d v)[x.1]? = _
    rw [Array.getElem?_setIfInBounds_ne (Ne.symm (hfx x hx))]
    exact hI.fx x hx
  · show ∃ u, (c.tmps.setIfInBounds d v)[x.2.1]? = some u ∧ _
    rcases hD x hx with ⟨h1, h2, h3⟩ | ⟨h1, h2⟩
    · refine ⟨v, ?_, h3⟩
      rw [h2]
      have := hI.size
      simp [show d < c.tmps.size by omega]
    · rw [Array.getElem?_setIfInBounds_ne (Ne.symm h2)]
      have hL' : L x.1 = true := by unfold lset at hL; rwa [if_neg h1] at hL
      obtain ⟨u, h3, h4⟩ := hI.ds x hx hL'
      exact ⟨u, h3, hm x hx u _ _ hlt ho h4⟩

/-- A slot of one known value. -/
def IsV (v0 : Value) : Value → World → Prop := fun v _ => v = v0
/-- A slot that holds a new slice over known cells. -/
def IsSl (y : Lay) (lo len : Nat) (cs : World → Array Value → Prop) (mk : Value → Value) : Value → World → Prop :=
  fun v u => ∃ nb c, v = mk (.slice (some ⟨nb, 0, none⟩) len len) ∧ lo < nb ∧ y.pb < nb ∧ u.heap[nb]? = some (.cells c 24 (0, 0)) ∧ cs u c

theorem stays_isV (y : Lay) (v0 v : Value) : Stays y (IsV v0 v) := fun _ _ _ _ h => h
theorem stays_isSl (y : Lay) (lo len : Nat) (cs : World → Array Value → Prop) (mk : Value → Value) (v : Value) (hc : ∀ c, Stays y (fun u => cs u c)) : Stays y (IsSl y lo len cs mk v) := by
  rintro u u' hlt ho ⟨nb, c, h1, h2, h3, h4, h5⟩
  exact ⟨nb, c, h1, h2, h3, by rw [ho.block _ (heap_lt h4) (by omega)]; exact h4, hc c u u' hlt ho h5⟩

theorem heap_new (w : World) (o : Obj) : (w.alloc o).heap[w.heap.size]? = some o := by
  show (w.heap.push o)[w.heap.size]? = some o
  simp

theorem heap_new2 (w : World) (o o' : Obj) : ((w.alloc o).alloc o').heap[w.heap.size + 1]? = some o' := by
  have := heap_new (w.alloc o) o'
  rwa [show (w.alloc o).heap.size = w.heap.size + 1 by simp] at this

theorem heap_old2 (w : World) (o o' : Obj) : ((w.alloc o).alloc o').heap[w.heap.size]? = some o := by
  rw [Below.heap_alloc _ _ _ (by simp), heap_new]

/-- The number that stands next, or none. -/
def NumM (y : Lay) (w : World) (m : Option (Int × List UInt8)) (e : Ending) (w' : World) : Prop :=
  match m with
  | none => e = .panicked errPanic ∧ Oth y.pb w w'
  | some (v, r) => e = .returned (.int .i64 v) ∧ Oth y.pb w w' ∧ ∃ q', q' ≤ y.s.size ∧ y.txt q' = r ∧ PS w' y q'

theorem number_any (y : Lay) (q : Nat) (w : World) (hq : q ≤ y.s.size) (hs : y.s.size ≤ 50000) (h : PS w y q) :
    Calls Tryd.prog 54 #[y.ptr] w (NumM y w (num (y.txt q))) := by
  unfold num
  cases hc : isD (hdc (pk (y.txt q)))
  · exact (number_no y q w hq hs h hc).mono fun e w' he => by simpa [NumM] using he
  · refine (number_ok y q w hq hs h hc).mono fun e w' he => ?_
    obtain ⟨q', h1, h2, h3⟩ := he.st
    simpa [NumM] using ⟨he.e, he.oth, q', h1, h2, h3⟩

def powR (m : Option (Int × List UInt8)) (f : F) : Option (F × List UInt8) :=
  match m with
  | none => none
  | some (v, r) => some (⟨4, v, f.one⟩, r)

def D53 (y : Lay) (w : World) (f : F) (a : Option Addr) (cap : Nat) (v : Int) : List (Nat × Nat × (Value → World → Prop)) :=
  [(0, 4, IsV y.ptr), (1, 5, IsV (.int .i64 v)), (2, 6, IsV (f.val a cap)),
   (3, 7, IsSl y (w.heap.size + 1) 1 (fun _ c => c = #[.int .i64 f.k, .int .i64 f.n, .slice a f.t.len cap]) (fun s => s)),
   (4, 8, IsSl y (w.heap.size + 1) 1 (fun _ c => c = #[.int .i64 f.k, .int .i64 f.n, .slice a f.t.len cap]) (fun s => .agg #[.int .i64 4, .int .i64 v, s]))]


def HdBox (B : Nat) (f : F) (a : Option Addr) (cap : Nat) : World → Prop := fun u =>
  u.heap[B]? = some (.cells #[.int .i64 f.k, .int .i64 f.n, .slice a f.t.len cap] 24 (0, 0)) ∧ u.heap[B + 1]? = some (.cells #[.int .i64 0, .int .i64 0, .slice none 0 0] 24 (0, 0))

theorem stays_hdBox (y : Lay) (B : Nat) (f : F) (a : Option Addr) (cap : Nat) (hB : y.pb < B) : Stays y (HdBox B f a cap) := by
  intro u u' _ ho ⟨h1, h2⟩
  exact ⟨by rw [ho.block _ (heap_lt h1) (by omega)]; exact h1, by rw [ho.block _ (heap_lt h2) (by omega)]; exact h2⟩

theorem cells_of {u : World} {b : Nat} {x0 x1 x2 : Value} {t : TypeId} {fz : Nat × Nat} (h : u.heap[b]? = some (.cells #[x0, x1, x2] t fz)) :
    u.cell? ⟨b, 0, none⟩ = some x0 ∧ u.cell? ⟨b, 1, none⟩ = some x1 ∧ u.cell? ⟨b, 2, none⟩ = some x2 := by
  simp [World.cell?, h]

theorem frozen_of {u : World} {b o : Nat} {c : Array Value} {t : TypeId} (h : u.heap[b]? = some (.cells c t (0, 0))) : u.frozen? ⟨b, o, none⟩ = false := by
  simp [World.frozen?, h]

/-- A struct of three cells, stored whole. -/
theorem store3 {u : World} {b : Nat} {c : Array Value} {t : TypeId} {x0 x1 x2 : Value} (h : u.heap[b]? = some (.cells c t (0, 0))) (hc : c.size = 3) :
    (((u.setCell ⟨b, 0, none⟩ x0).setCell ⟨b, 1, none⟩ x1).setCell ⟨b, 2, none⟩ x2).heap[b]? = some (.cells #[x0, x1, x2] t (0, 0)) := by
  match c, hc with
  | ⟨[a0, a1, a2]⟩, _ => simp [World.setCell, Array.getElem?_modify, h]

theorem store3_far {u : World} {b k : Nat} {x0 x1 x2 : Value} (h : k ≠ b) :
    (((u.setCell ⟨b, 0, none⟩ x0).setCell ⟨b, 1, none⟩ x1).setCell ⟨b, 2, none⟩ x2).heap[k]? = u.heap[k]? := by
  rw [Below.heap_setCell _ _ _ _ h, Below.heap_setCell _ _ _ _ h, Below.heap_setCell _ _ _ _ h]

theorem store3_oth {pb : Nat} {w u : World} {b : Nat} {x0 x1 x2 : Value} (h : Oth pb w u) (hb : w.heap.size ≤ b) :
    Oth pb w (((u.setCell ⟨b, 0, none⟩ x0).setCell ⟨b, 1, none⟩ x1).setCell ⟨b, 2, none⟩ x2) :=
  ((h.setNew (p := ⟨b, 0, none⟩) hb x0).setNew (p := ⟨b, 1, none⟩) hb x1).setNew (p := ⟨b, 2, none⟩) hb x2

theorem Cl.ps_no {y : Lay} {w : World} {q ic n : Nat} {fx : List (Nat × Value)} {D : List (Nat × Nat × (Value → World → Prop))} {Hd : World → Prop} {Dn : Nat → World → Prop} {L : Nat → Bool} {c : Act} {wr : World}
    {q0 : Nat} (hI : Cl y w q ic n fx D Hd Dn L c wr) (h : PS w y q0) (hL : L ic = false) : PS wr y q := by
  obtain ⟨q1, h1, h2⟩ := hI.ps
  rw [hL] at h2
  simp only [Bool.false_eq_true, if_false] at h2
  subst h2
  exact h.oth hI.oth h1

theorem Cl.ps_yes {y : Lay} {w : World} {q ic n : Nat} {fx : List (Nat × Value)} {D : List (Nat × Nat × (Value → World → Prop))} {Hd : World → Prop} {Dn : Nat → World → Prop} {L : Nat → Bool} {c : Act} {wr : World}
    {q0 : Nat} (hI : Cl y w q ic n fx D Hd Dn L c wr) (h : PS w y q0) (hL : L ic = true) : ∃ q1, PS wr y q1 ∧ Dn q1 wr := by
  obtain ⟨q1, h1, h2⟩ := hI.ps
  rw [hL] at h2
  simp only [if_true] at h2
  exact ⟨q1, h.oth hI.oth h1, h2⟩

/-- Another operation than the call: how far the text has been read does not turn. -/
theorem Cl.ps_keep {y : Lay} {w : World} {q ic n : Nat} {fx : List (Nat × Value)} {D : List (Nat × Nat × (Value → World → Prop))} {Hd : World → Prop} {Dn : Nat → World → Prop} {L : Nat → Bool} {c : Act} {wr wr' : World}
    (hI : Cl y w q ic n fx D Hd Dn L c wr) (hb : Below wr.heap.size wr wr') (hDn : ∀ q1 u u', Below u.heap.size u u' → Dn q1 u → Dn q1 u') {i : Nat} (hi : ic ≠ i) :
    ∃ q1, wr'.heap[y.pb]? = some (y.cells q1) ∧ (if lset L i ic = true then Dn q1 wr' else q1 = q) := by
  obtain ⟨q1, h1, h2⟩ := hI.ps
  refine ⟨q1, by rw [hb.block _ (heap_lt h1)]; exact h1, ?_⟩
  unfold lset
  rw [if_neg hi]
  split at h2
  · rw [if_pos (by assumption)]; exact hDn _ _ _ hb h2
  · rw [if_neg (by assumption)]; exact h2

theorem oth_of_below {pb : Nat} {u u' : World} (h : Below u.heap.size u u') : Oth pb u u' := (Oth.refl _ _).below h


theorem hdBox_mk (w : World) (f : F) (a : Option Addr) (cap : Nat) : HdBox w.heap.size f a cap ((w.alloc (.cells #[.int .i64 f.k, .int .i64 f.n, .slice a f.t.len cap] 24)).alloc (.cells #[.int .i64 0, .int .i64 0, .slice none 0 0] 24)).drew :=
  ⟨heap_old2 _ _ _, heap_new2 _ _ _⟩

end Go.Proofs.YtioimhnebjiicaaDoor
