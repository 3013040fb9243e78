/-
  Proved here: a step towards the statements of chapter 1 (functors): what one of its functions does at each input.
-/
import Derived.Test.YtioimhnebjiicaaDoorParD
import Derived.Test.YtioimhnebjiicaaDoorReg
import Derived.Deep.RegionWith
namespace Go.Proofs.YtioimhnebjiicaaDoor
open Go.RowKit

/-- A functor: its kind, its number, its arguments. -/
structure F where
  k : Int
  n : Int
  t : T
deriving DecidableEq

def F.one (f : F) : T := .cons f.k f.n f.t .nil
def F.two (f g : F) : T := .cons f.k f.n f.t (.cons g.k g.n g.t .nil)
abbrev F.val (f : F) (a : Option Addr) (cap : Nat) : Value := .agg #[.int .i64 f.k, .int .i64 f.n, .slice a f.t.len cap]

/-- New memory: blocks from lo on, three cells a tree. -/
def SP (lo : Nat) : Nat → Nat → Prop := fun b o => lo ≤ b ∧ o % 3 = 0

theorem Sl.oth {y : Lay} {S : Nat → Nat → Prop} {w w' : World} {a : Option Addr} {t : T} (h : Sl S w a t) (hS : ∀ b o, S b o → b ≠ y.pb) (ho : Oth y.pb w w') : Sl S w' a t := by
  refine ⟨h.1, ?_⟩
  have h2 := h.2
  cases a with
  | none => exact h2
  | some p => exact ⟨h2.1, T.At.mono (fun _ _ h => h) (fun b o h hlt => ho.block b hlt (hS _ _ h)) h2.2⟩

theorem sp_ne {lo b o : Nat} {y : Lay} (hlo : y.pb < lo) (h : SP lo b o) : b ≠ y.pb := by have := h.1; omega
theorem sp_le {lo lo' b o : Nat} (hl : lo' ≤ lo) (h : SP lo b o) : SP lo' b o := ⟨Nat.le_trans hl h.1, h.2⟩

/-- Trees that lie in a world lie in its blocks. -/
theorem T.At.lt {S : Nat → Nat → Prop} {w : World} {t : T} : ∀ {b o : Nat}, t.At S w b o → t.At (fun b o => S b o ∧ b < w.heap.size) w b o := by
  induction t with
  | nil => intro b o _; trivial
  | cons k n kids rest ihk ihr =>
    intro b o ⟨h1, h2, h3, ⟨a, cap, h4, h5, h6⟩, h7⟩
    refine ⟨⟨⟨h1.1, lt_of_cell h2⟩, h1.2⟩, h2, h3, ⟨a, cap, h4, h5, ?_⟩, ihr h7⟩
    cases a with
    | none => exact h6
    | some p => exact ⟨h6.1, ihk h6.2⟩
theorem Sl.lt {S : Nat → Nat → Prop} {w : World} {a : Option Addr} {t : T} (h : Sl S w a t) : Sl (fun b o => S b o ∧ b < w.heap.size) w a t := by
  refine ⟨h.1, ?_⟩
  have h2 := h.2
  cases a with
  | none => exact h2
  | some p => exact ⟨h2.1, h2.2.lt⟩

theorem Sl.weaken {S S' : Nat → Nat → Prop} {w : World} {a : Option Addr} {t : T} (h : Sl S w a t) (hl : ∀ b o, S b o → S' b o) : Sl S' w a t := by
  refine ⟨h.1, ?_⟩
  have h2 := h.2
  cases a with
  | none => exact h2
  | some p => exact ⟨h2.1, T.At.mono hl (fun _ _ _ _ => rfl) h2.2⟩

theorem sl_one {S : Nat → Nat → Prop} {w : World} {nb : Nat} {k n : Int} {a : Option Addr} {t : T} {cap : Nat} (hp : w.heap[nb]? = some (.cells #[.int .i64 k, .int .i64 n, .slice a t.len cap] 24 (0, 0)))
    (hb : S nb 0) (hs : Sl S w a t) : Sl S w (some ⟨nb, 0, none⟩) (.cons k n t .nil) := by
  refine ⟨by simp [T.len], Or.inr rfl, ⟨hb, by simp [World.frozen?, hp], by simp [World.frozen?, hp]⟩, by simp [World.cell?, hp], by simp [World.cell?, hp], ⟨a, cap, by simp [World.cell?, hp], hs.1, hs.2⟩, trivial⟩

theorem sl_two {S : Nat → Nat → Prop} {w : World} {nb : Nat} {k n k' n' : Int} {a a' : Option Addr} {t t' : T} {cap cap' : Nat} (hp : w.heap[nb]? = some (.cells #[.int .i64 k, .int .i64 n, .slice a t.len cap, .int .i64 k', .int .i64 n', .slice a' t'.len cap'] 24 (0, 0)))
    (hb : S nb 0) (hb3 : S nb 3) (hs : Sl S w a t) (hs' : Sl S w a' t') : Sl S w (some ⟨nb, 0, none⟩) (.cons k n t (.cons k' n' t' .nil)) := by
  refine ⟨by simp [T.len], Or.inr rfl, ⟨hb, by simp [World.frozen?, hp], by simp [World.frozen?, hp]⟩, by simp [World.cell?, hp], by simp [World.cell?, hp], ⟨a, cap, by simp [World.cell?, hp], hs.1, hs.2⟩, ⟨by simpa using hb3, by simp [World.frozen?, hp], by simp [World.frozen?, hp]⟩, by simp [World.cell?, hp], by simp [World.cell?, hp], ⟨a', cap', by simp [World.cell?, hp], hs'.1, hs'.2⟩, trivial⟩

def num (l : List UInt8) : Option (Int × List UInt8) := if isD (hdc (pk l)) = true then some (dig 0 (pk l)) else none

structure FunYes (y : Lay) (S : Nat → Nat → Prop) (w : World) (f : F) (r : List UInt8) (e : Ending) (w' : World) (a : Option Addr) (cap q' : Nat) : Prop where
  e : e = .returned (f.val a cap)
  sl : Sl S w' a f.t
  le : q' ≤ y.s.size
  txt : y.txt q' = r
  st : PS w' y q'
  oth : Oth y.pb w w'

/-- What a function of the parser that reads a functor does. -/
def FunPost (y : Lay) (S : Nat → Nat → Prop) (w : World) (m : Option (F × List UInt8)) (e : Ending) (w' : World) : Prop :=
  match m with
  | none => e = .panicked errPanic ∧ Oth y.pb w w'
  | some (f, r) => ∃ a cap q', FunYes y S w f r e w' a cap q'


theorem FunPost.weaken {y : Lay} {S S' : Nat → Nat → Prop} {w : World} {m : Option (F × List UInt8)} {e : Ending} {w' : World} (h : FunPost y S w m e w') (hl : ∀ b o, S b o → S' b o) : FunPost y S' w m e w' := by
  cases m with
  | none => exact h
  | some p =>
    obtain ⟨a, cap, q', h⟩ := h
    exact ⟨a, cap, q', h.e, h.sl.weaken hl, h.le, h.txt, h.st, h.oth⟩

/-- What was done before the call is done, too. -/
theorem FunPost.after {y : Lay} {S : Nat → Nat → Prop} {w0 w : World} {m : Option (F × List UInt8)} {e : Ending} {w' : World} (h : FunPost y S w m e w') (ho : Oth y.pb w0 w) : FunPost y S w0 m e w' := by
  cases m with
  | none => exact ⟨h.1, ho.trans h.2⟩
  | some p =>
    obtain ⟨a, cap, q', h⟩ := h
    exact ⟨a, cap, q', h.e, h.sl, h.le, h.txt, h.st, ho.trans h.oth⟩
end Go.Proofs.YtioimhnebjiicaaDoor
