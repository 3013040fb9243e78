/- Proved here: contracts of the walk to BisimGraphs: values in memory, and the first contracts on them; each under the conditions that its own statement names. -/
import Derived.Test.YtcekilcgpgjooaaGreatDoorG02
import Derived.WalkSpells
import Derived.WalkLawsBesides
import Derived.BigQuiet
import Derived.Deep.RegionHeld3
import Derived.Lib.QuietBelow
import Derived.Maps.AppendAt
import Derived.OwnWalk
import Derived.Deep.LoopGhost
import Derived.Deep.QuietTactic
import Derived.Deep.CutRange
import Derived.BigRegion
set_option maxRecDepth 100000
set_option maxHeartbeats 1600000
namespace Go.Proofs.YtcekilcgpgjooaaGreatDoor
open Go.RowKit
inductive V where
 | nil
 | cons (n : Int) (kids : V) (ws : List Int) (rest : V)
deriving DecidableEq
def V.len : V → Nat
 | .nil => 0
 | .cons _ _ _ r => r.len + 1
def V.drop : V → Nat → V
 | t, 0 => t
 | .nil, _ + 1 => .nil
 | .cons _ _ _ r, i + 1 => r.drop i
@[simp] theorem V.drop_zero (t : V) : t.drop 0 = t := by cases t <;> rfl
theorem V.drop_len (t : V) (i : Nat) : (t.drop i).len = t.len - i := by
 induction t generalizing i with
 | nil => cases i <;> simp [V.drop, V.len]
 | cons n kids ws rest _ ihr => cases i with
  | zero => simp [V.drop]
  | succ i => simp [V.drop, V.len, ihr]
theorem V.drop_lt {t : V} {i : Nat} (h : i < t.len) : ∃ n kids ws rest, t.drop i = .cons n kids ws rest ∧ t.drop (i + 1) = rest := by
 induction t generalizing i with
 | nil => simp [V.len] at h
 | cons n kids ws rest _ ihr => cases i with
  | zero => exact ⟨n, kids, ws, rest, rfl, by simp [V.drop]⟩
  | succ i => exact ihr (by simpa [V.len] using h)
theorem V.drop_all (t : V) : t.drop t.len = .nil := by
 induction t with
 | nil => rfl
 | cons n kids ws rest _ ihr => simpa [V.len, V.drop] using ihr
def V.Elems (Q : V → Prop) (t : V) : Prop := ∀ i n kids ws rest, t.drop i = .cons n kids ws rest → Q kids
theorem V.ind {Q : V → Prop} (h : ∀ t, t.Elems Q → Q t) : ∀ t, Q t := by
 have key : ∀ t : V, Q t ∧ t.Elems Q := by
  intro t
  induction t with
  | nil =>
   have e : (V.nil).Elems Q := by
    intro i n kids ws rest hd
    cases i <;> simp [V.drop] at hd
   exact ⟨h _ e, e⟩
  | cons n kids ws rest ihk ihr =>
   have e : (V.cons n kids ws rest).Elems Q := by
    intro i n' kids' ws' rest' hd
    cases i with
    | zero => simp only [V.drop, V.cons.injEq] at hd; obtain ⟨_, rfl, _, _⟩ := hd; exact ihk.1
    | succ i => exact ihr.2 i n' kids' ws' rest' hd
   exact ⟨h _ e, e⟩
 exact fun t => (key t).1
def Ints (S : Nat → Prop) (w : World) (a : Option Addr) (ws : List Int) : Prop :=
 ws.length ≤ 9223372036854775807 ∧ (ws = [] ∨ ∃ b o, a = some ⟨b, o, none⟩ ∧ S b ∧ ∀ i x, ws[i]? = some x → w.cell? ⟨b, o + i, none⟩ = some (.int .i64 x))
def V.At (S : Nat → Prop) (w : World) : V → Nat → Nat → Prop
 | .nil, _, _ => True
 | .cons n kids ws rest, b, o => S b ∧ w.cell? ⟨b, o, none⟩ = some (.int .i64 n) ∧
     (∃ a cap, w.cell? ⟨b, o + 1, none⟩ = some (.slice a kids.len cap) ∧ kids.len ≤ 9223372036854775807 ∧
      match a with
      | none => kids = .nil
      | some p => (kids = .nil ∨ p.spot = none) ∧ kids.At S w p.block p.off) ∧
     (∃ a cap, w.cell? ⟨b, o + 2, none⟩ = some (.slice a ws.length cap) ∧ Ints S w a ws) ∧ rest.At S w b (o + 3)
def Vl (S : Nat → Prop) (w : World) (a : Option Addr) (t : V) : Prop :=
 t.len ≤ 9223372036854775807 ∧ match a with
  | none => t = .nil
  | some p => (t = .nil ∨ p.spot = none) ∧ t.At S w p.block p.off
theorem Ints.mono {S S' : Nat → Prop} {w w' : World} (hS : ∀ b, S b → S' b) (h : ∀ b, S b → b < w.heap.size → w'.heap[b]? = w.heap[b]?) {a : Option Addr} {ws : List Int} (hi : Ints S w a ws) : Ints S' w' a ws := by
 refine ⟨hi.1, ?_⟩
 rcases hi.2 with h1 | ⟨b, o, h1, h2, h3⟩
 ·exact Or.inl h1
 ·refine Or.inr ⟨b, o, h1, hS _ h2, fun i x hx => ?_⟩
  have hc := h3 i x hx
  rw [World.cell?_of_block (w := w) (a := ⟨b, o + i, none⟩) (h b h2 (lt_of_cell hc))]
  exact hc
theorem V.At.mono {S S' : Nat → Prop} {w w' : World} (hS : ∀ b, S b → S' b)
    (h : ∀ b, S b → b < w.heap.size → w'.heap[b]? = w.heap[b]?) {t : V} : ∀ {b o : Nat}, t.At S w b o → t.At S' w' b o := by
 induction t with
 | nil => intro b o _; trivial
 | cons n kids ws rest ihk ihr =>
  intro b o ⟨h1, h2, ⟨a, cap, h4, h5, h6⟩, ⟨a', cap', h7, h8⟩, h9⟩
  have hb := h b h1 (lt_of_cell h2)
  refine ⟨hS _ h1, ?_, ⟨a, cap, ?_, h5, ?_⟩, ⟨a', cap', ?_, h8.mono hS h⟩, ihr h9⟩
  ·rw [World.cell?_of_block (w := w) (a := ⟨b, o, none⟩) hb]; exact h2
  ·rw [World.cell?_of_block (w := w) (a := ⟨b, o + 1, none⟩) hb]; exact h4
  ·cases a with
   | none => exact h6
   | some p => exact ⟨h6.1, ihk h6.2⟩
  ·rw [World.cell?_of_block (w := w) (a := ⟨b, o + 2, none⟩) hb]; exact h7
theorem Vl.mono {S S' : Nat → Prop} {w w' : World} (hS : ∀ b, S b → S' b) (h : ∀ b, S b → b < w.heap.size → w'.heap[b]? = w.heap[b]?) {a : Option Addr} {t : V} (hv : Vl S w a t) : Vl S' w' a t := by
 refine ⟨hv.1, ?_⟩
 have h2 := hv.2
 cases a with
 | none => exact h2
 | some p => exact ⟨h2.1, h2.2.mono hS h⟩
theorem Vl.below {S : Nat → Prop} {w w' : World} (hb : Below w.heap.size w w') {t : V} {a : Option Addr} (h : Vl S w a t) : Vl S w' a t :=
 h.mono (fun _ h => h) (fun b _ hlt => hb.block b hlt)
theorem Ints.below {S : Nat → Prop} {w w' : World} (hb : Below w.heap.size w w') {ws : List Int} {a : Option Addr} (h : Ints S w a ws) : Ints S w' a ws :=
 h.mono (fun _ h => h) (fun b _ hlt => hb.block b hlt)
theorem Vl.weaken {S S' : Nat → Prop} {w : World} {t : V} {a : Option Addr} (h : Vl S w a t) (hS : ∀ b, S b → S' b) : Vl S' w a t := h.mono hS (fun _ _ _ => rfl)
theorem Ints.weaken {S S' : Nat → Prop} {w : World} {ws : List Int} {a : Option Addr} (h : Ints S w a ws) (hS : ∀ b, S b → S' b) : Ints S' w a ws := h.mono hS (fun _ _ _ => rfl)
theorem V.At.drop {S : Nat → Prop} {w : World} {t : V} : ∀ {b o : Nat}, t.At S w b o → ∀ i, (t.drop i).At S w b (o + 3 * i) := by
 induction t with
 | nil => intro b o _ i; cases i <;> exact trivial
 | cons n kids ws rest _ ihr =>
  intro b o h i
  cases i with
  | zero => exact h
  | succ i =>
   have := ihr h.2.2.2.2 i
   rw [show o + 3 * (i + 1) = o + 3 + 3 * i by omega]
   exact this
theorem V.At.get {S : Nat → Prop} {w : World} {t : V} {b o i : Nat} (h : t.At S w b o) {n : Int} {kids : V} {ws : List Int} {rest : V} (hd : t.drop i = .cons n kids ws rest) :
    w.cell? ⟨b, o + i * 3, none⟩ = some (.int .i64 n) ∧
     (∃ a cap, w.cell? ⟨b, o + i * 3 + 1, none⟩ = some (.slice a kids.len cap) ∧ Vl S w a kids) ∧
     ∃ a cap, w.cell? ⟨b, o + i * 3 + 2, none⟩ = some (.slice a ws.length cap) ∧ Ints S w a ws := by
 have := h.drop i
 rw [hd, Nat.mul_comm] at this
 obtain ⟨_, h2, ⟨a, cap, h4, h5, h6⟩, ⟨a', cap', h7, h8⟩, _⟩ := this
 exact ⟨h2, ⟨a, cap, h4, h5, h6⟩, a', cap', h7, h8⟩
theorem Vl.addr {S : Nat → Prop} {w : World} {a : Option Addr} {t : V} (h : Vl S w a t) {i : Nat} (hi : i < t.len) : ∃ b o, a = some ⟨b, o, none⟩ ∧ t.At S w b o := by
 have h2 := h.2
 cases a with
 | none => subst h2; simp [V.len] at hi
 | some p =>
  obtain ⟨b, o, s⟩ := p
  obtain ⟨h3, h4⟩ := h2
  rcases h3 with h3 | h3
  ·subst h3; simp [V.len] at hi
  ·simp only at h3
   subst h3
   exact ⟨b, o, rfl, h4⟩
theorem Ints.get {S : Nat → Prop} {w : World} {a : Option Addr} {ws : List Int} (h : Ints S w a ws) {i : Nat} (hi : i < ws.length) : ∃ b o, a = some ⟨b, o, none⟩ ∧ w.cell? ⟨b, o + i, none⟩ = some (.int .i64 ws[i]) := by
 rcases h.2 with h1 | ⟨b, o, h1, _, h3⟩
 ·subst h1; simp at hi
 ·exact ⟨b, o, h1, h3 i _ (List.getElem?_eq_getElem hi)⟩
abbrev Vv (n : Int) (a : Option Addr) (len cap : Nat) (a' : Option Addr) (len' cap' : Nat) : Value := .agg #[.int .i64 n, .slice a len cap, .slice a' len' cap']
def cmpI (a b : Int) : Int := if a < b then -1 else if b < a then 1 else 0
def cmpL : List Int → List Int → Int
 | [], [] => 0
 | [], _ :: _ => -1
 | _ :: _, [] => 1
 | x :: xs, y :: ys => if cmpI x y ≠ 0 then cmpI x y else cmpL xs ys
def or3 (a b c : Int) : Int := if a ≠ 0 then a else if b ≠ 0 then b else c
def V.cmp : V → V → Int
 | .nil, .nil => 0
 | .nil, .cons _ _ _ _ => -1
 | .cons _ _ _ _, .nil => 1
 | .cons n k ws r, .cons n' k' ws' r' => if or3 (cmpI n n') (k.cmp k') (cmpL ws ws') ≠ 0 then or3 (cmpI n n') (k.cmp k') (cmpL ws ws') else r.cmp r'
theorem cmpI_lt {a b : Int} (h : a < b) : cmpI a b = -1 := by unfold cmpI; rw [if_pos h]
theorem cmpI_gt {a b : Int} (h : b < a) : cmpI a b = 1 := by unfold cmpI; rw [if_neg (by omega), if_pos h]
theorem cmpI_self (a : Int) : cmpI a a = 0 := by unfold cmpI; rw [if_neg (by omega), if_neg (by omega)]
theorem V.cmp_len {t u : V} (h : t = .nil ∨ u = .nil) : t.cmp u = cmpI t.len u.len := by
 rcases h with rfl | rfl
 ·cases u with
  | nil => rfl
  | cons n k ws r => exact (cmpI_lt (by show (0 : Int) < ((r.len + 1 : Nat) : Int); omega)).symm
 ·cases t with
  | nil => rfl
  | cons n k ws r => exact (cmpI_gt (by show (0 : Int) < ((r.len + 1 : Nat) : Int); omega)).symm
theorem cmpL_len {t u : List Int} (h : t = [] ∨ u = []) : cmpL t u = cmpI t.length u.length := by
 rcases h with rfl | rfl
 ·cases u with
  | nil => rfl
  | cons n r => exact (cmpI_lt (by show (0 : Int) < ((r.length + 1 : Nat) : Int); omega)).symm
 ·cases t with
  | nil => rfl
  | cons n r => exact (cmpI_gt (by show (0 : Int) < ((r.length + 1 : Nat) : Int); omega)).symm
theorem cmpI_bd (a b : Int) : -1 ≤ cmpI a b ∧ cmpI a b ≤ 1 := by unfold cmpI; split <;> (try split) <;> omega
theorem cmpI_zero {a b : Int} : cmpI a b = 0 ↔ a = b := by unfold cmpI; split <;> (try split) <;> omega
end Go.Proofs.YtcekilcgpgjooaaGreatDoor
namespace Go.Proofs.YtcekilcgpgjooaaGreatDoor
open Go.RowKit
open Go.Lib (hid)
theorem Tryz.cells58 : Tryz.prog.cellsOf 58 = 3 := by kernel_rfl
theorem Tryz.cells25 : Tryz.prog.cellsOf 25 = 1 := by kernel_rfl
theorem Tryz.cells45 : Tryz.prog.cellsOf 45 = 1 := by kernel_rfl
theorem Tryz.cells27 : Tryz.prog.cellsOf 27 = 4 := by kernel_rfl
theorem isNaN_any (a : Int) (w : World) : Calls Tryz.prog 113 #[.int .i64 a] w fun e w' => e = .returned (.bool false) ∧ w = w' := by
 go_enter Tryz.func113, Tryz.ntmps113
 go_wp2_with fail
 go_ret
 exact ⟨by simp, rfl⟩
theorem cmpI_any (a b : Int) (w : World) : Calls Tryz.prog 79 #[.int .i64 a, .int .i64 b] w fun e w' => e = .returned (.int .i64 (cmpI a b)) ∧ w = w' := by
 by_cases h1 : a < b
 ·have HC := hid (cmpI_lt h1)
  go_enter Tryz.func79, Tryz.ntmps79
  go_wp2_with fail
  refine (isNaN_any _ _).mono ?_
  rintro e w' ⟨rfl, rfl⟩
  go_wp2_with fail
  refine (isNaN_any _ _).mono ?_
  rintro e w' ⟨rfl, rfl⟩
  go_wp2_with fail
  go_ret
  exact ⟨by rw [HC.out]; rfl, rfl⟩
 ·by_cases h2 : b < a
  ·have HC := hid (cmpI_gt h2)
   go_enter Tryz.func79, Tryz.ntmps79
   go_wp2_with fail
   refine (isNaN_any _ _).mono ?_
   rintro e w' ⟨rfl, rfl⟩
   go_wp2_with fail
   refine (isNaN_any _ _).mono ?_
   rintro e w' ⟨rfl, rfl⟩
   go_wp2_with fail
   go_ret
   exact ⟨by rw [HC.out]; rfl, rfl⟩
  ·obtain rfl : a = b := by omega
   have HC := hid (cmpI_self a)
   clear h1 h2
   go_enter Tryz.func79, Tryz.ntmps79
   go_wp2_with fail
   refine (isNaN_any _ _).mono ?_
   rintro e w' ⟨rfl, rfl⟩
   go_wp2_with fail
   refine (isNaN_any _ _).mono ?_
   rintro e w' ⟨rfl, rfl⟩
   go_wp2_with fail
   go_ret
   exact ⟨by rw [HC.out]; rfl, rfl⟩
theorem orderRef_any (a b : Int) (w : World) : Calls Tryz.prog 162 #[.int .i64 a, .int .i64 b] w fun e w' => e = .returned (.int .i64 (cmpI a b)) ∧ w = w' := by
 by_cases h1 : a < b
 ·have HC := hid (cmpI_lt h1)
  go_enter Tryz.func162, Tryz.ntmps162
  go_wp2_with fail
  go_ret
  exact ⟨by rw [HC.out]; rfl, rfl⟩
 ·by_cases h2 : b < a
  ·have HC := hid (cmpI_gt h2)
   go_enter Tryz.func162, Tryz.ntmps162
   go_wp2_with fail
   go_ret
   exact ⟨by rw [HC.out]; rfl, rfl⟩
  ·obtain rfl : a = b := by omega
   have HC := hid (cmpI_self a)
   clear h1 h2
   go_enter Tryz.func162, Tryz.ntmps162
   go_wp2_with fail
   go_ret
   exact ⟨by rw [HC.out]; rfl, rfl⟩
theorem or3_any (a b c : Int) (g o cap : Nat) (w : World) (h0 : w.cell? ⟨g, o, none⟩ = some (.int .i64 a)) (h1 : w.cell? ⟨g, o + 1, none⟩ = some (.int .i64 b)) (h2 : w.cell? ⟨g, o + 2, none⟩ = some (.int .i64 c)) :
    Calls Tryz.prog 78 #[.slice (some ⟨g, o, none⟩) 3 cap] w fun e w' => e = .returned (.int .i64 (or3 a b c)) ∧ w = w' := by
 go_enter Tryz.func78, Tryz.ntmps78
 go_wp2_with fail
 go_loop [5, 8] (fun _ i => i = .int .i64 ((0 : Nat) : Int) ∨ (i = .int .i64 ((1 : Nat) : Int) ∧ a = 0) ∨ (i = .int .i64 ((2 : Nat) : Int) ∧ a = 0 ∧ b = 0) ∨ (i = .int .i64 ((3 : Nat) : Int) ∧ a = 0 ∧ b = 0 ∧ c = 0)) (fun _ i => 3 - (intOf i).toNat)
 case atStart => exact Or.inl rfl
 case round =>
  rcases hrel with rfl | ⟨rfl, ha⟩ | ⟨rfl, ha, hb⟩ | ⟨rfl, ha, hb, hc⟩
  ·by_cases hz : a = 0
   ·have hz' : (a != 0) = false := by simp [hz]
    have HZ := hid hz
    clear hz
    go_wp2_with fail
    go_round
    case rel => exact Or.inr (Or.inl ⟨by go_num, HZ.out⟩)
    case measure => simp [intOf]
   ·have hz' : (a != 0) = true := by simp [hz]
    have HR := hid (show or3 a b c = a by unfold or3; rw [if_pos hz])
    clear hz
    go_wp2_with fail
    go_ret
    exact ⟨by rw [HR.out]; rfl, rfl⟩
  ·subst ha
   by_cases hz : b = 0
   ·have hz' : (b != 0) = false := by simp [hz]
    have HZ := hid hz
    clear hz
    go_wp2_with fail
    go_round
    case rel => exact Or.inr (Or.inr (Or.inl ⟨by go_num, trivial, HZ.out⟩))
    case measure => simp [intOf]
   ·have hz' : (b != 0) = true := by simp [hz]
    have HR := hid (show or3 0 b c = b by unfold or3; rw [if_neg (by omega), if_pos hz])
    clear hz
    go_wp2_with fail
    go_ret
    exact ⟨by rw [HR.out]; rfl, rfl⟩
  ·subst ha hb
   by_cases hz : c = 0
   ·have hz' : (c != 0) = false := by simp [hz]
    have HZ := hid hz
    clear hz
    go_wp2_with fail
    go_round
    case rel => exact Or.inr (Or.inr (Or.inr ⟨by go_num, trivial, trivial, HZ.out⟩))
    case measure => simp [intOf]
   ·have hz' : (c != 0) = true := by simp [hz]
    have HR := hid (show or3 0 0 c = c by unfold or3; rw [if_neg (by omega), if_neg (by omega)])
    clear hz
    go_wp2_with fail
    go_ret
    exact ⟨by rw [HR.out]; rfl, rfl⟩
  ·subst ha hb hc
   go_wp2_with fail
   go_ret
   exact ⟨rfl, rfl⟩
def getW (ws : List Int) (i : Nat) : Int := ws.getD i 0
theorem getW_lt {ws : List Int} {i : Nat} (h : i < ws.length) : ws[i] = getW ws i := by simp [getW, h]
theorem sumInt_any (S : Nat → Prop) (c : Option Addr) (cp : Nat) (ws : List Int) (w : World) (hi : Ints S w c ws) (h0 : ∀ i, i < ws.length → 0 ≤ getW ws i) (hs : sumN (getW ws) ws.length ≤ 4611686018427387904) (hn : ws.length ≤ 1000000) :
    Calls Tryz.prog 101 #[.slice c ws.length cp] w fun e w' => e = .returned (.int .i64 (sumN (getW ws) ws.length)) ∧ w' = w := by
 have HS := hid (fun k (hk : k ≤ ws.length) => sumN_mono h0 hk)
 have HC := hid (fun k (hk : k < ws.length) => hi.get hk)
 have H0 := hid h0
 obtain ⟨n, hnn⟩ : ∃ n, n = ws.length := ⟨_, rfl⟩
 have HN := hid hnn
 rw [← hnn] at HS hs hn
 rw [← hnn]
 clear hi h0 hnn
 go_enter Tryz.func101, Tryz.ntmps101
 go_wp2_with fail
 go_loopw [3, 8] (fun v i wr => ∃ k : Nat, k ≤ n ∧ i = .int .i64 k ∧ v = .int .i64 (sumN (getW ws) k) ∧ wr = w) (fun _ i _ => n - (intOf i).toNat)
 case atStart => exact ⟨0, Nat.zero_le _, rfl, rfl, by first | trivial | rfl⟩
 case round =>
  obtain ⟨k, hk, rfl, rfl, rfl⟩ := hrel
  by_cases hlt : k < n
  ·obtain ⟨b, o, rfl, hc⟩ := HC.out k (by have := HN.out; omega)
   rw [getW_lt] at hc
   obtain ⟨x, hx⟩ : ∃ x, x = getW ws k := ⟨_, rfl⟩
   obtain ⟨s, hsx⟩ : ∃ s, s = sumN (getW ws) k := ⟨_, rfl⟩
   have hb1 : 0 ≤ s ∧ s ≤ sumN (getW ws) n := by rw [hsx]; exact HS.out k hk
   have hb2 : s + x ≤ sumN (getW ws) n := by rw [hsx, hx]; exact (HS.out (k + 1) hlt).2
   have hb3 : 0 ≤ x := by rw [hx]; exact H0.out k (by have := HN.out; omega)
   have HX := hid (show s + x = sumN (getW ws) (k + 1) by rw [hsx, hx]; rfl)
   rw [← hx] at hc
   rw [← hsx]
   clear hx hsx
   go_wp2_with fail
   go_roundw
   case rel => exact ⟨k + 1, by omega, by go_num, by rw [← HX.out], by first | trivial | rfl⟩
   case measure => simp [intOf]; omega
  ·have hkn : k = n := by omega
   subst hkn
   go_wp2_with fail
   go_ret
   exact ⟨rfl, rfl⟩
theorem timesW_any (S : Nat → Prop) (c : Option Addr) (cp : Nat) (ws : List Int) (fac : Int) (w : World) (hi : Ints S w c ws) (h0 : ∀ i, i < ws.length → 0 ≤ getW ws i * fac ∧ getW ws i * fac ≤ 4611686018427387904) (hn : ws.length ≤ 1000000) :
    Calls Tryz.prog 100 #[.slice c ws.length cp, .int .i64 fac] w fun e w' => e = .returned (.slice (some ⟨w.heap.size, 0, none⟩) ws.length ws.length) ∧
     w'.rowIs w.heap.size 2 ws.length (fun i => .int .i64 (getW ws i * fac)) ∧ Below w.heap.size w w' ∧ w'.heap.size = w.heap.size + 1 := by
 have HC := hid (fun x k (hk : k < ws.length) (hb : Below w.heap.size w x) => (hi.below hb).get hk)
 have H0 := hid h0
 obtain ⟨n, hnn⟩ : ∃ n, n = ws.length := ⟨_, rfl⟩
 have HN := hid hnn
 rw [← hnn] at hn
 rw [← hnn]
 have hmk := run_make_row' (P := Tryz.prog) 136 2 (.int .i64 0) 8 Tryz.underlying136 infoI64 rfl .i64 .i64 n (by omega) (by omega)
 clear hi h0 hnn
 obtain ⟨W, hW⟩ : ∃ W : World, W = w.alloc (Obj.cells (madeCells #[Value.int .i64 0] n) 2) := ⟨_, rfl⟩
 have hWb : Below w.heap.size w W := by rw [hW]; exact ba _ _
 have hWs : W.heap.size = w.heap.size + 1 := by rw [hW]; simp
 have hWr : W.rowIs w.heap.size 2 n (fun _ => .int .i64 0) := by rw [hW]; exact World.rowIs_made _ _ _ _
 go_enter Tryz.func100, Tryz.ntmps100
 go_wp2_with fail
 rw [← hW]
 clear hW hmk
 have HWs := hid hWs
 clear hWs
 go_loopw [13] (fun i wr => ∃ k : Nat, k ≤ n ∧ i = .int .i64 k ∧ wr.rowIs w.heap.size 2 n (fun j => .int .i64 (if j < k then getW ws j * fac else 0)) ∧ Below w.heap.size w wr ∧ wr.heap.size = W.heap.size) (fun i _ => n - (intOf i).toNat)
 case atStart => exact ⟨0, Nat.zero_le _, rfl, hWr.congr (fun _ _ => by simp), hWb, rfl⟩
 case round =>
  obtain ⟨k, hk, rfl, hrow, hb, hsz⟩ := hrel
  have HSZ := hid hsz
  clear hsz
  by_cases hlt : k < n
  ·obtain ⟨b, o, rfl, hc⟩ := HC.out wr k (by have := HN.out; omega) hb
   rw [getW_lt] at hc
   obtain ⟨x, hx⟩ : ∃ x, x = getW ws k := ⟨_, rfl⟩
   have hx0 := H0.out k (by have := HN.out; omega)
   rw [← hx] at hc hx0
   obtain ⟨p, hp⟩ : ∃ p, p = x * fac := ⟨_, rfl⟩
   have HP := hid hp
   have hd := hrow.cell hlt
   have hf := hrow.frozen k
   have hwr : wrap64 (x * fac) = x * fac := IntWalk.wrap64_in _ ⟨by omega, by omega⟩
   have HX := hid hx
   clear hx hp
   go_wp2_with fail
   go_roundw
   case rel =>
    refine ⟨k + 1, by omega, by go_num, (rowI_set hrow k (x * fac)).congr (fun j hj => ?_), hb.setCell (by simp) _, by simpa [World.setCell] using HSZ.out⟩
    by_cases e : j = k
    ·subst e; simp [HX.out]
    ·by_cases e2 : j < k
     ·simp [e, e2, show j < k + 1 by omega]
     ·simp [e, e2, show ¬ j < k + 1 by omega]
   case measure => simp [intOf]; omega
  ·have hkn : k = n := by omega
   subst hkn
   go_wp2_with fail
   go_ret
   exact ⟨rfl, hrow.congr (fun j hj => by simp [hj]), hb, by rw [HSZ.out, HWs.out]⟩
end Go.Proofs.YtcekilcgpgjooaaGreatDoor
namespace Go.Proofs.YtcekilcgpgjooaaGreatDoor
open Go Go.RowKit
theorem cell_of1 {u : World} {b : Nat} {x : Value} {t : TypeId} {fz : Nat × Nat} (h : u.heap[b]? = some (.cells #[x] t fz)) : u.cell? ⟨b, 0, none⟩ = some x := by
 simp [World.cell?, h]
theorem belowN {B n : Nat} {a w : World} (h : Below B a w) : Below B a (w.drewN n) := ⟨h.os, h.tape, h.output, h.size, h.block⟩
theorem callAt {P : Program} {k : Nat} {args args' : Array Value} {w : World} {Q : Ending → World → Prop} (h : args = args') (hc : Calls P k args' w Q) : Calls P k args w Q := by rw [h]; exact hc
end Go.Proofs.YtcekilcgpgjooaaGreatDoor
