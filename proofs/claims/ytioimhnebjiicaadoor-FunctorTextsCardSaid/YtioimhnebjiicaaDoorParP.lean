/-
  Proved here: a step towards the statements of chapter 1 (functors): what one of its functions does at each input.
-/
import Derived.Test.YtioimhnebjiicaaDoorParO
import Derived.Test.YtioimhnebjiicaaDoorChkC
namespace Go.Proofs.YtioimhnebjiicaaDoor
open Go.RowKit

def firstN : Nat → List UInt8 → Option (F × List UInt8)
  | 0, _ => none
  | n + 1, l => firstM (inBrM (exprM (operandM (firstN n)))) l

theorem dig_len (l : List UInt8) : ∀ a, (dig a l).2.length ≤ l.length := by
  induction l with
  | nil => intro a; simp [dig]
  | cons c r ih =>
    intro a
    simp only [dig]
    split
    · have := ih (min (10 * a + ((c.toNat : Int) - 48)) 17); simp only [List.length_cons]; omega
    · simp

theorem num_len {l : List UInt8} {v : Int} {r : List UInt8} (h : num l = some (v, r)) : r.length ≤ l.length := by
  unfold num at h
  split at h
  · have h1 := dig_len (pk l) 0
    have h2 := pk_len l
    simp only [Option.some.injEq] at h
    rw [h] at h1
    simp only at h1
    omega
  · cases h

theorem drop1_len (l : List UInt8) : ((pk l).drop 1).length ≤ l.length := by
  have := pk_len l
  simp only [List.length_drop]
  omega

def LenOk (I : List UInt8 → Option (F × List UInt8)) : Prop := ∀ l f r, I l = some (f, r) → r.length ≤ l.length

theorem len_powM {l : List UInt8} {f g : F} {r : List UInt8} (h : powM l f = some (g, r)) : r.length ≤ l.length := by
  unfold powM at h
  split at h
  · cases hn : num ((pk l).drop 1) with
    | none => rw [hn] at h; cases h
    | some p =>
      rw [hn] at h
      simp only [powR, Option.some.injEq, Prod.mk.injEq] at h
      have h1 := num_len (r := p.2) (by rw [hn])
      have h2 := drop1_len l
      rw [← h.2]
      omega
  · simp only [Option.some.injEq, Prod.mk.injEq] at h
    rw [← h.2]; exact pk_len l

theorem len_operand {I : List UInt8 → Option (F × List UInt8)} (hI : LenOk I) : LenOk (operandM I) := by
  intro l f r h
  unfold operandM at h
  cases hi : I l with
  | none => rw [hi] at h; cases h
  | some p =>
    rw [hi] at h
    have h1 := hI l p.1 p.2 hi
    have h2 := len_powM h
    omega

theorem len_two {k : Int} {f : F} {m : Option (F × List UInt8)} {g : F} {r : List UInt8} (h : twoR k f m = some (g, r)) : ∃ p, m = some p ∧ p.2 = r := by
  cases m with
  | none => cases h
  | some p => simp only [twoR, Option.some.injEq, Prod.mk.injEq] at h; exact ⟨p, rfl, h.2⟩
theorem len_one {k : Int} {m : Option (F × List UInt8)} {g : F} {r : List UInt8} (h : oneR k m = some (g, r)) : ∃ p, m = some p ∧ p.2 = r := by
  cases m with
  | none => cases h
  | some p => simp only [oneR, Option.some.injEq, Prod.mk.injEq] at h; exact ⟨p, rfl, h.2⟩

theorem len_expr {I : List UInt8 → Option (F × List UInt8)} (hI : LenOk I) : LenOk (exprM I) := by
  intro l f r h
  unfold exprM at h
  cases hi : I l with
  | none => rw [hi] at h; cases h
  | some p =>
    rw [hi] at h
    have h1 := hI l p.1 p.2 hi
    simp only [binM] at h
    split at h
    · obtain ⟨p2, h2, h3⟩ := len_two h
      have h4 := hI _ p2.1 p2.2 h2
      have h5 := drop1_len p.2
      rw [← h3]; omega
    · simp only [Option.some.injEq, Prod.mk.injEq] at h
      have := pk_len p.2
      rw [← h.2]; omega

theorem len_inBr {I : List UInt8 → Option (F × List UInt8)} (hI : LenOk I) : LenOk (inBrM I) := by
  intro l f r h
  unfold inBrM at h
  cases hi : I l with
  | none => rw [hi] at h; cases h
  | some p =>
    rw [hi] at h
    have h1 := hI l p.1 p.2 hi
    simp only at h
    split at h
    · simp only [Option.some.injEq, Prod.mk.injEq] at h
      have := drop1_len p.2
      rw [← h.2]; omega
    · cases h

theorem len_first {I : List UInt8 → Option (F × List UInt8)} (hI : LenOk I) : LenOk (firstM I) := by
  intro l f r h
  unfold firstM at h
  have h0 := drop1_len l
  split at h
  · simp only [Option.some.injEq, Prod.mk.injEq] at h; rw [← h.2]; exact h0
  split at h
  · have := hI _ _ _ h; omega
  split at h
  · split at h
    · obtain ⟨p2, h2, h3⟩ := len_one h
      have h4 := hI _ p2.1 p2.2 h2
      have h5 := drop1_len ((pk l).drop 1)
      rw [← h3]; omega
    · cases h
  · cases hn : num l with
    | none => rw [hn] at h; cases h
    | some p =>
      rw [hn] at h
      simp only [Option.some.injEq, Prod.mk.injEq] at h
      have h1 := num_len (r := p.2) (by rw [hn])
      rw [← h.2]; exact h1

theorem len_firstN (n : Nat) : LenOk (firstN n) := by
  induction n with
  | zero => intro l f r h; cases h
  | succ n ih => exact len_first (len_inBr (len_expr (len_operand ih)))

theorem operandN_any (n : Nat) (y : Lay) (hs : y.s.size ≤ 50000) (ih : ∀ q w, q ≤ y.s.size → PS w y q → (y.txt q).length < n → Calls Tryd.prog 69 #[y.ptr] w (FunPost y (SP w.heap.size) w (firstN n (y.txt q)))) (q : Nat) (w : World) (hq : q ≤ y.s.size) (h : PS w y q) (hl : (y.txt q).length < n) :
    Calls Tryd.prog 51 #[y.ptr] w (FunPost y (SP w.heap.size) w (operandM (firstN n) (y.txt q))) :=
  operand_any y q w (firstN n) hs h (fun w1 h1 => ih q w1 hq h1 hl)

theorem exprN_any (n : Nat) (y : Lay) (hs : y.s.size ≤ 50000) (ih : ∀ q w, q ≤ y.s.size → PS w y q → (y.txt q).length < n → Calls Tryd.prog 69 #[y.ptr] w (FunPost y (SP w.heap.size) w (firstN n (y.txt q)))) (q : Nat) (w : World) (hq : q ≤ y.s.size) (h : PS w y q) (hl : (y.txt q).length < n) :
    Calls Tryd.prog 35 #[y.ptr] w (FunPost y (SP w.heap.size) w (exprM (operandM (firstN n)) (y.txt q))) :=
  expr_any y q w (operandM (firstN n)) hq hs h (len_operand (len_firstN n)) (fun q1 w1 h1 h2 h3 => operandN_any n y hs ih q1 w1 h1 h2 (Nat.lt_of_le_of_lt h3 hl))

theorem firstN_any (n : Nat) (y : Lay) (hs : y.s.size ≤ 50000) : ∀ q w, q ≤ y.s.size → PS w y q → (y.txt q).length < n → Calls Tryd.prog 69 #[y.ptr] w (FunPost y (SP w.heap.size) w (firstN n (y.txt q))) := by
  induction n with
  | zero => intro q w _ _ hl; exact absurd hl (Nat.not_lt_zero _)
  | succ n ih =>
    intro q w hq h hl
    exact first_any y q w _ hq hs h (fun q1 w1 h1 h2 h3 => inBr_any y q1 w1 _ hs h2 (fun w2 h4 => exprN_any n y hs ih q1 w2 h1 h4 (by omega)))

/-- What the parser makes of a text: none, or the functor and what is left behind it. -/
def exprT (l : List UInt8) : Option (F × List UInt8) := exprM (operandM (firstN (l.length + 1))) l

theorem expression_any (y : Lay) (hs : y.s.size ≤ 50000) (w : World) (h : PS w y 0) :
    Calls Tryd.prog 35 #[y.ptr] w (FunPost y (SP w.heap.size) w (exprT y.s.data.toList)) := by
  have := exprN_any ((y.txt 0).length + 1) y hs (firstN_any _ y hs) 0 w (Nat.zero_le _) h (Nat.lt_succ_self _)
  simpa [exprT, Lay.txt] using this
end Go.Proofs.YtioimhnebjiicaaDoor
