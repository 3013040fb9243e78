/-
  Proved here: a step towards the statements of chapter 1 (functors): what one of its functions does at each input.
-/
import Derived.Test.YtioimhnebjiicaaDoorParB
namespace Go.Proofs.YtioimhnebjiicaaDoor
open Go.RowKit

def isD (c : Int) : Bool := decide (48 ≤ c) && decide (c ≤ 57)

set_option maxHeartbeats 400000 in
theorem isDigit_any (c : Int) (w : World) : Calls Tryd.prog 70 #[.int .u8 c] w fun e w' => e = .returned (.bool (isD c)) ∧ w = w' := by
  by_cases h1 : 48 ≤ c
  · by_cases h2 : c ≤ 57
    · have hf : isD c = true := by simp [isD, h1, h2]
      have HF := Lib.hid hf
      clear hf
      go_enter Tryd.func70, Tryd.ntmps70
      go_wp2
      go_ret
      exact ⟨by rw [HF.out]; rfl, rfl⟩
    · have hf : isD c = false := by simp [isD, h2]
      have HF := Lib.hid hf
      clear hf
      go_enter Tryd.func70, Tryd.ntmps70
      go_wp2
      go_ret
      exact ⟨by rw [HF.out]; rfl, rfl⟩
  · have hf : isD c = false := by simp [isD, h1]
    have HF := Lib.hid hf
    clear hf
    go_enter Tryd.func70, Tryd.ntmps70
    go_wp2
    go_ret
    exact ⟨by rw [HF.out]; rfl, rfl⟩

abbrev errPanic : List PanicEntry := [{ v := .iface 29 (.int .i64 11), recovered := false }]

structure TakePost (y : Lay) (q : Nat) (w : World) (e : Ending) (w' : World) : Prop where
  e : e = .returned (.tuple #[])
  st : ∃ q', q' ≤ y.s.size ∧ y.txt q' = pk (y.txt q) ∧ PS w' y (q' + 1)
  oth : Oth y.pb w w'

set_option maxRecDepth 100000 in
set_option maxHeartbeats 800000 in
theorem take_ok (y : Lay) (q : Nat) (c : Int) (w : World) (hq : q ≤ y.s.size) (hs : y.s.size ≤ 50000) (h : PS w y q) (hc : hdc (pk (y.txt q)) = c) :
    Calls Tryd.prog 36 #[y.ptr, .int .u8 c] w (TakePost y q w) := by
  have HC := Lib.hid hc
  clear hc
  go_enter Tryd.func36, Tryd.ntmps36
  go_wp2_with fail
  refine (peek_any y q w hq hs h).mono ?_
  rintro e w1 ⟨rfl, ⟨q1, hq1, htx, hp1⟩, ho, hsz⟩
  have HT := Lib.hid htx
  have HS := Lib.hid hsz
  clear htx hsz
  rw [HC.out]
  have g1 := hp1.c1
  have gf := hp1.f1
  go_wp2_with fail
  go_end0
  exact ⟨rfl, ⟨q1, hq1, HT.out, hp1.set (q' := q1 + 1)⟩, ho.set _ _⟩

set_option maxRecDepth 100000 in
set_option maxHeartbeats 800000 in
theorem take_no (y : Lay) (q : Nat) (c : Int) (w : World) (hq : q ≤ y.s.size) (hs : y.s.size ≤ 50000) (h : PS w y q) (hc : hdc (pk (y.txt q)) ≠ c) :
    Calls Tryd.prog 36 #[y.ptr, .int .u8 c] w fun e w' => e = .panicked errPanic ∧ Oth y.pb w w' := by
  have hc' : (hdc (pk (y.txt q)) != c) = true := by simpa using hc
  clear hc
  go_enter Tryd.func36, Tryd.ntmps36
  go_wp2_with fail
  refine (peek_any y q w hq hs h).mono ?_
  rintro e w1 ⟨rfl, ⟨q1, hq1, htx, hp1⟩, ho, hsz⟩
  clear htx hsz
  go_wp2_with fail
  exact ⟨rfl, rfl, ho⟩
end Go.Proofs.YtioimhnebjiicaaDoor
