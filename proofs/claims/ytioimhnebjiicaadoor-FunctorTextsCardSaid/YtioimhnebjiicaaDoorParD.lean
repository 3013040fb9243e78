/-
  Proved here: a step towards the statements of chapter 1 (functors): what one of its functions does at each input.
-/
import Derived.Test.YtioimhnebjiicaaDoorParC
namespace Go.Proofs.YtioimhnebjiicaaDoor
open Go.RowKit

/-- The number that digits make, at most 17, and what is left behind them. -/
def dig (acc : Int) : List UInt8 → Int × List UInt8
  | [] => (acc, [])
  | c :: r => if isD (c.toNat : Int) = true then dig (min (10 * acc + ((c.toNat : Int) - 48)) 17) r else (acc, c :: r)

structure NumPost (y : Lay) (q : Nat) (w : World) (e : Ending) (w' : World) : Prop where
  e : e = .returned (.int .i64 (dig 0 (pk (y.txt q))).1)
  st : ∃ q', q' ≤ y.s.size ∧ y.txt q' = (dig 0 (pk (y.txt q))).2 ∧ PS w' y q'
  oth : Oth y.pb w w'
  size : w'.heap.size = w.heap.size

set_option maxRecDepth 100000 in
set_option maxHeartbeats 800000 in
theorem number_no (y : Lay) (q : Nat) (w : World) (hq : q ≤ y.s.size) (hs : y.s.size ≤ 50000) (h : PS w y q) (hc : isD (hdc (pk (y.txt q))) = false) :
    Calls Tryd.prog 54 #[y.ptr] w fun e w' => e = .panicked errPanic ∧ Oth y.pb w w' := by
  have HC := Lib.hid hc
  clear hc
  go_enter Tryd.func54, Tryd.ntmps54
  go_wp2_with fail
  refine (peek_any y q w hq hs h).mono ?_
  rintro e w1 ⟨rfl, ⟨q1, hq1, htx, hp1⟩, ho, hsz⟩
  clear htx hsz
  go_wp2_with fail
  refine (isDigit_any _ _).mono ?_
  rintro e w2 ⟨rfl, rfl⟩
  rw [HC.out]
  go_wp2_with fail
  exact ⟨rfl, rfl, ho⟩

set_option maxRecDepth 100000 in
set_option maxHeartbeats 1600000 in
theorem number_ok (y : Lay) (q : Nat) (w : World) (hq : q ≤ y.s.size) (hs : y.s.size ≤ 50000) (h : PS w y q) (hc : isD (hdc (pk (y.txt q))) = true) :
    Calls Tryd.prog 54 #[y.ptr] w (NumPost y q w) := by
  have HC := Lib.hid hc
  clear hc
  go_enter Tryd.func54, Tryd.ntmps54
  go_wp2_with fail
  refine (peek_any y q w hq hs h).mono ?_
  rintro e w1 ⟨rfl, ⟨q1, hq1, htx, hp1⟩, ho, hsz⟩
  have HT := Lib.hid htx
  have HS := Lib.hid hsz
  clear htx hsz
  go_wp2_with fail
  refine (isDigit_any _ _).mono ?_
  rintro e w2 ⟨rfl, rfl⟩
  rw [HC.out]
  go_wp2_with fail
  go_loopg [3] (y.s.size - q1) (fun gk v wr => ∃ j : Nat, ∃ n : Int, j + gk = y.s.size ∧ v = .int .i64 n ∧ 0 ≤ n ∧ n ≤ 17 ∧ dig n (y.txt j) = dig 0 (pk (y.txt q)) ∧ PS wr y j ∧ Oth y.pb w wr ∧ wr.heap.size = w.heap.size)
  case atStart => exact ⟨q1, 0, by omega, rfl, by omega, by omega, by rw [HT.out], hp1, ho, HS.out⟩
  case round =>
    obtain ⟨j, n, hj, rfl, hn0, hn1, hpk, hps, ho, hsz⟩ := hrel
    have HPK := Lib.hid hpk
    have HSZ := Lib.hid hsz
    have HJ := Lib.hid hj
    have hj1 : j ≤ y.s.size := by omega
    clear hpk hsz hj
    have g0 := hps.c0
    have g1 := hps.c1
    have gf := hps.f1
    have HI := Lib.hid isDigit_any
    by_cases hlt : j < y.s.size
    · have hlt' : decide ((j : Int) < (y.s.size : Int)) = true := by simpa using hlt
      have hbd : (y.s[j].toNat : Int) ≤ 255 := by have := y.s[j].toNat_lt; omega
      cases hc : isD (y.s[j].toNat : Int)
      · have HC2 := Lib.hid (show ∀ w, Calls Tryd.prog 70 #[.int .u8 (y.s[j].toNat : Int)] w fun e w' => e = .returned (.bool false) ∧ w = w' by rw [← hc]; exact isDigit_any _)
        have HC := Lib.hid hc
        clear hc
        go_wp2_with fail
        go_quiet (exact quiet_eq (HC2.out _))
        go_wp2_with fail
        go_ret
        refine ⟨?_, ⟨j, hj1, ?_, by exact hps.drewN⟩, by exact ho.drewN, HSZ.out⟩
        · rw [← HPK.out, txt_lt hlt]; simp [dig, HC.out]
        · rw [← HPK.out, txt_lt hlt]; simp [dig, HC.out]
      · have HC2 := Lib.hid (show ∀ w, Calls Tryd.prog 70 #[.int .u8 (y.s[j].toNat : Int)] w fun e w' => e = .returned (.bool true) ∧ w = w' by rw [← hc]; exact isDigit_any _)
        have HC := Lib.hid hc
        have hd1 : 48 ≤ (y.s[j].toNat : Int) := by simp [isD] at hc; omega
        have hd2 : (y.s[j].toNat : Int) ≤ 57 := by simp [isD] at hc; omega
        clear hc
        go_wp2_with fail
        go_quiet (exact quiet_eq (HC2.out _))
        go_wp2_with fail
        have m1 : IntKind.i64.wrap (10 * n) = 10 * n := IntWalk.i64_in _ (by omega)
        have m2 : IntKind.i64.wrap ((y.s[j].toNat : Int) - 48) = (y.s[j].toNat : Int) - 48 := IntWalk.i64_in _ (by omega)
        have m3 : IntKind.i64.wrap (10 * n + ((y.s[j].toNat : Int) - 48)) = 10 * n + ((y.s[j].toNat : Int) - 48) := IntWalk.i64_in _ (by omega)
        have m4 : IntKind.u8.wrap ((y.s[j].toNat : Int) - 48) = (y.s[j].toNat : Int) - 48 := IntWalk.u8_in _ (by omega)
        go_quiet (fail)
        clear m1 m2 m3 m4
        go_wp2_with fail
        · have hmin : min (10 * n + ((y.s[j].toNat : Int) - 48)) 17 = 17 := by omega
          have HM := Lib.hid hmin
          clear hmin
          go_roundg (gk - 1)
          case measure => have := HJ.out; omega
          case rel => exact ⟨j + 1, 17, by have := HJ.out; omega, rfl, by omega, by omega, by rw [← HPK.out, txt_lt hlt]; simp only [dig, HC.out, if_true, HM.out], hps.drewN.set (q' := j + 1), ho.drewN.set _ _, by rw [← HSZ.out]; simp [World.setCell]⟩
        · have hmin : min (10 * n + ((y.s[j].toNat : Int) - 48)) 17 = 10 * n + ((y.s[j].toNat : Int) - 48) := by omega
          have HM := Lib.hid hmin
          clear hmin
          go_roundg (gk - 1)
          case measure => have := HJ.out; omega
          case rel => exact ⟨j + 1, 10 * n + ((y.s[j].toNat : Int) - 48), by have := HJ.out; omega, rfl, by omega, by omega, by rw [← HPK.out, txt_lt hlt]; simp only [dig, HC.out, if_true, HM.out], hps.drewN.set (q' := j + 1), ho.drewN.set _ _, by rw [← HSZ.out]; simp [World.setCell]⟩
    · have hlt' : decide ((j : Int) < (y.s.size : Int)) = false := by simpa using hlt
      go_wp2_with fail
      go_quiet (fail)
      go_wp2_with fail
      go_ret
      have e0 : j = y.s.size := by omega
      refine ⟨?_, ⟨j, hj1, ?_, by exact hps.drewN⟩, by exact ho.drewN, HSZ.out⟩
      · rw [← HPK.out, e0, txt_end]; rfl
      · rw [← HPK.out, e0, txt_end]; rfl
end Go.Proofs.YtioimhnebjiicaaDoor
