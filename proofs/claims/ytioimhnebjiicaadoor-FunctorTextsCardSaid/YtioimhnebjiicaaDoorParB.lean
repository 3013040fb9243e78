/-
  Proved here: a step towards the statements of chapter 1 (functors): what one of its functions does at each input.
-/
import Derived.Test.YtioimhnebjiicaaDoorParA
import Derived.Deep.QuietTactic
import Derived.BigQuiet
import Derived.Deep.LoopGhost
namespace Go.Proofs.YtioimhnebjiicaaDoor
open Go.RowKit

abbrev Lay.txt (y : Lay) (q : Nat) : List UInt8 := y.s.data.toList.drop q

theorem txt_lt {y : Lay} {j : Nat} (h : j < y.s.size) : y.txt j = y.s[j] :: y.txt (j + 1) := by
  have h' : j < y.s.data.toList.length := by simpa using h
  simp only [Lay.txt]
  rw [List.drop_eq_getElem_cons h']
  rfl

theorem txt_end {y : Lay} : y.txt y.s.size = [] := by
  simp only [Lay.txt]
  rw [List.drop_eq_nil_iff]
  simp

theorem byte_ne {c : UInt8} (h : decide ((c.toNat : Int) = 32) = false) : c ≠ 32 := by
  intro e
  subst e
  simp at h

theorem byte_eq {c : UInt8} (h : decide ((c.toNat : Int) = 32) = true) : c = 32 := by
  have h1 := of_decide_eq_true h
  apply UInt8.toNat_inj.1
  have : (32 : UInt8).toNat = 32 := rfl
  omega

structure PeekPost (y : Lay) (q : Nat) (w : World) (e : Ending) (w' : World) : Prop where
  e : e = .returned (.int .u8 (hdc (pk (y.txt q))))
  st : ∃ q', q' ≤ y.s.size ∧ y.txt q' = pk (y.txt q) ∧ PS w' y q'
  oth : Oth y.pb w w'
  size : w'.heap.size = w.heap.size

set_option maxRecDepth 100000 in
set_option maxHeartbeats 800000 in
theorem peek_any (y : Lay) (q : Nat) (w : World) (hq : q ≤ y.s.size) (hs : y.s.size ≤ 50000) (h : PS w y q) :
    Calls Tryd.prog 56 #[y.ptr] w (PeekPost y q w) := by
  have h0 := h.c0
  have h1 := h.c1
  go_enter Tryd.func56, Tryd.ntmps56
  go_wp2_with fail
  clear h0 h1
  go_loopg [3] (y.s.size - q) (fun gk _ wr => ∃ j : Nat, j + gk = y.s.size ∧ pk (y.txt j) = pk (y.txt q) ∧ PS wr y j ∧ Oth y.pb w wr ∧ wr.heap.size = w.heap.size)
  case atStart => exact ⟨q, by omega, rfl, h, Oth.refl _ _, rfl⟩
  case round =>
    obtain ⟨j, hj, hpk, hps, ho, hsz⟩ := hrel
    have HPK := Lib.hid hpk
    have HSZ := Lib.hid hsz
    have HJ := Lib.hid hj
    have hj1 : j ≤ y.s.size := by omega
    clear hpk hsz hj
    have g0 := hps.c0
    have g1 := hps.c1
    have gf := hps.f1
    by_cases hlt : j < y.s.size
    · have hlt' : decide ((j : Int) < (y.s.size : Int)) = true := by simpa using hlt
      have hne : ((j : Int) == (y.s.size : Int)) = false := by simpa using (by omega : ¬ (j : Int) = (y.s.size : Int))
      cases hc : decide ((y.s[j].toNat : Int) = 32)
      · have hc' : ((y.s[j].toNat : Int) == 32) = false := by simpa using hc
        have HC := Lib.hid hc
        clear hc
        go_wp2_with fail
        go_quiet (fail)
        go_wp2_with fail
        go_quiet (fail)
        go_wp2_with fail
        go_quiet (fail)
        go_wp2_with fail
        go_ret
        have e1 : pk (y.txt j) = y.txt j := by rw [txt_lt hlt]; simp [pk, byte_ne HC.out]
        refine ⟨?_, ⟨j, hj1, by rw [← HPK.out, e1], hps.drewN.drewN.drewN⟩, ho.drewN.drewN.drewN, HSZ.out⟩
        rw [← HPK.out, e1, txt_lt hlt]
        rfl
      · have hc' : ((y.s[j].toNat : Int) == 32) = true := by simpa using hc
        have HC := Lib.hid hc
        clear hc
        go_wp2_with fail
        go_quiet (fail)
        go_wp2_with fail
        go_roundg (gk - 1)
        case measure => have := HJ.out; omega
        case rel => exact ⟨j + 1, by have := HJ.out; omega, by rw [← HPK.out, txt_lt hlt, byte_eq HC.out]; rfl, hps.drewN.set (q' := j + 1), ho.drewN.set _ _, by rw [← HSZ.out]; simp [World.setCell]⟩
    · have hlt' : decide ((j : Int) < (y.s.size : Int)) = false := by simpa using hlt
      have hne : ((j : Int) == (y.s.size : Int)) = true := by simpa using (by omega : (j : Int) = (y.s.size : Int))
      go_wp2_with fail
      go_quiet (fail)
      go_wp2_with fail
      go_quiet (fail)
      go_wp2_with fail
      go_ret
      have e0 : j = y.s.size := by omega
      have e1 : pk (y.txt j) = [] := by rw [e0, txt_end]; rfl
      refine ⟨?_, ⟨j, hj1, by rw [← HPK.out, e1, e0, txt_end], hps.drewN.drewN⟩, ho.drewN.drewN, HSZ.out⟩
      rw [← HPK.out, e1]
      rfl
end Go.Proofs.YtioimhnebjiicaaDoor
