/-
  Proved here: a step towards the statements of chapter 1 (functors): what one of its functions does at each input.
-/
import Derived.Test.YtioimhnebjiicaaDoorParP
import Derived.Recover
namespace Go.Proofs.YtioimhnebjiicaaDoor
open Go.RowKit

/-- The world behind the recovery: both results laid. -/
def caught (B : Nat) (w : World) : World :=
  (((w.setCell ⟨B, 0, none⟩ (.int .i64 0)).setCell ⟨B, 1, none⟩ (.int .i64 0)).setCell ⟨B, 2, none⟩ (.slice none 0 0)).setCell ⟨B + 1, 0, none⟩ (.int .i64 11)

set_option maxHeartbeats 800000 in
theorem catch_panicking (B : Nat) (c : Array Value) (x : Value) (t : TypeId) (pv : Value) (older : List PanicEntry) (w : World) (h0 : w.heap[B]? = some (Obj.cells c 24 (0, 0))) (hc : c.size = 3) (h1 : w.heap[B + 1]? = some (Obj.cells #[x] t (0, 0))) :
    CallsD Tryd.prog 33 #[.pointer (some ⟨B, 0, none⟩), .pointer (some ⟨B + 1, 0, none⟩)] (.panicking ({ v := .iface 29 pv, recovered := false } :: older)) w fun e u' w' =>
      e = .returned (.tuple #[]) ∧ u' = .panicking ({ v := .iface 29 pv, recovered := true } :: older) ∧ w' = caught B w := by
  obtain ⟨x0, x1, x2, hcc⟩ : ∃ x0 x1 x2, c = #[x0, x1, x2] := by
    match c, hc with
    | ⟨[a0, a1, a2]⟩, _ => exact ⟨a0, a1, a2, rfl⟩
  subst hcc
  obtain ⟨b0, b1, b2⟩ := cells_of h0
  have z0 := fun o => frozen_of (o := o) h0
  have e0 : w.cell? ⟨B + 1, 0, none⟩ = some x := by simp [World.cell?, h1]
  have z1 : w.frozen? ⟨B + 1, 0, none⟩ = false := frozen_of h1
  refine callsD_of_wpS Tryd.func33 rfl fun c₀ cs hu => ?_
  apply wpS_seq
  apply wpS_region
  simp [wpOpsS, go_sem, recoverD, hu, Tryd.ntmps33, Exit.thenS]
  refine wpS_cond (t := true) (by simp [Act.eval, Array.replicate]) ?_
  simp only [if_true]
  apply wpS_region
  simp [wpOpsS, go_sem, b0, b1, b2, z0, e0, z1, bodyPostS, results, Tryd.results33, caught]

set_option maxHeartbeats 800000 in
theorem catch_idle (B : Nat) (w : World) :
    CallsD Tryd.prog 33 #[.pointer (some ⟨B, 0, none⟩), .pointer (some ⟨B + 1, 0, none⟩)] .returning w fun e u' w' => e = .returned (.tuple #[]) ∧ u' = .returning ∧ w' = w := by
  refine callsD_of_wpS Tryd.func33 rfl fun c₀ cs hu => ?_
  apply wpS_seq
  apply wpS_region
  simp [wpOpsS, go_sem, recoverD, hu, Tryd.ntmps33, Exit.thenS]
  refine wpS_cond (t := false) (by simp [Act.eval, Array.replicate]) ?_
  simp only [Bool.false_eq_true, if_false]
  refine wpS_of_wp (wp_skip ?_)
  cases c₀
  simp_all [bodyPostS, results, Tryd.results33]
end Go.Proofs.YtioimhnebjiicaaDoor
