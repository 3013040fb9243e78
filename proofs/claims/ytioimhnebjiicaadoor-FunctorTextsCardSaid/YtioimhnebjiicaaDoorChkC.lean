/-
  Proved here: the code's Check of a functor, at each functor, and its answer.
-/
import Derived.Test.YtioimhnebjiicaaDoorChkB
import Derived.Test.YtioimhnebjiicaaDoorParF
namespace Go.Proofs.YtioimhnebjiicaaDoor
open Go.RowKit

theorem valid_fit (k n : Int) (t : T) : (fitF (.cons k n t .nil) 8 20).1 = valid k n t := by
  obtain ⟨h, _⟩ := fitF_spec (.cons k n t .nil) 8 20 (by omega) (by omega)
  simp only [T.nodes, T.depth, T.allOk] at h
  rw [Bool.eq_iff_iff, h]
  unfold valid
  simp only [Bool.and_eq_true, decide_eq_true_eq, Bool.and_true]
  constructor
  · rintro ⟨h1, h2, h3⟩; exact ⟨by omega, by omega, h3⟩
  · rintro ⟨h1, h2, h3⟩; exact ⟨by omega, by omega, h3⟩

set_option maxRecDepth 100000 in
set_option maxHeartbeats 400000 in
theorem check_any (S : Nat → Nat → Prop) (t : T) (k n : Int) (a : Option Addr) (cap : Nat) (w : World) (hs : Sl S w a t) (hk : Kinds w) :
    Calls Tryd.prog 14 #[.agg #[.int .i64 k, .int .i64 n, .slice a t.len cap]] w fun e w' =>
      e = .returned (.int .i64 (faultOf k n t)) ∧ Below w.heap.size w w' := by
  have hz : 0 < w.heap.size := lt_of_cell (hk 0 _ rfl)
  obtain ⟨W, hW⟩ : ∃ W : World, W = (w.alloc (Obj.cells #[Value.int IntKind.i64 k, Value.int IntKind.i64 n, Value.slice a t.len cap] 24)).alloc (Obj.cells #[.int .i64 20] 3) := ⟨_, rfl⟩
  have hWb : Below w.heap.size w W := by rw [hW]; exact ((Below.refl _ _).alloc (Nat.le_refl _) _).alloc (by simp) _
  have hb0 : W.heap[w.heap.size]? = some (Obj.cells #[.int .i64 k, .int .i64 n, .slice a t.len cap] 24 (0, 0)) := by rw [hW]; exact heap_old2 _ _ _
  have hb1 : W.heap[w.heap.size + 1]? = some (Obj.cells #[.int .i64 20] 3 (0, 0)) := by rw [hW]; exact heap_new2 _ _ _
  obtain ⟨c0, c1, c2⟩ := cells_of hb0
  go_enter Tryd.func14, Tryd.ntmps14
  go_wp2_with fail
  rw [← hW]
  clear hW
  refine (fits_any (w.heap.size + 1) (by omega) _ (fun b o h => by have := h.2; omega) t k n 8 20 a cap W (hs.lt.below hWb) (hk.below hWb) (by omega) (by omega) (by omega) (by omega) hb1).mono ?_
  rintro e w1 ⟨he, hP1, ho1⟩
  rw [valid_fit] at he
  subst he
  have hb : Below w.heap.size w w1 := ⟨ho1.os.trans hWb.os, ho1.tape.trans hWb.tape, ho1.output.trans hWb.output, Nat.le_trans hWb.size ho1.size, fun j hj => (ho1.block j (by have := hWb.size; omega) (by omega)).trans (hWb.block j hj)⟩
  clear hP1
  cases hv : valid k n t
  · have HV := Lib.hid hv
    clear hv
    go_wp2_with fail
    go_ret
    exact ⟨by unfold faultOf; rw [HV.out]; rfl, hb⟩
  · have HV := Lib.hid hv
    clear hv
    go_wp2_with fail
    go_ret
    exact ⟨by unfold faultOf; rw [HV.out]; rfl, hb⟩
end Go.Proofs.YtioimhnebjiicaaDoor
