/-
  Proved here: the reference's fault of a functor, at each functor.
-/
import Derived.Test.YtioimhnebjiicaaDoorRefC
import Derived.Deep.QuietTactic
import Derived.BigQuiet
import Derived.Lib.QuietBelow
namespace Go.Proofs.YtioimhnebjiicaaDoor
open Go.RowKit

theorem lft_nodes (t : T) : ∀ m : Int, 0 ≤ m → max (lft t m) 0 = max (m - t.nodes) 0 := by
  induction t with
  | nil => intro m h; simp [lft, T.nodes]
  | cons k n kids rest ihk ihr =>
    intro m h
    unfold lft
    simp only [T.nodes]
    split
    · have h1 := ihk (m - 1) (by omega)
      have h2 := ihr (max (lft kids (m - 1)) 0) (by omega)
      omega
    · omega

theorem few_nodes (S : Nat → Nat → Prop) (t : T) (k n : Int) (a : Option Addr) (cap : Nat) (m : Int) (w : World) (hs : Sl S w a t) (h0 : 0 ≤ m) (h1 : m ≤ 99999) :
    Calls Tryd.prog 7 #[.agg #[.int .i64 k, .int .i64 n, .slice a t.len cap], .int .i64 m] w fun e w' =>
      e = .returned (.bool (decide (1 + (t.nodes : Int) ≤ m))) ∧ Below w.heap.size w w' :=
  (few_any S t k n a cap m w hs h0 h1).mono fun e w' ⟨he, hb⟩ => ⟨by
    rw [he, lft_nodes t m h0]
    congr 2
    exact decide_eq_decide.2 (by omega), hb⟩

def valid (k n : Int) (t : T) : Bool := decide (1 + (t.nodes : Int) ≤ 20) && (decide ((t.depth : Int) + 1 ≤ 8) && (fieldsOk k n t.len && t.allOk))

set_option maxRecDepth 100000 in
set_option maxHeartbeats 400000 in
theorem is_any (S : Nat → Nat → Prop) (t : T) (k n : Int) (a : Option Addr) (cap : Nat) (w : World) (hs : Sl S w a t) :
    Calls Tryd.prog 27 #[.agg #[.int .i64 k, .int .i64 n, .slice a t.len cap]] w fun e w' =>
      e = .returned (.bool (valid k n t)) ∧ Below w.heap.size w w' := by
  have hv : valid k n t = (decide (1 + (t.nodes : Int) ≤ 20) && (decide ((t.depth : Int) + 1 ≤ 8) && (fieldsOk k n t.len && t.allOk))) := rfl
  have HV := Lib.hid hv
  clear hv
  obtain ⟨W, hW⟩ : ∃ W : World, W = w.alloc (Obj.cells #[Value.int IntKind.i64 k, Value.int IntKind.i64 n, Value.slice a t.len cap] 24) := ⟨_, rfl⟩
  have hWb : Below w.heap.size w W := by rw [hW]; exact (Below.refl _ _).alloc (Nat.le_refl _) _
  have c0 : W.cell? ⟨w.heap.size, 0, none⟩ = some (.int .i64 k) := by rw [hW]; simp
  have c1 : W.cell? ⟨w.heap.size, 1, none⟩ = some (.int .i64 n) := by rw [hW]; simp
  have c2 : W.cell? ⟨w.heap.size, 2, none⟩ = some (.slice a t.len cap) := by rw [hW]; simp
  have hz : w.heap.size < W.heap.size := by rw [hW]; simp
  have hs' : Sl S W a t := hs.below hWb
  go_enter Tryd.func27, Tryd.ntmps27
  go_wp2_with fail
  rw [← hW]
  clear hW
  refine (few_nodes S t _ _ _ _ _ _ hs' (by omega) (by omega)).mono ?_
  rintro e w1 ⟨rfl, hb1⟩
  have c0' := cell_below hb1 c0
  have c1' := cell_below hb1 c1
  have c2' := cell_below hb1 c2
  by_cases h1 : 1 + (t.nodes : Int) ≤ 20
  · have h1' : decide (1 + (t.nodes : Int) ≤ 20) = true := by simpa using h1
    rw [h1'] at HV ⊢
    clear h1'
    go_wp2_with fail
    refine (sizeRef_any S t _ _ _ _ _ (hs'.below hb1) (by omega)).mono ?_
    rintro e w2 ⟨rfl, hb2⟩
    have hb12 := hb1.trans (hb2.mono hb1.size)
    have c0'' := cell_below hb12 c0
    have c1'' := cell_below hb12 c1
    have c2'' := cell_below hb12 c2
    by_cases h2 : (t.depth : Int) + 1 ≤ 8
    · have h2' : decide ((t.depth : Int) + 1 ≤ 8) = true := by simpa using h2
      rw [h2'] at HV
      go_wp2_with fail
      refine (shaped_any S t _ _ _ _ _ (hs'.below hb12)).mono ?_
      rintro e w3 ⟨rfl, hb3⟩
      go_wp2_with fail
      go_ret
      exact ⟨by rw [HV.out]; simp, hWb.trans ((hb12.trans (hb3.mono hb12.size)).mono (by omega))⟩
    · have h2' : decide ((t.depth : Int) + 1 ≤ 8) = false := by simpa using h2
      rw [h2'] at HV
      go_wp2_with fail
      go_ret
      exact ⟨by rw [HV.out]; simp, hWb.trans (hb12.mono (by omega))⟩
  · have h1' : decide (1 + (t.nodes : Int) ≤ 20) = false := by simpa using h1
    rw [h1'] at HV ⊢
    clear h1'
    go_wp2_with fail
    go_ret
    exact ⟨by rw [HV.out]; simp, hWb.trans (hb1.mono (by omega))⟩

def faultOf (k n : Int) (t : T) : Int := if valid k n t then 0 else 10
set_option maxHeartbeats 400000 in
theorem fault_any (S : Nat → Nat → Prop) (t : T) (k n : Int) (a : Option Addr) (cap : Nat) (w : World) (hs : Sl S w a t) :
    Calls Tryd.prog 13 #[.agg #[.int .i64 k, .int .i64 n, .slice a t.len cap]] w fun e w' =>
      e = .returned (.int .i64 (faultOf k n t)) ∧ Below w.heap.size w w' := by
  go_enter Tryd.func13, Tryd.ntmps13
  go_wp2_with fail
  refine (is_any S t _ _ _ _ _ (hs.below ((Below.refl _ _).alloc (Nat.le_refl _) _))).mono ?_
  rintro e w1 ⟨rfl, hb1⟩
  have hb : Below w.heap.size w w1 := ((Below.refl _ _).alloc (Nat.le_refl _) _).trans (hb1.mono (by simp))
  cases hv : valid k n t
  · have HV := Lib.hid hv
    clear hv
    go_wp2_with fail
    go_ret
    exact ⟨by unfold faultOf; rw [HV.out]; rfl, hb⟩
  · have HV := Lib.hid hv
    clear hv
    go_wp2_with fail
    go_ret
    exact ⟨by unfold faultOf; rw [HV.out]; rfl, hb⟩
end Go.Proofs.YtioimhnebjiicaaDoor
