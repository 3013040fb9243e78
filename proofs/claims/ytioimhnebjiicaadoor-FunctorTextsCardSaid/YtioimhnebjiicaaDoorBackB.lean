/-
  Proved here: the law FunctorBack returns true at each functor and each number.
-/
import Derived.Test.YtioimhnebjiicaaDoorBackA
namespace Go.Proofs.YtioimhnebjiicaaDoor
open Go.RowKit

theorem few_at (S : Nat → Nat → Prop) (t : T) (k n : Int) (a : Option Addr) (cap : Nat) (w : World) (b : Bool) (hs : Sl S w a t) (hb : decide (1 + (t.nodes : Int) ≤ 2000) = b) :
    Calls Tryd.prog 7 #[.agg #[.int .i64 k, .int .i64 n, .slice a t.len cap], .int .i64 2000] w fun e w' => e = .returned (.bool b) ∧ Below w.heap.size w w' :=
  (few_nodes S t k n a cap 2000 w hs (by omega) (by omega)).mono fun _ _ ⟨h1, h2⟩ => ⟨by rw [h1, hb], h2⟩

theorem fault_at (S : Nat → Nat → Prop) (t : T) (k n : Int) (a : Option Addr) (cap : Nat) (w : World) (r : Int) (hs : Sl S w a t) (hr : faultOf k n t = r) :
    Calls Tryd.prog 13 #[.agg #[.int .i64 k, .int .i64 n, .slice a t.len cap]] w fun e w' => e = .returned (.int .i64 r) ∧ Below w.heap.size w w' :=
  (fault_any S t k n a cap w hs).mono fun _ _ ⟨h1, h2⟩ => ⟨by rw [h1, hr], h2⟩

set_option maxRecDepth 100000 in
set_option maxHeartbeats 1600000 in
theorem back_any (S : Nat → Nat → Prop) (t : T) (k n : Int) (a : Option Addr) (cap : Nat) (m : Nat) (w : World) (hs : Sl S w a t) (hk : Kinds w) (hm : m ≤ 255) :
    Calls Tryd.prog 5 #[.agg #[.int .i64 k, .int .i64 n, .slice a t.len cap], .int .u8 m] w fun e w' => e = .returned (.bool true) ∧ Below w.heap.size w w' := by
  obtain ⟨W, hW⟩ : ∃ W, W = w.alloc (.cells #[.int .i64 k, .int .i64 n, .slice a t.len cap] 24) := ⟨_, rfl⟩
  have hb0 : Below w.heap.size w W := by rw [hW]; exact (Below.refl _ _).alloc (Nat.le_refl _) _
  have hbx : W.heap[w.heap.size]? = some (Obj.cells #[.int .i64 k, .int .i64 n, .slice a t.len cap] 24 (0, 0)) := by rw [hW]; exact heap_new _ _
  obtain ⟨c0, c1, c2⟩ := cells_of hbx
  have hsW := hs.below hb0
  have hkW := hk.below hb0
  cases hf : decide (1 + (t.nodes : Int) ≤ 2000)
  · have HF := Lib.hid (few_at S t k n a cap W false hsW hf)
    clear hf hs hsW
    go_enter Tryd.func5, Tryd.ntmps5
    go_wp2_with fail
    rw [← hW]
    clear hW
    refine HF.out.mono ?_
    rintro e w1 ⟨rfl, hb1⟩
    go_wp2_with fail
    refine (awake_any _ (hkW.below hb1)).mono ?_
    rintro e w2 ⟨rfl, hb2⟩
    go_wp2_with fail
    go_ret
    exact ⟨rfl, hb0.trans ((hb1.trans (hb2.mono hb1.size)).mono hb0.size)⟩
  have HF := Lib.hid (few_at S t k n a cap W true hsW hf)
  clear hf
  cases hv : valid k n t
  · have HV := Lib.hid (fun w1 (h1 : Below W.heap.size W w1) => fault_at S t k n a cap w1 10 (hsW.below h1) (by unfold faultOf; rw [hv]; rfl))
    clear hs hsW hv
    go_enter Tryd.func5, Tryd.ntmps5
    go_wp2_with fail
    rw [← hW]
    clear hW
    refine HF.out.mono ?_
    rintro e w1 ⟨rfl, hb1⟩
    have d0 := cell_below hb1 c0
    have d1 := cell_below hb1 c1
    have d2 := cell_below hb1 c2
    go_wp2_with fail
    refine (HV.out w1 hb1).mono ?_
    rintro e w2 ⟨rfl, hb2⟩
    go_wp2_with fail
    refine (awake_any _ ((hkW.below hb1).below hb2)).mono ?_
    rintro e w3 ⟨rfl, hb3⟩
    go_wp2_with fail
    go_ret
    exact ⟨rfl, hb0.trans ((hb1.trans ((hb2.trans (hb3.mono hb2.size)).mono hb1.size)).mono hb0.size)⟩
  have HV := Lib.hid (fun w1 (h1 : Below W.heap.size W w1) => fault_at S t k n a cap w1 0 (hsW.below h1) (by unfold faultOf; rw [hv]; rfl))
  by_cases h100 : (100 : Int) < m
  · clear hs hsW hv
    go_enter Tryd.func5, Tryd.ntmps5
    go_wp2_with fail
    rw [← hW]
    clear hW
    refine HF.out.mono ?_
    rintro e w1 ⟨rfl, hb1⟩
    have d0 := cell_below hb1 c0
    have d1 := cell_below hb1 c1
    have d2 := cell_below hb1 c2
    go_wp2_with fail
    refine (HV.out w1 hb1).mono ?_
    rintro e w2 ⟨rfl, hb2⟩
    go_wp2_with fail
    refine (awake_any _ ((hkW.below hb1).below hb2)).mono ?_
    rintro e w3 ⟨rfl, hb3⟩
    go_wp2_with fail
    go_ret
    exact ⟨rfl, hb0.trans ((hb1.trans ((hb2.trans (hb3.mono hb2.size)).mono hb1.size)).mono hb0.size)⟩
  have hm100 : m ≤ 100 := by omega
  have HST := Lib.hid (fun w1 (h1 : Below W.heap.size W w1) => string_at S ⟨k, n, t⟩ a cap w1 (outF k n t) 0 (hsW.below h1) (hkW.below h1) (by unfold stringOf; rw [hv]; rfl))
  have HPB := Lib.hid (parse_back hv m hm)
  have hv1 := (valid_parts hv).1
  have hol := outF_len k n t
  obtain ⟨o, ho⟩ : ∃ o, o = outF k n t := ⟨_, rfl⟩
  rw [← ho] at HST HPB hol
  have hol2 : o.length ≤ 1000 := by omega
  clear hv hs ho hol hv1
  go_enter Tryd.func5, Tryd.ntmps5
  go_wp2_with fail
  rw [← hW]
  clear hW
  refine HF.out.mono ?_
  rintro e w1 ⟨rfl, hb1⟩
  have d0 := cell_below hb1 c0
  have d1 := cell_below hb1 c1
  have d2 := cell_below hb1 c2
  go_wp2_with fail
  refine (HV.out w1 hb1).mono ?_
  rintro e w2 ⟨rfl, hb2⟩
  have hb02 := hb1.trans (hb2.mono hb1.size)
  have e0 := cell_below hb02 c0
  have e1 := cell_below hb02 c1
  have e2 := cell_below hb02 c2
  clear d0 d1 d2
  go_wp2_with fail
  refine (HST.out w2 hb02).mono ?_
  rintro e w3 ⟨rfl, hb3⟩
  have hb03 := hb02.trans (hb3.mono hb02.size)
  clear e0 e1 e2
  go_wp2_with fail
  go_loop [5, 29] (fun s i => ∃ j : Nat, j ≤ m ∧ i = .int .u8 j ∧ s = .string (bs (wrapN j o))) (fun _ i => m - (intOf i).toNat)
  case atStart => exact ⟨0, Nat.zero_le _, rfl, rfl⟩
  case round =>
    obtain ⟨j, hj, rfl, rfl⟩ := hrel
    have hwl := wrapN_len j o
    by_cases hlt : j < m
    · have hl3 : (wrapN j o).length ≤ 1200 := by omega
      clear hwl
      have n1 : ¬ 9223372036854775807 < 1 + (wrapN j o).length := by omega
      have n2 : ¬ 9223372036854775807 < 1 + (wrapN j o).length + 1 := by omega
      go_wp2_with fail
      go_round
      case rel => exact ⟨j + 1, by omega, by go_num, congrArg Value.string (wrap_bs (wrapN j o))⟩
      case measure => simp [intOf]; omega
    · have hjm : j = m := by omega
      subst hjm
      clear hwl
      have hkw3 := hkW.below hb03
      have hpsz : (bs (wrapN j o)).size ≤ 1000000 := by have := wrapN_len j o; simp [ByteArray.size]; omega
      have HP := Lib.hid (parse_at _ _ _ w3 hpsz hkw3 HPB.out)
      clear hpsz
      go_wp2_with fail
      refine HP.out.mono ?_
      rintro e w4 ⟨a4, cap4, rfl, hs4, hb4⟩
      have hb04 := hb03.trans (hb4.mono hb03.size)
      obtain ⟨W4, hW4⟩ : ∃ W4, W4 = w4.alloc (.cells #[.int .i64 k, .int .i64 n, .slice a4 t.len cap4] 24) := ⟨_, rfl⟩
      have hB4 : Below w4.heap.size w4 W4 := by rw [hW4]; exact (Below.refl _ _).alloc (Nat.le_refl _) _
      have hx4 : W4.heap[w4.heap.size]? = some (Obj.cells #[.int .i64 k, .int .i64 n, .slice a4 t.len cap4] 24 (0, 0)) := by rw [hW4]; exact heap_new _ _
      have hb0W := hb04.trans (hB4.mono hb04.size)
      obtain ⟨x0, x1, x2⟩ := cells_of hx4
      have z0 := cell_below hb0W c0
      have z1 := cell_below hb0W c1
      have z2 := cell_below hb0W c2
      have z0w := z0
      have z1w := z1
      have z2w := z2
      have x0w := x0
      have x1w := x1
      have x2w := x2
      rw [hW4] at z0w z1w z2w x0w x1w x2w
      go_wp2_with fail
      rw [← hW4]
      clear hW4 z0w z1w z2w x0w x1w x2w
      refine (same_at S _ ⟨k, n, t⟩ ⟨k, n, t⟩ a a4 cap cap4 W4 (hsW.below hb0W) (hs4.below hB4) rfl).mono ?_
      rintro e w5 ⟨rfl, hb5⟩
      go_wp2_with fail
      refine (awake_any _ ((hkW.below hb0W).below hb5)).mono ?_
      rintro e w6 ⟨rfl, hb6⟩
      go_wp2_with fail
      go_ret
      exact ⟨rfl, hb0.trans ((hb0W.trans ((hb5.trans (hb6.mono hb5.size)).mono hb0W.size)).mono hb0.size)⟩
end Go.Proofs.YtioimhnebjiicaaDoor
