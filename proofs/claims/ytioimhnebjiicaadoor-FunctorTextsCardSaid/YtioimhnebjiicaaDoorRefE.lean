/-
  Proved here: the reference's test of equality, at each two functors.
-/
import Derived.Test.YtioimhnebjiicaaDoorRefD
namespace Go.Proofs.YtioimhnebjiicaaDoor
open Go.RowKit
open Go.Sort (grow)

set_option maxRecDepth 100000 in
set_option maxHeartbeats 800000 in
theorem sameRef_any (S S' : Nat → Nat → Prop) : ∀ (t : T) (u : T) (k n k' n' : Int) (a a' : Option Addr) (cap cap' : Nat) (w : World), Sl S w a t → Sl S' w a' u →
    Calls Tryd.prog 16 #[.agg #[.int .i64 k, .int .i64 n, .slice a t.len cap], .agg #[.int .i64 k', .int .i64 n', .slice a' u.len cap']] w fun e w' =>
      e = .returned (.bool (decide (k = k' ∧ n = n' ∧ t = u))) ∧ Below w.heap.size w w' := by
  refine T.ind ?_
  intro t ih u k n k' n' a a' cap cap' w hs hu
  obtain ⟨W, hW⟩ : ∃ W : World, W = (w.alloc (Obj.cells #[Value.int IntKind.i64 k, Value.int IntKind.i64 n, Value.slice a t.len cap] 24)).alloc (Obj.cells #[Value.int IntKind.i64 k', Value.int IntKind.i64 n', Value.slice a' u.len cap'] 24) := ⟨_, rfl⟩
  have hWb : Below w.heap.size w W := by rw [hW]; exact ((Below.refl _ _).alloc (Nat.le_refl _) _).alloc (by simp) _
  have c0 : W.cell? ⟨w.heap.size, 0, none⟩ = some (.int .i64 k) := by rw [hW]; simp
  have c1 : W.cell? ⟨w.heap.size, 1, none⟩ = some (.int .i64 n) := by rw [hW]; simp
  have c2 : W.cell? ⟨w.heap.size, 2, none⟩ = some (.slice a t.len cap) := by rw [hW]; simp
  have e0 : W.cell? ⟨w.heap.size + 1, 0, none⟩ = some (.int .i64 k') := by rw [hW]; simp
  have e1 : W.cell? ⟨w.heap.size + 1, 1, none⟩ = some (.int .i64 n') := by rw [hW]; simp
  have e2 : W.cell? ⟨w.heap.size + 1, 2, none⟩ = some (.slice a' u.len cap') := by rw [hW]; simp
  have hz : w.heap.size + 1 < W.heap.size := by rw [hW]; simp
  have hs' : Sl S W a t := hs.below hWb
  have hu' : Sl S' W a' u := hu.below hWb
  have hlen := hs.1
  have hlenu := hu.1
  by_cases hk : k = k'
  rotate_left
  · have hk' : (k != k') = true := by simpa using hk
    go_enter Tryd.func16, Tryd.ntmps16
    go_wp2_with fail
    rw [← hW]
    clear hW
    go_wp2_with fail
    go_ret
    exact ⟨by simp [hk], hWb⟩
  have hk' : (k != k') = false := by simpa using hk
  by_cases hn : n = n'
  rotate_left
  · have hn' : (n != n') = true := by simpa using hn
    clear hk
    go_enter Tryd.func16, Tryd.ntmps16
    go_wp2_with fail
    rw [← hW]
    clear hW
    go_wp2_with fail
    go_ret
    exact ⟨by simp [hn], hWb⟩
  have hn' : (n != n') = false := by simpa using hn
  by_cases hl : t.len = u.len
  rotate_left
  · have hl' : ((t.len : Int) != (u.len : Int)) = true := by simpa using (by omega : ¬ (t.len : Int) = (u.len : Int))
    clear hk hn
    go_enter Tryd.func16, Tryd.ntmps16
    go_wp2_with fail
    rw [← hW]
    clear hW
    go_wp2_with fail
    go_ret
    exact ⟨by have : ¬ t = u := (fun e => hl (by rw [e])); simp [this], hWb⟩
  have hl' : ((t.len : Int) != (u.len : Int)) = false := by simpa using (by omega : (t.len : Int) = (u.len : Int))
  have HK := Lib.hid hk
  have HN := Lib.hid hn
  have HL := Lib.hid hl
  have hle : t.len ≤ u.len := by omega
  clear hk hn hl
  go_enter Tryd.func16, Tryd.ntmps16
  go_wp2_with fail
  rw [← hW]
  clear hW
  go_loopw [5, 30] (fun _ i wr => ∃ j : Nat, j ≤ t.len ∧ i = .int .i64 j ∧ (t.drop j = u.drop j ↔ t = u) ∧ Below W.heap.size W wr) (fun _ i _ => t.len - (intOf i).toNat)
  case atStart => exact ⟨0, Nat.zero_le _, rfl, by simp, Below.refl _ _⟩
  case round =>
    obtain ⟨j, hj, rfl, hq, hb⟩ := hrel
    have HQ := Lib.hid hq
    clear hq
    have hbs := hb.size
    by_cases hlt : j < t.len
    · obtain ⟨b, o, rfl, hat⟩ := hs'.addr hlt
      obtain ⟨k1, n1, kids, rest, hd, hd1⟩ := T.drop_lt hlt
      obtain ⟨_, d0, d1, a1, cap1, d2, hs1⟩ := hat.get hd
      obtain ⟨b', o', rfl, hat'⟩ := hu'.addr (show j < u.len by omega)
      obtain ⟨k2, n2, kids', rest', hd', hd1'⟩ := T.drop_lt (show j < u.len by omega)
      obtain ⟨_, f0, f1, a2, cap2, f2, hu1⟩ := hat'.get hd'
      have hb3 := Nat.mul_comm 3 j
      rw [hb3] at d0 d1 d2 f0 f1 f2
      clear hb3
      have c2r := cell_regrown (cell_below hb c2)
      have e2r := cell_regrown (cell_below hb e2)
      replace d0 := cell_regrown (cell_below hb d0)
      replace d1 := cell_regrown (cell_below hb d1)
      replace d2 := cell_regrown (cell_below hb d2)
      replace f0 := cell_regrown (cell_below hb f0)
      replace f1 := cell_regrown (cell_below hb f1)
      replace f2 := cell_regrown (cell_below hb f2)
      have hcall := fun d os => Calls.regrown_of (ih _ _ _ _ _ hd kids' k1 n1 k2 n2 a1 a2 cap1 cap2 (grow (redrawn wr d) os) ((hs1.below hb).below (below_regrown wr d os)) ((hu1.below hb).below (below_regrown wr d os)))
      have HC := Lib.hid hcall
      clear hcall
      have HD := Lib.hid hd
      have HD1 := Lib.hid hd1
      have HD' := Lib.hid hd'
      have HD1' := Lib.hid hd1'
      clear hd hd1 hd' hd1'
      have hlu : j < u.len := by omega
      cases hr : decide (k1 = k2 ∧ n1 = n2 ∧ kids = kids')
      all_goals
        rw [hr] at HC
        have HR := Lib.hid hr
        clear hr
        go_wp2_with fail
        refine wp_region_quiet_below (by kernel_rfl) (by kernel_rfl) ?_
        repeat (quiet_step (exact HC.out _ _))
        refine wpQuiet_nil ?_
        intro _ hw'
        obtain ⟨⟨dq, osq⟩, hw''⟩ := hw'
        subst hw''
        have hb4 : Below W.heap.size W (grow (redrawn wr dq) osq) := hb.trans ((below_regrown wr dq osq).mono hbs)
        go_wp2_with fail
      · go_ret
        have hne : ¬ t = u := by
          intro e
          have := HQ.out.2 e
          rw [HD.out, HD'.out] at this
          have h3 := HR.out
          simp only [T.cons.injEq] at this
          simp [this] at h3
        exact ⟨by simp [hne], hWb.trans (hb4.mono (by omega))⟩
      · go_roundw
        case rel =>
          refine ⟨j + 1, by omega, by go_num, ?_, hb4⟩
          rw [← HQ.out, HD.out, HD'.out, HD1.out, HD1'.out]
          have h3 := of_decide_eq_true HR.out
          simp [h3.1, h3.2.1, h3.2.2]
        case measure => simp [intOf]; omega
    · go_wp2_with fail
      go_ret
      have hj' : j = t.len := by omega
      have := HQ.out
      rw [hj', T.drop_all, HL.out, T.drop_all] at this
      exact ⟨by simp [HK.out, HN.out, this.1 rfl], hWb.trans (hb.mono (by omega))⟩
end Go.Proofs.YtioimhnebjiicaaDoor
