/-
  Proved here: a step towards the statements of chapter 1 (functors): what one of its functions does at each input.
-/
import Derived.Test.YtioimhnebjiicaaDoorStrB
namespace Go.Proofs.YtioimhnebjiicaaDoor
open Go.RowKit
open Go.Sort (grow)

set_option maxRecDepth 100000 in
set_option maxHeartbeats 1600000 in
theorem outer_2 (S : Nat → Nat → Prop) (k1 n1 : Int) (kids : T) (k2 n2 : Int) (kids2 : T) (H : OutOk kids) (H2 : OutOk kids2) (a : Option Addr) (cap : Nat) (w : World) (hs : Sl S w a (.cons k1 n1 kids (.cons k2 n2 kids2 .nil))) (hk : Kinds w)
    (hf : fieldsOk k1 n1 kids.len = true) (ha : kids.allOk = true) (hn : kids.nodes ≤ 100) (hf2 : fieldsOk k2 n2 kids2.len = true) (ha2 : kids2.allOk = true) (hn2 : kids2.nodes ≤ 100) :
    Calls Tryd.prog 31 #[.agg #[.int .i64 2, .int .i64 0, .slice a 2 cap]] w fun e w' => e = .returned (.string (bs (innS (k1, outF k1 n1 kids) ++ [32, 42, 32] ++ innS (k2, outF k2 n2 kids2)))) ∧ Below w.heap.size w w' := by
  obtain ⟨b, o, rfl, hat⟩ := hs.addr (i := 0) (by simp [T.len])
  obtain ⟨_, d0, d1, a1, cap1, d2, hs1⟩ := hat.get (i := 0) (by rw [T.drop_zero])
  obtain ⟨_, f0, f1, a2, cap2, f2, hs2⟩ := hat.get (i := 1) (k := k2) (n := n2) (kids := kids2) (rest := .nil) rfl
  have hl1 := innS_len (k1, outF k1 n1 kids)
  have hl2 := innS_len (k2, outF k2 n2 kids2)
  have hl3 := outF_len k1 n1 kids
  have hl4 := outF_len k2 n2 kids2
  obtain ⟨W, hW⟩ : ∃ W, W = w.alloc (.cells #[.int .i64 2, .int .i64 0, .slice (some ⟨b, o, none⟩) 2 cap] 24) := ⟨_, rfl⟩
  have hb0 : Below w.heap.size w W := by rw [hW]; exact (Below.refl _ _).alloc (Nat.le_refl _) _
  have hbx : W.heap[w.heap.size]? = some (Obj.cells #[.int .i64 2, .int .i64 0, .slice (some ⟨b, o, none⟩) 2 cap] 24 (0, 0)) := by rw [hW]; exact heap_new _ _
  obtain ⟨c0, c1, c2⟩ := cells_of hbx
  have g3 : W.cell? ⟨0, 11, none⟩ = some (.string ⟨#[42]⟩) := (hk.below hb0) 11 _ rfl
  have g3w := g3
  rw [hW] at g3w
  have hz : 0 < w.heap.size := lt_of_cell (hk 0 _ rfl)
  simp only [Nat.mul_zero, Nat.add_zero, Nat.mul_one] at d0 d1 d2 f0 f1 f2
  replace d0 := cell_regrown (cell_below hb0 d0)
  replace d1 := cell_regrown (cell_below hb0 d1)
  replace d2 := cell_regrown (cell_below hb0 d2)
  replace f0 := cell_regrown (cell_below hb0 f0)
  replace f1 := cell_regrown (cell_below hb0 f1)
  replace f2 := cell_regrown (cell_below hb0 f2)
  have c0r := cell_regrown c0
  have c1r := cell_regrown c1
  have c2r := cell_regrown c2
  have h1 := fun d os => Calls.regrown_of (inner_of kids H S k1 n1 a1 cap1 (grow (redrawn W d) os) ((hs1.below hb0).below (below_regrown W d os)) ((hk.below hb0).below (below_regrown W d os)) hf ha hn)
  have h2 := fun d os => Calls.regrown_of (inner_of kids2 H2 S k2 n2 a2 cap2 (grow (redrawn W d) os) ((hs2.below hb0).below (below_regrown W d os)) ((hk.below hb0).below (below_regrown W d os)) hf2 ha2 hn2)
  obtain ⟨s1, hs10⟩ : ∃ s1, s1 = innS (k1, outF k1 n1 kids) := ⟨_, rfl⟩
  obtain ⟨s2, hs20⟩ : ∃ s2, s2 = innS (k2, outF k2 n2 kids2) := ⟨_, rfl⟩
  rw [← hs10] at h1 hl1 ⊢
  rw [← hs20] at h2 hl2 ⊢
  have HC1 := Lib.hid h1
  have HC2 := Lib.hid h2
  simp only at hl1 hl2
  have hz1 : s1.length ≤ 1000 := by omega
  have hz2 : s2.length ≤ 1000 := by omega
  have n1 : ¬ 9223372036854775807 < s1.length + 1 := by omega
  have n2 : ¬ 9223372036854775807 < s1.length + 1 + 1 := by omega
  have n3 : ¬ 9223372036854775807 < s1.length + 1 + 1 + 1 := by omega
  have n4 : ¬ 9223372036854775807 < s1.length + 1 + 1 + 1 + s2.length := by omega
  clear h1 h2 H H2 hs10 hs20 hf ha hf2 ha2 hs hat hs1 hs2 hk hl1 hl2 hl3 hl4
  go_enter Tryd.func31, Tryd.ntmps31
  go_wp2_with fail
  rw [← hW]
  clear hW g3w
  go_wp2_with fail
  refine wp_region_quiet_below (by kernel_rfl) (by kernel_rfl) ?_
  repeat (quiet_step (first | with_reducible exact HC1.out _ _ | with_reducible exact HC2.out _ _))
  refine wpQuiet_nil ?_
  intro _ hw'
  obtain ⟨⟨dq, osq⟩, hw''⟩ := hw'
  subst hw''
  go_wp2_with fail
  go_ret
  refine ⟨ret_str (Eq.trans (b := bs s1 ++ bs [32] ++ bs [42] ++ bs [32] ++ bs s2) rfl ?_), hb0.trans ((below_regrown W dq osq).mono (by have := heap_lt hbx; omega))⟩
  rw [bs_app, bs_app, bs_app, bs_app]
  simp

set_option maxRecDepth 100000 in
set_option maxHeartbeats 1600000 in
theorem outer_3 (S : Nat → Nat → Prop) (k1 n1 : Int) (kids : T) (k2 n2 : Int) (kids2 : T) (H : OutOk kids) (H2 : OutOk kids2) (a : Option Addr) (cap : Nat) (w : World) (hs : Sl S w a (.cons k1 n1 kids (.cons k2 n2 kids2 .nil))) (hk : Kinds w)
    (hf : fieldsOk k1 n1 kids.len = true) (ha : kids.allOk = true) (hn : kids.nodes ≤ 100) (hf2 : fieldsOk k2 n2 kids2.len = true) (ha2 : kids2.allOk = true) (hn2 : kids2.nodes ≤ 100) :
    Calls Tryd.prog 31 #[.agg #[.int .i64 3, .int .i64 0, .slice a 2 cap]] w fun e w' => e = .returned (.string (bs (innS (k1, outF k1 n1 kids) ++ [32, 43, 32] ++ innS (k2, outF k2 n2 kids2)))) ∧ Below w.heap.size w w' := by
  obtain ⟨b, o, rfl, hat⟩ := hs.addr (i := 0) (by simp [T.len])
  obtain ⟨_, d0, d1, a1, cap1, d2, hs1⟩ := hat.get (i := 0) (by rw [T.drop_zero])
  obtain ⟨_, f0, f1, a2, cap2, f2, hs2⟩ := hat.get (i := 1) (k := k2) (n := n2) (kids := kids2) (rest := .nil) rfl
  have hl1 := innS_len (k1, outF k1 n1 kids)
  have hl2 := innS_len (k2, outF k2 n2 kids2)
  have hl3 := outF_len k1 n1 kids
  have hl4 := outF_len k2 n2 kids2
  obtain ⟨W, hW⟩ : ∃ W, W = w.alloc (.cells #[.int .i64 3, .int .i64 0, .slice (some ⟨b, o, none⟩) 2 cap] 24) := ⟨_, rfl⟩
  have hb0 : Below w.heap.size w W := by rw [hW]; exact (Below.refl _ _).alloc (Nat.le_refl _) _
  have hbx : W.heap[w.heap.size]? = some (Obj.cells #[.int .i64 3, .int .i64 0, .slice (some ⟨b, o, none⟩) 2 cap] 24 (0, 0)) := by rw [hW]; exact heap_new _ _
  obtain ⟨c0, c1, c2⟩ := cells_of hbx
  have g3 : W.cell? ⟨0, 15, none⟩ = some (.string ⟨#[43]⟩) := (hk.below hb0) 15 _ rfl
  have g3w := g3
  rw [hW] at g3w
  have hz : 0 < w.heap.size := lt_of_cell (hk 0 _ rfl)
  simp only [Nat.mul_zero, Nat.add_zero, Nat.mul_one] at d0 d1 d2 f0 f1 f2
  replace d0 := cell_regrown (cell_below hb0 d0)
  replace d1 := cell_regrown (cell_below hb0 d1)
  replace d2 := cell_regrown (cell_below hb0 d2)
  replace f0 := cell_regrown (cell_below hb0 f0)
  replace f1 := cell_regrown (cell_below hb0 f1)
  replace f2 := cell_regrown (cell_below hb0 f2)
  have c0r := cell_regrown c0
  have c1r := cell_regrown c1
  have c2r := cell_regrown c2
  have h1 := fun d os => Calls.regrown_of (inner_of kids H S k1 n1 a1 cap1 (grow (redrawn W d) os) ((hs1.below hb0).below (below_regrown W d os)) ((hk.below hb0).below (below_regrown W d os)) hf ha hn)
  have h2 := fun d os => Calls.regrown_of (inner_of kids2 H2 S k2 n2 a2 cap2 (grow (redrawn W d) os) ((hs2.below hb0).below (below_regrown W d os)) ((hk.below hb0).below (below_regrown W d os)) hf2 ha2 hn2)
  obtain ⟨s1, hs10⟩ : ∃ s1, s1 = innS (k1, outF k1 n1 kids) := ⟨_, rfl⟩
  obtain ⟨s2, hs20⟩ : ∃ s2, s2 = innS (k2, outF k2 n2 kids2) := ⟨_, rfl⟩
  rw [← hs10] at h1 hl1 ⊢
  rw [← hs20] at h2 hl2 ⊢
  have HC1 := Lib.hid h1
  have HC2 := Lib.hid h2
  simp only at hl1 hl2
  have hz1 : s1.length ≤ 1000 := by omega
  have hz2 : s2.length ≤ 1000 := by omega
  have n1 : ¬ 9223372036854775807 < s1.length + 1 := by omega
  have n2 : ¬ 9223372036854775807 < s1.length + 1 + 1 := by omega
  have n3 : ¬ 9223372036854775807 < s1.length + 1 + 1 + 1 := by omega
  have n4 : ¬ 9223372036854775807 < s1.length + 1 + 1 + 1 + s2.length := by omega
  clear h1 h2 H H2 hs10 hs20 hf ha hf2 ha2 hs hat hs1 hs2 hk hl1 hl2 hl3 hl4
  go_enter Tryd.func31, Tryd.ntmps31
  go_wp2_with fail
  rw [← hW]
  clear hW g3w
  go_wp2_with fail
  refine wp_region_quiet_below (by kernel_rfl) (by kernel_rfl) ?_
  repeat (quiet_step (first | with_reducible exact HC1.out _ _ | with_reducible exact HC2.out _ _))
  refine wpQuiet_nil ?_
  intro _ hw'
  obtain ⟨⟨dq, osq⟩, hw''⟩ := hw'
  subst hw''
  go_wp2_with fail
  go_ret
  refine ⟨ret_str (Eq.trans (b := bs s1 ++ bs [32] ++ bs [43] ++ bs [32] ++ bs s2) rfl ?_), hb0.trans ((below_regrown W dq osq).mono (by have := heap_lt hbx; omega))⟩
  rw [bs_app, bs_app, bs_app, bs_app]
  simp

set_option maxRecDepth 100000 in
set_option maxHeartbeats 1600000 in
theorem outer_4 (n : Int) (h0 : 0 ≤ n) (h16 : n ≤ 16) (S : Nat → Nat → Prop) (k1 n1 : Int) (kids : T) (H : OutOk kids) (a : Option Addr) (cap : Nat) (w : World) (hs : Sl S w a (.cons k1 n1 kids .nil)) (hk : Kinds w)
    (hf : fieldsOk k1 n1 kids.len = true) (ha : kids.allOk = true) (hn : kids.nodes ≤ 100) :
    Calls Tryd.prog 31 #[.agg #[.int .i64 4, .int .i64 n, .slice a 1 cap]] w fun e w' => e = .returned (.string (bs (basS (k1, outF k1 n1 kids) ++ [32, 94, 32] ++ digs n))) ∧ Below w.heap.size w w' := by
  obtain ⟨b, o, rfl, hat⟩ := hs.addr (i := 0) (by simp [T.len])
  obtain ⟨_, d0, d1, a1, cap1, d2, hs1⟩ := hat.get (i := 0) (by rw [T.drop_zero])
  have hl1 := basS_len (k1, outF k1 n1 kids)
  have hl2 := digs_len n
  have hl3 := outF_len k1 n1 kids
  obtain ⟨W, hW⟩ : ∃ W, W = w.alloc (.cells #[.int .i64 4, .int .i64 n, .slice (some ⟨b, o, none⟩) 1 cap] 24) := ⟨_, rfl⟩
  have hb0 : Below w.heap.size w W := by rw [hW]; exact (Below.refl _ _).alloc (Nat.le_refl _) _
  have hbx : W.heap[w.heap.size]? = some (Obj.cells #[.int .i64 4, .int .i64 n, .slice (some ⟨b, o, none⟩) 1 cap] 24 (0, 0)) := by rw [hW]; exact heap_new _ _
  obtain ⟨c0, c1, c2⟩ := cells_of hbx
  have g3 : W.cell? ⟨0, 19, none⟩ = some (.string ⟨#[94]⟩) := (hk.below hb0) 19 _ rfl
  have g3w := g3
  rw [hW] at g3w
  have hz : 0 < w.heap.size := lt_of_cell (hk 0 _ rfl)
  simp only [Nat.mul_zero, Nat.add_zero] at d0 d1 d2
  replace d0 := cell_regrown (cell_below hb0 d0)
  replace d1 := cell_regrown (cell_below hb0 d1)
  replace d2 := cell_regrown (cell_below hb0 d2)
  have c0r := cell_regrown c0
  have c1r := cell_regrown c1
  have c2r := cell_regrown c2
  have h1 := fun d os => Calls.regrown_of (base_of kids H S k1 n1 a1 cap1 (grow (redrawn W d) os) ((hs1.below hb0).below (below_regrown W d os)) ((hk.below hb0).below (below_regrown W d os)) hf ha hn)
  have h2 := fun d os => Calls.regrown_of ((itoa_any n h0 h16 (grow (redrawn W d) os)).mono fun e w' he => ⟨he.1, by rw [← he.2]; exact Below.refl _ _⟩)
  obtain ⟨s1, hs10⟩ : ∃ s1, s1 = basS (k1, outF k1 n1 kids) := ⟨_, rfl⟩
  obtain ⟨s2, hs20⟩ : ∃ s2, s2 = digs n := ⟨_, rfl⟩
  rw [← hs10] at h1 hl1 ⊢
  rw [← hs20] at h2 hl2 ⊢
  have HC1 := Lib.hid h1
  have HC2 := Lib.hid h2
  simp only at hl1 hl2
  have hz1 : s1.length ≤ 1000 := by omega
  have hz2 : s2.length ≤ 1000 := by omega
  have n1 : ¬ 9223372036854775807 < s1.length + 1 := by omega
  have n2 : ¬ 9223372036854775807 < s1.length + 1 + 1 := by omega
  have n3 : ¬ 9223372036854775807 < s1.length + 1 + 1 + 1 := by omega
  have n4 : ¬ 9223372036854775807 < s1.length + 1 + 1 + 1 + s2.length := by omega
  clear h1 h2 H hs10 hs20 hf ha hs hat hs1 hk hl1 hl2 hl3
  go_enter Tryd.func31, Tryd.ntmps31
  go_wp2_with fail
  rw [← hW]
  clear hW g3w
  go_wp2_with fail
  refine wp_region_quiet_below (by kernel_rfl) (by kernel_rfl) ?_
  repeat (quiet_step (first | with_reducible exact HC1.out _ _ | with_reducible exact HC2.out _ _))
  refine wpQuiet_nil ?_
  intro _ hw'
  obtain ⟨⟨dq, osq⟩, hw''⟩ := hw'
  subst hw''
  go_wp2_with fail
  go_ret
  refine ⟨ret_str (Eq.trans (b := bs s1 ++ bs [32] ++ bs [94] ++ bs [32] ++ bs s2) rfl ?_), hb0.trans ((below_regrown W dq osq).mono (by have := heap_lt hbx; omega))⟩
  rw [bs_app, bs_app, bs_app, bs_app]
  simp

end Go.Proofs.YtioimhnebjiicaaDoor
