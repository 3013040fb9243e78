/-
  Proved here: the reference's strings and numbers: its String of a valid functor is the code's; its Digit, Within and Number, at each input.
-/
import Derived.Test.YtioimhnebjiicaaDoorStrD
namespace Go.Proofs.YtioimhnebjiicaaDoor
open Go.RowKit
open Go.Sort (grow)

set_option maxRecDepth 100000 in
set_option maxHeartbeats 800000 in
theorem digits1_any (n : Int) (h0 : 0 ≤ n) (h1 : n < 10) (w : World) : Calls Tryd.prog 45 #[.int .i64 n] w fun e w' => e = .returned (.string (bs (digs n))) ∧ w = w' := by
  have : n = 0 ∨ n = 1 ∨ n = 2 ∨ n = 3 ∨ n = 4 ∨ n = 5 ∨ n = 6 ∨ n = 7 ∨ n = 8 ∨ n = 9 := by omega
  rcases this with rfl | rfl | rfl | rfl | rfl | rfl | rfl | rfl | rfl | rfl <;>
  · go_enter Tryd.func45, Tryd.ntmps45
    go_wp2_with fail
    go_ret
    exact ⟨rfl, rfl⟩

set_option maxRecDepth 100000 in
set_option maxHeartbeats 800000 in
theorem digits_any (n : Int) (h0 : 0 ≤ n) (h1 : n ≤ 16) (w : World) : Calls Tryd.prog 45 #[.int .i64 n] w fun e w' => e = .returned (.string (bs (digs n))) ∧ w = w' := by
  by_cases h : n < 10
  · exact digits1_any n h0 h w
  · have : n = 10 ∨ n = 11 ∨ n = 12 ∨ n = 13 ∨ n = 14 ∨ n = 15 ∨ n = 16 := by omega
    have H1 := Lib.hid (digits1_any 1 (by omega) (by omega) w)
    clear h0 h1 h
    rcases this with rfl | rfl | rfl | rfl | rfl | rfl | rfl <;>
    · go_enter Tryd.func45, Tryd.ntmps45
      go_wp2_with fail
      refine H1.out.mono ?_
      rintro e w' ⟨rfl, rfl⟩
      go_wp2_with fail
      go_ret
      exact ⟨rfl, rfl⟩
end Go.Proofs.YtioimhnebjiicaaDoor

namespace Go.Proofs.YtioimhnebjiicaaDoor
open Go.RowKit
open Go.Sort (grow)

def InRef (t : T) : Prop := ∀ (S : Nat → Nat → Prop) (k n : Int) (a : Option Addr) (cap : Nat) (w : World), Sl S w a t → fieldsOk k n t.len = true → t.allOk = true → t.nodes ≤ 100 →
  Calls Tryd.prog 32 #[.agg #[.int .i64 k, .int .i64 n, .slice a t.len cap]] w fun e w' => e = .returned (.string (bs (innS (k, outF k n t)))) ∧ Below w.heap.size w w'
def OutRef (t : T) : Prop := ∀ (S : Nat → Nat → Prop) (k n : Int) (a : Option Addr) (cap : Nat) (w : World), Sl S w a t → fieldsOk k n t.len = true → t.allOk = true → t.nodes ≤ 100 →
  Calls Tryd.prog 21 #[.agg #[.int .i64 k, .int .i64 n, .slice a t.len cap]] w fun e w' => e = .returned (.string (bs (outF k n t))) ∧ Below w.heap.size w w'

set_option maxRecDepth 100000 in
set_option maxHeartbeats 800000 in
theorem str_else (t : T) (H : InRef t) (S : Nat → Nat → Prop) (k n : Int) (a : Option Addr) (cap : Nat) (w : World) (hs : Sl S w a t) (hf : fieldsOk k n t.len = true) (ha : t.allOk = true) (hn : t.nodes ≤ 100) (h2 : ¬ k = 2) (h3 : ¬ k = 3) :
    Calls Tryd.prog 21 #[.agg #[.int .i64 k, .int .i64 n, .slice a t.len cap]] w fun e w' => e = .returned (.string (bs (outF k n t))) ∧ Below w.heap.size w w' := by
  obtain ⟨W, hW⟩ : ∃ W, W = w.alloc (.cells #[.int .i64 k, .int .i64 n, .slice a t.len cap] 24) := ⟨_, rfl⟩
  have hb0 : Below w.heap.size w W := by rw [hW]; exact (Below.refl _ _).alloc (Nat.le_refl _) _
  have hbx : W.heap[w.heap.size]? = some (Obj.cells #[.int .i64 k, .int .i64 n, .slice a t.len cap] 24 (0, 0)) := by rw [hW]; exact heap_new _ _
  obtain ⟨c0, c1, c2⟩ := cells_of hbx
  have HC := Lib.hid (H S k n a cap W (hs.below hb0) hf ha hn)
  rw [innS_no _ _ h2 h3] at HC
  obtain ⟨o, ho⟩ : ∃ o, o = outF k n t := ⟨_, rfl⟩
  rw [← ho] at HC ⊢
  have e2 : (k == 2) = false := by simpa using h2
  have e3 : (k == 3) = false := by simpa using h3
  clear H hs hf ha hn ho hbx
  go_enter Tryd.func21, Tryd.ntmps21
  go_wp2_with fail
  rw [← hW]
  clear hW
  refine HC.out.mono ?_
  rintro e w1 ⟨rfl, hb1⟩
  go_wp2_with fail
  go_ret
  exact ⟨rfl, hb0.trans (hb1.mono hb0.size)⟩

set_option maxRecDepth 100000 in
set_option maxHeartbeats 1600000 in
theorem str_2 (S : Nat → Nat → Prop) (k1 n1 : Int) (kids : T) (k2 n2 : Int) (kids2 : T) (H : InRef kids) (H2 : InRef kids2) (a : Option Addr) (cap : Nat) (w : World) (hs : Sl S w a (.cons k1 n1 kids (.cons k2 n2 kids2 .nil)))
    (hf : fieldsOk k1 n1 kids.len = true) (ha : kids.allOk = true) (hn : kids.nodes ≤ 100) (hf2 : fieldsOk k2 n2 kids2.len = true) (ha2 : kids2.allOk = true) (hn2 : kids2.nodes ≤ 100) :
    Calls Tryd.prog 21 #[.agg #[.int .i64 2, .int .i64 0, .slice a 2 cap]] w fun e w' => e = .returned (.string (bs (innS (k1, outF k1 n1 kids) ++ [32, 42, 32] ++ innS (k2, outF k2 n2 kids2)))) ∧ Below w.heap.size w w' := by
  obtain ⟨b, o, rfl, hat⟩ := hs.addr (i := 0) (by simp [T.len])
  obtain ⟨_, d0, d1, a1, cap1, d2, hs1⟩ := hat.get (i := 0) (by rw [T.drop_zero])
  obtain ⟨_, f0, f1, a2, cap2, f2, hs2⟩ := hat.get (i := 1) (k := k2) (n := n2) (kids := kids2) (rest := .nil) rfl
  have hl1 := innS_len (k1, outF k1 n1 kids)
  have hl2 := innS_len (k2, outF k2 n2 kids2)
  have hl3 := outF_len k1 n1 kids
  have hl4 := outF_len k2 n2 kids2
  obtain ⟨W, hW⟩ : ∃ W, W = w.alloc (.cells #[.int .i64 2, .int .i64 0, .slice (some ⟨b, o, none⟩) 2 cap] 24) := ⟨_, rfl⟩
  have hb0 : Below w.heap.size w W := by rw [hW]; exact (Below.refl _ _).alloc (Nat.le_refl _) _
  have hbx : W.heap[w.heap.size]? = some (Obj.cells #[.int .i64 2, .int .i64 0, .slice (some ⟨b, o, none⟩) 2 cap] 24 (0, 0)) := by rw [hW]; exact heap_new _ _
  obtain ⟨c0, c1, c2⟩ := cells_of hbx
  simp only [Nat.mul_zero, Nat.add_zero, Nat.mul_one] at d0 d1 d2 f0 f1 f2
  replace d0 := cell_regrown (cell_below hb0 d0)
  replace d1 := cell_regrown (cell_below hb0 d1)
  replace d2 := cell_regrown (cell_below hb0 d2)
  replace f0 := cell_regrown (cell_below hb0 f0)
  replace f1 := cell_regrown (cell_below hb0 f1)
  replace f2 := cell_regrown (cell_below hb0 f2)
  have c0r := cell_regrown c0
  have c1r := cell_regrown c1
  have c2r := cell_regrown c2
  have h1 := fun d os => Calls.regrown_of (H S k1 n1 a1 cap1 (grow (redrawn W d) os) ((hs1.below hb0).below (below_regrown W d os)) hf ha hn)
  have h2 := fun d os => Calls.regrown_of (H2 S k2 n2 a2 cap2 (grow (redrawn W d) os) ((hs2.below hb0).below (below_regrown W d os)) hf2 ha2 hn2)
  obtain ⟨s1, hs10⟩ : ∃ s1, s1 = innS (k1, outF k1 n1 kids) := ⟨_, rfl⟩
  obtain ⟨s2, hs20⟩ : ∃ s2, s2 = innS (k2, outF k2 n2 kids2) := ⟨_, rfl⟩
  rw [← hs10] at h1 hl1 ⊢
  rw [← hs20] at h2 hl2 ⊢
  have HC1 := Lib.hid h1
  have HC2 := Lib.hid h2
  simp only at hl1 hl2
  have hz1 : s1.length ≤ 1000 := by omega
  have hz2 : s2.length ≤ 1000 := by omega
  have n1 : ¬ 9223372036854775807 < s1.length + 3 := by omega
  have n4 : ¬ 9223372036854775807 < s1.length + 3 + s2.length := by omega
  clear h1 h2 H H2 hs10 hs20 hf ha hf2 ha2 hs hat hs1 hs2 hl1 hl2 hl3 hl4
  go_enter Tryd.func21, Tryd.ntmps21
  go_wp2_with fail
  rw [← hW]
  clear hW
  refine wp_region_quiet_below (by kernel_rfl) (by kernel_rfl) ?_
  repeat (quiet_step (first | with_reducible exact HC1.out _ _ | with_reducible exact HC2.out _ _))
  refine wpQuiet_nil ?_
  intro _ hw'
  obtain ⟨⟨dq, osq⟩, hw''⟩ := hw'
  subst hw''
  go_wp2_with fail
  go_ret
  refine ⟨ret_str (Eq.trans (b := bs s1 ++ bs [32, 42, 32] ++ bs s2) rfl ?_), hb0.trans ((below_regrown W dq osq).mono (by have := heap_lt hbx; omega))⟩
  rw [bs_app, bs_app]

set_option maxRecDepth 100000 in
set_option maxHeartbeats 1600000 in
theorem str_3 (S : Nat → Nat → Prop) (k1 n1 : Int) (kids : T) (k2 n2 : Int) (kids2 : T) (H : InRef kids) (H2 : InRef kids2) (a : Option Addr) (cap : Nat) (w : World) (hs : Sl S w a (.cons k1 n1 kids (.cons k2 n2 kids2 .nil)))
    (hf : fieldsOk k1 n1 kids.len = true) (ha : kids.allOk = true) (hn : kids.nodes ≤ 100) (hf2 : fieldsOk k2 n2 kids2.len = true) (ha2 : kids2.allOk = true) (hn2 : kids2.nodes ≤ 100) :
    Calls Tryd.prog 21 #[.agg #[.int .i64 3, .int .i64 0, .slice a 2 cap]] w fun e w' => e = .returned (.string (bs (innS (k1, outF k1 n1 kids) ++ [32, 43, 32] ++ innS (k2, outF k2 n2 kids2)))) ∧ Below w.heap.size w w' := by
  obtain ⟨b, o, rfl, hat⟩ := hs.addr (i := 0) (by simp [T.len])
  obtain ⟨_, d0, d1, a1, cap1, d2, hs1⟩ := hat.get (i := 0) (by rw [T.drop_zero])
  obtain ⟨_, f0, f1, a2, cap2, f2, hs2⟩ := hat.get (i := 1) (k := k2) (n := n2) (kids := kids2) (rest := .nil) rfl
  have hl1 := innS_len (k1, outF k1 n1 kids)
  have hl2 := innS_len (k2, outF k2 n2 kids2)
  have hl3 := outF_len k1 n1 kids
  have hl4 := outF_len k2 n2 kids2
  obtain ⟨W, hW⟩ : ∃ W, W = w.alloc (.cells #[.int .i64 3, .int .i64 0, .slice (some ⟨b, o, none⟩) 2 cap] 24) := ⟨_, rfl⟩
  have hb0 : Below w.heap.size w W := by rw [hW]; exact (Below.refl _ _).alloc (Nat.le_refl _) _
  have hbx : W.heap[w.heap.size]? = some (Obj.cells #[.int .i64 3, .int .i64 0, .slice (some ⟨b, o, none⟩) 2 cap] 24 (0, 0)) := by rw [hW]; exact heap_new _ _
  obtain ⟨c0, c1, c2⟩ := cells_of hbx
  simp only [Nat.mul_zero, Nat.add_zero, Nat.mul_one] at d0 d1 d2 f0 f1 f2
  replace d0 := cell_regrown (cell_below hb0 d0)
  replace d1 := cell_regrown (cell_below hb0 d1)
  replace d2 := cell_regrown (cell_below hb0 d2)
  replace f0 := cell_regrown (cell_below hb0 f0)
  replace f1 := cell_regrown (cell_below hb0 f1)
  replace f2 := cell_regrown (cell_below hb0 f2)
  have c0r := cell_regrown c0
  have c1r := cell_regrown c1
  have c2r := cell_regrown c2
  have h1 := fun d os => Calls.regrown_of (H S k1 n1 a1 cap1 (grow (redrawn W d) os) ((hs1.below hb0).below (below_regrown W d os)) hf ha hn)
  have h2 := fun d os => Calls.regrown_of (H2 S k2 n2 a2 cap2 (grow (redrawn W d) os) ((hs2.below hb0).below (below_regrown W d os)) hf2 ha2 hn2)
  obtain ⟨s1, hs10⟩ : ∃ s1, s1 = innS (k1, outF k1 n1 kids) := ⟨_, rfl⟩
  obtain ⟨s2, hs20⟩ : ∃ s2, s2 = innS (k2, outF k2 n2 kids2) := ⟨_, rfl⟩
  rw [← hs10] at h1 hl1 ⊢
  rw [← hs20] at h2 hl2 ⊢
  have HC1 := Lib.hid h1
  have HC2 := Lib.hid h2
  simp only at hl1 hl2
  have hz1 : s1.length ≤ 1000 := by omega
  have hz2 : s2.length ≤ 1000 := by omega
  have n1 : ¬ 9223372036854775807 < s1.length + 3 := by omega
  have n4 : ¬ 9223372036854775807 < s1.length + 3 + s2.length := by omega
  clear h1 h2 H H2 hs10 hs20 hf ha hf2 ha2 hs hat hs1 hs2 hl1 hl2 hl3 hl4
  go_enter Tryd.func21, Tryd.ntmps21
  go_wp2_with fail
  rw [← hW]
  clear hW
  refine wp_region_quiet_below (by kernel_rfl) (by kernel_rfl) ?_
  repeat (quiet_step (first | with_reducible exact HC1.out _ _ | with_reducible exact HC2.out _ _))
  refine wpQuiet_nil ?_
  intro _ hw'
  obtain ⟨⟨dq, osq⟩, hw''⟩ := hw'
  subst hw''
  go_wp2_with fail
  go_ret
  refine ⟨ret_str (Eq.trans (b := bs s1 ++ bs [32, 43, 32] ++ bs s2) rfl ?_), hb0.trans ((below_regrown W dq osq).mono (by have := heap_lt hbx; omega))⟩
  rw [bs_app, bs_app]

set_option maxHeartbeats 800000 in
theorem inn_0 (a : Option Addr) (len cap : Nat) (w : World) :
    Calls Tryd.prog 32 #[.agg #[.int .i64 0, .int .i64 0, .slice a len cap]] w fun e w' => e = .returned (.string (bs [88])) ∧ Below w.heap.size w w' := by
  go_enter Tryd.func32, Tryd.ntmps32
  go_wp2_with fail
  go_ret
  exact ⟨rfl, (Below.refl _ _).alloc (Nat.le_refl _) _⟩

set_option maxHeartbeats 800000 in
theorem inn_1 (n : Int) (h0 : 0 ≤ n) (h1 : n ≤ 16) (a : Option Addr) (len cap : Nat) (w : World) :
    Calls Tryd.prog 32 #[.agg #[.int .i64 1, .int .i64 n, .slice a len cap]] w fun e w' => e = .returned (.string (bs (digs n))) ∧ Below w.heap.size w w' := by
  have HD := Lib.hid (fun u => digits_any n h0 h1 u)
  clear h0 h1
  go_enter Tryd.func32, Tryd.ntmps32
  go_wp2_with fail
  refine (HD.out _).mono ?_
  rintro e w' ⟨rfl, rfl⟩
  go_wp2_with fail
  go_ret
  exact ⟨rfl, (Below.refl _ _).alloc (Nat.le_refl _) _⟩

set_option maxRecDepth 100000 in
set_option maxHeartbeats 800000 in
theorem inn_5 (S : Nat → Nat → Prop) (k1 n1 : Int) (kids : T) (H : OutRef kids) (a : Option Addr) (cap : Nat) (w : World) (hs : Sl S w a (.cons k1 n1 kids .nil)) (hf : fieldsOk k1 n1 kids.len = true) (ha : kids.allOk = true) (hn : kids.nodes ≤ 100) :
    Calls Tryd.prog 32 #[.agg #[.int .i64 5, .int .i64 0, .slice a 1 cap]] w fun e w' => e = .returned (.string (bs (80 :: wrapS (outF k1 n1 kids)))) ∧ Below w.heap.size w w' := by
  obtain ⟨b, o, rfl, hat⟩ := hs.addr (i := 0) (by simp [T.len])
  obtain ⟨_, d0, d1, a1, cap1, d2, hs1⟩ := hat.get (i := 0) (by rw [T.drop_zero])
  have hl3 := outF_len k1 n1 kids
  obtain ⟨W, hW⟩ : ∃ W, W = w.alloc (.cells #[.int .i64 5, .int .i64 0, .slice (some ⟨b, o, none⟩) 1 cap] 24) := ⟨_, rfl⟩
  have hb0 : Below w.heap.size w W := by rw [hW]; exact (Below.refl _ _).alloc (Nat.le_refl _) _
  simp only [Nat.mul_zero, Nat.add_zero] at d0 d1 d2
  replace d0 := cell_below hb0 d0
  replace d1 := cell_below hb0 d1
  replace d2 := cell_below hb0 d2
  have d0w := d0
  have d1w := d1
  have d2w := d2
  rw [hW] at d0w d1w d2w
  have HC := Lib.hid (H S k1 n1 a1 cap1 W (hs1.below hb0) hf ha hn)
  obtain ⟨s, hs0⟩ : ∃ s, s = outF k1 n1 kids := ⟨_, rfl⟩
  rw [← hs0] at HC hl3 ⊢
  have m1 : ¬ 9223372036854775807 < 2 + s.length := by omega
  have m2 : ¬ 9223372036854775807 < 2 + s.length + 1 := by omega
  clear H hs0 hf ha hs hat hs1 hl3
  go_enter Tryd.func32, Tryd.ntmps32
  go_wp2_with fail
  rw [← hW]
  clear hW
  refine HC.out.mono ?_
  rintro e w1 ⟨rfl, hb1⟩
  go_wp2_with fail
  go_ret
  refine ⟨ret_str (Eq.trans (b := bs [80, 40] ++ bs s ++ bs [41]) rfl ?_), hb0.trans (hb1.mono hb0.size)⟩
  rw [bs_app, bs_app]
  simp [wrapS]

set_option maxRecDepth 100000 in
set_option maxHeartbeats 800000 in
theorem inn_6 (S : Nat → Nat → Prop) (k1 n1 : Int) (kids : T) (H : OutRef kids) (a : Option Addr) (cap : Nat) (w : World) (hs : Sl S w a (.cons k1 n1 kids .nil)) (hf : fieldsOk k1 n1 kids.len = true) (ha : kids.allOk = true) (hn : kids.nodes ≤ 100) :
    Calls Tryd.prog 32 #[.agg #[.int .i64 6, .int .i64 0, .slice a 1 cap]] w fun e w' => e = .returned (.string (bs (66 :: wrapS (outF k1 n1 kids)))) ∧ Below w.heap.size w w' := by
  obtain ⟨b, o, rfl, hat⟩ := hs.addr (i := 0) (by simp [T.len])
  obtain ⟨_, d0, d1, a1, cap1, d2, hs1⟩ := hat.get (i := 0) (by rw [T.drop_zero])
  have hl3 := outF_len k1 n1 kids
  obtain ⟨W, hW⟩ : ∃ W, W = w.alloc (.cells #[.int .i64 6, .int .i64 0, .slice (some ⟨b, o, none⟩) 1 cap] 24) := ⟨_, rfl⟩
  have hb0 : Below w.heap.size w W := by rw [hW]; exact (Below.refl _ _).alloc (Nat.le_refl _) _
  simp only [Nat.mul_zero, Nat.add_zero] at d0 d1 d2
  replace d0 := cell_below hb0 d0
  replace d1 := cell_below hb0 d1
  replace d2 := cell_below hb0 d2
  have d0w := d0
  have d1w := d1
  have d2w := d2
  rw [hW] at d0w d1w d2w
  have HC := Lib.hid (H S k1 n1 a1 cap1 W (hs1.below hb0) hf ha hn)
  obtain ⟨s, hs0⟩ : ∃ s, s = outF k1 n1 kids := ⟨_, rfl⟩
  rw [← hs0] at HC hl3 ⊢
  have m1 : ¬ 9223372036854775807 < 2 + s.length := by omega
  have m2 : ¬ 9223372036854775807 < 2 + s.length + 1 := by omega
  clear H hs0 hf ha hs hat hs1 hl3
  go_enter Tryd.func32, Tryd.ntmps32
  go_wp2_with fail
  rw [← hW]
  clear hW
  refine HC.out.mono ?_
  rintro e w1 ⟨rfl, hb1⟩
  go_wp2_with fail
  go_ret
  refine ⟨ret_str (Eq.trans (b := bs [66, 40] ++ bs s ++ bs [41]) rfl ?_), hb0.trans (hb1.mono hb0.size)⟩
  rw [bs_app, bs_app]
  simp [wrapS]

set_option maxRecDepth 100000 in
set_option maxHeartbeats 800000 in
theorem inn_7 (S : Nat → Nat → Prop) (k1 n1 : Int) (kids : T) (H : OutRef kids) (a : Option Addr) (cap : Nat) (w : World) (hs : Sl S w a (.cons k1 n1 kids .nil)) (hf : fieldsOk k1 n1 kids.len = true) (ha : kids.allOk = true) (hn : kids.nodes ≤ 100) :
    Calls Tryd.prog 32 #[.agg #[.int .i64 7, .int .i64 0, .slice a 1 cap]] w fun e w' => e = .returned (.string (bs (68 :: wrapS (outF k1 n1 kids)))) ∧ Below w.heap.size w w' := by
  obtain ⟨b, o, rfl, hat⟩ := hs.addr (i := 0) (by simp [T.len])
  obtain ⟨_, d0, d1, a1, cap1, d2, hs1⟩ := hat.get (i := 0) (by rw [T.drop_zero])
  have hl3 := outF_len k1 n1 kids
  obtain ⟨W, hW⟩ : ∃ W, W = w.alloc (.cells #[.int .i64 7, .int .i64 0, .slice (some ⟨b, o, none⟩) 1 cap] 24) := ⟨_, rfl⟩
  have hb0 : Below w.heap.size w W := by rw [hW]; exact (Below.refl _ _).alloc (Nat.le_refl _) _
  simp only [Nat.mul_zero, Nat.add_zero] at d0 d1 d2
  replace d0 := cell_below hb0 d0
  replace d1 := cell_below hb0 d1
  replace d2 := cell_below hb0 d2
  have d0w := d0
  have d1w := d1
  have d2w := d2
  rw [hW] at d0w d1w d2w
  have HC := Lib.hid (H S k1 n1 a1 cap1 W (hs1.below hb0) hf ha hn)
  obtain ⟨s, hs0⟩ : ∃ s, s = outF k1 n1 kids := ⟨_, rfl⟩
  rw [← hs0] at HC hl3 ⊢
  have m1 : ¬ 9223372036854775807 < 2 + s.length := by omega
  have m2 : ¬ 9223372036854775807 < 2 + s.length + 1 := by omega
  clear H hs0 hf ha hs hat hs1 hl3
  go_enter Tryd.func32, Tryd.ntmps32
  go_wp2_with fail
  rw [← hW]
  clear hW
  refine HC.out.mono ?_
  rintro e w1 ⟨rfl, hb1⟩
  go_wp2_with fail
  go_ret
  refine ⟨ret_str (Eq.trans (b := bs [68, 40] ++ bs s ++ bs [41]) rfl ?_), hb0.trans (hb1.mono hb0.size)⟩
  rw [bs_app, bs_app]
  simp [wrapS]
end Go.Proofs.YtioimhnebjiicaaDoor

namespace Go.Proofs.YtioimhnebjiicaaDoor
open Go.RowKit

set_option maxRecDepth 100000 in
set_option maxHeartbeats 1600000 in
theorem inn_bin (t : T) (S : Nat → Nat → Prop) (k n : Int) (a : Option Addr) (cap : Nat) (w : World) (hs : Sl S w a t)
    (H : ∀ u, Sl S u a t → Calls Tryd.prog 21 #[.agg #[.int .i64 k, .int .i64 n, .slice a t.len cap]] u fun e w' => e = .returned (.string (bs (outF k n t))) ∧ Below u.heap.size u w') (h2 : k = 2 ∨ k = 3) (hn : t.nodes ≤ 100) :
    Calls Tryd.prog 32 #[.agg #[.int .i64 k, .int .i64 n, .slice a t.len cap]] w fun e w' => e = .returned (.string (bs (wrapS (outF k n t)))) ∧ Below w.heap.size w w' := by
  obtain ⟨W, hW⟩ : ∃ W, W = w.alloc (.cells #[.int .i64 k, .int .i64 n, .slice a t.len cap] 24) := ⟨_, rfl⟩
  have hb0 : Below w.heap.size w W := by rw [hW]; exact (Below.refl _ _).alloc (Nat.le_refl _) _
  have hbx : W.heap[w.heap.size]? = some (Obj.cells #[.int .i64 k, .int .i64 n, .slice a t.len cap] 24 (0, 0)) := by rw [hW]; exact heap_new _ _
  obtain ⟨c0, c1, c2⟩ := cells_of hbx
  have HC := Lib.hid (H W (hs.below hb0))
  have hl := outF_len k n t
  obtain ⟨o, ho⟩ : ∃ o, o = outF k n t := ⟨_, rfl⟩
  rw [← ho] at HC hl ⊢
  have m1 : ¬ 9223372036854775807 < 1 + o.length := by omega
  have m2 : ¬ 9223372036854775807 < 1 + o.length + 1 := by omega
  clear H hs hn ho hbx hl
  rcases h2 with rfl | rfl <;>
  · go_enter Tryd.func32, Tryd.ntmps32
    go_wp2_with fail
    rw [← hW]
    clear hW
    refine HC.out.mono ?_
    rintro e w1 ⟨rfl, hb1⟩
    go_wp2_with fail
    go_ret
    refine ⟨ret_str (Eq.trans (b := bs [40] ++ bs o ++ bs [41]) rfl ?_), hb0.trans (hb1.mono hb0.size)⟩
    rw [bs_app, bs_app]
    simp [wrapS]

set_option maxRecDepth 100000 in
set_option maxHeartbeats 1600000 in
theorem inn_4 (n : Int) (h0 : 0 ≤ n) (h16 : n ≤ 16) (S : Nat → Nat → Prop) (k1 n1 : Int) (kids : T) (H : InRef kids) (a : Option Addr) (cap : Nat) (w : World) (hs : Sl S w a (.cons k1 n1 kids .nil)) (hf : fieldsOk k1 n1 kids.len = true) (ha : kids.allOk = true) (hn : kids.nodes ≤ 100) :
    Calls Tryd.prog 32 #[.agg #[.int .i64 4, .int .i64 n, .slice a 1 cap]] w fun e w' => e = .returned (.string (bs (basS (k1, outF k1 n1 kids) ++ [32, 94, 32] ++ digs n))) ∧ Below w.heap.size w w' := by
  obtain ⟨b, o, rfl, hat⟩ := hs.addr (i := 0) (by simp [T.len])
  obtain ⟨_, d0, d1, a1, cap1, d2, hs1⟩ := hat.get (i := 0) (by rw [T.drop_zero])
  have hl1 := innS_len (k1, outF k1 n1 kids)
  have hl2 := digs_len n
  have hl3 := outF_len k1 n1 kids
  obtain ⟨W, hW⟩ : ∃ W, W = w.alloc (.cells #[.int .i64 4, .int .i64 n, .slice (some ⟨b, o, none⟩) 1 cap] 24) := ⟨_, rfl⟩
  have hb0 : Below w.heap.size w W := by rw [hW]; exact (Below.refl _ _).alloc (Nat.le_refl _) _
  have hbx : W.heap[w.heap.size]? = some (Obj.cells #[.int .i64 4, .int .i64 n, .slice (some ⟨b, o, none⟩) 1 cap] 24 (0, 0)) := by rw [hW]; exact heap_new _ _
  obtain ⟨c0, c1, c2⟩ := cells_of hbx
  simp only [Nat.mul_zero, Nat.add_zero] at d0 d1 d2
  replace d0 := cell_below hb0 d0
  replace d1 := cell_below hb0 d1
  replace d2 := cell_below hb0 d2
  have d0w := d0
  have d1w := d1
  have d2w := d2
  rw [hW] at d0w d1w d2w
  have HC := Lib.hid (H S k1 n1 a1 cap1 W (hs1.below hb0) hf ha hn)
  have HD := Lib.hid (fun u => digits_any n h0 h16 u)
  have hbas : basS (k1, outF k1 n1 kids) = if k1 = 4 then wrapS (innS (k1, outF k1 n1 kids)) else innS (k1, outF k1 n1 kids) := by
    unfold basS
    by_cases h : k1 = 4
    · simp only [if_pos h]
      rw [innS_no _ _ (by omega) (by omega)]
    · simp only [if_neg h]
  rw [hbas]
  clear hbas
  obtain ⟨s, hs0⟩ : ∃ s, s = innS (k1, outF k1 n1 kids) := ⟨_, rfl⟩
  obtain ⟨g, hg⟩ : ∃ g, g = digs n := ⟨_, rfl⟩
  rw [← hs0] at HC hl1 ⊢
  rw [← hg] at HD hl2 ⊢
  simp only at hl1
  have m1 : ¬ 9223372036854775807 < 1 + s.length := by omega
  have m2 : ¬ 9223372036854775807 < 1 + s.length + 1 := by omega
  have m3 : ¬ 9223372036854775807 < 1 + s.length + 1 + 3 := by omega
  have m4 : ¬ 9223372036854775807 < 1 + s.length + 1 + 3 + g.length := by omega
  have m5 : ¬ 9223372036854775807 < s.length + 3 := by omega
  have m6 : ¬ 9223372036854775807 < s.length + 3 + g.length := by omega
  clear H hs0 hg hf ha hs hat hs1 hl1 hl2 hl3 h0 h16
  by_cases h4 : k1 = 4
  · subst h4
    rw [if_pos rfl]
    go_enter Tryd.func32, Tryd.ntmps32
    go_wp2_with fail
    rw [← hW]
    clear hW
    refine HC.out.mono ?_
    rintro e w1 ⟨rfl, hb1⟩
    replace c0 := cell_below hb1 c0
    replace c1 := cell_below hb1 c1
    replace c2 := cell_below hb1 c2
    replace d0 := cell_below hb1 d0
    go_wp2_with fail
    refine (HD.out _).mono ?_
    rintro e w' ⟨rfl, rfl⟩
    go_wp2_with fail
    go_ret
    refine ⟨ret_str (Eq.trans (b := bs [40] ++ bs s ++ bs [41] ++ bs [32, 94, 32] ++ bs g) rfl ?_), hb0.trans (hb1.mono hb0.size)⟩
    rw [bs_app, bs_app, bs_app, bs_app]
    simp [wrapS]
  · rw [if_neg h4]
    have e4 : (k1 == 4) = false := by simpa using h4
    go_enter Tryd.func32, Tryd.ntmps32
    go_wp2_with fail
    rw [← hW]
    clear hW
    refine HC.out.mono ?_
    rintro e w1 ⟨rfl, hb1⟩
    replace c0 := cell_below hb1 c0
    replace c1 := cell_below hb1 c1
    replace c2 := cell_below hb1 c2
    replace d0 := cell_below hb1 d0
    go_wp2_with fail
    refine (HD.out _).mono ?_
    rintro e w' ⟨rfl, rfl⟩
    go_wp2_with fail
    go_ret
    refine ⟨ret_str (Eq.trans (b := bs s ++ bs [32, 94, 32] ++ bs g) rfl ?_), hb0.trans (hb1.mono hb0.size)⟩
    rw [bs_app, bs_app]
end Go.Proofs.YtioimhnebjiicaaDoor

namespace Go.Proofs.YtioimhnebjiicaaDoor
open Go.RowKit

theorem ref_any : ∀ t : T, InRef t ∧ OutRef t := by
  refine T.ind ?_
  intro t ih
  have out23 : ∀ (S : Nat → Nat → Prop) (k n : Int) (a : Option Addr) (cap : Nat) (w : World), Sl S w a t → fieldsOk k n t.len = true → t.allOk = true → t.nodes ≤ 100 → k = 2 ∨ k = 3 →
      Calls Tryd.prog 21 #[.agg #[.int .i64 k, .int .i64 n, .slice a t.len cap]] w fun e w' => e = .returned (.string (bs (outF k n t))) ∧ Below w.heap.size w w' := by
    intro S k n a cap w hs hf ha hn hk23
    rcases fields_cases hf with ⟨rfl, rfl, hl⟩ | ⟨rfl, h1, h2, hl⟩ | ⟨_, rfl, hl⟩ | ⟨rfl, h1, h2, hl⟩ | ⟨hk567, rfl, hl⟩
    · omega
    · omega
    · obtain ⟨k1, n1, t1, k2, n2, t2, rfl⟩ := T.len2 hl
      simp only [T.allOk, Bool.and_eq_true, Bool.and_true] at ha
      simp only [T.nodes] at hn
      have H1 := (ih 0 k1 n1 t1 _ rfl).1
      have H2 := (ih 1 k2 n2 t2 .nil rfl).1
      rcases hk23 with rfl | rfl
      · exact str_2 S k1 n1 t1 k2 n2 t2 H1 H2 a cap w hs ha.1.1 ha.1.2 (by omega) ha.2.1 ha.2.2 (by omega)
      · exact str_3 S k1 n1 t1 k2 n2 t2 H1 H2 a cap w hs ha.1.1 ha.1.2 (by omega) ha.2.1 ha.2.2 (by omega)
    · omega
    · omega
  have inn : InRef t := by
    intro S k n a cap w hs hf ha hn
    by_cases hk : k = 2 ∨ k = 3
    · rw [innS_yes _ _ hk]
      have OUT : ∀ u, Sl S u a t → Calls Tryd.prog 21 #[.agg #[.int .i64 k, .int .i64 n, .slice a t.len cap]] u fun e w' => e = .returned (.string (bs (outF k n t))) ∧ Below u.heap.size u w' := fun u hu => out23 S k n a cap u hu hf ha hn hk
      exact inn_bin t S k n a cap w hs OUT hk hn
    · rw [innS_no _ _ (fun h => hk (Or.inl h)) (fun h => hk (Or.inr h))]
      rcases fields_cases hf with ⟨rfl, rfl, hl⟩ | ⟨rfl, h1, h2, hl⟩ | ⟨hk23, rfl, hl⟩ | ⟨rfl, h1, h2, hl⟩ | ⟨hk567, rfl, hl⟩
      · exact inn_0 a _ cap w
      · exact inn_1 n (by omega) h2 a _ cap w
      · exact absurd hk23 hk
      · obtain ⟨k1, n1, t1, rfl⟩ := T.len1 hl
        simp only [T.allOk, Bool.and_eq_true, Bool.and_true] at ha
        simp only [T.nodes] at hn
        exact inn_4 n (by omega) (by omega) S k1 n1 t1 (ih 0 k1 n1 t1 _ rfl).1 a cap w hs ha.1 ha.2 (by omega)
      · obtain ⟨k1, n1, t1, rfl⟩ := T.len1 hl
        simp only [T.allOk, Bool.and_eq_true, Bool.and_true] at ha
        simp only [T.nodes] at hn
        have H1 := (ih 0 k1 n1 t1 _ rfl).2
        rcases hk567 with rfl | rfl | rfl
        · exact inn_5 S k1 n1 t1 H1 a cap w hs ha.1 ha.2 (by omega)
        · exact inn_6 S k1 n1 t1 H1 a cap w hs ha.1 ha.2 (by omega)
        · exact inn_7 S k1 n1 t1 H1 a cap w hs ha.1 ha.2 (by omega)
  refine ⟨inn, fun S k n a cap w hs hf ha hn => ?_⟩
  by_cases hk : k = 2 ∨ k = 3
  · exact out23 S k n a cap w hs hf ha hn hk
  · exact str_else t inn S k n a cap w hs hf ha hn (fun h => hk (Or.inl h)) (fun h => hk (Or.inr h))

/-- The reference's String of a valid functor is the code's. -/
theorem stringRef_any (S : Nat → Nat → Prop) (t : T) (k n : Int) (a : Option Addr) (cap : Nat) (w : World) (hs : Sl S w a t) (hv : valid k n t = true) :
    Calls Tryd.prog 21 #[.agg #[.int .i64 k, .int .i64 n, .slice a t.len cap]] w fun e w' => e = .returned (.string (bs (outF k n t))) ∧ Below w.heap.size w w' := by
  obtain ⟨h1, h2, h3, h4⟩ := valid_parts hv
  exact (ref_any t).2 S k n a cap w hs h3 h4 (by omega)
end Go.Proofs.YtioimhnebjiicaaDoor

namespace Go.Proofs.YtioimhnebjiicaaDoor
open Go.RowKit

set_option maxHeartbeats 400000 in
theorem digitRef_any (c : Int) (w : World) : Calls Tryd.prog 57 #[.int .u8 c] w fun e w' => e = .returned (.bool (isD c)) ∧ w = w' := by
  by_cases h1 : 48 ≤ c
  · by_cases h2 : c ≤ 57
    · have hf : isD c = true := by simp [isD, h1, h2]
      have HF := Lib.hid hf
      clear hf
      go_enter Tryd.func57, Tryd.ntmps57
      go_wp2
      go_ret
      exact ⟨by rw [HF.out]; rfl, rfl⟩
    · have hf : isD c = false := by simp [isD, h2]
      have HF := Lib.hid hf
      clear hf
      go_enter Tryd.func57, Tryd.ntmps57
      go_wp2
      go_ret
      exact ⟨by rw [HF.out]; rfl, rfl⟩
  · have hf : isD c = false := by simp [isD, h1]
    have HF := Lib.hid hf
    clear hf
    go_enter Tryd.func57, Tryd.ntmps57
    go_wp2
    go_ret
    exact ⟨by rw [HF.out]; rfl, rfl⟩

/-- Whether a string holds a byte. -/
def inS (s : ByteArray) (c : Int) : Prop := ∃ i, ∃ h : i < s.size, ((s[i]'h).toNat : Int) = c

def SaysIn (s : ByteArray) (c : Int) (w : World) (e : Ending) (w' : World) : Prop := ∃ b, e = .returned (.bool b) ∧ (b = true ↔ inS s c) ∧ w = w'

set_option maxHeartbeats 800000 in
theorem within_any (s : ByteArray) (c : Int) (w : World) (hs : s.size ≤ 1000) : Calls Tryd.prog 58 #[.string s, .int .u8 c] w (SaysIn s c w) := by
  go_enter Tryd.func58, Tryd.ntmps58
  go_wp2_with fail
  go_loop [5] (fun i => ∃ j : Nat, j ≤ s.size ∧ i = .int .i64 j ∧ ∀ i, i < j → ∀ h : i < s.size, ¬ ((s[i]'h).toNat : Int) = c) (fun i => s.size - (intOf i).toNat)
  case atStart => exact ⟨0, Nat.zero_le _, rfl, fun i hi => by omega⟩
  case round =>
    obtain ⟨j, hj, rfl, hno⟩ := hrel
    have HN := Lib.hid hno
    clear hno
    by_cases hlt : j < s.size
    · cases hc : ((s[j].toNat : Int) == c)
      · go_wp2_with fail
        go_round
        case rel =>
          refine ⟨j + 1, by omega, by go_num, fun i hi h => ?_⟩
          by_cases hij : i = j
          · subst hij; simpa using hc
          · exact HN.out i (by omega) h
        case measure => simp [intOf]; omega
      · go_wp2_with fail
        go_ret
        exact ⟨true, rfl, ⟨fun _ => ⟨j, hlt, by simpa using hc⟩, fun _ => rfl⟩, rfl⟩
    · go_wp2_with fail
      go_ret
      refine ⟨false, rfl, ⟨fun h => (by cases h), fun h => ?_⟩, rfl⟩
      obtain ⟨i, hi, he⟩ := h
      exact absurd he (HN.out i (by omega) hi)
end Go.Proofs.YtioimhnebjiicaaDoor

namespace Go.Proofs.YtioimhnebjiicaaDoor
open Go.RowKit

/-- The number that digits make, at most 17. -/
def cap17 (a : Int) : List UInt8 → Int
  | [] => a
  | c :: r => cap17 (min (10 * a + ((c.toNat : Int) - 48)) 17) r

theorem cap17_app (a : Int) (l m : List UInt8) : cap17 a (l ++ m) = cap17 (cap17 a l) m := by
  induction l generalizing a with
  | nil => rfl
  | cons c r ih => simp only [List.cons_append, cap17]; exact ih _

theorem cap17_top (l : List UInt8) (hd : ∀ c ∈ l, isD (c.toNat : Int) = true) : cap17 17 l = 17 := by
  induction l with
  | nil => rfl
  | cons c r ih =>
    have h := hd c (by simp)
    simp only [isD, Bool.and_eq_true, decide_eq_true_eq] at h
    simp only [cap17]
    rw [show min (10 * 17 + ((c.toNat : Int) - 48)) 17 = 17 by omega]
    exact ih fun x hx => hd x (by simp [hx])

theorem dig_cap (a : Int) (l : List UInt8) (hd : ∀ c ∈ l, isD (c.toNat : Int) = true) : dig a l = (cap17 a l, []) := by
  induction l generalizing a with
  | nil => rfl
  | cons c r ih =>
    simp only [dig, cap17]
    rw [if_pos (hd c (by simp))]
    exact ih _ fun x hx => hd x (by simp [hx])

def SaysNum (l : List UInt8) (w : World) (e : Ending) (w' : World) : Prop := ∃ v : Int, e = .returned (.int .i64 v) ∧ min v 17 = cap17 0 l ∧ 0 ≤ v ∧ v ≤ 9223372036854775807 ∧ w = w'

set_option maxRecDepth 100000 in
set_option maxHeartbeats 1600000 in
theorem numRef_any (l : List UInt8) (w : World) (hs : l.length ≤ 50000) (hd : ∀ c ∈ l, isD (c.toNat : Int) = true) : Calls Tryd.prog 72 #[.string (bs l)] w (SaysNum l w) := by
  have HDD := Lib.hid hd
  clear hd
  have hsz : (bs l).size = l.length := by simp [ByteArray.size]
  obtain ⟨s, hs0⟩ : ∃ s, s = bs l := ⟨_, rfl⟩
  rw [← hs0] at hsz ⊢
  have HS0 := Lib.hid hs0
  clear hs0
  go_enter Tryd.func72, Tryd.ntmps72
  go_wp2_with fail
  go_loop [3, 4, 5] (fun x i _ => ∃ (j : Nat) (v : Int), j ≤ s.size ∧ i = .int .i64 j ∧ x = .int .i64 v ∧ min v 17 = cap17 0 (l.take j) ∧ 0 ≤ v ∧ v ≤ 9223372036854775807) (fun _ i _ => s.size - (intOf i).toNat)
  case atStart => exact ⟨0, 0, Nat.zero_le _, rfl, rfl, by simp [cap17]; omega, by omega, by omega⟩
  case round =>
    obtain ⟨j, v, hj, rfl, rfl, hv, h0, h1⟩ := hrel
    have HV := Lib.hid hv
    clear hv
    by_cases hlt : j < s.size
    · have hget : s[j] = l[j]'(by omega) := by
        have := HS0.out
        subst this
        simp [ByteArray.getElem_eq_getElem_data]
      have hdj := HDD.out (l[j]'(by omega)) (List.getElem_mem _)
      rw [← hget] at hdj
      simp only [isD, Bool.and_eq_true, decide_eq_true_eq] at hdj
      obtain ⟨p1, p2⟩ := hdj
      have HG := Lib.hid hget
      clear hget
      obtain ⟨x, hx⟩ : ∃ x : Int, x = (s[j].toNat : Int) := ⟨_, rfl⟩
      rw [← hx] at p1 p2
      have fin1 : (9223372036854775807 - (x - 48)) / 10 < v → cap17 0 l = 17 := by
        intro hg
        have hv := HV.out
        have hb : 17 ≤ v := by omega
        have : l = l.take j ++ l.drop j := (List.take_append_drop _ _).symm
        rw [this, cap17_app, ← hv, show min v 17 = 17 by omega]
        exact cap17_top _ fun c hc => HDD.out c (List.drop_subset _ _ hc)
      have fin2 : min (10 * v + (x - 48)) 17 = cap17 0 (l.take (j + 1)) := by
        have hv := HV.out
        rw [List.take_succ_eq_append_getElem (by omega), cap17_app, ← hv]
        simp only [cap17]
        rw [← HG.out, ← hx]
        omega
      have F1 := Lib.hid fin1
      have F2 := Lib.hid fin2
      clear fin1 fin2
      rw [hx] at F1 F2 p1 p2
      clear hx
      go_wp2_with fail
      · go_ret
        have hg : (9223372036854775807 - ((s[j].toNat : Int) - 48)) / 10 < v := by assumption
        exact ⟨9223372036854775807, rfl, by rw [F1.out hg]; omega, by omega, by omega, rfl⟩
      · have hle : v ≤ (9223372036854775807 - ((s[j].toNat : Int) - 48)) / 10 := by assumption
        have hle2 : 10 * v + ((s[j].toNat : Int) - 48) ≤ 9223372036854775807 := by omega
        go_round
        case rel => exact ⟨j + 1, _, by omega, by go_num, rfl, F2.out, by omega, by omega⟩
        case measure => simp [intOf]; omega
    · go_wp2_with fail
      go_ret
      have := HV.out
      rw [List.take_of_length_le (by omega)] at this
      exact ⟨v, rfl, this, h0, h1, rfl⟩
end Go.Proofs.YtioimhnebjiicaaDoor
