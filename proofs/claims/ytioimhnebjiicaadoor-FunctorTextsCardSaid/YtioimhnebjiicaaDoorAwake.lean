/-
  Proved here: the calls of the law are made at each functor.
-/
import Derived.Test.YtioimhnebjiicaaDoorPoly
import Derived.KernelRfl
namespace Go.Proofs.YtioimhnebjiicaaDoor
open Go.RowKit

theorem parse_any (s : ByteArray) (w : World) (h : s.size ≤ 1000000) (hk : Kinds w) : Calls Tryd.prog 22 #[.string s] w fun e w' => ∃ a cap, ParsePost s w e w' a cap := by
  by_cases hl : 40000 < s.size
  · exact parse_large s w hl h
  · exact parse_small s w (by omega) hk

/-- Parse at a text whose functor is known. -/
theorem parse_at (s : ByteArray) (f : F) (er : Int) (w : World) (h : s.size ≤ 1000000) (hk : Kinds w) (hp : parseOf s = (f, er)) :
    Calls Tryd.prog 22 #[.string s] w fun e w' => ∃ a cap, e = .returned (.tuple #[f.val a cap, .int .i64 er]) ∧ Sl (SP w.heap.size) w' a f.t ∧ Below w.heap.size w w' :=
  (parse_any s w h hk).mono fun e w' ⟨a, cap, h1, h2, h3⟩ => ⟨a, cap, by rw [h1, hp], by rw [hp] at h2; exact h2, h3⟩

def fA : F := ⟨3, 0, .cons 1 1 .nil (.cons 2 0 (.cons 1 3 .nil (.cons 0 0 .nil .nil)) .nil)⟩
theorem pA : parseOf ⟨#[49, 43, 40, 51, 42, 88, 41]⟩ = (fA, 0) := by decide +kernel
theorem pB : parseOf ⟨#[40, 40, 88, 41, 41]⟩ = (zeroF, 0) := by decide +kernel
theorem pC : parseOf ⟨#[50, 42, 88, 42, 88]⟩ = (zeroF, 11) := by decide +kernel
theorem pD : parseOf ⟨#[48, 32, 43, 32, 88]⟩ = (zeroF, 10) := by decide +kernel
theorem sA : stringOf fA.k fA.n fA.t = ([49, 32, 43, 32, 40, 51, 32, 42, 32, 88, 41], 0) := by decide +kernel
theorem lA : lackB [5, 6, 7] fA.k fA.n fA.t = true := by decide +kernel
theorem vA : faultOf fA.k fA.n fA.t = 0 := by decide +kernel

theorem string_at (S : Nat → Nat → Prop) (f : F) (a : Option Addr) (cap : Nat) (w : World) (l : List UInt8) (er : Int) (hs : Sl S w a f.t) (hk : Kinds w) (hp : stringOf f.k f.n f.t = (l, er)) :
    Calls Tryd.prog 20 #[.agg #[.int .i64 f.k, .int .i64 f.n, .slice a f.t.len cap]] w fun e w' => e = .returned (.tuple #[.string (bs l), .int .i64 er]) ∧ Below w.heap.size w w' :=
  (string_any S f.t f.k f.n a cap w hs hk).mono fun e w' ⟨h1, h2⟩ => ⟨by rw [h1, hp], h2⟩
theorem poly_at (S : Nat → Nat → Prop) (f : F) (a : Option Addr) (cap : Nat) (w : World) (b : Bool) (er : Int) (hs : Sl S w a f.t) (hk : Kinds w) (hp : lackB [5, 6, 7] f.k f.n f.t = b) (hf : faultOf f.k f.n f.t = er) :
    Calls Tryd.prog 11 #[.agg #[.int .i64 f.k, .int .i64 f.n, .slice a f.t.len cap]] w fun e w' => e = .returned (.tuple #[.bool b, .int .i64 er]) ∧ Below w.heap.size w w' :=
  (poly_any S f.t f.k f.n a cap w hs hk).mono fun e w' ⟨h1, h2⟩ => ⟨by rw [h1, hp, hf], h2⟩
theorem same_at (S S' : Nat → Nat → Prop) (f g : F) (a a' : Option Addr) (cap cap' : Nat) (w : World) (hs : Sl S w a f.t) (hs' : Sl S' w a' g.t) (hfg : f = g) :
    Calls Tryd.prog 16 #[.agg #[.int .i64 f.k, .int .i64 f.n, .slice a f.t.len cap], .agg #[.int .i64 g.k, .int .i64 g.n, .slice a' g.t.len cap']] w fun e w' => e = .returned (.bool true) ∧ Below w.heap.size w w' :=
  (sameRef_any S S' f.t g.t f.k f.n g.k g.n a a' cap cap' w hs hs').mono fun e w' ⟨h1, h2⟩ => ⟨by rw [h1, hfg]; simp, h2⟩

set_option maxRecDepth 100000 in
set_option maxHeartbeats 3200000 in
theorem awake_any (w : World) (hk : Kinds w) : Calls Tryd.prog 8 #[] w fun e w' => e = .returned (.bool true) ∧ Below w.heap.size w w' := by
  have H1 := Lib.hid (parse_at _ _ _ w (by decide) hk pA)
  go_enter Tryd.func8, Tryd.ntmps8
  go_wp2_with fail
  refine H1.out.mono ?_
  rintro e w1 ⟨a, cap, rfl, hs1, hb1⟩
  clear H1
  obtain ⟨f, hf⟩ : ∃ f, f = fA := ⟨_, rfl⟩
  rw [← hf] at hs1 ⊢
  have HF := Lib.hid hf
  clear hf
  obtain ⟨W1, hW1⟩ : ∃ W1, W1 = w1.alloc (.cells #[.int .i64 f.k, .int .i64 f.n, .slice a f.t.len cap] 24) := ⟨_, rfl⟩
  have hB1 : Below w1.heap.size w1 W1 := by rw [hW1]; exact (Below.refl _ _).alloc (Nat.le_refl _) _
  have hx1 : W1.heap[w1.heap.size]? = some (Obj.cells #[.int .i64 f.k, .int .i64 f.n, .slice a f.t.len cap] 24 (0, 0)) := by rw [hW1]; exact heap_new _ _
  have hk1 : Kinds W1 := (hk.below hb1).below hB1
  have hs1' := hs1.below hB1
  have hBw : Below w.heap.size w W1 := hb1.trans (hB1.mono hb1.size)
  go_wp2_with fail
  rw [← hW1]
  clear hW1
  refine (string_at _ f a cap W1 [49, 32, 43, 32, 40, 51, 32, 42, 32, 88, 41] 0 hs1' hk1 (by have := sA; rw [← HF.out] at this; exact this)).mono ?_
  rintro e w2 ⟨rfl, hb2⟩
  have hk2 := hk1.below hb2
  go_wp2_with fail
  refine (parse_at _ _ _ w2 (by decide) hk2 pB).mono ?_
  rintro e w3 ⟨a3, cap3, rfl, hs3, hb3⟩
  have hk3 := hk2.below hb3
  have hs3' : Sl (SP w2.heap.size) w3 a3 zeroF.t := hs3
  obtain ⟨z, hz⟩ : ∃ z, z = zeroF := ⟨_, rfl⟩
  rw [← hz] at hs3 ⊢
  clear hs3'
  have HZ := Lib.hid hz
  clear hz
  obtain ⟨W3, hW3⟩ : ∃ W3, W3 = w3.alloc (.cells #[.int .i64 z.k, .int .i64 z.n, .slice a3 z.t.len cap3] 24) := ⟨_, rfl⟩
  have hB3 : Below w3.heap.size w3 W3 := by rw [hW3]; exact (Below.refl _ _).alloc (Nat.le_refl _) _
  have hx3 : W3.heap[w3.heap.size]? = some (Obj.cells #[.int .i64 z.k, .int .i64 z.n, .slice a3 z.t.len cap3] 24 (0, 0)) := by rw [hW3]; exact heap_new _ _
  have hkW3 := hk3.below hB3
  have hBw3 : Below w.heap.size w W3 := hBw.trans ((hb2.trans ((hb3.trans (hB3.mono hb3.size)).mono hb2.size)).mono hBw.size)
  have hB13 : Below W1.heap.size W1 W3 := hb2.trans ((hb3.trans (hB3.mono hb3.size)).mono hb2.size)
  have hx1' : W3.heap[w1.heap.size]? = some (Obj.cells #[.int .i64 f.k, .int .i64 f.n, .slice a f.t.len cap] 24 (0, 0)) := by rw [hB13.block _ (heap_lt hx1)]; exact hx1
  have hs13 := hs1'.below hB13
  have hs33 := hs3.below hB3
  go_wp2_with fail
  rw [← hW3]
  clear hW3
  refine (parse_at _ _ _ W3 (by decide) hkW3 pC).mono ?_
  rintro e w5 ⟨a5, cap5, rfl, hs5, hb5⟩
  clear hs5
  have hk5 := hkW3.below hb5
  obtain ⟨W5, hW5⟩ : ∃ W5, W5 = w5.alloc (.cells #[.int .i64 zeroF.k, .int .i64 zeroF.n, .slice a5 zeroF.t.len cap5] 24) := ⟨_, rfl⟩
  have hB5 : Below w5.heap.size w5 W5 := by rw [hW5]; exact (Below.refl _ _).alloc (Nat.le_refl _) _
  have hkW5 := hk5.below hB5
  have hB35 : Below W3.heap.size W3 W5 := hb5.trans (hB5.mono hb5.size)
  go_wp2_with fail
  rw [← hW5]
  clear hW5
  refine (parse_at _ _ _ W5 (by decide) hkW5 pD).mono ?_
  rintro e w6 ⟨a6, cap6, rfl, hs6, hb6⟩
  clear hs6
  have hk6 := hkW5.below hb6
  obtain ⟨W6, hW6⟩ : ∃ W6, W6 = w6.alloc (.cells #[.int .i64 zeroF.k, .int .i64 zeroF.n, .slice a6 zeroF.t.len cap6] 24) := ⟨_, rfl⟩
  have hB6 : Below w6.heap.size w6 W6 := by rw [hW6]; exact (Below.refl _ _).alloc (Nat.le_refl _) _
  have hkW6 := hk6.below hB6
  have hB36 : Below W3.heap.size W3 W6 := hB35.trans ((hb6.trans (hB6.mono hb6.size)).mono hB35.size)
  have y1 : W6.heap[w1.heap.size]? = some (Obj.cells #[.int .i64 f.k, .int .i64 f.n, .slice a f.t.len cap] 24 (0, 0)) := by rw [hB36.block _ (heap_lt hx1')]; exact hx1'
  have y3 : W6.heap[w3.heap.size]? = some (Obj.cells #[.int .i64 z.k, .int .i64 z.n, .slice a3 z.t.len cap3] 24 (0, 0)) := by rw [hB36.block _ (heap_lt hx3)]; exact hx3
  obtain ⟨c0, c1, c2⟩ := cells_of y1
  have c0w := c0
  have c1w := c1
  have c2w := c2
  rw [hW6] at c0w c1w c2w
  go_wp2_with fail
  rw [← hW6]
  clear hW6 c0w c1w c2w
  refine (poly_at _ f a cap W6 true 0 (hs13.below hB36) hkW6 (by have := lA; rw [← HF.out] at this; exact this) (by have := vA; rw [← HF.out] at this; exact this)).mono ?_
  rintro e w7 ⟨rfl, hb7⟩
  obtain ⟨d0, d1, d2⟩ := cells_of y3
  replace d0 := cell_below hb7 d0
  replace d1 := cell_below hb7 d1
  replace d2 := cell_below hb7 d2
  go_wp2_with fail
  refine (same_at _ (SP 0) z ⟨0, 0, .nil⟩ a3 none cap3 0 w7 ((hs33.below hB36).below hb7) ⟨by simp [T.len], rfl⟩ HZ.out).mono ?_
  rintro e w8 ⟨rfl, hb8⟩
  go_wp2_with fail
  go_ret
  exact ⟨rfl, hBw3.trans ((hB36.trans ((hb7.trans (hb8.mono hb7.size)).mono hB36.size)).mono hBw3.size)⟩
end Go.Proofs.YtioimhnebjiicaaDoor
