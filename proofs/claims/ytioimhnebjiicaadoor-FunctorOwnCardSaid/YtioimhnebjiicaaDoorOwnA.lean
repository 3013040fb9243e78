/-
  Proved here: the law FunctorOwn returns true at each functor; the condition is that the table of the kinds lies as the program's text lays it.
-/
import Derived.Test.YtioimhnebjiicaaDoorChgA
import Derived.Test.YtioimhnebjiicaaDoorBackB
namespace Go.Proofs.YtioimhnebjiicaaDoor
open Go.RowKit

/-- A functor lies in a box. -/
structure Box (B : Nat) (k n : Int) (s : Value) (u : World) : Prop where
  c0 : u.cell? ⟨B, 0, none⟩ = some (.int .i64 k)
  c1 : u.cell? ⟨B, 1, none⟩ = some (.int .i64 n)
  c2 : u.cell? ⟨B, 2, none⟩ = some s
theorem Box.below {B : Nat} {k n : Int} {s : Value} {u u' : World} (h : Box B k n s u) (hb : Below u.heap.size u u') : Box B k n s u' :=
  ⟨cell_below hb h.c0, cell_below hb h.c1, cell_below hb h.c2⟩
theorem Box.mk' {B : Nat} {k n : Int} {s : Value} {u : World} (h : u.heap[B]? = some (Obj.cells #[.int .i64 k, .int .i64 n, s] 24 (0, 0))) : Box B k n s u := by
  obtain ⟨a, b, c⟩ := cells_of h
  exact ⟨a, b, c⟩

theorem pNil : parseOf (bs []) = (zeroF, 11) := by decide +kernel

set_option maxRecDepth 100000 in
set_option maxHeartbeats 3200000 in
theorem own_any (S : Nat → Nat → Prop) (t : T) (k n : Int) (a : Option Addr) (cap : Nat) (w : World) (hs : Sl S w a t) (hk : Kinds w) :
    Calls Tryd.prog 6 #[.agg #[.int .i64 k, .int .i64 n, .slice a t.len cap]] w fun e w' => e = .returned (.bool true) ∧ Below w.heap.size w w' := by
  obtain ⟨W, hW⟩ : ∃ W, W = w.alloc (.cells #[.int .i64 k, .int .i64 n, .slice a t.len cap] 24) := ⟨_, rfl⟩
  have hb0 : Below w.heap.size w W := by rw [hW]; exact (Below.refl _ _).alloc (Nat.le_refl _) _
  have hbx : Box w.heap.size k n (.slice a t.len cap) W := Box.mk' (by rw [hW]; exact heap_new _ _)
  obtain ⟨c0, c1, c2⟩ := hbx
  have hsW := hs.below hb0
  have hkW := hk.below hb0
  clear hs hk
  cases hf : decide (1 + (t.nodes : Int) ≤ 2000)
  · have HF := Lib.hid (few_at S t k n a cap W false hsW hf)
    clear hf hsW
    go_enter Tryd.func6, Tryd.ntmps6
    go_wp2_with fail
    rw [← hW]
    clear hW
    refine HF.out.mono ?_
    rintro e w1 ⟨rfl, hb1⟩
    go_wp2_with fail
    refine (awake_any _ (hkW.below hb1)).mono ?_
    rintro e w2 ⟨rfl, hb2⟩
    go_wp2_with fail
    go_ret
    exact ⟨rfl, hb0.trans ((hb1.trans (hb2.mono hb1.size)).mono hb0.size)⟩
  have HF := Lib.hid (few_at S t k n a cap W true hsW hf)
  have hn : t.nodes ≤ 100000 := by have := of_decide_eq_true hf; omega
  clear hf
  obtain ⟨l, er, pf, per, hst, hp, hls, hq⟩ : ∃ l er pf per, stringOf k n t = (l, er) ∧ parseOf (bs l) = (pf, per) ∧ l.length ≤ 1000 ∧ ((er = 10) ∨ (er = 0 ∧ pf = ⟨k, n, t⟩ ∧ per = 0)) := by
    cases hv : valid k n t
    · exact ⟨[], 10, zeroF, 11, by unfold stringOf; rw [hv]; rfl, pNil, by simp, Or.inl rfl⟩
    · refine ⟨outF k n t, 0, ⟨k, n, t⟩, 0, by unfold stringOf; rw [hv]; rfl, parse_back hv 0 (by omega), ?_, Or.inr ⟨rfl, rfl, rfl⟩⟩
      have := outF_len k n t
      have := (valid_parts hv).1
      omega
  have HP := Lib.hid (fun u (hu : Kinds u) => parse_at (bs l) pf per u (by simp [ByteArray.size]; omega) hu hp)
  have HS := Lib.hid (fun u (hs : Sl S u a t) (hu : Kinds u) => string_at S ⟨k, n, t⟩ a cap u l er hs hu hst)
  have HCP := Lib.hid (fun u (hs : Sl S u a t) => copy_any S t k n a cap u hs hn)
  have HQ := Lib.hid hq
  clear hst hp hls hn hq
  go_enter Tryd.func6, Tryd.ntmps6
  go_wp2_with fail
  rw [← hW]
  clear hW
  refine HF.out.mono ?_
  rintro e w1 ⟨rfl, hb1⟩
  have d0 := cell_below hb1 c0
  have d1 := cell_below hb1 c1
  have d2 := cell_below hb1 c2
  go_wp2_with fail
  refine (HCP.out w1 (hsW.below hb1)).mono ?_
  rintro e w2 ⟨a2, cap2, rfl, hsl2, hb2⟩
  obtain ⟨W2, hW2⟩ : ∃ W2, W2 = w2.alloc (.cells #[.int .i64 k, .int .i64 n, .slice a2 t.len cap2] 24) := ⟨_, rfl⟩
  have hbW2 : Below w2.heap.size w2 W2 := by rw [hW2]; exact (Below.refl _ _).alloc (Nat.le_refl _) _
  have hb12 := hb1.trans ((hb2.trans (hbW2.mono hb2.size)).mono hb1.size)
  have box1 : Box w.heap.size k n (.slice a t.len cap) W2 := Box.below ⟨c0, c1, c2⟩ hb12
  have box2 : Box w2.heap.size k n (.slice a2 t.len cap2) W2 := Box.mk' (by rw [hW2]; exact heap_new _ _)
  have HB1 := Lib.hid (fun u (hu : Below W2.heap.size W2 u) => box1.below hu)
  have HB2 := Lib.hid (fun u (hu : Below W2.heap.size W2 u) => box2.below hu)
  have HSF := Lib.hid (fun u (hu : Below W2.heap.size W2 u) => (hsW.below hb12).below hu)
  have HSO := Lib.hid (fun u (hu : Below W2.heap.size W2 u) => (hsl2.below hbW2).below hu)
  have HKU := Lib.hid (fun u (hu : Below W2.heap.size W2 u) => (hkW.below hb12).below hu)
  have fin : ∀ u u', Below W2.heap.size W2 u → Below u.heap.size u u' → Below w.heap.size w u' := fun u u' h1 h2 => hb0.trans ((hb12.trans ((h1.trans (h2.mono h1.size)).mono hb12.size)).mono hb0.size)
  have FIN := Lib.hid fin
  obtain ⟨f0, f1, f2⟩ := box1
  have f0' := f0
  have f1' := f1
  have f2' := f2
  rw [hW2] at f0' f1' f2'
  clear d0 d1 d2 c0 c1 c2 hsW hkW fin box2 hsl2 HF HCP
  go_wp2_with fail
  rw [← hW2]
  clear f0' f1' f2' hW2
  refine (HS.out W2 (HSF.out W2 (Below.refl _ _)) (HKU.out W2 (Below.refl _ _))).mono ?_
  rintro e w3 ⟨rfl, hc3⟩
  clear f0 f1 f2
  obtain ⟨f0, f1, f2⟩ := HB1.out w3 hc3
  go_wp2_with fail
  refine (check_any S t k n a cap w3 (HSF.out _ hc3) (HKU.out _ hc3)).mono ?_
  rintro e w4 ⟨rfl, hb4⟩
  have hc4 := hc3.trans (hb4.mono hc3.size)
  clear f0 f1 f2
  obtain ⟨f0, f1, f2⟩ := HB1.out w4 hc4
  go_wp2_with fail
  refine (plain_any S t k n a cap w4 (HSF.out _ hc4) (HKU.out _ hc4)).mono ?_
  rintro e w5 ⟨rfl, hb5⟩
  have hc5 := hc4.trans (hb5.mono hc4.size)
  clear f0 f1 f2
  obtain ⟨f0, f1, f2⟩ := HB1.out w5 hc5
  go_wp2_with fail
  refine (poly_any S t k n a cap w5 (HSF.out _ hc5) (HKU.out _ hc5)).mono ?_
  rintro e w6 ⟨rfl, hb6⟩
  have hc6 := hc5.trans (hb6.mono hc5.size)
  clear f0 f1 f2
  go_wp2_with fail
  refine (HP.out w6 (HKU.out _ hc6)).mono ?_
  rintro e w7 ⟨a7, cap7, rfl, hs7, hb7⟩
  obtain ⟨W7, hW7⟩ : ∃ W7, W7 = w7.alloc (.cells #[.int .i64 pf.k, .int .i64 pf.n, .slice a7 pf.t.len cap7] 24) := ⟨_, rfl⟩
  have hbW7 : Below w7.heap.size w7 W7 := by rw [hW7]; exact (Below.refl _ _).alloc (Nat.le_refl _) _
  have hx7 : W7.heap[w7.heap.size]? = some (Obj.cells #[.int .i64 pf.k, .int .i64 pf.n, .slice a7 pf.t.len cap7] 24 (0, 0)) := by rw [hW7]; exact heap_new _ _
  go_wp2_with fail
  rw [← hW7]
  clear hW7
  obtain ⟨x0, x1, x2⟩ := cells_of hx7
  refine (change_any w6.heap.size pf.t w7.heap.size 0 pf.k pf.n a7 cap7 W7 hb7.size rfl (by simp [World.frozen?, hx7]) (by simp [World.frozen?, hx7]) x0 x1 x2 (hs7.below hbW7).sk).mono ?_
  rintro e w8 ⟨⟨v8, rfl⟩, hch⟩
  have hb68 : Below w6.heap.size w6 w8 := hb7.trans ((hbW7.mono hb7.size).trans hch.bl)
  have hc8 := hc6.trans (hb68.mono hc6.size)
  clear x0 x1 x2 hx7 hch hs7
  go_wp2_with fail
  refine (HP.out w8 (HKU.out _ hc8)).mono ?_
  rintro e w9 ⟨a9, cap9, rfl, hs9, hb9⟩
  obtain ⟨W9, hW9⟩ : ∃ W9, W9 = w9.alloc (.cells #[.int .i64 pf.k, .int .i64 pf.n, .slice a9 pf.t.len cap9] 24) := ⟨_, rfl⟩
  have hbW9 : Below w9.heap.size w9 W9 := by rw [hW9]; exact (Below.refl _ _).alloc (Nat.le_refl _) _
  have box9 : Box w9.heap.size pf.k pf.n (.slice a9 pf.t.len cap9) W9 := Box.mk' (by rw [hW9]; exact heap_new _ _)
  have hs9' := hs9.below hbW9
  have hc9 := hc8.trans ((hb9.trans (hbW9.mono hb9.size)).mono hc8.size)
  obtain ⟨f0, f1, f2⟩ := HB1.out W9 hc9
  obtain ⟨o0, o1, o2⟩ := HB2.out W9 hc9
  have HB9 := Lib.hid (fun u (hu : Below W9.heap.size W9 u) => box9.below hu)
  have HS9 := Lib.hid (fun u (hu : Below W9.heap.size W9 u) => hs9'.below hu)
  have f0' := f0
  have f1' := f1
  have f2' := f2
  have o0' := o0
  have o1' := o1
  have o2' := o2
  rw [hW9] at f0' f1' f2' o0' o1' o2'
  clear hs9 hs9' box9
  rcases HQ.out with rfl | ⟨rfl, rfl, rfl⟩
  · go_wp2_with fail
    rw [← hW9]
    clear hW9 f0' f1' f2' o0' o1' o2'
    refine (same_at _ _ ⟨k, n, t⟩ ⟨k, n, t⟩ a2 a cap2 cap W9 (HSO.out _ hc9) (HSF.out _ hc9) rfl).mono ?_
    rintro e w10 ⟨rfl, hb10⟩
    have hc10 := hc9.trans (hb10.mono hc9.size)
    go_wp2_with fail
    refine (awake_any _ (HKU.out _ hc10)).mono ?_
    rintro e w11 ⟨rfl, hb11⟩
    go_wp2_with fail
    go_ret
    exact ⟨rfl, FIN.out _ _ hc10 hb11⟩
  · go_wp2_with fail
    rw [← hW9]
    clear hW9 f0' f1' f2' o0' o1' o2'
    refine (same_at _ _ ⟨k, n, t⟩ ⟨k, n, t⟩ a2 a cap2 cap W9 (HSO.out _ hc9) (HSF.out _ hc9) rfl).mono ?_
    rintro e w10 ⟨rfl, hb10⟩
    have hc10 := hc9.trans (hb10.mono hc9.size)
    clear f0 f1 f2 o0 o1 o2
    obtain ⟨f0, f1, f2⟩ := HB1.out w10 hc10
    obtain ⟨q0, q1, q2⟩ := HB9.out w10 hb10
    go_wp2_with fail
    refine (same_at _ _ ⟨k, n, t⟩ ⟨k, n, t⟩ a9 a cap9 cap w10 (HS9.out _ hb10) (HSF.out _ hc10) rfl).mono ?_
    rintro e w11 ⟨rfl, hb11⟩
    have hc11 := hc10.trans (hb11.mono hc10.size)
    go_wp2_with fail
    refine (awake_any _ (HKU.out _ hc11)).mono ?_
    rintro e w12 ⟨rfl, hb12'⟩
    go_wp2_with fail
    go_ret
    exact ⟨rfl, FIN.out _ _ hc11 hb12'⟩
end Go.Proofs.YtioimhnebjiicaaDoor
