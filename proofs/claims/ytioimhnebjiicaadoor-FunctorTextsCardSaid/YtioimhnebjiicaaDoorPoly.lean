/-
  Proved here: the code's Polynomial and Plain, at each functor.
-/
import Derived.Test.YtioimhnebjiicaaDoorHas
namespace Go.Proofs.YtioimhnebjiicaaDoor
open Go.RowKit

def lackB (zs : List Int) (k n : Int) (t : T) : Bool := valid k n t && !(decide (k ∈ zs) || t.hasAny zs)

set_option maxRecDepth 100000 in
set_option maxHeartbeats 400000 in
theorem lacks_any (zs : List Int) (S : Nat → Nat → Prop) (t : T) (k n : Int) (a : Option Addr) (cap b capz : Nat) (w : World) (hs : Sl S w a t) (hk : Kinds w) (hz : IntsAt w b zs) :
    Calls Tryd.prog 26 #[.agg #[.int .i64 k, .int .i64 n, .slice a t.len cap], .slice (some ⟨b, 0, none⟩) zs.length capz] w fun e w' => e = .returned (.tuple #[.bool (lackB zs k n t), .int .i64 (faultOf k n t)]) ∧ Below w.heap.size w w' := by
  obtain ⟨W, hW⟩ : ∃ W, W = w.alloc (.cells #[.int .i64 k, .int .i64 n, .slice a t.len cap] 24) := ⟨_, rfl⟩
  have hb0 : Below w.heap.size w W := by rw [hW]; exact (Below.refl _ _).alloc (Nat.le_refl _) _
  have hbx : W.heap[w.heap.size]? = some (Obj.cells #[.int .i64 k, .int .i64 n, .slice a t.len cap] 24 (0, 0)) := by rw [hW]; exact heap_new _ _
  obtain ⟨c0, c1, c2⟩ := cells_of hbx
  have HC := Lib.hid (check_any S t k n a cap W (hs.below hb0) (hk.below hb0))
  have HF := Lib.hid (fun w1 (h1 : Below W.heap.size W w1) => has_any zs t S k n a cap b capz w1 ((hs.below hb0).below h1) ((hz.below hb0).below h1))
  obtain ⟨r, hr⟩ : ∃ r, r = (decide (k ∈ zs) || t.hasAny zs) := ⟨_, rfl⟩
  rw [← hr] at HF
  cases hv : valid k n t
  · have hfa : faultOf k n t = 10 := by unfold faultOf; rw [hv]; rfl
    have hl : lackB zs k n t = false := by unfold lackB; rw [hv]; rfl
    rw [hfa] at HC ⊢
    rw [hl]
    clear hfa hl hv hs hk hz hr HF
    go_enter Tryd.func26, Tryd.ntmps26
    go_wp2_with fail
    rw [← hW]
    clear hW
    refine HC.out.mono ?_
    rintro e w1 ⟨rfl, hb1⟩
    go_wp2_with fail
    go_ret2
    exact ⟨rfl, hb0.trans (hb1.mono hb0.size)⟩
  · have hfa : faultOf k n t = 0 := by unfold faultOf; rw [hv]; rfl
    have hl : lackB zs k n t = !r := by unfold lackB; rw [hv, hr]; rfl
    rw [hfa] at HC ⊢
    rw [hl]
    clear hfa hl hv hs hk hz hr
    go_enter Tryd.func26, Tryd.ntmps26
    go_wp2_with fail
    rw [← hW]
    clear hW
    refine HC.out.mono ?_
    rintro e w1 ⟨rfl, hb1⟩
    have d0 := cell_below hb1 c0
    have d1 := cell_below hb1 c1
    have d2 := cell_below hb1 c2
    go_wp2_with fail
    refine (HF.out w1 hb1).mono ?_
    rintro e w2 ⟨rfl, hb2⟩
    go_wp2_with fail
    go_ret2
    exact ⟨rfl, hb0.trans ((hb1.trans (hb2.mono hb1.size)).mono hb0.size)⟩

set_option maxHeartbeats 400000 in
theorem poly_any (S : Nat → Nat → Prop) (t : T) (k n : Int) (a : Option Addr) (cap : Nat) (w : World) (hs : Sl S w a t) (hk : Kinds w) :
    Calls Tryd.prog 11 #[.agg #[.int .i64 k, .int .i64 n, .slice a t.len cap]] w fun e w' => e = .returned (.tuple #[.bool (lackB [5, 6, 7] k n t), .int .i64 (faultOf k n t)]) ∧ Below w.heap.size w w' := by
  obtain ⟨W, hW⟩ : ∃ W, W = (w.alloc (.cells #[.int .i64 k, .int .i64 n, .slice a t.len cap] 24)).alloc (.cells #[.int .i64 5, .int .i64 6, .int .i64 7] 3) := ⟨_, rfl⟩
  have hb0 : Below w.heap.size w W := by rw [hW]; exact ((Below.refl _ _).alloc (Nat.le_refl _) _).alloc (by simp) _
  have hbx : W.heap[w.heap.size + 1]? = some (Obj.cells #[.int .i64 5, .int .i64 6, .int .i64 7] 3 (0, 0)) := by rw [hW]; exact heap_new2 _ _ _
  have hz : IntsAt W (w.heap.size + 1) [5, 6, 7] := by
    refine ⟨by simp, heap_lt hbx, fun i v hi => ?_⟩
    obtain ⟨c0, c1, c2⟩ := cells_of hbx
    match i, hi with
    | 0, hi => simp at hi; subst hi; exact c0
    | 1, hi => simp at hi; subst hi; exact c1
    | 2, hi => simp at hi; subst hi; exact c2
    | i + 3, hi => simp at hi
  have HL := Lib.hid (lacks_any [5, 6, 7] S t k n a cap (w.heap.size + 1) 3 W (hs.below hb0) (hk.below hb0) hz)
  clear hs hk hz
  go_enter Tryd.func11, Tryd.ntmps11
  go_wp2_with fail
  rw [← hW]
  clear hW
  refine HL.out.mono ?_
  rintro e w1 ⟨rfl, hb1⟩
  go_wp2_with fail
  go_ret2
  exact ⟨rfl, hb0.trans (hb1.mono hb0.size)⟩

set_option maxHeartbeats 400000 in
theorem plain_any (S : Nat → Nat → Prop) (t : T) (k n : Int) (a : Option Addr) (cap : Nat) (w : World) (hs : Sl S w a t) (hk : Kinds w) :
    Calls Tryd.prog 12 #[.agg #[.int .i64 k, .int .i64 n, .slice a t.len cap]] w fun e w' => e = .returned (.tuple #[.bool (lackB [6, 7] k n t), .int .i64 (faultOf k n t)]) ∧ Below w.heap.size w w' := by
  obtain ⟨W, hW⟩ : ∃ W, W = (w.alloc (.cells #[.int .i64 k, .int .i64 n, .slice a t.len cap] 24)).alloc (.cells #[.int .i64 6, .int .i64 7] 3) := ⟨_, rfl⟩
  have hb0 : Below w.heap.size w W := by rw [hW]; exact ((Below.refl _ _).alloc (Nat.le_refl _) _).alloc (by simp) _
  have hbx : W.heap[w.heap.size + 1]? = some (Obj.cells #[.int .i64 6, .int .i64 7] 3 (0, 0)) := by rw [hW]; exact heap_new2 _ _ _
  have hz : IntsAt W (w.heap.size + 1) [6, 7] := by
    refine ⟨by simp, heap_lt hbx, fun i v hi => ?_⟩
    match i, hi with
    | 0, hi => simp at hi; subst hi; simp [World.cell?, hbx]
    | 1, hi => simp at hi; subst hi; simp [World.cell?, hbx]
    | i + 2, hi => simp at hi
  have HL := Lib.hid (lacks_any [6, 7] S t k n a cap (w.heap.size + 1) 2 W (hs.below hb0) (hk.below hb0) hz)
  clear hs hk hz
  go_enter Tryd.func12, Tryd.ntmps12
  go_wp2_with fail
  rw [← hW]
  clear hW
  refine HL.out.mono ?_
  rintro e w1 ⟨rfl, hb1⟩
  go_wp2_with fail
  go_ret2
  exact ⟨rfl, hb0.trans (hb1.mono hb0.size)⟩
end Go.Proofs.YtioimhnebjiicaaDoor
