/-
  Proved here: what the reference's reader does at each list of tokens.
-/
import Derived.Test.YtioimhnebjiicaaDoorTxtC
import Derived.Deep.RegionHeld3
namespace Go.Proofs.YtioimhnebjiicaaDoor
open Go.RowKit

set_option maxRecDepth 100000 in
set_option maxHeartbeats 6400000 in
theorem atom_p (rb : Nat) (r : List Tok) (J : List Tok → Option (F × List Tok)) (w : World) (h : Rdr rb ([80] :: r) false w) (hf : Fun38 rb J (takeT [40] r false).1 (takeT [40] r false).2) :
    Calls Tryd.prog 71 #[.pointer (some ⟨rb, 0, none⟩)] w (RP rb ([80] :: r) false (atomT J ([80] :: r)) w) := by
  obtain ⟨R, hR1⟩ : ∃ R, R = RP rb ([80] :: r) false (atomT J ([80] :: r)) w := ⟨_, rfl⟩
  rw [← hR1]
  have HR1 := Lib.hid hR1
  clear hR1
  have HF := Lib.hid hf
  clear hf
  have hst := Start.mk' h
  obtain ⟨W, hW⟩ : ∃ W, W = w.alloc (.cells #[.int .i64 0, .int .i64 0, .slice none 0 0] 24) := ⟨_, rfl⟩
  rw [← hW] at hst
  have c1 := hst.rd.cell1
  rw [hW] at c1
  have hrd := hst.rd
  obtain ⟨a0, cap0, hat⟩ := hrd
  rcases hat.cells with hc | ⟨b0, o0, _, rfl, _⟩
  · cases hc
  have s0 := hat.c0
  have hl0 := hat.len
  have hcap0 := hat.hcap
  have fz0 := hat.fz 0
  have hd : (cap0 = 1 ∧ TakePost' rb r false W (W.setCell ⟨rb, 0, none⟩ (.slice (some ⟨b0, o0, none⟩) r.length 0))) ∨ (¬ cap0 = 1 ∧ TakePost' rb r false W (W.setCell ⟨rb, 0, none⟩ (.slice (some ⟨b0, o0 + 1, none⟩) r.length (cap0 - 1)))) := by
    by_cases h1 : cap0 = 1
    · subst h1
      simp only [List.length_cons] at hcap0
      exact Or.inl ⟨rfl, drop_first hat _ (Or.inl (List.eq_nil_of_length_eq_zero (by omega)))⟩
    · exact Or.inr ⟨h1, drop_first hat _ (Or.inr rfl)⟩
  simp only [List.length_cons] at s0 hl0 hcap0
  clear hat
  rcases hd with ⟨h1, hd⟩ | ⟨h1, hd⟩
  all_goals
    go_enter Tryd.func71, Tryd.ntmps71
    go_wp2_with fail
    rw [← hW]
    clear hW c1
    refine (sees_at hst.rd [88] false rfl).mono ?_
    rintro e w' ⟨rfl, rfl⟩
    go_wp2_with fail
    refine (sees_at hst.rd [80] true rfl).mono ?_
    rintro e w' ⟨rfl, rfl⟩
    go_wp2_with fail
    generalize W.setCell ⟨rb, 0, none⟩ _ = w1 at hd ⊢
    obtain ⟨ho1, hr1⟩ := hd
    clear s0 fz0 h1
    refine (tk_any rb r [40] false w1 hr1).mono ?_
    rintro e w2 ⟨rfl, ho2, hr2⟩
    go_wp2_with fail
    refine (HF.out w2 hr2).mono ?_
    rintro e w3 ⟨f, a, cap, ts3, b3, ⟨rfl, hsl3, hr3, ho3, hl3, hg3⟩⟩
    obtain ⟨W3, hW3⟩ : ∃ W3, W3 = w3.alloc (.cells #[.int .i64 f.k, .int .i64 f.n, .slice a f.t.len cap] 24) := ⟨_, rfl⟩
    have hbW3 : Below w3.heap.size w3 W3 := by rw [hW3]; exact (Below.refl _ _).alloc (Nat.le_refl _) _
    have hbx : W3.heap[w3.heap.size]? = some (Obj.cells #[.int .i64 f.k, .int .i64 f.n, .slice a f.t.len cap] 24 (0, 0)) := by rw [hW3]; exact heap_new _ _
    have hrW3 := hr3.below hbW3
    go_wp2_with fail
    rw [← hW3]
    clear hW3
    refine (tk_any rb ts3 [41] b3 W3 hrW3).mono ?_
    rintro e w4 ⟨rfl, ho4, hr4⟩
    have hw3 : rb < w3.heap.size := hr3.lt
    have hbx4 := ho4.keep (by omega) hbx
    have ho24 : Oth rb W w4 := ho1.trans (ho2.trans ((ho3.below hbW3).trans ho4))
    have hsz2 : W.heap.size ≤ w2.heap.size := Nat.le_trans ho1.size ho2.size
    have hszW : w.heap.size + 1 ≤ W.heap.size := heap_lt hst.res
    have hsl4 := (hsl3.below hbW3).othP (P := rb) (fun b o hb => by have := hb.1; have := hst.lt; omega) ho4
    obtain ⟨x0, x1, x2⟩ := cells_of hbx4
    obtain ⟨W4, hW4⟩ : ∃ W4, W4 = w4.alloc (.cells #[.int .i64 f.k, .int .i64 f.n, .slice a f.t.len cap] 24) := ⟨_, rfl⟩
    have hbW4 : Below w4.heap.size w4 W4 := by rw [hW4]; exact (Below.refl _ _).alloc (Nat.le_refl _) _
    have hbx5 : W4.heap[w4.heap.size]? = some (Obj.cells #[.int .i64 f.k, .int .i64 f.n, .slice a f.t.len cap] 24 (0, 0)) := by rw [hW4]; exact heap_new _ _
    have hsz4 : w2.heap.size ≤ w4.heap.size := Nat.le_trans ho3.size (Nat.le_trans hbW3.size ho4.size)
    have hsl5 : Sl (SP (w.heap.size + 1)) W4 (some ⟨w4.heap.size, 0, none⟩) f.one := sl_one hbx5 ⟨by omega, rfl⟩ ((hsl4.below hbW4).weaken (fun _ _ => sp_le (by omega)))
    clear hbx hbx4
    go_wp2_with fail
    rw [← hW4]
    clear hW4
    refine (of_any 5 0 (some ⟨w4.heap.size, 0, none⟩) 1 1 W4).mono ?_
    rintro e w5 ⟨rfl, hb5⟩
    have ho5 : Oth rb W w5 := ho24.below (hbW4.trans (hb5.mono hbW4.size))
    have hres5 : HdRes w.heap.size w5 := ho5.keep (by have := hst.lt; omega) hst.res
    obtain ⟨z0, z1, z2⟩ := cells_of hres5
    have vz := fun o => frozen_of (o := o) hres5
    go_wp2_with fail
    refine bodyPost_ret (v := F.val ⟨5, 0, f.one⟩ (some ⟨w4.heap.size, 0, none⟩) 1) (res71 (f := ⟨5, 0, f.one⟩) hres5 rfl) rfl ?_
    rw [HR1.out]
    refine rd_fin (f := ⟨5, 0, f.one⟩) hst.lt hres5 (hsl5.below hb5) ((hr4.below hbW4).below hb5) (((Oth.refl rb w).below hst.bl).trans ho5) (by have := take_len [41] ts3 b3; have := take_len [40] r false; simp only [List.length_cons]; omega) ?_
    have := (Good.open hg3.close).one 5
    simpa [atomT, kindT] using this

set_option maxRecDepth 100000 in
set_option maxHeartbeats 6400000 in
theorem atom_b (rb : Nat) (r : List Tok) (J : List Tok → Option (F × List Tok)) (w : World) (h : Rdr rb ([66] :: r) false w) (hf : Fun38 rb J (takeT [40] r false).1 (takeT [40] r false).2) :
    Calls Tryd.prog 71 #[.pointer (some ⟨rb, 0, none⟩)] w (RP rb ([66] :: r) false (atomT J ([66] :: r)) w) := by
  obtain ⟨R, hR1⟩ : ∃ R, R = RP rb ([66] :: r) false (atomT J ([66] :: r)) w := ⟨_, rfl⟩
  rw [← hR1]
  have HR1 := Lib.hid hR1
  clear hR1
  have HF := Lib.hid hf
  clear hf
  have hst := Start.mk' h
  obtain ⟨W, hW⟩ : ∃ W, W = w.alloc (.cells #[.int .i64 0, .int .i64 0, .slice none 0 0] 24) := ⟨_, rfl⟩
  rw [← hW] at hst
  have c1 := hst.rd.cell1
  rw [hW] at c1
  have hrd := hst.rd
  obtain ⟨a0, cap0, hat⟩ := hrd
  rcases hat.cells with hc | ⟨b0, o0, _, rfl, _⟩
  · cases hc
  have s0 := hat.c0
  have hl0 := hat.len
  have hcap0 := hat.hcap
  have fz0 := hat.fz 0
  have hd : (cap0 = 1 ∧ TakePost' rb r false W (W.setCell ⟨rb, 0, none⟩ (.slice (some ⟨b0, o0, none⟩) r.length 0))) ∨ (¬ cap0 = 1 ∧ TakePost' rb r false W (W.setCell ⟨rb, 0, none⟩ (.slice (some ⟨b0, o0 + 1, none⟩) r.length (cap0 - 1)))) := by
    by_cases h1 : cap0 = 1
    · subst h1
      simp only [List.length_cons] at hcap0
      exact Or.inl ⟨rfl, drop_first hat _ (Or.inl (List.eq_nil_of_length_eq_zero (by omega)))⟩
    · exact Or.inr ⟨h1, drop_first hat _ (Or.inr rfl)⟩
  simp only [List.length_cons] at s0 hl0 hcap0
  clear hat
  rcases hd with ⟨h1, hd⟩ | ⟨h1, hd⟩
  all_goals
    go_enter Tryd.func71, Tryd.ntmps71
    go_wp2_with fail
    rw [← hW]
    clear hW c1
    refine (sees_at hst.rd [88] false rfl).mono ?_
    rintro e w' ⟨rfl, rfl⟩
    go_wp2_with fail
    refine (sees_at hst.rd [80] false rfl).mono ?_
    rintro e w' ⟨rfl, rfl⟩
    go_wp2_with fail
    refine (sees_at hst.rd [66] true rfl).mono ?_
    rintro e w' ⟨rfl, rfl⟩
    go_wp2_with fail
    generalize W.setCell ⟨rb, 0, none⟩ _ = w1 at hd ⊢
    obtain ⟨ho1, hr1⟩ := hd
    clear s0 fz0 h1
    refine (tk_any rb r [40] false w1 hr1).mono ?_
    rintro e w2 ⟨rfl, ho2, hr2⟩
    go_wp2_with fail
    refine (HF.out w2 hr2).mono ?_
    rintro e w3 ⟨f, a, cap, ts3, b3, ⟨rfl, hsl3, hr3, ho3, hl3, hg3⟩⟩
    obtain ⟨W3, hW3⟩ : ∃ W3, W3 = w3.alloc (.cells #[.int .i64 f.k, .int .i64 f.n, .slice a f.t.len cap] 24) := ⟨_, rfl⟩
    have hbW3 : Below w3.heap.size w3 W3 := by rw [hW3]; exact (Below.refl _ _).alloc (Nat.le_refl _) _
    have hbx : W3.heap[w3.heap.size]? = some (Obj.cells #[.int .i64 f.k, .int .i64 f.n, .slice a f.t.len cap] 24 (0, 0)) := by rw [hW3]; exact heap_new _ _
    have hrW3 := hr3.below hbW3
    go_wp2_with fail
    rw [← hW3]
    clear hW3
    refine (tk_any rb ts3 [41] b3 W3 hrW3).mono ?_
    rintro e w4 ⟨rfl, ho4, hr4⟩
    have hw3 : rb < w3.heap.size := hr3.lt
    have hbx4 := ho4.keep (by omega) hbx
    have ho24 : Oth rb W w4 := ho1.trans (ho2.trans ((ho3.below hbW3).trans ho4))
    have hsz2 : W.heap.size ≤ w2.heap.size := Nat.le_trans ho1.size ho2.size
    have hszW : w.heap.size + 1 ≤ W.heap.size := heap_lt hst.res
    have hsl4 := (hsl3.below hbW3).othP (P := rb) (fun b o hb => by have := hb.1; have := hst.lt; omega) ho4
    obtain ⟨x0, x1, x2⟩ := cells_of hbx4
    obtain ⟨W4, hW4⟩ : ∃ W4, W4 = w4.alloc (.cells #[.int .i64 f.k, .int .i64 f.n, .slice a f.t.len cap] 24) := ⟨_, rfl⟩
    have hbW4 : Below w4.heap.size w4 W4 := by rw [hW4]; exact (Below.refl _ _).alloc (Nat.le_refl _) _
    have hbx5 : W4.heap[w4.heap.size]? = some (Obj.cells #[.int .i64 f.k, .int .i64 f.n, .slice a f.t.len cap] 24 (0, 0)) := by rw [hW4]; exact heap_new _ _
    have hsz4 : w2.heap.size ≤ w4.heap.size := Nat.le_trans ho3.size (Nat.le_trans hbW3.size ho4.size)
    have hsl5 : Sl (SP (w.heap.size + 1)) W4 (some ⟨w4.heap.size, 0, none⟩) f.one := sl_one hbx5 ⟨by omega, rfl⟩ ((hsl4.below hbW4).weaken (fun _ _ => sp_le (by omega)))
    clear hbx hbx4
    go_wp2_with fail
    rw [← hW4]
    clear hW4
    refine (of_any 6 0 (some ⟨w4.heap.size, 0, none⟩) 1 1 W4).mono ?_
    rintro e w5 ⟨rfl, hb5⟩
    have ho5 : Oth rb W w5 := ho24.below (hbW4.trans (hb5.mono hbW4.size))
    have hres5 : HdRes w.heap.size w5 := ho5.keep (by have := hst.lt; omega) hst.res
    obtain ⟨z0, z1, z2⟩ := cells_of hres5
    have vz := fun o => frozen_of (o := o) hres5
    go_wp2_with fail
    refine bodyPost_ret (v := F.val ⟨6, 0, f.one⟩ (some ⟨w4.heap.size, 0, none⟩) 1) (res71 (f := ⟨6, 0, f.one⟩) hres5 rfl) rfl ?_
    rw [HR1.out]
    refine rd_fin (f := ⟨6, 0, f.one⟩) hst.lt hres5 (hsl5.below hb5) ((hr4.below hbW4).below hb5) (((Oth.refl rb w).below hst.bl).trans ho5) (by have := take_len [41] ts3 b3; have := take_len [40] r false; simp only [List.length_cons]; omega) ?_
    have := (Good.open hg3.close).one 6
    simpa [atomT, kindT] using this

set_option maxRecDepth 100000 in
set_option maxHeartbeats 6400000 in
theorem atom_d (rb : Nat) (r : List Tok) (J : List Tok → Option (F × List Tok)) (w : World) (h : Rdr rb ([68] :: r) false w) (hf : Fun38 rb J (takeT [40] r false).1 (takeT [40] r false).2) :
    Calls Tryd.prog 71 #[.pointer (some ⟨rb, 0, none⟩)] w (RP rb ([68] :: r) false (atomT J ([68] :: r)) w) := by
  obtain ⟨R, hR1⟩ : ∃ R, R = RP rb ([68] :: r) false (atomT J ([68] :: r)) w := ⟨_, rfl⟩
  rw [← hR1]
  have HR1 := Lib.hid hR1
  clear hR1
  have HF := Lib.hid hf
  clear hf
  have hst := Start.mk' h
  obtain ⟨W, hW⟩ : ∃ W, W = w.alloc (.cells #[.int .i64 0, .int .i64 0, .slice none 0 0] 24) := ⟨_, rfl⟩
  rw [← hW] at hst
  have c1 := hst.rd.cell1
  rw [hW] at c1
  have hrd := hst.rd
  obtain ⟨a0, cap0, hat⟩ := hrd
  rcases hat.cells with hc | ⟨b0, o0, _, rfl, _⟩
  · cases hc
  have s0 := hat.c0
  have hl0 := hat.len
  have hcap0 := hat.hcap
  have fz0 := hat.fz 0
  have hd : (cap0 = 1 ∧ TakePost' rb r false W (W.setCell ⟨rb, 0, none⟩ (.slice (some ⟨b0, o0, none⟩) r.length 0))) ∨ (¬ cap0 = 1 ∧ TakePost' rb r false W (W.setCell ⟨rb, 0, none⟩ (.slice (some ⟨b0, o0 + 1, none⟩) r.length (cap0 - 1)))) := by
    by_cases h1 : cap0 = 1
    · subst h1
      simp only [List.length_cons] at hcap0
      exact Or.inl ⟨rfl, drop_first hat _ (Or.inl (List.eq_nil_of_length_eq_zero (by omega)))⟩
    · exact Or.inr ⟨h1, drop_first hat _ (Or.inr rfl)⟩
  simp only [List.length_cons] at s0 hl0 hcap0
  clear hat
  rcases hd with ⟨h1, hd⟩ | ⟨h1, hd⟩
  all_goals
    go_enter Tryd.func71, Tryd.ntmps71
    go_wp2_with fail
    rw [← hW]
    clear hW c1
    refine (sees_at hst.rd [88] false rfl).mono ?_
    rintro e w' ⟨rfl, rfl⟩
    go_wp2_with fail
    refine (sees_at hst.rd [80] false rfl).mono ?_
    rintro e w' ⟨rfl, rfl⟩
    go_wp2_with fail
    refine (sees_at hst.rd [66] false rfl).mono ?_
    rintro e w' ⟨rfl, rfl⟩
    go_wp2_with fail
    refine (sees_at hst.rd [68] true rfl).mono ?_
    rintro e w' ⟨rfl, rfl⟩
    go_wp2_with fail
    generalize W.setCell ⟨rb, 0, none⟩ _ = w1 at hd ⊢
    obtain ⟨ho1, hr1⟩ := hd
    clear s0 fz0 h1
    refine (tk_any rb r [40] false w1 hr1).mono ?_
    rintro e w2 ⟨rfl, ho2, hr2⟩
    go_wp2_with fail
    refine (HF.out w2 hr2).mono ?_
    rintro e w3 ⟨f, a, cap, ts3, b3, ⟨rfl, hsl3, hr3, ho3, hl3, hg3⟩⟩
    obtain ⟨W3, hW3⟩ : ∃ W3, W3 = w3.alloc (.cells #[.int .i64 f.k, .int .i64 f.n, .slice a f.t.len cap] 24) := ⟨_, rfl⟩
    have hbW3 : Below w3.heap.size w3 W3 := by rw [hW3]; exact (Below.refl _ _).alloc (Nat.le_refl _) _
    have hbx : W3.heap[w3.heap.size]? = some (Obj.cells #[.int .i64 f.k, .int .i64 f.n, .slice a f.t.len cap] 24 (0, 0)) := by rw [hW3]; exact heap_new _ _
    have hrW3 := hr3.below hbW3
    go_wp2_with fail
    rw [← hW3]
    clear hW3
    refine (tk_any rb ts3 [41] b3 W3 hrW3).mono ?_
    rintro e w4 ⟨rfl, ho4, hr4⟩
    have hw3 : rb < w3.heap.size := hr3.lt
    have hbx4 := ho4.keep (by omega) hbx
    have ho24 : Oth rb W w4 := ho1.trans (ho2.trans ((ho3.below hbW3).trans ho4))
    have hsz2 : W.heap.size ≤ w2.heap.size := Nat.le_trans ho1.size ho2.size
    have hszW : w.heap.size + 1 ≤ W.heap.size := heap_lt hst.res
    have hsl4 := (hsl3.below hbW3).othP (P := rb) (fun b o hb => by have := hb.1; have := hst.lt; omega) ho4
    obtain ⟨x0, x1, x2⟩ := cells_of hbx4
    obtain ⟨W4, hW4⟩ : ∃ W4, W4 = w4.alloc (.cells #[.int .i64 f.k, .int .i64 f.n, .slice a f.t.len cap] 24) := ⟨_, rfl⟩
    have hbW4 : Below w4.heap.size w4 W4 := by rw [hW4]; exact (Below.refl _ _).alloc (Nat.le_refl _) _
    have hbx5 : W4.heap[w4.heap.size]? = some (Obj.cells #[.int .i64 f.k, .int .i64 f.n, .slice a f.t.len cap] 24 (0, 0)) := by rw [hW4]; exact heap_new _ _
    have hsz4 : w2.heap.size ≤ w4.heap.size := Nat.le_trans ho3.size (Nat.le_trans hbW3.size ho4.size)
    have hsl5 : Sl (SP (w.heap.size + 1)) W4 (some ⟨w4.heap.size, 0, none⟩) f.one := sl_one hbx5 ⟨by omega, rfl⟩ ((hsl4.below hbW4).weaken (fun _ _ => sp_le (by omega)))
    clear hbx hbx4
    go_wp2_with fail
    rw [← hW4]
    clear hW4
    refine (of_any 7 0 (some ⟨w4.heap.size, 0, none⟩) 1 1 W4).mono ?_
    rintro e w5 ⟨rfl, hb5⟩
    have ho5 : Oth rb W w5 := ho24.below (hbW4.trans (hb5.mono hbW4.size))
    have hres5 : HdRes w.heap.size w5 := ho5.keep (by have := hst.lt; omega) hst.res
    obtain ⟨z0, z1, z2⟩ := cells_of hres5
    have vz := fun o => frozen_of (o := o) hres5
    go_wp2_with fail
    refine bodyPost_ret (v := F.val ⟨7, 0, f.one⟩ (some ⟨w4.heap.size, 0, none⟩) 1) (res71 (f := ⟨7, 0, f.one⟩) hres5 rfl) rfl ?_
    rw [HR1.out]
    refine rd_fin (f := ⟨7, 0, f.one⟩) hst.lt hres5 (hsl5.below hb5) ((hr4.below hbW4).below hb5) (((Oth.refl rb w).below hst.bl).trans ho5) (by have := take_len [41] ts3 b3; have := take_len [40] r false; simp only [List.length_cons]; omega) ?_
    have := (Good.open hg3.close).one 7
    simpa [atomT, kindT] using this
end Go.Proofs.YtioimhnebjiicaaDoor

namespace Go.Proofs.YtioimhnebjiicaaDoor
open Go.RowKit

theorem res59 {B : Nat} {f : F} {a : Option Addr} {cap : Nat} {w : World} (h : HdRes B w) {tm : Array Value} (h2 : tm[2]? = some (.pointer (some ⟨B, 0, none⟩))) :
    (results Tryd.f59 tm).run Tryd.prog (stored B f a cap w) = .ok (f.val a cap) (stored B f a cap w) := by
  obtain ⟨d0, d1, d2⟩ := stored_cells (f := f) (a := a) (cap := cap) h
  simp [results, Tryd.results59, go_sem, h2, d0, d1, d2]

theorem good_nohat {bad bad' : Bool} {A : List Tok → Option (F × List Tok)} {ts ts' : List Tok} {f : F} (h : Good bad (A ts) f ts' bad') (hn : ts'.head? ≠ some [94]) : Good bad (operandT A ts) f ts' bad' := by
  refine ⟨h.1, fun hb => ?_⟩
  have := h.2 hb
  unfold operandT
  cases hA : A ts with
  | none => rw [hA] at this; exact this
  | some p =>
    obtain ⟨g, r⟩ := p
    rw [hA] at this
    obtain ⟨h1, h2, h3⟩ := this
    subst h3
    cases ts' with
    | nil => exact ⟨h1, h2, rfl⟩
    | cons u r =>
      have hu : u ≠ [94] := by simpa using hn
      simp only [hatT, if_neg hu]
      exact ⟨h1, h2, trivial⟩

/-- What Digits and Number give behind a power sign. -/
structure Powed (bad : Bool) (m : Option (F × List Tok)) (f : F) (s : Tok) (ts' : List Tok) (bad' : Bool) : Prop where
  dg : ∀ x ∈ s, dB x = true
  len : s.length ≤ 50000
  good : ∀ v : Int, min v 17 = cap17 0 s → Good bad m ⟨4, v, f.one⟩ ts' bad'

theorem F.cap_pow (v : Int) (f : F) : F.cap ⟨4, v, f.one⟩ = ⟨4, min v 17, f.cap.one⟩ := rfl

theorem pow_step {rb : Nat} {bad b3 : Bool} {A : List Tok → Option (F × List Tok)} {ts r3 : List Tok} {f : F} (h : Good bad (A ts) f ([94] :: r3) b3) (u : World) (hu : Rdr rb r3 b3 u) :
    ∃ s ts' bad', Powed bad (operandT A ts) f s ts' bad' ∧ ts'.length ≤ r3.length ∧ ∀ u, Rdr rb r3 b3 u → Calls Tryd.prog 73 #[.pointer (some ⟨rb, 0, none⟩)] u fun e w' => e = .returned (.string (bs s)) ∧ TakePost' rb ts' bad' u w' := by
  have hok := hu.choose_spec.choose_spec.ok
  have hno : powT f.cap r3 = none → ∀ f', Good bad (operandT A ts) f' r3 true := by
    intro hp f'
    refine ⟨fun _ => rfl, fun hb => ?_⟩
    have := h.2 hb
    unfold operandT
    cases hA : A ts with
    | none => rfl
    | some p =>
      obtain ⟨g, r⟩ := p
      rw [hA] at this
      obtain ⟨_, h2, h3⟩ := this
      subst h3 h2
      simp only [hatT, if_true, hp]
  cases r3 with
  | nil => exact ⟨[48], [], true, ⟨by decide, by simp, fun v _ => hno rfl _⟩, Nat.le_refl _, fun u hu => digs_no rb [] b3 u hu (Or.inl rfl)⟩
  | cons t r =>
    by_cases hd : hdD t = true
    · have ho := hok t (by simp)
      refine ⟨t, r, b3, ⟨ho.2.2 hd, ho.2.1, fun v hv => ⟨h.1, fun hb => ?_⟩⟩, by simp, fun u hu => digs_yes rb t r b3 u hu hd⟩
      have := h.2 hb
      unfold operandT
      cases hA : A ts with
      | none => rw [hA] at this; exact this
      | some p =>
        obtain ⟨g, q⟩ := p
        rw [hA] at this
        obtain ⟨h1, h2, h3⟩ := this
        subst h3
        simp only [hatT, if_true, powT, hd]
        exact ⟨h1, by rw [F.cap_pow, hv, h2], trivial⟩
    · have hd' : hdD t = false := by simpa using hd
      exact ⟨[48], t :: r, true, ⟨by decide, by simp, fun v _ => hno (by simp [powT, hd']) _⟩, Nat.le_refl _, fun u hu => digs_no rb _ b3 u hu (Or.inr ⟨t, r, rfl, hd'⟩)⟩

theorem keep3 {B b o : Nat} {v x0 x1 x2 : Value} {u : World} (hb : b ≠ B) (h : u.cell? ⟨b, o, none⟩ = some v) : (((u.setCell ⟨B, 0, none⟩ x0).setCell ⟨B, 1, none⟩ x1).setCell ⟨B, 2, none⟩ x2).cell? ⟨b, o, none⟩ = some v := by
  unfold World.cell? at h ⊢
  simp only at h ⊢
  rw [store3_far hb]
  exact h
theorem alloc_cell {b o : Nat} {v : Value} {u : World} {x : Obj} (h : u.cell? ⟨b, o, none⟩ = some v) : (u.alloc x).cell? ⟨b, o, none⟩ = some v := cell_below ((Below.refl _ _).alloc (Nat.le_refl _) _) h
theorem drew_cell {b o : Nat} {v : Value} {u : World} (h : u.cell? ⟨b, o, none⟩ = some v) : u.drew.cell? ⟨b, o, none⟩ = some v := h

theorem Rdr.drew {rb : Nat} {ts : List Tok} {bad : Bool} {w : World} (h : Rdr rb ts bad w) : Rdr rb ts bad w.drew := h.below (Below.refl _ _).drew
theorem Rdr.alloc {rb : Nat} {ts : List Tok} {bad : Bool} {w : World} (h : Rdr rb ts bad w) (x : Obj) : Rdr rb ts bad (w.alloc x) := h.below ((Below.refl _ _).alloc (Nat.le_refl _) _)

set_option maxRecDepth 100000 in
set_option maxHeartbeats 3200000 in
theorem operandRef_any (rb : Nat) (ts : List Tok) (bad : Bool) (A : List Tok → Option (F × List Tok)) (w : World) (h : Rdr rb ts bad w)
    (hA : ∀ u, Rdr rb ts bad u → Calls Tryd.prog 71 #[.pointer (some ⟨rb, 0, none⟩)] u (RP rb ts bad (A ts) u)) :
    Calls Tryd.prog 59 #[.pointer (some ⟨rb, 0, none⟩)] w (RP rb ts bad (operandT A ts) w) := by
  obtain ⟨R, hR1⟩ : ∃ R, R = RP rb ts bad (operandT A ts) w := ⟨_, rfl⟩
  rw [← hR1]
  have HR1 := Lib.hid hR1
  clear hR1
  have HA := Lib.hid hA
  clear hA
  have hst := Start.mk' h
  obtain ⟨W, hW⟩ : ∃ W, W = w.alloc (.cells #[.int .i64 0, .int .i64 0, .slice none 0 0] 24) := ⟨_, rfl⟩
  rw [← hW] at hst
  go_enter Tryd.func59, Tryd.ntmps59
  go_wp2_with fail
  rw [← hW]
  clear hW
  refine (HA.out W hst.rd).mono ?_
  rintro e w1 ⟨f, a, cap, ts3, b3, ⟨rfl, hsl1, hr1, ho1, hl1, hg1⟩⟩
  obtain ⟨W1, hW1⟩ : ∃ W1, W1 = w1.alloc (.cells #[.int .i64 f.k, .int .i64 f.n, .slice a f.t.len cap] 24) := ⟨_, rfl⟩
  have hbW1 : Below w1.heap.size w1 W1 := by rw [hW1]; exact (Below.refl _ _).alloc (Nat.le_refl _) _
  have hbx : W1.heap[w1.heap.size]? = some (Obj.cells #[.int .i64 f.k, .int .i64 f.n, .slice a f.t.len cap] 24 (0, 0)) := by rw [hW1]; exact heap_new _ _
  have hrW1 := hr1.below hbW1
  have hoW1 : Oth rb W W1 := ho1.below hbW1
  have hres1 : HdRes w.heap.size W1 := hoW1.keep (by have := hst.lt; omega) hst.res
  have hw1 : rb < w1.heap.size := hr1.lt
  have hszW : w.heap.size + 1 ≤ W.heap.size := heap_lt hst.res
  have hszW1 := ho1.size
  obtain ⟨x0, x1, x2⟩ := cells_of hbx
  obtain ⟨z0, z1, z2⟩ := cells_of hres1
  have vz := fun o => frozen_of (o := o) hres1
  go_wp2_with fail
  rw [← hW1]
  clear hW1
  by_cases hd : ts3.head? = some [94]
  · obtain ⟨r3, rfl⟩ : ∃ r3, ts3 = [94] :: r3 := by
      cases ts3 with
      | nil => cases hd
      | cons u r3 => simp only [List.head?_cons, Option.some.injEq] at hd; exact ⟨r3, by rw [hd]⟩
    refine (sees_at hrW1 [94] true rfl).mono ?_
    rintro e w' ⟨rfl, rfl⟩
    go_wp2_with fail
    refine (tk_yes rb [94] r3 b3 _ hrW1).mono ?_
    rintro e w2 ⟨rfl, ho2, hr2⟩
    obtain ⟨s, ts', bad', ⟨hsd, hsl, hgood⟩, htl, hcall⟩ := pow_step hg1 w2 hr2
    have HG := Lib.hid hgood
    have HC := Lib.hid hcall
    have HN := Lib.hid (fun u => numRef_any s u hsl hsd)
    have HR := Lib.hid (fun u (hu : Below w2.heap.size w2 u) => hr2.below hu)
    have hbx2 := ho2.keep (by omega) hbx
    have hres2 := ho2.keep (by have := hst.lt; omega) hres1
    have HX := Lib.hid (fun u (hu : Oth rb w2 u) => cells_of (hu.keep (by omega) hbx2))
    have HZ := Lib.hid (fun u (hu : Oth rb w2 u) => show HdRes w.heap.size u from hu.keep (by have := hst.lt; omega) hres2)
    clear hgood hcall hsd hsl hd x0 x1 x2 z0 z1 z2 vz hbx hres1 hrW1
    obtain ⟨x0, x1, x2⟩ := HX.out _ (Oth.refl rb w2)
    have hne : w1.heap.size ≠ w.heap.size := by omega
    go_wp2_with fail
    go_region_held3 (fun u : World => u.cell? ⟨w1.heap.size, 0, none⟩ = some (.int .i64 f.k) ∧ u.cell? ⟨w1.heap.size, 1, none⟩ = some (.int .i64 f.n) ∧ u.cell? ⟨w1.heap.size, 2, none⟩ = some (.slice a f.t.len cap)) (first | (with_reducible exact ⟨x0, x1, x2⟩) | (with_reducible exact ⟨drew_cell x0, drew_cell x1, drew_cell x2⟩) | (with_reducible exact ⟨drew_cell (alloc_cell x0), drew_cell (alloc_cell x1), drew_cell (alloc_cell x2)⟩) | (with_reducible exact ⟨alloc_cell x0, alloc_cell x1, alloc_cell x2⟩) | (with_reducible exact ⟨keep3 hne x0, keep3 hne x1, keep3 hne x2⟩)) (first | (go_at_call 73; refine (HC.out _ (by first | (with_reducible exact hr2.drew) | (with_reducible exact (hr2.alloc _).drew))).mono ?_; rintro e w5 ⟨rfl, hoy, hry⟩; have hox := (show Oth rb w2 _ by first | (with_reducible exact (Oth.refl rb w2).drew) | (with_reducible exact ((Oth.refl rb w2).alloc _).drew)).trans hoy; obtain ⟨x0, x1, x2⟩ := HX.out _ hox) | (go_at_call 72; refine (HN.out _).mono ?_; rintro e wx ⟨v, rfl, hv, hv0, hv1, rfl⟩; have HV := Lib.hid hv; clear hv) | (go_at_call 62; refine (of_any _ _ _ _ _ _).mono ?_; rintro e w6 ⟨rfl, hby⟩; have hoz := (show Oth rb w2 _ by first | (with_reducible exact hox) | (with_reducible exact hox.alloc _)).below hby; have hres5 := HZ.out _ hoz; obtain ⟨z0, z1, z2⟩ := cells_of hres5; have vz := fun o => frozen_of (o := o) hres5; obtain ⟨x0, x1, x2⟩ := HX.out _ hoz))
    all_goals
      go_wp2_with fail
    all_goals
      have hoB : Oth rb W w6 := hoW1.trans (ho2.trans hoz)
      have hsz6 := ho2.size
      have hszb := hbW1.size
      have hs6 : Sl (SP (w.heap.size + 1)) w6 a f.t := ((hsl1.below hbW1).othP (P := rb) (fun b o hb => by have := hb.1; have := hst.lt; omega) (ho2.trans hoz)).weaken (fun _ _ => sp_le (by omega))
      have hg := HG.out v HV.out
      have hlen : ts'.length ≤ ts.length := by simp only [List.length_cons] at hl1; omega
    · have hr6 : Rdr rb ts' bad' w6 := (hry.alloc _).below hby
      have hnb : w6.heap[w5.heap.size]? = some (Obj.cells #[.int .i64 f.k, .int .i64 f.n, .slice a f.t.len cap] 24 (0, 0)) := by rw [hby.block _ (by simp)]; exact heap_new _ _
      refine bodyPost_ret (v := F.val ⟨4, v, f.one⟩ (some ⟨w5.heap.size, 0, none⟩) 1) (res59 (f := ⟨4, v, f.one⟩) hres5 rfl) rfl ?_
      rw [HR1.out]
      exact rd_fin (f := ⟨4, v, f.one⟩) hst.lt hres5 (sl_one hnb ⟨by have := hox.size; omega, rfl⟩ hs6) hr6 (((Oth.refl rb w).below hst.bl).trans hoB) hlen hg
    · have hr6 : Rdr rb ts' bad' w6 := (hry.alloc _).below hby
      have hnb : w6.heap[w5.heap.size]? = some (Obj.cells #[.int .i64 f.k, .int .i64 f.n, .slice a f.t.len cap] 24 (0, 0)) := by rw [hby.block _ (by simp)]; exact heap_new _ _
      refine bodyPost_ret (v := F.val ⟨4, v, f.one⟩ (some ⟨w5.heap.size, 0, none⟩) 1) (res59 (f := ⟨4, v, f.one⟩) hres5 rfl) rfl ?_
      rw [HR1.out]
      exact rd_fin (f := ⟨4, v, f.one⟩) hst.lt hres5 (sl_one hnb ⟨by have := hox.size; omega, rfl⟩ hs6) hr6 (((Oth.refl rb w).below hst.bl).trans hoB) hlen hg
    · have hr6 : Rdr rb ts' bad' w6 := hry.below hby
      have hnb0 : ((w2.alloc (Obj.cells #[.int .i64 f.k, .int .i64 f.n, .slice a f.t.len cap] 24)).drew).heap[w2.heap.size]? = some (Obj.cells #[.int .i64 f.k, .int .i64 f.n, .slice a f.t.len cap] 24 (0, 0)) := heap_new _ _
      have hnb : w6.heap[w2.heap.size]? = some (Obj.cells #[.int .i64 f.k, .int .i64 f.n, .slice a f.t.len cap] 24 (0, 0)) := (hoy.below hby).keep (by omega) hnb0
      refine bodyPost_ret (v := F.val ⟨4, v, f.one⟩ (some ⟨w2.heap.size, 0, none⟩) 1) (res59 (f := ⟨4, v, f.one⟩) hres5 rfl) rfl ?_
      rw [HR1.out]
      exact rd_fin (f := ⟨4, v, f.one⟩) hst.lt hres5 (sl_one hnb ⟨by omega, rfl⟩ hs6) hr6 (((Oth.refl rb w).below hst.bl).trans hoB) hlen hg
  · refine (sees_at hrW1 [94] false (by simpa using hd)).mono ?_
    rintro e w' ⟨rfl, rfl⟩
    go_wp2_with fail
    refine bodyPost_ret (v := f.val a cap) (res59 hres1 rfl) rfl ?_
    rw [HR1.out]
    exact rd_fin hst.lt hres1 ((hsl1.below hbW1).weaken (fun _ _ => sp_le (by omega))) hrW1 (((Oth.refl rb w).below hst.bl).trans hoW1) hl1 (good_nohat hg1 hd)
end Go.Proofs.YtioimhnebjiicaaDoor

namespace Go.Proofs.YtioimhnebjiicaaDoor
open Go.RowKit

theorem res38 {B : Nat} {f : F} {a : Option Addr} {cap : Nat} {w : World} (h : HdRes B w) {tm : Array Value} (h2 : tm[2]? = some (.pointer (some ⟨B, 0, none⟩))) :
    (results Tryd.f38 tm).run Tryd.prog (stored B f a cap w) = .ok (f.val a cap) (stored B f a cap w) := by
  obtain ⟨d0, d1, d2⟩ := stored_cells (f := f) (a := a) (cap := cap) h
  simp [results, Tryd.results38, go_sem, h2, d0, d1, d2]

theorem good_nobin {bad bad' : Bool} {O : List Tok → Option (F × List Tok)} {ts ts' : List Tok} {f : F} (h : Good bad (O ts) f ts' bad') (hn : ts'.head? ≠ some [42]) (hn2 : ts'.head? ≠ some [43]) : Good bad (functorT O ts) f ts' bad' := by
  refine ⟨h.1, fun hb => ?_⟩
  have := h.2 hb
  unfold functorT
  cases hA : O ts with
  | none => rw [hA] at this; exact this
  | some p =>
    obtain ⟨g, r⟩ := p
    rw [hA] at this
    obtain ⟨h1, h2, h3⟩ := this
    subst h3
    cases ts' with
    | nil => exact ⟨h1, h2, rfl⟩
    | cons u r =>
      have hu : u ≠ [42] := by simpa using hn
      have hu2 : u ≠ [43] := by simpa using hn2
      simp only [binT, hu, hu2, or_self, if_false]
      exact ⟨h1, h2, trivial⟩

theorem good_bin {bad b3 b5 : Bool} {O : List Tok → Option (F × List Tok)} {ts r ts5 : List Tok} {f g : F} {t : Tok} (h : Good bad (O ts) f (t :: r) b3) (ht : t = [42] ∨ t = [43]) (h5 : Good b3 (O r) g ts5 b5) : Good bad (functorT O ts) ⟨kind2T t, 0, F.two f g⟩ ts5 b5 := by
  refine ⟨fun hb => h5.1 (h.1 hb), fun hb => ?_⟩
  have := h.2 hb
  unfold functorT
  cases hA : O ts with
  | none => rw [hA] at this; exact h5.1 this
  | some p =>
    obtain ⟨f0, r0⟩ := p
    rw [hA] at this
    obtain ⟨h1, h2, h3⟩ := this
    subst h3
    have := h5.2 h1
    simp only [binT, if_pos ht]
    cases hO : O r with
    | none => rw [hO] at this; exact this
    | some q =>
      obtain ⟨g0, r5⟩ := q
      rw [hO] at this
      obtain ⟨k1, k2, k3⟩ := this
      exact ⟨k1, by rw [F.cap_two, h2, k2], k3⟩

set_option maxRecDepth 100000 in
set_option maxHeartbeats 3200000 in
theorem functorRef_any (rb : Nat) (ts : List Tok) (bad : Bool) (O : List Tok → Option (F × List Tok)) (w : World) (h : Rdr rb ts bad w)
    (hO : ∀ ts' bad' u, ts'.length ≤ ts.length → (bad = true → bad' = true) → Rdr rb ts' bad' u → Calls Tryd.prog 59 #[.pointer (some ⟨rb, 0, none⟩)] u (RP rb ts' bad' (O ts') u)) :
    Calls Tryd.prog 38 #[.pointer (some ⟨rb, 0, none⟩)] w (RP rb ts bad (functorT O ts) w) := by
  obtain ⟨R, hR1⟩ : ∃ R, R = RP rb ts bad (functorT O ts) w := ⟨_, rfl⟩
  rw [← hR1]
  have HR1 := Lib.hid hR1
  clear hR1
  have HO := Lib.hid hO
  clear hO
  have hst := Start.mk' h
  obtain ⟨W, hW⟩ : ∃ W, W = w.alloc (.cells #[.int .i64 0, .int .i64 0, .slice none 0 0] 24) := ⟨_, rfl⟩
  rw [← hW] at hst
  go_enter Tryd.func38, Tryd.ntmps38
  go_wp2_with fail
  rw [← hW]
  clear hW
  refine (HO.out ts bad W (Nat.le_refl _) id hst.rd).mono ?_
  rintro e w1 ⟨f, a, cap, ts3, b3, ⟨rfl, hsl1, hr1, ho1, hl1, hg1⟩⟩
  obtain ⟨W1, hW1⟩ : ∃ W1, W1 = (w1.alloc (.cells #[.int .i64 f.k, .int .i64 f.n, .slice a f.t.len cap] 24)).alloc (.cells #[.string (bs [42]), .string (bs [43])] 9) := ⟨_, rfl⟩
  have hbW1 : Below w1.heap.size w1 W1 := by rw [hW1]; exact ((Below.refl _ _).alloc (Nat.le_refl _) _).alloc (by simp) _
  have hszx : W1.heap.size = w1.heap.size + 2 := by rw [hW1]; simp
  have HSZ := Lib.hid hszx
  clear hszx
  have hbx : W1.heap[w1.heap.size]? = some (Obj.cells #[.int .i64 f.k, .int .i64 f.n, .slice a f.t.len cap] 24 (0, 0)) := by rw [hW1]; exact heap_old2 _ _ _
  have hby : W1.heap[w1.heap.size + 1]? = some (Obj.cells #[.string (bs [42]), .string (bs [43])] 9 (0, 0)) := by rw [hW1]; exact heap_new2 _ _ _
  have hrW1 := hr1.below hbW1
  have hoW1 : Oth rb W W1 := ho1.below hbW1
  have hres1 : HdRes w.heap.size W1 := hoW1.keep (by have := hst.lt; omega) hst.res
  have hw1 : rb < w1.heap.size := hr1.lt
  have hszW : w.heap.size + 1 ≤ W.heap.size := heap_lt hst.res
  have hszW1 := ho1.size
  go_wp2_with fail
  rw [← hW1]
  clear hW1
  obtain ⟨x0, x1, x2⟩ := cells_of hbx
  have y0 : W1.cell? ⟨w1.heap.size + 1, 0, none⟩ = some (.string (bs [42])) := by simp [World.cell?, hby]
  have y1 : W1.cell? ⟨w1.heap.size + 1, 1, none⟩ = some (.string (bs [43])) := by simp [World.cell?, hby]
  go_loop [5, 6, 11] (fun _ _ i => i = .int .i64 ((0 : Nat) : Int) ∨ (i = .int .i64 ((1 : Nat) : Int) ∧ ts3.head? ≠ some [42]) ∨ (i = .int .i64 ((2 : Nat) : Int) ∧ ts3.head? ≠ some [42] ∧ ts3.head? ≠ some [43])) (fun _ _ i => 2 - (intOf i).toNat)
  case atStart => exact Or.inl rfl
  case round =>
    rcases hrel with rfl | ⟨rfl, hn⟩ | ⟨rfl, hn, hn2⟩
    · by_cases hd : ts3.head? = some [42]
      · obtain ⟨r3, rfl⟩ : ∃ r3, ts3 = [42] :: r3 := by
          cases ts3 with
          | nil => cases hd
          | cons u r3 => simp only [List.head?_cons, Option.some.injEq] at hd; exact ⟨r3, by rw [hd]⟩
        clear hd
        go_wp2_with fail
        refine (sees_at hrW1 [42] true rfl).mono ?_
        rintro e w' ⟨rfl, rfl⟩
        go_wp2_with fail
        refine (tk_yes rb [42] r3 b3 _ hrW1).mono ?_
        rintro e w2 ⟨rfl, ho2, hr2⟩
        have hbx2 := ho2.keep (by omega) hbx
        have hres2 := ho2.keep (by have := hst.lt; omega) hres1
        have HX := Lib.hid (fun u (hu : Oth rb w2 u) => cells_of (hu.keep (by omega) hbx2))
        have HZ := Lib.hid (fun u (hu : Oth rb w2 u) => show HdRes w.heap.size u from hu.keep (by have := hst.lt; omega) hres2)
        have HO2 := Lib.hid (fun u (hu : Rdr rb r3 b3 u) => HO.out r3 b3 u (by simp only [List.length_cons] at hl1; omega) hg1.1 hu)
        clear x0 x1 x2 y0 y1 hby hbx hres1 hrW1
        obtain ⟨x0, x1, x2⟩ := HX.out _ (Oth.refl rb w2)
        have hne : w1.heap.size ≠ w.heap.size := by omega
        have hw12 : w1.heap.size + 2 ≤ w2.heap.size := by have := ho2.size; have := HSZ.out; omega
        go_wp2_with fail
        go_region_held3 (fun u : World => u.cell? ⟨w1.heap.size, 0, none⟩ = some (.int .i64 f.k) ∧ u.cell? ⟨w1.heap.size, 1, none⟩ = some (.int .i64 f.n) ∧ u.cell? ⟨w1.heap.size, 2, none⟩ = some (.slice a f.t.len cap)) (first | (with_reducible exact ⟨x0, x1, x2⟩) | (with_reducible exact ⟨drew_cell x0, drew_cell x1, drew_cell x2⟩) | (with_reducible exact ⟨alloc_cell x0, alloc_cell x1, alloc_cell x2⟩) | (with_reducible exact ⟨keep3 hne x0, keep3 hne x1, keep3 hne x2⟩)) (first | (go_at_call 59; refine (HO2.out _ hr2.drew).mono ?_; rintro e w5 ⟨g, ag, capg, ts5, b5, ⟨rfl, hsl5, hr5, ho5, hl5, hg5⟩⟩; have hox := (show Oth rb w2 _ from (Oth.refl rb w2).drew).trans ho5; obtain ⟨x0, x1, x2⟩ := HX.out _ hox) | (go_at_call 62; refine (of_any _ _ _ _ _ _).mono ?_; rintro e w6 ⟨rfl, hby⟩; have hoz := (hox.alloc _).below hby; have hres5 := HZ.out _ hoz; obtain ⟨z0, z1, z2⟩ := cells_of hres5; have vz := fun o => frozen_of (o := o) hres5; obtain ⟨x0, x1, x2⟩ := HX.out _ hoz))
        go_wp2_with fail
        have hoB : Oth rb W w6 := hoW1.trans (ho2.trans hoz)
        have hszb := hbW1.size
        have hs6 : Sl (SP (w.heap.size + 1)) w6 a f.t := ((hsl1.below hbW1).othP (P := rb) (fun b o hb => by have := hb.1; have := hst.lt; omega) (ho2.trans hoz)).weaken (fun _ _ => sp_le (by omega))
        have hsg : Sl (SP (w.heap.size + 1)) w6 ag g.t := ((hsl5.below ((Below.refl _ _).alloc (Nat.le_refl _) _)).below hby).weaken (fun _ _ => sp_le (by simp; omega))
        have hr6 : Rdr rb ts5 b5 w6 := (hr5.alloc _).below hby
        have hnb : w6.heap[w5.heap.size]? = some (Obj.cells #[.int .i64 f.k, .int .i64 f.n, .slice a f.t.len cap, .int .i64 g.k, .int .i64 g.n, .slice ag g.t.len capg] 24 (0, 0)) := by rw [hby.block _ (by simp)]; exact heap_new _ _
        have h5s : w2.heap.size ≤ w5.heap.size := hox.size
        have hsn : Sl (SP (w.heap.size + 1)) w6 (some ⟨w5.heap.size, 0, none⟩) (F.two f g) := sl_two hnb ⟨by omega, rfl⟩ ⟨by omega, rfl⟩ hs6 hsg
        refine bodyPost_ret (v := F.val ⟨2, 0, F.two f g⟩ (some ⟨w5.heap.size, 0, none⟩) 2) (res38 (f := ⟨2, 0, F.two f g⟩) hres5 rfl) rfl ?_
        rw [HR1.out]
        exact rd_fin (f := ⟨2, 0, F.two f g⟩) hst.lt hres5 hsn hr6 (((Oth.refl rb w).below hst.bl).trans hoB) (by simp only [List.length_cons] at hl1; omega) (good_bin hg1 (by simp) hg5)
      · have hdf : decide (ts3.head? = some [42]) = false := by simpa using hd
        have HD := Lib.hid hd
        have HDF := Lib.hid hdf
        clear hd hdf
        go_wp2_with fail
        refine (sees_at hrW1 [42] false HDF.out).mono ?_
        rintro e w' ⟨rfl, rfl⟩
        go_wp2_with fail
        go_round
        case rel => exact Or.inr (Or.inl ⟨by go_num, HD.out⟩)
        case measure => simp [intOf]
    · by_cases hd : ts3.head? = some [43]
      · obtain ⟨r3, rfl⟩ : ∃ r3, ts3 = [43] :: r3 := by
          cases ts3 with
          | nil => cases hd
          | cons u r3 => simp only [List.head?_cons, Option.some.injEq] at hd; exact ⟨r3, by rw [hd]⟩
        clear hd hn
        go_wp2_with fail
        refine (sees_at hrW1 [43] true rfl).mono ?_
        rintro e w' ⟨rfl, rfl⟩
        go_wp2_with fail
        refine (tk_yes rb [43] r3 b3 _ hrW1).mono ?_
        rintro e w2 ⟨rfl, ho2, hr2⟩
        have hbx2 := ho2.keep (by omega) hbx
        have hres2 := ho2.keep (by have := hst.lt; omega) hres1
        have HX := Lib.hid (fun u (hu : Oth rb w2 u) => cells_of (hu.keep (by omega) hbx2))
        have HZ := Lib.hid (fun u (hu : Oth rb w2 u) => show HdRes w.heap.size u from hu.keep (by have := hst.lt; omega) hres2)
        have HO2 := Lib.hid (fun u (hu : Rdr rb r3 b3 u) => HO.out r3 b3 u (by simp only [List.length_cons] at hl1; omega) hg1.1 hu)
        clear x0 x1 x2 y0 y1 hby hbx hres1 hrW1
        obtain ⟨x0, x1, x2⟩ := HX.out _ (Oth.refl rb w2)
        have hne : w1.heap.size ≠ w.heap.size := by omega
        have hw12 : w1.heap.size + 2 ≤ w2.heap.size := by have := ho2.size; have := HSZ.out; omega
        go_wp2_with fail
        go_region_held3 (fun u : World => u.cell? ⟨w1.heap.size, 0, none⟩ = some (.int .i64 f.k) ∧ u.cell? ⟨w1.heap.size, 1, none⟩ = some (.int .i64 f.n) ∧ u.cell? ⟨w1.heap.size, 2, none⟩ = some (.slice a f.t.len cap)) (first | (with_reducible exact ⟨x0, x1, x2⟩) | (with_reducible exact ⟨drew_cell x0, drew_cell x1, drew_cell x2⟩) | (with_reducible exact ⟨alloc_cell x0, alloc_cell x1, alloc_cell x2⟩) | (with_reducible exact ⟨keep3 hne x0, keep3 hne x1, keep3 hne x2⟩)) (first | (go_at_call 59; refine (HO2.out _ hr2.drew).mono ?_; rintro e w5 ⟨g, ag, capg, ts5, b5, ⟨rfl, hsl5, hr5, ho5, hl5, hg5⟩⟩; have hox := (show Oth rb w2 _ from (Oth.refl rb w2).drew).trans ho5; obtain ⟨x0, x1, x2⟩ := HX.out _ hox) | (go_at_call 62; refine (of_any _ _ _ _ _ _).mono ?_; rintro e w6 ⟨rfl, hby⟩; have hoz := (hox.alloc _).below hby; have hres5 := HZ.out _ hoz; obtain ⟨z0, z1, z2⟩ := cells_of hres5; have vz := fun o => frozen_of (o := o) hres5; obtain ⟨x0, x1, x2⟩ := HX.out _ hoz))
        go_wp2_with fail
        have hoB : Oth rb W w6 := hoW1.trans (ho2.trans hoz)
        have hszb := hbW1.size
        have hs6 : Sl (SP (w.heap.size + 1)) w6 a f.t := ((hsl1.below hbW1).othP (P := rb) (fun b o hb => by have := hb.1; have := hst.lt; omega) (ho2.trans hoz)).weaken (fun _ _ => sp_le (by omega))
        have hsg : Sl (SP (w.heap.size + 1)) w6 ag g.t := ((hsl5.below ((Below.refl _ _).alloc (Nat.le_refl _) _)).below hby).weaken (fun _ _ => sp_le (by simp; omega))
        have hr6 : Rdr rb ts5 b5 w6 := (hr5.alloc _).below hby
        have hnb : w6.heap[w5.heap.size]? = some (Obj.cells #[.int .i64 f.k, .int .i64 f.n, .slice a f.t.len cap, .int .i64 g.k, .int .i64 g.n, .slice ag g.t.len capg] 24 (0, 0)) := by rw [hby.block _ (by simp)]; exact heap_new _ _
        have h5s : w2.heap.size ≤ w5.heap.size := hox.size
        have hsn : Sl (SP (w.heap.size + 1)) w6 (some ⟨w5.heap.size, 0, none⟩) (F.two f g) := sl_two hnb ⟨by omega, rfl⟩ ⟨by omega, rfl⟩ hs6 hsg
        refine bodyPost_ret (v := F.val ⟨3, 0, F.two f g⟩ (some ⟨w5.heap.size, 0, none⟩) 2) (res38 (f := ⟨3, 0, F.two f g⟩) hres5 rfl) rfl ?_
        rw [HR1.out]
        exact rd_fin (f := ⟨3, 0, F.two f g⟩) hst.lt hres5 hsn hr6 (((Oth.refl rb w).below hst.bl).trans hoB) (by simp only [List.length_cons] at hl1; omega) (good_bin hg1 (by simp) hg5)
      · have hdf : decide (ts3.head? = some [43]) = false := by simpa using hd
        have HD := Lib.hid hd
        have HDF := Lib.hid hdf
        have HN := Lib.hid hn
        clear hd hdf hn
        go_wp2_with fail
        refine (sees_at hrW1 [43] false HDF.out).mono ?_
        rintro e w' ⟨rfl, rfl⟩
        go_wp2_with fail
        go_round
        case rel => exact Or.inr (Or.inr ⟨by go_num, HN.out, HD.out⟩)
        case measure => simp [intOf]
    · have HN := Lib.hid hn
      have HN2 := Lib.hid hn2
      clear hn hn2
      obtain ⟨z0, z1, z2⟩ := cells_of hres1
      have vz := fun o => frozen_of (o := o) hres1
      go_wp2_with fail
      refine bodyPost_ret (v := f.val a cap) (res38 hres1 rfl) rfl ?_
      rw [HR1.out]
      exact rd_fin hst.lt hres1 ((hsl1.below hbW1).weaken (fun _ _ => sp_le (by omega))) hrW1 (((Oth.refl rb w).below hst.bl).trans hoW1) hl1 (good_nobin hg1 HN.out HN2.out)
end Go.Proofs.YtioimhnebjiicaaDoor

namespace Go.Proofs.YtioimhnebjiicaaDoor
open Go.RowKit

theorem reader_any (n : Nat) : ∀ (rb : Nat) (ts : List Tok) (bad : Bool) (u : World), (bad = false → ts.length < n) → Rdr rb ts bad u → Calls Tryd.prog 71 #[.pointer (some ⟨rb, 0, none⟩)] u (RP rb ts bad (atomN n ts) u) := by
  induction n with
  | zero =>
    intro rb ts bad u hl hr
    cases bad with
    | true => exact atom_bad rb ts _ u hr
    | false => exact absurd (hl rfl) (Nat.not_lt_zero _)
  | succ n ih =>
    intro rb ts bad u hl hr
    have f38 : ∀ ts' bad', (bad' = false → ts'.length < n) → Fun38 rb (functorT (operandT (atomN n))) ts' bad' := by
      intro ts' bad' h1 u1 hr1
      refine functorRef_any rb ts' bad' _ u1 hr1 fun ts2 bad2 u2 hl2 hb2 hr2 => operandRef_any rb ts2 bad2 _ u2 hr2 fun u3 hr3 => ih rb ts2 bad2 u3 (fun h => ?_) hr3
      have : bad' = false := by
        cases hb : bad' with
        | false => rfl
        | true => rw [hb2 hb] at h; cases h
      have := h1 this
      omega
    cases bad with
    | true => exact atom_bad rb ts _ u hr
    | false =>
      have hl := hl rfl
      show Calls Tryd.prog 71 _ u (RP rb ts false (atomT (functorT (operandT (atomN n))) ts) u)
      have cases : (∃ (t : Tok) (r : List Tok), ts = t :: r ∧ (t = [88] ∨ t = [80] ∨ t = [66] ∨ t = [68] ∨ t = [40])) ∨ (noHead ts [88] ∧ noHead ts [80] ∧ noHead ts [66] ∧ noHead ts [68] ∧ noHead ts [40]) := by
        by_cases h1 : ts.head? = some [88]
        · cases ts with
          | nil => cases h1
          | cons t r => exact Or.inl ⟨t, r, rfl, by simpa using Or.inl (by simpa using h1)⟩
        by_cases h2 : ts.head? = some [80]
        · cases ts with
          | nil => cases h2
          | cons t r => simp only [List.head?_cons, Option.some.injEq] at h2; exact Or.inl ⟨t, r, rfl, by simp [h2]⟩
        by_cases h3 : ts.head? = some [66]
        · cases ts with
          | nil => cases h3
          | cons t r => simp only [List.head?_cons, Option.some.injEq] at h3; exact Or.inl ⟨t, r, rfl, by simp [h3]⟩
        by_cases h4 : ts.head? = some [68]
        · cases ts with
          | nil => cases h4
          | cons t r => simp only [List.head?_cons, Option.some.injEq] at h4; exact Or.inl ⟨t, r, rfl, by simp [h4]⟩
        by_cases h5 : ts.head? = some [40]
        · cases ts with
          | nil => cases h5
          | cons t r => simp only [List.head?_cons, Option.some.injEq] at h5; exact Or.inl ⟨t, r, rfl, by simp [h5]⟩
        exact Or.inr ⟨by simpa [noHead] using h1, by simpa [noHead] using h2, by simpa [noHead] using h3, by simpa [noHead] using h4, by simpa [noHead] using h5⟩
      rcases cases with ⟨t, r, rfl, ht⟩ | ⟨n1, n2, n3, n4, n5⟩
      · simp only [List.length_cons] at hl
        have hpre := f38 (takeT [40] r false).1 (takeT [40] r false).2 (fun _ => by have := take_len [40] r false; omega)
        rcases ht with rfl | rfl | rfl | rfl | rfl
        · exact atom_x rb r _ u hr
        · exact atom_p rb r _ u hr hpre
        · exact atom_b rb r _ u hr hpre
        · exact atom_d rb r _ u hr hpre
        · exact atom_br rb r _ u hr (f38 r false (fun _ => by omega))
      · exact atom_num rb ts _ u hr n1 n2 n3 n4 n5

/-- The reference's reader, at tokens that are not marked. -/
theorem readRef_any (n : Nat) (rb : Nat) (ts : List Tok) (u : World) (hl : ts.length < n) (hr : Rdr rb ts false u) : Calls Tryd.prog 38 #[.pointer (some ⟨rb, 0, none⟩)] u (RP rb ts false (readT n ts) u) :=
  functorRef_any rb ts false _ u hr fun ts2 bad2 u2 hl2 _ hr2 => operandRef_any rb ts2 bad2 _ u2 hr2 fun u3 hr3 => reader_any n rb ts2 bad2 u3 (fun _ => by omega) hr3
end Go.Proofs.YtioimhnebjiicaaDoor
