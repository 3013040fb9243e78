/-
  Proved here: a step towards the statements of chapter 1 (functors): what one of its functions does at each input.
-/
import Derived.Test.YtioimhnebjiicaaDoorParH
namespace Go.Proofs.YtioimhnebjiicaaDoor
open Go.RowKit

def D50 (y : Lay) (B : Nat) (k : Int) (g : F) (b : Option Addr) (capl : Nat) (f : F) : List (Nat × Nat × (Value → World → Prop)) :=
  [(0, 5, IsV (.int .i64 k)), (1, 6, IsV (g.val b capl)), (2, 7, IsV y.ptr), (3, 8, IsF (B + 2) f), (4, 9, IsSl y (B + 1) 2 (cs2 (B + 2) g b capl f) (fun s => s)),
   (5, 10, IsSl y (B + 1) 2 (cs2 (B + 2) g b capl f) (fun s => .agg #[.int .i64 k, .int .i64 0, s]))]

set_option maxRecDepth 100000 in
set_option maxHeartbeats 800000 in
/-- The closure of products and sums. -/
theorem pair_any (y : Lay) (q : Nat) (w : World) (k : Int) (kb : Nat) (g : F) (b : Option Addr) (capl : Nat) (O : List UInt8 → Option (F × List UInt8)) (h : PS w y q) (hk : w.cell? ⟨kb, 0, none⟩ = some (.int .i64 k))
    (S : Nat → Nat → Prop) (hS : ∀ b o, S b o → b ≠ y.pb) (hsl : Sl S w b g.t)
    (hop : ∀ w1, PS w1 y q → Calls Tryd.prog 51 #[y.ptr] w1 (FunPost y (SP w1.heap.size) w1 (O (y.txt q)))) :
    Calls Tryd.prog 50 #[g.val b capl, .pointer (some ⟨kb, 0, none⟩), y.var] w (FunPost y (fun b o => S b o ∨ SP w.heap.size b o) w (twoR k g (O (y.txt q)))) := by
  have hv := h.hv
  have hlt := h.lt
  have hkb : kb ≠ y.pb := by
    intro e
    rw [e, h.c0] at hk
    cases hk
  obtain ⟨m, hm0⟩ : ∃ m, m = O (y.txt q) := ⟨_, rfl⟩
  obtain ⟨f, hf0⟩ : ∃ f, f = (m.map (·.1)).getD ⟨0, 0, .nil⟩ := ⟨_, rfl⟩
  rw [← hm0] at hop ⊢
  have HOP := Lib.hid hop
  clear hop
  obtain ⟨R, hR1⟩ : ∃ R, R = FunPost y (fun b o => S b o ∨ SP w.heap.size b o) w (twoR k g m) := ⟨_, rfl⟩
  rw [← hR1]
  have HV := Lib.hid hf0
  have HR1 := Lib.hid hR1
  clear hm0 hf0 hR1
  have hm : ∀ x ∈ D50 y w.heap.size k g b capl f, ∀ u, Stays y (x.2.2 u) := by
    intro x hx u
    simp only [D50, List.mem_cons, List.not_mem_nil, or_false] at hx
    rcases hx with rfl | rfl | rfl | rfl | rfl | rfl
    · exact stays_isV _ _ _
    · exact stays_isV _ _ _
    · exact stays_isV _ _ _
    · exact stays_isF _ _ (by omega) _ _
    · dsimp only
      exact stays_isSl _ _ _ _ _ _ (stays_cs2 y _ (by omega) g b capl f)
    · dsimp only
      exact stays_isSl _ _ _ _ _ _ (stays_cs2 y _ (by omega) g b capl f)
  have hh := stays_hdBox y w.heap.size g b capl hlt
  have hDn : ∀ (q1 : Nat) (u u' : World), Below u.heap.size u u' → DnF y m f q1 u → DnF y m f q1 u' := fun _ _ _ _ h => h
  go_enter Tryd.func50, Tryd.ntmps50
  go_wp2_with fail
  rename_i K hK
  refine wp_region_last [_, _, _, _, _, _] _ rfl (by kernel_rfl) (Cl y w q 3 11 [(1, .pointer (some ⟨kb, 0, none⟩)), (2, y.var), (3, .pointer (some ⟨w.heap.size, 0, none⟩)), (4, .pointer (some ⟨w.heap.size + 1, 0, none⟩))] (D50 y w.heap.size k g b capl f) (HdBox w.heap.size g b capl) (DnF y m f)) (by kernel_rfl) (by kernel_rfl) ?_ ?_ ?_
  · refine ⟨rfl, rfl, ?_, ?_, hdBox_mk w g b capl, (((Oth.refl _ _).alloc _).alloc _).drew, ?_⟩
    · intro x hx
      simp only [List.mem_cons, List.not_mem_nil, or_false] at hx
      rcases hx with rfl | rfl | rfl | rfl <;> rfl
    · intro x hx hL; cases hL
    · refine ⟨q, ?_, by simp⟩
      show ((w.alloc _).alloc _).heap[y.pb]? = _
      rw [Below.heap_alloc _ _ _ (by simp; omega), Below.heap_alloc _ _ _ hlt]
      exact h.hp
  · refine ⟨?_, ?_, ?_, ?_, ?_, ?_, trivial⟩
    · intro L c wr hI hL he
      have hkc := hI.oth.cell hkb hk
      have s1 := hI.fx (1, .pointer (some ⟨kb, 0, none⟩)) (by simp)
      simp only at s1
      unfold Oper.wp
      simp [execOp, Act.eval, s1, go_sem, hkc]
      refine hI.step hm hh 0 5 _ _ (Oth.refl _ _) (hI.ps_keep (Below.refl _ _) hDn (by decide)) (by omega) (by simp) ?_
      intro x hx
      simp only [D50, List.mem_cons, List.not_mem_nil, or_false] at hx
      rcases hx with rfl | rfl | rfl | rfl | rfl | rfl
      · exact Or.inl ⟨rfl, rfl, rfl⟩
      · exact Or.inr ⟨by simp, by simp⟩
      · exact Or.inr ⟨by simp, by simp⟩
      · exact Or.inr ⟨by simp, by simp⟩
      · exact Or.inr ⟨by simp, by simp⟩
      · exact Or.inr ⟨by simp, by simp⟩
    · intro L c wr hI hL he
      have s3 := hI.fx (3, .pointer (some ⟨w.heap.size, 0, none⟩)) (by simp)
      simp only at s3
      obtain ⟨b0, b1, b2⟩ := cells_of hI.hd.1
      unfold Oper.wp
      simp [execOp, Act.eval, s3, go_sem, b0, b1, b2]
      refine hI.step hm hh 1 6 _ _ (Oth.refl _ _) (hI.ps_keep (Below.refl _ _) hDn (by decide)) (by omega) (by simp) ?_
      intro x hx
      simp only [D50, List.mem_cons, List.not_mem_nil, or_false] at hx
      rcases hx with rfl | rfl | rfl | rfl | rfl | rfl
      · exact Or.inr ⟨by simp, by simp⟩
      · exact Or.inl ⟨rfl, rfl, rfl⟩
      · exact Or.inr ⟨by simp, by simp⟩
      · exact Or.inr ⟨by simp, by simp⟩
      · exact Or.inr ⟨by simp, by simp⟩
      · exact Or.inr ⟨by simp, by simp⟩
    · intro L c wr hI hL he
      have hvb : wr.cell? ⟨y.vb, 0, none⟩ = some y.ptr := hI.oth.cell h.vb_ne hv
      have s2 := hI.fx (2, y.var) (by simp)
      simp only at s2
      unfold Oper.wp
      simp [execOp, Act.eval, s2, go_sem, hvb]
      refine hI.step hm hh 2 7 _ _ (Oth.refl _ _) (hI.ps_keep (Below.refl _ _) hDn (by decide)) (by omega) (by simp) ?_
      intro x hx
      simp only [D50, List.mem_cons, List.not_mem_nil, or_false] at hx
      rcases hx with rfl | rfl | rfl | rfl | rfl | rfl
      · exact Or.inr ⟨by simp, by simp⟩
      · exact Or.inr ⟨by simp, by simp⟩
      · exact Or.inl ⟨rfl, rfl, rfl⟩
      · exact Or.inr ⟨by simp, by simp⟩
      · exact Or.inr ⟨by simp, by simp⟩
      · exact Or.inr ⟨by simp, by simp⟩
    · intro L c wr hI hL he
      have l2 := he ⟨2, .data⟩ (by simp) rfl
      obtain ⟨_, s7, rfl⟩ := hI.ds (2, 7, IsV y.ptr) (by simp [D50]) l2
      simp only at s7
      unfold Oper.wp
      simp [Act.eval, s7, go_sem]
      have hsz := heap_lt hI.hd.2
      refine (HOP.out wr (hI.ps_no h hL)).mono fun e w' he => ?_
      rcases (show m = none ∨ ∃ p, m = some p by cases m <;> simp) with hm1 | ⟨p, hm1⟩
      · rw [hm1] at he
        obtain ⟨rfl, ho⟩ := he
        exact ⟨hI.df, by rw [HR1.out, hm1]; exact ⟨rfl, hI.oth.trans ho⟩⟩
      · rw [hm1] at he
        obtain ⟨a', cap', q2, rfl, hsl2, hq2, ht2, hp2, ho2⟩ := he
        have ev : f = p.1 := by rw [HV.out, hm1]; rfl
        refine hI.step hm hh 3 8 _ _ ho2 ⟨q2, hp2.hp, by rw [ls_self, if_pos rfl]; exact ⟨by rw [hm1, ev, ht2], hq2⟩⟩ (by omega) (by simp) ?_
        intro x hx
        simp only [D50, List.mem_cons, List.not_mem_nil, or_false] at hx
        rcases hx with rfl | rfl | rfl | rfl | rfl | rfl
        · exact Or.inr ⟨by simp, by simp⟩
        · exact Or.inr ⟨by simp, by simp⟩
        · exact Or.inr ⟨by simp, by simp⟩
        · exact Or.inl ⟨rfl, rfl, a', cap', by rw [ev], by rw [ev]; exact hsl2.weaken (fun _ _ => sp_le hsz)⟩
        · exact Or.inr ⟨by simp, by simp⟩
        · exact Or.inr ⟨by simp, by simp⟩
    · intro L c wr hI hL he
      have l1 := he ⟨1, .data⟩ (by simp) rfl
      have l3 := he ⟨3, .data⟩ (by simp) rfl
      obtain ⟨_, s6, rfl⟩ := hI.ds (1, 6, IsV (g.val b capl)) (by simp [D50]) l1
      obtain ⟨_, s8, a', cap', rfl, hsl'⟩ := hI.ds (3, 8, IsF (w.heap.size + 2) f) (by simp [D50]) l3
      simp only at s6 s8
      unfold Oper.wp
      simp [Act.eval, s6, s8, go_sem]
      have hbb : Below wr.heap.size wr (wr.alloc (.cells #[.int .i64 g.k, .int .i64 g.n, .slice b g.t.len capl, .int .i64 f.k, .int .i64 f.n, .slice a' f.t.len cap'] 24)) := (Below.refl _ _).alloc (Nat.le_refl _) _
      have hsz := heap_lt hI.hd.2
      obtain ⟨q0, hq0, _⟩ := hI.ps
      have hlt2 := heap_lt hq0
      refine hI.step hm hh 4 9 _ _ (oth_of_below hbb) (hI.ps_keep hbb hDn (by decide)) (by omega) (by simp) ?_
      intro x hx
      simp only [D50, List.mem_cons, List.not_mem_nil, or_false] at hx
      rcases hx with rfl | rfl | rfl | rfl | rfl | rfl
      · exact Or.inr ⟨by simp, by simp⟩
      · exact Or.inr ⟨by simp, by simp⟩
      · exact Or.inr ⟨by simp, by simp⟩
      · exact Or.inr ⟨by simp, by simp⟩
      · exact Or.inl ⟨rfl, rfl, wr.heap.size, _, rfl, by omega, hlt2, heap_new _ _, a', cap', rfl, hsl'.oth (y := y) (fun _ _ => sp_ne (by omega)) (oth_of_below hbb)⟩
      · exact Or.inr ⟨by simp, by simp⟩
    · intro L c wr hI hL he
      have l0 := he ⟨0, .data⟩ (by simp) rfl
      have l4 := he ⟨4, .data⟩ (by simp) rfl
      obtain ⟨_, s5, rfl⟩ := hI.ds (0, 5, IsV (.int .i64 k)) (by simp [D50]) l0
      obtain ⟨_, s9, nb, c9, rfl, g1, g2, g3, g4⟩ := hI.ds (4, 9, IsSl y (w.heap.size + 1) 2 (cs2 (w.heap.size + 2) g b capl f) (fun s => s)) (by simp [D50]) l4
      simp only at s5 s9
      unfold Oper.wp
      simp [Act.eval, s5, s9, go_sem]
      refine hI.step hm hh 5 10 _ _ (Oth.refl _ _) (hI.ps_keep (Below.refl _ _) hDn (by decide)) (by omega) (by simp) ?_
      intro x hx
      simp only [D50, List.mem_cons, List.not_mem_nil, or_false] at hx
      rcases hx with rfl | rfl | rfl | rfl | rfl | rfl
      · exact Or.inr ⟨by simp, by simp⟩
      · exact Or.inr ⟨by simp, by simp⟩
      · exact Or.inr ⟨by simp, by simp⟩
      · exact Or.inr ⟨by simp, by simp⟩
      · exact Or.inr ⟨by simp, by simp⟩
      · exact Or.inl ⟨rfl, rfl, nb, _, rfl, g1, g2, g3, g4⟩
  · intro L c wr hdone hI
    have l5 := hdone 5 (by simp)
    obtain ⟨_, s10, nb, c10, rfl, g1, g2, g3, a', cap', rfl, hsl'⟩ := hI.ds (5, 10, IsSl y (w.heap.size + 1) 2 (cs2 (w.heap.size + 2) g b capl f) (fun s => .agg #[.int .i64 k, .int .i64 0, s])) (by simp [D50]) l5
    have s4 := hI.fx (4, .pointer (some ⟨w.heap.size + 1, 0, none⟩)) (by simp)
    simp only at s10 s4
    obtain ⟨b0, b1, b2⟩ := cells_of hI.hd.2
    have fz := fun o => frozen_of (o := o) hI.hd.2
    unfold Oper.wp
    simp [execOp, Act.eval, s10, s4, go_sem, b0, b1, b2, fz]
    refine hK _ _ (wp_ret ?_)
    have hw := store3 (x0 := .int .i64 k) (x1 := .int .i64 0) (x2 := .slice (some ⟨nb, 0, none⟩) 2 2) hI.hd.2 rfl
    obtain ⟨d0, d1, d2⟩ := cells_of hw
    have hnb : (((wr.setCell ⟨w.heap.size + 1, 0, none⟩ (.int .i64 k)).setCell ⟨w.heap.size + 1, 1, none⟩ (.int .i64 0)).setCell ⟨w.heap.size + 1, 2, none⟩ (.slice (some ⟨nb, 0, none⟩) 2 2)).heap[nb]? = _ := (store3_far (by omega)).trans g3
    have ho := store3_oth (b := w.heap.size + 1) (x0 := .int .i64 k) (x1 := .int .i64 0) (x2 := .slice (some ⟨nb, 0, none⟩) 2 2) hI.oth (by omega)
    obtain ⟨q3, hp3, hm1, hq3⟩ := hI.ps_yes h (hdone 3 (by simp))
    have hp2 := h.oth ho ((store3_far (by omega)).trans hp3.hp)
    refine bodyPost_ret (v := F.val ⟨k, 0, F.two g f⟩ (some ⟨nb, 0, none⟩) 2) (by simp [results, Tryd.results50, go_sem, s4, d0, d1, d2, F.two, T.len]) hI.df ?_
    rw [HR1.out, hm1]
    exact ⟨some ⟨nb, 0, none⟩, 2, q3, rfl, sl_two hnb (Or.inr ⟨by omega, rfl⟩) (Or.inr ⟨by omega, rfl⟩) ((hsl.oth hS ho).weaken (fun _ _ h => Or.inl h)) ((hsl'.store3 (fun _ _ h => by have := h.1; omega)).weaken (fun _ _ h => Or.inr (sp_le (by omega) h))), hq3, rfl, hp2, ho⟩
end Go.Proofs.YtioimhnebjiicaaDoor
