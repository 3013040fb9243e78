/-
  Proved here: a step towards the statements of chapter 1 (functors): what one of its functions does at each input.
-/
import Derived.Test.YtioimhnebjiicaaDoorParF
namespace Go.Proofs.YtioimhnebjiicaaDoor
open Go.RowKit

theorem ls_self (L : Nat → Bool) (i : Nat) : lset L i i = true := by simp [lset]
theorem ls_ne (L : Nat → Bool) {i j : Nat} (h : j ≠ i) : lset L i j = L j := by simp [lset, h]

def DnNum (y : Lay) (m : Option (Int × List UInt8)) (v : Int) : Nat → World → Prop := fun q1 _ => m = some (v, y.txt q1) ∧ q1 ≤ y.s.size

set_option maxRecDepth 100000 in
set_option maxHeartbeats 800000 in
theorem pow_any (y : Lay) (q : Nat) (w : World) (f : F) (a : Option Addr) (cap : Nat) (hq : q ≤ y.s.size) (hs : y.s.size ≤ 50000) (h : PS w y q) (S : Nat → Nat → Prop) (hS : ∀ b o, S b o → b ≠ y.pb) (hsl : Sl S w a f.t) :
    Calls Tryd.prog 53 #[f.val a cap, y.var] w (FunPost y (fun b o => S b o ∨ SP w.heap.size b o) w (powR (num (y.txt q)) f)) := by
  have hv := h.hv
  have hlt := h.lt
  obtain ⟨m, hm0⟩ : ∃ m, m = num (y.txt q) := ⟨_, rfl⟩
  obtain ⟨v, hv0⟩ : ∃ v, v = (m.map (·.1)).getD 0 := ⟨_, rfl⟩
  rw [← hm0]
  obtain ⟨R, hR1⟩ : ∃ R, R = FunPost y (fun b o => S b o ∨ SP w.heap.size b o) w (powR m f) := ⟨_, rfl⟩
  rw [← hR1]
  have HM := Lib.hid hm0
  have HV := Lib.hid hv0
  have HR1 := Lib.hid hR1
  clear hm0 hv0 hR1
  have hm : ∀ x ∈ D53 y w f a cap v, ∀ u, Stays y (x.2.2 u) := by
    intro x hx u
    simp only [D53, List.mem_cons, List.not_mem_nil, or_false] at hx
    rcases hx with rfl | rfl | rfl | rfl | rfl
    · exact stays_isV _ _ _
    · exact stays_isV _ _ _
    · exact stays_isV _ _ _
    · dsimp only
      exact stays_isSl _ _ _ _ _ _ (fun _ _ _ _ _ h => h)
    · dsimp only
      exact stays_isSl _ _ _ _ _ _ (fun _ _ _ _ _ h => h)
  have hh := stays_hdBox y w.heap.size f a cap hlt
  have hDn : ∀ (q1 : Nat) (u u' : World), Below u.heap.size u u' → DnNum y m v q1 u → DnNum y m v q1 u' := fun _ _ _ _ h => h
  go_enter Tryd.func53, Tryd.ntmps53
  go_wp2_with fail
  rename_i K hK
  refine wp_region_last [_, _, _, _, _] _ rfl (by kernel_rfl) (Cl y w q 1 9 [(1, y.var), (2, .pointer (some ⟨w.heap.size, 0, none⟩)), (3, .pointer (some ⟨w.heap.size + 1, 0, none⟩))] (D53 y w f a cap v) (HdBox w.heap.size f a cap) (DnNum y m v)) (by kernel_rfl) (by kernel_rfl) ?_ ?_ ?_
  · refine ⟨rfl, rfl, ?_, ?_, hdBox_mk w f a cap, (((Oth.refl _ _).alloc _).alloc _).drew, ?_⟩
    · intro x hx
      simp only [List.mem_cons, List.not_mem_nil, or_false] at hx
      rcases hx with rfl | rfl | rfl <;> rfl
    · intro x hx hL; cases hL
    · refine ⟨q, ?_, by simp⟩
      show ((w.alloc _).alloc _).heap[y.pb]? = _
      rw [Below.heap_alloc _ _ _ (by simp; omega), Below.heap_alloc _ _ _ hlt]
      exact h.hp
  · refine ⟨?_, ?_, ?_, ?_, ?_, trivial⟩
    · intro L c wr hI hL he
      have hvb : wr.cell? ⟨y.vb, 0, none⟩ = some y.ptr := hI.oth.cell h.vb_ne hv
      have s1 := hI.fx (1, y.var) (by simp)
      simp only at s1
      unfold Oper.wp
      simp [execOp, Act.eval, s1, go_sem, hvb]
      refine hI.step hm hh 0 4 _ _ (Oth.refl _ _) (hI.ps_keep (Below.refl _ _) hDn (by decide)) (by omega) (by simp) ?_
      simp [D53, IsV]
    · intro L c wr hI hL he
      have l0 := he ⟨0, .data⟩ (by simp) rfl
      obtain ⟨_, s4, rfl⟩ := hI.ds (0, 4, IsV y.ptr) (by simp [D53]) l0
      simp only at s4
      unfold Oper.wp
      simp [Act.eval, s4, go_sem]
      refine (number_any y q wr hq hs (hI.ps_no h hL)).mono fun e w' he => ?_
      rw [← HM.out] at he
      rcases (show m = none ∨ ∃ p, m = some p by cases m <;> simp) with hm1 | ⟨p, hm1⟩
      · rw [hm1] at he
        obtain ⟨rfl, ho⟩ := he
        exact ⟨hI.df, by rw [HR1.out, hm1]; exact ⟨rfl, hI.oth.trans ho⟩⟩
      · rw [hm1] at he
        obtain ⟨rfl, ho, q1, hq1, ht1, hp1⟩ := he
        have ev : v = p.1 := by rw [HV.out, hm1]; rfl
        refine hI.step hm hh 1 5 _ _ ho ⟨q1, hp1.hp, by rw [ls_self, if_pos rfl]; exact ⟨by rw [hm1, ev, ht1], hq1⟩⟩ (by omega) (by simp) ?_
        simp [D53, IsV, ev]
    · intro L c wr hI hL he
      have s2 := hI.fx (2, .pointer (some ⟨w.heap.size, 0, none⟩)) (by simp)
      simp only at s2
      obtain ⟨b0, b1, b2⟩ := cells_of hI.hd.1
      unfold Oper.wp
      simp [execOp, Act.eval, s2, go_sem, b0, b1, b2]
      refine hI.step hm hh 2 6 _ _ (Oth.refl _ _) (hI.ps_keep (Below.refl _ _) hDn (by decide)) (by omega) (by simp) ?_
      simp [D53, IsV]
    · intro L c wr hI hL he
      have l2 := he ⟨2, .data⟩ (by simp) rfl
      obtain ⟨_, s6, rfl⟩ := hI.ds (2, 6, IsV (f.val a cap)) (by simp [D53]) l2
      simp only at s6
      unfold Oper.wp
      simp [Act.eval, s6, go_sem]
      have hbb : Below wr.heap.size wr (wr.alloc (.cells #[.int .i64 f.k, .int .i64 f.n, .slice a f.t.len cap] 24)) := (Below.refl _ _).alloc (Nat.le_refl _) _
      have hsz := heap_lt hI.hd.2
      obtain ⟨q0, hq0, _⟩ := hI.ps
      have hlt2 := heap_lt hq0
      refine hI.step hm hh 3 7 _ _ (oth_of_below hbb) (hI.ps_keep hbb hDn (by decide)) (by omega) (by simp) ?_
      intro x hx
      simp only [D53, List.mem_cons, List.not_mem_nil, or_false] at hx
      rcases hx with rfl | rfl | rfl | rfl | rfl
      · exact Or.inr ⟨by simp, by simp⟩
      · exact Or.inr ⟨by simp, by simp⟩
      · exact Or.inr ⟨by simp, by simp⟩
      · exact Or.inl ⟨rfl, rfl, wr.heap.size, _, rfl, by omega, hlt2, heap_new _ _, rfl⟩
      · exact Or.inr ⟨by simp, by simp⟩
    · intro L c wr hI hL he
      have l1 := he ⟨1, .data⟩ (by simp) rfl
      have l3 := he ⟨3, .data⟩ (by simp) rfl
      obtain ⟨_, s5, rfl⟩ := hI.ds (1, 5, IsV (.int .i64 v)) (by simp [D53]) l1
      obtain ⟨_, s7, nb, c7, rfl, g1, g2, g3, g4⟩ := hI.ds (3, 7, IsSl y (w.heap.size + 1) 1 (fun _ c => c = #[.int .i64 f.k, .int .i64 f.n, .slice a f.t.len cap]) (fun s => s)) (by simp [D53]) l3
      simp only at s5 s7
      unfold Oper.wp
      simp [Act.eval, s5, s7, go_sem]
      refine hI.step hm hh 4 8 _ _ (Oth.refl _ _) (hI.ps_keep (Below.refl _ _) hDn (by decide)) (by omega) (by simp) ?_
      intro x hx
      simp only [D53, List.mem_cons, List.not_mem_nil, or_false] at hx
      rcases hx with rfl | rfl | rfl | rfl | rfl
      · exact Or.inr ⟨by simp, by simp⟩
      · exact Or.inr ⟨by simp, by simp⟩
      · exact Or.inr ⟨by simp, by simp⟩
      · exact Or.inr ⟨by simp, by simp⟩
      · exact Or.inl ⟨rfl, rfl, nb, _, rfl, g1, g2, g3, g4⟩
  · intro L c wr hdone hI
    have l4 := hdone 4 (by simp)
    obtain ⟨_, s8, nb, c8, rfl, g1, g2, g3, rfl⟩ := hI.ds (4, 8, IsSl y (w.heap.size + 1) 1 (fun _ c => c = #[.int .i64 f.k, .int .i64 f.n, .slice a f.t.len cap]) (fun s => .agg #[.int .i64 4, .int .i64 v, s])) (by simp [D53]) l4
    have s3 := hI.fx (3, .pointer (some ⟨w.heap.size + 1, 0, none⟩)) (by simp)
    simp only at s8 s3
    obtain ⟨b0, b1, b2⟩ := cells_of hI.hd.2
    have fz := fun o => frozen_of (o := o) hI.hd.2
    unfold Oper.wp
    simp [execOp, Act.eval, s8, s3, go_sem, b0, b1, b2, fz]
    refine hK _ _ (wp_ret ?_)
    have hw := store3 (x0 := .int .i64 4) (x1 := .int .i64 v) (x2 := .slice (some ⟨nb, 0, none⟩) 1 1) hI.hd.2 rfl
    obtain ⟨d0, d1, d2⟩ := cells_of hw
    have hnb : (((wr.setCell ⟨w.heap.size + 1, 0, none⟩ (.int .i64 4)).setCell ⟨w.heap.size + 1, 1, none⟩ (.int .i64 v)).setCell ⟨w.heap.size + 1, 2, none⟩ (.slice (some ⟨nb, 0, none⟩) 1 1)).heap[nb]? = _ := (store3_far (by omega)).trans g3
    have ho := store3_oth (b := w.heap.size + 1) (x0 := .int .i64 4) (x1 := .int .i64 v) (x2 := .slice (some ⟨nb, 0, none⟩) 1 1) hI.oth (by omega)
    obtain ⟨q1, hp1, hm1, hq1⟩ := hI.ps_yes h (hdone 1 (by simp))
    have hp2 := h.oth ho ((store3_far (by omega)).trans hp1.hp)
    refine bodyPost_ret (v := F.val ⟨4, v, f.one⟩ (some ⟨nb, 0, none⟩) 1) (by simp [results, Tryd.results53, go_sem, s3, d0, d1, d2, F.one, T.len]) hI.df ?_
    rw [HR1.out, hm1]
    exact ⟨some ⟨nb, 0, none⟩, 1, q1, rfl, sl_one hnb (Or.inr ⟨by omega, rfl⟩) ((hsl.oth hS ho).weaken (fun _ _ h => Or.inl h)), hq1, rfl, hp2, ho⟩
end Go.Proofs.YtioimhnebjiicaaDoor
