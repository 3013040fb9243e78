/-
  Proved here: a step towards the statements of chapter 1 (functors): what one of its functions does at each input.
-/
import Derived.Test.YtioimhnebjiicaaDoorParG
namespace Go.Proofs.YtioimhnebjiicaaDoor
open Go.RowKit

/-- A slot that holds a functor that was read. -/
def IsF (lo : Nat) (f : F) : Value → World → Prop := fun v u => ∃ a cap, v = f.val a cap ∧ Sl (SP lo) u a f.t
theorem stays_isF (y : Lay) (lo : Nat) (hlo : y.pb < lo) (f : F) (v : Value) : Stays y (IsF lo f v) := by
  rintro u u' _ ho ⟨a, cap, h1, h2⟩
  exact ⟨a, cap, h1, h2.oth (fun _ _ => sp_ne hlo) ho⟩

def oneR (k : Int) (m : Option (F × List UInt8)) : Option (F × List UInt8) :=
  match m with
  | none => none
  | some (f, r) => some (⟨k, 0, f.one⟩, r)
def twoR (k : Int) (g : F) (m : Option (F × List UInt8)) : Option (F × List UInt8) :=
  match m with
  | none => none
  | some (f, r) => some (⟨k, 0, F.two g f⟩, r)

theorem Sl.store3 {S : Nat → Nat → Prop} {b : Nat} {w : World} {a : Option Addr} {t : T} {x0 x1 x2 : Value} (h : Sl S w a t) (hl : ∀ b' o, S b' o → b' ≠ b) :
    Sl S (((w.setCell ⟨b, 0, none⟩ x0).setCell ⟨b, 1, none⟩ x1).setCell ⟨b, 2, none⟩ x2) a t := by
  refine ⟨h.1, ?_⟩
  have h2 := h.2
  cases a with
  | none => exact h2
  | some p =>
    refine ⟨h2.1, T.At.mono (fun _ _ h => h) (fun b' o hS _ => ?_) h2.2⟩
    exact store3_far (hl _ _ hS)

def DnF (y : Lay) (m : Option (F × List UInt8)) (f : F) : Nat → World → Prop := fun q1 _ => m = some (f, y.txt q1) ∧ q1 ≤ y.s.size
def cs1 (lo : Nat) (f : F) : World → Array Value → Prop := fun u c => ∃ a cap, c = #[.int .i64 f.k, .int .i64 f.n, .slice a f.t.len cap] ∧ Sl (SP lo) u a f.t
def cs2 (lo : Nat) (g : F) (b : Option Addr) (cap' : Nat) (f : F) : World → Array Value → Prop := fun u c => ∃ a cap, c = #[.int .i64 g.k, .int .i64 g.n, .slice b g.t.len cap', .int .i64 f.k, .int .i64 f.n, .slice a f.t.len cap] ∧ Sl (SP lo) u a f.t
theorem stays_cs1 (y : Lay) (lo : Nat) (hlo : y.pb < lo) (f : F) (c : Array Value) : Stays y (fun u => cs1 lo f u c) := by
  rintro u u' _ ho ⟨a, cap, h1, h2⟩
  exact ⟨a, cap, h1, h2.oth (fun _ _ => sp_ne hlo) ho⟩
theorem stays_cs2 (y : Lay) (lo : Nat) (hlo : y.pb < lo) (g : F) (b : Option Addr) (cap' : Nat) (f : F) (c : Array Value) : Stays y (fun u => cs2 lo g b cap' f u c) := by
  rintro u u' _ ho ⟨a, cap, h1, h2⟩
  exact ⟨a, cap, h1, h2.oth (fun _ _ => sp_ne hlo) ho⟩

def HdRes (B : Nat) : World → Prop := fun u => u.heap[B]? = some (.cells #[.int .i64 0, .int .i64 0, .slice none 0 0] 24 (0, 0))
theorem stays_hdRes (y : Lay) (B : Nat) (hB : y.pb < B) : Stays y (HdRes B) := by
  intro u u' _ ho h1
  show u'.heap[B]? = _
  rw [ho.block _ (heap_lt h1) (by omega)]; exact h1

def D47 (y : Lay) (B : Nat) (k : Int) (f : F) : List (Nat × Nat × (Value → World → Prop)) :=
  [(0, 5, IsV (.int .i64 k)), (1, 6, IsV y.ptr), (2, 7, IsF (B + 1) f), (3, 8, IsSl y B 1 (cs1 (B + 1) f) (fun s => s)),
   (4, 9, IsSl y B 1 (cs1 (B + 1) f) (fun s => .agg #[.int .i64 k, .int .i64 0, s]))]

set_option maxRecDepth 100000 in
set_option maxHeartbeats 800000 in
/-- The closure of sets, multisets and distributions. -/
theorem elem_any (y : Lay) (q : Nat) (w : World) (k : Int) (kb : Nat) (IB : List UInt8 → Option (F × List UInt8)) (hq : q ≤ y.s.size) (hs : y.s.size ≤ 50000) (h : PS w y q) (hk : w.cell? ⟨kb, 0, none⟩ = some (.int .i64 k))
    (hbr : ∀ q1 w1, q1 ≤ y.s.size → PS w1 y q1 → y.txt q1 = (pk (y.txt q)).drop 1 → Calls Tryd.prog 48 #[y.ptr] w1 (FunPost y (SP w1.heap.size) w1 (IB (y.txt q1)))) :
    Calls Tryd.prog 47 #[y.var, .pointer (some ⟨kb, 0, none⟩)] w (FunPost y (SP w.heap.size) w (if hdc (pk (y.txt q)) = 40 then oneR k (IB ((pk (y.txt q)).drop 1)) else none)) := by
  have hv := h.hv
  have hlt := h.lt
  have hkb : kb ≠ y.pb := by
    intro e
    rw [e, h.c0] at hk
    cases hk
  have HBR := Lib.hid hbr
  clear hbr
  by_cases hc : hdc (pk (y.txt q)) = 40
  · rw [if_pos hc]
    have HC := Lib.hid hc
    clear hc
    obtain ⟨m, hm0⟩ : ∃ m, m = IB ((pk (y.txt q)).drop 1) := ⟨_, rfl⟩
    obtain ⟨f, hf0⟩ : ∃ f, f = (m.map (·.1)).getD ⟨0, 0, .nil⟩ := ⟨_, rfl⟩
    rw [← hm0]
    obtain ⟨R, hR1⟩ : ∃ R, R = FunPost y (SP w.heap.size) w (oneR k m) := ⟨_, rfl⟩
    rw [← hR1]
    have HM := Lib.hid hm0
    have HV := Lib.hid hf0
    have HR1 := Lib.hid hR1
    clear hm0 hf0 hR1
    have hm : ∀ x ∈ D47 y w.heap.size k f, ∀ u, Stays y (x.2.2 u) := by
      intro x hx u
      simp only [D47, List.mem_cons, List.not_mem_nil, or_false] at hx
      rcases hx with rfl | rfl | rfl | rfl | rfl
      · exact stays_isV _ _ _
      · exact stays_isV _ _ _
      · exact stays_isF _ _ (by omega) _ _
      · dsimp only
        exact stays_isSl _ _ _ _ _ _ (stays_cs1 y _ (by omega) f)
      · dsimp only
        exact stays_isSl _ _ _ _ _ _ (stays_cs1 y _ (by omega) f)
    have hh := stays_hdRes y w.heap.size hlt
    have hDn : ∀ (q1 : Nat) (u u' : World), Below u.heap.size u u' → DnF y m f q1 u → DnF y m f q1 u' := fun _ _ _ _ h => h
    go_enter Tryd.func47, Tryd.ntmps47
    have hv2 : (w.alloc (.cells #[.int .i64 0, .int .i64 0, .slice none 0 0] 24)).cell? ⟨y.vb, 0, none⟩ = some y.ptr := cell_below ((Below.refl _ _).alloc (Nat.le_refl _) _) hv
    go_wp2_with fail
    refine (take_ok y q 40 _ hq hs (h.below ((Below.refl _ _).alloc (Nat.le_refl _) _)) HC.out).mono ?_
    rintro e w1 ⟨rfl, ⟨q1, hq1, ht1, hp1⟩, ho1⟩
    have HT := Lib.hid ht1
    clear ht1
    have hle : q1 + 1 ≤ y.s.size := by
      by_cases hlt : q1 < y.s.size
      · omega
      · have e1 := HC.out
        rw [← HT.out, show q1 = y.s.size by omega, txt_end] at e1
        cases e1
    have ht2 : y.txt (q1 + 1) = (pk (y.txt q)).drop 1 := by
      rw [← HT.out]; simp [Lay.txt]
    have HT2 := Lib.hid ht2
    clear ht2
    have how : Oth y.pb w w1 := ((Oth.refl _ _).alloc _).trans ho1
    have hres : HdRes w.heap.size w1 := by
      show w1.heap[w.heap.size]? = _
      rw [ho1.block _ (by simp) (by omega)]
      exact heap_new _ _
    go_wp2_with fail
    rename_i K hK
    refine wp_region_last [_, _, _, _, _] _ rfl (by kernel_rfl) (Cl y w (q1 + 1) 2 10 [(0, y.var), (1, .pointer (some ⟨kb, 0, none⟩)), (2, .pointer (some ⟨w.heap.size, 0, none⟩))] (D47 y w.heap.size k f) (HdRes w.heap.size) (DnF y m f)) (by kernel_rfl) (by kernel_rfl) ?_ ?_ ?_
    · refine ⟨rfl, rfl, ?_, ?_, hres, how.drew, ?_⟩
      · intro x hx
        simp only [List.mem_cons, List.not_mem_nil, or_false] at hx
        rcases hx with rfl | rfl | rfl <;> rfl
      · intro x hx hL; cases hL
      · exact ⟨q1 + 1, hp1.hp, by simp⟩
    · refine ⟨?_, ?_, ?_, ?_, ?_, trivial⟩
      · intro L c wr hI hL he
        have hkc := hI.oth.cell hkb hk
        have s1 := hI.fx (1, .pointer (some ⟨kb, 0, none⟩)) (by simp)
        simp only at s1
        unfold Oper.wp
        simp [execOp, Act.eval, s1, go_sem, hkc]
        refine hI.step hm hh 0 5 _ _ (Oth.refl _ _) (hI.ps_keep (Below.refl _ _) hDn (by decide)) (by omega) (by simp) ?_
        intro x hx
        simp only [D47, List.mem_cons, List.not_mem_nil, or_false] at hx
        rcases hx with rfl | rfl | rfl | rfl | rfl
        · exact Or.inl ⟨rfl, rfl, rfl⟩
        · exact Or.inr ⟨by simp, by simp⟩
        · exact Or.inr ⟨by simp, by simp⟩
        · exact Or.inr ⟨by simp, by simp⟩
        · exact Or.inr ⟨by simp, by simp⟩
      · intro L c wr hI hL he
        have hvb : wr.cell? ⟨y.vb, 0, none⟩ = some y.ptr := hI.oth.cell h.vb_ne hv
        have s0 := hI.fx (0, y.var) (by simp)
        simp only at s0
        unfold Oper.wp
        simp [execOp, Act.eval, s0, go_sem, hvb]
        refine hI.step hm hh 1 6 _ _ (Oth.refl _ _) (hI.ps_keep (Below.refl _ _) hDn (by decide)) (by omega) (by simp) ?_
        intro x hx
        simp only [D47, List.mem_cons, List.not_mem_nil, or_false] at hx
        rcases hx with rfl | rfl | rfl | rfl | rfl
        · exact Or.inr ⟨by simp, by simp⟩
        · exact Or.inl ⟨rfl, rfl, rfl⟩
        · exact Or.inr ⟨by simp, by simp⟩
        · exact Or.inr ⟨by simp, by simp⟩
        · exact Or.inr ⟨by simp, by simp⟩
      · intro L c wr hI hL he
        have l1 := he ⟨1, .data⟩ (by simp) rfl
        obtain ⟨_, s6, rfl⟩ := hI.ds (1, 6, IsV y.ptr) (by simp [D47]) l1
        simp only at s6
        unfold Oper.wp
        simp [Act.eval, s6, go_sem]
        refine (HBR.out (q1 + 1) wr hle (hI.ps_no h hL) HT2.out).mono fun e w' he => ?_
        rw [HT2.out, ← HM.out] at he
        rcases (show m = none ∨ ∃ p, m = some p by cases m <;> simp) with hm1 | ⟨p, hm1⟩
        · rw [hm1] at he
          obtain ⟨rfl, ho⟩ := he
          exact ⟨hI.df, by rw [HR1.out, hm1]; exact ⟨rfl, hI.oth.trans ho⟩⟩
        · rw [hm1] at he
          obtain ⟨a', cap', q2, rfl, hsl2, hq2, ht2, hp2, ho2⟩ := he
          have ev : f = p.1 := by rw [HV.out, hm1]; rfl
          have hsz := heap_lt hI.hd
          refine hI.step hm hh 2 7 _ _ ho2 ⟨q2, hp2.hp, by rw [ls_self, if_pos rfl]; exact ⟨by rw [hm1, ev, ht2], hq2⟩⟩ (by omega) (by simp) ?_
          intro x hx
          simp only [D47, List.mem_cons, List.not_mem_nil, or_false] at hx
          rcases hx with rfl | rfl | rfl | rfl | rfl
          · exact Or.inr ⟨by simp, by simp⟩
          · exact Or.inr ⟨by simp, by simp⟩
          · exact Or.inl ⟨rfl, rfl, a', cap', by rw [ev], by rw [ev]; exact hsl2.weaken (fun _ _ => sp_le hsz)⟩
          · exact Or.inr ⟨by simp, by simp⟩
          · exact Or.inr ⟨by simp, by simp⟩
      · intro L c wr hI hL he
        have l2 := he ⟨2, .data⟩ (by simp) rfl
        obtain ⟨_, s7, a', cap', rfl, hsl'⟩ := hI.ds (2, 7, IsF (w.heap.size + 1) f) (by simp [D47]) l2
        simp only at s7
        unfold Oper.wp
        simp [Act.eval, s7, go_sem]
        have hbb : Below wr.heap.size wr (wr.alloc (.cells #[.int .i64 f.k, .int .i64 f.n, .slice a' f.t.len cap'] 24)) := (Below.refl _ _).alloc (Nat.le_refl _) _
        have hsz := heap_lt hI.hd
        obtain ⟨q0, hq0, _⟩ := hI.ps
        have hlt2 := heap_lt hq0
        refine hI.step hm hh 3 8 _ _ (oth_of_below hbb) (hI.ps_keep hbb hDn (by decide)) (by omega) (by simp) ?_
        intro x hx
        simp only [D47, List.mem_cons, List.not_mem_nil, or_false] at hx
        rcases hx with rfl | rfl | rfl | rfl | rfl
        · exact Or.inr ⟨by simp, by simp⟩
        · exact Or.inr ⟨by simp, by simp⟩
        · exact Or.inr ⟨by simp, by simp⟩
        · exact Or.inl ⟨rfl, rfl, wr.heap.size, _, rfl, by omega, hlt2, heap_new _ _, a', cap', rfl, hsl'.oth (y := y) (fun _ _ => sp_ne (by omega)) (oth_of_below hbb)⟩
        · exact Or.inr ⟨by simp, by simp⟩
      · intro L c wr hI hL he
        have l0 := he ⟨0, .data⟩ (by simp) rfl
        have l3 := he ⟨3, .data⟩ (by simp) rfl
        obtain ⟨_, s5, rfl⟩ := hI.ds (0, 5, IsV (.int .i64 k)) (by simp [D47]) l0
        obtain ⟨_, s8, nb, c8, rfl, g1, g2, g3, g4⟩ := hI.ds (3, 8, IsSl y w.heap.size 1 (cs1 (w.heap.size + 1) f) (fun s => s)) (by simp [D47]) l3
        simp only at s5 s8
        unfold Oper.wp
        simp [Act.eval, s5, s8, go_sem]
        refine hI.step hm hh 4 9 _ _ (Oth.refl _ _) (hI.ps_keep (Below.refl _ _) hDn (by decide)) (by omega) (by simp) ?_
        intro x hx
        simp only [D47, List.mem_cons, List.not_mem_nil, or_false] at hx
        rcases hx with rfl | rfl | rfl | rfl | rfl
        · exact Or.inr ⟨by simp, by simp⟩
        · exact Or.inr ⟨by simp, by simp⟩
        · exact Or.inr ⟨by simp, by simp⟩
        · exact Or.inr ⟨by simp, by simp⟩
        · exact Or.inl ⟨rfl, rfl, nb, _, rfl, g1, g2, g3, g4⟩
    · intro L c wr hdone hI
      have l4 := hdone 4 (by simp)
      obtain ⟨_, s9, nb, c9, rfl, g1, g2, g3, a', cap', rfl, hsl'⟩ := hI.ds (4, 9, IsSl y w.heap.size 1 (cs1 (w.heap.size + 1) f) (fun s => .agg #[.int .i64 k, .int .i64 0, s])) (by simp [D47]) l4
      have s2 := hI.fx (2, .pointer (some ⟨w.heap.size, 0, none⟩)) (by simp)
      simp only at s9 s2
      obtain ⟨b0, b1, b2⟩ := cells_of hI.hd
      have fz := fun o => frozen_of (o := o) hI.hd
      unfold Oper.wp
      simp [execOp, Act.eval, s9, s2, go_sem, b0, b1, b2, fz]
      refine hK _ _ (wp_ret ?_)
      have hw := store3 (x0 := .int .i64 k) (x1 := .int .i64 0) (x2 := .slice (some ⟨nb, 0, none⟩) 1 1) hI.hd rfl
      obtain ⟨d0, d1, d2⟩ := cells_of hw
      have hnb : (((wr.setCell ⟨w.heap.size, 0, none⟩ (.int .i64 k)).setCell ⟨w.heap.size, 1, none⟩ (.int .i64 0)).setCell ⟨w.heap.size, 2, none⟩ (.slice (some ⟨nb, 0, none⟩) 1 1)).heap[nb]? = _ := (store3_far (by omega)).trans g3
      have ho := store3_oth (b := w.heap.size) (x0 := .int .i64 k) (x1 := .int .i64 0) (x2 := .slice (some ⟨nb, 0, none⟩) 1 1) hI.oth (by omega)
      obtain ⟨q3, hp3, hm1, hq3⟩ := hI.ps_yes h (hdone 2 (by simp))
      have hp2 := h.oth ho ((store3_far (by omega)).trans hp3.hp)
      refine bodyPost_ret (v := F.val ⟨k, 0, f.one⟩ (some ⟨nb, 0, none⟩) 1) (by simp [results, Tryd.results47, go_sem, s2, d0, d1, d2, F.one, T.len]) hI.df ?_
      rw [HR1.out, hm1]
      exact ⟨some ⟨nb, 0, none⟩, 1, q3, rfl, sl_one hnb ⟨by omega, rfl⟩ ((hsl'.store3 (fun _ _ h => by have := h.1; omega)).weaken (fun _ _ => sp_le (by omega))), hq3, rfl, hp2, ho⟩
  · rw [if_neg hc]
    have HC := Lib.hid hc
    clear hc
    go_enter Tryd.func47, Tryd.ntmps47
    have hv2 : (w.alloc (.cells #[.int .i64 0, .int .i64 0, .slice none 0 0] 24)).cell? ⟨y.vb, 0, none⟩ = some y.ptr := cell_below ((Below.refl _ _).alloc (Nat.le_refl _) _) hv
    go_wp2_with fail
    refine (take_no y q 40 _ hq hs (h.below ((Below.refl _ _).alloc (Nat.le_refl _) _)) HC.out).mono ?_
    rintro e w1 ⟨rfl, ho1⟩
    go_wp2_with fail
    exact ⟨rfl, rfl, ((Oth.refl _ _).alloc _).trans ho1⟩
end Go.Proofs.YtioimhnebjiicaaDoor
