/-
  Proved here: a step towards the statements of chapter 1 (functors): what one of its functions does at each input.
-/
import Derived.Test.YtioimhnebjiicaaDoorParN
namespace Go.Proofs.YtioimhnebjiicaaDoor
open Go.RowKit

def IsK (B : Nat) (k : Int) : Value → World → Prop := fun v u => ∃ kb, v = .func (.func 47) #[] #[.pointer (some ⟨B + 1, 0, none⟩), .pointer (some ⟨kb, 0, none⟩)] ∧ u.heap[kb]? = some (Obj.cells #[.int .i64 k] 3 (0, 0))
def IsJ (B : Nat) (k : Int) : Value → World → Prop := fun v u => ∃ kb, v = .func (.func 50) #[] #[.pointer (some ⟨kb, 0, none⟩), .pointer (some ⟨B + 1, 0, none⟩)] ∧ u.heap[kb]? = some (Obj.cells #[.int .i64 k] 3 (0, 0))
theorem cells1_of {u : World} {b : Nat} {x : Value} {t : TypeId} {fz : Nat × Nat} (h : u.heap[b]? = some (Obj.cells #[x] t fz)) : u.cell? ⟨b, 0, none⟩ = some x := by
  simp [World.cell?, h]
theorem stc_isV (v0 v : Value) : Stc (IsV v0 v) := fun _ _ _ h => h
theorem stc_isK (B : Nat) (k : Int) (v : Value) : Stc (IsK B k v) := fun _ _ hs ⟨kb, h1, h2⟩ => ⟨kb, h1, hs _ _ _ _ h2⟩
theorem stc_isJ (B : Nat) (k : Int) (v : Value) : Stc (IsJ B k v) := fun _ _ hs ⟨kb, h1, h2⟩ => ⟨kb, h1, hs _ _ _ _ h2⟩

def D4 (B : Nat) : List (Nat × Nat × (Value → World → Prop)) :=
  [(0, 11, IsV (.pointer (some ⟨B, 0, none⟩))), (3, 13, IsV (.func (.func 46) #[] #[.pointer (some ⟨B + 1, 0, none⟩)])), (4, 14, IsK B 5), (6, 15, IsV (.func (.func 46) #[] #[.pointer (some ⟨B + 1, 0, none⟩)])), (7, 16, IsK B 6), (9, 17, IsV (.func (.func 46) #[] #[.pointer (some ⟨B + 1, 0, none⟩)])), (10, 18, IsK B 7), (12, 19, IsV (.pointer (some ⟨B, 0, none⟩))), (13, 20, IsV (.func (.func 48) #[.pointer (some ⟨B, 0, none⟩)] #[])), (16, 22, IsV (.pointer (some ⟨B, 0, none⟩))), (17, 23, IsV (.pointer (some ⟨B, 2, none⟩)))]
def K4 (B : Nat) : List (Nat × Int × (Value → World → Prop)) :=
  [(2, 88, IsV (.func (.func 52) #[] #[])), (5, 80, IsK B 5), (8, 66, IsK B 6), (11, 68, IsK B 7), (14, 40, IsV (.func (.func 48) #[.pointer (some ⟨B, 0, none⟩)] #[]))]
def D6 (B : Nat) : List (Nat × Nat × (Value → World → Prop)) :=
  [(0, 30, IsV (.pointer (some ⟨B, 0, none⟩))), (2, 32, IsV (.func (.func 49) #[] #[.pointer (some ⟨B + 1, 0, none⟩)])), (3, 33, IsJ B 2), (5, 34, IsV (.func (.func 49) #[] #[.pointer (some ⟨B + 1, 0, none⟩)])), (6, 35, IsJ B 3), (9, 37, IsV (.pointer (some ⟨B, 0, none⟩))), (10, 38, IsV (.pointer (some ⟨B, 4, none⟩)))]
def K6 (B : Nat) : List (Nat × Int × (Value → World → Prop)) :=
  [(4, 42, IsJ B 2), (7, 43, IsJ B 3)]
theorem stc_D4 (B : Nat) : ∀ x ∈ D4 B, ∀ v, Stc (x.2.2 v) := by
  intro x hx v
  simp only [D4, List.mem_cons, List.not_mem_nil, or_false] at hx
  rcases hx with rfl | rfl | rfl | rfl | rfl | rfl | rfl | rfl | rfl | rfl | rfl
  · exact stc_isV _ _
  · exact stc_isV _ _
  · exact stc_isK _ _ _
  · exact stc_isV _ _
  · exact stc_isK _ _ _
  · exact stc_isV _ _
  · exact stc_isK _ _ _
  · exact stc_isV _ _
  · exact stc_isV _ _
  · exact stc_isV _ _
  · exact stc_isV _ _
theorem stc_K4 (B : Nat) : ∀ x ∈ K4 B, ∀ v, Stc (x.2.2 v) := by
  intro x hx v
  simp only [K4, List.mem_cons, List.not_mem_nil, or_false] at hx
  rcases hx with rfl | rfl | rfl | rfl | rfl
  · exact stc_isV _ _
  · exact stc_isK _ _ _
  · exact stc_isK _ _ _
  · exact stc_isK _ _ _
  · exact stc_isV _ _
theorem stc_D6 (B : Nat) : ∀ x ∈ D6 B, ∀ v, Stc (x.2.2 v) := by
  intro x hx v
  simp only [D6, List.mem_cons, List.not_mem_nil, or_false] at hx
  rcases hx with rfl | rfl | rfl | rfl | rfl | rfl | rfl
  · exact stc_isV _ _
  · exact stc_isV _ _
  · exact stc_isJ _ _ _
  · exact stc_isV _ _
  · exact stc_isJ _ _ _
  · exact stc_isV _ _
  · exact stc_isV _ _
theorem stc_K6 (B : Nat) : ∀ x ∈ K6 B, ∀ v, Stc (x.2.2 v) := by
  intro x hx v
  simp only [K6, List.mem_cons, List.not_mem_nil, or_false] at hx
  rcases hx with rfl | rfl
  · exact stc_isJ _ _ _
  · exact stc_isJ _ _ _

structure NewPost (s : ByteArray) (w : World) (e : Ending) (w' : World) (y : Lay) : Prop where
  e : e = .returned y.ptr
  s : y.s = s
  pb : y.pb = w.heap.size
  st : PS w' y 0
  bl : Below w.heap.size w w'

theorem in_K {L : Nat → Bool} {wr : World} {es : List MapEntry} {K : List (Nat × Int × (Value → World → Prop))} (h : ∀ x ∈ K, if L x.1 = true then ∃ v, look es x.2.1 = some v ∧ x.2.2 v wr else look es x.2.1 = none) {i : Nat} {k : Int} {p : Value → World → Prop} (hx : (i, k, p) ∈ K) (hL : L i = true) :
    ∃ v, look es k = some v ∧ p v wr := by
  have := h _ hx
  rwa [if_pos hL] at this
theorem out_K {L : Nat → Bool} {wr : World} {es : List MapEntry} {K : List (Nat × Int × (Value → World → Prop))} (h : ∀ x ∈ K, if L x.1 = true then ∃ v, look es x.2.1 = some v ∧ x.2.2 v wr else look es x.2.1 = none) {i : Nat} {k : Int} {p : Value → World → Prop} (hx : (i, k, p) ∈ K) (hL : L i = false) :
    look es k = none := by
  have := h _ hx
  rwa [if_neg (by simp [hL])] at this

set_option maxRecDepth 100000 in
set_option maxHeartbeats 3200000 in
theorem newParser_any (s : ByteArray) (w : World) : Calls Tryd.prog 34 #[.string s] w fun e w' => ∃ y, NewPost s w e w' y := by
  obtain ⟨R, hR1⟩ : ∃ R : Ending → World → Prop, R = fun e w' => ∃ y, NewPost s w e w' y := ⟨_, rfl⟩
  rw [← hR1]
  have HR1 := Lib.hid hR1
  clear hR1
  have hmf : ∀ (fn : Fn) (first cap : Array Value) (w : World), (Instr.makeFunc fn first cap).run Tryd.prog w = .ok (.func fn first cap) w := fun _ _ _ _ => rfl
  obtain ⟨W, hW⟩ : ∃ W, W = (w.alloc (Obj.cells #[.string s, .int .i64 0, .map none, .map none, .map none] 71)).alloc (Obj.cells #[.pointer (some ⟨w.heap.size, 0, none⟩)] 52) := ⟨_, rfl⟩
  have hWb : Below w.heap.size w W := by rw [hW]; exact ((Below.refl _ _).alloc (Nat.le_refl _) _).alloc (by simp) _
  have hp0 : W.heap[w.heap.size]? = some (Obj.cells #[.string s, .int .i64 0, .map none, .map none, .map none] 71 (0, 0)) := by rw [hW]; exact heap_old2 _ _ _
  have hp1 : W.heap[w.heap.size + 1]? = some (Obj.cells #[.pointer (some ⟨w.heap.size, 0, none⟩)] 52 (0, 0)) := by rw [hW]; exact heap_new2 _ _ _
  have hsz : W.heap.size = w.heap.size + 2 := by rw [hW]; simp
  have HSZ := Lib.hid hsz
  clear hsz
  obtain ⟨B, hB⟩ : ∃ B, B = w.heap.size := ⟨_, rfl⟩
  go_enter Tryd.func34, Tryd.ntmps34
  go_wp2_with fail
  rw [← hW]
  clear hW
  rename_i K hK
  rw [← hB] at hp0 hp1 ⊢
  have HB := Lib.hid hB
  clear hB
  have hmD := stc_D4 B
  have hmK := stc_K4 B
  have hh : Stc (fun _ => True) := fun _ _ _ _ => trivial
  refine wp_region_last [_, _, _, _, _, _, _, _, _, _, _, _, _, _, _, _, _, _] _ rfl (by kernel_rfl) (Mk W [(3, .pointer (some ⟨B + 1, 0, none⟩)), (4, .func (.func 46) #[] #[.pointer (some ⟨B + 1, 0, none⟩)]), (5, .func (.func 49) #[] #[.pointer (some ⟨B + 1, 0, none⟩)])] (D4 B) 1 12 15 21 (K4 B) (fun _ => True)) (by kernel_rfl) (by kernel_rfl) ?_ ?_ ?_
  · refine ⟨rfl, rfl, ?_, ?_, ?_, ?_, ?_, trivial, (Below.refl _ _).drew⟩
    · intro x hx
      simp only [List.mem_cons, List.not_mem_nil, or_false] at hx
      rcases hx with rfl | rfl | rfl <;> rfl
    · intro x hx hL; cases hL
    · intro x hx hL; cases hL
    · intro hL; cases hL
    · intro hL; cases hL
  · refine ⟨?_, ?_, ?_, ?_, ?_, ?_, ?_, ?_, ?_, ?_, ?_, ?_, ?_, ?_, ?_, ?_, ?_, ?_, trivial⟩
    · intro L c wr hI hL he
      have hvb : wr.cell? ⟨B + 1, 0, none⟩ = some (.pointer (some ⟨B, 0, none⟩)) := (cells1_of (by rw [hI.bl.block (B + 1) (heap_lt hp1)]; exact hp1))
      have s3 := hI.fx (3, .pointer (some ⟨B + 1, 0, none⟩)) (by simp)
      simp only at s3
      unfold Oper.wp
      simp [execOp, Act.eval, s3, go_sem, hvb]
      refine hI.step hmD hmK hh 0 11 _ wr (Below.refl _ _) (by decide) (by decide) (by simp [K4]) (by decide) (by decide) (by decide) (by simp) ?_
      intro x hx
      simp only [D4, List.mem_cons, List.not_mem_nil, or_false] at hx
      rcases hx with rfl | rfl | rfl | rfl | rfl | rfl | rfl | rfl | rfl | rfl | rfl
      · exact Or.inl ⟨rfl, rfl, rfl⟩
      · exact Or.inr ⟨by simp, by simp⟩
      · exact Or.inr ⟨by simp, by simp⟩
      · exact Or.inr ⟨by simp, by simp⟩
      · exact Or.inr ⟨by simp, by simp⟩
      · exact Or.inr ⟨by simp, by simp⟩
      · exact Or.inr ⟨by simp, by simp⟩
      · exact Or.inr ⟨by simp, by simp⟩
      · exact Or.inr ⟨by simp, by simp⟩
      · exact Or.inr ⟨by simp, by simp⟩
      · exact Or.inr ⟨by simp, by simp⟩
    · intro L c wr hI hL he
      unfold Oper.wp
      simp [execOp, go_sem, Instr.makeMap]
      exact hI.make hmD hh hL (by decide) (by simp) (by simp [D4]) (by simp [K4]) (by decide)
    · intro L c wr hI hL he
      have lm := he ⟨1, .data⟩ (by simp) rfl
      obtain ⟨m, es, clk, g1, g2, g3, g4, g5, g6⟩ := hI.mp lm
      have hn := out_K g5 (i := 2) (k := 88) (p := IsV (.func (.func 52) #[] #[])) (by simp [K4]) hL
      have hrun := run_insert (k := 88) (v := .func (.func 52) #[] #[]) Tryd.underlying68 Tryd.underlying5 g3 g4 hn
      unfold Oper.wp
      simp [execOp, Act.eval, g1, go_sem, hrun]
      exact hI.ins hmD hmK hh (i := 2) (k := 88) (p := IsV (.func (.func 52) #[] #[])) (by simp [K4]) (by decide) (by decide) (by simp [D4]) (by simp [K4]) (by simp [K4]) g1 g2 g3 g4 g5 g6 lm hn _ rfl
    · intro L c wr hI hL he
      have s4 := hI.fx (4, .func (.func 46) #[] #[.pointer (some ⟨B + 1, 0, none⟩)]) (by simp)
      simp only at s4
      unfold Oper.wp
      simp [execOp, Act.eval, s4, go_sem]
      refine hI.step hmD hmK hh 3 13 _ wr (Below.refl _ _) (by decide) (by decide) (by simp [K4]) (by decide) (by decide) (by decide) (by simp) ?_
      intro x hx
      simp only [D4, List.mem_cons, List.not_mem_nil, or_false] at hx
      rcases hx with rfl | rfl | rfl | rfl | rfl | rfl | rfl | rfl | rfl | rfl | rfl
      · exact Or.inr ⟨by simp, by simp⟩
      · exact Or.inl ⟨rfl, rfl, rfl⟩
      · exact Or.inr ⟨by simp, by simp⟩
      · exact Or.inr ⟨by simp, by simp⟩
      · exact Or.inr ⟨by simp, by simp⟩
      · exact Or.inr ⟨by simp, by simp⟩
      · exact Or.inr ⟨by simp, by simp⟩
      · exact Or.inr ⟨by simp, by simp⟩
      · exact Or.inr ⟨by simp, by simp⟩
      · exact Or.inr ⟨by simp, by simp⟩
      · exact Or.inr ⟨by simp, by simp⟩
    · intro L c wr hI hL he
      have l0 := he ⟨3, .data⟩ (by simp) rfl
      obtain ⟨_, s4, rfl⟩ := hI.ds (3, 13, IsV (.func (.func 46) #[] #[.pointer (some ⟨B + 1, 0, none⟩)])) (by simp [D4]) l0
      simp only at s4
      unfold Oper.wp
      simp [Act.eval, s4, go_sem]
      refine (mk47_any _ _ _).mono fun e w' he => ?_
      obtain ⟨rfl, rfl⟩ := he
      refine hI.step hmD hmK hh 4 14 _ _ ((Below.refl _ _).alloc (Nat.le_refl _) _) (by decide) (by decide) (by simp [K4]) (by decide) (by decide) (by decide) (by simp) ?_
      intro x hx
      simp only [D4, List.mem_cons, List.not_mem_nil, or_false] at hx
      rcases hx with rfl | rfl | rfl | rfl | rfl | rfl | rfl | rfl | rfl | rfl | rfl
      · exact Or.inr ⟨by simp, by simp⟩
      · exact Or.inr ⟨by simp, by simp⟩
      · exact Or.inl ⟨rfl, rfl, wr.heap.size, rfl, heap_new _ _⟩
      · exact Or.inr ⟨by simp, by simp⟩
      · exact Or.inr ⟨by simp, by simp⟩
      · exact Or.inr ⟨by simp, by simp⟩
      · exact Or.inr ⟨by simp, by simp⟩
      · exact Or.inr ⟨by simp, by simp⟩
      · exact Or.inr ⟨by simp, by simp⟩
      · exact Or.inr ⟨by simp, by simp⟩
      · exact Or.inr ⟨by simp, by simp⟩
    · intro L c wr hI hL he
      have lm := he ⟨1, .data⟩ (by simp) rfl
      obtain ⟨m, es, clk, g1, g2, g3, g4, g5, g6⟩ := hI.mp lm
      have hn := out_K g5 (i := 5) (k := 80) (p := IsK B 5) (by simp [K4]) hL
      have ls := he ⟨4, .data⟩ (by simp) rfl
      obtain ⟨v, sv, hv⟩ := hI.ds (4, 14, IsK B 5) (by simp [D4]) ls
      simp only at sv hv
      have hrun := run_insert (k := 80) (v := v) Tryd.underlying68 Tryd.underlying5 g3 g4 hn
      unfold Oper.wp
      simp [execOp, Act.eval, g1, sv, go_sem, hrun]
      exact hI.ins hmD hmK hh (i := 5) (k := 80) (p := IsK B 5) (by simp [K4]) (by decide) (by decide) (by simp [D4]) (by simp [K4]) (by simp [K4]) g1 g2 g3 g4 g5 g6 lm hn _ hv
    · intro L c wr hI hL he
      have s4 := hI.fx (4, .func (.func 46) #[] #[.pointer (some ⟨B + 1, 0, none⟩)]) (by simp)
      simp only at s4
      unfold Oper.wp
      simp [execOp, Act.eval, s4, go_sem]
      refine hI.step hmD hmK hh 6 15 _ wr (Below.refl _ _) (by decide) (by decide) (by simp [K4]) (by decide) (by decide) (by decide) (by simp) ?_
      intro x hx
      simp only [D4, List.mem_cons, List.not_mem_nil, or_false] at hx
      rcases hx with rfl | rfl | rfl | rfl | rfl | rfl | rfl | rfl | rfl | rfl | rfl
      · exact Or.inr ⟨by simp, by simp⟩
      · exact Or.inr ⟨by simp, by simp⟩
      · exact Or.inr ⟨by simp, by simp⟩
      · exact Or.inl ⟨rfl, rfl, rfl⟩
      · exact Or.inr ⟨by simp, by simp⟩
      · exact Or.inr ⟨by simp, by simp⟩
      · exact Or.inr ⟨by simp, by simp⟩
      · exact Or.inr ⟨by simp, by simp⟩
      · exact Or.inr ⟨by simp, by simp⟩
      · exact Or.inr ⟨by simp, by simp⟩
      · exact Or.inr ⟨by simp, by simp⟩
    · intro L c wr hI hL he
      have l0 := he ⟨6, .data⟩ (by simp) rfl
      obtain ⟨_, s4, rfl⟩ := hI.ds (6, 15, IsV (.func (.func 46) #[] #[.pointer (some ⟨B + 1, 0, none⟩)])) (by simp [D4]) l0
      simp only at s4
      unfold Oper.wp
      simp [Act.eval, s4, go_sem]
      refine (mk47_any _ _ _).mono fun e w' he => ?_
      obtain ⟨rfl, rfl⟩ := he
      refine hI.step hmD hmK hh 7 16 _ _ ((Below.refl _ _).alloc (Nat.le_refl _) _) (by decide) (by decide) (by simp [K4]) (by decide) (by decide) (by decide) (by simp) ?_
      intro x hx
      simp only [D4, List.mem_cons, List.not_mem_nil, or_false] at hx
      rcases hx with rfl | rfl | rfl | rfl | rfl | rfl | rfl | rfl | rfl | rfl | rfl
      · exact Or.inr ⟨by simp, by simp⟩
      · exact Or.inr ⟨by simp, by simp⟩
      · exact Or.inr ⟨by simp, by simp⟩
      · exact Or.inr ⟨by simp, by simp⟩
      · exact Or.inl ⟨rfl, rfl, wr.heap.size, rfl, heap_new _ _⟩
      · exact Or.inr ⟨by simp, by simp⟩
      · exact Or.inr ⟨by simp, by simp⟩
      · exact Or.inr ⟨by simp, by simp⟩
      · exact Or.inr ⟨by simp, by simp⟩
      · exact Or.inr ⟨by simp, by simp⟩
      · exact Or.inr ⟨by simp, by simp⟩
    · intro L c wr hI hL he
      have lm := he ⟨1, .data⟩ (by simp) rfl
      obtain ⟨m, es, clk, g1, g2, g3, g4, g5, g6⟩ := hI.mp lm
      have hn := out_K g5 (i := 8) (k := 66) (p := IsK B 6) (by simp [K4]) hL
      have ls := he ⟨7, .data⟩ (by simp) rfl
      obtain ⟨v, sv, hv⟩ := hI.ds (7, 16, IsK B 6) (by simp [D4]) ls
      simp only at sv hv
      have hrun := run_insert (k := 66) (v := v) Tryd.underlying68 Tryd.underlying5 g3 g4 hn
      unfold Oper.wp
      simp [execOp, Act.eval, g1, sv, go_sem, hrun]
      exact hI.ins hmD hmK hh (i := 8) (k := 66) (p := IsK B 6) (by simp [K4]) (by decide) (by decide) (by simp [D4]) (by simp [K4]) (by simp [K4]) g1 g2 g3 g4 g5 g6 lm hn _ hv
    · intro L c wr hI hL he
      have s4 := hI.fx (4, .func (.func 46) #[] #[.pointer (some ⟨B + 1, 0, none⟩)]) (by simp)
      simp only at s4
      unfold Oper.wp
      simp [execOp, Act.eval, s4, go_sem]
      refine hI.step hmD hmK hh 9 17 _ wr (Below.refl _ _) (by decide) (by decide) (by simp [K4]) (by decide) (by decide) (by decide) (by simp) ?_
      intro x hx
      simp only [D4, List.mem_cons, List.not_mem_nil, or_false] at hx
      rcases hx with rfl | rfl | rfl | rfl | rfl | rfl | rfl | rfl | rfl | rfl | rfl
      · exact Or.inr ⟨by simp, by simp⟩
      · exact Or.inr ⟨by simp, by simp⟩
      · exact Or.inr ⟨by simp, by simp⟩
      · exact Or.inr ⟨by simp, by simp⟩
      · exact Or.inr ⟨by simp, by simp⟩
      · exact Or.inl ⟨rfl, rfl, rfl⟩
      · exact Or.inr ⟨by simp, by simp⟩
      · exact Or.inr ⟨by simp, by simp⟩
      · exact Or.inr ⟨by simp, by simp⟩
      · exact Or.inr ⟨by simp, by simp⟩
      · exact Or.inr ⟨by simp, by simp⟩
    · intro L c wr hI hL he
      have l0 := he ⟨9, .data⟩ (by simp) rfl
      obtain ⟨_, s4, rfl⟩ := hI.ds (9, 17, IsV (.func (.func 46) #[] #[.pointer (some ⟨B + 1, 0, none⟩)])) (by simp [D4]) l0
      simp only at s4
      unfold Oper.wp
      simp [Act.eval, s4, go_sem]
      refine (mk47_any _ _ _).mono fun e w' he => ?_
      obtain ⟨rfl, rfl⟩ := he
      refine hI.step hmD hmK hh 10 18 _ _ ((Below.refl _ _).alloc (Nat.le_refl _) _) (by decide) (by decide) (by simp [K4]) (by decide) (by decide) (by decide) (by simp) ?_
      intro x hx
      simp only [D4, List.mem_cons, List.not_mem_nil, or_false] at hx
      rcases hx with rfl | rfl | rfl | rfl | rfl | rfl | rfl | rfl | rfl | rfl | rfl
      · exact Or.inr ⟨by simp, by simp⟩
      · exact Or.inr ⟨by simp, by simp⟩
      · exact Or.inr ⟨by simp, by simp⟩
      · exact Or.inr ⟨by simp, by simp⟩
      · exact Or.inr ⟨by simp, by simp⟩
      · exact Or.inr ⟨by simp, by simp⟩
      · exact Or.inl ⟨rfl, rfl, wr.heap.size, rfl, heap_new _ _⟩
      · exact Or.inr ⟨by simp, by simp⟩
      · exact Or.inr ⟨by simp, by simp⟩
      · exact Or.inr ⟨by simp, by simp⟩
      · exact Or.inr ⟨by simp, by simp⟩
    · intro L c wr hI hL he
      have lm := he ⟨1, .data⟩ (by simp) rfl
      obtain ⟨m, es, clk, g1, g2, g3, g4, g5, g6⟩ := hI.mp lm
      have hn := out_K g5 (i := 11) (k := 68) (p := IsK B 7) (by simp [K4]) hL
      have ls := he ⟨10, .data⟩ (by simp) rfl
      obtain ⟨v, sv, hv⟩ := hI.ds (10, 18, IsK B 7) (by simp [D4]) ls
      simp only at sv hv
      have hrun := run_insert (k := 68) (v := v) Tryd.underlying68 Tryd.underlying5 g3 g4 hn
      unfold Oper.wp
      simp [execOp, Act.eval, g1, sv, go_sem, hrun]
      exact hI.ins hmD hmK hh (i := 11) (k := 68) (p := IsK B 7) (by simp [K4]) (by decide) (by decide) (by simp [D4]) (by simp [K4]) (by simp [K4]) g1 g2 g3 g4 g5 g6 lm hn _ hv
    · intro L c wr hI hL he
      have hvb : wr.cell? ⟨B + 1, 0, none⟩ = some (.pointer (some ⟨B, 0, none⟩)) := (cells1_of (by rw [hI.bl.block (B + 1) (heap_lt hp1)]; exact hp1))
      have s3 := hI.fx (3, .pointer (some ⟨B + 1, 0, none⟩)) (by simp)
      simp only at s3
      unfold Oper.wp
      simp [execOp, Act.eval, s3, go_sem, hvb]
      refine hI.step hmD hmK hh 12 19 _ wr (Below.refl _ _) (by decide) (by decide) (by simp [K4]) (by decide) (by decide) (by decide) (by simp) ?_
      intro x hx
      simp only [D4, List.mem_cons, List.not_mem_nil, or_false] at hx
      rcases hx with rfl | rfl | rfl | rfl | rfl | rfl | rfl | rfl | rfl | rfl | rfl
      · exact Or.inr ⟨by simp, by simp⟩
      · exact Or.inr ⟨by simp, by simp⟩
      · exact Or.inr ⟨by simp, by simp⟩
      · exact Or.inr ⟨by simp, by simp⟩
      · exact Or.inr ⟨by simp, by simp⟩
      · exact Or.inr ⟨by simp, by simp⟩
      · exact Or.inr ⟨by simp, by simp⟩
      · exact Or.inl ⟨rfl, rfl, rfl⟩
      · exact Or.inr ⟨by simp, by simp⟩
      · exact Or.inr ⟨by simp, by simp⟩
      · exact Or.inr ⟨by simp, by simp⟩
    · intro L c wr hI hL he
      have l0 := he ⟨12, .data⟩ (by simp) rfl
      obtain ⟨_, s4, rfl⟩ := hI.ds (12, 19, IsV (.pointer (some ⟨B, 0, none⟩))) (by simp [D4]) l0
      simp only at s4
      unfold Oper.wp
      simp [execOp, Act.eval, s4, go_sem]
      refine hI.step hmD hmK hh 13 20 _ wr (Below.refl _ _) (by decide) (by decide) (by simp [K4]) (by decide) (by decide) (by decide) (by simp) ?_
      intro x hx
      simp only [D4, List.mem_cons, List.not_mem_nil, or_false] at hx
      rcases hx with rfl | rfl | rfl | rfl | rfl | rfl | rfl | rfl | rfl | rfl | rfl
      · exact Or.inr ⟨by simp, by simp⟩
      · exact Or.inr ⟨by simp, by simp⟩
      · exact Or.inr ⟨by simp, by simp⟩
      · exact Or.inr ⟨by simp, by simp⟩
      · exact Or.inr ⟨by simp, by simp⟩
      · exact Or.inr ⟨by simp, by simp⟩
      · exact Or.inr ⟨by simp, by simp⟩
      · exact Or.inr ⟨by simp, by simp⟩
      · exact Or.inl ⟨rfl, rfl, rfl⟩
      · exact Or.inr ⟨by simp, by simp⟩
      · exact Or.inr ⟨by simp, by simp⟩
    · intro L c wr hI hL he
      have lm := he ⟨1, .data⟩ (by simp) rfl
      obtain ⟨m, es, clk, g1, g2, g3, g4, g5, g6⟩ := hI.mp lm
      have hn := out_K g5 (i := 14) (k := 40) (p := IsV (.func (.func 48) #[.pointer (some ⟨B, 0, none⟩)] #[])) (by simp [K4]) hL
      have ls := he ⟨13, .data⟩ (by simp) rfl
      obtain ⟨v, sv, hv⟩ := hI.ds (13, 20, IsV (.func (.func 48) #[.pointer (some ⟨B, 0, none⟩)] #[])) (by simp [D4]) ls
      simp only at sv hv
      have hrun := run_insert (k := 40) (v := v) Tryd.underlying68 Tryd.underlying5 g3 g4 hn
      unfold Oper.wp
      simp [execOp, Act.eval, g1, sv, go_sem, hrun]
      exact hI.ins hmD hmK hh (i := 14) (k := 40) (p := IsV (.func (.func 48) #[.pointer (some ⟨B, 0, none⟩)] #[])) (by simp [K4]) (by decide) (by decide) (by simp [D4]) (by simp [K4]) (by simp [K4]) g1 g2 g3 g4 g5 g6 lm hn _ hv
    · intro L c wr hI hL he
      have lm := he ⟨1, .data⟩ (by simp) rfl
      obtain ⟨m, es, clk, g1, g2, g3, g4, g5, g6⟩ := hI.mp lm
      unfold Oper.wp
      simp [execOp, Act.eval, g1, go_sem]
      exact hI.alias lm (by decide) (by decide) (by decide) (by simp) (by simp [D4]) (by simp [K4]) g1
    · intro L c wr hI hL he
      have l0 := he ⟨0, .data⟩ (by simp) rfl
      obtain ⟨_, s4, rfl⟩ := hI.ds (0, 11, IsV (.pointer (some ⟨B, 0, none⟩))) (by simp [D4]) l0
      simp only at s4
      unfold Oper.wp
      simp [execOp, Act.eval, s4, go_sem]
      refine hI.step hmD hmK hh 16 22 _ wr (Below.refl _ _) (by decide) (by decide) (by simp [K4]) (by decide) (by decide) (by decide) (by simp) ?_
      intro x hx
      simp only [D4, List.mem_cons, List.not_mem_nil, or_false] at hx
      rcases hx with rfl | rfl | rfl | rfl | rfl | rfl | rfl | rfl | rfl | rfl | rfl
      · exact Or.inr ⟨by simp, by simp⟩
      · exact Or.inr ⟨by simp, by simp⟩
      · exact Or.inr ⟨by simp, by simp⟩
      · exact Or.inr ⟨by simp, by simp⟩
      · exact Or.inr ⟨by simp, by simp⟩
      · exact Or.inr ⟨by simp, by simp⟩
      · exact Or.inr ⟨by simp, by simp⟩
      · exact Or.inr ⟨by simp, by simp⟩
      · exact Or.inr ⟨by simp, by simp⟩
      · exact Or.inl ⟨rfl, rfl, rfl⟩
      · exact Or.inr ⟨by simp, by simp⟩
    · intro L c wr hI hL he
      have l0 := he ⟨16, .data⟩ (by simp) rfl
      obtain ⟨_, s4, rfl⟩ := hI.ds (16, 22, IsV (.pointer (some ⟨B, 0, none⟩))) (by simp [D4]) l0
      simp only at s4
      unfold Oper.wp
      simp [execOp, Act.eval, s4, go_sem]
      refine hI.step hmD hmK hh 17 23 _ wr (Below.refl _ _) (by decide) (by decide) (by simp [K4]) (by decide) (by decide) (by decide) (by simp) ?_
      intro x hx
      simp only [D4, List.mem_cons, List.not_mem_nil, or_false] at hx
      rcases hx with rfl | rfl | rfl | rfl | rfl | rfl | rfl | rfl | rfl | rfl | rfl
      · exact Or.inr ⟨by simp, by simp⟩
      · exact Or.inr ⟨by simp, by simp⟩
      · exact Or.inr ⟨by simp, by simp⟩
      · exact Or.inr ⟨by simp, by simp⟩
      · exact Or.inr ⟨by simp, by simp⟩
      · exact Or.inr ⟨by simp, by simp⟩
      · exact Or.inr ⟨by simp, by simp⟩
      · exact Or.inr ⟨by simp, by simp⟩
      · exact Or.inr ⟨by simp, by simp⟩
      · exact Or.inr ⟨by simp, by simp⟩
      · exact Or.inl ⟨rfl, rfl, rfl⟩
  · intro L c wr hdone hI
    have lm := hdone 1 (by decide)
    obtain ⟨m1, es1, clk1, g1, g2, g3, g4, g5, g6⟩ := hI.mp lm
    obtain ⟨hal, _⟩ := hI.al (hdone 15 (by decide))
    rw [g1] at hal
    obtain ⟨_, s23, rfl⟩ := hI.ds (17, 23, IsV (.pointer (some ⟨B, 2, none⟩))) (by simp [D4]) (hdone 17 (by decide))
    simp only at s23
    have hb0 : wr.heap[B]? = some (Obj.cells #[.string s, .int .i64 0, .map none, .map none, .map none] 71 (0, 0)) := by rw [hI.bl.block B (heap_lt hp0)]; exact hp0
    have hb1 : wr.heap[B + 1]? = some (Obj.cells #[.pointer (some ⟨B, 0, none⟩)] 52 (0, 0)) := by rw [hI.bl.block (B + 1) (heap_lt hp1)]; exact hp1
    have hc2 : wr.cell? ⟨B, 2, none⟩ = some (.map none) := by simp [World.cell?, hb0]
    have hf2 : wr.frozen? ⟨B, 2, none⟩ = false := frozen_of hb0
    unfold Oper.wp
    simp [execOp, Act.eval, hal, s23, go_sem, hc2, hf2]
    refine hK _ _ ?_
    obtain ⟨k5, e5, kb5, rfl, hk5⟩ := in_K g5 (i := 5) (k := 80) (p := IsK B 5) (by simp [K4]) (hdone 5 (by decide))
    obtain ⟨k6, e6, kb6, rfl, hk6⟩ := in_K g5 (i := 8) (k := 66) (p := IsK B 6) (by simp [K4]) (hdone 8 (by decide))
    obtain ⟨k7, e7, kb7, rfl, hk7⟩ := in_K g5 (i := 11) (k := 68) (p := IsK B 7) (by simp [K4]) (hdone 11 (by decide))
    obtain ⟨kx, ex, rfl⟩ := in_K g5 (i := 2) (k := 88) (p := IsV (.func (.func 52) #[] #[])) (by simp [K4]) (hdone 2 (by decide))
    obtain ⟨kr, er, rfl⟩ := in_K g5 (i := 14) (k := 40) (p := IsV (.func (.func 48) #[.pointer (some ⟨B, 0, none⟩)] #[])) (by simp [K4]) (hdone 14 (by decide))
    have hoth : ∀ k, k ≠ 88 → k ≠ 40 → k ≠ 80 → k ≠ 66 → k ≠ 68 → look es1.toList k = none := fun k a1 a2 a3 a4 a5 => g6 k (by simp [K4]; exact ⟨a1, a3, a4, a5, a2⟩)
    have s3 := hI.fx (3, .pointer (some ⟨B + 1, 0, none⟩)) (by simp)
    have s5 := hI.fx (5, .func (.func 49) #[] #[.pointer (some ⟨B + 1, 0, none⟩)]) (by simp)
    simp only at s3 s5
    have hdf := hI.df
    have hsize := hI.size
    have hbl := hI.bl
    have hm1B : m1 ≠ B := by intro e; rw [e, hb0] at g3; cases g3
    have hm1B1 : m1 ≠ B + 1 := by intro e; rw [e, hb1] at g3; cases g3
    have kne : ∀ kb k, wr.heap[kb]? = some (Obj.cells #[.int .i64 k] 3 (0, 0)) → kb ≠ B := by intro kb k h e; rw [e, hb0] at h; simp at h
    have kn5 := kne _ _ hk5
    have kn6 := kne _ _ hk6
    have kn7 := kne _ _ hk7
    have g4' := g4
    clear hI g5 g6 hal s23 hc2 hf2 kne g4
    -- behind the first store
    obtain ⟨W5, hW5⟩ : ∃ W5, W5 = wr.setCell ⟨B, 2, none⟩ (.map (some m1)) := ⟨_, rfl⟩
    have q0 : W5.heap[B]? = some (Obj.cells #[.string s, .int .i64 0, .map (some m1), .map none, .map none] 71 (0, 0)) := by
      rw [hW5]; simp [World.setCell, Array.getElem?_modify, hb0]
    have far5 : ∀ k, k ≠ B → W5.heap[k]? = wr.heap[k]? := by intro k hk; rw [hW5]; exact Below.heap_setCell _ _ _ _ hk
    have sz5 : W5.heap.size = wr.heap.size := by rw [hW5]; simp [World.setCell]
    have os5 : W5.os = wr.os ∧ W5.tape = wr.tape ∧ W5.output = wr.output := by rw [hW5]; exact ⟨rfl, rfl, rfl⟩
    rw [← hW5]
    clear hW5
    have q1 : W5.heap[B + 1]? = some (Obj.cells #[.pointer (some ⟨B, 0, none⟩)] 52 (0, 0)) := by rw [far5 _ (by omega)]; exact hb1
    have qm : W5.heap[m1]? = some (Obj.map es1 clk1) := by rw [far5 _ hm1B]; exact g3
    rw [← far5 _ kn5] at hk5
    rw [← far5 _ kn6] at hk6
    rw [← far5 _ kn7] at hk7
    have hBl5 : Below w.heap.size w W5 := by
      refine ⟨os5.1.trans (hbl.os.trans hWb.os), os5.2.1.trans (hbl.tape.trans hWb.tape), os5.2.2.trans (hbl.output.trans hWb.output), ?_, ?_⟩
      · have := hbl.size; have := hWb.size; omega
      · intro k hk
        rw [far5 k (by have := HB.out; omega), hbl.block k (by have := hWb.size; omega)]
        exact hWb.block k hk
    clear far5 sz5 os5 g3 hbl
    -- the second table
    have hrun2 := run_insert (w := W5.alloc (.map #[] 0)) (m := W5.heap.size) (es := #[]) (clk := 0) (k := 94) (v := .func (.func 53) #[] #[.pointer (some ⟨B + 1, 0, none⟩)]) Tryd.underlying69 Tryd.underlying5 (heap_new _ _) (fun e he => by simp at he) rfl
    obtain ⟨e2, he2⟩ : ∃ e2 : Array MapEntry, e2 = (#[] : Array MapEntry).push { key := .int .u8 94, val := .func (.func 53) #[] #[.pointer (some ⟨B + 1, 0, none⟩)], born := 0 } := ⟨_, rfl⟩
    rw [← he2] at hrun2
    have t2 : Tab2 ⟨B, B + 1, m1, W5.heap.size, 0, s⟩ e2.toList := by
      rw [he2]
      refine ⟨?_, rfl, fun k hk => ?_⟩
      · intro e he
        simp at he
        exact ⟨94, by rw [he]⟩
      · simp [look, hk]
    clear he2
    obtain ⟨X, hX⟩ : ∃ X, X = ChangeMaps.setBlock (W5.alloc (.map #[] 0)) W5.heap.size (.map e2 1) := ⟨_, rfl⟩
    have farX : ∀ k, k < W5.heap.size → X.heap[k]? = W5.heap[k]? := by
      intro k hk
      rw [hX]
      show ((W5.alloc _).heap.setIfInBounds _ _)[k]? = _
      rw [Array.getElem?_setIfInBounds_ne (by omega)]
      exact Below.heap_alloc _ _ _ hk
    have xm2 : X.heap[W5.heap.size]? = some (.map e2 1) := by
      rw [hX]
      show ((W5.alloc _).heap.setIfInBounds _ _)[W5.heap.size]? = _
      simp
    have szX : X.heap.size = W5.heap.size + 1 := by rw [hX]; simp [ChangeMaps.setBlock]
    have osX : X.os = W5.os ∧ X.tape = W5.tape ∧ X.output = W5.output := by rw [hX]; exact ⟨rfl, rfl, rfl⟩
    rw [show (0 : Nat) + 1 = 1 from rfl, ← hX] at hrun2
    clear hX
    have x0 : X.heap[B]? = some (Obj.cells #[.string s, .int .i64 0, .map (some m1), .map none, .map none] 71 (0, 0)) := by rw [farX _ (heap_lt q0)]; exact q0
    have xc : X.cell? ⟨B, 3, none⟩ = some (.map none) := by simp [World.cell?, x0]
    have xf : X.frozen? ⟨B, 3, none⟩ = false := frozen_of x0
    obtain ⟨W6, hW6⟩ : ∃ W6, W6 = X.setCell ⟨B, 3, none⟩ (.map (some W5.heap.size)) := ⟨_, rfl⟩
    have y0 : W6.heap[B]? = some (Obj.cells #[.string s, .int .i64 0, .map (some m1), .map (some W5.heap.size), .map none] 71 (0, 0)) := by
      rw [hW6]; simp [World.setCell, Array.getElem?_modify, x0]
    have far6 : ∀ k, k < W5.heap.size → k ≠ B → W6.heap[k]? = W5.heap[k]? := by intro k hk hn; rw [hW6, Below.heap_setCell _ _ _ _ hn]; exact farX k hk
    have ym2 : W6.heap[W5.heap.size]? = some (.map e2 1) := by rw [hW6, Below.heap_setCell _ _ _ _ (by have := heap_lt q0; show W5.heap.size ≠ B; omega)]; exact xm2
    have hBl6 : Below w.heap.size w W6 := by
      refine ⟨?_, ?_, ?_, ?_, ?_⟩
      · rw [hW6]; exact osX.1.trans hBl5.os
      · rw [hW6]; exact osX.2.1.trans hBl5.tape
      · rw [hW6]; exact osX.2.2.trans hBl5.output
      · rw [hW6]; have := hBl5.size; simp [World.setCell]; omega
      · intro k hk
        rw [far6 k (by have := hBl5.size; omega) (by have := HB.out; omega)]
        exact hBl5.block k hk
    have y1 : W6.heap[B + 1]? = some (Obj.cells #[.pointer (some ⟨B, 0, none⟩)] 52 (0, 0)) := by rw [far6 _ (heap_lt q1) (by omega)]; exact q1
    have ym : W6.heap[m1]? = some (Obj.map es1 clk1) := by rw [far6 _ (heap_lt qm) hm1B]; exact qm
    have yk5 := hk5
    have yk6 := hk6
    have yk7 := hk7
    rw [← far6 _ (heap_lt hk5) kn5] at yk5
    rw [← far6 _ (heap_lt hk6) kn6] at yk6
    rw [← far6 _ (heap_lt hk7) kn7] at yk7
    have hmm : ∀ w : World, (Instr.makeMap 69 none).run Tryd.prog w = .ok (.map (some w.heap.size)) (w.alloc (.map #[] 0)) := fun w => by simp [Instr.makeMap, go_sem]
    have vc5 := cells1_of q1
    clear far6 farX szX osX hk5 hk6 hk7 hb0 hb1 q0 qm kn5 kn6 kn7 xm2
    obtain ⟨x0, x1, x2, x3, x4, x5, x6, x7, x8, x9, x10, x11, x12, x13, x14, x15, x16, x17, x18, x19, x20, x21, x22, x23, x24, x25, x26, x27, x28, x29, x30, x31, x32, x33, x34, x35, x36, x37, x38, x39, hc⟩ := arr40 c.tmps hsize
    rw [hc] at s3 s5
    simp only [List.getElem?_toArray, List.getElem?_cons_succ, List.getElem?_cons_zero, Option.some.injEq] at s3 s5
    subst s3 s5
    obtain ⟨ct, cd⟩ := c
    simp only at hc hdf
    subst hc hdf
    clear hK lm
    have HL := Lib.hid hdone
    clear hdone
    go_wp2_with fail
    rw [← hW6]
    clear hW6 hmm hrun2 vc5 q1 xc xf
    rename_i K2 hK2
    have hmD6 := stc_D6 B
    have hmK6 := stc_K6 B
    refine wp_region_last [_, _, _, _, _, _, _, _, _, _, _] _ rfl (by kernel_rfl) (Mk W6 [(3, .pointer (some ⟨B + 1, 0, none⟩)), (5, .func (.func 49) #[] #[.pointer (some ⟨B + 1, 0, none⟩)])] (D6 B) 1 31 8 36 (K6 B) (fun _ => True)) (by kernel_rfl) (by kernel_rfl) ?_ ?_ ?_
    · refine ⟨rfl, rfl, ?_, ?_, ?_, ?_, ?_, trivial, (Below.refl _ _).drew⟩
      · intro x hx
        simp only [List.mem_cons, List.not_mem_nil, or_false] at hx
        rcases hx with rfl | rfl <;> rfl
      · intro x hx hL; cases hL
      · intro x hx hL; cases hL
      · intro hL; cases hL
      · intro hL; cases hL
    · refine ⟨?_, ?_, ?_, ?_, ?_, ?_, ?_, ?_, ?_, ?_, ?_, trivial⟩
      · intro L c wr hI hL he
        have hvb : wr.cell? ⟨B + 1, 0, none⟩ = some (.pointer (some ⟨B, 0, none⟩)) := (cells1_of (by rw [hI.bl.block (B + 1) (heap_lt y1)]; exact y1))
        have s3 := hI.fx (3, .pointer (some ⟨B + 1, 0, none⟩)) (by simp)
        simp only at s3
        unfold Oper.wp
        simp [execOp, Act.eval, s3, go_sem, hvb]
        refine hI.step hmD6 hmK6 hh 0 30 _ wr (Below.refl _ _) (by decide) (by decide) (by simp [K6]) (by decide) (by decide) (by decide) (by simp) ?_
        intro x hx
        simp only [D6, List.mem_cons, List.not_mem_nil, or_false] at hx
        rcases hx with rfl | rfl | rfl | rfl | rfl | rfl | rfl
        · exact Or.inl ⟨rfl, rfl, rfl⟩
        · exact Or.inr ⟨by simp, by simp⟩
        · exact Or.inr ⟨by simp, by simp⟩
        · exact Or.inr ⟨by simp, by simp⟩
        · exact Or.inr ⟨by simp, by simp⟩
        · exact Or.inr ⟨by simp, by simp⟩
        · exact Or.inr ⟨by simp, by simp⟩
      · intro L c wr hI hL he
        unfold Oper.wp
        simp [execOp, go_sem, Instr.makeMap]
        exact hI.make hmD6 hh hL (by decide) (by simp) (by simp [D6]) (by simp [K6]) (by decide)
      · intro L c wr hI hL he
        have s4 := hI.fx (5, .func (.func 49) #[] #[.pointer (some ⟨B + 1, 0, none⟩)]) (by simp)
        simp only at s4
        unfold Oper.wp
        simp [execOp, Act.eval, s4, go_sem]
        refine hI.step hmD6 hmK6 hh 2 32 _ wr (Below.refl _ _) (by decide) (by decide) (by simp [K6]) (by decide) (by decide) (by decide) (by simp) ?_
        intro x hx
        simp only [D6, List.mem_cons, List.not_mem_nil, or_false] at hx
        rcases hx with rfl | rfl | rfl | rfl | rfl | rfl | rfl
        · exact Or.inr ⟨by simp, by simp⟩
        · exact Or.inl ⟨rfl, rfl, rfl⟩
        · exact Or.inr ⟨by simp, by simp⟩
        · exact Or.inr ⟨by simp, by simp⟩
        · exact Or.inr ⟨by simp, by simp⟩
        · exact Or.inr ⟨by simp, by simp⟩
        · exact Or.inr ⟨by simp, by simp⟩
      · intro L c wr hI hL he
        have l0 := he ⟨2, .data⟩ (by simp) rfl
        obtain ⟨_, s4, rfl⟩ := hI.ds (2, 32, IsV (.func (.func 49) #[] #[.pointer (some ⟨B + 1, 0, none⟩)])) (by simp [D6]) l0
        simp only at s4
        unfold Oper.wp
        simp [Act.eval, s4, go_sem]
        refine (mk50_any _ _ _).mono fun e w' he => ?_
        obtain ⟨rfl, rfl⟩ := he
        refine hI.step hmD6 hmK6 hh 3 33 _ _ ((Below.refl _ _).alloc (Nat.le_refl _) _) (by decide) (by decide) (by simp [K6]) (by decide) (by decide) (by decide) (by simp) ?_
        intro x hx
        simp only [D6, List.mem_cons, List.not_mem_nil, or_false] at hx
        rcases hx with rfl | rfl | rfl | rfl | rfl | rfl | rfl
        · exact Or.inr ⟨by simp, by simp⟩
        · exact Or.inr ⟨by simp, by simp⟩
        · exact Or.inl ⟨rfl, rfl, wr.heap.size, rfl, heap_new _ _⟩
        · exact Or.inr ⟨by simp, by simp⟩
        · exact Or.inr ⟨by simp, by simp⟩
        · exact Or.inr ⟨by simp, by simp⟩
        · exact Or.inr ⟨by simp, by simp⟩
      · intro L c wr hI hL he
        have lm := he ⟨1, .data⟩ (by simp) rfl
        obtain ⟨m, es, clk, g1, g2, g3, g4, g5, g6⟩ := hI.mp lm
        have hn := out_K g5 (i := 4) (k := 42) (p := IsJ B 2) (by simp [K6]) hL
        have ls := he ⟨3, .data⟩ (by simp) rfl
        obtain ⟨v, sv, hv⟩ := hI.ds (3, 33, IsJ B 2) (by simp [D6]) ls
        simp only at sv hv
        have hrun := run_insert (k := 42) (v := v) Tryd.underlying69 Tryd.underlying5 g3 g4 hn
        unfold Oper.wp
        simp [execOp, Act.eval, g1, sv, go_sem, hrun]
        exact hI.ins hmD6 hmK6 hh (i := 4) (k := 42) (p := IsJ B 2) (by simp [K6]) (by decide) (by decide) (by simp [D6]) (by simp [K6]) (by simp [K6]) g1 g2 g3 g4 g5 g6 lm hn _ hv
      · intro L c wr hI hL he
        have s4 := hI.fx (5, .func (.func 49) #[] #[.pointer (some ⟨B + 1, 0, none⟩)]) (by simp)
        simp only at s4
        unfold Oper.wp
        simp [execOp, Act.eval, s4, go_sem]
        refine hI.step hmD6 hmK6 hh 5 34 _ wr (Below.refl _ _) (by decide) (by decide) (by simp [K6]) (by decide) (by decide) (by decide) (by simp) ?_
        intro x hx
        simp only [D6, List.mem_cons, List.not_mem_nil, or_false] at hx
        rcases hx with rfl | rfl | rfl | rfl | rfl | rfl | rfl
        · exact Or.inr ⟨by simp, by simp⟩
        · exact Or.inr ⟨by simp, by simp⟩
        · exact Or.inr ⟨by simp, by simp⟩
        · exact Or.inl ⟨rfl, rfl, rfl⟩
        · exact Or.inr ⟨by simp, by simp⟩
        · exact Or.inr ⟨by simp, by simp⟩
        · exact Or.inr ⟨by simp, by simp⟩
      · intro L c wr hI hL he
        have l0 := he ⟨5, .data⟩ (by simp) rfl
        obtain ⟨_, s4, rfl⟩ := hI.ds (5, 34, IsV (.func (.func 49) #[] #[.pointer (some ⟨B + 1, 0, none⟩)])) (by simp [D6]) l0
        simp only at s4
        unfold Oper.wp
        simp [Act.eval, s4, go_sem]
        refine (mk50_any _ _ _).mono fun e w' he => ?_
        obtain ⟨rfl, rfl⟩ := he
        refine hI.step hmD6 hmK6 hh 6 35 _ _ ((Below.refl _ _).alloc (Nat.le_refl _) _) (by decide) (by decide) (by simp [K6]) (by decide) (by decide) (by decide) (by simp) ?_
        intro x hx
        simp only [D6, List.mem_cons, List.not_mem_nil, or_false] at hx
        rcases hx with rfl | rfl | rfl | rfl | rfl | rfl | rfl
        · exact Or.inr ⟨by simp, by simp⟩
        · exact Or.inr ⟨by simp, by simp⟩
        · exact Or.inr ⟨by simp, by simp⟩
        · exact Or.inr ⟨by simp, by simp⟩
        · exact Or.inl ⟨rfl, rfl, wr.heap.size, rfl, heap_new _ _⟩
        · exact Or.inr ⟨by simp, by simp⟩
        · exact Or.inr ⟨by simp, by simp⟩
      · intro L c wr hI hL he
        have lm := he ⟨1, .data⟩ (by simp) rfl
        obtain ⟨m, es, clk, g1, g2, g3, g4, g5, g6⟩ := hI.mp lm
        have hn := out_K g5 (i := 7) (k := 43) (p := IsJ B 3) (by simp [K6]) hL
        have ls := he ⟨6, .data⟩ (by simp) rfl
        obtain ⟨v, sv, hv⟩ := hI.ds (6, 35, IsJ B 3) (by simp [D6]) ls
        simp only at sv hv
        have hrun := run_insert (k := 43) (v := v) Tryd.underlying69 Tryd.underlying5 g3 g4 hn
        unfold Oper.wp
        simp [execOp, Act.eval, g1, sv, go_sem, hrun]
        exact hI.ins hmD6 hmK6 hh (i := 7) (k := 43) (p := IsJ B 3) (by simp [K6]) (by decide) (by decide) (by simp [D6]) (by simp [K6]) (by simp [K6]) g1 g2 g3 g4 g5 g6 lm hn _ hv
      · intro L c wr hI hL he
        have lm := he ⟨1, .data⟩ (by simp) rfl
        obtain ⟨m, es, clk, g1, g2, g3, g4, g5, g6⟩ := hI.mp lm
        unfold Oper.wp
        simp [execOp, Act.eval, g1, go_sem]
        exact hI.alias lm (by decide) (by decide) (by decide) (by simp) (by simp [D6]) (by simp [K6]) g1
      · intro L c wr hI hL he
        have l0 := he ⟨0, .data⟩ (by simp) rfl
        obtain ⟨_, s4, rfl⟩ := hI.ds (0, 30, IsV (.pointer (some ⟨B, 0, none⟩))) (by simp [D6]) l0
        simp only at s4
        unfold Oper.wp
        simp [execOp, Act.eval, s4, go_sem]
        refine hI.step hmD6 hmK6 hh 9 37 _ wr (Below.refl _ _) (by decide) (by decide) (by simp [K6]) (by decide) (by decide) (by decide) (by simp) ?_
        intro x hx
        simp only [D6, List.mem_cons, List.not_mem_nil, or_false] at hx
        rcases hx with rfl | rfl | rfl | rfl | rfl | rfl | rfl
        · exact Or.inr ⟨by simp, by simp⟩
        · exact Or.inr ⟨by simp, by simp⟩
        · exact Or.inr ⟨by simp, by simp⟩
        · exact Or.inr ⟨by simp, by simp⟩
        · exact Or.inr ⟨by simp, by simp⟩
        · exact Or.inl ⟨rfl, rfl, rfl⟩
        · exact Or.inr ⟨by simp, by simp⟩
      · intro L c wr hI hL he
        have l0 := he ⟨9, .data⟩ (by simp) rfl
        obtain ⟨_, s4, rfl⟩ := hI.ds (9, 37, IsV (.pointer (some ⟨B, 0, none⟩))) (by simp [D6]) l0
        simp only at s4
        unfold Oper.wp
        simp [execOp, Act.eval, s4, go_sem]
        refine hI.step hmD6 hmK6 hh 10 38 _ wr (Below.refl _ _) (by decide) (by decide) (by simp [K6]) (by decide) (by decide) (by decide) (by simp) ?_
        intro x hx
        simp only [D6, List.mem_cons, List.not_mem_nil, or_false] at hx
        rcases hx with rfl | rfl | rfl | rfl | rfl | rfl | rfl
        · exact Or.inr ⟨by simp, by simp⟩
        · exact Or.inr ⟨by simp, by simp⟩
        · exact Or.inr ⟨by simp, by simp⟩
        · exact Or.inr ⟨by simp, by simp⟩
        · exact Or.inr ⟨by simp, by simp⟩
        · exact Or.inr ⟨by simp, by simp⟩
        · exact Or.inl ⟨rfl, rfl, rfl⟩
    · intro L c wr hdone hI
      have lm := hdone 1 (by decide)
      obtain ⟨m3, es3, clk3, g1, g2, g3, g4, g5, g6⟩ := hI.mp lm
      obtain ⟨hal, _⟩ := hI.al (hdone 8 (by decide))
      rw [g1] at hal
      obtain ⟨_, s38, rfl⟩ := hI.ds (10, 38, IsV (.pointer (some ⟨B, 4, none⟩))) (by simp [D6]) (hdone 10 (by decide))
      simp only at s38
      have hb0 : wr.heap[B]? = some (Obj.cells #[.string s, .int .i64 0, .map (some m1), .map (some W5.heap.size), .map none] 71 (0, 0)) := by rw [hI.bl.block B (heap_lt y0)]; exact y0
      have hc4 : wr.cell? ⟨B, 4, none⟩ = some (.map none) := by simp [World.cell?, hb0]
      have hf4 : wr.frozen? ⟨B, 4, none⟩ = false := frozen_of hb0
      unfold Oper.wp
      simp [execOp, Act.eval, hal, s38, go_sem, hc4, hf4]
      refine hK2 _ _ ?_
      obtain ⟨j2, e2', kj2, rfl, hj2⟩ := in_K g5 (i := 4) (k := 42) (p := IsJ B 2) (by simp [K6]) (hdone 4 (by decide))
      obtain ⟨j3, e3', kj3, rfl, hj3⟩ := in_K g5 (i := 7) (k := 43) (p := IsJ B 3) (by simp [K6]) (hdone 7 (by decide))
      have hoth3 : ∀ k, k ≠ 42 → k ≠ 43 → look es3.toList k = none := fun k a1 a2 => g6 k (by simp [K6]; exact ⟨a1, a2⟩)
      have s3 := hI.fx (3, .pointer (some ⟨B + 1, 0, none⟩)) (by simp)
      simp only at s3
      have hdf := hI.df
      have hsize := hI.size
      have hbl := hI.bl
      obtain ⟨Wf, hWf⟩ : ∃ Wf, Wf = wr.setCell ⟨B, 4, none⟩ (.map (some m3)) := ⟨_, rfl⟩
      have f0 : Wf.heap[B]? = some (Obj.cells #[.string s, .int .i64 0, .map (some m1), .map (some W5.heap.size), .map (some m3)] 71 (0, 0)) := by
        rw [hWf]; simp [World.setCell, Array.getElem?_modify, hb0]
      have farf : ∀ k, k ≠ B → Wf.heap[k]? = wr.heap[k]? := by intro k hk; rw [hWf]; exact Below.heap_setCell _ _ _ _ hk
      have old : ∀ k o, W6.heap[k]? = some o → k ≠ B → Wf.heap[k]? = some o := by
        intro k o hk hn
        rw [farf k hn, hbl.block k (heap_lt hk)]; exact hk
      have nB : ∀ k o, wr.heap[k]? = some o → o ≠ Obj.cells #[.string s, .int .i64 0, .map (some m1), .map (some W5.heap.size), .map none] 71 (0, 0) → k ≠ B := by
        intro k o hk ho e
        rw [e, hb0] at hk
        exact ho (Option.some.inj hk).symm
      have f1 := old _ _ y1 (by omega)
      have fm1 := old _ _ ym hm1B
      have fm2 := old _ _ ym2 (by have := heap_lt y0; intro e; rw [e, y0] at ym2; cases ym2)
      have k5B : kb5 ≠ B := by intro e; rw [e, y0] at yk5; simp at yk5
      have k6B : kb6 ≠ B := by intro e; rw [e, y0] at yk6; simp at yk6
      have k7B : kb7 ≠ B := by intro e; rw [e, y0] at yk7; simp at yk7
      have fk5 := old _ _ yk5 k5B
      have fk6 := old _ _ yk6 k6B
      have fk7 := old _ _ yk7 k7B
      have fm3 : Wf.heap[m3]? = some (Obj.map es3 clk3) := by rw [farf m3 (nB _ _ g3 (by intro e; cases e))]; exact g3
      have fj2 : Wf.heap[kj2]? = _ := (farf kj2 (nB _ _ hj2 (by intro e; simp at e))).trans hj2
      have fj3 : Wf.heap[kj3]? = _ := (farf kj3 (nB _ _ hj3 (by intro e; simp at e))).trans hj3
      have hBf : Below w.heap.size w Wf := by
        refine ⟨?_, ?_, ?_, ?_, ?_⟩
        · rw [hWf]; exact hbl.os.trans hBl6.os
        · rw [hWf]; exact hbl.tape.trans hBl6.tape
        · rw [hWf]; exact hbl.output.trans hBl6.output
        · rw [hWf]; have := hBl6.size; have := hbl.size; simp [World.setCell]; omega
        · intro k hk
          rw [farf k (by have := HB.out; omega), hbl.block k (by have := hBl6.size; omega)]
          exact hBl6.block k hk
      have cellk : ∀ kb k, Wf.heap[kb]? = some (Obj.cells #[.int .i64 k] 3 (0, 0)) → Wf.cell? ⟨kb, 0, none⟩ = some (.int .i64 k) := fun kb k h => cells1_of h
      have hPS : PS Wf ⟨B, B + 1, m1, W5.heap.size, m3, s⟩ 0 := by
        refine ⟨f0, cells1_of f1, ⟨es1, clk1, fm1, g4', ex, er, ?_, hoth⟩, ⟨e2, 1, fm2, ⟨t2.keys, t2.pow, t2.others⟩⟩, ⟨es3, clk3, fm3, g4, ?_, hoth3⟩⟩
        · rintro c (rfl | rfl | rfl)
          · exact ⟨kb5, e5, cellk _ _ fk5⟩
          · exact ⟨kb6, e6, cellk _ _ fk6⟩
          · exact ⟨kb7, e7, cellk _ _ fk7⟩
        · rintro c (rfl | rfl)
          · exact ⟨kj2, e2', cellk _ _ fj2⟩
          · exact ⟨kj3, e3', cellk _ _ fj3⟩
      rw [← hWf]
      clear hWf
      have vf := cells1_of f1
      have HPS := Lib.hid hPS
      have HBF := Lib.hid hBf
      clear hPS hBf old nB farf f0 fm1 fm2 fm3 fk5 fk6 fk7 fj2 fj3 cellk hoth hoth3 e5 e6 e7 e2' e3' ex er g4 g4' t2 hb0 hc4 hf4 hal s38 lm hI
      obtain ⟨z0, z1, z2, z3, z4, z5, z6, z7, z8, z9, z10, z11, z12, z13, z14, z15, z16, z17, z18, z19, z20, z21, z22, z23, z24, z25, z26, z27, z28, z29, z30, z31, z32, z33, z34, z35, z36, z37, z38, z39, hc⟩ := arr40 c.tmps hsize
      rw [hc] at s3
      simp only [List.getElem?_toArray, List.getElem?_cons_succ, List.getElem?_cons_zero, Option.some.injEq] at s3
      subst s3
      obtain ⟨ct, cd⟩ := c
      simp only at hc hdf
      subst hc hdf
      go_wp2_with fail
      rw [HR1.out]
      exact ⟨⟨B, B + 1, m1, W5.heap.size, m3, s⟩, rfl, rfl, HB.out, HPS.out, HBF.out⟩
end Go.Proofs.YtioimhnebjiicaaDoor
