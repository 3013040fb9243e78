/-
  Proved here: a step towards the statements of chapter 1 (functors): what one of its functions does at each input.
-/
import Derived.Test.YtioimhnebjiicaaDoorParQ
namespace Go.Proofs.YtioimhnebjiicaaDoor
open Go.RowKit

def zeroF : F := ⟨0, 0, .nil⟩

/-- What Parse makes of a text: the functor and the error. -/
def parseOf (s : ByteArray) : F × Int :=
  if 40000 < s.size then (zeroF, 2)
  else match exprT s.data.toList with
    | none => (zeroF, 11)
    | some (f, r) => if pk r = [] then (if valid f.k f.n f.t then (f, 0) else (zeroF, 10)) else (zeroF, 11)

structure ParsePost (s : ByteArray) (w : World) (e : Ending) (w' : World) (a : Option Addr) (cap : Nat) : Prop where
  e : e = .returned (.tuple #[(parseOf s).1.val a cap, .int .i64 (parseOf s).2])
  sl : Sl (SP w.heap.size) w' a (parseOf s).1.t
  bl : Below w.heap.size w w'

abbrev theDefer (B : Nat) : Deferred := { target := Target.fn (Fn.func 33) #[.pointer (some ⟨B, 0, none⟩), .pointer (some ⟨B + 1, 0, none⟩)], args := #[] }

theorem caught_b0 {B : Nat} {w : World} {c : Array Value} (h0 : w.heap[B]? = some (Obj.cells c 24 (0, 0))) (hc : c.size = 3) : (caught B w).heap[B]? = some (Obj.cells #[.int .i64 0, .int .i64 0, .slice none 0 0] 24 (0, 0)) := by
  unfold caught
  rw [Below.heap_setCell _ _ _ _ (by simp)]
  exact store3 h0 hc
theorem caught_b1 {B : Nat} {w : World} {x : Value} {t : TypeId} (h1 : w.heap[B + 1]? = some (Obj.cells #[x] t (0, 0))) : (caught B w).heap[B + 1]? = some (Obj.cells #[.int .i64 11] t (0, 0)) := by
  unfold caught
  have := store3_far (u := w) (b := B) (k := B + 1) (x0 := .int .i64 0) (x1 := .int .i64 0) (x2 := .slice none 0 0) (by omega)
  rw [h1] at this
  simp [World.setCell, Array.getElem?_modify] at this ⊢
  exact ⟨_, this, rfl⟩
theorem caught_far {B k : Nat} {w : World} (h0 : k ≠ B) (h1 : k ≠ B + 1) : (caught B w).heap[k]? = w.heap[k]? := by
  unfold caught
  rw [Below.heap_setCell _ _ _ _ h1, store3_far h0]
theorem caught_below {B : Nat} {w u : World} (h : Below w.heap.size w u) (hB : w.heap.size ≤ B) : Below w.heap.size w (caught B u) :=
  ⟨h.os, h.tape, h.output, by have := h.size; simpa [caught, World.setCell] using this, fun k hk => (caught_far (by omega) (by omega)).trans (h.block k hk)⟩

theorem results22 {tm : Array Value} {B : Nat} {u : World} {k n e : Int} {a : Option Addr} {len cap : Nat} {t : TypeId} (h2 : tm[2]? = some (.pointer (some ⟨B, 0, none⟩))) (h3 : tm[3]? = some (.pointer (some ⟨B + 1, 0, none⟩)))
    (g0 : u.heap[B]? = some (Obj.cells #[.int .i64 k, .int .i64 n, .slice a len cap] 24 (0, 0))) (g1 : u.heap[B + 1]? = some (Obj.cells #[.int .i64 e] t (0, 0))) :
    (results Tryd.f22 tm).run Tryd.prog u = .ok (.tuple #[.agg #[.int .i64 k, .int .i64 n, .slice a len cap], .int .i64 e]) u := by
  obtain ⟨b0, b1, b2⟩ := cells_of g0
  have e0 := cells1_of g1
  simp [results, Tryd.results22, go_sem, h2, h3, b0, b1, b2, e0]

theorem door_panic {tm : Array Value} {B : Nat} {u : World} {c : Array Value} {x : Value} {t : TypeId} {R : Ending → World → Prop} (h2 : tm[2]? = some (.pointer (some ⟨B, 0, none⟩))) (h3 : tm[3]? = some (.pointer (some ⟨B + 1, 0, none⟩)))
    (g0 : u.heap[B]? = some (Obj.cells c 24 (0, 0))) (hc : c.size = 3) (g1 : u.heap[B + 1]? = some (Obj.cells #[x] t (0, 0)))
    (hR : R (.returned (.tuple #[zeroF.val none 0, .int .i64 11])) (caught B u)) : bodyPostD Tryd.prog Tryd.f22 R (.panic errPanic) { tmps := tm, defers := [theDefer B] } u := by
  show Leaves Tryd.prog Tryd.f22 tm R [theDefer B] (.panicking errPanic) u
  refine leaves_cons (f := 33) (args := #[.pointer (some ⟨B, 0, none⟩), .pointer (some ⟨B + 1, 0, none⟩)]) (by simp) (by simp [go_sem]) ?_
  refine (catch_panicking B c x t _ [] u g0 hc g1).mono ?_
  rintro e u' w'' ⟨rfl, rfl, rfl⟩
  have hr := results22 h2 h3 (caught_b0 g0 hc) (caught_b1 g1)
  simp only [settle, List.dropWhile]
  exact ⟨_, hr, hR⟩

theorem door_ret {tm : Array Value} {B : Nat} {u : World} {k n e : Int} {a : Option Addr} {len cap : Nat} {t : TypeId} {R : Ending → World → Prop} (h2 : tm[2]? = some (.pointer (some ⟨B, 0, none⟩))) (h3 : tm[3]? = some (.pointer (some ⟨B + 1, 0, none⟩)))
    (g0 : u.heap[B]? = some (Obj.cells #[.int .i64 k, .int .i64 n, .slice a len cap] 24 (0, 0))) (g1 : u.heap[B + 1]? = some (Obj.cells #[.int .i64 e] t (0, 0)))
    (hR : R (.returned (.tuple #[.agg #[.int .i64 k, .int .i64 n, .slice a len cap], .int .i64 e])) u) : bodyPostD Tryd.prog Tryd.f22 R .ret { tmps := tm, defers := [theDefer B] } u := by
  show Leaves Tryd.prog Tryd.f22 tm R [theDefer B] .returning u
  refine leaves_cons (f := 33) (args := #[.pointer (some ⟨B, 0, none⟩), .pointer (some ⟨B + 1, 0, none⟩)]) (by simp) (by simp [go_sem]) ?_
  refine (catch_idle B u).mono ?_
  rintro e u' w'' ⟨rfl, rfl, rfl⟩
  exact ⟨_, results22 h2 h3 g0 g1, hR⟩

set_option maxRecDepth 100000 in
set_option maxHeartbeats 800000 in
theorem parse_large (s : ByteArray) (w : World) (h : 40000 < s.size) (hm : s.size ≤ 1000000) : Calls Tryd.prog 22 #[.string s] w fun e w' => ∃ a cap, ParsePost s w e w' a cap := by
  have hp : parseOf s = (zeroF, 2) := by unfold parseOf; rw [if_pos h]
  obtain ⟨R, hR1⟩ : ∃ R : Ending → World → Prop, R = fun e w' => ∃ a cap, ParsePost s w e w' a cap := ⟨_, rfl⟩
  rw [← hR1]
  have HR1 := Lib.hid hR1
  have HP := Lib.hid hp
  clear hR1 hp
  have h' : (40000 : Int) < s.size := by omega
  go_enter_defers Tryd.func22, Tryd.ntmps22
  go_wp2_with fail
  refine ⟨_, by simp [results, Tryd.results22, go_sem]; rfl, ?_⟩
  rw [HR1.out]
  refine ⟨none, 0, ?_, ?_, ?_⟩
  · rw [HP.out]; rfl
  · rw [HP.out]; exact ⟨by simp [zeroF, T.len], rfl⟩
  · exact ((Below.refl _ _).alloc (Nat.le_refl _) _).alloc (by simp) _

def laid (B : Nat) (x0 x1 x2 e : Value) (w : World) : World :=
  (((w.setCell ⟨B, 0, none⟩ x0).setCell ⟨B, 1, none⟩ x1).setCell ⟨B, 2, none⟩ x2).setCell ⟨B + 1, 0, none⟩ e
theorem laid_b0 {B : Nat} {w : World} {c : Array Value} {x0 x1 x2 e : Value} (h0 : w.heap[B]? = some (Obj.cells c 24 (0, 0))) (hc : c.size = 3) : (laid B x0 x1 x2 e w).heap[B]? = some (Obj.cells #[x0, x1, x2] 24 (0, 0)) := by
  unfold laid
  rw [Below.heap_setCell _ _ _ _ (by simp)]
  exact store3 h0 hc
theorem laid_b1 {B : Nat} {w : World} {x x0 x1 x2 e : Value} {t : TypeId} (h1 : w.heap[B + 1]? = some (Obj.cells #[x] t (0, 0))) : (laid B x0 x1 x2 e w).heap[B + 1]? = some (Obj.cells #[e] t (0, 0)) := by
  unfold laid
  have := store3_far (u := w) (b := B) (k := B + 1) (x0 := x0) (x1 := x1) (x2 := x2) (by omega)
  rw [h1] at this
  simp [World.setCell, Array.getElem?_modify] at this ⊢
  exact ⟨_, this, rfl⟩
theorem laid_far {B k : Nat} {w : World} {x0 x1 x2 e : Value} (h0 : k ≠ B) (h1 : k ≠ B + 1) : (laid B x0 x1 x2 e w).heap[k]? = w.heap[k]? := by
  unfold laid
  rw [Below.heap_setCell _ _ _ _ h1, store3_far h0]
theorem laid_below {B : Nat} {w u : World} {x0 x1 x2 e : Value} (h : Below w.heap.size w u) (hB : w.heap.size ≤ B) : Below w.heap.size w (laid B x0 x1 x2 e u) :=
  ⟨h.os, h.tape, h.output, by have := h.size; simpa [laid, World.setCell] using this, fun k hk => (laid_far (by omega) (by omega)).trans (h.block k hk)⟩
theorem Sl.laid {S : Nat → Nat → Prop} {B : Nat} {w : World} {a : Option Addr} {t : T} {x0 x1 x2 e : Value} (h : Sl S w a t) (hl : ∀ b' o, S b' o → b' ≠ B ∧ b' ≠ B + 1) : Sl S (laid B x0 x1 x2 e w) a t := by
  refine ⟨h.1, ?_⟩
  have h2 := h.2
  cases a with
  | none => exact h2
  | some p =>
    refine ⟨h2.1, T.At.mono (fun _ _ h => h) (fun b' o hS _ => ?_) h2.2⟩
    exact laid_far (hl _ _ hS).1 (hl _ _ hS).2

theorem PS.storeRes {w : World} {y : Lay} {q b : Nat} {x0 x1 x2 : Value} (h : PS w y q) (g : w.heap[b]? = some (Obj.cells #[.int .i64 0, .int .i64 0, .slice none 0 0] 24 (0, 0))) :
    PS (((w.setCell ⟨b, 0, none⟩ x0).setCell ⟨b, 1, none⟩ x1).setCell ⟨b, 2, none⟩ x2) y q := by
  obtain ⟨g0, _, _⟩ := cells_of g
  have cell : ∀ k v, w.cell? ⟨k, 0, none⟩ = some v → v ≠ .int .i64 0 → (((w.setCell ⟨b, 0, none⟩ x0).setCell ⟨b, 1, none⟩ x1).setCell ⟨b, 2, none⟩ x2).cell? ⟨k, 0, none⟩ = some v := by
    intro k v hk hv
    have hn : k ≠ b := by
      intro e
      rw [e, g0] at hk
      exact hv (Option.some.inj hk).symm
    unfold World.cell? at hk ⊢
    simp only at hk ⊢
    rw [store3_far hn]
    exact hk
  have mp : ∀ (k : Nat) (es : Array MapEntry) (clk : Nat), w.heap[k]? = some (Obj.map es clk) → (((w.setCell ⟨b, 0, none⟩ x0).setCell ⟨b, 1, none⟩ x1).setCell ⟨b, 2, none⟩ x2).heap[k]? = some (Obj.map es clk) := by
    intro k es clk hk
    rw [store3_far (by intro e; rw [e, g] at hk; cases hk)]
    exact hk
  refine ⟨?_, cell _ _ h.hv (by intro e; cases e), ?_, ?_, ?_⟩
  · rw [store3_far (by intro e; have := h.hp; rw [e, g] at this; simp at this)]; exact h.hp
  · obtain ⟨es, clk, hm, ht⟩ := h.t1
    refine ⟨es, clk, mp _ _ _ hm, ht.keys, ht.x, ht.br, fun c hc => ?_, ht.others⟩
    obtain ⟨kb, h1, h2⟩ := ht.kinds c hc
    exact ⟨kb, h1, cell _ _ h2 (by rcases hc with rfl | rfl | rfl <;> simp [kindOf])⟩
  · obtain ⟨es, clk, hm, ht⟩ := h.t2
    exact ⟨es, clk, mp _ _ _ hm, ht⟩
  · obtain ⟨es, clk, hm, ht⟩ := h.t3
    refine ⟨es, clk, mp _ _ _ hm, ht.keys, fun c hc => ?_, ht.others⟩
    obtain ⟨kb, h1, h2⟩ := ht.kinds c hc
    exact ⟨kb, h1, cell _ _ h2 (by rcases hc with rfl | rfl <;> simp [kind2Of])⟩

theorem hdc_pk (l : List UInt8) : hdc (pk l) = 32 ↔ pk l = [] := by
  induction l with
  | nil => simp [pk, hdc]
  | cons c r ih =>
    by_cases h : c = 32
    · simp only [pk, h, if_true]; exact ih
    · simp only [pk, h, if_false, hdc]
      constructor
      · intro e
        exact absurd (by apply UInt8.toNat_inj.1; have : (32 : UInt8).toNat = 32 := rfl; omega) h
      · intro e; cases e

set_option maxRecDepth 100000 in
set_option maxHeartbeats 1600000 in
theorem parse_small (s : ByteArray) (w : World) (h : s.size ≤ 40000) (hk : Kinds w) : Calls Tryd.prog 22 #[.string s] w fun e w' => ∃ a cap, ParsePost s w e w' a cap := by
  have hz : 0 < w.heap.size := lt_of_cell (hk 0 _ rfl)
  have hmf : ∀ (fn : Fn) (first cap : Array Value) (w : World), (Instr.makeFunc fn first cap).run Tryd.prog w = .ok (.func fn first cap) w := fun _ _ _ _ => rfl
  obtain ⟨R, hR1⟩ : ∃ R : Ending → World → Prop, R = fun e w' => ∃ a cap, ParsePost s w e w' a cap := ⟨_, rfl⟩
  rw [← hR1]
  have HR1 := Lib.hid hR1
  clear hR1
  have hno : ¬ 40000 < s.size := by omega
  have hp : parseOf s = match exprT s.data.toList with
    | none => (zeroF, 11)
    | some (f, r) => if pk r = [] then (if valid f.k f.n f.t then (f, 0) else (zeroF, 10)) else (zeroF, 11) := by unfold parseOf; rw [if_neg hno]
  have HP := Lib.hid hp
  clear hp hno
  obtain ⟨W, hW⟩ : ∃ W : World, W = (w.alloc (Obj.cells #[.int .i64 0, .int .i64 0, .slice none 0 0] 24)).alloc (Obj.cells #[.int .i64 0] 29) := ⟨_, rfl⟩
  have hWb : Below w.heap.size w W := by rw [hW]; exact ((Below.refl _ _).alloc (Nat.le_refl _) _).alloc (by simp) _
  have hb0 : W.heap[w.heap.size]? = some (Obj.cells #[.int .i64 0, .int .i64 0, .slice none 0 0] 24 (0, 0)) := by rw [hW]; exact heap_old2 _ _ _
  have hb1 : W.heap[w.heap.size + 1]? = some (Obj.cells #[.int .i64 0] 29 (0, 0)) := by rw [hW]; exact heap_new2 _ _ _
  have hsz : W.heap.size = w.heap.size + 2 := by rw [hW]; simp
  have HSZ := Lib.hid hsz
  clear hsz
  have h' : ¬ (40000 : Int) < s.size := by omega
  go_enter_defers Tryd.func22, Tryd.ntmps22
  go_wp2_with fail
  rw [← hW]
  clear hW
  refine (newParser_any s W).mono ?_
  rintro e w1 ⟨y, rfl, hys, hpb, hps, hbl⟩
  have HYS := Lib.hid hys
  have HPB := Lib.hid hpb
  clear hys hpb
  go_wp2_with fail
  refine (expression_any y (by rw [HYS.out]; omega) w1 hps).mono ?_
  rw [HYS.out]
  obtain ⟨m, hm0⟩ : ∃ m, m = exprT s.data.toList := ⟨_, rfl⟩
  rw [← hm0]
  have HM0 := Lib.hid hm0
  clear hm0
  refine fun e w2 he => ?_
  rcases (show m = none ∨ ∃ p, m = some p by cases m <;> simp) with hm1 | ⟨p, hm1⟩
  · rw [hm1] at he
    obtain ⟨rfl, ho⟩ := he
    have hBl1 : Below w.heap.size w w1 := hWb.trans (hbl.mono (by have := HSZ.out; omega))
    have hpbw : w.heap.size + 2 ≤ y.pb := by rw [HPB.out, HSZ.out]; exact Nat.le_refl _
    have k0 : w2.heap[w.heap.size]? = some (Obj.cells #[.int .i64 0, .int .i64 0, .slice none 0 0] 24 (0, 0)) := by
      rw [ho.block _ (by have := hbl.size; have := HSZ.out; omega) (by omega), hbl.block _ (by have := HSZ.out; omega)]; exact hb0
    have k1 : w2.heap[w.heap.size + 1]? = some (Obj.cells #[.int .i64 0] 29 (0, 0)) := by
      rw [ho.block _ (by have := hbl.size; have := HSZ.out; omega) (by omega), hbl.block _ (by have := HSZ.out; omega)]; exact hb1
    have hBl2 : Below w.heap.size w w2 := ⟨ho.os.trans hBl1.os, ho.tape.trans hBl1.tape, ho.output.trans hBl1.output, Nat.le_trans hBl1.size ho.size, fun k hk => (ho.block k (by have := hBl1.size; omega) (by omega)).trans (hBl1.block k hk)⟩
    refine door_panic rfl rfl k0 rfl k1 ?_
    rw [HR1.out]
    have hq : parseOf s = (zeroF, 11) := by rw [HP.out, ← HM0.out, hm1]
    exact ⟨none, 0, by rw [hq], by rw [hq]; exact ⟨by simp [zeroF, T.len], rfl⟩, caught_below hBl2 (Nat.le_refl _)⟩
  · rw [hm1] at he
    have HM1 := Lib.hid hm1
    clear hm1
    obtain ⟨a, cap, q1, rfl, hsl1, hq1, ht1, hp2, ho⟩ := he
    have hBl1 : Below w.heap.size w w1 := hWb.trans (hbl.mono (by have := HSZ.out; omega))
    have hpbw : w.heap.size + 2 ≤ y.pb := by rw [HPB.out, HSZ.out]; exact Nat.le_refl _
    have k0 : w2.heap[w.heap.size]? = some (Obj.cells #[.int .i64 0, .int .i64 0, .slice none 0 0] 24 (0, 0)) := by
      rw [ho.block _ (by have := hbl.size; have := HSZ.out; omega) (by omega), hbl.block _ (by have := HSZ.out; omega)]; exact hb0
    have k1 : w2.heap[w.heap.size + 1]? = some (Obj.cells #[.int .i64 0] 29 (0, 0)) := by
      rw [ho.block _ (by have := hbl.size; have := HSZ.out; omega) (by omega), hbl.block _ (by have := HSZ.out; omega)]; exact hb1
    have hBl2 : Below w.heap.size w w2 := ⟨ho.os.trans hBl1.os, ho.tape.trans hBl1.tape, ho.output.trans hBl1.output, Nat.le_trans hBl1.size ho.size, fun k hk => (ho.block k (by have := hBl1.size; omega) (by omega)).trans (hBl1.block k hk)⟩
    have hw1s := hps.lt
    obtain ⟨b0, b1, b2⟩ := cells_of k0
    have bz := fun o => frozen_of (o := o) k0
    obtain ⟨W3, hW3⟩ : ∃ W3, W3 = ((w2.setCell ⟨w.heap.size, 0, none⟩ (.int .i64 p.1.k)).setCell ⟨w.heap.size, 1, none⟩ (.int .i64 p.1.n)).setCell ⟨w.heap.size, 2, none⟩ (.slice a p.1.t.len cap) := ⟨_, rfl⟩
    have m0 : W3.heap[w.heap.size]? = some (Obj.cells #[.int .i64 p.1.k, .int .i64 p.1.n, .slice a p.1.t.len cap] 24 (0, 0)) := by rw [hW3]; exact store3 k0 rfl
    have far3 : ∀ k, k ≠ w.heap.size → W3.heap[k]? = w2.heap[k]? := by intro k hk; rw [hW3]; exact store3_far hk
    have m1 : W3.heap[w.heap.size + 1]? = some (Obj.cells #[.int .i64 0] 29 (0, 0)) := (far3 _ (by omega)).trans k1
    have hBl3 : Below w.heap.size w W3 := by
      refine ⟨?_, ?_, ?_, ?_, fun k hk => (far3 k (by omega)).trans (hBl2.block k hk)⟩
      · rw [hW3]; exact hBl2.os
      · rw [hW3]; exact hBl2.tape
      · rw [hW3]; exact hBl2.output
      · rw [hW3]; have := hBl2.size; simpa [World.setCell] using this
    have hsz3 : W3.heap.size = w2.heap.size := by rw [hW3]; simp [World.setCell]
    have hsl3 : Sl (SP w1.heap.size) W3 a p.1.t := by
      rw [hW3]
      exact hsl1.store3 (fun b o h => by have := h.1; have := hBl1.size; omega)
    have hp3 : PS W3 y q1 := by rw [hW3]; exact hp2.storeRes k0
    go_wp2_with fail
    rw [← hW3]
    clear hW3 b0 b1 b2 bz k0 k1 far3 hsl1 hp2 hb0 hb1
    by_cases hc : hdc (pk p.2) = 32
    · refine (take_ok y q1 32 W3 hq1 (by rw [HYS.out]; omega) hp3 (by rw [ht1]; exact hc)).mono ?_
      have hpk : pk p.2 = [] := (hdc_pk _).1 hc
      have HPK := Lib.hid hpk
      clear hc hpk ht1
      rintro e w4 ⟨rfl, ⟨q2, hq2, ht2, hp4⟩, ho4⟩
      clear ht2
      have n0 : w4.heap[w.heap.size]? = some (Obj.cells #[.int .i64 p.1.k, .int .i64 p.1.n, .slice a p.1.t.len cap] 24 (0, 0)) := by rw [ho4.block _ (heap_lt m0) (by omega)]; exact m0
      have n1 : w4.heap[w.heap.size + 1]? = some (Obj.cells #[.int .i64 0] 29 (0, 0)) := by rw [ho4.block _ (heap_lt m1) (by omega)]; exact m1
      have hBl4 : Below w.heap.size w w4 := ⟨ho4.os.trans hBl3.os, ho4.tape.trans hBl3.tape, ho4.output.trans hBl3.output, Nat.le_trans hBl3.size ho4.size, fun k hk => (ho4.block k (by have := hBl3.size; omega) (by omega)).trans (hBl3.block k hk)⟩
      have hsl4 : Sl (SP w1.heap.size) w4 a p.1.t := hsl3.oth (fun _ _ => sp_ne hw1s) ho4
      obtain ⟨c0, c1, c2⟩ := cells_of n0
      go_wp2_with fail
      refine (check_any _ p.1.t p.1.k p.1.n a cap w4 hsl4 (hk.below hBl4)).mono ?_
      rintro e w5 ⟨rfl, hb5⟩
      have r0 : w5.heap[w.heap.size]? = some (Obj.cells #[.int .i64 p.1.k, .int .i64 p.1.n, .slice a p.1.t.len cap] 24 (0, 0)) := by rw [hb5.block _ (heap_lt n0)]; exact n0
      have r1 : w5.heap[w.heap.size + 1]? = some (Obj.cells #[.int .i64 0] 29 (0, 0)) := by rw [hb5.block _ (heap_lt n1)]; exact n1
      have hBl5 : Below w.heap.size w w5 := hBl4.trans (hb5.mono hBl4.size)
      have hsl5 := hsl4.below hb5
      have g1 : w5.cell? ⟨w.heap.size + 1, 0, none⟩ = some (.int .i64 0) := cells1_of r1
      have f1 : w5.frozen? ⟨w.heap.size + 1, 0, none⟩ = false := frozen_of r1
      obtain ⟨b0, b1, b2⟩ := cells_of r0
      have bz := fun o => frozen_of (o := o) r0
      clear c0 c1 c2 n0 n1 m0 m1
      cases hv : valid p.1.k p.1.n p.1.t
      · have hq : parseOf s = (zeroF, 10) := by rw [HP.out, ← HM0.out, HM1.out]; simp only [HPK.out, if_true, hv]; rfl
        have HQ := Lib.hid hq
        have hfa : faultOf p.1.k p.1.n p.1.t = 10 := by unfold faultOf; rw [hv]; rfl
        rw [hfa]
        clear hv hq hfa
        go_wp2_with fail
        refine door_ret rfl rfl (laid_b0 (x0 := .int .i64 0) (x1 := .int .i64 0) (x2 := .slice none 0 0) (e := .int .i64 10) r0 rfl) (laid_b1 r1) ?_
        rw [HR1.out]
        exact ⟨none, 0, by rw [HQ.out]; rfl, by rw [HQ.out]; exact ⟨by simp [zeroF, T.len], rfl⟩, laid_below hBl5 (Nat.le_refl _)⟩
      · have hq : parseOf s = (p.1, 0) := by rw [HP.out, ← HM0.out, HM1.out]; simp only [HPK.out, if_true, hv]
        have HQ := Lib.hid hq
        have hfa : faultOf p.1.k p.1.n p.1.t = 0 := by unfold faultOf; rw [hv]; rfl
        rw [hfa]
        clear hv hq hfa
        go_wp2_with fail
        refine door_ret rfl rfl (laid_b0 (x0 := .int .i64 p.1.k) (x1 := .int .i64 p.1.n) (x2 := .slice a p.1.t.len cap) (e := .int .i64 0) r0 rfl) (laid_b1 r1) ?_
        rw [HR1.out]
        refine ⟨a, cap, by rw [HQ.out], ?_, laid_below hBl5 (Nat.le_refl _)⟩
        rw [HQ.out]
        exact (hsl5.laid (fun b o h => by have := h.1; omega)).weaken (fun _ _ => sp_le (by omega))
    · refine (take_no y q1 32 W3 hq1 (by rw [HYS.out]; omega) hp3 (by rw [ht1]; exact hc)).mono ?_
      have hpk : ¬ pk p.2 = [] := fun e => hc ((hdc_pk _).2 e)
      rintro e w4 ⟨rfl, ho4⟩
      have n0 : w4.heap[w.heap.size]? = some (Obj.cells #[.int .i64 p.1.k, .int .i64 p.1.n, .slice a p.1.t.len cap] 24 (0, 0)) := by rw [ho4.block _ (heap_lt m0) (by omega)]; exact m0
      have n1 : w4.heap[w.heap.size + 1]? = some (Obj.cells #[.int .i64 0] 29 (0, 0)) := by rw [ho4.block _ (heap_lt m1) (by omega)]; exact m1
      have hBl4 : Below w.heap.size w w4 := ⟨ho4.os.trans hBl3.os, ho4.tape.trans hBl3.tape, ho4.output.trans hBl3.output, Nat.le_trans hBl3.size ho4.size, fun k hk => (ho4.block k (by have := hBl3.size; omega) (by omega)).trans (hBl3.block k hk)⟩
      refine door_panic rfl rfl n0 rfl n1 ?_
      rw [HR1.out]
      have hq : parseOf s = (zeroF, 11) := by rw [HP.out, ← HM0.out, HM1.out]; simp only [hpk, if_false]
      exact ⟨none, 0, by rw [hq], by rw [hq]; exact ⟨by simp [zeroF, T.len], rfl⟩, caught_below hBl4 (Nat.le_refl _)⟩
end Go.Proofs.YtioimhnebjiicaaDoor
