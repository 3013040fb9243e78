/-
  Proved here: a step towards the statements of chapter 1 (functors): what one of its functions does at each input.
-/
import Derived.Test.YtioimhnebjiicaaDoorParL
namespace Go.Proofs.YtioimhnebjiicaaDoor
open Go.RowKit

theorem findNow_none (c : Int) : ∀ (es : List MapEntry) (i : Nat), byteKeys es → look es c = none → Instr.findNow (.int .u8) (.int .u8 c) es i = some none := by
  intro es i hb hl
  obtain ⟨r, h1, h2⟩ := findNow_look c es i hb
  rw [hl] at h2
  cases r with
  | none => exact h1
  | some p => cases h2

theorem look_push (es : List MapEntry) (k : Int) (v : Value) (b : Nat) (c : Int) (hb : byteKeys es) (hn : look es k = none) :
    look (es ++ [{ key := .int .u8 k, val := v, born := b }]) c = if c = k then some v else look es c := by
  induction es with
  | nil => simp [look]
  | cons e es ih =>
    obtain ⟨n, hk⟩ := hb e (List.mem_cons_self ..)
    have hb' : byteKeys es := fun x hx => hb x (List.mem_cons_of_mem _ hx)
    simp only [List.cons_append, look, hk] at hn ⊢
    by_cases hkn : k = n
    · rw [if_pos hkn] at hn; cases hn
    · rw [if_neg hkn] at hn
      rw [ih hb' hn]
      by_cases hcn : c = n
      · rw [if_pos hcn, if_neg (by omega)]
        rw [if_pos hcn]
      · rw [if_neg hcn, if_neg hcn]

theorem run_insert {P : Program} {w : World} {mt kt et : TypeId} {m : Nat} {es : Array MapEntry} {clk : Nat} {k : Int} {v : Value} (ht : P.underlying mt = some (.map kt et)) (hk : P.underlying kt = some (.int .u8))
    (hm : w.heap[m]? = some (.map es clk)) (hb : byteKeys es.toList) (hn : look es.toList k = none) :
    (Instr.mapUpdate mt (.map (some m)) (.int .u8 k) v).run P w = .ok () (ChangeMaps.setBlock w m (.map (es.push { key := .int .u8 k, val := v, born := clk }) (clk + 1))) := by
  have hc := fun b => run_checkByte (w := w) b 9999 k hk
  have h1 := findNow_none k es.toList 0 hb hn
  simp [Instr.mapUpdate, run_underlying ht, run_underlying hk, MapKept.run_getObj_map hm, hc, Instr.findKey, h1, MapKept.run_setObj_map _ hm, Result.andThen, ChangeMaps.setBlock]

set_option maxHeartbeats 400000 in
theorem mk47_any (y : Value) (k : Int) (w : World) : Calls Tryd.prog 46 #[.int .i64 k, y] w fun e w' => e = .returned (.func (.func 47) #[] #[y, .pointer (some ⟨w.heap.size, 0, none⟩)]) ∧ w' = w.alloc (.cells #[.int .i64 k] 3) := by
  have hmf : ∀ (fn : Fn) (first cap : Array Value) (w : World), (Instr.makeFunc fn first cap).run Tryd.prog w = .ok (.func fn first cap) w := fun _ _ _ _ => rfl
  go_enter Tryd.func46, Tryd.ntmps46
  go_wp2_with fail
  go_ret
  exact ⟨rfl, rfl⟩
set_option maxHeartbeats 400000 in
theorem mk50_any (y : Value) (k : Int) (w : World) : Calls Tryd.prog 49 #[.int .i64 k, y] w fun e w' => e = .returned (.func (.func 50) #[] #[.pointer (some ⟨w.heap.size, 0, none⟩), y]) ∧ w' = w.alloc (.cells #[.int .i64 k] 3) := by
  have hmf : ∀ (fn : Fn) (first cap : Array Value) (w : World), (Instr.makeFunc fn first cap).run Tryd.prog w = .ok (.func fn first cap) w := fun _ _ _ _ => rfl
  go_enter Tryd.func49, Tryd.ntmps49
  go_wp2_with fail
  go_ret
  exact ⟨rfl, rfl⟩
end Go.Proofs.YtioimhnebjiicaaDoor
