/-
  Proved here: a step towards the statements of chapter 1 (functors): what one of its functions does at each input.
-/
import Derived.Test.YtioimhnebjiicaaDoorRefE
import Derived.Maps.Own
namespace Go.Proofs.YtioimhnebjiicaaDoor
open Go.RowKit

/-- What a map with keys of type byte holds at a key. -/
def look : List MapEntry → Int → Option Value
  | [], _ => none
  | e :: es, c => match e.key with
    | .int _ n => if c = n then some e.val else look es c
    | _ => none

def byteKeys (es : List MapEntry) : Prop := ∀ e ∈ es, ∃ n, e.key = .int .u8 n


theorem findNow_look (c : Int) : ∀ (es : List MapEntry) (i : Nat), byteKeys es →
    ∃ r, Instr.findNow (.int .u8) (.int .u8 c) es i = some r ∧ r.map (·.2) = look es c
  | [], i, _ => ⟨none, rfl, rfl⟩
  | e :: es, i, h => by
    obtain ⟨n, hn⟩ := h e (List.mem_cons_self ..)
    obtain ⟨r, h1, h2⟩ := findNow_look c es (i + 1) (fun x hx => h x (List.mem_cons_of_mem _ hx))
    by_cases hc : c = n
    · subst hc
      exact ⟨some (i, e.val), by simp [Instr.findNow, hn, Instr.sameNow], by simp [look, hn]⟩
    · refine ⟨r, ?_, by simp [look, hn, hc, h2]⟩
      have : (c == n) = false := by simpa using hc
      simp [Instr.findNow, hn, Instr.sameNow, this, h1]

theorem run_checkByte {P : Program} {w : World} {kt : TypeId} (b : Bool) (n : Nat) (c : Int) (hk : P.underlying kt = some (.int .u8)) : (Instr.checkKey b (n + 1) kt (.int .u8 c)).run P w = .ok () w := by
  simp [Instr.checkKey, run_underlying hk]

theorem run_look {P : Program} {w : World} {mt kt et : TypeId} {m : Nat} {es : Array MapEntry} {clk : Nat} {c : Int} {z : Value} (ht : P.underlying mt = some (.map kt et)) (hk : P.underlying kt = some (.int .u8))
    (hz : (zeroValue et).run P w = .ok z w) (hm : w.heap[m]? = some (.map es clk)) (hb : byteKeys es.toList) :
    (Instr.lookup mt (.map (some m)) (.int .u8 c) true).run P w = .ok (.tuple #[(look es.toList c).getD z, .bool (look es.toList c).isSome]) w := by
  obtain ⟨r, h1, h2⟩ := findNow_look c es.toList 0 hb
  rw [← h2]
  have hc := fun b => run_checkByte (w := w) b 9999 c hk
  cases r with
  | none => simp [Instr.lookup, run_underlying ht, run_underlying hk, MapKept.run_getObj_map hm, hc, Instr.findKey, h1, hz, Result.andThen]
  | some p => simp [Instr.lookup, run_underlying ht, run_underlying hk, MapKept.run_getObj_map hm, hc, Instr.findKey, h1, Result.andThen]

/-- Of the blocks that were there, none but block pb has turned. -/
structure Oth (pb : Nat) (w w' : World) : Prop where
  os : w'.os = w.os
  tape : w'.tape = w.tape
  output : w'.output = w.output
  size : w.heap.size ≤ w'.heap.size
  block : ∀ k, k < w.heap.size → k ≠ pb → w'.heap[k]? = w.heap[k]?

theorem Oth.refl (pb : Nat) (w : World) : Oth pb w w := ⟨rfl, rfl, rfl, Nat.le_refl _, fun _ _ _ => rfl⟩
theorem Oth.trans {pb : Nat} {a b c : World} (h : Oth pb a b) (k : Oth pb b c) : Oth pb a c :=
  ⟨k.os.trans h.os, k.tape.trans h.tape, k.output.trans h.output, Nat.le_trans h.size k.size, fun i hi hn => (k.block i (Nat.lt_of_lt_of_le hi h.size) hn).trans (h.block i hi hn)⟩
theorem Oth.below {pb : Nat} {a b c : World} (h : Oth pb a b) (k : Below b.heap.size b c) : Oth pb a c :=
  h.trans ⟨k.os, k.tape, k.output, k.size, fun i hi _ => k.block i hi⟩
theorem Oth.drew {pb : Nat} {a w : World} (h : Oth pb a w) : Oth pb a w.drew := ⟨h.os, h.tape, h.output, h.size, h.block⟩
theorem Oth.drewN {pb n : Nat} {a w : World} (h : Oth pb a w) : Oth pb a (w.drewN n) := ⟨h.os, h.tape, h.output, h.size, h.block⟩
theorem Oth.alloc {pb : Nat} {a w : World} (h : Oth pb a w) (o : Obj) : Oth pb a (w.alloc o) :=
  h.trans ⟨rfl, rfl, rfl, by simp, fun k hk _ => Below.heap_alloc _ _ _ hk⟩
theorem Oth.set {pb : Nat} {a w : World} (h : Oth pb a w) (o : Nat) (v : Value) : Oth pb a (w.setCell ⟨pb, o, none⟩ v) :=
  h.trans ⟨rfl, rfl, rfl, by simp [World.setCell], fun k _ hn => Below.heap_setCell _ _ _ _ hn⟩
theorem Oth.setNew {pb : Nat} {a w : World} (h : Oth pb a w) {p : Addr} (hp : a.heap.size ≤ p.block) (v : Value) : Oth pb a (w.setCell p v) :=
  ⟨h.os, h.tape, h.output, by have := h.size; simpa [World.setCell] using this, fun k hk hn => by rw [Below.heap_setCell _ _ _ _ (by omega)]; exact h.block k hk hn⟩
/-- What lies apart from block pb: nothing below has turned if pb is new. -/
theorem Oth.toBelow {pb : Nat} {w w' : World} (h : Oth pb w w') (hpb : w.heap.size ≤ pb) : Below w.heap.size w w' :=
  ⟨h.os, h.tape, h.output, h.size, fun k hk => h.block k hk (by omega)⟩
theorem Oth.cell {pb : Nat} {w w' : World} (h : Oth pb w w') {b o : Nat} {v : Value} (hb : b ≠ pb) (hc : w.cell? ⟨b, o, none⟩ = some v) : w'.cell? ⟨b, o, none⟩ = some v := by
  have := lt_of_cell hc
  unfold World.cell? at hc ⊢
  rw [h.block b this hb]; exact hc

/-- Where a parser and its tables lie. -/
structure Lay where
  pb : Nat
  vb : Nat
  m1 : Nat
  m2 : Nat
  m3 : Nat
  s : ByteArray

abbrev Lay.var (y : Lay) : Value := .pointer (some ⟨y.vb, 0, none⟩)
abbrev Lay.ptr (y : Lay) : Value := .pointer (some ⟨y.pb, 0, none⟩)
abbrev Lay.cells (y : Lay) (q : Nat) : Obj := .cells #[.string y.s, .int .i64 q, .map (some y.m1), .map (some y.m2), .map (some y.m3)] 71 (0, 0)

def kindOf (c : Int) : Int := if c = 80 then 5 else if c = 66 then 6 else 7
def kind2Of (c : Int) : Int := if c = 42 then 2 else 3

structure Tab1 (w : World) (y : Lay) (es : List MapEntry) : Prop where
  keys : byteKeys es
  x : look es 88 = some (.func (.func 52) #[] #[])
  br : look es 40 = some (.func (.func 48) #[y.ptr] #[])
  kinds : ∀ c, c = 80 ∨ c = 66 ∨ c = 68 → ∃ kb, look es c = some (.func (.func 47) #[] #[y.var, .pointer (some ⟨kb, 0, none⟩)]) ∧ w.cell? ⟨kb, 0, none⟩ = some (.int .i64 (kindOf c))
  others : ∀ c, c ≠ 88 → c ≠ 40 → c ≠ 80 → c ≠ 66 → c ≠ 68 → look es c = none

structure Tab2 (y : Lay) (es : List MapEntry) : Prop where
  keys : byteKeys es
  pow : look es 94 = some (.func (.func 53) #[] #[y.var])
  others : ∀ c, c ≠ 94 → look es c = none

structure Tab3 (w : World) (y : Lay) (es : List MapEntry) : Prop where
  keys : byteKeys es
  kinds : ∀ c, c = 42 ∨ c = 43 → ∃ kb, look es c = some (.func (.func 50) #[] #[.pointer (some ⟨kb, 0, none⟩), y.var]) ∧ w.cell? ⟨kb, 0, none⟩ = some (.int .i64 (kind2Of c))
  others : ∀ c, c ≠ 42 → c ≠ 43 → look es c = none

structure PS (w : World) (y : Lay) (q : Nat) : Prop where
  hp : w.heap[y.pb]? = some (y.cells q)
  hv : w.cell? ⟨y.vb, 0, none⟩ = some y.ptr
  t1 : ∃ es clk, w.heap[y.m1]? = some (.map es clk) ∧ Tab1 w y es.toList
  t2 : ∃ es clk, w.heap[y.m2]? = some (.map es clk) ∧ Tab2 y es.toList
  t3 : ∃ es clk, w.heap[y.m3]? = some (.map es clk) ∧ Tab3 w y es.toList

theorem heap_lt {w : World} {k : Nat} {o : Obj} (h : w.heap[k]? = some o) : k < w.heap.size := by
  by_cases hk : k < w.heap.size
  · exact hk
  · simp [Array.getElem?_eq_none (Nat.le_of_not_lt hk)] at h

theorem PS.lt {w : World} {y : Lay} {q : Nat} (h : PS w y q) : y.pb < w.heap.size := heap_lt h.hp
theorem PS.c0 {w : World} {y : Lay} {q : Nat} (h : PS w y q) : w.cell? ⟨y.pb, 0, none⟩ = some (.string y.s) := by simp [World.cell?, h.hp]
theorem PS.c1 {w : World} {y : Lay} {q : Nat} (h : PS w y q) : w.cell? ⟨y.pb, 1, none⟩ = some (.int .i64 q) := by simp [World.cell?, h.hp]
theorem PS.c2 {w : World} {y : Lay} {q : Nat} (h : PS w y q) : w.cell? ⟨y.pb, 2, none⟩ = some (.map (some y.m1)) := by simp [World.cell?, h.hp]
theorem PS.c3 {w : World} {y : Lay} {q : Nat} (h : PS w y q) : w.cell? ⟨y.pb, 3, none⟩ = some (.map (some y.m2)) := by simp [World.cell?, h.hp]
theorem PS.c4 {w : World} {y : Lay} {q : Nat} (h : PS w y q) : w.cell? ⟨y.pb, 4, none⟩ = some (.map (some y.m3)) := by simp [World.cell?, h.hp]
theorem PS.f1 {w : World} {y : Lay} {q : Nat} (h : PS w y q) : w.frozen? ⟨y.pb, 1, none⟩ = false := by simp [World.frozen?, h.hp]

theorem PS.vb_ne {w : World} {y : Lay} {q : Nat} (h : PS w y q) : y.vb ≠ y.pb := by
  intro e
  have h1 := h.hv
  rw [e, h.c0] at h1
  cases h1

theorem PS.oth {w w' : World} {y : Lay} {q q' : Nat} (h : PS w y q) (ho : Oth y.pb w w') (hp : w'.heap[y.pb]? = some (y.cells q')) : PS w' y q' := by
  have kb_ne : ∀ kb n, w.cell? ⟨kb, 0, none⟩ = some (.int .i64 n) → kb ≠ y.pb := by
    intro kb n hc e
    rw [e, h.c0] at hc
    cases hc
  have m_ne : ∀ m es clk, w.heap[m]? = some (.map es clk) → m ≠ y.pb := by
    intro m es clk hm e
    rw [e, h.hp] at hm
    cases hm
  refine ⟨hp, ho.cell h.vb_ne h.hv, ?_, ?_, ?_⟩
  · obtain ⟨es, clk, hm, ht⟩ := h.t1
    refine ⟨es, clk, by rw [ho.block _ (heap_lt hm) (m_ne _ _ _ hm)]; exact hm, ht.keys, ht.x, ht.br, fun c hc => ?_, ht.others⟩
    obtain ⟨kb, h1, h2⟩ := ht.kinds c hc
    exact ⟨kb, h1, ho.cell (kb_ne _ _ h2) h2⟩
  · obtain ⟨es, clk, hm, ht⟩ := h.t2
    exact ⟨es, clk, by rw [ho.block _ (heap_lt hm) (m_ne _ _ _ hm)]; exact hm, ht⟩
  · obtain ⟨es, clk, hm, ht⟩ := h.t3
    refine ⟨es, clk, by rw [ho.block _ (heap_lt hm) (m_ne _ _ _ hm)]; exact hm, ht.keys, fun c hc => ?_, ht.others⟩
    obtain ⟨kb, h1, h2⟩ := ht.kinds c hc
    exact ⟨kb, h1, ho.cell (kb_ne _ _ h2) h2⟩

theorem PS.below {w w' : World} {y : Lay} {q : Nat} (h : PS w y q) (hb : Below w.heap.size w w') : PS w' y q :=
  h.oth ⟨hb.os, hb.tape, hb.output, hb.size, fun k hk _ => hb.block k hk⟩ (by rw [hb.block _ h.lt]; exact h.hp)

theorem PS.set {w : World} {y : Lay} {q q' : Nat} (h : PS w y q) : PS (w.setCell ⟨y.pb, 1, none⟩ (.int .i64 q')) y q' :=
  h.oth ((Oth.refl _ _).set _ _) (by
    simp only [World.setCell, Array.getElem?_modify, if_true, h.hp, Option.map_some]
    simp)

theorem PS.drewN {w : World} {y : Lay} {q n : Nat} (h : PS w y q) : PS (w.drewN n) y q :=
  h.oth ((Oth.refl _ _).drewN) h.hp

/-- What is left of a text behind its leading blanks, and its next byte (a blank at the end). -/
def pk : List UInt8 → List UInt8
  | [] => []
  | c :: r => if c = 32 then pk r else c :: r
def hdc : List UInt8 → Int
  | [] => 32
  | c :: _ => c.toNat

theorem drop_cons {l : List UInt8} {q : Nat} (h : q < l.length) : l.drop q = l[q] :: l.drop (q + 1) := by
  rw [List.drop_eq_getElem_cons h]

end Go.Proofs.YtioimhnebjiicaaDoor
