/-
  Proved here: where the listed variables read as the statement tells them, the table of the kinds holds the eight rows.
-/
import Derived.Test.YtioimhnebjiicaaDoorShut
namespace Go.Proofs.YtioimhnebjiicaaDoor
open Go.ChangeShapes Go.WideShapes Go.ChangeAt Go.RowKit

theorem cells65 : Tryd.prog.cellsOf 65 = 4 := by kernel_rfl
theorem cells9 : Tryd.prog.cellsOf 9 = 1 := by kernel_rfl
theorem cells66 : Tryd.prog.cellsOf 66 = 32 := by kernel_rfl

set_option maxRecDepth 100000 in
theorem kind_elem {H : Type} {enc : TypeId × Value → H} {W : World} {sp : Nat → Bool} {hd : Bool} {m : Nat} {cs : List Value} {x : DataW H × List MemPlace} {a b c : Int} {s : List UInt8}
    (h : DataW.trod enc Tryd.prog W 0 sp hd m 65 cs = some x) (hx : x.1 = .agg [.lit (.int .i64 a), .lit (.int .i64 b), .lit (.int .i64 c), .lit (.string s)]) :
    cs = [.int .i64 a, .int .i64 b, .int .i64 c, .string ⟨s.toArray⟩] := by
  obtain ⟨xs, n, rfl, rfl, hl, hxl, hf⟩ := DataW.trod_struct Tryd.underlying65 h
  have hxl4 : xs.length = 4 := hxl
  rw [cells65] at hl
  match cs, hl with
  | [c0, c1, c2, c3], _ =>
    match xs, hxl4 with
    | [x0, x1, x2, x3], _ =>
      have f0 := hf 0 _ rfl
      have f1 := hf 1 _ rfl
      have f2 := hf 2 _ rfl
      have f3 := hf 3 _ rfl
      simp only [List.map_cons, List.map_nil, DataW.agg.injEq, List.cons.injEq, and_true] at hx
      obtain ⟨h0, h1, h2, h3⟩ := hx
      obtain ⟨k0, e0, y0, _⟩ := DataW.trod_int (x := x0) Tryd.underlying3 f0
      obtain ⟨k1, e1, y1, _⟩ := DataW.trod_int (x := x1) Tryd.underlying3 f1
      obtain ⟨k2, e2, y2, _⟩ := DataW.trod_int (x := x2) Tryd.underlying3 f2
      obtain ⟨k3, e3, y3, _⟩ := DataW.trod_string (x := x3) Tryd.underlying9 f3
      have q0 : List.take (Tryd.prog.cellsOf 3) [c0, c1, c2, c3] = [.int .i64 k0] := e0
      have q1 : List.take (Tryd.prog.cellsOf 3) [c1, c2, c3] = [.int .i64 k1] := e1
      have q2 : List.take (Tryd.prog.cellsOf 3) [c2, c3] = [.int .i64 k2] := e2
      have q3 : List.take (Tryd.prog.cellsOf 9) [c3] = [.string k3] := e3
      rw [Tryd.cells3] at q0 q1 q2
      rw [cells9] at q3
      simp at q0 q1 q2 q3
      subst q0 q1 q2 q3 y0 y1 y2 y3
      simp at h0 h1 h2 h3
      subst h0 h1 h2 h3
      simp

set_option maxRecDepth 100000 in
theorem kinds_of_laid {W : World} (h : laidMetH Tryd.prog laids W) : Kinds W := by
  rw [MakeChecks.laidMetH_plain _ _ _ (by kernel_rfl)] at h
  obtain ⟨ps, ⟨_, _, _, _, _, _, _, _, _, _, ⟨_, _, _, _, _, _, _, _, _, _, ⟨_, _, _, _, _, _, _, _, _, _, ⟨g, t, cs, f, p, q, hg, ht, hv, hd, _, _⟩, _⟩, _⟩, _⟩, _, _⟩ := h
  obtain rfl := Option.some.inj (gKinds.symm.trans hg)
  obtain rfl := Option.some.inj (tKinds.symm.trans ht)
  obtain ⟨xs, m, rfl, hx, hlen, hn, hel⟩ := DataW.trod_array Tryd.underlying66 hd
  simp only [Prod.mk.injEq, Rows.laid_ectype_functor_kinds, DataW.agg.injEq] at hx
  rw [cells66] at hlen
  obtain ⟨l⟩ := cs
  have hl : l.length = 32 := hlen
  match xs, hn with
  | [x0, x1, x2, x3, x4, x5, x6, x7], _ =>
    simp only [List.map_cons, List.map_nil, List.cons.injEq, and_true] at hx
    obtain ⟨⟨h0, h1, h2, h3, h4, h5, h6, h7⟩, _⟩ := hx
    have e0 := kind_elem (x := x0) (hel 0 (by decide)) h0.symm
    have e1 := kind_elem (x := x1) (hel 1 (by decide)) h1.symm
    have e2 := kind_elem (x := x2) (hel 2 (by decide)) h2.symm
    have e3 := kind_elem (x := x3) (hel 3 (by decide)) h3.symm
    have e4 := kind_elem (x := x4) (hel 4 (by decide)) h4.symm
    have e5 := kind_elem (x := x5) (hel 5 (by decide)) h5.symm
    have e6 := kind_elem (x := x6) (hel 6 (by decide)) h6.symm
    have e7 := kind_elem (x := x7) (hel 7 (by decide)) h7.symm
    rw [cells65] at e0 e1 e2 e3 e4 e5 e6 e7
    have hcs : l = kcell := by
      have s : l = List.take 4 (List.drop (0 * 4) l) ++ (List.take 4 (List.drop (1 * 4) l) ++ (List.take 4 (List.drop (2 * 4) l) ++ (List.take 4 (List.drop (3 * 4) l) ++ (List.take 4 (List.drop (4 * 4) l) ++ (List.take 4 (List.drop (5 * 4) l) ++ (List.take 4 (List.drop (6 * 4) l) ++ List.take 4 (List.drop (7 * 4) l))))))) := by
        have key : ∀ k, List.drop (k * 4) l = List.take 4 (List.drop (k * 4) l) ++ List.drop ((k + 1) * 4) l := fun k => by
          rw [show (k + 1) * 4 = k * 4 + 4 by omega, ← List.drop_drop]
          exact (List.take_append_drop 4 _).symm
        have last : List.take 4 (List.drop (7 * 4) l) = List.drop (7 * 4) l := List.take_of_length_le (by simp [hl])
        rw [last, ← key 6, ← key 5, ← key 4, ← key 3, ← key 2, ← key 1, ← key 0]
        simp
      rw [s]
      dsimp only at e0 e1 e2 e3 e4 e5 e6 e7
      rw [e0, e1, e2, e3, e4, e5, e6, e7]
      rfl
    intro i v hi
    rw [World.var?_cell hg hv i]
    subst hcs
    simpa using hi
end Go.Proofs.YtioimhnebjiicaaDoor
