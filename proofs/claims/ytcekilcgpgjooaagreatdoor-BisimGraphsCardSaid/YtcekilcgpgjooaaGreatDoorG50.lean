/-
  Proved here: for each two systems and each two lists of numbers, BisimGraphs returns true, and its arguments read behind the call as before; the listed package-level variable is tied to the program's text, and no condition is left beside the statement's own.
-/
import Derived.Test.YtcekilcgpgjooaaGreatDoorG49
import Derived.Test.YtcekilcgpgjooaaGreatDoorRows
import Derived.ProofKit
import Derived.LaidMore
import Derived.OpenShut
import Derived.Stop.Joined
import Derived.Lib.SmallJoins
import Derived.WideKeyArgs
import Derived.Test.YtcekilcgpgjooaaGreatDoorCards
import Derived.Test.YtcekilcgpgjooaaGreatDoorTie
import Derived.SevenTiedAt
import Derived.Carry
set_option maxRecDepth 100000
namespace Go.Proofs.YtcekilcgpgjooaaGreatDoor
open Go Go.RowKit
abbrev AnyS : Nat → Nat → Prop := fun _ _ => True
abbrev AnyB : Nat → Prop := fun _ => True
theorem no_spot {w : World} {b o i : Nat} {s : Option Nat} {v : Value} (h : w.cell? ((⟨b, o, s⟩ : Addr).add i) = some v) (hi : i = 0) : s = none := by
 subst hi
 cases s with
 | none => rfl
 | some s =>
  simp [Addr.add, World.cell?] at h
  split at h <;> cases h
theorem build_forest {w : World} (b o len : Nat) (hz : ∀ j, j < 3 * len → w.frozen? ⟨b, o + j, none⟩ = false) (h : ∀ i, i < len → ∃ k n a cap t, w.cell? ⟨b, o + 3 * i, none⟩ = some (.int .i64 k) ∧ w.cell? ⟨b, o + 3 * i + 1, none⟩ = some (.int .i64 n) ∧ w.cell? ⟨b, o + 3 * i + 2, none⟩ = some (.slice a t.len cap) ∧ t.len ≤ cap ∧ Sl AnyS w a t) :
    ∃ t : T, t.len = len ∧ t.At AnyS w b o := by
 have key : ∀ m, m ≤ len → ∃ t : T, t.len = m ∧ t.At AnyS w b (o + 3 * (len - m)) := by
  intro m
  induction m with
  | zero => intro _; exact ⟨.nil, rfl, trivial⟩
  | succ m ih =>
   intro hm
   obtain ⟨r, h1, h2⟩ := ih (by omega)
   obtain ⟨k, n, a, cap, t, h3, h4, h5, h5', h6⟩ := h (len - (m + 1)) (by omega)
   refine ⟨.cons k n t r, by simp [T.len, h1], ⟨trivial, hz _ (by omega), hz (3 * (len - (m + 1)) + 1) (by omega)⟩, h3, h4, ⟨a, cap, h5, ⟨h5', h6.1⟩, h6.2⟩, ?_⟩
   rw [show o + 3 * (len - (m + 1)) + 3 = o + 3 * (len - m) by omega]
   exact h2
 have := key len (Nat.le_refl _)
 simpa using this
theorem build_vals {w : World} (b o len : Nat) (h : ∀ i, i < len → ∃ n a cap t a' cap' ws, w.cell? ⟨b, o + 3 * i, none⟩ = some (.int .i64 n) ∧ w.cell? ⟨b, o + 3 * i + 1, none⟩ = some (.slice a (V.len t) cap) ∧ Vl AnyB w a t ∧ w.cell? ⟨b, o + 3 * i + 2, none⟩ = some (.slice a' (List.length ws) cap') ∧ Ints AnyB w a' ws) :
    ∃ t : V, t.len = len ∧ t.At AnyB w b o := by
 have key : ∀ m, m ≤ len → ∃ t : V, t.len = m ∧ t.At AnyB w b (o + 3 * (len - m)) := by
  intro m
  induction m with
  | zero => intro _; exact ⟨.nil, rfl, trivial⟩
  | succ m ih =>
   intro hm
   obtain ⟨r, h1, h2⟩ := ih (by omega)
   obtain ⟨n, a, cap, t, a', cap', ws, h3, h4, h5, h6, h7⟩ := h (len - (m + 1)) (by omega)
   refine ⟨.cons n t ws r, by simp [V.len, h1], trivial, h3, ⟨a, cap, h4, h5.1, h5.2⟩, ⟨a', cap', h6, h7⟩, ?_⟩
   rw [show o + 3 * (len - (m + 1)) + 3 = o + 3 * (len - m) by omega]
   exact h2
 have := key len (Nat.le_refl _)
 simpa using this
theorem open_kids {H : Type} {enc : TypeId × Value → H} {w : World} : ∀ (fuel : Nat) (cs : List Value) (x : DataW H × List MemPlace), DataW.trod enc Tryz.prog w 0 (fun _ => true) true fuel 22 cs = some x → w.noneFrozen x.2 →
    ∃ a cap t, cs = [.slice a (T.len t) cap] ∧ T.len t ≤ cap ∧ Sl AnyS w a t := by
 intro fuel
 induction fuel using Nat.strongRecOn with
 | _ fuel ih =>
  intro cs x h hnf
  rcases DataW.trod_slice Tryz.underlying22 h with ⟨rfl, _⟩ | ⟨a, len, cap, elems, rest, n, rfl, rfl, hx, _, hlc, hm, hlen, hel, _, _⟩
  ·exact ⟨none, 0, .nil, rfl, Nat.le_refl _, by simp [T.len], rfl⟩
  ·rw [Tryz.cells24] at hx
   have hz : ∀ j, j < 3 * len → w.frozen? ⟨a.block, a.off + j, none⟩ = false := fun j hj => hnf _ _ (by
    rw [hx]
    exact List.mem_append_left _ (MemPlace.mem_row.2 ⟨j, by omega, rfl⟩))
   have hel2 : ∀ i, i < len → ∃ k m a' cap' t, w.cell? ((a.add (i * 3)).add 0) = some (.int .i64 k) ∧ w.cell? ((a.add (i * 3)).add 1) = some (.int .i64 m) ∧ w.cell? ((a.add (i * 3)).add 2) = some (.slice a' (T.len t) cap') ∧ T.len t ≤ cap' ∧ Sl AnyS w a' t := by
    intro i hi
    have h1 := hel i hi
    rw [Tryz.cells24, List.getElem?_eq_getElem (by omega)] at h1
    obtain ⟨cs', h2, h3⟩ := Option.bind_eq_some_iff.1 h1
    obtain ⟨_, hcl, hcell⟩ := World.cells?_some h2
    obtain ⟨xs, n', rfl, hxe, _, hxl, hf⟩ := DataW.trod_struct Tryz.underlying24 h3
    have hxl3 : xs.length = 3 := hxl
    match cs', hcl with
    | [c0, c1, c2], _ =>
     have f0 := hf 0 _ rfl
     have f1 := hf 1 _ rfl
     have f2 := hf 2 _ rfl
     rw [List.getElem?_eq_getElem (by omega)] at f0 f1 f2
     obtain ⟨k, e0, _, _⟩ := DataW.trod_int Tryz.underlying3 f0
     obtain ⟨m, e1, _, _⟩ := DataW.trod_int Tryz.underlying3 f1
     obtain ⟨a', cap', t, e2, hc2, hs⟩ := ih n' (by omega) _ _ f2 (fun b' o' hp => hnf b' o' (by
      rw [hx]
      refine List.mem_append_right _ (List.mem_flatMap.2 ⟨elems[i], List.mem_append_left _ (List.getElem_mem _), ?_⟩)
      rw [hxe]
      exact List.mem_flatMap.2 ⟨xs[2], List.getElem_mem _, hp⟩))
     have q0 : List.take (Tryz.prog.cellsOf 3) [c0, c1, c2] = [.int .i64 k] := e0
     have q1 : List.take (Tryz.prog.cellsOf 3) [c1, c2] = [.int .i64 m] := e1
     have q2 : List.take (Tryz.prog.cellsOf 22) [c2] = [.slice a' (T.len t) cap'] := e2
     rw [Tryz.cells3] at q0 q1
     rw [Tryz.cells22] at q2
     simp at q0 q1 q2
     subst q0 q1 q2
     exact ⟨k, m, a', cap', t, by simpa using hcell 0 (by omega), by simpa using hcell 1 (by omega), by simpa using hcell 2 (by omega), hc2, hs⟩
   by_cases hz0 : len = 0
   ·subst hz0
    exact ⟨some a, cap, .nil, rfl, Nat.zero_le _, by simp [T.len], Or.inl rfl, trivial⟩
   ·obtain ⟨b, o, s⟩ := a
    obtain rfl : s = none := by
     obtain ⟨k, m, a', cap', t, h0, _⟩ := hel2 0 (by omega)
     rw [show ((⟨b, o, s⟩ : Addr).add (0 * 3)).add 0 = (⟨b, o, s⟩ : Addr).add 0 by simp [Addr.add]] at h0
     exact no_spot h0 rfl
    obtain ⟨t, h1, h2⟩ := build_forest (w := w) b o len hz (by
     intro i hi
     obtain ⟨k, m, a', cap', t, h0, h1, h2, h3, h4⟩ := hel2 i hi
     rw [Addr.add_lit, Addr.add_lit] at h0 h1 h2
     rw [show o + i * 3 = o + 3 * i by omega] at h0 h1 h2
     exact ⟨k, m, a', cap', t, h0, h1, h2, h3, h4⟩)
    subst h1
    exact ⟨_, cap, t, rfl, hlc, by unfold maxLen at hm; omega, Or.inr rfl, h2⟩
theorem open_ints {H : Type} {enc : TypeId × Value → H} {w : World} (fuel : Nat) (cs : List Value) (x : DataW H × List MemPlace) (h : DataW.trod enc Tryz.prog w 0 (fun _ => true) true fuel 45 cs = some x) :
    ∃ a cap ws, cs = [.slice a (List.length ws) cap] ∧ Ints AnyB w a ws := by
 rcases DataW.trod_slice Tryz.underlying45 h with ⟨rfl, _⟩ | ⟨a, len, cap, elems, rest, n, rfl, rfl, hx, _, hlc, hm, hlen, hel, _, _⟩
 ·exact ⟨none, 0, [], rfl, by simp, Or.inl rfl⟩
 ·have hel2 : ∀ i, i < len → ∃ k, w.cell? (a.add i) = some (.int .i64 k) := by
   intro i hi
   have h1 := hel i hi
   rw [Tryz.cells3, List.getElem?_eq_getElem (by omega)] at h1
   obtain ⟨cs', h2, h3⟩ := Option.bind_eq_some_iff.1 h1
   obtain ⟨_, hcl, hcell⟩ := World.cells?_some h2
   obtain ⟨k, e0, _, _⟩ := DataW.trod_int Tryz.underlying3 h3
   subst e0
   have h4 := hcell 0 (by omega)
   refine ⟨k, ?_⟩
   simp only [Nat.mul_one, List.getElem?_cons_zero] at h4
   rwa [show (a.add i).add 0 = a.add i by simp [Addr.add]] at h4
  have hl : ∀ m, m ≤ len → ∃ ws : List Int, ws.length = m ∧ ∀ i x, ws[i]? = some x → w.cell? (a.add i) = some (.int .i64 x) := by
   intro m
   induction m with
   | zero => exact fun _ => ⟨[], rfl, fun i x h => by simp at h⟩
   | succ m ih =>
    intro hml
    obtain ⟨ws, h1, h2⟩ := ih (by omega)
    obtain ⟨k, hk⟩ := hel2 m (by omega)
    refine ⟨ws ++ [k], by simp [h1], fun i x hi => ?_⟩
    by_cases him : i < ws.length
    ·rw [List.getElem?_append_left him] at hi; exact h2 i x hi
    ·have := (List.getElem?_eq_some_iff.1 hi).1
     simp at this
     have e : i = ws.length := by omega
     subst e
     simp at hi
     subst hi
     rw [h1]; exact hk
  obtain ⟨ws, hws, hcell⟩ := hl len (Nat.le_refl _)
  subst hws
  refine ⟨some a, cap, ws, rfl, by unfold maxLen at hm; omega, ?_⟩
  cases hw : ws with
  | nil => exact Or.inl rfl
  | cons y l =>
   obtain ⟨b, o, s⟩ := a
   obtain rfl : s = none := no_spot (hcell 0 y (by rw [hw]; rfl)) rfl
   exact Or.inr ⟨b, o, rfl, trivial, fun i x hi => by have := hcell i x (by rw [hw]; exact hi); rwa [Addr.add_lit] at this⟩
theorem open_vals {H : Type} {enc : TypeId × Value → H} {w : World} : ∀ (fuel : Nat) (cs : List Value) (x : DataW H × List MemPlace), DataW.trod enc Tryz.prog w 0 (fun _ => true) true fuel 25 cs = some x →
    ∃ a cap t, cs = [.slice a (V.len t) cap] ∧ V.len t ≤ cap ∧ Vl AnyB w a t := by
 intro fuel
 induction fuel using Nat.strongRecOn with
 | _ fuel ih =>
  intro cs x h
  rcases DataW.trod_slice Tryz.underlying25 h with ⟨rfl, _⟩ | ⟨a, len, cap, elems, rest, n, rfl, rfl, hx, _, hlc, hm, hlen, hel, _, _⟩
  ·exact ⟨none, 0, .nil, rfl, Nat.le_refl _, by simp [V.len], rfl⟩
  ·have hel2 : ∀ i, i < len → ∃ m a' cap' t a2 cap2 ws, w.cell? ((a.add (i * 3)).add 0) = some (.int .i64 m) ∧ w.cell? ((a.add (i * 3)).add 1) = some (.slice a' (V.len t) cap') ∧ Vl AnyB w a' t ∧ w.cell? ((a.add (i * 3)).add 2) = some (.slice a2 (List.length ws) cap2) ∧ Ints AnyB w a2 ws := by
    intro i hi
    have h1 := hel i hi
    rw [Tryz.cells58, List.getElem?_eq_getElem (by omega)] at h1
    obtain ⟨cs', h2, h3⟩ := Option.bind_eq_some_iff.1 h1
    obtain ⟨_, hcl, hcell⟩ := World.cells?_some h2
    obtain ⟨xs, n', rfl, hxe, _, hxl, hf⟩ := DataW.trod_struct Tryz.underlying58 h3
    have hxl3 : xs.length = 3 := hxl
    match cs', hcl with
    | [c0, c1, c2], _ =>
     have f0 := hf 0 _ rfl
     have f1 := hf 1 _ rfl
     have f2 := hf 2 _ rfl
     rw [List.getElem?_eq_getElem (by omega)] at f0 f1 f2
     obtain ⟨m, e0, _, _⟩ := DataW.trod_int Tryz.underlying3 f0
     obtain ⟨a', cap', t, e1, _, hs⟩ := ih n' (by omega) _ _ f1
     obtain ⟨a2, cap2, ws, e2, hi2⟩ := open_ints _ _ _ f2
     have q0 : List.take (Tryz.prog.cellsOf 3) [c0, c1, c2] = [.int .i64 m] := e0
     have q1 : List.take (Tryz.prog.cellsOf 25) [c1, c2] = [.slice a' (V.len t) cap'] := e1
     have q2 : List.take (Tryz.prog.cellsOf 45) [c2] = [.slice a2 (List.length ws) cap2] := e2
     rw [Tryz.cells3] at q0
     rw [Tryz.cells25] at q1
     rw [Tryz.cells45] at q2
     simp at q0 q1 q2
     subst q0 q1 q2
     exact ⟨m, a', cap', t, a2, cap2, ws, by simpa using hcell 0 (by omega), by simpa using hcell 1 (by omega), hs, by simpa using hcell 2 (by omega), hi2⟩
   by_cases hz0 : len = 0
   ·subst hz0
    exact ⟨some a, cap, .nil, rfl, Nat.zero_le _, by simp [V.len], Or.inl rfl, trivial⟩
   ·obtain ⟨b, o, s⟩ := a
    obtain rfl : s = none := by
     obtain ⟨m, a', cap', t, a2, cap2, ws, h0, _⟩ := hel2 0 (by omega)
     rw [show ((⟨b, o, s⟩ : Addr).add (0 * 3)).add 0 = (⟨b, o, s⟩ : Addr).add 0 by simp [Addr.add]] at h0
     exact no_spot h0 rfl
    obtain ⟨t, h1, h2⟩ := build_vals (w := w) b o len (by
     intro i hi
     obtain ⟨m, a', cap', t, a2, cap2, ws, h0, h1, h2, h3, h4⟩ := hel2 i hi
     rw [Addr.add_lit, Addr.add_lit] at h0 h1 h3
     rw [show o + i * 3 = o + 3 * i by omega] at h0 h1 h3
     exact ⟨m, a', cap', t, a2, cap2, ws, h0, h1, h2, h3, h4⟩)
    subst h1
    exact ⟨_, cap, t, rfl, hlc, by unfold maxLen at hm; omega, Or.inr rfl, h2⟩
end Go.Proofs.YtcekilcgpgjooaaGreatDoor
namespace Go.Proofs.YtcekilcgpgjooaaGreatDoor
set_option maxRecDepth 100000
open Go.ChangeShapes Go.WideShapes Go.ChangeAt Go.RowKit
theorem own : ownKnob Tryz.prog.godebug = none := by kernel_rfl
theorem laidOut : laidOutB Tryz.prog = true := by kernel_rfl
abbrev laids {H : Type} : List (String × DataW H) := [("ectype/functor.kinds", Rows.laid_ectype_functor_kinds)]
theorem gKinds : Tryz.prog.globalNamed "ectype/functor.kinds" = some 0 := by kernel_rfl
theorem tKinds : (Tryz.prog.globals[0]?).map (·.type) = some 190 := by kernel_rfl
theorem trodAll_stays {H : Type} {enc : TypeId × Value → H} {W W' : World} {sp : Nat → Bool} : ∀ {ts : List TypeId} {vs : List Value} {ds : List (DataW H)} {ps : List MemPlace}, (∀ t ∈ ts, Tryz.prog.readableRec t = true ∧ t < Tryz.prog.types.size) →
    DataW.TrodAll enc Tryz.prog W 0 (fun _ => true) true ts vs ds ps → (∀ p ∈ ps, W.sameAt W' p) → (∀ p ∈ ps, sp p.block = true) → DataW.TrodAll enc Tryz.prog W' 0 sp true ts vs ds ps
 | [], [], [], _, _, h, _, _ => h
 | _ :: _, _ :: _, _ :: _, _, hT, ⟨p, q, h1, h2, e⟩, hsame, hs =>
  ⟨p, q, WideElems.Trod_stays laidOut (hT _ (List.mem_cons.2 (Or.inl rfl))).1 (hT _ (List.mem_cons.2 (Or.inl rfl))).2 h1 (fun x hx => hsame x (by rw [e]; exact List.mem_append_left _ hx)) (fun x hx => hs x (by rw [e]; exact List.mem_append_left _ hx)),
   trodAll_stays (fun t ht => hT t (List.mem_cons.2 (Or.inr ht))) h2 (fun x hx => hsame x (by rw [e]; exact List.mem_append_right _ hx)) (fun x hx => hs x (by rw [e]; exact List.mem_append_right _ hx)), e⟩
 | [], _ :: _, _, _, _, h, _, _ => h.elim
 | [], [], _ :: _, _, _, h, _, _ => h.elim
 | _ :: _, [], _, _, _, h, _, _ => h.elim
 | _ :: _, _ :: _, [], _, _, h, _, _ => h.elim
theorem shut_true {H : Type} {enc : TypeId × Value → H} {f : Func} {s : ChangeSpec} {W W' : World} {args : Array Value} {ds : List (DataW H)} {p : List MemPlace}
    (hv : s.vars = []) (hT : ∀ t ∈ f.params.toList, Tryz.prog.readableRec t = true ∧ t < Tryz.prog.types.size) (hr : f.resultTypes = #[4])
    (hres : (s.fn H ds).results = [.lit (.bool true)]) (harg : (s.fn H ds).args = ds) (hvars : (s.fn H ds).vars = [])
    (hA : DataW.TrodAll enc Tryz.prog W 0 (fun _ => true) true f.params.toList args.toList ds p)
    (hW : DataW.Whole enc Tryz.prog f.params.toList s.vars false W args.toList ds [] p)
    (hb : Below W.heap.size W W') : s.post enc Tryz.prog f false true false false W args (.bool true) W' := by
 refine ⟨ds, [], p, [], p, [], hW, ?_, ?_, ?_, hb.frame _, fun h => by cases h⟩
 ·rw [List.append_nil, hres, hr]
  exact trodAll_mk1 (shut_bool Tryz.underlying4 _)
 ·rw [List.append_nil, harg]
  exact trodAll_stays hT hA (fun x hx => hb.same (hW.lt x hx)) (fun x hx => by simpa using hW.lt x hx)
 ·rw [List.append_nil, hvars, hv]
  rfl
theorem cellsFld : Tryz.prog.cellsOf 189 = 4 := by kernel_rfl
theorem cellsStr : Tryz.prog.cellsOf 9 = 1 := by kernel_rfl
theorem cellsTab : Tryz.prog.cellsOf 190 = 32 := by kernel_rfl
theorem kind_elem {H : Type} {enc : TypeId × Value → H} {W : World} {sp : Nat → Bool} {hd : Bool} {m : Nat} {cs : List Value} {x : DataW H × List MemPlace} {a b c : Int} {s : List UInt8}
    (h : DataW.trod enc Tryz.prog W 0 sp hd m 189 cs = some x) (hx : x.1 = .agg [.lit (.int .i64 a), .lit (.int .i64 b), .lit (.int .i64 c), .lit (.string s)]) :
    cs = [.int .i64 a, .int .i64 b, .int .i64 c, .string ⟨s.toArray⟩] := by
 obtain ⟨xs, n, rfl, rfl, hl, hxl, hf⟩ := DataW.trod_struct Tryz.underlying189 h
 have hxl4 : xs.length = 4 := hxl
 rw [cellsFld] at hl
 match cs, hl with
 | [c0, c1, c2, c3], _ =>
  match xs, hxl4 with
  | [x0, x1, x2, x3], _ =>
   have f0 := hf 0 _ rfl
   have f1 := hf 1 _ rfl
   have f2 := hf 2 _ rfl
   have f3 := hf 3 _ rfl
   simp only [List.map_cons, List.map_nil, DataW.agg.injEq, List.cons.injEq, and_true] at hx
   obtain ⟨h0, h1, h2, h3⟩ := hx
   obtain ⟨k0, e0, y0, _⟩ := DataW.trod_int (x := x0) Tryz.underlying3 f0
   obtain ⟨k1, e1, y1, _⟩ := DataW.trod_int (x := x1) Tryz.underlying3 f1
   obtain ⟨k2, e2, y2, _⟩ := DataW.trod_int (x := x2) Tryz.underlying3 f2
   obtain ⟨k3, e3, y3, _⟩ := DataW.trod_string (x := x3) Tryz.underlying9 f3
   have q0 : List.take (Tryz.prog.cellsOf 3) [c0, c1, c2, c3] = [.int .i64 k0] := e0
   have q1 : List.take (Tryz.prog.cellsOf 3) [c1, c2, c3] = [.int .i64 k1] := e1
   have q2 : List.take (Tryz.prog.cellsOf 3) [c2, c3] = [.int .i64 k2] := e2
   have q3 : List.take (Tryz.prog.cellsOf 9) [c3] = [.string k3] := e3
   rw [Tryz.cells3] at q0 q1 q2
   rw [cellsStr] at q3
   simp at q0 q1 q2 q3
   subst q0 q1 q2 q3 y0 y1 y2 y3
   simp at h0 h1 h2 h3
   subst h0 h1 h2 h3
   simp
theorem kinds_of_laid {W : World} (h : laidMetH Tryz.prog laids W) : Kinds W := by
 rw [MakeChecks.laidMetH_plain _ _ _ (by kernel_rfl)] at h
 obtain ⟨ps, ⟨g, t, cs, f, p, q, hg, ht, hv, hd, _, _⟩, _, _⟩ := h
 obtain rfl := Option.some.inj (gKinds.symm.trans hg)
 obtain rfl := Option.some.inj (tKinds.symm.trans ht)
 obtain ⟨xs, m, rfl, hx, hlen, hn, hel⟩ := DataW.trod_array Tryz.underlying190 hd
 simp only [Prod.mk.injEq, Rows.laid_ectype_functor_kinds, DataW.agg.injEq] at hx
 rw [cellsTab] at hlen
 obtain ⟨l⟩ := cs
 have hl : l.length = 32 := hlen
 match xs, hn with
 | [x0, x1, x2, x3, x4, x5, x6, x7], _ =>
  simp only [List.map_cons, List.map_nil, List.cons.injEq, and_true] at hx
  obtain ⟨⟨h0, h1, h2, h3, h4, h5, h6, h7⟩, _⟩ := hx
  have e0 := kind_elem (x := x0) (hel 0 (by decide)) h0.symm
  have e1 := kind_elem (x := x1) (hel 1 (by decide)) h1.symm
  have e2 := kind_elem (x := x2) (hel 2 (by decide)) h2.symm
  have e3 := kind_elem (x := x3) (hel 3 (by decide)) h3.symm
  have e4 := kind_elem (x := x4) (hel 4 (by decide)) h4.symm
  have e5 := kind_elem (x := x5) (hel 5 (by decide)) h5.symm
  have e6 := kind_elem (x := x6) (hel 6 (by decide)) h6.symm
  have e7 := kind_elem (x := x7) (hel 7 (by decide)) h7.symm
  rw [cellsFld] at e0 e1 e2 e3 e4 e5 e6 e7
  have hcs : l = kcell := by
   have s : l = List.take 4 (List.drop (0 * 4) l) ++ (List.take 4 (List.drop (1 * 4) l) ++ (List.take 4 (List.drop (2 * 4) l) ++ (List.take 4 (List.drop (3 * 4) l) ++ (List.take 4 (List.drop (4 * 4) l) ++ (List.take 4 (List.drop (5 * 4) l) ++ (List.take 4 (List.drop (6 * 4) l) ++ List.take 4 (List.drop (7 * 4) l))))))) := by
    have key : ∀ k, List.drop (k * 4) l = List.take 4 (List.drop (k * 4) l) ++ List.drop ((k + 1) * 4) l := fun k => by
     rw [show (k + 1) * 4 = k * 4 + 4 by omega, ← List.drop_drop]
     exact (List.take_append_drop 4 _).symm
    have last : List.take 4 (List.drop (7 * 4) l) = List.drop (7 * 4) l := List.take_of_length_le (by simp [hl])
    rw [last, ← key 6, ← key 5, ← key 4, ← key 3, ← key 2, ← key 1, ← key 0]
    simp
   rw [s]
   dsimp only at e0 e1 e2 e3 e4 e5 e6 e7
   rw [e0, e1, e2, e3, e4, e5, e6, e7]
   rfl
  intro i v hi
  rw [World.var?_cell hg hv i]
  subst hcs
  simpa using hi
end Go.Proofs.YtcekilcgpgjooaaGreatDoor
namespace Go.Proofs.YtcekilcgpgjooaaGreatDoor
open Go Go.ChangeShapes Go.WideShapes Go.ChangeAt Go.RowKit
theorem array4' {l : Array Value} (h : l.size = 4) : ∃ a b c d, l = #[a, b, c, d] := by
 obtain ⟨l⟩ := l
 match l, h with
 | [a, b, c, d], _ => exact ⟨a, b, c, d, rfl⟩
theorem open_system {H : Type} {enc : TypeId × Value → H} {W : World} {b0 : Nat} {v : Value} {d : DataW H} {p : List MemPlace}
    (hv : Value.okWide Tryz.prog W .any b0 27 v) (h : DataW.Trod enc Tryz.prog W 0 (fun _ => true) true 27 v d p) (hnf : W.noneFrozen p) :
    ∃ (f : F) (a na : Option Addr) (cap ncap : Nat) (u : V), v = Sv f a cap na u.len ncap ∧ f.t.len ≤ cap ∧ Sl AnyS W a f.t ∧ Vl AnyB W na u := by
 obtain ⟨cs, rfl, hsz⟩ := okWide_struct Tryz.underlying27 hv
 obtain ⟨c0, c1, c2, c3, rfl⟩ := array4' (hsz.trans Tryz.cells27)
 obtain ⟨fuel, hf⟩ := h
 obtain ⟨xs, n, _, hx, _, hxl, hfld⟩ := DataW.trod_struct Tryz.underlying27 hf
 have hxl2 : xs.length = 2 := hxl
 simp only [Prod.mk.injEq] at hx
 have g0 := hfld 0 _ rfl
 have g1 := hfld 1 _ rfl
 rw [List.getElem?_eq_getElem (by omega)] at g0 g1
 have g0' : DataW.trod enc Tryz.prog W 0 (fun _ => true) true n 24 (List.take (Tryz.prog.cellsOf 24) [c0, c1, c2, c3]) = some xs[0] := g0
 have g1' : DataW.trod enc Tryz.prog W 0 (fun _ => true) true n 25 (List.take (Tryz.prog.cellsOf 25) [c3]) = some xs[1] := g1
 rw [Tryz.cells24] at g0'
 rw [Tryz.cells25] at g1'
 have g0'' : DataW.trod enc Tryz.prog W 0 (fun _ => true) true n 24 [c0, c1, c2] = some xs[0] := g0'
 have g1'' : DataW.trod enc Tryz.prog W 0 (fun _ => true) true n 25 [c3] = some xs[1] := g1'
 obtain ⟨ys, n', _, hy, _, hyl, hfl⟩ := DataW.trod_struct Tryz.underlying24 g0''
 have hyl3 : ys.length = 3 := hyl
 have f0 := hfl 0 _ rfl
 have f1 := hfl 1 _ rfl
 have f2 := hfl 2 _ rfl
 rw [List.getElem?_eq_getElem (by omega)] at f0 f1 f2
 obtain ⟨k, e0, _, _⟩ := DataW.trod_int Tryz.underlying3 f0
 obtain ⟨m, e1, _, _⟩ := DataW.trod_int Tryz.underlying3 f1
 obtain ⟨a, cap, t, e2, hc, hs⟩ := open_kids n' _ _ f2 (fun b o hm => hnf b o (by
  rw [hx.2]
  refine List.mem_flatMap.2 ⟨xs[0], List.getElem_mem _, ?_⟩
  rw [hy]
  exact List.mem_flatMap.2 ⟨ys[2], List.getElem_mem _, hm⟩))
 obtain ⟨na, ncap, u, e3, _, hv2⟩ := open_vals n _ _ g1''
 have q0 : List.take (Tryz.prog.cellsOf 3) [c0, c1, c2] = [.int .i64 k] := e0
 have q1 : List.take (Tryz.prog.cellsOf 3) [c1, c2] = [.int .i64 m] := e1
 have q2 : List.take (Tryz.prog.cellsOf 22) [c2] = [.slice a (T.len t) cap] := e2
 rw [Tryz.cells3] at q0 q1
 rw [Tryz.cells22] at q2
 simp at q0 q1 q2 e3
 subst q0 q1 q2 e3
 exact ⟨⟨k, m, t⟩, a, na, cap, ncap, u, rfl, hc, hs, hv2⟩
theorem door_met (os : Os) (args : Array Value) : laidMetH Tryz.prog laids ((World.doorLaid Tryz.prog 400 os).forCall (fun _ _ => 0) ⟨#[], args, []⟩).memory :=
 laidMetH_of_parts3 (fuel := 8) (laidMet_of_run' 8 (by kernel_rfl) (by kernel_rfl)) (by kernel_rfl) (by kernel_rfl)
theorem noStand : ∀ (ts : List TypeId), (ts.all fun u => !Tryz.prog.wantsStandIn u) = true → ∀ t ∈ ts, Tryz.prog.wantsStandIn t = false := fun ts h t ht => by
 simpa using List.all_eq_true.1 h t ht
theorem open_nums {H : Type} {enc : TypeId × Value → H} {W : World} {b0 : Nat} {v : Value} {d : DataW H} {p : List MemPlace}
    (hv : Value.okWide Tryz.prog W .any b0 45 v) (h : DataW.Trod enc Tryz.prog W 0 (fun _ => true) true 45 v d p) :
    ∃ a cap ws, v = .slice a (List.length ws) cap ∧ Ints AnyB W a ws := by
 obtain ⟨a0, len, cap, rfl⟩ := okWide_slice Tryz.underlying45 hv
 obtain ⟨fuel, hf⟩ := h
 have hf' : DataW.trod enc Tryz.prog W 0 (fun _ => true) true fuel 45 [.slice a0 len cap] = some (d, p) := hf
 obtain ⟨a, c, r, e, h1⟩ := open_ints fuel _ _ hf'
 simp only [List.cons.injEq, and_true] at e
 exact ⟨a, c, r, e, h1⟩
theorem readablesI : ∀ t ∈ [27, 45], Tryz.prog.readableRec t = true ∧ t < Tryz.prog.types.size := by
 have h : ([27, 45].all fun t => Tryz.prog.readableRec t && decide (t < Tryz.prog.types.size)) = true := by kernel_rfl
 intro t ht
 have := List.all_eq_true.1 h t ht
 simpa using this
theorem graphs_lifted (os : Os) (started : os.Started) (H : Type) (enc : TypeId × Value → H) :
    ReturnsInHanded {} Tryz.checked os 4 .any (fun w args => (Rows.bisimGraphsSpec.pre enc Tryz.prog Tryz.f4 [] false w args ∧ laidMetH Tryz.prog laids w) ∧ sizedMet enc Tryz.prog Tryz.f4 (OpenSpec.ofChange Rows.bisimGraphsSpec) false w args)
     (Rows.bisimGraphsSpec.post enc Tryz.prog Tryz.f4 false true false false) := by
 refine returnsInHanded_of_change_and (C := Tryz.checked) (X := fun w _ => laidMetH Tryz.prog laids w) (fun _ _ _ hh h => h.of_heap hh) own started (by kernel_rfl) Tryz.func4
  (ChangeSpec.witness_shaped (enc := enc) (C := Tryz.checked) (os := os) (X := fun w _ => laidMetH Tryz.prog laids w) false (World.doorLaid Tryz.prog 400 os) #[.agg #[.int .i64 0, .int .i64 0, .slice none 0 0, .slice none 0 0], .agg #[.int .i64 0, .int .i64 0, .slice none 0 0, .slice none 0 0], .slice none 0 0, .slice none 0 0] 8 rfl (World.shaped_of_RefB (by kernel_rfl) (by kernel_rfl)) (by kernel_rfl) (by kernel_rfl) (by kernel_rfl) (door_met os _)) ?_
 intro W base args ds gs before hval0 hW _ _ hL _
 have hval : ∀ (j : Nat) t v, Tryz.f4.params[j]? = some t → args[j]? = some v → Value.okWide Tryz.prog W .any base t v := hval0
 have hW' := hW
 obtain ⟨p, q, hA0, hV, rfl, hfz, hnd⟩ := hW
 have hA : DataW.TrodAll enc Tryz.prog W 0 (fun _ => true) true Tryz.f4.params.toList args.toList ds p := hA0
 have hAk := hA
 rw [Tryz.params4] at hA hval
 obtain ⟨v0, v1, v2, v3, d0, d1, d2, d3, p0, p1, p2, p3, rfl, rfl, rfl, h0, h1, h2, h3⟩ := trodAll_four hA
 obtain ⟨rfl, rfl⟩ := trodVars_none hV
 obtain ⟨f, a, na, cap, ncap, t, rfl, hc, hs, hvl⟩ := open_system (hval 0 27 v0 rfl rfl) h0 (fun b o hm => hfz b o (by simp only [List.mem_append]; simp [hm]))
 obtain ⟨g, a2, na2, cap2, ncap2, u, rfl, hc2, hs2, hvl2⟩ := open_system (hval 1 27 v1 rfl rfl) h1 (fun b o hm => hfz b o (by simp only [List.mem_append]; simp [hm]))
 obtain ⟨ha, hcap, h, rfl, hi⟩ := open_nums (hval 2 45 v2 rfl rfl) h2
 obtain ⟨ta, tcap, l, rfl, hi2⟩ := open_nums (hval 3 45 v3 rfl rfl) h3
 have hk := kinds_of_laid hL
 clear hA0 hval0
 simp only [List.append_nil] at hW' hAk
 refine (graphs_law AnyS AnyS AnyB AnyB AnyB AnyB f g a na a2 na2 ha ta cap ncap cap2 ncap2 hcap tcap t u h l W hs hc hvl hs2 hc2 hvl2 hk hi hi2).mono fun e W' ⟨he, hb⟩ => ?_
 subst he
 exact ⟨_, rfl, shut_true rfl (by rw [Tryz.params4]; exact fun t ht => readablesI t (by simp at ht ⊢; rcases ht with h | h <;> simp [h])) (by kernel_rfl) rfl rfl rfl hAk hW' hb⟩
theorem graphs_holds : Rows.BisimGraphsSaid :=
 OpenClaim.holds_of_wide 4 Tryz.f4 rfl rfl rfl rfl rfl rfl rfl ⟨rfl, rfl, rfl, rfl, rfl⟩ rfl rfl rfl rfl rfl (by kernel_rfl) Tryz.func4 (by kernel_rfl)
  (of_decide_eq_true (by kernel_rfl)) (by unfold Func.isWrapper; first | (rw [if_pos (by decide +kernel)]; kernel_rfl) | (rw [if_neg (by decide +kernel)]; exact ⟨rfl, rfl⟩))
  (fun os started H enc _ => graphs_lifted os started H enc)
theorem bisimGraphs_card : Rows.BisimGraphsCardSaid :=
 Claim7.holds_tied_plain_at .later [] [.data] true (true, "657e4ff72624f54cab4d5c6357695c655241f76b0971606edc11c5f063dbba7e") false
  graphs_holds (fun _ h => by cases h) (by kernel_rfl) (fun _ h => by cases h) bisimGraphs_row_tie rfl ⟨rfl, rfl⟩ (by kernel_rfl) rfl
  (fun f fn hf hfn => by
   obtain rfl : f = 4 := Option.some.inj ((show Tryz.prog.funcNamed "ectype/ectypelaw06.BisimGraphs" = some 4 by kernel_rfl).symm.trans hf) |>.symm
   obtain rfl : fn = Tryz.f4 := (Option.some.inj (Tryz.func4.symm.trans hfn)).symm
   exact ⟨by kernel_rfl, fun j t ht => by
    rw [Tryz.params4] at ht
    exact noStand [27, 27, 45, 45] (by kernel_rfl) t (by simpa using Array.mem_of_getElem? ht)⟩)
  (by kernel_rfl)
#print axioms bisimGraphs_card
end Go.Proofs.YtcekilcgpgjooaaGreatDoor
