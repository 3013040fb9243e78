/- Proved here: contracts of the walk to BisimGraphs: pairs as keys of a map, and the iterator over them; each under the conditions that its own statement names. -/
import Derived.Test.YtcekilcgpgjooaaGreatDoorG04
import Derived.Sort.KeysCollected
import Derived.Maps.OwnSet
import Derived.RangeFuncNested
import Derived.RangeFuncBound
import Derived.RangeFuncCalls
import Derived.RangeFuncLeaves
import Derived.Shelf.AbstractIn
import Derived.Shelf.RegionOpen
import Derived.OwnWalkIn
import Derived.TacticsInMore
import Derived.LoopNIn
import Derived.LoopIn
import Derived.Sort.MapsRangeIn
import Derived.RangeFuncStops
import Derived.RangeFuncBox
import Derived.Maps.AppendAt
set_option maxRecDepth 100000
set_option maxHeartbeats 2000000
namespace Go.Proofs.YtcekilcgpgjooaaGreatDoor
open Go Go.RowKit Go.Maps
theorem Pv_inj {p q : Int × Int} (h : Pv p = Pv q) : p = q := by
 obtain ⟨a, b⟩ := p
 obtain ⟨c, d⟩ := q
 simp only [Pv, Value.agg.injEq, Array.mk.injEq, List.cons.injEq, Value.int.injEq, true_and, and_true] at h
 rw [h.1, h.2]
theorem infoP : (Tryz.prog.info? 38).map (fun i => (i.zero, i.size, i.bytes)) = some (some (.agg #[.int .i64 0, .int .i64 0]), 2, 16) := by kernel_rfl
theorem isAggP (w : World) : (isAgg 38).run Tryz.prog w = .ok true w := by kernel_rfl
theorem sizeOfP (w : World) : (sizeOf 38).run Tryz.prog w = .ok 2 w := by kernel_rfl
def encP (p : Int × Int) : List Value := [.int .i64 p.1, .int .i64 p.2]
def flatP (l : List (Int × Int)) : List Value := l.flatMap encP
theorem flatP_len (l : List (Int × Int)) : (flatP l).length = l.length * 2 := by
 induction l with
 | nil => rfl
 | cons p l ih => simp only [flatP, List.flatMap_cons, List.length_append, List.length_cons] at *; rw [ih]; simp only [encP, List.length_cons, List.length_nil]; omega
theorem flatP_snoc (l : List (Int × Int)) (p : Int × Int) : flatP (l ++ [p]) = flatP l ++ [.int .i64 p.1, .int .i64 p.2] := by simp [flatP, encP]
theorem flatP_get {l : List (Int × Int)} : ∀ {i : Nat} {p : Int × Int}, l[i]? = some p → (flatP l)[i * 2]? = some (.int .i64 p.1) ∧ (flatP l)[i * 2 + 1]? = some (.int .i64 p.2) := by
 induction l with
 | nil => intro i p h; simp at h
 | cons q l ih =>
  intro i p h
  cases i with
  | zero => simp at h; subst h; exact ⟨rfl, rfl⟩
  | succ i =>
   have := ih (i := i) (p := p) (by simpa using h)
   rw [show (i + 1) * 2 = i * 2 + 2 by omega]
   exact this
def PKey (p : Int × Int) (kl : Lit) : Prop := keyOf Tryz.prog 38 (Pv p) = some kl
theorem PKey.mk {p : Int × Int} (hx : (Lit.int .i64 p.1).wf = true) (hy : (Lit.int .i64 p.2).wf = true) : ∃ kl, PKey p kl := keyP hx hy
theorem lits_inv {d : Nat} {v : Value} {l : List Lit} (h : Tryz.prog.keyLits (d + 1) 3 [v] = some l) : ∃ x : Int, v = .int .i64 x ∧ (Lit.int .i64 x).wf = true := by
 unfold Program.keyLits at h
 rw [Tryz.underlying3] at h
 cases v <;> simp at h
 rename_i q x
 obtain ⟨⟨rfl, h2⟩, _⟩ := h
 exact ⟨x, rfl, h2⟩
theorem PKey.inv {key : Value} {kl : Lit} (h : keyOf Tryz.prog 38 key = some kl) : ∃ p, key = Pv p ∧ (Lit.int .i64 p.1).wf = true ∧ (Lit.int .i64 p.2).wf = true := by
 have hc := Tryz.cells38
 have he := Tryz.underlying38
 obtain ⟨d, hd⟩ := sizeT
 unfold keyOf at h
 rw [he] at h
 simp only at h
 split at h
 case isFalse => cases h
 case isTrue hf =>
  simp only [Bool.and_eq_true] at hf
  obtain ⟨_, hf⟩ := hf
  cases key <;> simp [Value.formed, he, hc] at hf
  rename_i cs
  obtain ⟨l, rfl⟩ : ∃ l : List Value, cs = l.toArray := ⟨cs.toList, by simp⟩
  simp at hf
  match l, hf with
  | [a, b], _ =>
   rw [hd] at h
   obtain ⟨ls, hls, _⟩ := Option.map_eq_some_iff.1 h
   unfold Program.keyLits at hls
   rw [he] at hls
   simp only [hc, Tryz.cells3, Value.cells] at hls
   simp [List.range, List.range.loop] at hls
   cases h1 : Tryz.prog.keyLits (d + 2) 3 [a] with
   | none => rw [h1] at hls; simp at hls
   | some l1 =>
    cases h2 : Tryz.prog.keyLits (d + 2) 3 [b] with
    | none => rw [h1, h2] at hls; simp at hls
    | some l2 =>
     obtain ⟨x, rfl, hx⟩ := lits_inv h1
     obtain ⟨y, rfl, hy⟩ := lits_inv h2
     exact ⟨(x, y), rfl, hx, hy⟩
def CollP {H : Type} (D0 : DataW H) (left : Lit → Bool) (ss : List (Int × Int)) : Prop :=
 ss.Nodup ∧ (∀ p ∈ ss, ∃ kl, PKey p kl) ∧ ∀ p kl, PKey p kl → (p ∈ ss ↔ (has D0 kl = true ∧ left kl = false))
theorem CollP.start {H : Type} (D0 : DataW H) : CollP D0 (has D0) [] := ⟨List.nodup_nil, by simp, fun p kl _ => by cases has D0 kl <;> simp⟩
theorem CollP.step {H : Type} {D0 : DataW H} {left : Lit → Bool} {ss : List (Int × Int)} (h : CollP D0 left ss) {p : Int × Int} {kl : Lit} {y : DataW H} (hk : PKey p kl) (hlk : left kl = true) (hat : ∀ zd, D0.atKey kl zd = y) : CollP D0 (fun z => left z && !z.sameKey kl) (ss ++ [p]) := by
 have hhas : has D0 kl = true := has_true_of_atKey hat
 have hnew : p ∉ ss := fun hx => by have := ((h.2.2 p kl hk).1 hx).2; rw [hlk] at this; cases this
 refine ⟨List.nodup_append.2 ⟨h.1, by simp, fun a ha b hb => by simp at hb; subst hb; exact fun e => hnew (e ▸ ha)⟩, fun q hq => ?_, fun q kl' hk' => ?_⟩
 ·rcases List.mem_append.1 hq with hq | hq
  ·exact h.2.1 q hq
  ·simp at hq
   subst hq
   exact ⟨kl, hk⟩
 ·by_cases e : q = p
  ·subst e
   have : kl' = kl := Option.some.inj (hk'.symm.trans hk)
   subst this
   simp [hhas, WideAt.sameKey_self (lawP.key hk)]
  ·have hne : kl' ≠ kl := fun h => by subst h; exact e (Pv_inj (lawP.inj hk' hk))
   simp [h.2.2 q kl' hk', e, sameKey_ne hne]
def MapH (w : World) (b n : Nat) (mem : Int × Int → Bool) : Prop :=
 ∃ D : DataW Unit, w.ownsMap Tryz.prog 38 (plainElem Tryz.prog 4) b n D ∧ Tidy D ∧ Maps.size D ≤ n ∧ ∀ p kl, PKey p kl → has D kl = mem p
theorem MapH.lt {w : World} {b n : Nat} {mem : Int × Int → Bool} (h : MapH w b n mem) : b < w.heap.size := by
 obtain ⟨D, ⟨es, clock, hb, _⟩, _⟩ := h
 exact heap_lt hb
theorem MapH.same {w w' : World} {b n : Nat} {mem : Int × Int → Bool} (h : MapH w b n mem) (hk : w'.heap[b]? = w.heap[b]?) : MapH w' b n mem := by
 obtain ⟨D, ⟨es, clock, hb, hr⟩, hD⟩ := h
 exact ⟨D, ⟨es, clock, hk.trans hb, hr⟩, hD⟩
theorem MapH.made (w : World) : MapH (w.alloc (.map #[] 0)) w.heap.size 0 (fun _ => false) :=
 ⟨.map [], World.ownsMap_made _ _ _ _, tidy_empty, Nat.le_refl _, fun _ _ _ => rfl⟩
end Go.Proofs.YtcekilcgpgjooaaGreatDoor
namespace Go.Proofs.YtcekilcgpgjooaaGreatDoor
open Go Go.RowKit Go.Maps Go.Sort Go.Shelf
theorem keysP_in (F : Fence) (n : Nat) (h10 : F.fn 77) (hro : F.round = none) (hn : 1 ≤ n) (l Bm b nn : Nat) (D0 : DataW Unit) {R : Value → Option (DataW Unit × List MemPlace)} (J Jx : List (Int × Int) → World → Prop)
    (hY : ∀ pre x W, J pre W → pre.length < Maps.size D0 → YieldAt F (n - 1) Tryz.prog l #[Pv x] W fun e W' =>
     (e = .returned (.bool true) ∧ J (pre ++ [x]) W' ∧ KeepsWalks W W') ∨ (e = .returned (.bool false) ∧ Jx (pre ++ [x]) W'))
    (W : World) (hJ : AbidesFrom W.heap.size J) (hm : W.cell? ⟨Bm, 0, none⟩ = some (.map (some b))) (hown : W.ownsMap Tryz.prog 38 R b nn D0) (h0 : J [] W) :
    CallsIn F n Tryz.prog 77 #[.func (.yield l) #[] #[], .pointer (some ⟨Bm, 0, none⟩)] W fun e W' => (∃ v, e = .returned v) ∧
     ((∃ ss : List (Int × Int), CollP D0 (fun _ => false) ss ∧ J ss W') ∨ (∃ pre : List (Int × Int), True ∧ Jx pre W')) := by
 refine callsIn_of_wp Tryz.func77 rfl h10 ?_ hro
 simp only [Tryz.ntmps77, List.size_toArray, List.length_cons, List.length_nil, Nat.reduceAdd, Nat.reduceSub, Array.replicate_succ, Array.replicate_zero, List.push_toArray, List.append_toArray, List.nil_append, List.cons_append]
 gi_wp2_with (first
  | (gi_at_range; refine wpListIn_range_own _ rfl _ 73 rfl 38 4 lawP Tryz.underlying73 _ b nn _ rfl hown ?_; intro w0 hrg0 hg0 hs0)
  | gi_in)
 go_frame
 gi_loopw [3] (fun _ wr => ∃ (left : Lit → Bool) (cnt : Nat) (ss : List (Int × Int)), wr.ranges Tryz.prog 38 R b W.heap.size nn D0 left cnt ∧ ss.length + cnt ≤ Maps.size D0 ∧ CollP D0 left ss ∧ J ss wr)
  (fun _ wr => wr.rangeLeft b W.heap.size)
 case atStart =>
  exact ⟨_, _, [], hrg0, by simp, CollP.start D0, hJ [] W w0 none h0 hg0 (fun r e => by cases e)⟩
 case round =>
  obtain ⟨left, cnt, ss, hrg, hcs, hC, hJs⟩ := hrel
  gi_wp2_with (first
   | (gi_at_next; refine wpListIn_next_ranges _ rfl _ rfl 38 lawP R Pv id (fun key kl hk => by obtain ⟨x, hx, _⟩ := PKey.inv hk; exact ⟨x, hx⟩) (fun v _ _ => ⟨v, rfl⟩) b W.heap.size nn _ _ _ rfl hrg ?_ ?_)
   | gi_in)
  ·-- nothing is left
   intro hc0 hl0
   obtain rfl : left = fun _ => false := funext hl0
   gi_wp2
   go_end0
   exact ⟨⟨_, rfl⟩, .inl ⟨ss, hC, hJs⟩⟩
  ·-- an entry has come
   intro x1 x2 c kl yd yp w2 cnt2 hkey hlk hv hat hrg2 hlt hg2 hs2 hen
   have hJ2 : J ss w2 := hJ ss wr w2 (some W.heap.size) hJs hg2 (fun r e => by cases e; exact ⟨Nat.le_refl _, hrg.iter_walk⟩)
   have hJ3 : J ss (w2.alloc (.cells #[.int .i64 x1, .int .i64 x2] 38)) := hJ ss w2 _ none hJ2 (World.grownBy_alloc _ _ none) (fun r e => by cases e)
   obtain ⟨fn, tmps, assign, body, hy, hR⟩ := hY ss (x1, x2) _ hJ3 (by omega)
   clear hs2
   gi_wp2
   refine hR.mono ?_
   have hC2 := hC.step hkey hlk hat
   rintro e W3 (⟨rfl, hJ3, hk3⟩ | ⟨rfl, hJx3⟩)
   ·gi_wp2
    have hrg3 := (hrg2.kept (World.grownBy_alloc w2 (.cells #[.int .i64 x1, .int .i64 x2] 38) none) (by simp) (by simp)).of_walks hk3
    go_roundw
    case rel => exact ⟨_, cnt2, ss ++ [(x1, x2)], hrg3, by simp; omega, hC2, hJ3⟩
    case measure => rw [hrg3.left_eq, hrg.left_eq]; exact hlt
   ·gi_wp2
    refine bodyPost_ret (results_none rfl _ _ _) rfl ?_
    exact ⟨⟨_, rfl⟩, .inr ⟨ss ++ [(x1, x2)], trivial, hJx3⟩⟩
attribute [local go_sem] Oper.semAt_some
theorem keysP_stops (F : Fence) (n : Nat) (h10 : F.fn 77) (hro : F.round = none) (hn : 1 ≤ n) (Bm b nn : Nat) (D0 : DataW Unit) {R : Value → Option (DataW Unit × List MemPlace)} (w : World) (hBm : Bm < w.heap.size)
    (hm : w.cell? ⟨Bm, 0, none⟩ = some (.map (some b))) (hown : w.ownsMap Tryz.prog 38 R b nn D0) :
    SeqStopsK F n Tryz.prog 77 #[.pointer (some ⟨Bm, 0, none⟩)] (fun x : Int × Int => #[Pv x]) KeepsWalks (fun ss => CollP D0 (fun _ => false) ss) (fun _ => True) (Maps.size D0) w := fun l J Jx W hW hJ _ hY h0 => by
 have hown' : W.ownsMap Tryz.prog 38 R b nn D0 := by
  have hbl := hown.lt
  obtain ⟨es, clock, hb, Ft, hs, hD⟩ := hown
  exact ⟨es, clock, (hW.block b hbl).trans hb, Ft, hs, hD⟩
 exact keysP_in F n h10 hro hn l Bm b nn D0 J Jx hY W hJ ((hW.cell (p := ⟨Bm, 0, none⟩) hBm).trans hm) hown' h0
theorem keysP_call (F : Fence) (n : Nat) (h7 : F.fn 40) (hro : F.round = none) (mb : Option Nat) (w : World) :
    CallsIn F n Tryz.prog 40 #[.map mb] w fun e w' => e = .returned (.func (.func 77) #[] #[.pointer (some ⟨w.heap.size, 0, none⟩)]) ∧ w' = w.alloc (.cells #[.map mb] 73) := by
 refine callsIn_of_wp Tryz.func40 rfl h7 ?_ hro
 simp only [Tryz.ntmps40, List.size_toArray, List.length_cons, List.length_nil, Nat.reduceAdd, Nat.reduceSub, Array.replicate_succ, Array.replicate_zero, List.push_toArray, List.append_toArray, List.nil_append, List.cons_append]
 gi_wp2
 go_ret
 exact ⟨rfl, rfl⟩
def Two (W : World) (B : Nat) (x y : Int) : Prop := W.heap[B]? = some (.cells #[.int .i64 x, .int .i64 y] 38 (0, 0))
theorem two_own {β : Type} (B : Nat) (x y : Int) : Own (fun (_ : β) W => Two W B x y) := fun s X Y row hs hg hrow => by
 have h : X.heap[B]? = _ := hs
 exact (hg.block B (Array.getElem?_eq_some_iff.1 h).1 (fun e => by obtain ⟨o, ho, hc⟩ := hrow B e.symm; rw [h] at ho; cases ho; cases hc)).trans h
theorem two_cells {W : World} {B : Nat} {x y : Int} (h : Two W B x y) : W.cell? ⟨B, 0, none⟩ = some (.int .i64 x) ∧ W.cell? ⟨B, 1, none⟩ = some (.int .i64 y) := cells2 h
theorem two_new (w : World) (x y : Int) (t : TypeId) : ∀ j u, [Value.int .i64 x, .int .i64 y][j]? = some u → (w.alloc (.cells #[.int .i64 x, .int .i64 y] t)).cell? ((⟨w.heap.size, 0, none⟩ : Addr).add j) = some u := by
 intro j u hj
 have h := World.alloc_heap_new w (.cells #[.int .i64 x, .int .i64 y] t)
 match j, hj with
 | 0, hj => simp at hj; subst hj; exact (cells2 h).1
 | 1, hj => simp at hj; subst hj; exact (cells2 h).2
theorem apP_in (F : Fence) (n : Nat) (h11 : F.fn 112) (hro : F.round = none) (hn : 3 ≤ n) (g : Nat) (lb : Array Value) (hFg : F.fn g) (eg : ∀ args w, (callFunc g args).run Tryz.prog w = .ok (.enter g args) w)
    (S : List (Int × Int) → Prop) (N : Nat) (hN : N ≤ 1000000) (w : World) (hseq : SeqStopsK F (n - 1) Tryz.prog g lb (fun x : Int × Int => #[Pv x]) KeepsWalks S (fun _ => True) N w) :
    CallsIn F n Tryz.prog 112 #[.slice none 0 0, .func (.func g) #[] lb] w fun e w' => ∃ (v : Value) (ss : List (Int × Int)), e = .returned v ∧ S ss ∧ w'.ownsRow w.heap.size 38 2 v ss.length (flatP ss) ∧ Below w.heap.size w w' := by
 have h1 : 1 ≤ n := by omega
 obtain ⟨i0, hi, hz0, hz1, hz2⟩ := info_parts infoP
 refine callsIn_of_wp_marks Tryz.func112 rfl h11 ?_ hro
 simp only [Tryz.ntmps112, List.size_toArray, List.length_cons, List.length_nil, Nat.reduceAdd, Nat.reduceSub, Array.replicate_succ, Array.replicate_zero, List.push_toArray, List.append_toArray, List.nil_append, List.cons_append]
 gi_wp2
 have bS := Boxed.new w 28 (.slice none 0 0)
 have hB0 : Below w.heap.size w (w.alloc (.cells #[.slice none 0 0] 28)) := (Below.refl _ w).alloc (Nat.le_refl _) _
 have hsz : (w.alloc (.cells #[.slice none 0 0] 28)).heap.size = w.heap.size + 1 := by simp
 obtain ⟨W0, hW0⟩ : ∃ W0, w.alloc (.cells #[.slice none 0 0] 28) = W0 := ⟨_, rfl⟩
 rw [hW0] at bS hB0 hsz ⊢
 clear hW0
 refine wpIn_rangeFunc_ownH hro h1 (gf := g) (lb := lb) rfl hFg eg hseq walksK_t walksK_b hB0 (fun _ => rfl)
  (fun pre W => (∃ v, Boxed W w.heap.size 28 v ∧ W.ownsRow w.heap.size 38 2 v pre.length (flatP pre) ∧ True) ∧ Below w.heap.size w W)
  (fun _ _ _ => False)
  (OwnFrom.and (Own.from (holdsRow_own w.heap.size w.heap.size 28 38 2 (fun pre => pre.length) (fun pre => flatP pre) (fun _ _ => True)) _) (ownFrom_below (Nat.le_refl _) (by omega)))
  (fun _ _ _ _ _ hs _ _ => hs)
  ⟨⟨_, bS, World.ownsRow_nil _ _ _ _, trivial⟩, hB0⟩
  (fun x a' W => ∃ Bx, w.heap.size < Bx ∧ Two W Bx x.1 x.2 ∧ a' = { tmps := #[.slice none 0 0, .func (.func g) #[] lb, .pointer (some ⟨w.heap.size, 0, none⟩), undef, .slice none 0 0, .pointer (some ⟨Bx, 0, none⟩), .func (.func g) #[] lb, Pv x, undef, undef, undef, undef, undef], defers := [] })
  (fun x a' _ X Y row hs hg hr => by obtain ⟨Bx, h1, h2, h3⟩ := hs; exact ⟨Bx, h1, two_own (β := Unit) Bx x.1 x.2 () X Y row h2 hg (fun r e => (hr r e).2), h3⟩)
  ?assign ?body ?done ?stop
 case assign =>
  rintro l pre ⟨x1, x2⟩ W K ⟨⟨v, hv, hrow, _⟩, hB1⟩ hK
  gi_wp2
  exact hK _ _ ((KeepsOthers.alloc _ _).from _) (KeepsWalks.alloc _ _) ⟨⟨v, hv.alloc _, hrow.alloc _, trivial⟩, hB1.alloc hB1.size _⟩ ⟨W.heap.size, hv.lt, World.alloc_heap_new W _, rfl⟩
 case body =>
  rintro l pre ⟨x1, x2⟩ a' W hl ⟨r, hr⟩ ⟨⟨v, hv, hrow, _⟩, hB⟩ ⟨Bx, hBx, bX, rfl⟩ hlt
  have hc := hv.cell
  obtain ⟨x0, y0⟩ := two_cells bX
  simp only at x0 y0
  gi_wp2_with (gi_at_builtin; refine wpListIn_append_own _ rfl _ _ 28 rfl w.heap.size 38 i0 (.agg #[.int .i64 0, .int .i64 0]) 2 16 Tryz.underlying28 hi hz0 hz1 hz2 rfl (by decide) _ _ _ rfl (hrow.alloc _) ⟨W.heap.size, 0, none⟩ 1 1 [.int .i64 x1, .int .i64 x2] rfl rfl (two_new _ _ _ _) (by simp [Value.oneCell']) (by unfold maxLen; omega) (by omega) (by have := hB.size; simp; omega) ?_; intro v' w1 hown' hgrow _; obtain ⟨g', cap', rfl⟩ := ownsRow_succ hown'; obtain ⟨hv1, hv2, hr2, hk2, hb2⟩ := hv.appended (by decide) hrow hB.size (Nat.le_refl _) hown' hgrow; have hc1 := hv1.cell; have hf1 := hv1.frozen)
  exact ⟨hk2.from _, hk2.walks, ⟨⟨_, hv2, by rw [flatP_snoc, List.length_append]; exact hr2⟩, hB.trans hb2⟩⟩
 case done =>
  rintro D ys W hD hS ⟨⟨v, hv, hrow, _⟩, hB⟩ hK
  have hc := hv.cell
  gi_wp2
  refine ⟨by simp, .inl ⟨_, _, rfl, run_takeDeferred hK, ?_⟩⟩
  exact ⟨_, results_tmp rfl _ _ _, v, ys, rfl, hS, ownsRow_putObj hrow _ hK rfl, hB.trans (belowK_b (w := w) (Nat.le_refl _) W D _ _ (by omega) hK rfl rfl)⟩
 case stop =>
  rintro D c pre W _ _ h _
  exact h.elim
theorem collP_in (F : Fence) (n : Nat) (h8 : F.fn 76) (h11 : F.fn 112) (hro : F.round = none) (hn : 4 ≤ n) (g : Nat) (lb : Array Value) (hFg : F.fn g) (eg : ∀ args w, (callFunc g args).run Tryz.prog w = .ok (.enter g args) w)
    (S : List (Int × Int) → Prop) (N : Nat) (hN : N ≤ 1000000) (w : World) (hseq : SeqStopsK F (n - 1 - 1) Tryz.prog g lb (fun x : Int × Int => #[Pv x]) KeepsWalks S (fun _ => True) N w) :
    CallsIn F n Tryz.prog 76 #[.func (.func g) #[] lb] w fun e w' => ∃ (v : Value) (ss : List (Int × Int)), e = .returned v ∧ S ss ∧ w'.ownsRow w.heap.size 38 2 v ss.length (flatP ss) ∧ Below w.heap.size w w' := by
 have h1 : 1 ≤ n := by omega
 have e11 : ∀ args w, (callFunc 112 args).run Tryz.prog w = .ok (.enter 112 args) w := enters_of Tryz.func112 (by kernel_rfl) rfl
 refine callsIn_of_wp Tryz.func76 rfl h8 ?_ hro
 simp only [Tryz.ntmps76, List.size_toArray, List.length_cons, List.length_nil, Nat.reduceAdd, Nat.reduceSub, Array.replicate_succ, Array.replicate_zero, List.push_toArray, List.append_toArray, List.nil_append, List.cons_append]
 gi_wp2_with (gi_at_fn 112; refine (apP_in F (n - 1) h11 hro (by omega) g lb hFg eg S N hN _ hseq).mono ?_; rintro e w' ⟨v, ss, rfl, hS, hrow, hb⟩)
 go_ret
 exact ⟨v, ss, rfl, hS, hrow, hb⟩
end Go.Proofs.YtcekilcgpgjooaaGreatDoor
