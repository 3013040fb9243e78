/- Proved here: contracts of the walk to BisimGraphs: the reference's Merged; each under the conditions that its own statement names. -/
import Derived.Test.YtcekilcgpgjooaaGreatDoorG20
import Derived.Deep.DrawnRows
set_option maxRecDepth 100000
set_option maxHeartbeats 40000000
namespace Go.Proofs.YtcekilcgpgjooaaGreatDoor
open Go.RowKit
open Go.Lib (hid)
attribute [local go_sem ↓] Go.wp_at_zero Go.wp_at_succ
structure Mrg (S : Nat → Prop) (w : World) (k n : Int) (t : V) (wl : List Int) (a c : Option Addr) (cap cp : Nat) (j : Nat) (va vw : Value) (xs : List Value) (acc : V) (aw : List Int) (wr : World) : Prop where
 box : wr.heap[w.heap.size]? = some (.cells #[.int .i64 n, .slice a t.len cap, .slice c wl.length cp] 58 (0, 0))
 res : wr.heap[w.heap.size + 1]? = some (.cells #[.int .i64 0, .slice none 0 0, .slice none 0 0] 58 (0, 0))
 out : wr.heap[w.heap.size + 2]? = some (.cells #[.int .i64 n, va, vw] 58 (0, 0))
 own : wr.ownsRow (w.heap.size + 3) 58 3 va acc.len xs
 ownw : wr.ownsRow (w.heap.size + 3) 3 1 vw aw.length (aw.map (Value.int .i64))
 row : acc.Row S w xs
 apart : va.ownBlock = none ∨ va.ownBlock ≠ vw.ownBlock
 eq : mrgA (wgt k) t wl .nil [] = mrgA (wgt k) (t.drop j) (wl.drop j) acc aw
 le : acc.len ≤ j
 pos : 0 < j → 0 < acc.len
 nil : acc.len = 0 → va = .slice none 0 0
 nilw : aw.length = 0 → vw = .slice none 0 0
 wt : (wgt k = true → aw.length = acc.len ∧ (∀ y ∈ aw, 1 ≤ y) ∧ sumL aw + sumL (wl.drop j) ≤ 1048576) ∧ (wgt k = false → aw = [])
 below : Below w.heap.size w wr
theorem addr_add (g b i : Nat) : (⟨g, b, none⟩ : Addr).add i = ⟨g, b + i, none⟩ := by unfold Addr.add; split <;> simp_all
structure MrgW (w : World) (n : Int) (t : V) (wl : List Int) (a c : Option Addr) (cap cp : Nat) (va vw : Value) (m m' : Nat) (xs ys : List Value) (wr : World) : Prop where
 box : wr.heap[w.heap.size]? = some (.cells #[.int .i64 n, .slice a t.len cap, .slice c wl.length cp] 58 (0, 0))
 res : wr.heap[w.heap.size + 1]? = some (.cells #[.int .i64 0, .slice none 0 0, .slice none 0 0] 58 (0, 0))
 out : wr.heap[w.heap.size + 2]? = some (.cells #[.int .i64 n, va, vw] 58 (0, 0))
 own : wr.ownsRow (w.heap.size + 3) 58 3 va m xs
 ownw : wr.ownsRow (w.heap.size + 3) 3 1 vw m' ys
 apart : va.ownBlock = none ∨ va.ownBlock ≠ vw.ownBlock
 below : Below w.heap.size w wr
theorem MrgW.kept {w wo w7 : World} {n : Int} {t : V} {wl : List Int} {a c : Option Addr} {cap cp m m' : Nat} {va vw : Value} {xs ys : List Value}
    (h : MrgW w n t wl a c cap cp va vw m m' xs ys wo) (hb : Below wo.heap.size wo w7) : MrgW w n t wl a c cap cp va vw m m' xs ys w7 :=
 ⟨by rw [hb.block _ (heap_lt h.box)]; exact h.box, by rw [hb.block _ (heap_lt h.res)]; exact h.res, by rw [hb.block _ (heap_lt h.out)]; exact h.out,
  h.own.kept (grown_below hb none) (by cases e : va.ownBlock <;> simp), h.ownw.kept (grown_below hb none) (by cases e : vw.ownBlock <;> simp), h.apart, h.below.trans (hb.mono h.below.size)⟩
theorem MrgW.drew {w wo : World} {n : Int} {t : V} {wl : List Int} {a c : Option Addr} {cap cp m m' : Nat} {va vw : Value} {xs ys : List Value}
    (h : MrgW w n t wl a c cap cp va vw m m' xs ys wo) : MrgW w n t wl a c cap cp va vw m m' xs ys wo.drew := ⟨h.box, h.res, h.out, h.own, h.ownw, h.apart, h.below.drew⟩
theorem own_lt {w : World} {lo : Nat} {e : TypeId} {size : Nat} {v : Value} {n : Nat} {xs : List Value} (h : w.ownsRow lo e size v n xs) {k : Nat} (hk : v.ownBlock = some k) : lo ≤ k := by
 rcases h.2 with ⟨rfl, _⟩ | ⟨g, cap, cur, rfl, hb, _⟩
 ·simp [Value.ownBlock] at hk
 ·simp only [Value.ownBlock, Option.some.injEq] at hk; omega
theorem own_mono {w : World} {lo lo' : Nat} {e : TypeId} {size : Nat} {v : Value} {n : Nat} {xs : List Value} (h : w.ownsRow lo e size v n xs) (hl : lo' ≤ lo) : w.ownsRow lo' e size v n xs :=
 ⟨h.1, by rcases h.2 with h2 | ⟨g2, c2, u2, e1, e2, e3⟩; (exact Or.inl h2); (exact Or.inr ⟨g2, c2, u2, e1, by omega, e3⟩)⟩
theorem MrgW.ins {w wo w7 : World} {n : Int} {t : V} {wl : List Int} {a c : Option Addr} {cap cp m m' q B : Nat} {va vw v : Value} {xs ys zs : List Value}
    (h : MrgW w n t wl a c cap cp va vw m m' xs ys wo) (hb : Below wo.heap.size wo w7) (hB : wo.heap.size ≤ B) (ho : w7.ownsRow B 58 3 v q zs) :
    MrgW w n t wl a c cap cp v vw q m' zs ys (w7.setCell ⟨w.heap.size + 2, 1, none⟩ v) := by
 have hlo := heap_lt h.out
 have h7 := h.kept hb
 have hs : w7.grownBy (w7.setCell ⟨w.heap.size + 2, 1, none⟩ v) (some (w.heap.size + 2)) :=
  ⟨rfl, rfl, rfl, by simp [World.setCell], fun k _ hk => Below.heap_setCell _ _ _ _ (fun e => hk (by rw [e]))⟩
 refine ⟨?_, ?_, set_second h7.out, (own_mono ho (by omega)).kept hs ?_, h7.ownw.kept hs (Or.inr (fun e => by have := own_lt h7.ownw e; omega)), ?_, h7.below.setCell (by simp) _⟩
 ·rw [Below.heap_setCell _ _ _ _ (by simp)]; exact h7.box
 ·rw [Below.heap_setCell _ _ _ _ (by simp)]; exact h7.res
 ·exact Or.inr (fun e => by have := own_lt ho e; omega)
 ·rcases hv : v.ownBlock with _ | k
  ·exact Or.inl rfl
  ·refine Or.inr (fun e => ?_)
   have h1 := own_lt ho hv
   have h2 := (h.ownw.lt k e.symm).2
   omega
theorem set_third {w : World} {b : Nat} {x0 x1 x2 v : Value} {t : TypeId} (h : w.heap[b]? = some (.cells #[x0, x1, x2] t (0, 0))) : (w.setCell ⟨b, 2, none⟩ v).heap[b]? = some (.cells #[x0, x1, v] t (0, 0)) := by
 rw [heap_setCell_same _ _ _ _ _ _ h]; rfl
theorem MrgW.insW {w wo w7 : World} {n : Int} {t : V} {wl : List Int} {a c : Option Addr} {cap cp m m' q B : Nat} {va vw v : Value} {xs ys zs : List Value}
    (h : MrgW w n t wl a c cap cp va vw m m' xs ys wo) (hb : Below wo.heap.size wo w7) (hB : wo.heap.size ≤ B) (ho : w7.ownsRow B 3 1 v q zs) :
    MrgW w n t wl a c cap cp va v m q xs zs (w7.setCell ⟨w.heap.size + 2, 2, none⟩ v) := by
 have hlo := heap_lt h.out
 have h7 := h.kept hb
 have hs : w7.grownBy (w7.setCell ⟨w.heap.size + 2, 2, none⟩ v) (some (w.heap.size + 2)) :=
  ⟨rfl, rfl, rfl, by simp [World.setCell], fun k _ hk => Below.heap_setCell _ _ _ _ (fun e => hk (by rw [e]))⟩
 refine ⟨?_, ?_, set_third h7.out, h7.own.kept hs (Or.inr (fun e => by have := own_lt h7.own e; omega)), (own_mono ho (by omega)).kept hs ?_, ?_, h7.below.setCell (by simp) _⟩
 ·rw [Below.heap_setCell _ _ _ _ (by simp)]; exact h7.box
 ·rw [Below.heap_setCell _ _ _ _ (by simp)]; exact h7.res
 ·exact Or.inr (fun e => by have := own_lt ho e; omega)
 ·rcases hv : va.ownBlock with _ | k
  ·exact Or.inl rfl
  ·refine Or.inr (fun e => ?_)
   have h1 := own_lt ho e.symm
   have h2 := (h.own.lt k hv).2
   omega
theorem MrgW.put {w wo : World} {n : Int} {t : V} {wl : List Int} {a c : Option Addr} {cap cp m m' g gc : Nat} {va : Value} {xs ys : List Value} (j : Nat) (u : Value)
    (h : MrgW w n t wl a c cap cp va (.slice (some ⟨g, 0, none⟩) m' gc) m m' xs ys wo) (_hj : j < m') :
    MrgW w n t wl a c cap cp va (.slice (some ⟨g, 0, none⟩) m' gc) m m' xs (ys.set j u) (wo.setCell ⟨g, j, none⟩ u) := by
 have hg := own_lt h.ownw (k := g) rfl
 have hs : wo.grownBy (wo.setCell ⟨g, j, none⟩ u) (some g) :=
  ⟨rfl, rfl, rfl, by simp [World.setCell], fun k _ hk => Below.heap_setCell _ _ _ _ (fun e => hk (by rw [e]))⟩
 refine ⟨?_, ?_, ?_, h.own.kept hs ?_, (h.ownw.stored j u).1, h.apart, h.below.setCell (by simp; omega) _⟩
 ·rw [Below.heap_setCell _ _ _ _ (by simp; omega)]; exact h.box
 ·rw [Below.heap_setCell _ _ _ _ (by simp; omega)]; exact h.res
 ·rw [Below.heap_setCell _ _ _ _ (by simp; omega)]; exact h.out
 ·rcases h.apart with e | e
  ·exact Or.inl e
  ·exact Or.inr e
theorem insK_lens (n : Int) (k : V) (ws : List Int) : ∀ acc : V, 0 < (insK n k ws acc).len ∧ acc.len ≤ (insK n k ws acc).len ∧ (insK n k ws acc).len ≤ acc.len + 1 := by
 intro acc
 induction acc with
 | nil => simp [insK, V.len]
 | cons n' k' ws' r _ ih =>
  simp only [insK]
  split
  ·simp [V.len]
  ·split
   ·simp [V.len]
   ·simp only [V.len]; omega
theorem Mrg.next {S : Nat → Prop} {w wo wr : World} {k n n1 : Int} {t k1 r1 acc : V} {wl ws1 aw aw' : List Int} {a c : Option Addr} {cap cp j : Nat} {va vw va' vw' : Value} {xs xs' : List Value} {M M' : Nat} {ys : List Value}
    (h : Mrg S w k n t wl a c cap cp j va vw xs acc aw wo) (hd : t.drop j = .cons n1 k1 ws1 r1) (hd1 : t.drop (j + 1) = r1) (hj : j < t.len) (hlw : wgt k = true → wl.length = t.len ∧ (∀ y ∈ wl, 1 ≤ y) ∧ sumL wl ≤ 1048576 ∧ (k = 7 → 0 < t.len))
    (hw : MrgW w n t wl a c cap cp va' vw' M M' xs' ys wr) (hM : M = (insK n1 k1 ws1 acc).len) (hM' : M' = aw'.length) (hys : ys = aw'.map (Value.int .i64))
    (haw : aw' = if wgt k = true then insW n1 k1 ws1 (wl.getD j 0) acc aw else aw) (hvw : wgt k = false → vw' = vw) (hrow : (insK n1 k1 ws1 acc).Row S w xs') :
    Mrg S w k n t wl a c cap cp (j + 1) va' vw' xs' (insK n1 k1 ws1 acc) aw' wr := by
 subst hM hM' hys
 obtain ⟨l1, l2, l3⟩ := insK_lens n1 k1 ws1 acc
 have hle := h.le
 have hx : ∀ hk : wgt k = true, ∃ hl : j < wl.length, wl.getD j 0 = wl[j] ∧ 1 ≤ wl[j] := fun hk => by
  obtain ⟨i1, i2, _⟩ := hlw hk
  have hl : j < wl.length := by omega
  exact ⟨hl, by simp [List.getD, List.getElem?_eq_getElem hl], i2 _ (List.getElem_mem hl)⟩
 have hwt : wgt k = true → aw'.length = (insK n1 k1 ws1 acc).len ∧ (∀ y ∈ aw', 1 ≤ y) ∧ sumL aw' + sumL (wl.drop (j + 1)) ≤ 1048576 := by
  intro hk
  obtain ⟨hl, e1, e2⟩ := hx hk
  obtain ⟨w1, w2, w3⟩ := h.wt.1 hk
  rw [if_pos hk, e1] at haw
  have := insW_ok (n := n1) (k := k1) (ws := ws1) e2 acc aw w1 w2
  rw [← haw] at this
  refine ⟨this.1, this.2, ?_⟩
  rw [haw, insW_sum _ _ _ _ _ _ w1]
  rw [sumL_drop hl] at w3
  omega
 refine ⟨hw.box, hw.res, hw.out, hw.own, hw.ownw, hrow, hw.apart, ?_, by omega, fun _ => l1, fun h0 => by omega, fun h0 => ?_, ⟨hwt, fun hk => by rw [haw, hk]; simpa using h.wt.2 hk⟩, hw.below⟩
 ·rw [h.eq, hd, hd1]
  simp only [mrgA]
  rw [haw]
  congr 1
  ·rw [List.tail_drop]
  ·cases hk : wgt k
   ·rfl
   ·obtain ⟨hl, e1, _⟩ := hx hk
    rw [e1, List.drop_eq_getElem_cons hl]; rfl
 ·cases hk : wgt k
  ·rw [hvw hk]; exact h.nilw (by rw [haw, hk] at h0; simpa using h0)
  ·have := (hwt hk).1; omega
theorem put_zero {aw : List Int} {p : Nat} {x : Int} (hp : p ≤ aw.length) : (aw.take p ++ 0 :: aw.drop p).set p ((aw.take p ++ 0 :: aw.drop p).getD p 0 + x) = aw.take p ++ x :: aw.drop p := by
 have h1 : (aw.take p).length = p := by simp; omega
 have h2 : (aw.take p ++ 0 :: aw.drop p).getD p 0 = 0 := by
  rw [List.getD_eq_getElem?_getD, List.getElem?_append_right (by omega), h1]; simp
 rw [h2, List.set_append_right _ _ (by omega), h1]; simp
theorem put_at {aw : List Int} {p : Nat} {x : Int} (hp : p < aw.length) : aw.set p x = aw.take p ++ x :: aw.drop (p + 1) := by
 rw [List.set_eq_take_append_cons_drop, if_pos hp]
theorem MrgW.done {S : Nat → Prop} {w wr : World} {n : Int} {t acc : V} {wl aw : List Int} {a c : Option Addr} {cap cp m m' : Nat} {va vw y0 y1 y2 : Value} {xs ys : List Value}
    (h : MrgW w n t wl a c cap cp va vw m m' xs ys wr) (hr : acc.Row S w xs) (hm : m = acc.len) (hm' : m' = aw.length) (hys : ys = aw.map (Value.int .i64)) (h1 : acc.len ≤ 1000000) (h2 : aw.length ≤ 1000000) :
    ∃ ga gc gw gwc, va = .slice ga acc.len gc ∧ vw = .slice gw aw.length gwc ∧ Vl (fun b => S b ∨ w.heap.size ≤ b) (((wr.setCell ⟨w.heap.size + 1, 0, none⟩ y0).setCell ⟨w.heap.size + 1, 1, none⟩ y1).setCell ⟨w.heap.size + 1, 2, none⟩ y2) ga acc ∧
     Ints (fun b => S b ∨ w.heap.size ≤ b) (((wr.setCell ⟨w.heap.size + 1, 0, none⟩ y0).setCell ⟨w.heap.size + 1, 1, none⟩ y1).setCell ⟨w.heap.size + 1, 2, none⟩ y2) gw aw ∧ Below w.heap.size w (((wr.setCell ⟨w.heap.size + 1, 0, none⟩ y0).setCell ⟨w.heap.size + 1, 1, none⟩ y1).setCell ⟨w.heap.size + 1, 2, none⟩ y2) := by
 subst hm hm' hys
 have hb : Below w.heap.size w (((wr.setCell ⟨w.heap.size + 1, 0, none⟩ y0).setCell ⟨w.heap.size + 1, 1, none⟩ y1).setCell ⟨w.heap.size + 1, 2, none⟩ y2) := ((h.below.setCell (by simp) _).setCell (by simp) _).setCell (by simp) _
 have hg : wr.grownBy (((wr.setCell ⟨w.heap.size + 1, 0, none⟩ y0).setCell ⟨w.heap.size + 1, 1, none⟩ y1).setCell ⟨w.heap.size + 1, 2, none⟩ y2) (some (w.heap.size + 1)) :=
  ⟨rfl, rfl, rfl, by simp [World.setCell], fun k _ hk => store3_far (fun e => hk (by rw [e]))⟩
 have ho := h.own.kept hg (Or.inr (fun e => by have := own_lt h.own e; omega))
 have hw := h.ownw.kept hg (Or.inr (fun e => by have := own_lt h.ownw e; omega))
 have hr' := hr.mono (w' := ((wr.setCell ⟨w.heap.size + 1, 0, none⟩ y0).setCell ⟨w.heap.size + 1, 1, none⟩ y1).setCell ⟨w.heap.size + 1, 2, none⟩ y2) (fun _ _ hv => hv.below hb) (fun _ _ hi => hi.below hb)
 obtain ⟨ga, gc, e1, v1⟩ := vl_of_row (S' := fun b => S b ∨ w.heap.size ≤ b) h1 ho hr' (fun b hb => Or.inl hb) (fun b _ hl => Or.inr (by omega))
 obtain ⟨gw, gwc, e2, v2⟩ := ints_of_row (S' := fun b => S b ∨ w.heap.size ≤ b) (by omega) hw (fun b hl => Or.inr (by omega))
 exact ⟨ga, gc, gw, gwc, e1, e2, v1, v2, hb⟩
theorem div_step {aw : List Int} {jj : Nat} (h : jj < aw.length) (f : Int → Int) (g : Int → Value) : (((aw.take jj).map f ++ aw.drop jj).map g).set jj (g (f aw[jj])) = ((aw.take (jj + 1)).map f ++ aw.drop (jj + 1)).map g := by
 have h1 : ((aw.take jj).map f).length = jj := by simp; omega
 rw [List.drop_eq_getElem_cons h, ← List.take_append_getElem h]
 simp only [List.map_append, List.map_cons, List.map_nil]
 rw [List.set_append_right _ _ (by simp; omega)]
 have h2 : jj - (List.map g (List.map f (List.take jj aw))).length = 0 := by simp; omega
 rw [h2]
 simp
theorem gcdL_gt : ∀ (l : List Int) (d : Nat), 0 < d → 0 < gcdL d l := by
 intro l
 induction l with
 | nil => intro d h; exact h
 | cons x r ih => intro d h; exact ih _ (Nat.gcd_pos_of_pos_left _ h)
theorem merged_any : MergedOk := by
 intro S k n t wl a c cap cp w hv hi htl hwr
 obtain ⟨W, hW⟩ : ∃ W : World, W = ((w.alloc (Obj.cells #[.int .i64 n, Value.slice a t.len cap, Value.slice c wl.length cp] 58)).alloc (Obj.cells #[.int .i64 0, Value.slice none 0 0, Value.slice none 0 0] 58)).alloc (Obj.cells #[.int .i64 n, Value.slice none 0 0, Value.slice none 0 0] 58) := ⟨_, rfl⟩
 have hWb : Below w.heap.size w W := by rw [hW]; exact (ba2 _ _ _).alloc (by simp; omega) _
 have g0 : W.heap[w.heap.size]? = some (Obj.cells #[.int .i64 n, Value.slice a t.len cap, Value.slice c wl.length cp] 58 (0, 0)) := by rw [hW, Below.heap_alloc _ _ _ (by simp; omega)]; exact heap_old2 _ _ _
 have g1 : W.heap[w.heap.size + 1]? = some (Obj.cells #[.int .i64 0, Value.slice none 0 0, Value.slice none 0 0] 58 (0, 0)) := by rw [hW, Below.heap_alloc _ _ _ (by simp)]; exact heap_new2 _ _ _
 have g2 : W.heap[w.heap.size + 2]? = some (Obj.cells #[.int .i64 n, Value.slice none 0 0, Value.slice none 0 0] 58 (0, 0)) := by rw [hW]; exact look_new (by simp) rfl
 have HWL := hid (show wgt k = true → wl.length = t.len ∧ (∀ y ∈ wl, 1 ≤ y) ∧ sumL wl ≤ 1048576 ∧ (k = 7 → 0 < t.len) by
  intro h
  unfold weighsR at hwr
  rw [if_pos h] at hwr
  simp only [Bool.and_eq_true, Bool.or_eq_true, decide_eq_true_eq] at hwr
  obtain ⟨h1, h2⟩ := wOk_sum wl _ (by omega) hwr.1
  exact ⟨hwr.2.1, h2, h1, fun h7 => by omega⟩)
 have start : Mrg S w k n t wl a c cap cp 0 (.slice none 0 0) (.slice none 0 0) [] .nil [] W := ⟨g0, g1, g2, World.ownsRow_nil _ _ _ _, World.ownsRow_nil _ _ _ _, rfl, Or.inl rfl, by simp, Nat.le_refl _, fun h => absurd h (by omega), fun _ => rfl, fun _ => rfl, ⟨fun h => ⟨rfl, fun y hy => by simp at hy, by simpa [sumL] using (HWL.out h).2.2.1⟩, fun _ => rfl⟩, hWb⟩
 have hlt0 := hv.1
 have hlw0 := hi.1
 obtain ⟨c0, c1, c2⟩ := cells_of g0
 have HS := hid start
 clear g0 g1 g2 start hwr
 go_enter Tryz.func161, Tryz.ntmps161
 go_wp2_with fail
 rw [← hW]
 clear hW
 go_loopw [20] (fun i wr => ∃ (j : Nat) (va vw : Value) (xs : List Value) (acc : V) (aw : List Int), j ≤ t.len ∧ i = .int .i64 j ∧ Mrg S w k n t wl a c cap cp j va vw xs acc aw wr) (fun i _ => t.len - (intOf i).toNat)
 case atStart => exact ⟨0, _, _, _, _, _, Nat.zero_le _, rfl, HS.out⟩
 case round =>
  obtain ⟨j, va, vw, xs, acc, aw, hj, rfl, hm⟩ := hrel
  obtain ⟨wo, rfl⟩ : ∃ wo : World, wo = wr := ⟨_, rfl⟩
  have HM := hid hm
  obtain ⟨c0, c1, c2⟩ := cells_of hm.box
  obtain ⟨o0, o1, o2⟩ := cells_of hm.out
  have hal := hm.le
  by_cases hlt : j < t.len
  ·obtain ⟨b, o, rfl, hat⟩ := hv.addr hlt
   obtain ⟨n1, k1, ws1, r1, hd, hd1⟩ := V.drop_lt hlt
   obtain ⟨d0, ⟨a1, cap1, d1, hv1⟩, ⟨c1', cp1, d2, hi1⟩⟩ := hat.get hd
   replace d0 := cell_below hm.below d0
   replace d1 := cell_below hm.below d1
   replace d2 := cell_below hm.below d2
   obtain ⟨X, hX⟩ : ∃ X : World, X = wo.alloc (Obj.cells #[.int .i64 n1, Value.slice a1 k1.len cap1, Value.slice c1' ws1.length cp1] 58) := ⟨_, rfl⟩
   have hXb : Below wo.heap.size wo X := by rw [hX]; exact ba _ _
   have hXx : X.heap[wo.heap.size]? = some (Obj.cells #[.int .i64 n1, Value.slice a1 k1.len cap1, Value.slice c1' ws1.length cp1] 58 (0, 0)) := by rw [hX]; exact heap_new _ _
   obtain ⟨y0, y1, y2⟩ := cells_of hXx
   have p1 := cell_below hXb o1
   have p2 := cell_below hXb o2
   have HD := hid hd
   have HD1 := hid hd1
   clear hm hd hd1 hat
   have hva : ∃ ga gc, va = .slice ga acc.len gc := by
    rcases HM.out.own.2 with ⟨rfl, h⟩ | ⟨g, cap', cur, rfl, _⟩
    ·exact ⟨none, 0, by rw [h]⟩
    ·exact ⟨_, _, rfl⟩
   obtain ⟨ga, gc, rfl⟩ := hva
   have hvw : ∃ gw gwc, vw = .slice gw aw.length gwc := by
    rcases HM.out.ownw.2 with ⟨rfl, h⟩ | ⟨g, cap', cur, rfl, _⟩
    ·exact ⟨none, 0, by rw [h]⟩
    ·exact ⟨_, _, rfl⟩
   obtain ⟨gw, gwc, rfl⟩ := hvw
   repeat ((fail_if_success (show Code.wp _ (Code.block 2 _) _ _ _)); (first | go_values | go_skip | go_guarded | go_step | go_upon | go_back))
   rw [← hX]
   clear hX
   have hac : acc.len ≤ 100000 := by omega
   go_cut [8, 9, 20] from 20 to 97 (fun s8 s9 s20 wx => ∃ (p : Nat) (cc : Int), p ≤ acc.len ∧ s8 = .int .i64 p ∧ s9 = .int .i64 cc ∧ s20 = .int .i64 j ∧ -1 ≤ cc ∧ cc ≤ 1 ∧ RowKit.Hid (CondAt n1 k1 ws1 acc p cc) ∧ Below X.heap.size X wx)
   case rest =>
    obtain ⟨p, cc, hp, rfl, rfl, rfl, hc0, hc1, HCD, hb⟩ := hcut
    have hbr := hXb.trans (hb.mono hXb.size)
    have q1 := cell_below hb p1
    have hgap : acc.len ≤ gc ∧ gc ≤ 9223372036854775807 := by
     rcases HM.out.own.2 with ⟨h, h'⟩ | ⟨g, cap', cur, h, _, _, h5, h6, _⟩
     ·simp only [Value.slice.injEq] at h; unfold maxLen at *; omega
     ·simp only [Value.slice.injEq] at h; unfold maxLen at *; omega
    go_upto_region 10 with fail
    go_cut [8, 20, 53] from 20 to 97 (fun s8 s20 s53 wx => s8 = .int .i64 p ∧ s20 = .int .i64 j ∧ s53 = .bool (decide (p = acc.len ∨ cc < 0)) ∧ Below X.heap.size X wx)
    case rest =>
     clear hbr q1
     obtain ⟨rfl, rfl, rfl, hb⟩ := hcut
     obtain ⟨wr, rfl⟩ : ∃ wr : World, wr = wc := ⟨_, rfl⟩
     have hbr := hXb.trans (hb.mono hXb.size)
     have x0 := cell_below hb y0
     have x1 := cell_below hb y1
     have x2 := cell_below hb y2
     have q1 := cell_below hb p1
     have HMW := hid (show MrgW w n t wl (some ⟨b, o, none⟩) c cap cp (.slice ga acc.len gc) (.slice gw aw.length gwc) acc.len aw.length xs (aw.map (Value.int .i64)) wr from MrgW.kept ⟨HM.out.box, HM.out.res, HM.out.out, HM.out.own, HM.out.ownw, HM.out.apart, HM.out.below⟩ hbr)
     by_cases hins : p = acc.len ∨ cc < 0
     ·have HIN := hid (HCD.out.ins hins)
      rw [decide_eq_true hins]
      clear hins
      go_upto_region 11 with fail
      go_cut [8, 20] from 20 to 97 (fun s8 s20 wx => s8 = .int .i64 p ∧ s20 = .int .i64 j ∧ ∃ v3, MrgW w n t wl (some ⟨b, o, none⟩) c cap cp v3 (.slice gw aw.length gwc) (acc.len + 1) aw.length ((xs.take (p * 3) ++ [.int .i64 n1, .slice a1 k1.len cap1, .slice c1' ws1.length cp1]) ++ xs.drop (p * 3)) (aw.map (Value.int .i64)) wx)
      case rest =>
       obtain ⟨rfl, rfl, v3, hmw⟩ := hcut
       obtain ⟨wz, rfl⟩ : ∃ wz : World, wz = wc := ⟨_, rfl⟩
       have HMZ := hid hmw
       have HROW := hid (show (insK n1 k1 ws1 acc).Row S w ((xs.take (p * 3) ++ [.int .i64 n1, .slice a1 k1.len cap1, .slice c1' ws1.length cp1]) ++ xs.drop (p * 3)) by
        obtain ⟨pp, qq, e1, e2, e3, _⟩ := HIN.out
        have := HM.out.row
        rw [e3, e2]
        rw [e1] at this
        exact V.Row.put this hv1 hi1)
       have HLEN := hid (show acc.len + 1 = (insK n1 k1 ws1 acc).len by
        obtain ⟨pp, qq, e1, e2, e3, _⟩ := HIN.out
        rw [e3, e1, V.app_len, V.app_len]; simp only [V.len]; omega)
       clear hmw x0 x1 x2 q1 hbr hb
       go_wp2_with fail
       refine (weighted_any k _).mono ?_
       rintro e w' ⟨rfl, rfl⟩
       cases hk : wgt k
       ·have HK := hid hk
        clear hk
        go_wp2_with fail
        refine (weighted_any k _).mono ?_
        rintro e w' ⟨rfl, rfl⟩
        rw [HK.out]
        go_wp2_with fail
        go_roundw
        case rel => exact ⟨j + 1, v3, _, _, insK n1 k1 ws1 acc, aw, by omega, by go_num, HM.out.next HD.out HD1.out hlt HWL.out HMZ.out HLEN.out rfl rfl (by rw [HK.out]; rfl) (fun _ => rfl) HROW.out⟩
        case measure => simp [intOf]; omega
       ·have HK := hid hk
        clear hk
        have HAWL := hid (HM.out.wt.1 HK.out).1
        have hple : p ≤ aw.length := by have := HAWL.out; omega
        have hlit : aw.length ≤ 100000 := by have := HAWL.out; omega
        obtain ⟨_, _, q2⟩ := cells_of HMZ.out.out
        have hgapw : aw.length ≤ gwc ∧ gwc ≤ 9223372036854775807 := by
         rcases HM.out.ownw.2 with ⟨h, h'⟩ | ⟨g, cap', cur, h, _, _, h5, h6, _⟩
         ·simp only [Value.slice.injEq] at h; unfold maxLen at *; omega
         ·simp only [Value.slice.injEq] at h; unfold maxLen at *; omega
        go_upto_region 13 with fail
        go_cut [8, 20] from 20 to 97 (fun s8 s20 wx => s8 = .int .i64 p ∧ s20 = .int .i64 j ∧ ∃ gz cz, MrgW w n t wl (some ⟨b, o, none⟩) c cap cp v3 (.slice (some ⟨gz, 0, none⟩) (aw.length + 1) cz) (acc.len + 1) (aw.length + 1) ((xs.take (p * 3) ++ [.int .i64 n1, .slice a1 k1.len cap1, .slice c1' ws1.length cp1]) ++ xs.drop (p * 3)) ((aw.take p ++ 0 :: aw.drop p).map (Value.int .i64)) wx)
        case rest =>
         obtain ⟨rfl, rfl, gz, cz, hmw⟩ := hcut
         obtain ⟨wy, rfl⟩ : ∃ wy : World, wy = wc := ⟨_, rfl⟩
         have HMY := hid hmw
         clear hmw q2
         obtain ⟨bw, hbw⟩ : ∃ bw, bw = aw.take p ++ 0 :: aw.drop p := ⟨_, rfl⟩
         rw [← hbw] at HMY
         have HBW := hid (show bw.length = aw.length + 1 ∧ (∀ y ∈ bw, 0 ≤ y ∧ y ≤ 1048576) ∧ ∀ x, bw.set p (bw.getD p 0 + x) = insW n1 k1 ws1 x acc aw by
          subst hbw
          obtain ⟨w1, w2, w3⟩ := HM.out.wt.1 HK.out
          refine ⟨by simp; omega, fun y hy => ?_, fun x => by rw [put_zero (by omega)]; obtain ⟨pp, qq, _, _, _, e4⟩ := HIN.out; exact (e4 x aw w1).symm⟩
          have h0 := sumL_pos (a := wl.drop j) (fun y hy => (HWL.out HK.out).2.1 y (List.mem_of_mem_drop hy))
          simp only [List.mem_append, List.mem_cons] at hy
          rcases hy with hy | rfl | hy
          ·have h1 := w2 y (List.mem_of_mem_take hy); have h2 := sumL_mem w2 (List.mem_of_mem_take hy); omega
          ·omega
          ·have h1 := w2 y (List.mem_of_mem_drop hy); have h2 := sumL_mem w2 (List.mem_of_mem_drop hy); omega)
         clear hbw
         have hpb : p < aw.length + 1 := by omega
         have hmm : aw.length + 1 = bw.length := HBW.out.1.symm
         go_wp2_with fail
         refine (weighted_any k _).mono ?_
         rintro e w' ⟨rfl, rfl⟩
         rw [HK.out]
         obtain ⟨x, hx⟩ : ∃ x, x = wl.getD j 0 := ⟨_, rfl⟩
         obtain ⟨y, hy⟩ : ∃ y, y = bw.getD p 0 := ⟨_, rfl⟩
         have hjl : j < wl.length := by have := (HWL.out HK.out).1; omega
         have hxx : wl[j] = x := by rw [hx]; simp [List.getD, List.getElem?_eq_getElem hjl]
         have hxb : 1 ≤ x ∧ x ≤ 1048576 := by
          have h1 := (HWL.out HK.out).2.1 _ (List.getElem_mem hjl)
          have h2 := sumL_mem (HWL.out HK.out).2.1 (List.getElem_mem hjl)
          have h3 := (HWL.out HK.out).2.2.1
          omega
         have hyy : bw[p]? = some y := by rw [hy, List.getD_eq_getElem?_getD, List.getElem?_eq_getElem (by omega)]; rfl
         have hyb := HBW.out.2.1 y (List.mem_of_getElem? hyy)
         obtain ⟨b2, o2, hce, dw⟩ := hi.get hjl
         rw [hxx] at dw
         have hblt := lt_of_cell dw
         replace dw := cell_below HMY.out.below dw
         obtain ⟨_, _, cw⟩ := cells_of HMY.out.box
         obtain ⟨_, _, oW⟩ := cells_of HMY.out.out
         have py : wy.cell? ⟨gz, p, none⟩ = some (.int .i64 y) := by
          have := HMY.out.ownw.cells (g := gz) rfl p (.int .i64 y) (by simp [hyy])
          rwa [addr_add, Nat.zero_add] at this
         have hfz : wy.frozen? ⟨gz, p, none⟩ = false := HMY.out.ownw.frozenAt p
         have hne1 := own_lt HMY.out.ownw (k := gz) rfl
         have HSET := hid (show (bw.map (Value.int .i64)).set p (.int .i64 (y + x)) = (insW n1 k1 ws1 (wl.getD j 0) acc aw).map (Value.int .i64) by
          rw [← HBW.out.2.2, ← hx, ← hy, List.map_set])
         have HSL := hid (show (insW n1 k1 ws1 (wl.getD j 0) acc aw).length = bw.length by rw [← HBW.out.2.2]; simp)
         have HCE := hid hce
         rw [hce] at cw
         have hb2 : b2 ≠ gz := by omega
         have e1 : (0 : Int) ≤ (p : Int) := by omega
         have e2 : (p : Int) < (bw.length : Int) := by have := (List.getElem?_eq_some_iff.1 hyy).1; omega
         clear hx hy hxx hyy hce
         go_upto_region 15 with fail
         go_region_law (first | fail)
         all_goals go_wp2_with fail
         all_goals go_roundw
         all_goals first
          | (case measure => simp [intOf]; omega)
          | skip
         all_goals
          case rel => exact ⟨j + 1, v3, .slice (some ⟨gz, 0, none⟩) (aw.length + 1) cz, ((xs.take (p * 3) ++ [.int .i64 n1, .slice a1 k1.len cap1, .slice c1' ws1.length cp1]) ++ xs.drop (p * 3)), insK n1 k1 ws1 acc, insW n1 k1 ws1 (wl.getD j 0) acc aw, by omega, by go_num, HM.out.next (M' := aw.length + 1) HD.out HD1.out hlt HWL.out (HMY.out.put p (.int .i64 (y + x)) hpb).drew HLEN.out (by rw [HSL.out]; exact hmm) HSET.out (by rw [if_pos HK.out]) (fun h => absurd h (by rw [HK.out]; decide)) HROW.out⟩
        obtain ⟨i1, ui, uz0, uz1, uz2⟩ := info_parts infoI
        obtain ⟨ys, hys⟩ : ∃ ys, ys = aw.map (Value.int .i64) := ⟨_, rfl⟩
        have HYE := hid (show (ys.take (p * 1) ++ [.int .i64 0]) ++ ys.drop (p * 1) = (aw.take p ++ 0 :: aw.drop p).map (Value.int .i64) by subst hys; simp)
        have HYL := hid (show ys.length = aw.length by subst hys; simp)
        rw [← hys] at HMZ
        have HL := hid (show (ys.take (p * 1)).length = p * 1 ∧ (ys.drop (p * 1)).length = (aw.length - p) * 1 by have := HYL.out; simp; omega)
        have HONE := hid (fun (l : List Value) (hl : ∀ u ∈ l, u ∈ ys) => show ∀ u ∈ l, u.oneCell' = true from fun u hu => by have := hl u hu; rw [hys] at this; exact ints_oneCell .i64 aw u this)
        clear hys
        have hlo := heap_lt HMZ.out.out
        obtain ⟨wr, rfl⟩ : ∃ wr : World, wr = wz := ⟨_, rfl⟩
        have hK := (Below.refl wr.heap.size wr).drew
        have HFZ := hid (fun Y (hY : Below wr.heap.size wr Y) => show Y.frozen? ⟨w.heap.size + 2, 2, none⟩ = false from frozen_of (show Y.heap[w.heap.size + 2]? = _ by rw [hY.block _ (heap_lt HMZ.out.out)]; exact HMZ.out.out))
        have q1w := q2
        have hlr : w.heap.size + 1 + 1 < wr.heap.size := by omega
        by_cases hz : aw.length = 0
        ·obtain ⟨rfl, rfl⟩ : gw = none ∧ gwc = 0 := by have := HM.out.nilw hz; simp only [Value.slice.injEq] at this; exact ⟨this.1, this.2.2⟩
         have hp0 : p = 0 := by omega
         have HYE2 := hid (show [.int .i64 0] = (aw.take p ++ 0 :: aw.drop p).map (Value.int .i64) by rw [← HYE.out]; have := HYL.out; rw [hz] at this; rw [List.length_eq_zero_iff.1 this]; simp)
         have HZ := hid hz
         clear hz
         subst hp0
         as_aux_lemma =>
          go_region_law (first | (refine step_append_any (w0 := wr) (by rfl) _ _ 45 (by rfl) 3 i1 (.int .i64 0) 1 8 Tryz.underlying45 ui uz0 uz1 uz2 rfl (by omega) v2 1 _ (by rfl) hown2 none 0 0 [] (by rfl) rfl (fun j' u' hu => by simp at hu) (fun u hu => by simp at hu) (by unfold maxLen; omega) (by omega) hK ?_; intro v3 w7 hown3 hK hgr3 hat3; obtain ⟨g3, cq3, rfl, _, _⟩ := hown3.form (by omega); have q1 := cell_below hK q1w; have hfz := HFZ.out _ hK; have hl9 := Nat.lt_of_lt_of_le hlr hK.size) | (refine step_append_any (w0 := wr) (by rfl) _ _ 45 (by rfl) 3 i1 (.int .i64 0) 1 8 Tryz.underlying45 ui uz0 uz1 uz2 rfl (by omega) (.slice none 0 0) 0 [] (by rfl) (World.ownsRow_nil _ _ _ _) (some ⟨wr.heap.size, 0, none⟩) 1 1 [.int .i64 0] (by rfl) rfl (news_box (heap_new _ _) (by rfl)) (by simp [Value.oneCell']) (by unfold maxLen; omega) (by omega) (hK.alloc hK.size (.cells #[.int .i64 0] 3)) ?_; intro v2 w6 hown2 hK hgr2 hat2; simp only [Nat.zero_add, List.nil_append] at hown2; have q1 := cell_below hK q1w; have hfz := HFZ.out _ hK; have hl9 := Nat.lt_of_lt_of_le hlr hK.size) | fail)
          all_goals (go_wp2_with fail; go_meet; exact ⟨rfl, rfl, _, _, by have hh := HMZ.out.insW hK (Nat.le_refl _) hown3; have hz2 := HZ.out; rw [← HYE2.out]; rw [hz2]; exact hh⟩)
        ·obtain ⟨g, rfl⟩ : ∃ g, gw = some ⟨g, 0, none⟩ := by
          rcases HM.out.ownw.2 with ⟨h, h'⟩ | ⟨g, cap', cur, h, _⟩
          ·omega
          ·simp only [Value.slice.injEq] at h; exact ⟨g, h.1⟩
         have H0 := hid (fun Y (hY : Below wr.heap.size wr Y) => own_part (HMZ.out.kept hY).ownw)
         have hgl : (aw.length : Int) ≤ gwc := by omega
         by_cases hpn : gwc = p
         ·have H1 := hid (fun (Y : World) (hY : Below wr.heap.size wr Y) (j' : Nat) (u' : Value) (hu : (ys.take (p * 1))[j']? = some u') => show ∃ ad, some (⟨g, 0, none⟩ : Addr) = some ad ∧ Y.cell? (ad.add j') = some u' from ⟨_, rfl, by
           obtain ⟨g', h1, h2⟩ := H0.out Y hY 0 j' u' (by rw [Nat.zero_mul, List.drop_zero]; rw [List.getElem?_take] at hu; split at hu; exact hu; cases hu)
           cases h1
           rw [Nat.zero_mul, Nat.zero_add] at h2
           rw [addr_add, Nat.zero_add]; exact h2⟩)
          have HDR := hid (show ys.drop (p * 1) = [] by rw [List.drop_eq_nil_iff, HYL.out]; omega)
          have hpi : (0 : Int) ≤ p := by omega
          have hqn : p = gwc := hpn.symm
          clear hpn
          subst hqn
          as_aux_lemma =>
           go_region_law (first | (refine step_append_any (w0 := wr) (by rfl) _ _ 45 (by rfl) 3 i1 (.int .i64 0) 1 8 Tryz.underlying45 ui uz0 uz1 uz2 rfl (by omega) v2 (p + 1) _ (by rfl) hown2 (some ⟨g, 0, none⟩) 0 0 [] (by rfl) rfl (fun j' u' hu => by simp at hu) (fun u hu => by simp at hu) (by unfold maxLen; omega) (by omega) hK ?_; intro v3 w7 hown3 hK hgr3 hat3; obtain ⟨g3, cq3, rfl, _, _⟩ := hown3.form (by omega); have q1 := cell_below hK q1w; have hfz := HFZ.out _ hK; have hl9 := Nat.lt_of_lt_of_le hlr hK.size) | (refine step_append_any (w0 := wr) (by rfl) _ _ 45 (by rfl) 3 i1 (.int .i64 0) 1 8 Tryz.underlying45 ui uz0 uz1 uz2 rfl (by omega) v1 p _ (by rfl) (hown1.alloc _) (some ⟨w5.heap.size, 0, none⟩) 1 1 [.int .i64 0] (by rfl) rfl (news_box (heap_new _ _) (by rfl)) (by simp [Value.oneCell']) (by unfold maxLen; omega) (by omega) (hK.alloc hK.size (.cells #[.int .i64 0] 3)) ?_; intro v2 w6 hown2 hK hgr2 hat2; have q1 := cell_below hK q1w; have hfz := HFZ.out _ hK; have hl9 := Nat.lt_of_lt_of_le hlr hK.size) | (refine step_append_any (w0 := wr) (by rfl) _ _ 45 (by rfl) 3 i1 (.int .i64 0) 1 8 Tryz.underlying45 ui uz0 uz1 uz2 rfl (by omega) (.slice none 0 0) 0 [] (by rfl) (World.ownsRow_nil _ _ _ _) (some ⟨g, 0, none⟩) p p (ys.take (p * 1)) (by rfl) HL.out.1 (H1.out _ (hK.alloc hK.size (.cells #[.int .i64 0] 3))) (HONE.out _ (fun u hu => List.mem_of_mem_take hu)) (by unfold maxLen; omega) (by omega) (hK.alloc hK.size (.cells #[.int .i64 0] 3)) ?_; intro v1 w5 hown1 hK hgr1 hat1; simp only [Nat.zero_add, List.nil_append] at hown1; (try rw [Nat.zero_add p]); have hq : w5.heap[wr.heap.size]? = some (Obj.cells #[.int .i64 0] 3 (0, 0)) := ((hgr1.block _ (by simp) (by simp [Value.ownBlock])).trans (heap_new _ _)); have q1 := cell_below hK q1w; have hfz := HFZ.out _ hK; have hl9 := Nat.lt_of_lt_of_le hlr hK.size) | (refine step_append_any (w0 := wr) (by rfl) _ _ 45 (by rfl) 3 i1 (.int .i64 0) 1 8 Tryz.underlying45 ui uz0 uz1 uz2 rfl (by omega) (.slice none 0 0) 0 [] (by rfl) (World.ownsRow_nil _ _ _ _) (some ⟨g, 0, none⟩) p p (ys.take (p * 1)) (by rfl) HL.out.1 (H1.out _ hK) (HONE.out _ (fun u hu => List.mem_of_mem_take hu)) (by unfold maxLen; omega) (by omega) hK ?_; intro v1 w5 hown1 hK hgr1 hat1; simp only [Nat.zero_add, List.nil_append] at hown1; (try rw [Nat.zero_add p]); have q1 := cell_below hK q1w; have hfz := HFZ.out _ hK; have hl9 := Nat.lt_of_lt_of_le hlr hK.size) | (refine step_append_any (w0 := wr) (by rfl) _ _ 45 (by rfl) 3 i1 (.int .i64 0) 1 8 Tryz.underlying45 ui uz0 uz1 uz2 rfl (by omega) v1 p _ (by rfl) hown1 (some ⟨wr.heap.size, 0, none⟩) 1 1 [.int .i64 0] (by rfl) rfl (news_box hq (by rfl)) (by simp [Value.oneCell']) (by unfold maxLen; omega) (by omega) hK ?_; intro v2 w6 hown2 hK hgr2 hat2; have q1 := cell_below hK q1w; have hfz := HFZ.out _ hK; have hl9 := Nat.lt_of_lt_of_le hlr hK.size) | fail)
           all_goals (go_wp2_with fail; go_meet; exact ⟨rfl, rfl, _, _, by have hh := HMZ.out.insW hK (Nat.le_refl _) hown3; rw [← HYE.out]; (try rw [HDR.out]); rw [show aw.length = p by omega]; exact hh⟩)
         ·have H1 := hid (fun (Y : World) (hY : Below wr.heap.size wr Y) (j' : Nat) (u' : Value) (hu : (ys.take (p * 1))[j']? = some u') => show ∃ ad, some (⟨g, 0, none⟩ : Addr) = some ad ∧ Y.cell? (ad.add j') = some u' from ⟨_, rfl, by
           obtain ⟨g', h1, h2⟩ := H0.out Y hY 0 j' u' (by rw [Nat.zero_mul, List.drop_zero]; rw [List.getElem?_take] at hu; split at hu; exact hu; cases hu)
           cases h1
           rw [Nat.zero_mul, Nat.zero_add] at h2
           rw [addr_add, Nat.zero_add]; exact h2⟩)
          have H3 := hid (fun (Y : World) (hY : Below wr.heap.size wr Y) (j' : Nat) (u' : Value) (hu : (ys.drop (p * 1))[j']? = some u') => show ∃ ad, some (⟨g, p, none⟩ : Addr) = some ad ∧ Y.cell? (ad.add j') = some u' from ⟨_, rfl, by
           obtain ⟨g', h1, h2⟩ := H0.out Y hY p j' u' hu
           cases h1
           rw [Nat.mul_one] at h2
           rw [addr_add]; exact h2⟩)
          have hpi : (0 : Int) ≤ p := by omega
          have hpg : (p : Int) ≤ gwc := by omega
          as_aux_lemma =>
           go_region_law (first | (refine step_append_any (w0 := wr) (by rfl) _ _ 45 (by rfl) 3 i1 (.int .i64 0) 1 8 Tryz.underlying45 ui uz0 uz1 uz2 rfl (by omega) v2 (p + 1) _ (by rfl) hown2 (some ⟨g, p, none⟩) (aw.length - p) (gwc - p) (ys.drop (p * 1)) (by rfl) HL.out.2 (H3.out _ hK) (HONE.out _ (fun u hu => List.mem_of_mem_drop hu)) (by unfold maxLen; omega) (by omega) hK ?_; intro v3 w7 hown3 hK hgr3 hat3; obtain ⟨g3, cq3, rfl, _, _⟩ := hown3.form (by omega); have q1 := cell_below hK q1w; have hfz := HFZ.out _ hK; have hl9 := Nat.lt_of_lt_of_le hlr hK.size) | (refine step_append_any (w0 := wr) (by rfl) _ _ 45 (by rfl) 3 i1 (.int .i64 0) 1 8 Tryz.underlying45 ui uz0 uz1 uz2 rfl (by omega) v1 p _ (by rfl) (hown1.alloc _) (some ⟨w5.heap.size, 0, none⟩) 1 1 [.int .i64 0] (by rfl) rfl (news_box (heap_new _ _) (by rfl)) (by simp [Value.oneCell']) (by unfold maxLen; omega) (by omega) (hK.alloc hK.size (.cells #[.int .i64 0] 3)) ?_; intro v2 w6 hown2 hK hgr2 hat2; have q1 := cell_below hK q1w; have hfz := HFZ.out _ hK; have hl9 := Nat.lt_of_lt_of_le hlr hK.size) | (refine step_append_any (w0 := wr) (by rfl) _ _ 45 (by rfl) 3 i1 (.int .i64 0) 1 8 Tryz.underlying45 ui uz0 uz1 uz2 rfl (by omega) (.slice none 0 0) 0 [] (by rfl) (World.ownsRow_nil _ _ _ _) (some ⟨g, 0, none⟩) p gwc (ys.take (p * 1)) (by rfl) HL.out.1 (H1.out _ (hK.alloc hK.size (.cells #[.int .i64 0] 3))) (HONE.out _ (fun u hu => List.mem_of_mem_take hu)) (by unfold maxLen; omega) (by omega) (hK.alloc hK.size (.cells #[.int .i64 0] 3)) ?_; intro v1 w5 hown1 hK hgr1 hat1; simp only [Nat.zero_add, List.nil_append] at hown1; (try rw [Nat.zero_add p]); have hq : w5.heap[wr.heap.size]? = some (Obj.cells #[.int .i64 0] 3 (0, 0)) := ((hgr1.block _ (by simp) (by simp [Value.ownBlock])).trans (heap_new _ _)); have q1 := cell_below hK q1w; have hfz := HFZ.out _ hK; have hl9 := Nat.lt_of_lt_of_le hlr hK.size) | (refine step_append_any (w0 := wr) (by rfl) _ _ 45 (by rfl) 3 i1 (.int .i64 0) 1 8 Tryz.underlying45 ui uz0 uz1 uz2 rfl (by omega) (.slice none 0 0) 0 [] (by rfl) (World.ownsRow_nil _ _ _ _) (some ⟨g, 0, none⟩) p gwc (ys.take (p * 1)) (by rfl) HL.out.1 (H1.out _ hK) (HONE.out _ (fun u hu => List.mem_of_mem_take hu)) (by unfold maxLen; omega) (by omega) hK ?_; intro v1 w5 hown1 hK hgr1 hat1; simp only [Nat.zero_add, List.nil_append] at hown1; (try rw [Nat.zero_add p]); have q1 := cell_below hK q1w; have hfz := HFZ.out _ hK; have hl9 := Nat.lt_of_lt_of_le hlr hK.size) | (refine step_append_any (w0 := wr) (by rfl) _ _ 45 (by rfl) 3 i1 (.int .i64 0) 1 8 Tryz.underlying45 ui uz0 uz1 uz2 rfl (by omega) v1 p _ (by rfl) hown1 (some ⟨wr.heap.size, 0, none⟩) 1 1 [.int .i64 0] (by rfl) rfl (news_box hq (by rfl)) (by simp [Value.oneCell']) (by unfold maxLen; omega) (by omega) hK ?_; intro v2 w6 hown2 hK hgr2 hat2; have q1 := cell_below hK q1w; have hfz := HFZ.out _ hK; have hl9 := Nat.lt_of_lt_of_le hlr hK.size) | fail)
           all_goals (go_wp2_with fail; go_meet; exact ⟨rfl, rfl, _, _, by have hh := HMZ.out.insW hK (Nat.le_refl _) hown3; rw [← HYE.out]; rw [show aw.length + 1 = p + 1 + (aw.length - p) by omega]; exact hh⟩)
      obtain ⟨i1, ui, uz0, uz1, uz2⟩ := info_parts infoV
      have HL := hid (show (xs.take (p * 3)).length = p * 3 ∧ (xs.drop (p * 3)).length = (acc.len - p) * 3 by have := HM.out.own.1; simp; omega)
      have HONE := hid (fun (l : List Value) (hl : ∀ u ∈ l, u ∈ xs) => show ∀ u ∈ l, u.oneCell' = true from fun u hu => V.Row.cells1 HM.out.row u (hl u hu))
      have hlo := heap_lt HMW.out.out
      have hlo0 := heap_lt HM.out.out
      have hxr := lt_of_cell x0
      have hK := (Below.refl wr.heap.size wr).drew
      have HFZ := hid (fun Y (hY : Below wr.heap.size wr Y) => show Y.frozen? ⟨w.heap.size + 2, 1, none⟩ = false from frozen_of (show Y.heap[w.heap.size + 2]? = _ by rw [hY.block _ (heap_lt HMW.out.out)]; exact HMW.out.out))
      have q1w := q1
      have hlr : w.heap.size + 1 + 1 < wr.heap.size := by omega
      by_cases hz : acc.len = 0
      ·have HXW := hid (show _ ∧ _ ∧ _ from ⟨x0, x1, x2⟩)
       obtain ⟨rfl, rfl⟩ : ga = none ∧ gc = 0 := by have := HM.out.nil hz; simp only [Value.slice.injEq] at this; exact ⟨this.1, this.2.2⟩
       have hp0 : p = 0 := by omega
       have hxs : xs = [] := List.eq_nil_of_length_eq_zero (by rw [HM.out.own.1, hz])
       have HXS := hid hxs
       have HZ := hid hz
       clear hxs hz
       subst hp0
       as_aux_lemma =>
        go_region_law (first | (refine step_append_any (w0 := wr) (by rfl) _ _ 25 (by rfl) 58 i1 (.agg #[.int .i64 0, .slice none 0 0, .slice none 0 0]) 3 56 Tryz.underlying25 ui uz0 uz1 uz2 rfl (by omega) v2 1 _ (by rfl) hown2 none 0 0 [] (by rfl) rfl (fun j' u' hu => by simp at hu) (fun u hu => by simp at hu) (by unfold maxLen; omega) (by omega) hK ?_; intro v3 w7 hown3 hK hgr3 hat3; obtain ⟨g3, cq3, rfl, _, _⟩ := hown3.form (by omega); have q1 := cell_below hK q1w; have x0 := cell_below hK HXW.out.1; have x1 := cell_below hK HXW.out.2.1; have x2 := cell_below hK HXW.out.2.2; have hfz := HFZ.out _ hK; have hl9 := Nat.lt_of_lt_of_le hlr hK.size) | (refine step_append_any (w0 := wr) (by rfl) _ _ 25 (by rfl) 58 i1 (.agg #[.int .i64 0, .slice none 0 0, .slice none 0 0]) 3 56 Tryz.underlying25 ui uz0 uz1 uz2 rfl (by omega) (.slice none 0 0) 0 [] (by rfl) (World.ownsRow_nil _ _ _ _) (some ⟨wr.heap.size, 0, none⟩) 1 1 [.int .i64 n1, .slice a1 k1.len cap1, .slice c1' ws1.length cp1] (by rfl) rfl (news_box (heap_new _ _) (by rfl)) (by simp [Value.oneCell']) (by unfold maxLen; omega) (by omega) (hK.alloc hK.size (.cells #[.int .i64 n1, .slice a1 k1.len cap1, .slice c1' ws1.length cp1] 58)) ?_; intro v2 w6 hown2 hK hgr2 hat2; simp only [Nat.zero_add, List.nil_append] at hown2; have q1 := cell_below hK q1w; have x0 := cell_below hK HXW.out.1; have x1 := cell_below hK HXW.out.2.1; have x2 := cell_below hK HXW.out.2.2; have hfz := HFZ.out _ hK; have hl9 := Nat.lt_of_lt_of_le hlr hK.size) | fail)
        all_goals (go_wp2_with fail; go_meet; exact ⟨rfl, rfl, _, by have hh := HMW.out.ins hK (Nat.le_refl _) hown3; have hz2 := HZ.out; (try rw [HXS.out]); (try rw [hz2]); exact hh⟩)
      ·obtain ⟨g, rfl⟩ : ∃ g, ga = some ⟨g, 0, none⟩ := by
        rcases HM.out.own.2 with ⟨h, h'⟩ | ⟨g, cap', cur, h, _⟩
        ·omega
        ·simp only [Value.slice.injEq] at h; exact ⟨g, h.1⟩
       have H0 := hid (fun Y (hY : Below wr.heap.size wr Y) => own_part (HMW.out.kept hY).own)
       by_cases hpn : gc = p
       ·have HXW := hid (show _ ∧ _ ∧ _ from ⟨x0, x1, x2⟩)
        have H1 := hid (fun (Y : World) (hY : Below wr.heap.size wr Y) (j' : Nat) (u' : Value) (hu : (xs.take (p * 3))[j']? = some u') => show ∃ ad, some (⟨g, 0, none⟩ : Addr) = some ad ∧ Y.cell? (ad.add j') = some u' from ⟨_, rfl, by
         obtain ⟨g', h1, h2⟩ := H0.out Y hY 0 j' u' (by rw [Nat.zero_mul, List.drop_zero]; rw [List.getElem?_take] at hu; split at hu; exact hu; cases hu)
         cases h1
         rw [Nat.zero_mul, Nat.zero_add] at h2
         rw [addr_add, Nat.zero_add]; exact h2⟩)
        have HDR := hid (show xs.drop (p * 3) = [] by rw [List.drop_eq_nil_iff, HM.out.own.1]; omega)
        have hpi : (0 : Int) ≤ p := by omega
        have hqn : p = gc := hpn.symm
        clear hpn
        subst hqn
        as_aux_lemma =>
         go_region_law (first | (refine step_append_any (w0 := wr) (by rfl) _ _ 25 (by rfl) 58 i1 (.agg #[.int .i64 0, .slice none 0 0, .slice none 0 0]) 3 56 Tryz.underlying25 ui uz0 uz1 uz2 rfl (by omega) v2 (p + 1) _ (by rfl) hown2 (some ⟨g, 0, none⟩) 0 0 [] (by rfl) rfl (fun j' u' hu => by simp at hu) (fun u hu => by simp at hu) (by unfold maxLen; omega) (by omega) hK ?_; intro v3 w7 hown3 hK hgr3 hat3; obtain ⟨g3, cq3, rfl, _, _⟩ := hown3.form (by omega); have q1 := cell_below hK q1w; have x0 := cell_below hK HXW.out.1; have x1 := cell_below hK HXW.out.2.1; have x2 := cell_below hK HXW.out.2.2; have hfz := HFZ.out _ hK; have hl9 := Nat.lt_of_lt_of_le hlr hK.size) | (refine step_append_any (w0 := wr) (by rfl) _ _ 25 (by rfl) 58 i1 (.agg #[.int .i64 0, .slice none 0 0, .slice none 0 0]) 3 56 Tryz.underlying25 ui uz0 uz1 uz2 rfl (by omega) v1 p _ (by rfl) (hown1.alloc _) (some ⟨w5.heap.size, 0, none⟩) 1 1 [.int .i64 n1, .slice a1 k1.len cap1, .slice c1' ws1.length cp1] (by rfl) rfl (news_box (heap_new _ _) (by rfl)) (by simp [Value.oneCell']) (by unfold maxLen; omega) (by omega) (hK.alloc hK.size (.cells #[.int .i64 n1, .slice a1 k1.len cap1, .slice c1' ws1.length cp1] 58)) ?_; intro v2 w6 hown2 hK hgr2 hat2; have q1 := cell_below hK q1w; have x0 := cell_below hK HXW.out.1; have x1 := cell_below hK HXW.out.2.1; have x2 := cell_below hK HXW.out.2.2; have hfz := HFZ.out _ hK; have hl9 := Nat.lt_of_lt_of_le hlr hK.size) | (refine step_append_any (w0 := wr) (by rfl) _ _ 25 (by rfl) 58 i1 (.agg #[.int .i64 0, .slice none 0 0, .slice none 0 0]) 3 56 Tryz.underlying25 ui uz0 uz1 uz2 rfl (by omega) (.slice none 0 0) 0 [] (by rfl) (World.ownsRow_nil _ _ _ _) (some ⟨g, 0, none⟩) p p (xs.take (p * 3)) (by rfl) HL.out.1 (H1.out _ (hK.alloc hK.size (.cells #[.int .i64 n1, .slice a1 k1.len cap1, .slice c1' ws1.length cp1] 58))) (HONE.out _ (fun u hu => List.mem_of_mem_take hu)) (by unfold maxLen; omega) (by omega) (hK.alloc hK.size (.cells #[.int .i64 n1, .slice a1 k1.len cap1, .slice c1' ws1.length cp1] 58)) ?_; intro v1 w5 hown1 hK hgr1 hat1; simp only [Nat.zero_add, List.nil_append] at hown1; (try rw [Nat.zero_add p]); have hq : w5.heap[wr.heap.size]? = some (Obj.cells #[.int .i64 n1, .slice a1 k1.len cap1, .slice c1' ws1.length cp1] 58 (0, 0)) := ((hgr1.block _ (by simp) (by simp [Value.ownBlock])).trans (heap_new _ _)); have q1 := cell_below hK q1w; have x0 := cell_below hK HXW.out.1; have x1 := cell_below hK HXW.out.2.1; have x2 := cell_below hK HXW.out.2.2; have hfz := HFZ.out _ hK; have hl9 := Nat.lt_of_lt_of_le hlr hK.size) | (refine step_append_any (w0 := wr) (by rfl) _ _ 25 (by rfl) 58 i1 (.agg #[.int .i64 0, .slice none 0 0, .slice none 0 0]) 3 56 Tryz.underlying25 ui uz0 uz1 uz2 rfl (by omega) (.slice none 0 0) 0 [] (by rfl) (World.ownsRow_nil _ _ _ _) (some ⟨g, 0, none⟩) p p (xs.take (p * 3)) (by rfl) HL.out.1 (H1.out _ hK) (HONE.out _ (fun u hu => List.mem_of_mem_take hu)) (by unfold maxLen; omega) (by omega) hK ?_; intro v1 w5 hown1 hK hgr1 hat1; simp only [Nat.zero_add, List.nil_append] at hown1; (try rw [Nat.zero_add p]); have q1 := cell_below hK q1w; have x0 := cell_below hK HXW.out.1; have x1 := cell_below hK HXW.out.2.1; have x2 := cell_below hK HXW.out.2.2; have hfz := HFZ.out _ hK; have hl9 := Nat.lt_of_lt_of_le hlr hK.size) | (refine step_append_any (w0 := wr) (by rfl) _ _ 25 (by rfl) 58 i1 (.agg #[.int .i64 0, .slice none 0 0, .slice none 0 0]) 3 56 Tryz.underlying25 ui uz0 uz1 uz2 rfl (by omega) v1 p _ (by rfl) hown1 (some ⟨wr.heap.size, 0, none⟩) 1 1 [.int .i64 n1, .slice a1 k1.len cap1, .slice c1' ws1.length cp1] (by rfl) rfl (news_box hq (by rfl)) (by simp [Value.oneCell']) (by unfold maxLen; omega) (by omega) hK ?_; intro v2 w6 hown2 hK hgr2 hat2; have q1 := cell_below hK q1w; have x0 := cell_below hK HXW.out.1; have x1 := cell_below hK HXW.out.2.1; have x2 := cell_below hK HXW.out.2.2; have hfz := HFZ.out _ hK; have hl9 := Nat.lt_of_lt_of_le hlr hK.size) | fail)
         all_goals (go_wp2_with fail; go_meet; exact ⟨rfl, rfl, _, by have hh := HMW.out.ins hK (Nat.le_refl _) hown3; (try rw [HDR.out]); (try rw [show acc.len = p by omega]); exact hh⟩)
       ·have HXW := hid (show _ ∧ _ ∧ _ from ⟨x0, x1, x2⟩)
        have H1 := hid (fun (Y : World) (hY : Below wr.heap.size wr Y) (j' : Nat) (u' : Value) (hu : (xs.take (p * 3))[j']? = some u') => show ∃ ad, some (⟨g, 0, none⟩ : Addr) = some ad ∧ Y.cell? (ad.add j') = some u' from ⟨_, rfl, by
         obtain ⟨g', h1, h2⟩ := H0.out Y hY 0 j' u' (by rw [Nat.zero_mul, List.drop_zero]; rw [List.getElem?_take] at hu; split at hu; exact hu; cases hu)
         cases h1
         rw [Nat.zero_mul, Nat.zero_add] at h2
         rw [addr_add, Nat.zero_add]; exact h2⟩)
        have H3 := hid (fun (Y : World) (hY : Below wr.heap.size wr Y) (j' : Nat) (u' : Value) (hu : (xs.drop (p * 3))[j']? = some u') => show ∃ ad, some (⟨g, p * 3, none⟩ : Addr) = some ad ∧ Y.cell? (ad.add j') = some u' from ⟨_, rfl, by
         obtain ⟨g', h1, h2⟩ := H0.out Y hY p j' u' hu
         cases h1
         rw [addr_add]; exact h2⟩)
        have hpi : (0 : Int) ≤ p := by omega
        have hpg : (p : Int) ≤ gc := by omega
        as_aux_lemma =>
         go_region_law (first | (refine step_append_any (w0 := wr) (by rfl) _ _ 25 (by rfl) 58 i1 (.agg #[.int .i64 0, .slice none 0 0, .slice none 0 0]) 3 56 Tryz.underlying25 ui uz0 uz1 uz2 rfl (by omega) v2 (p + 1) _ (by rfl) hown2 (some ⟨g, p * 3, none⟩) (acc.len - p) (gc - p) (xs.drop (p * 3)) (by rfl) HL.out.2 (H3.out _ hK) (HONE.out _ (fun u hu => List.mem_of_mem_drop hu)) (by unfold maxLen; omega) (by omega) hK ?_; intro v3 w7 hown3 hK hgr3 hat3; obtain ⟨g3, cq3, rfl, _, _⟩ := hown3.form (by omega); have q1 := cell_below hK q1w; have x0 := cell_below hK HXW.out.1; have x1 := cell_below hK HXW.out.2.1; have x2 := cell_below hK HXW.out.2.2; have hfz := HFZ.out _ hK; have hl9 := Nat.lt_of_lt_of_le hlr hK.size) | (refine step_append_any (w0 := wr) (by rfl) _ _ 25 (by rfl) 58 i1 (.agg #[.int .i64 0, .slice none 0 0, .slice none 0 0]) 3 56 Tryz.underlying25 ui uz0 uz1 uz2 rfl (by omega) v1 p _ (by rfl) (hown1.alloc _) (some ⟨w5.heap.size, 0, none⟩) 1 1 [.int .i64 n1, .slice a1 k1.len cap1, .slice c1' ws1.length cp1] (by rfl) rfl (news_box (heap_new _ _) (by rfl)) (by simp [Value.oneCell']) (by unfold maxLen; omega) (by omega) (hK.alloc hK.size (.cells #[.int .i64 n1, .slice a1 k1.len cap1, .slice c1' ws1.length cp1] 58)) ?_; intro v2 w6 hown2 hK hgr2 hat2; have q1 := cell_below hK q1w; have x0 := cell_below hK HXW.out.1; have x1 := cell_below hK HXW.out.2.1; have x2 := cell_below hK HXW.out.2.2; have hfz := HFZ.out _ hK; have hl9 := Nat.lt_of_lt_of_le hlr hK.size) | (refine step_append_any (w0 := wr) (by rfl) _ _ 25 (by rfl) 58 i1 (.agg #[.int .i64 0, .slice none 0 0, .slice none 0 0]) 3 56 Tryz.underlying25 ui uz0 uz1 uz2 rfl (by omega) (.slice none 0 0) 0 [] (by rfl) (World.ownsRow_nil _ _ _ _) (some ⟨g, 0, none⟩) p gc (xs.take (p * 3)) (by rfl) HL.out.1 (H1.out _ (hK.alloc hK.size (.cells #[.int .i64 n1, .slice a1 k1.len cap1, .slice c1' ws1.length cp1] 58))) (HONE.out _ (fun u hu => List.mem_of_mem_take hu)) (by unfold maxLen; omega) (by omega) (hK.alloc hK.size (.cells #[.int .i64 n1, .slice a1 k1.len cap1, .slice c1' ws1.length cp1] 58)) ?_; intro v1 w5 hown1 hK hgr1 hat1; simp only [Nat.zero_add, List.nil_append] at hown1; (try rw [Nat.zero_add p]); have hq : w5.heap[wr.heap.size]? = some (Obj.cells #[.int .i64 n1, .slice a1 k1.len cap1, .slice c1' ws1.length cp1] 58 (0, 0)) := ((hgr1.block _ (by simp) (by simp [Value.ownBlock])).trans (heap_new _ _)); have q1 := cell_below hK q1w; have x0 := cell_below hK HXW.out.1; have x1 := cell_below hK HXW.out.2.1; have x2 := cell_below hK HXW.out.2.2; have hfz := HFZ.out _ hK; have hl9 := Nat.lt_of_lt_of_le hlr hK.size) | (refine step_append_any (w0 := wr) (by rfl) _ _ 25 (by rfl) 58 i1 (.agg #[.int .i64 0, .slice none 0 0, .slice none 0 0]) 3 56 Tryz.underlying25 ui uz0 uz1 uz2 rfl (by omega) (.slice none 0 0) 0 [] (by rfl) (World.ownsRow_nil _ _ _ _) (some ⟨g, 0, none⟩) p gc (xs.take (p * 3)) (by rfl) HL.out.1 (H1.out _ hK) (HONE.out _ (fun u hu => List.mem_of_mem_take hu)) (by unfold maxLen; omega) (by omega) hK ?_; intro v1 w5 hown1 hK hgr1 hat1; simp only [Nat.zero_add, List.nil_append] at hown1; (try rw [Nat.zero_add p]); have q1 := cell_below hK q1w; have x0 := cell_below hK HXW.out.1; have x1 := cell_below hK HXW.out.2.1; have x2 := cell_below hK HXW.out.2.2; have hfz := HFZ.out _ hK; have hl9 := Nat.lt_of_lt_of_le hlr hK.size) | (refine step_append_any (w0 := wr) (by rfl) _ _ 25 (by rfl) 58 i1 (.agg #[.int .i64 0, .slice none 0 0, .slice none 0 0]) 3 56 Tryz.underlying25 ui uz0 uz1 uz2 rfl (by omega) v1 p _ (by rfl) hown1 (some ⟨wr.heap.size, 0, none⟩) 1 1 [.int .i64 n1, .slice a1 k1.len cap1, .slice c1' ws1.length cp1] (by rfl) rfl (news_box hq (by rfl)) (by simp [Value.oneCell']) (by unfold maxLen; omega) (by omega) hK ?_; intro v2 w6 hown2 hK hgr2 hat2; have q1 := cell_below hK q1w; have x0 := cell_below hK HXW.out.1; have x1 := cell_below hK HXW.out.2.1; have x2 := cell_below hK HXW.out.2.2; have hfz := HFZ.out _ hK; have hl9 := Nat.lt_of_lt_of_le hlr hK.size) | fail)
         all_goals (go_wp2_with fail; go_meet; exact ⟨rfl, rfl, _, by rw [show acc.len + 1 = p + 1 + (acc.len - p) by omega]; exact HMW.out.ins hK (Nat.le_refl _) hown3⟩)
     ·have HEQ := hid (HCD.out.eq hins)
      have hplt : p < acc.len ∧ cc = 0 := by
       rcases HCD.out with ⟨_, _, _, _, _, h, _⟩ | ⟨_, _, _, _, _, _, _, _, h1, h2, _⟩
       ·exact absurd h hins
       ·exact ⟨h1, h2⟩
      rw [decide_eq_false hins]
      clear hins
      have HLEN := hid (show acc.len = (insK n1 k1 ws1 acc).len by rw [HEQ.out.1])
      have HROW := hid (show (insK n1 k1 ws1 acc).Row S w xs by rw [HEQ.out.1]; exact HM.out.row)
      clear x0 x1 x2 q1 hbr hb
      go_wp2_with fail
      refine (weighted_any k _).mono ?_
      rintro e w' ⟨rfl, rfl⟩
      cases hk : wgt k
      ·have HK := hid hk
       clear hk
       go_wp2_with fail
       go_roundw
       case rel => exact ⟨j + 1, _, _, _, insK n1 k1 ws1 acc, aw, by omega, by go_num, HM.out.next HD.out HD1.out hlt HWL.out HMW.out HLEN.out rfl rfl (by rw [HK.out]; rfl) (fun _ => rfl) HROW.out⟩
       case measure => simp [intOf]; omega
      ·have HK := hid hk
       clear hk
       have HAWL := hid (HM.out.wt.1 HK.out).1
       have hpb : p < aw.length := by have := HAWL.out; omega
       have hlit : aw.length ≤ 100000 := by have := HAWL.out; omega
       have HBW := hid (show aw.length = aw.length ∧ (∀ y ∈ aw, 0 ≤ y ∧ y ≤ 1048576) ∧ ∀ x, aw.set p (aw.getD p 0 + x) = insW n1 k1 ws1 x acc aw by
        obtain ⟨w1, w2, w3⟩ := HM.out.wt.1 HK.out
        refine ⟨rfl, fun y hy => ?_, fun x => by rw [put_at (by omega)]; exact (HEQ.out.2 x aw w1).symm⟩
        have h0 := sumL_pos (a := wl.drop j) (fun y hy => (HWL.out HK.out).2.1 y (List.mem_of_mem_drop hy))
        have h1 := w2 y hy; have h2 := sumL_mem w2 hy; omega)
       obtain ⟨gz, rfl⟩ : ∃ g, gw = some ⟨g, 0, none⟩ := by
        rcases HM.out.ownw.2 with ⟨h, h'⟩ | ⟨g, cap', cur, h, _⟩
        ·omega
        ·simp only [Value.slice.injEq] at h; exact ⟨g, h.1⟩
       obtain ⟨x, hx⟩ : ∃ x, x = wl.getD j 0 := ⟨_, rfl⟩
       obtain ⟨y, hy⟩ : ∃ y, y = aw.getD p 0 := ⟨_, rfl⟩
       have hjl : j < wl.length := by have := (HWL.out HK.out).1; omega
       have hxx : wl[j] = x := by rw [hx]; simp [List.getD, List.getElem?_eq_getElem hjl]
       have hxb : 1 ≤ x ∧ x ≤ 1048576 := by
        have h1 := (HWL.out HK.out).2.1 _ (List.getElem_mem hjl)
        have h2 := sumL_mem (HWL.out HK.out).2.1 (List.getElem_mem hjl)
        have h3 := (HWL.out HK.out).2.2.1
        omega
       have hyy : aw[p]? = some y := by rw [hy, List.getD_eq_getElem?_getD, List.getElem?_eq_getElem (by omega)]; rfl
       have hyb := HBW.out.2.1 y (List.mem_of_getElem? hyy)
       obtain ⟨b2, o2, hce, dw⟩ := hi.get hjl
       rw [hxx] at dw
       have hblt := lt_of_cell dw
       replace dw := cell_below HMW.out.below dw
       obtain ⟨_, _, cw⟩ := cells_of HMW.out.box
       obtain ⟨_, _, oW⟩ := cells_of HMW.out.out
       have py : wr.cell? ⟨gz, p, none⟩ = some (.int .i64 y) := by
        have := HMW.out.ownw.cells (g := gz) rfl p (.int .i64 y) (by simp [hyy])
        rwa [addr_add, Nat.zero_add] at this
       have hfz : wr.frozen? ⟨gz, p, none⟩ = false := HMW.out.ownw.frozenAt p
       have hne1 := own_lt HMW.out.ownw (k := gz) rfl
       have HSET := hid (show (aw.map (Value.int .i64)).set p (.int .i64 (y + x)) = (insW n1 k1 ws1 (wl.getD j 0) acc aw).map (Value.int .i64) by
        rw [← HBW.out.2.2, ← hx, ← hy, List.map_set])
       have HSL := hid (show (insW n1 k1 ws1 (wl.getD j 0) acc aw).length = aw.length by rw [← HBW.out.2.2]; simp)
       have HCE := hid hce
       rw [hce] at cw
       have hb2 : b2 ≠ gz := by omega
       have e1 : (0 : Int) ≤ (p : Int) := by omega
       have e2 : (p : Int) < (aw.length : Int) := by have := (List.getElem?_eq_some_iff.1 hyy).1; omega
       clear hx hy hxx hyy hce
       go_upto_region 15 with fail
       go_region_law (first | fail)
       all_goals go_wp2_with fail
       all_goals go_roundw
       all_goals first
        | (case measure => simp [intOf]; omega)
        | skip
       all_goals
        case rel => exact ⟨j + 1, _, .slice (some ⟨gz, 0, none⟩) aw.length gwc, _, insK n1 k1 ws1 acc, insW n1 k1 ws1 (wl.getD j 0) acc aw, by omega, by go_num, HM.out.next (M' := aw.length) HD.out HD1.out hlt HWL.out (HMW.out.put p (.int .i64 (y + x)) hpb).drew HLEN.out (by rw [HSL.out]) HSET.out (by rw [if_pos HK.out]) (fun h => absurd h (by rw [HK.out]; decide)) HROW.out⟩
    have HI := hid (fun (r : Bool) (h : (decide (p = acc.len ∨ cc < 0)) = r) => show Value.bool r = Value.bool (decide (p = acc.len ∨ cc < 0)) by rw [h])
    by_cases hins : p = acc.len ∨ cc < 0
    ·have HI1 := hid (HI.out true (decide_eq_true hins))
     by_cases hpe : p = acc.len
     ·go_wp2_with fail
      all_goals (go_meet; exact ⟨rfl, rfl, by first | exact HI1.out | (rw [← HI1.out]; simp [*]), by first | exact hb | exact hb.drew⟩)
     ·have hcn : cc < 0 := by omega
      clear hins
      go_wp2_with fail
      all_goals (go_meet; exact ⟨rfl, rfl, by first | exact HI1.out | (rw [← HI1.out]; simp [*]), by first | exact hb | exact hb.drew⟩)
    ·have HI1 := hid (HI.out false (decide_eq_false hins))
     have hpe : ¬ p = acc.len := by omega
     have hcn : ¬ cc < 0 := by omega
     clear hins
     go_wp2_with fail
     all_goals (go_meet; exact ⟨rfl, rfl, by first | exact HI1.out | (rw [← HI1.out]; simp [*]), by first | exact hb | exact hb.drew⟩)
   go_wp2_with fail
   go_loopw [8, 9] (fun s8 s9 wr => ∃ (p : Nat) (cc : Int), p ≤ acc.len ∧ s8 = .int .i64 p ∧ s9 = .int .i64 cc ∧ -1 ≤ cc ∧ cc ≤ 1 ∧ Found n1 k1 ws1 acc p cc ∧ Below X.heap.size X wr) (fun s8 s9 _ => 2 * (acc.len - (intOf s8).toNat) + (intOf s9).toNat)
   case atStart => exact ⟨0, 1, Nat.zero_le _, rfl, rfl, by omega, by omega, ⟨.nil, acc, rfl, rfl, trivial, Or.inl (by omega)⟩, Below.refl _ _⟩
   case round =>
    obtain ⟨p, cc, hp, rfl, rfl, hc0, hc1, hfound, hb⟩ := hrel
    have hbr := hXb.trans (hb.mono hXb.size)
    have x0 := cell_below hb y0
    have x1 := cell_below hb y1
    have x2 := cell_below hb y2
    have q1 := cell_below hb p1
    by_cases hpl : p < acc.len ∧ 0 < cc
    ·obtain ⟨pp, qq, hacc, hpp, hgt, hor⟩ := hfound
     obtain ⟨hpl1, hpl2⟩ := hpl
     have hcc1 : cc = 1 := by omega
     cases qq with
     | nil => rw [hacc, V.app_len, ← hpp] at hpl1; simp [V.len] at hpl1
     | cons n2 k2 ws2 r2 =>
      have hrow := HM.out.row
      rw [hacc] at hrow
      obtain ⟨a2, cap2, c2', cp2, z0, z1, z2, hv2, hi2⟩ := V.Row.elem pp hrow
      have hown := HM.out.own
      obtain ⟨g, rfl⟩ : ∃ g, ga = some ⟨g, 0, none⟩ := by
       rcases hown.2 with ⟨h, h'⟩ | ⟨g, cap', cur, h, _⟩
       ·omega
       ·simp only [Value.slice.injEq] at h; exact ⟨g, h.1⟩
      have hadd : ∀ i, (⟨g, 0, none⟩ : Addr).add i = ⟨g, i, none⟩ := fun i => by rw [addr_add, Nat.zero_add]
      have f0 := hown.cells (g := g) rfl _ _ z0
      have f1 := hown.cells (g := g) rfl _ _ z1
      have f2 := hown.cells (g := g) rfl _ _ z2
      rw [hadd] at f0 f1 f2
      rw [← hpp] at f0 f1 f2
      replace f0 := cell_below hbr f0
      replace f1 := cell_below hbr f1
      replace f2 := cell_below hbr f2
      have hbw := HM.out.below.trans (hbr.mono HM.out.below.size)
      have HC := hid (fun x (hx : Below w.heap.size w x) => cmpRef_any k1 k2 S S n1 n2 ws1 ws2 a1 a2 c1' c2' cap1 cap2 cp1 cp2 x (hv1.below hx) (hv2.below hx) (hi1.below hx) (hi2.below hx))
      obtain ⟨r, hr⟩ : ∃ r, r = cmp1 n1 k1 ws1 n2 k2 ws2 := ⟨_, rfl⟩
      have hr2 : or3 (cmpI n1 n2) (k1.cmp k2) (cmpL ws1 ws2) = r := hr.symm
      simp only [hr2] at HC
      have hrb : -1 ≤ r ∧ r ≤ 1 := by rw [hr]; exact cmp1_bd _ _ _ _ _ _
      have HRR := hid hr
      have HAC := hid hacc
      have HPP := hid hpp
      have hbd : Below w.heap.size w wr.drew := hbw.drew
      have hbd2 := hb.drew
      clear hr hr2 hacc hpp hrow hown z0 z1 z2 hadd hcc1
      go_wp2_with fail
      go_region_held3 (fun x : World => x.cell? ⟨w.heap.size + 2, 1, none⟩ = some (.slice (some ⟨g, 0, none⟩) acc.len gc) ∧ x.cell? ⟨wo.heap.size, 0, none⟩ = some (.int .i64 n1) ∧ x.cell? ⟨wo.heap.size, 1, none⟩ = some (.slice a1 k1.len cap1) ∧ x.cell? ⟨wo.heap.size, 2, none⟩ = some (.slice c1' ws1.length cp1) ∧ x.cell? ⟨g, p * 3, none⟩ = some (.int .i64 n2) ∧ x.cell? ⟨g, p * 3 + 1, none⟩ = some (.slice a2 k2.len cap2) ∧ x.cell? ⟨g, p * 3 + 2, none⟩ = some (.slice c2' ws2.length cp2)) (first | exact ⟨q1, x0, x1, x2, f0, f1, f2⟩) (first | (go_at_call 125; refine (HC.out _ hbd).mono ?_; rintro e wy ⟨rfl, hby⟩; have hbz := hbd2.trans (hby.mono (by have := hbr.size; have := hXb.size; have := hb.size; simp; omega)); have q1 := cell_below hby q1; have x0 := cell_below hby x0; have x1 := cell_below hby x1; have x2 := cell_below hby x2; have f0 := cell_below hby f0; have f1 := cell_below hby f1; have f2 := cell_below hby f2))
      have HGT := hid hgt
      clear hgt hor
      by_cases hz : 0 < r
      ·go_wp2_with fail
       go_roundw
       case rel => exact ⟨p + 1, r, by omega, by go_num, rfl, by omega, by omega, ⟨pp.app (.cons n2 k2 ws2 .nil), r2, by rw [HAC.out, V.app_assoc]; rfl, by rw [V.app_len, ← HPP.out]; rfl, (V.all_app _ _).2 ⟨HGT.out, by show 0 < _; rw [← HRR.out]; exact hz, trivial⟩, Or.inl hz⟩, hbz⟩
       case measure => simp [intOf]; omega
      ·have hz' : r ≤ 0 := by omega
       clear hz
       go_wp2_with fail
       go_roundw
       case rel => exact ⟨p, r, by omega, rfl, rfl, by omega, by omega, ⟨pp, _, HAC.out, HPP.out, HGT.out, Or.inr ⟨_, _, _, _, rfl, HRR.out⟩⟩, hbz⟩
       case measure => simp [intOf]; omega
    ·have hcond : (∃ pp qq, acc = pp.app qq ∧ p = pp.len ∧ gtAll n1 k1 ws1 pp ∧ (p = acc.len ∨ cc < 0) ∧ insK n1 k1 ws1 qq = .cons n1 k1 ws1 qq ∧ ∀ x b, b.length = qq.len → insW n1 k1 ws1 x qq b = x :: b) ∨ (∃ pp n2 k2 ws2 r2, acc = pp.app (.cons n2 k2 ws2 r2) ∧ p = pp.len ∧ gtAll n1 k1 ws1 pp ∧ p < acc.len ∧ cc = 0 ∧ cmp1 n1 k1 ws1 n2 k2 ws2 = 0) := by
      obtain ⟨pp, qq, hacc, hpp, hgt, hor⟩ := hfound
      cases qq with
      | nil =>
       left
       exact ⟨pp, .nil, hacc, hpp, hgt, Or.inl (by rw [hacc, V.app_len, ← hpp]; simp [V.len]), rfl, fun x b hb => by simp [V.len] at hb; subst hb; rfl⟩
      | cons n2 k2 ws2 r2 =>
       have hlen : p < acc.len := by rw [hacc, V.app_len, ← hpp]; simp [V.len]
       have hcc : cc ≤ 0 := by omega
       rcases hor with h | ⟨n', k', ws', r', he, hce⟩
       ·omega
       ·simp only [V.cons.injEq] at he
        obtain ⟨rfl, rfl, rfl, rfl⟩ := he
        by_cases h0 : cc = 0
        ·right
         exact ⟨pp, n2, k2, ws2, r2, hacc, hpp, hgt, hlen, h0, by rw [← hce]; exact h0⟩
        ·left
         exact ⟨pp, _, hacc, hpp, hgt, Or.inr (by omega), by simp only [insK]; rw [if_pos (by omega)], fun x b _ => by simp only [insW]; rw [if_pos (by omega)]⟩
     clear hfound
     have HCD : RowKit.Hid (CondAt n1 k1 ws1 acc p cc) := hid hcond
     clear hcond
     go_wp2_with fail
     all_goals (go_meet; exact ⟨p, cc, hp, rfl, rfl, rfl, hc0, hc1, HCD, hb⟩)
  ·have hva : ∃ ga gc, va = .slice ga acc.len gc := by
    rcases HM.out.own.2 with ⟨rfl, h⟩ | ⟨g, cap', cur, rfl, _⟩
    ·exact ⟨none, 0, by rw [h]⟩
    ·exact ⟨_, _, rfl⟩
   obtain ⟨ga, gc, rfl⟩ := hva
   have hvw : ∃ gw gwc, vw = .slice gw aw.length gwc := by
    rcases HM.out.ownw.2 with ⟨rfl, h⟩ | ⟨g, cap', cur, rfl, _⟩
    ·exact ⟨none, 0, by rw [h]⟩
    ·exact ⟨_, _, rfl⟩
   obtain ⟨gw, gwc, rfl⟩ := hvw
   have hjt : j = t.len := by omega
   have HE := hid (show mrgA (wgt k) t wl .nil [] = (acc, aw) by rw [HM.out.eq, hjt, V.drop_all]; rfl)
   have HMW := hid (show MrgW w n t wl a c cap cp (.slice ga acc.len gc) (.slice gw aw.length gwc) acc.len aw.length xs (aw.map (Value.int .i64)) wo from ⟨HM.out.box, HM.out.res, HM.out.out, HM.out.own, HM.out.ownw, HM.out.apart, HM.out.below⟩)
   have hac : acc.len ≤ 100000 := by omega
   have hawl : aw.length ≤ 100000 := by
    cases hk : wgt k
    ·rw [HM.out.wt.2 hk]; simp
    ·have := (HM.out.wt.1 hk).1; omega
   clear hm
   by_cases h7 : k = 7
   ·subst h7
    have hkw : wgt 7 = true := by decide
    obtain ⟨w1, w2, w3⟩ := HM.out.wt.1 hkw
    have hpos : 0 < acc.len := HM.out.pos (by have := (HWL.out hkw).2.2.2 rfl; omega)
    obtain ⟨gz, rfl⟩ : ∃ g, gw = some ⟨g, 0, none⟩ := by
     rcases HM.out.ownw.2 with ⟨h, h'⟩ | ⟨g, cap', cur, h, _⟩
     ·omega
     ·simp only [Value.slice.injEq] at h; exact ⟨g, h.1⟩
    have HB := hid (fun y (hy : y ∈ aw) => show 1 ≤ y ∧ y ≤ 1048576 by
     have h0 := sumL_pos (a := wl.drop j) (fun y hy => (HWL.out hkw).2.1 y (List.mem_of_mem_drop hy))
     have h1 := w2 y hy
     have h2 := sumL_mem w2 hy
     omega)
    have HC := hid (fun (jj : Nat) (hj : jj < aw.length) => show wo.cell? ⟨gz, jj, none⟩ = some (.int .i64 aw[jj]) by
     have := HMW.out.ownw.cells (g := gz) rfl jj (.int .i64 aw[jj]) (by simp [List.getElem?_eq_getElem hj])
     rwa [addr_add, Nat.zero_add] at this)
    have HPOS := hid (show 0 < gcdL 0 aw by
     cases aw with
     | nil => simp at w1; omega
     | cons x r => exact gcdL_gt r _ (by have := w2 x (by simp); simp; omega))
    have HWLN := hid w1
    clear w1 w2 w3 hkw hjt hpos
    go_wp2_with fail
    go_loopw [10, 12, 103] (fun g _ i wr => ∃ jj q nq : Nat, jj ≤ aw.length ∧ i = .int .i64 jj ∧ g = .int .i64 q ∧ q ≤ 1048576 ∧ gcdL q (aw.drop jj) = gcdL 0 aw ∧ wr = wo.drewN nq) (fun _ _ i _ => aw.length - (intOf i).toNat)
    case atStart => exact ⟨0, 0, 0, Nat.zero_le _, rfl, rfl, by omega, by simp, rfl⟩
    case round =>
     obtain ⟨jj, q, nq, hjj, rfl, rfl, hq, hg, rfl⟩ := hrel
     have HG := hid hg
     clear hg
     by_cases hlt2 : jj < aw.length
     ·have d0 := HC.out jj hlt2
      have hstep := gcdL_drop (d := q) hlt2
      have hx2 := HB.out _ (List.getElem_mem hlt2)
      obtain ⟨x, hx⟩ : ∃ x : Nat, aw[jj] = (x : Int) := ⟨aw[jj].toNat, by omega⟩
      rw [hx] at hstep d0 hx2
      rw [Int.toNat_natCast] at hstep
      have HS2 := hid hstep
      have hxm : x ≤ 1048576 := by omega
      have HGL := hid (show Nat.gcd q x ≤ 1048576 from Nat.le_trans (Nat.le_of_dvd (by omega) (Nat.gcd_dvd_right _ _)) hxm)
      clear hstep hx hx2
      go_wp2_with fail
      refine (gcdRef_any q x _ hq hxm).mono ?_
      rintro e w' ⟨rfl, n2, rfl⟩
      go_wp2_with fail
      go_roundw
      case rel => exact ⟨jj + 1, Nat.gcd q x, _, by omega, by go_num, rfl, HGL.out, by rw [← HS2.out]; exact HG.out, rfl⟩
      case measure => simp [intOf]; omega
     ·have hqe : q = gcdL 0 aw := by rw [← HG.out, List.drop_of_length_le (by omega)]; rfl
      have hq0 : (1 : Int) ≤ q := by have := HPOS.out; omega
      have HQE := hid hqe
      clear hqe
      have start2 : MrgW w n t wl a c cap cp (.slice ga acc.len gc) (.slice (some ⟨gz, 0, none⟩) aw.length gwc) acc.len aw.length xs ((((aw.take 0).map (fun x => x / (q : Int))) ++ aw.drop 0).map (Value.int .i64)) (wo.drewN nq) := by
       have h := HMW.out
       exact ⟨h.box, h.res, h.out, h.own, by simp only [List.take_zero, List.map_nil, List.nil_append, List.drop_zero]; exact h.ownw, h.apart, ⟨h.below.os, h.below.tape, h.below.output, h.below.size, h.below.block⟩⟩
      have HS3 := hid start2
      clear start2
      go_wp2_with fail
      go_loopw [13, 114] (fun _ i wr => ∃ jj : Nat, jj ≤ aw.length ∧ i = .int .i64 jj ∧ MrgW w n t wl a c cap cp (.slice ga acc.len gc) (.slice (some ⟨gz, 0, none⟩) aw.length gwc) acc.len aw.length xs ((((aw.take jj).map (fun x => x / (q : Int))) ++ aw.drop jj).map (Value.int .i64)) wr) (fun _ i _ => aw.length - (intOf i).toNat)
      case atStart => exact ⟨0, Nat.zero_le _, rfl, HS3.out⟩
      case round =>
       obtain ⟨jj, hjj, rfl, hmw⟩ := hrel
       have HMZ := hid hmw
       clear hmw
       obtain ⟨wy, rfl⟩ : ∃ wy : World, wy = wr := ⟨_, rfl⟩
       by_cases hlt3 : jj < aw.length
       ·obtain ⟨_, _, oW⟩ := cells_of HMZ.out.out
        have hyb := HB.out _ (List.getElem_mem hlt3)
        have py : wy.cell? ⟨gz, jj, none⟩ = some (.int .i64 aw[jj]) := by
         have := HMZ.out.ownw.cells (g := gz) rfl jj (.int .i64 aw[jj]) (by
          have h1 : ((aw.take jj).map (fun x => x / (q : Int))).length = jj := by simp; omega
          rw [List.map_append, List.getElem?_append_right (by simp; omega)]
          simp [List.length_take, Nat.min_eq_left (Nat.le_of_lt hlt3), List.getElem?_eq_getElem hlt3])
         rwa [addr_add, Nat.zero_add] at this
        have HST := hid (div_step hlt3 (fun x => x / (q : Int)) (Value.int .i64))
        obtain ⟨y, hy⟩ : ∃ y, y = aw[jj] := ⟨_, rfl⟩
        rw [← hy] at py hyb HST
        have hfz : wy.frozen? ⟨gz, jj, none⟩ = false := HMZ.out.ownw.frozenAt jj
        have hne1 := own_lt HMZ.out.ownw (k := gz) rfl
        clear hy
        have HYB := hid hyb
        have hyn : y.tdiv q = y / (q : Int) := Int.tdiv_eq_ediv_of_nonneg (by omega)
        have HYD := hid (show y / (q : Int) ≤ 1048576 ∧ 0 ≤ y / (q : Int) from ⟨Int.le_trans (Int.ediv_le_self _ (by omega)) (by omega), Int.ediv_nonneg (by omega) (by omega)⟩)
        have hqz : ¬ q = 0 := by omega
        go_upto_region 27 with fail
        go_region_law (first | fail)
        all_goals go_wp2_with fail
        all_goals go_roundw
        all_goals first
         | (case measure => simp [intOf]; omega)
         | skip
        all_goals
         case rel => exact ⟨jj + 1, by omega, by go_num, by rw [← HST.out, (show wrap64 (y / (q : Int)) = y / (q : Int) by have := HYD.out; unfold wrap64; omega)]; exact (HMZ.out.put jj (.int .i64 (y / (q : Int))) hlt3).drew⟩
       ·have hje : jj = aw.length := by omega
        have HLE := hid (show ((aw.take jj).map (fun x => x / (q : Int)) ++ aw.drop jj) = aw.map (fun x => x / (q : Int)) by rw [hje]; simp)
        have HR := hid (show mrg 7 t wl = (acc, aw.map (fun x => x / (q : Int))) by unfold mrg; rw [HE.out, if_pos rfl, HQE.out])
        rw [HLE.out] at HMZ
        have HLM := hid (show (aw.map (fun x => x / (q : Int))).length = aw.length by simp)
        obtain ⟨r0, r1, r2⟩ := cells_of HMZ.out.res
        obtain ⟨o0, o1, o2⟩ := cells_of HMZ.out.out
        have rz : ∀ i, wy.frozen? ⟨w.heap.size + 1, i, none⟩ = false := fun i => frozen_of HMZ.out.res
        clear hje
        go_wp2_with fail
        obtain ⟨ga', gc', gw', gwc', e1, e2, v1, v2, vb⟩ := HMZ.out.done (y0 := .int .i64 n) (y1 := .slice ga acc.len gc) (y2 := .slice (some ⟨gz, 0, none⟩) aw.length gwc) HM.out.row rfl HLM.out.symm rfl (by omega) (by rw [HLM.out]; omega)
        rw [HLM.out] at e2
        simp only [Value.slice.injEq] at e1 e2
        obtain ⟨rfl, _, rfl⟩ := e1
        obtain ⟨rfl, _, rfl⟩ := e2
        obtain ⟨z0, z1, z2⟩ := cells_of (store3 (x0 := .int .i64 n) (x1 := .slice ga acc.len gc) (x2 := .slice (some ⟨gz, 0, none⟩) aw.length gwc) HMZ.out.res rfl)
        refine bodyPost_ret (v := Vv n ga acc.len gc (some ⟨gz, 0, none⟩) aw.length gwc) (by simp [results, Tryz.results161, go_sem, z0, z1, z2]) rfl ?_
        exact ⟨ga, _, gc, gwc, by rw [HR.out, HLM.out], by rw [HR.out]; exact v1, by rw [HR.out]; exact v2, vb⟩
   ·have HR := hid (show mrg k t wl = (acc, aw) by unfold mrg; rw [HE.out, if_neg h7])
    have h7' : (k == 7) = false := by simpa using h7
    obtain ⟨r0, r1, r2⟩ := cells_of HMW.out.res
    have rz : ∀ i, wo.frozen? ⟨w.heap.size + 1, i, none⟩ = false := fun i => frozen_of HMW.out.res
    clear h7 hjt
    go_wp2_with fail
    obtain ⟨ga', gc', gw', gwc', e1, e2, v1, v2, vb⟩ := HMW.out.done (y0 := .int .i64 n) (y1 := .slice ga acc.len gc) (y2 := .slice gw aw.length gwc) HM.out.row rfl rfl rfl (by omega) (by omega)
    simp only [Value.slice.injEq] at e1 e2
    obtain ⟨rfl, _, rfl⟩ := e1
    obtain ⟨rfl, _, rfl⟩ := e2
    obtain ⟨z0, z1, z2⟩ := cells_of (store3 (x0 := .int .i64 n) (x1 := .slice ga acc.len gc) (x2 := .slice gw aw.length gwc) HMW.out.res rfl)
    refine bodyPost_ret (v := Vv n ga acc.len gc gw aw.length gwc) (by simp [results, Tryz.results161, go_sem, z0, z1, z2]) rfl ?_
    exact ⟨ga, gw, gc, gwc, by rw [HR.out], by rw [HR.out]; exact v1, by rw [HR.out]; exact v2, vb⟩
end Go.Proofs.YtcekilcgpgjooaaGreatDoor
