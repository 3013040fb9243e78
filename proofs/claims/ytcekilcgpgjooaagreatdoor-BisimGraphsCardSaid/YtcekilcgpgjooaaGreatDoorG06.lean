/- Proved here: contracts of the walk to BisimGraphs: rows of pairs, and slices.Compact at pairs; each under the conditions that its own statement names. -/
import Derived.Test.YtcekilcgpgjooaaGreatDoorG05
import Derived.Shelf.GgSortFunc.RowK
import Derived.Shelf.GgSortFunc.InsertionK
import Derived.Shelf.SlicesG.CompactI
import Derived.Laws.StructEq
import Derived.Shelf.SlSortCmp.WholeK
import Derived.Shelf.SlicesE.Clone
set_option maxRecDepth 100000
set_option maxHeartbeats 4000000
namespace Go.Proofs.YtcekilcgpgjooaaGreatDoor
open Go Go.RowKit Go.Sort
theorem flatP_get? (l : List (Int × Int)) (t : Nat) (ht : t < l.length * 2) : (flatP l)[t]? = some ((encP (l.toArray[t / 2]!))[t % 2]!) := by
 have h : t / 2 < l.length := by omega
 obtain ⟨p, hp⟩ : ∃ p, l[t / 2]? = some p := ⟨_, List.getElem?_eq_getElem h⟩
 have hg := flatP_get hp
 have hq : l.toArray[t / 2]! = p := by rw [getElem!_pos l.toArray (t / 2) (by simpa using h)]; simpa [List.getElem?_eq_getElem h] using hp
 rw [hq]
 rcases (show t % 2 = 0 ∨ t % 2 = 1 by omega) with e | e
 ·rw [e, show t = t / 2 * 2 by omega, hg.1]; rfl
 ·rw [e, show t = t / 2 * 2 + 1 by omega, hg.2]; rfl
theorem flatK_eq (l : List (Int × Int)) : flatK encP 2 l.toArray = (flatP l).toArray := by
 apply Array.ext_getElem?
 intro t
 by_cases ht : t < l.length * 2
 ·rw [show (flatP l).toArray[t]? = (flatP l)[t]? from List.getElem?_toArray, flatP_get? l t ht]
  have h1 : t < (flatK encP 2 l.toArray).size := by simpa using ht
  have := get_flatK encP 2 l.toArray t (by simpa using ht)
  rw [getElem!_pos _ t h1] at this
  rw [Array.getElem?_eq_getElem h1, this]
 ·rw [Array.getElem?_eq_none (by simp; omega), Array.getElem?_eq_none (by simp [flatP_len]; omega)]
theorem holdsP_of_row {w : World} {base g cap n : Nat} {e : TypeId} {l : List (Int × Int)} (h : w.ownsRow base e 2 (.slice (some ⟨g, 0, none⟩) n cap) n (flatP l)) : HoldsK encP 2 w g 0 l.toArray := by
 have hl := h.1
 rcases h.2 with ⟨h2, _⟩ | ⟨g', cap', cur, h2, _, hb, _, _, h5, h6⟩
 ·cases h2
 ·simp only [Value.slice.injEq, Option.some.injEq, Addr.mk.injEq, and_true, true_and] at h2
  obtain ⟨rfl, rfl⟩ := h2
  unfold HoldsK
  rw [flatK_eq]
  intro j hj
  have hj' : j < (flatP l).length := by simpa using hj
  refine ⟨?_, by simp [World.frozen?, hb]⟩
  have h1 : (cur.toList.take (n * 2))[j]? = (flatP l)[j]? := by rw [h6]
  rw [List.getElem?_take_of_lt (by omega)] at h1
  simp only [World.cell?, hb, Nat.zero_add, Option.isSome_none, Bool.false_eq_true, if_false]
  rw [← Array.getElem?_toList, h1, List.getElem?_eq_getElem hj', getElem!_pos _ j (by simpa using hj')]
  simp
theorem heap_put {w : World} {g m : Nat} {os : Array Obj} {cur : Array Value} {e : TypeId} {fr : Nat × Nat} (F : Array Value) (hb : w.heap[g]? = some (.cells cur e fr)) :
    (grow (putRow id (Sort.ahead w m) g 0 F) os).heap[g]? = some (.cells (putCells id 0 F cur) e fr) := by
 have hg : g < w.heap.size := (Array.getElem?_eq_some_iff.1 hb).1
 rw [heap_grow_old _ _ (by simpa using hg)]
 simp [putRow, mapBlock, Sort.ahead, Array.getElem?_modify, hb, onCells]
theorem grownBy_put {w : World} {g m : Nat} {os : Array Obj} (F : Array Value) : w.grownBy (grow (putRow id (Sort.ahead w m) g 0 F) os) (some g) := by
 refine ⟨rfl, rfl, rfl, by simp, fun k hk hne => ?_⟩
 rw [heap_grow_old _ _ (by simpa using hk)]
 have : g ≠ k := fun e => hne (by rw [e])
 simp [putRow, mapBlock, Sort.ahead, Array.getElem?_modify, this]
theorem take_put (cur F : Array Value) (h : F.size ≤ cur.size) : (putCells id 0 F cur).toList.take F.size = F.toList := by
 apply List.ext_getElem?
 intro j
 by_cases hj : j < F.size
 ·rw [List.getElem?_take_of_lt hj, Array.getElem?_toList]
  simp [putCells, hj, show j < cur.size by omega]
 ·rw [List.getElem?_take_eq_none (by omega), List.getElem?_eq_none (by simp; omega)]
theorem row_putV {w : World} {base g cap n m k : Nat} {e : TypeId} {os : Array Obj} {l l' : List (Int × Int)} {F : Array Value} (h : w.ownsRow base e 2 (.slice (some ⟨g, 0, none⟩) n cap) n (flatP l)) (hF : F.size = n * 2) (hk : k ≤ n) (hl : F.toList.take (k * 2) = flatP l') :
    (grow (putRow id (Sort.ahead w m) g 0 F) os).ownsRow base e 2 (.slice (some ⟨g, 0, none⟩) k cap) k (flatP l') := by
 rcases h.2 with ⟨h2, _⟩ | ⟨g', cap', cur, h2, h3, hb, h4, h5, h6, h7⟩
 ·cases h2
 ·simp only [Value.slice.injEq, Option.some.injEq, Addr.mk.injEq, and_true, true_and] at h2
  obtain ⟨rfl, rfl⟩ := h2
  have ht := take_put cur F (by omega)
  rw [hF] at ht
  have hlen : (flatP l').length = k * 2 := by rw [← hl, List.length_take, Array.length_toList]; omega
  refine ⟨hlen, .inr ⟨g, cap, _, rfl, h3, heap_put _ hb, by omega, h5, by simp [putCells, h6], ?_⟩⟩
  have h8 : ((putCells id 0 F cur).toList.take (n * 2)).take (k * 2) = F.toList.take (k * 2) := by rw [ht]
  rw [List.take_take, show min (k * 2) (n * 2) = k * 2 by omega] at h8
  rw [h8, hl]
def ltP' (p q : Int × Int) : Prop := p.1 < q.1 ∨ p.1 = q.1 ∧ p.2 < q.2
theorem sorted_eq : ∀ {l l' : List (Int × Int)}, l.Pairwise ltP' → l'.Pairwise ltP' → (∀ p, p ∈ l ↔ p ∈ l') → l = l' := by
 intro l l' h h' hm
 have irr : ∀ p, ¬ ltP' p p := fun p => by unfold ltP'; omega
 have nd : ∀ {l : List (Int × Int)}, l.Pairwise ltP' → l.Nodup := fun h => by refine List.Pairwise.imp ?_ h; intro a b hab e; subst e; exact irr _ hab
 refine List.Perm.eq_of_pairwise (le := ltP') (fun a b _ _ h1 h2 => ?_) h h' ((List.perm_ext_iff_of_nodup (nd h) (nd h')).2 hm)
 unfold ltP' at h1 h2
 omega
end Go.Proofs.YtcekilcgpgjooaaGreatDoor
namespace Go.Proofs.YtcekilcgpgjooaaGreatDoor
open Go Go.RowKit Go.Sort Go.Lib Go.Shelf
open Go.Lib (hid)
theorem sizeOfI (w : World) : (sizeOf 3).run Tryz.prog w = .ok 1 w := by kernel_rfl
theorem eqlI (w : World) (d : Nat) (a b : Int) : (Op.equalIn (d + 1) 3 (.int .i64 a) (.int .i64 b)).run Tryz.prog w = .ok (a == b) w := run_equalIn_int w d 3 .i64 .i64 a b Tryz.underlying3
theorem partP (w : World) (x y : Int) : (part 3 #[.int .i64 x, .int .i64 y] 0).run Tryz.prog w = .ok (.int .i64 x) w := by kernel_rfl
theorem partQ (w : World) (x y : Int) : (part 3 #[.int .i64 x, .int .i64 y] 1).run Tryz.prog w = .ok (.int .i64 y) w := by kernel_rfl
theorem eqlAt (w : World) (d : Nat) (p q : Int × Int) : (Op.equalIn (d + 2) 38 (Pv p) (Pv q)).run Tryz.prog w = .ok (decide (p = q)) w := by
 obtain ⟨p1, p2⟩ := p
 obtain ⟨q1, q2⟩ := q
 have he := run_underlying (w := w) Tryz.underlying38
 have e1 := eqlI w d p1 q1
 have e2 := eqlI w d p2 q2
 rw [show d + 2 = (d + 1) + 1 by omega]
 unfold Op.equalIn
 simp only [Sem.run_bind, he, Result.andThen_ok, Pv, sizeOfI]
 simp
 rw [show List.range' 0 2 = [0, 1] from rfl]
 simp only [List.forIn_cons, List.forIn_nil, Sem.run_bind, partP, Result.andThen_ok, e1]
 by_cases h1 : p1 = q1
 ·by_cases h2 : p2 = q2
  ·subst h1
   subst h2
   simp [partQ, e2]
  ·simp [h1, h2, partQ, e2]
 ·simp [h1]
theorem eqlP (p q : Int × Int) (w : World) : (binOp .eql 38 (Pv p) (Pv q)).run Tryz.prog w = .ok (.bool (decide (p = q))) w := by
 rw [run_eql_struct, show (10000 : Nat) = 9998 + 2 from rfl, eqlAt]
 rfl
theorem neqP (p q : Int × Int) (w : World) : (binOp .neq 38 (Pv p) (Pv q)).run Tryz.prog w = .ok (.bool (!decide (p = q))) w := by
 rw [run_neq_struct, show (10000 : Nat) = 9998 + 2 from rfl, eqlAt]
 rfl
theorem clearP (w : World) (ty : TypeId) (b o n c : Nat) (hn : 0 < n) (hc : ∀ j, j < n * 2 → (w.cell? ⟨b, o + j, none⟩).isSome = true) (hf : ∀ j, j < n * 2 → w.frozen? ⟨b, o + j, none⟩ = false) :
    (Builtin.clear_ #[28] ty #[.slice (some ⟨b, o, none⟩) n c]).run Tryz.prog w = .ok (.tuple #[]) (w.setCells b o (List.replicate (n * 2) (.int .i64 0))) := by
 have hzc : (Builtin.zeroCells (Value.agg #[.int .i64 0, .int .i64 0]).cells n).toList = List.replicate (n * 2) (.int .i64 0) := by
  simp only [Builtin.zeroCells, Value.cells]
  apply List.ext_getElem
  ·simp
  ·intro i h1 h2
   have : i % 2 < 2 := Nat.mod_lt _ (by omega)
   rcases (show i % 2 = 0 ∨ i % 2 = 1 by omega) with e | e <;> simp [e]
 have hst := run_storeCells_cells (P := Tryz.prog) b o (List.replicate (n * 2) (.int .i64 0)) 0 w (by simpa using hc) (by simpa using hf) (by intro v hv'; rw [List.eq_of_mem_replicate hv']; rfl)
 simp only [Nat.add_zero] at hst
 obtain ⟨m, rfl⟩ : ∃ m, n = m + 1 := ⟨n - 1, by omega⟩
 simp [Builtin.clear_, run_underlying Tryz.underlying28, hzc, hst]
theorem setMany_flat (d : Array (Int × Int)) (i : Nat) (x : Int × Int) (hi : i < d.size) : setMany (flatK encP 2 d) (i * 2) (encP x) = flatK encP 2 (d.setIfInBounds i x) := by
 apply Array.ext
 ·simp
 ·intro t h1 h2
  have ht : t < d.size * 2 := by simpa using h2
  rw [← getElem!_pos _ t h1, ← getElem!_pos _ t h2, get_setMany _ _ _ t (by simpa using ht), get_flatK _ _ _ t ht, get_flatK _ _ _ t (by simpa using ht)]
  by_cases e : t / 2 = i
  ·rw [if_pos (by simp only [encP, List.length_cons, List.length_nil]; omega), e, getElem!_set_same d i x hi, show t - i * 2 = t % 2 by omega]
  ·rw [if_neg (by simp only [encP, List.length_cons, List.length_nil]; omega), getElem!_set_other d i (t / 2) x e]
theorem store_pair {w wr : World} {q blk off : Nat} {dk : Array (Int × Int)} {i : Nat} (hi : i < dk.size) (hwr : wr = putRowK encP 2 (Sort.ahead w q) blk off dk) (x : Int × Int) :
    ((wr.setCell ⟨blk, off + i * 2, none⟩ (.int .i64 x.1)).setCell ⟨blk, off + i * 2 + 1, none⟩ (.int .i64 x.2)) = putRowK encP 2 (Sort.ahead w q) blk off (dk.setIfInBounds i x) := by
 subst hwr
 have h := setCells_putRow (Sort.ahead w q) blk off (encP x) (i * 2) (flatK encP 2 dk) (by simp only [encP, List.length_cons, List.length_nil, size_flatK]; omega)
 rw [setMany_flat dk i x hi] at h
 exact h
set_option maxRecDepth 1000000 in
theorem compactP_arr (blk off cap : Nat) (d : Array (Int × Int)) (w : World) (hH : HoldsK encP 2 w blk off d) (hsz : d.size ≤ 1000000) (hcap : d.size ≤ cap) :
    Calls Tryz.prog 75 #[.slice (some ⟨blk, off, none⟩) d.size cap] w fun e w' => e = .returned (.slice (some ⟨blk, off, none⟩) (compactUpTo d d.size).length cap) ∧
     ∃ q F, F.size = d.size * 2 ∧ F.toList.take ((compactUpTo d d.size).length * 2) = flatP (compactUpTo d d.size) ∧ (compactUpTo d d.size).length ≤ d.size ∧ w' = putRow id (Sort.ahead w q) blk off F := by
 have same : ∀ q, (∀ j, j < d.size → keeps d j = true) → (compactUpTo d d.size).length = d.size ∧ ∃ q' F, F.size = d.size * 2 ∧ F.toList.take (d.size * 2) = flatP (compactUpTo d d.size) ∧ w.drewN q = putRow id (Sort.ahead w q') blk off F := by
  intro q hall
  have e : compactUpTo d d.size = d.toList := by rw [compactUpTo_all d _ hall, range_map_get]
  rw [e]
  refine ⟨by simp, q, flatK encP 2 d, by simp, ?_, (putRowK_self encP 2 (Sort.ahead w q) blk off d (holdsK_ahead encP 2 w q blk off d hH)).symm⟩
  have := flatK_eq d.toList
  simp only [Array.toArray_toList] at this
  rw [this, List.take_of_length_le (by simp [flatP_len])]
 have HS := hid same
 clear same
 by_cases h2 : d.size < 2
 ·have HH := hid hH
  clear hH
  go_enter Tryz.func75, Tryz.ntmps75
  go_wp2
  go_ret
  obtain ⟨e1, q, F, e2, e3, e4⟩ := HS.out 0 (fun j hj => keeps_lt_one d j (by omega))
  exact ⟨by rw [e1]; rfl, q, F, e2, by rw [e1]; exact e3, by omega, e4⟩
 ·go_enter Tryz.func75, Tryz.ntmps75
  go_wp2
  go_loopg [3] d.size (fun g s3 wr => ∃ k q : Nat, 1 ≤ k ∧ k ≤ d.size ∧ d.size - k ≤ g ∧ s3 = .int .i64 k ∧ wr = w.drewN q ∧ ∀ j, j < k → keeps d j = true)
  case atStart => exact ⟨1, 0, Nat.le_refl _, by omega, by omega, rfl, rfl, keeps_lt_one d⟩
  case round =>
   obtain ⟨k, q, hk1, hk, hg, rfl, rfl, hall⟩ := hrel
   by_cases hlt : k < d.size
   ·have c10 := (hH.cell (i := k) (c := 0) hlt (by omega)).1
    have c11 := (hH.cell (i := k) (c := 1) hlt (by omega)).1
    have c00 := (hH.cell (i := k - 1) (c := 0) (by omega) (by omega)).1
    have c01 := (hH.cell (i := k - 1) (c := 1) (by omega) (by omega)).1
    have A := hid hall
    have HH := hid hH
    clear hall hH
    generalize hx : d[k]! = x at c10 c11
    generalize hy : d[k - 1]! = y at c00 c01
    have B := hid (show d[k]! = x ∧ d[k - 1]! = y from ⟨hx, hy⟩)
    clear hx hy
    obtain ⟨x1, x2⟩ := x
    obtain ⟨y1, y2⟩ := y
    simp only [encP, Nat.add_zero] at c10 c11 c00 c01
    by_cases hdup : (x1, x2) = (y1, y2)
    ·have he := fun W => eqlP (x1, x2) (y1, y2) W
     rw [decide_eq_true hdup] at he
     simp only [Pv] at he
     go_wp2_with fail
     go_region
     go_wp2_with fail
     clear c10 c11 c00 c01 he
     go_loopg [3, 5] d.size (fun g s3 s5 wr => ∃ (kk k2 q2 : Nat) (dk : Array (Int × Int)), s3 = .int .i64 kk ∧ s5 = .int .i64 k2 ∧ 1 ≤ k2 ∧ k + k2 ≤ d.size ∧ d.size - (k + k2) ≤ g ∧ wr = putRowK encP 2 (Sort.ahead w q2) blk off dk ∧ CompInv d (k + k2) kk dk)
     case atStart => exact ⟨k, 1, q + 1, d, rfl, rfl, Nat.le_refl _, by omega, by omega, (putRowK_self encP 2 (Sort.ahead w (q + 1)) blk off d (holdsK_ahead encP 2 w (q + 1) blk off d HH.out)).symm, CompInv.start A.out (keeps_neg (by omega) (by rw [B.out.1, B.out.2, hdup]))⟩
     case round =>
      obtain ⟨kk, k2, q2, dk, rfl, rfl, h1, hle, hg2, hwr, hI⟩ := hrel
      have hkk := hI.lt
      have hds := hI.size
      have hHk : HoldsK encP 2 wr blk off dk := by rw [hwr]; exact holdsK_putRowK encP 2 _ blk off d dk (holdsK_ahead encP 2 w q2 blk off d HH.out) hds
      have W2 := hid hwr
      have I2 := hid hI
      clear hwr
      by_cases hlt2 : k + k2 < d.size
      ·have m0 := (hHk.cell (i := k + k2) (c := 0) (by omega) (by omega)).1
       have m1 := (hHk.cell (i := k + k2) (c := 1) (by omega) (by omega)).1
       have p0 := (hHk.cell (i := k + k2 - 1) (c := 0) (by omega) (by omega)).1
       have p1 := (hHk.cell (i := k + k2 - 1) (c := 1) (by omega) (by omega)).1
       have k0 := hHk.cell (i := kk) (c := 0) (by omega) (by omega)
       have k1 := hHk.cell (i := kk) (c := 1) (by omega) (by omega)
       rw [hI.high (k + k2) (by omega), show off + (k + k2) * 2 = off + k * 2 + k2 * 2 by omega] at m0 m1
       rw [hI.high (k + k2 - 1) (by omega), show off + (k + k2 - 1) * 2 = off + k * 2 + (k2 - 1) * 2 by omega] at p0 p1
       clear hHk hI
       generalize hu : d[k + k2]! = u at m0 m1
       generalize hv : d[k + k2 - 1]! = v at p0 p1
       generalize dk[kk]! = old at k0 k1
       have C := hid (show d[k + k2]! = u ∧ d[k + k2 - 1]! = v from ⟨hu, hv⟩)
       clear hu hv
       obtain ⟨u1, u2⟩ := u
       obtain ⟨v1, v2⟩ := v
       obtain ⟨o1, o2⟩ := old
       simp only [encP, Nat.add_zero] at m0 m1 p0 p1 k0 k1
       obtain ⟨k0, f0⟩ := k0
       obtain ⟨k1, f1⟩ := k1
       by_cases huv : (u1, u2) = (v1, v2)
       ·have he := fun W => neqP (u1, u2) (v1, v2) W
        rw [decide_eq_true huv] at he
        simp only [Pv, Bool.not_true] at he
        go_wp2_with fail
        go_region
        go_wp2_with fail
        go_roundg (d.size - (k + (k2 + 1)))
        case measure => omega
        case rel => exact ⟨kk, k2 + 1, q2 + 1, dk, rfl, by go_num, by omega, by omega, Nat.le_refl _, by rw [W2.out]; rfl, I2.out.skip (keeps_neg (by omega) (by rw [C.out.1, show k + k2 - 1 = k + k2 - 1 from rfl, C.out.2, huv]))⟩
       ·have he := fun W => neqP (u1, u2) (v1, v2) W
        rw [decide_eq_false huv] at he
        simp only [Pv, Bool.not_false] at he
        go_wp2_with fail
        go_region
        go_wp2_with fail
        go_roundg (d.size - (k + (k2 + 1)))
        case measure => omega
        case rel => exact ⟨kk + 1, k2 + 1, q2 + 1, dk.setIfInBounds kk (u1, u2), by go_num, by go_num, by omega, by omega, Nat.le_refl _, (congrArg World.drew (store_pair (by omega) W2.out (u1, u2))).trans rfl, by have := I2.out.keep hlt2 (keeps_pos (by rw [C.out.1, C.out.2]; exact huv)); rw [C.out.1] at this; exact this⟩
      ·have hend : k + k2 = d.size := by omega
       have hcl : ∀ ty, (Builtin.clear_ #[28] ty #[.slice (some ⟨blk, off + kk * 2, none⟩) (d.size - kk) (cap - kk)]).run Tryz.prog wr = .ok (.tuple #[]) (wr.setCells blk (off + kk * 2) (List.replicate ((d.size - kk) * 2) (.int .i64 0))) :=
        fun ty => clearP wr ty blk (off + kk * 2) _ _ (by omega) (fun j hj => by rw [Nat.add_assoc, (hHk (kk * 2 + j) (by simp; omega)).1]; rfl) (fun j hj => by rw [Nat.add_assoc]; exact (hHk (kk * 2 + j) (by simp; omega)).2)
       clear hHk hI
       go_wp2_with fail
       go_ret
       have hI := I2.out
       rw [hend] at hI
       have hlen := hI.len
       refine ⟨by rw [hlen]; rfl, q2, setMany (flatK encP 2 dk) (kk * 2) (List.replicate ((d.size - kk) * 2) (.int .i64 0)), by simp [hds], ?_, by rw [hlen]; omega, ?_⟩
       ·rw [hlen]
        apply List.ext_getElem?
        intro j
        by_cases hj : j < kk * 2
        ·have hjs : j < (setMany (flatK encP 2 dk) (kk * 2) (List.replicate ((d.size - kk) * 2) (.int .i64 0))).size := by simp; omega
         rw [List.getElem?_take_of_lt hj, Array.getElem?_toList, Array.getElem?_eq_getElem hjs, ← getElem!_pos _ j hjs, get_setMany _ _ _ j (by simp; omega), if_neg (by omega), get_flatK _ _ _ j (by omega), flatP_get? _ j (by rw [hlen]; exact hj)]
         have hlo := hI.low (j / 2) (by omega)
         have : (compactUpTo d d.size).toArray[j / 2]! = dk[j / 2]! := by
          rw [getElem!_pos _ (j / 2) (by simp; omega)]
          rw [List.getElem?_eq_getElem (by omega)] at hlo
          simpa using hlo
         rw [this]
        ·rw [List.getElem?_take_eq_none (by omega), List.getElem?_eq_none (by rw [flatP_len, hlen]; omega)]
       ·rw [W2.out]
        exact setCells_putRow _ _ _ _ _ _ (by simp [hds]; omega)
    ·have he := fun W => eqlP (x1, x2) (y1, y2) W
     rw [decide_eq_false hdup] at he
     simp only [Pv] at he
     go_wp2_with fail
     go_region
     go_wp2_with fail
     go_roundg (d.size - (k + 1))
     case measure => omega
     case rel =>
      refine ⟨k + 1, q + 1, by omega, by omega, Nat.le_refl _, by go_num, rfl, fun j hj => ?_⟩
      by_cases e : j = k
      ·subst e
       exact keeps_pos (by rw [B.out.1, B.out.2]; exact hdup)
      ·exact A.out j (by omega)
   ·have : k = d.size := by omega
    subst this
    have HH := hid hH
    clear hH
    go_wp2
    go_ret
    obtain ⟨e1, q', F, e2, e3, e4⟩ := HS.out q hall
    exact ⟨by rw [e1]; rfl, q', F, e2, by rw [e1]; exact e3, by omega, e4⟩
theorem compactP_any (base g cap : Nat) (l : List (Int × Int)) (w : World) (h : w.ownsRow base 38 2 (.slice (some ⟨g, 0, none⟩) l.length cap) l.length (flatP l)) (hn : l.length ≤ 1000000) :
    Calls Tryz.prog 75 #[.slice (some ⟨g, 0, none⟩) l.length cap] w fun e w' => ∃ k, e = .returned (.slice (some ⟨g, 0, none⟩) k cap) ∧ k = (compact l).length ∧ w'.ownsRow base 38 2 (.slice (some ⟨g, 0, none⟩) k cap) k (flatP (compact l)) ∧ w.grownBy w' (some g) := by
 have hcap : l.length ≤ cap := by
  rcases h.2 with ⟨h2, _⟩ | ⟨g', cap', cur, h2, _, _, h3, _⟩
  ·cases h2
  ·simp only [Value.slice.injEq] at h2
   omega
 have hs : l.toArray.size = l.length := by simp
 have hc := compactP_arr g 0 cap l.toArray w (holdsP_of_row h) (by omega) (by omega)
 rw [hs] at hc
 refine hc.mono ?_
 rintro e w' ⟨rfl, q, F, h1, h2, h3, rfl⟩
 have eg : grow (putRow id (Sort.ahead w q) g 0 F) #[] = putRow id (Sort.ahead w q) g 0 F := by
  unfold grow
  rw [Array.append_empty]
 refine ⟨_, rfl, rfl, ?_, by have := grownBy_put (w := w) (g := g) (m := q) (os := #[]) F; rw [eg] at this; exact this⟩
 have := row_putV (k := (compact l).length) (l' := compact l) (m := q) (os := #[]) (F := F) h h1 h3 h2
 rw [eg] at this
 exact this
end Go.Proofs.YtcekilcgpgjooaaGreatDoor
namespace Go.Proofs.YtcekilcgpgjooaaGreatDoor
open Go Go.RowKit Go.Sort
open Go.Lib (hid)
def Grw (w w' : World) : Prop := ∃ q os, w' = grow (w.drewN q) os
theorem Grw.refl (w : World) : Grw w w := ⟨0, #[], by simp [World.drewN]⟩
theorem Grw.alloc {w w' : World} (h : Grw w w') (o : Obj) : Grw w (w'.alloc o) := by
 obtain ⟨q, os, rfl⟩ := h
 exact ⟨q, os ++ #[o], by rw [alloc_eq_grow, grow_grow]⟩
theorem Grw.drewN {w w' : World} {n : Nat} (h : Grw w w') : Grw w (w'.drewN n) := by
 obtain ⟨q, os, rfl⟩ := h
 exact ⟨q + n, os, by simp [grow, World.drewN, Nat.add_assoc]⟩
theorem Grw.drew {w w' : World} (h : Grw w w') : Grw w w'.drew := by
 obtain ⟨q, os, rfl⟩ := h
 exact ⟨q + 1, os, by simp [grow, World.drewN, World.drew, Nat.add_assoc]⟩
theorem cmpG_any (p q : Int × Int) (w : World) : Calls Tryz.prog 41 #[Pv p, Pv q] w fun e w' => e = .returned (.int .i64 (cmpP p q)) ∧ Grw w w' := by
 obtain ⟨p1, p2⟩ := p
 obtain ⟨q1, q2⟩ := q
 obtain ⟨W, hW⟩ : ∃ W : World, W = (w.alloc (Obj.cells #[.int .i64 p1, .int .i64 p2] 38)).alloc (Obj.cells #[.int .i64 q1, .int .i64 q2] 38) := ⟨_, rfl⟩
 have hWb : Grw w W := by rw [hW]; exact ((Grw.refl _).alloc _).alloc _
 have hWs : W.heap.size = w.heap.size + 2 := by rw [hW]; simp
 have k0 : W.heap[w.heap.size]? = some (Obj.cells #[.int .i64 p1, .int .i64 p2] 38 (0, 0)) := by rw [hW]; exact heap_old2 _ _ _
 have k1 : W.heap[w.heap.size + 1]? = some (Obj.cells #[.int .i64 q1, .int .i64 q2] 38 (0, 0)) := by rw [hW]; exact heap_new2 _ _ _
 obtain ⟨b, hb⟩ : ∃ b, b = w.heap.size := ⟨_, rfl⟩
 rw [← hb] at k0 k1
 obtain ⟨x0, x1⟩ := cells2 k0
 obtain ⟨y0, y1⟩ := cells2 k1
 obtain ⟨u, hu⟩ : ∃ u, u = cmpI p1 q1 := ⟨_, rfl⟩
 obtain ⟨v, hv⟩ : ∃ v, v = cmpI p2 q2 := ⟨_, rfl⟩
 have HU := hid (fun x => (show Calls Tryz.prog 79 #[.int .i64 p1, .int .i64 q1] x (fun e x' => e = .returned (.int .i64 u) ∧ x = x') by rw [hu]; exact cmpI_any p1 q1 x))
 have HV := hid (fun x => (show Calls Tryz.prog 79 #[.int .i64 p2, .int .i64 q2] x (fun e x' => e = .returned (.int .i64 v) ∧ x = x') by rw [hv]; exact cmpI_any p2 q2 x))
 obtain ⟨rr, hrr⟩ : ∃ rr : Int, rr = (if u ≠ 0 then u else v) := ⟨_, rfl⟩
 have HR := hid (show rr = cmpP (p1, p2) (q1, q2) by rw [hrr]; unfold cmpP; rw [hu, hv])
 have HCO := hid (fun x b' h0 h1 => (show Calls Tryz.prog 78 #[.slice (some ⟨b', 0, none⟩) 2 2] x (fun e x' => e = .returned (.int .i64 rr) ∧ x' = x) by rw [hrr]; exact cor_any b' u v x h0 h1))
 have HWB := hid hWb
 clear hWb hWs k0 k1 hu hv hrr
 go_enter Tryz.func41, Tryz.ntmps41
 go_wp2_with fail
 rw [← hW, ← hb]
 clear hW hb
 go_region_held3 (fun x : World => x.cell? ⟨b, 0, none⟩ = some (.int .i64 p1) ∧ x.cell? ⟨b, 1, none⟩ = some (.int .i64 p2) ∧ x.cell? ⟨b + 1, 0, none⟩ = some (.int .i64 q1) ∧ x.cell? ⟨b + 1, 1, none⟩ = some (.int .i64 q2)) (first | exact ⟨x0, x1, y0, y1⟩ | exact ⟨cellAl x0, cellAl x1, cellAl y0, cellAl y1⟩ | fail) (first
  | (go_at_call 79; refine callAt (args' := #[.int .i64 p1, .int .i64 q1]) rfl ?_; refine (HU.out _).mono ?_; rintro e x ⟨rfl, hx⟩; subst hx)
  | (go_at_call 79; refine callAt (args' := #[.int .i64 p2, .int .i64 q2]) rfl ?_; refine (HV.out _).mono ?_; rintro e x ⟨rfl, hx⟩; subst hx)
  | (go_at_call 78; refine (HCO.out _ _ (by simp) (by simp)).mono ?_; rintro e x ⟨rfl, hx⟩; subst hx)
  | fail)
 all_goals (go_wp2_with fail; go_ret; exact ⟨by rw [← HR.out]; rfl, by first | exact (HWB.out.alloc _).drewN | exact (HWB.out.alloc _).drew | exact (HWB.out.alloc _).drewN.drew⟩)
end Go.Proofs.YtcekilcgpgjooaaGreatDoor
namespace Go.Proofs
open Go.Shelf Go.RowKit Go.Lib Go.Sort
def Tryz.sortP_ren : Go.Shelf.Ren := ⟨fun | 6 => 74 | 15 => 111 | 14 => 110 | 28 => 152 | 29 => 153 | 20 => 144 | 21 => 145 | 22 => 146 | 23 => 147 | 24 => 148 | 25 => 149 | 26 => 150 | 27 => 151 | 46 => 176 | 47 => 177 | 48 => 178 | 49 => 179 | 50 => 180 | 57 => 196 | n => n, fun | 22 => 28 | 24 => 38 | 25 => 78 | 3 => 3 | 39 => 150 | 0 => 0 | 53 => 178 | 55 => 139 | 4 => 4 | 46 => 172 | 45 => 171 | 50 => 101 | 5 => 5 | 9 => 9 | 66 => 197 | 70 => 141 | 76 => 213 | 77 => 126 | n => n, fun | n => n⟩
theorem Tryz.sortP : Go.Proofs.SlLaysF0.n6 Tryz.prog Tryz.sortP_ren := {
 mixed := (by kernel_rfl),
 f6 := ⟨Tryz.f74.name, by decide, Tryz.func74.trans (congrArg some (by kernel_rfl))⟩,
 f14 := ⟨Tryz.f110.name, by decide, Tryz.func110.trans (congrArg some (by kernel_rfl))⟩,
 f15 := Tryz.func111.trans (congrArg some (by kernel_rfl)),
 f20 := ⟨Tryz.f144.name, by decide, Tryz.func144.trans (congrArg some (by kernel_rfl))⟩,
 f21 := ⟨Tryz.f145.name, by decide, Tryz.func145.trans (congrArg some (by kernel_rfl))⟩,
 f22 := ⟨Tryz.f146.name, by decide, Tryz.func146.trans (congrArg some (by kernel_rfl))⟩,
 f23 := ⟨Tryz.f147.name, by decide, Tryz.func147.trans (congrArg some (by kernel_rfl))⟩,
 f24 := ⟨Tryz.f148.name, by decide, Tryz.func148.trans (congrArg some (by kernel_rfl))⟩,
 f25 := ⟨Tryz.f149.name, by decide, Tryz.func149.trans (congrArg some (by kernel_rfl))⟩,
 f26 := ⟨Tryz.f150.name, by decide, Tryz.func150.trans (congrArg some (by kernel_rfl))⟩,
 f27 := ⟨Tryz.f151.name, by decide, Tryz.func151.trans (congrArg some (by kernel_rfl))⟩,
 f28 := Tryz.func152.trans (congrArg some (by kernel_rfl)),
 f29 := Tryz.func153.trans (congrArg some (by kernel_rfl)),
 f46 := ⟨Tryz.f176.name, by decide, Tryz.func176.trans (congrArg some (by kernel_rfl))⟩,
 f47 := Tryz.func177.trans (congrArg some (by kernel_rfl)),
 f48 := Tryz.func178.trans (congrArg some (by kernel_rfl)),
 f49 := ⟨Tryz.f179.name, by decide, Tryz.func179.trans (congrArg some (by kernel_rfl))⟩,
 f50 := ⟨Tryz.f180.name, by decide, Tryz.func180.trans (congrArg some (by kernel_rfl))⟩,
 f57 := ⟨Tryz.f196.name, by decide, Tryz.func196.trans (congrArg some (by kernel_rfl))⟩,
 t0 := Tryz.underlying0,
 a0 := Tryz.isAgg0,
 z0 := Tryz.sizeOf0,
 v0 := Tryz.zeroValue0,
 t3 := Tryz.underlying3,
 a3 := Tryz.isAgg3,
 z3 := Tryz.sizeOf3,
 v3 := Tryz.zeroValue3,
 t4 := Tryz.underlying4,
 a4 := Tryz.isAgg4,
 z4 := Tryz.sizeOf4,
 v4 := Tryz.zeroValue4,
 t5 := Tryz.underlying5,
 a5 := Tryz.isAgg5,
 z5 := Tryz.sizeOf5,
 v5 := Tryz.zeroValue5,
 t9 := Tryz.underlying9,
 a9 := Tryz.isAgg9,
 z9 := Tryz.sizeOf9,
 v9 := Tryz.zeroValue9,
 t22 := Tryz.underlying28,
 a22 := Tryz.isAgg28,
 z22 := Tryz.sizeOf28,
 v22 := Tryz.zeroValue28,
 t25 := Tryz.underlying78,
 a25 := Tryz.isAgg78,
 z25 := Tryz.sizeOf78,
 v25 := Tryz.zeroValue78,
 t39 := Tryz.underlying150,
 a39 := Tryz.isAgg150,
 z39 := Tryz.sizeOf150,
 v39 := Tryz.zeroValue150,
 t45 := Tryz.underlying171,
 a45 := Tryz.isAgg171,
 z45 := Tryz.sizeOf171,
 v45 := Tryz.zeroValue171,
 t46 := Tryz.underlying172,
 a46 := Tryz.isAgg172,
 z46 := Tryz.sizeOf172,
 v46 := Tryz.zeroValue172,
 t50 := Tryz.underlying101,
 a50 := Tryz.isAgg101,
 z50 := Tryz.sizeOf101,
 v50 := Tryz.zeroValue101,
 t53 := Tryz.underlying178,
 a53 := Tryz.isAgg178,
 z53 := Tryz.sizeOf178,
 v53 := Tryz.zeroValue178,
 t55 := Tryz.underlying139,
 a55 := Tryz.isAgg139,
 z55 := Tryz.sizeOf139,
 v55 := Tryz.zeroValue139,
 t66 := Tryz.underlying197,
 a66 := Tryz.isAgg197,
 z66 := Tryz.sizeOf197,
 v66 := Tryz.zeroValue197,
 t70 := Tryz.underlying141,
 a70 := Tryz.isAgg141,
 z70 := Tryz.sizeOf141,
 v70 := Tryz.zeroValue141,
 t76 := Tryz.underlying213,
 a76 := Tryz.isAgg213,
 z76 := Tryz.sizeOf213,
 v76 := Tryz.zeroValue213,
 t77 := Tryz.underlying126,
 a77 := Tryz.isAgg126,
 z77 := Tryz.sizeOf126,
 v77 := Tryz.zeroValue126 }
end Go.Proofs
namespace Go.Proofs.YtcekilcgpgjooaaGreatDoor
open Go Go.RowKit Go.Sort Go.Lib
theorem cmpP_lt (p q : Int × Int) : cmpP p q < 0 ↔ p.1 < q.1 ∨ p.1 = q.1 ∧ p.2 < q.2 := by
 unfold cmpP cmpI
 by_cases h1 : p.1 < q.1
 ·simp [h1]
 ·by_cases h2 : q.1 < p.1
  ·simp [h1, h2]; omega
  ·have h3 : p.1 = q.1 := by omega
   by_cases h4 : p.2 < q.2
   ·simp [h3, h4]
   ·by_cases h5 : q.2 < p.2 <;> simp [h3, h4, h5]
theorem ltP (x y : Int × Int) : ltOf cmpP x y = decide (x.1 < y.1 ∨ x.1 = y.1 ∧ x.2 < y.2) := by
 unfold ltOf
 exact decide_eq_decide.2 (cmpP_lt x y)
theorem swoP : SWO (ltOf cmpP) where
 irrefl x := by rw [ltP]; simp
 trans x y z h1 h2 := by rw [ltP] at *; simp at *; omega
 ntrans x y z h1 h2 := by rw [ltP] at *; simp at *; omega
theorem sortP_any (blk off cap : Nat) (d : Array (Int × Int)) (w : World) (hH : HoldsK encP 2 w blk off d) (hblk : blk < w.heap.size) (hsz : d.size < 4611686018427387904) :
    Calls Tryz.prog 74 #[.slice (some ⟨blk, off, none⟩) d.size cap, .func (.func 41) #[] #[]] w fun e w' => e = .returned (.tuple #[]) ∧ ∃ d' n os, PermIn 0 d.size d d' ∧ SortedIn (ltOf cmpP) 0 d.size d' ∧ w' = sortWorldK encP 2 w blk off n d' os := by
 have eg : ∀ args w, (callFunc 41 args).run Tryz.prog w = .ok (.enter 41 args) w := enters_of Tryz.func41 (by kernel_rfl) rfl
 have hcmp : CmpLays Tryz.prog 41 #[] encP 2 cmpP blk off d.size w := fun _ _ _ _ x y => cmpG_any x y _
 exact AnyQ.slices_SortFunc Tryz.sortP 2 isAggP sizeOfP encP (fun _ => rfl) (fun x v hv => by simp [encP] at hv; rcases hv with rfl | rfl <;> rfl) cmpP swoP 41 #[] blk off cap d w eg hcmp hH hblk hsz
end Go.Proofs.YtcekilcgpgjooaaGreatDoor
namespace Go.Proofs
open Go.Shelf Go.RowKit Go.Lib
def Tryz.cloneP_ren : Go.Shelf.Ren := ⟨fun | 41 => 73 | n => n, fun | 22 => 28 | 23 => 38 | 4 => 4 | n => n, fun | n => n⟩
theorem Tryz.cloneP : Go.Proofs.SlLaysE0.n41 Tryz.prog Tryz.cloneP_ren := {
 mixed := (by kernel_rfl),
 f41 := ⟨Tryz.f73.name, by decide, Tryz.func73.trans (congrArg some (by kernel_rfl))⟩,
 t4 := Tryz.underlying4,
 a4 := Tryz.isAgg4,
 z4 := Tryz.sizeOf4,
 v4 := Tryz.zeroValue4,
 t22 := Tryz.underlying28,
 a22 := Tryz.isAgg28,
 z22 := Tryz.sizeOf28,
 v22 := Tryz.zeroValue28 }
end Go.Proofs
namespace Go.Proofs.YtcekilcgpgjooaaGreatDoor
open Go Go.RowKit
theorem cloneP_any (b off n c : Nat) (news : List Value) (w : World) (hl : news.length = n * 2) (hn : n ≤ 1000000) (hc : ∀ j u, news[j]? = some u → w.cell? ⟨b, off + j, none⟩ = some u) (h1 : ∀ u ∈ news, u.oneCell' = true) :
    Calls Tryz.prog 73 #[.slice (some ⟨b, off, none⟩) n c] w fun e w' => ∃ v', e = .returned v' ∧ w'.ownsRow w.heap.size 38 2 v' n news ∧ v' ≠ .slice none 0 0 ∧ Below w.heap.size w w' := by
 obtain ⟨i0, hi, hz⟩ := Option.map_eq_some_iff.1 infoP
 simp only [Prod.mk.injEq] at hz
 obtain ⟨hz0, hz1, hz2⟩ := hz
 exact AnyE.slices_Clone Tryz.cloneP i0 (.agg #[.int .i64 0, .int .i64 0]) 2 16 hi hz0 hz1 hz2 rfl (by decide) sizeOfP b off n c news w hl (by unfold maxLen; omega) (by omega) hc h1
theorem cloneP_nil (n c : Nat) (w : World) : Calls Tryz.prog 73 #[.slice none n c] w fun e w' => e = .returned (.slice none 0 0) ∧ w' = w :=
 AnyE.slices_Clone_nil Tryz.cloneP n c w
end Go.Proofs.YtcekilcgpgjooaaGreatDoor
