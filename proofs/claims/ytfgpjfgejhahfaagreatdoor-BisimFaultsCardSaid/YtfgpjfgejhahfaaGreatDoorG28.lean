/- Proved here: contracts of the walk to BisimFaults: the reference's way; each under the conditions that its own statement names. -/
import Derived.Test.YtfgpjfgejhahfaaGreatDoorG27
import Derived.Maps.AppendAt
set_option maxRecDepth 100000
set_option maxHeartbeats 6400000
namespace Go.Proofs.YtfgpjfgejhahfaaGreatDoor
open Go Go.RowKit
def pthL (g T cp : Nat → Nat) (K : Nat) : List Value := (List.range K).map (fun i => Value.slice (some ⟨g i, 0, none⟩) (2 * T i + 1) (cp i))
theorem pthL_add (g T cp : Nat → Nat) (K gN t cN : Nat) : pthL (at1 g K gN) (at1 T K t) (at1 cp K cN) (K + 1) = pthL g T cp K ++ [Value.slice (some ⟨gN, 0, none⟩) (2 * t + 1) cN] := by
 unfold pthL
 rw [List.range_succ, List.map_append]
 congr 1
 ·refine List.map_congr_left (fun i hi => ?_)
  have := List.mem_range.1 hi
  rw [at1_old _ _ this, at1_old _ _ this, at1_old _ _ this]
 ·simp [at1]
theorem pthL_get {g T cp : Nat → Nat} {K i : Nat} (h : i < K) : (pthL g T cp K)[i]? = some (Value.slice (some ⟨g i, 0, none⟩) (2 * T i + 1) (cp i)) := by simp [pthL, h]
structure WayM (B : Nat) (w : World) (rb cb : Nat) (v : Value) (n m K : Nat) (P : Nat → Nat → Nat) (T g cp : Nat → Nat) (R C : Nat → Bool) : Prop where
 rows : w.rowIs rb 4 n (fun i => .bool (R i))
 cols : w.rowIs cb 4 m (fun j => .bool (C j))
 own : w.ownsRow B 26 1 v K (pthL g T cp K)
 mem : ∀ i, i < K → RowP w (g i) (2 * T i + 1) (fun j => (P i j : Int))
 ge : ∀ i, i < K → B ≤ g i
 ne : ∀ i, i < K → v.ownBlock ≠ some (g i)
theorem WayM.below {B : Nat} {w w' : World} {rb cb : Nat} {v : Value} {n m K : Nat} {P : Nat → Nat → Nat} {T g cp : Nat → Nat} {R C : Nat → Bool} (h : WayM B w rb cb v n m K P T g cp R C) (hb : Below w.heap.size w w') : WayM B w' rb cb v n m K P T g cp R C :=
 ⟨h.rows.of_block (hb.block _ h.rows.lt), h.cols.of_block (hb.block _ h.cols.lt), row_below h.own hb, fun i hi => (h.mem i hi).same (hb.block _ (h.mem i hi).lt), h.ge, h.ne⟩
theorem WayM.setRow {B : Nat} {w : World} {rb cb : Nat} {v : Value} {n m K : Nat} {P : Nat → Nat → Nat} {T g cp : Nat → Nat} {R C : Nat → Bool} (h : WayM B w rb cb v n m K P T g cp R C) (hr : rb < B) (hc : cb ≠ rb) (a : Nat) :
    WayM B (w.setCell ⟨rb, a, none⟩ (.bool true)) rb cb v n m K P T g cp (mk1 R a) C :=
 ⟨(rowB_set h.rows a true).congr (fun i _ => by simp [mk1]), h.cols.setOther (by simpa using hc) _, ownsRow_setCell_below h.own (by simpa using hr) _, fun i hi => (h.mem i hi).same (Below.heap_setCell _ _ _ _ (by have := h.ge i hi; simp only; omega)), h.ge, h.ne⟩
theorem WayM.setCol {B : Nat} {w : World} {rb cb : Nat} {v : Value} {n m K : Nat} {P : Nat → Nat → Nat} {T g cp : Nat → Nat} {R C : Nat → Bool} (h : WayM B w rb cb v n m K P T g cp R C) (hr : cb < B) (hc : rb ≠ cb) (b : Nat) :
    WayM B (w.setCell ⟨cb, b, none⟩ (.bool true)) rb cb v n m K P T g cp R (mk1 C b) :=
 ⟨h.rows.setOther (by simpa using hc) _, (rowB_set h.cols b true).congr (fun i _ => by simp [mk1]), ownsRow_setCell_below h.own (by simpa using hr) _, fun i hi => (h.mem i hi).same (Below.heap_setCell _ _ _ _ (by have := h.ge i hi; simp only; omega)), h.ge, h.ne⟩
theorem WayM.push {B : Nat} {w w2 : World} {rb cb : Nat} {v v' : Value} {n m K : Nat} {P : Nat → Nat → Nat} {T g cp : Nat → Nat} {R C : Nat → Bool} (h : WayM B w rb cb v n m K P T g cp R C) (hr : rb < B) (hc : cb < B) {p : Nat → Nat} {t gN cN : Nat}
    (hm : RowP w gN (2 * t + 1) (fun j => (p j : Int))) (hge : B ≤ gN) (hne : v.ownBlock ≠ some gN) (hg : w.grownBy w2 v.ownBlock) (hat : v'.ownBlock = v.ownBlock ∨ v'.ownBlock = some w.heap.size)
    (hown : w2.ownsRow B 26 1 v' (K + 1) (pthL g T cp K ++ [Value.slice (some ⟨gN, 0, none⟩) (2 * t + 1) cN])) : WayM B w2 rb cb v' n m (K + 1) (at1 P K p) (at1 T K t) (at1 g K gN) (at1 cp K cN) R C := by
 have keep : ∀ k, k < w.heap.size → v.ownBlock ≠ some k → w2.heap[k]? = w.heap[k]? := fun k hk hn => hg.block k hk (fun e => hn e.symm)
 have hlow : ∀ k, k < B → v.ownBlock ≠ some k := fun k hk e => by have := (h.own.lt k e).1; omega
 refine ⟨h.rows.of_block (keep _ h.rows.lt (hlow _ hr)), h.cols.of_block (keep _ h.cols.lt (hlow _ hc)), by rw [pthL_add]; exact hown, fun i hi => ?_, fun i hi => ?_, fun i hi => ?_⟩
 ·by_cases e : i = K
  ·subst e
   rw [at1_same, at1_same, at1_same]
   exact hm.same (keep _ hm.lt hne)
  ·rw [at1_old _ _ (by omega), at1_old _ _ (by omega), at1_old _ _ (by omega)]
   exact (h.mem i (by omega)).same (keep _ (h.mem i (by omega)).lt (h.ne i (by omega)))
 ·by_cases e : i = K
  ·subst e; rw [at1_same]; exact hge
  ·rw [at1_old _ _ (by omega)]; exact h.ge i (by omega)
 ·have hx : at1 g K gN i < w.heap.size ∧ v.ownBlock ≠ some (at1 g K gN i) := by
   by_cases e : i = K
   ·subst e; rw [at1_same]; exact ⟨hm.lt, hne⟩
   ·rw [at1_old _ _ (by omega)]; exact ⟨(h.mem i (by omega)).lt, h.ne i (by omega)⟩
  rcases hat with e | e
  ·rw [e]; exact hx.2
  ·rw [e]; intro e2; have := Option.some.inj e2; omega
theorem rowP_new1 (w : World) (x : Int) : RowP (w.alloc (.cells #[.int .i64 x] 3)) w.heap.size 1 (fun _ => x) :=
 ⟨_, heap_new _ _, by simp, fun i hi => by have : i = 0 := by omega
                                           subst this; rfl⟩
theorem WayM.one {B : Nat} {w w2 : World} {rb cb : Nat} {v v' : Value} {n m K : Nat} {P : Nat → Nat → Nat} {T g cp : Nat → Nat} {R C : Nat → Bool} (h : WayM B w rb cb v n m K P T g cp R C) (hr : rb < B) (hc : cb < B) (hB : B ≤ w.heap.size) {k sz : Nat} (hsz : w.heap.size = sz)
    (hg : ((w.alloc (.cells #[.int .i64 (k : Int)] 3)).alloc (.cells #[.slice (some ⟨sz, 0, none⟩) 1 1] 26)).grownBy w2 v.ownBlock)
    (hat : v'.ownBlock = v.ownBlock ∨ v'.ownBlock = some ((w.alloc (.cells #[.int .i64 (k : Int)] 3)).alloc (.cells #[.slice (some ⟨sz, 0, none⟩) 1 1] 26)).heap.size)
    (hown : w2.ownsRow B 26 1 v' (K + 1) (pthL g T cp K ++ [Value.slice (some ⟨sz, 0, none⟩) 1 1])) : WayM B w2 rb cb v' n m (K + 1) (at1 P K (fun _ => k)) (at1 T K 0) (at1 g K sz) (at1 cp K 1) R C ∧ Below B w w2 := by
 subst hsz
 have hb : Below w.heap.size w ((w.alloc (.cells #[.int .i64 (k : Int)] 3)).alloc (.cells #[.slice (some ⟨w.heap.size, 0, none⟩) 1 1] 26)) := ba2 _ _ _
 have hrow := rowP_new1 w (k : Int)
 have hrow2 : RowP ((w.alloc (.cells #[.int .i64 (k : Int)] 3)).alloc (.cells #[.slice (some ⟨w.heap.size, 0, none⟩) 1 1] 26)) w.heap.size 1 (fun _ => (k : Int)) := hrow.same (Below.heap_alloc _ _ _ hrow.lt)
 refine ⟨(h.below hb).push hr hc hrow2 hB (fun e => by have := (h.own.lt _ e).2; omega) hg hat hown, ?_⟩
 exact (hb.mono hB).grown hg (by simp; omega) (fun j hj => (h.own.lt j hj).1)
theorem own_slice {w : World} {B : Nat} {e : TypeId} {v : Value} {n : Nat} {xs : List Value} (h : w.ownsRow B e 1 v n xs) : ∃ a c, v = .slice a n c ∧ ∀ i x, xs[i]? = some x → ∃ b, a = some ⟨b, 0, none⟩ ∧ w.cell? ⟨b, i, none⟩ = some x := by
 rcases h.2 with ⟨rfl, rfl⟩ | ⟨g, cap, cur, rfl, _, hb, h4, _, h6, h7⟩
 ·refine ⟨none, 0, rfl, fun i x hx => ?_⟩
  have := h.1
  simp only [Nat.zero_mul, List.length_eq_zero_iff] at this
  subst this; simp at hx
 ·refine ⟨some ⟨g, 0, none⟩, cap, rfl, fun i x hx => ⟨g, rfl, ?_⟩⟩
  simp only [World.cell?, hb, Option.isSome_none, Bool.false_eq_true, if_false]
  rw [← h7] at hx
  have hl : i < n := by
   have := (List.getElem?_eq_some_iff.1 hx).1
   simp at this; omega
  rw [List.getElem?_take_of_lt (by omega), Array.getElem?_toList] at hx
  exact hx
theorem own_pos {w : World} {B : Nat} {e : TypeId} {v : Value} {n : Nat} {xs : List Value} (h : w.ownsRow B e 1 v n xs) (hn : 0 < n) : ∃ g c, v = .slice (some ⟨g, 0, none⟩) n c := by
 rcases h.2 with ⟨_, h0⟩ | ⟨g, cap, cur, h1, _⟩
 ·omega
 ·exact ⟨g, cap, h1⟩
theorem WayM.path {B : Nat} {w : World} {rb cb : Nat} {v : Value} {n m K : Nat} {P : Nat → Nat → Nat} {T g cp : Nat → Nat} {R C : Nat → Bool} (h : WayM B w rb cb v n m K P T g cp R C) :
    ∃ a c, v = .slice a K c ∧ ∀ i, i < K → ∃ b, a = some ⟨b, 0, none⟩ ∧ w.cell? ⟨b, i, none⟩ = some (.slice (some ⟨g i, 0, none⟩) (2 * T i + 1) (cp i)) := by
 obtain ⟨a, c, h1, h2⟩ := own_slice h.own
 exact ⟨a, c, h1, fun i hi => h2 i _ (pthL_get hi)⟩
def natL (f : Nat → Nat) (L : Nat) : List Int := (List.range L).map (fun j => (f j : Int))
theorem natL_len (f : Nat → Nat) (L : Nat) : (natL f L).length = L := by simp [natL]
theorem natL_snoc (f : Nat → Nat) (L : Nat) (x : Int) {i : Nat} (h : i < L + 1) : (natL f L ++ [x]).getD i 0 = if i = L then x else (f i : Int) := by
 by_cases e : i = L
 ·subst e
  simp [natL, List.getD_eq_getElem?_getD]
 ·have hi : i < L := by omega
  simp [natL, List.getD_eq_getElem?_getD, List.getElem?_append_left, hi, e]
theorem RowP.news {w : World} {g L : Nat} {f : Nat → Nat} (h : RowP w g L (fun j => (f j : Int))) : ∀ (j : Nat) (u : Value), ((natL f L).map (Value.int .i64))[j]? = some u → w.cell? (Addr.add ⟨g, 0, none⟩ j) = some u := by
 intro j u hu
 have hj : j < L := by
  have := (List.getElem?_eq_some_iff.1 hu).1
  simp [natL] at this; exact this
 have h1 := h.cell hj
 simp only [natL, List.map_map, List.getElem?_map, List.getElem?_range hj, Option.map_some, Function.comp, Option.some.injEq] at hu
 subst hu
 unfold Addr.add
 split
 ·subst j; exact h1
 ·simpa using h1
theorem natL_cells (f : Nat → Nat) (L : Nat) : ∀ u ∈ (natL f L).map (Value.int .i64), u.oneCell' = true := by
 intro u hu
 obtain ⟨x, _, rfl⟩ := List.mem_map.1 hu
 rfl
theorem rowP_copy {w : World} {s g L c : Nat} {f f' : Nat → Nat} {x : Nat} (h : w.ownsRow s 3 1 (.slice (some ⟨g, 0, none⟩) (L + 1) c) (L + 1) ((natL f L).map (Value.int .i64) ++ [.int .i64 (x : Int)])) (hx : f' L = x) (hf : ∀ j, j < L → f' j = f j) :
    RowP w g (L + 1) (fun j => (f' j : Int)) ∧ s ≤ g := by
 have h2 : w.ownsRow s 3 1 (.slice (some ⟨g, 0, none⟩) (L + 1) c) (L + 1) ((natL f L ++ [(x : Int)]).map (Value.int .i64)) := by simpa using h
 refine ⟨(rowP_of_own h2).congr (fun i hi => ?_), (h2.lt g rfl).1⟩
 rw [natL_snoc _ _ _ hi]
 by_cases e : i = L
 ·subst e; rw [if_pos rfl, hx]
 ·rw [if_neg e, hf i (by omega)]
theorem grown_keep {B : Nat} {w w2 : World} {v v' : Value} {n k L : Nat} {e : TypeId} {xs : List Value} {f : Nat → Int} (hg : w.grownBy w2 v.ownBlock) (hat : v'.ownBlock = v.ownBlock ∨ v'.ownBlock = some w.heap.size) (_ : w.ownsRow B e 1 v n xs)
    (hk : RowP w k L f) (hne : v.ownBlock ≠ some k) : RowP w2 k L f ∧ v'.ownBlock ≠ some k := by
 refine ⟨hk.same (hg.block _ hk.lt (fun e => hne e.symm)), ?_⟩
 rcases hat with e | e
 ·rw [e]; exact hne
 ·rw [e]; intro e2; have := hk.lt; have := Option.some.inj e2; omega
end Go.Proofs.YtfgpjfgejhahfaaGreatDoor
namespace Go.Proofs.YtfgpjfgejhahfaaGreatDoor
open Go Go.RowKit
open Go.Lib (hid)
def TabI (w : World) (c : Option Addr) (n m : Nat) (f : Nat → Nat → Int) : Prop :=
 ∃ (rows : Nat → Option Addr) (caps : Nat → Nat), Cel w c n (fun i => .slice (rows i) m (caps i)) ∧ ∀ i, i < n → Cel w (rows i) m (fun j => .int .i64 (f i j))
theorem TabI.row {w : World} {c : Option Addr} {n m : Nat} {f : Nat → Nat → Int} (h : TabI w c n m f) {i : Nat} (hi : i < n) :
    ∃ b o r k, c = some ⟨b, o, none⟩ ∧ ∀ x, Below w.heap.size w x → x.cell? ⟨b, o + i, none⟩ = some (.slice r m k) ∧ Cel x r m (fun j => .int .i64 (f i j)) := by
 obtain ⟨rows, caps, h1, h2⟩ := h
 obtain ⟨b, o, e, hc⟩ := h1 i hi
 refine ⟨b, o, rows i, caps i, e, fun x hx => ⟨?_, (h2 i hi).below hx⟩⟩
 rw [World.cell?_of_block (w := w) (a := ⟨b, o + i, none⟩) (hx.block b (lt_of_cell hc))]
 exact hc
def WayP (w : World) (n m : Nat) (rel : Nat → Nat → Bool) (mv : Nat → Nat → Int) (le ri : Nat → Int) (e : Ending) (w' : World) : Prop :=
 Below w.heap.size w w' ∧ ((e = .returned (.slice none 0 0) ∧ Shut n m rel mv le ri) ∨
  ∃ g cap p t, e = .returned (.slice (some ⟨g, 0, none⟩) (2 * t + 2) cap) ∧ RowP w' g (2 * t + 2) (fun j => (p j : Int)) ∧ Aug n m rel mv le ri p t ∧ t < n ∧ w.heap.size ≤ g)
structure Mks (w x : World) (n m rb cb : Nat) : Prop where
 rows : x.rowIs rb 4 n (fun _ => .bool false)
 cols : x.rowIs cb 4 m (fun _ => .bool false)
 ne : rb ≠ cb
 r : w.heap.size ≤ rb
 c : w.heap.size ≤ cb
 lo : Below w.heap.size w x
theorem infoRow : (Tryz.prog.info? 26).map (fun i => (i.zero, i.size, i.bytes)) = some (some (.slice none 0 0), 1, 24) := by kernel_rfl
theorem mks_rc (w : World) (n m : Nat) : Mks w ((w.alloc (Obj.cells (madeCells #[Value.bool false] n) 4)).alloc (Obj.cells (madeCells #[Value.bool false] m) 4)).drew n m w.heap.size (w.heap.size + 1) := by
 have h1 : (w.alloc (Obj.cells (madeCells #[Value.bool false] n) 4)).rowIs w.heap.size 4 n (fun _ => .bool false) := World.rowIs_made _ _ _ _
 have h2 := World.rowIs_made (w.alloc (Obj.cells (madeCells #[Value.bool false] n) 4)) (Value.bool false) m 4
 have e : (w.alloc (Obj.cells (madeCells #[Value.bool false] n) 4)).heap.size = w.heap.size + 1 := by simp
 rw [e] at h2
 refine ⟨(h1.of_block (Below.heap_alloc _ _ _ h1.lt)).drew, h2.drew, by omega, Nat.le_refl _, by omega, ?_⟩
 exact (ba2 _ _ _).drew
theorem mks_cr (w : World) (n m : Nat) : Mks w ((w.alloc (Obj.cells (madeCells #[Value.bool false] m) 4)).alloc (Obj.cells (madeCells #[Value.bool false] n) 4)).drew n m (w.heap.size + 1) w.heap.size := by
 have h := mks_rc w m n
 exact ⟨h.cols, h.rows, h.ne.symm, h.c, h.r, h.lo⟩
theorem way_any (c1 c2 c3 c4 : Option Addr) (p1 p2 p3 p4 n m : Nat) (rel : Nat → Nat → Bool) (mv : Nat → Nat → Int) (le ri : Nat → Int) (w : World)
    (h1 : Cel w c1 n (fun i => .int .i64 (le i))) (h2 : Cel w c2 m (fun i => .int .i64 (ri i))) (h3 : TabI w c3 n m mv) (h4 : Tab w c4 n m rel) (hn : n ≤ 1000) (hm : m ≤ 1000) :
    Calls Tryz.prog 108 #[.slice c1 n p1, .slice c2 m p2, .slice c3 n p3, .slice c4 n p4] w (WayP w n m rel mv le ri) := by
 have H1 := hid (fun x (hx : Below w.heap.size w x) => h1.below hx)
 have H2 := hid h2
 have H3 := hid h3
 have H4 := hid h4
 clear h1 h2 h3 h4
 have hmkn := run_make_row' (P := Tryz.prog) 92 4 (.bool false) 1 Tryz.underlying92 infoBl rfl .i64 .i64 n (by omega) (by omega)
 have hmkm := run_make_row' (P := Tryz.prog) 92 4 (.bool false) 1 Tryz.underlying92 infoBl rfl .i64 .i64 m (by omega) (by omega)
 go_enter Tryz.func108, Tryz.ntmps108
 go_wp2_with fail
 go_cut [9, 10] from 20 to 25 (fun s9 s10 wx => ∃ rb cb : Nat, s9 = .slice (some ⟨rb, 0, none⟩) n n ∧ s10 = .slice (some ⟨cb, 0, none⟩) m m ∧ Mks w wx n m rb cb)
 case first =>
  go_region
  all_goals (go_wp2_with fail; go_meet)
  ·exact ⟨_, _, rfl, rfl, mks_rc w n m⟩
  ·exact ⟨_, _, rfl, rfl, mks_cr w n m⟩
 case rest =>
  obtain ⟨rb, cb, rfl, rfl, hk⟩ := hcut
  obtain ⟨i0, hi, hz0, hz1, hz2⟩ := info_parts infoInt
  obtain ⟨i1, ji, jz0, jz1, jz2⟩ := info_parts infoRow
  have HI := hid (And.intro hi (And.intro hz0 (And.intro hz1 hz2)))
  have HJ := hid (And.intro ji (And.intro jz0 (And.intro jz1 jz2)))
  obtain ⟨B, hB⟩ : ∃ B, B = wc.heap.size := ⟨_, rfl⟩
  have hrB : rb < B := by rw [hB]; exact hk.rows.lt
  have hcB : cb < B := by rw [hB]; exact hk.cols.lt
  have hne := hk.ne
  have HK := hid hk
  have HBB := hid hB
  clear hmkn hmkm hk hB hi hz0 hz1 hz2 ji jz0 jz1 jz2
  have HWB := hid HK.out.lo.size
  go_wp2_with fail
  go_loopw [11, 28] (fun u i wr => ∃ (k K : Nat) (v : Value) (P : Nat → Nat → Nat) (T g cp : Nat → Nat) (R : Nat → Bool), k ≤ n ∧ v = u ∧ i = .int .i64 k ∧ WayM B wr rb cb v n m K P T g cp R (fun _ => false) ∧ WayS n m rel mv le K P T R ∧ (∀ a, R a = true ↔ a < k ∧ 0 < le a) ∧ Below w.heap.size w wr ∧ B ≤ wr.heap.size) (fun _ i _ => n - (intOf i).toNat)
  case atStart => exact ⟨0, 0, _, fun _ _ => 0, fun _ => 0, fun _ => 0, fun _ => 0, fun _ => false, Nat.zero_le _, rfl, rfl, ⟨HK.out.rows, HK.out.cols, World.ownsRow_nil _ _ _ _, fun i h => by omega, fun i h => by omega, fun i h => by omega⟩, WayS.none, fun a => ⟨(fun h => by cases h), fun h => by omega⟩, HK.out.lo, by rw [HBB.out]; exact Nat.le_refl _⟩
  case round =>
   obtain ⟨k, K, v, P, T, g, cp, R, hk, rfl, rfl, hM, hS, hR, hb, hBw⟩ := hrel
   have HM := hid hM
   have HS := hid hS
   have HR := hid hR
   have HB := hid hb
   by_cases hlt : k < n
   ·obtain ⟨b, o, rfl, hx⟩ := H1.out wr hb k hlt
    dsimp only at hx
    have y0 := hM.rows.frozen k
    have y1 := hM.rows.cell hlt
    obtain ⟨x, hxx⟩ : ∃ x, x = le k := ⟨_, rfl⟩
    rw [← hxx] at hx
    have HX := hid hxx
    have hKn := hS.bound
    have hRk : R k = false := by
     cases h : R k
     ·rfl
     ·have := (hR k).1 h; omega
    clear hM hS hR hb hxx
    by_cases hpos : 0 < x
    ·have HM1 := hid (HM.out.setRow hrB hne.symm k)
     have HB1 := hid (show Below w.heap.size w (wr.setCell ⟨rb, k, none⟩ (.bool true)) from HB.out.setCell (by have := HK.out.r; simpa using this) _)
     have hsz : (wr.setCell ⟨rb, k, none⟩ (.bool true)).heap.size = wr.heap.size := by simp [World.setCell]
     go_wp2_with (at_builtin; refine wpList_append_own_at _ rfl _ _ 137 rfl B 26 i1 (.slice none 0 0) 1 24 Tryz.underlying137 HJ.out.1 HJ.out.2.1 HJ.out.2.2.1 HJ.out.2.2.2 rfl (by decide) _ _ _ rfl ((HM1.out.own.alloc _).alloc _) ⟨wr.heap.size + 1, 0, none⟩ 1 1 [.slice (some ⟨wr.heap.size, 0, none⟩) 1 1] rfl rfl (by have h := cell_one_new ((wr.setCell ⟨rb, k, none⟩ (.bool true)).alloc (.cells #[.int .i64 (k : Int)] 3)) (.slice (some ⟨wr.heap.size, 0, none⟩) 1 1) 26; simpa using h) (by intro u hu; simp at hu; subst hu; rfl) (by unfold maxLen; omega) (by omega) (by simp; omega) ?_; intro v' w1 hown' hgrow _ hat)
     have HN1 := hid (HM1.out.one hrB hcB (by rw [hsz]; exact hBw) hsz hgrow hat hown')
     clear hown' hgrow hat
     go_wp2_with fail
     go_roundw
     case rel =>
      refine ⟨k + 1, K + 1, _, _, _, _, _, _, by omega, rfl, by go_num, HN1.out.1, HS.out.first hlt hRk (by rw [← HX.out]; exact hpos), fun a => ?_, HB1.out.trans (HN1.out.2.mono (by rw [HBB.out]; exact HWB.out)), by have := HN1.out.2.size; omega⟩
      constructor
      ·intro h
       rcases mk1_inv h with e | e
       ·subst e; exact ⟨by omega, by rw [← HX.out]; exact hpos⟩
       ·have := (HR.out a).1 e; exact ⟨by omega, this.2⟩
      ·rintro ⟨h1, h2⟩
       by_cases e : a = k
       ·subst e; exact mk1_same _ _
       ·exact mk1_old ((HR.out a).2 ⟨by omega, h2⟩)
     case measure => simp [intOf]; omega
    ·go_wp2_with fail
     go_roundw
     case rel =>
      refine ⟨k + 1, K, _, _, _, _, _, _, by omega, rfl, by go_num, HM.out, HS.out, fun a => ?_, HB.out, hBw⟩
      rw [HR.out a]
      constructor
      ·rintro ⟨h1, h2⟩; exact ⟨by omega, h2⟩
      ·rintro ⟨h1, h2⟩
       by_cases e : a = k
       ·subst e; rw [← HX.out] at h2; exact absurd h2 hpos
       ·exact ⟨by omega, h2⟩
     case measure => simp [intOf]; omega
   ·obtain rfl : k = n := by omega
    have HIN := hid (show ∀ a, a < k → 0 < le a → R a = true from fun a ha hl => (hR a).2 ⟨ha, hl⟩)
    clear hM hS hR hb
    go_wp2_with fail
    obtain ⟨wx, hwx⟩ : ∃ wx, wx = wr := ⟨_, rfl⟩
    rw [← hwx]
    rw [← hwx] at HM HB hBw
    clear hwx
    go_loopw [11, 14] (fun u j wr => ∃ (q K : Nat) (v : Value) (P : Nat → Nat → Nat) (T g cp : Nat → Nat) (R C : Nat → Bool), q ≤ K ∧ v = u ∧ j = .int .i64 q ∧ WayM B wr rb cb v k m K P T g cp R C ∧ WayS k m rel mv le K P T R ∧ (∀ a, a < k → 0 < le a → R a = true) ∧ (∀ i, i < q → ∀ b, b < m → rel (P i (2 * T i)) b = true → C b = true) ∧ (∀ b, b < m → C b = true → ri b ≤ 0 ∧ ∀ a, a < k → 0 < mv a b → R a = true) ∧ Below w.heap.size w wr ∧ B ≤ wr.heap.size) (fun _ j _ => k - (intOf j).toNat)
    case atStart => exact ⟨0, K, _, P, T, g, cp, R, fun _ => false, Nat.zero_le _, rfl, rfl, HM.out, HS.out, HIN.out, fun i h => by omega, fun b _ h => (by cases h), HB.out, hBw⟩
    case round =>
     obtain ⟨q, K2, v2, P2, T2, g2, cp2, R2, C2, hq, rfl, rfl, hM2, hS2, hin2, hrow2, hcol2, hb2, hB2⟩ := hrel
     have HM2 := hid hM2
     have HS2 := hid hS2
     have HN2 := hid hin2
     have HR2 := hid hrow2
     have HC2 := hid hcol2
     have HB2 := hid hb2
     have hKn := hS2.bound
     obtain ⟨pa, pc, rfl, hpath⟩ := hM2.path
     by_cases hqK : q < K2
     ·obtain ⟨pb, rfl, hp0⟩ := hpath q hqK
      obtain ⟨gq, hgq⟩ : ∃ gq, gq = g2 q := ⟨_, rfl⟩
      obtain ⟨t, ht⟩ : ∃ t, t = T2 q := ⟨_, rfl⟩
      obtain ⟨cq, hcq⟩ : ∃ cq, cq = cp2 q := ⟨_, rfl⟩
      obtain ⟨pq, hpq⟩ : ∃ pq, pq = P2 q := ⟨_, rfl⟩
      have hmq := hM2.mem q hqK
      have hal := hS2.alt q hqK
      have htq := hS2.ti q hqK
      rw [← hgq, ← ht, ← hpq] at hmq
      rw [← ht, ← hpq] at hal
      rw [← ht] at htq
      rw [← hgq, ← ht, ← hcq] at hp0
      have hlast := hmq.cell (show 2 * t < 2 * t + 1 by omega)
      obtain ⟨xr, hxr⟩ : ∃ xr, xr = pq (2 * t) := ⟨_, rfl⟩
      have hxn := hal.row t (Nat.le_refl _)
      rw [← hxr] at hxn hlast
      have HQ := hid (And.intro hgq (And.intro ht (And.intro hpq hxr)))
      clear hM2 hS2 hin2 hrow2 hcol2 hb2 hpath hgq ht hcq hpq hmq hal hxr
      go_wp2_with fail
      obtain ⟨wy, hwy⟩ : ∃ wy, wy = wr := ⟨_, rfl⟩
      rw [← hwy]
      rw [← hwy] at HM2 HB2 hB2
      clear hwy hp0 hlast
      go_loopw [11, 62] (fun u j wr => ∃ (b K : Nat) (v : Value) (P : Nat → Nat → Nat) (T g cp : Nat → Nat) (R C : Nat → Bool), b ≤ m ∧ v = u ∧ j = .int .i64 b ∧ WayM B wr rb cb v k m K P T g cp R C ∧ WayS k m rel mv le K P T R ∧ (∀ a, a < k → 0 < le a → R a = true) ∧ (∀ i, i < q → ∀ b, b < m → rel (P i (2 * T i)) b = true → C b = true) ∧ (∀ y, y < b → rel xr y = true → C y = true) ∧ (∀ b, b < m → C b = true → ri b ≤ 0 ∧ ∀ a, a < k → 0 < mv a b → R a = true) ∧ (q < K ∧ P q = pq ∧ T q = t ∧ g q = gq) ∧ Below w.heap.size w wr ∧ B ≤ wr.heap.size) (fun _ j _ => m - (intOf j).toNat)
      case atStart => exact ⟨0, K2, _, P2, T2, g2, cp2, R2, C2, Nat.zero_le _, rfl, rfl, HM2.out, HS2.out, HN2.out, HR2.out, fun y h => by omega, HC2.out, ⟨hqK, HQ.out.2.2.1.symm, HQ.out.2.1.symm, HQ.out.1.symm⟩, HB2.out, hB2⟩
      case round =>
       obtain ⟨b, K3, v3, P3, T3, g3, cp3, R3, C3, hbm, rfl, rfl, hM3, hS3, hin3, hrow3, hcur3, hcol3, hq3, hb3, hB3⟩ := hrel
       have HM3 := hid hM3
       have HS3 := hid hS3
       have HN3 := hid hin3
       have HR3 := hid hrow3
       have HU3 := hid hcur3
       have HC3 := hid hcol3
       have HQ3 := hid hq3
       have HB3 := hid hb3
       have hK3n := hS3.bound
       by_cases hbl : b < m
       ·obtain ⟨b4, o4, r4, k4, rfl, hr4⟩ := H4.out.row hxn
        obtain ⟨hc4, hx4⟩ := hr4 wr hb3
        obtain ⟨b5, o5, rfl, hc5⟩ := hx4 b hbl
        dsimp only at hc5
        have y0 := hM3.cols.cell hbl
        have y1 := hM3.cols.frozen b
        clear hM3 hS3 hin3 hrow3 hcur3 hcol3 hq3 hb3 hr4 hx4 HM2 HS2 HN2 HR2 HC2 HB2
        cases hrl : rel xr b
        ·rw [hrl] at hc5
         have HRL := hid hrl
         clear hrl
         go_wp2_with fail
         go_roundw
         case rel =>
          refine ⟨b + 1, K3, _, P3, T3, g3, cp3, R3, C3, by omega, rfl, by go_num, HM3.out, HS3.out, HN3.out, HR3.out, fun y hy hr => ?_, HC3.out, HQ3.out, HB3.out, hB3⟩
          by_cases e : y = b
          ·subst e; rw [HRL.out] at hr; cases hr
          ·exact HU3.out y (by omega) hr
         case measure => simp [intOf]; omega
        ·rw [hrl] at hc5
         have HRL := hid hrl
         clear hrl
         cases hcl : C3 b
         rotate_left
         ·rw [hcl] at y0
          have HCL := hid hcl
          clear hcl
          go_wp2_with fail
          go_roundw
          case rel =>
           refine ⟨b + 1, K3, _, P3, T3, g3, cp3, R3, C3, by omega, rfl, by go_num, HM3.out, HS3.out, HN3.out, HR3.out, fun y hy hr => ?_, HC3.out, HQ3.out, HB3.out, hB3⟩
           by_cases e : y = b
           ·subst e; exact HCL.out
           ·exact HU3.out y (by omega) hr
          case measure => simp [intOf]; omega
         ·rw [hcl] at y0
          have HCL := hid hcl
          clear hcl
          have HM4 := hid (HM3.out.setCol hcB hne b)
          have HB4 := hid (show Below w.heap.size w (wr.setCell ⟨cb, b, none⟩ (.bool true)) from HB3.out.setCell (by have := HK.out.c; simpa using this) _)
          have hsz : (wr.setCell ⟨cb, b, none⟩ (.bool true)).heap.size = wr.heap.size := by simp [World.setCell]
          have HMQ := hid (show RowP (wr.setCell ⟨cb, b, none⟩ (.bool true)) gq (2 * t + 1) (fun j => (pq j : Int)) by
           have h := HM4.out.mem q HQ3.out.1
           rw [HQ3.out.2.1, HQ3.out.2.2.1, HQ3.out.2.2.2] at h
           exact h)
          obtain ⟨b2, o2, rfl, hc2⟩ := H2.out.all hbl
          obtain ⟨ox, hox⟩ : ∃ ox, ox = ri b := ⟨_, rfl⟩
          rw [← hox] at hc2
          have HOX := hid hox
          have HC2L := hid hc2
          clear hox hc2
          go_wp2_with (at_builtin; first
           | (refine wpList_append_own_at _ rfl _ _ 26 rfl wr.heap.size 3 i0 (.int .i64 0) 1 8 Tryz.underlying26 HI.out.1 HI.out.2.1 HI.out.2.2.1 HI.out.2.2.2 rfl (by decide) _ _ _ rfl (World.ownsRow_nil _ _ _ _) ⟨gq, 0, none⟩ (2 * t + 1) cq ((natL pq (2 * t + 1)).map (Value.int .i64)) rfl (by simp [natL_len]) HMQ.out.news (natL_cells _ _) (by unfold maxLen; omega) (by omega) (by rw [hsz]; exact Nat.le_refl _) ?_
              intro v1 w1 hown1 hgrow1 _ hat1
              rw [Nat.zero_add, List.nil_append] at hown1
              obtain ⟨g1, cap1, rfl⟩ := own_pos hown1 (by omega)
              have HO1 := hid hown1
              have HG1 := hid (show Below wr.heap.size (wr.setCell ⟨cb, b, none⟩ (.bool true)) w1 from (Below.refl _ _).grown hgrow1 (by rw [hsz]; exact Nat.le_refl _) (fun j hj => by cases hj))
              have hs1 : wr.heap.size ≤ w1.heap.size := by have h := HG1.out.size; rw [hsz] at h; exact h
              clear hown1 hgrow1 hat1)
           | (refine wpList_append_own_at _ rfl _ _ 26 rfl wr.heap.size 3 i0 (.int .i64 0) 1 8 Tryz.underlying26 HI.out.1 HI.out.2.1 HI.out.2.2.1 HI.out.2.2.2 rfl (by decide) _ _ _ rfl (HO1.out.alloc _) ⟨w1.heap.size, 0, none⟩ 1 1 [.int .i64 (b : Int)] rfl rfl (cell_one_new _ _ _) (by intro u hu; simp at hu; subst hu; rfl) (by unfold maxLen; omega) (by omega) (by simp; omega) ?_
              intro v2 w2 hown2 hgrow2 _ hat2
              obtain ⟨qg, capq, rfl⟩ := own_pos hown2 (by omega)
              have HRQ := hid (rowP_copy (f' := ext2 pq t b 0) hown2 (ext2_b _ _ _ _) (fun j hj => ext2_old _ (by omega)))
              have HG2 := hid (show Below wr.heap.size (wr.setCell ⟨cb, b, none⟩ (.bool true)) w2 from (HG1.out.alloc hs1 _).grown hgrow2 (by simp; omega) (fun j hj => (HO1.out.lt j hj).1))
              rw [show 2 * t + 1 + 1 = 2 * t + 2 from rfl]
              have hbw2 := HB4.out.trans (HG2.out.mono HB3.out.size)
              have HBW2 := hid hbw2
              have hc2 := HC2L.out w2 hbw2
              clear hbw2
              clear hown2 hgrow2 hat2))
          ·rename_i hop
           go_ret
           have hq1 := HQ3.out
           have hal := HS3.out.alt q hq1.1
           rw [hq1.2.1, hq1.2.2.1] at hal
           have hrl : rel (pq (2 * t)) b = true := by rw [← HQ.out.2.2.2]; exact HRL.out
           exact ⟨HBW2.out, Or.inr ⟨qg, capq, ext2 pq t b 0, t, rfl, HRQ.out.1, hal.aug hbl hrl (by rw [← HOX.out]; exact hop), by omega, by have := HRQ.out.2; have := HB3.out.size; omega⟩⟩
          ·rename_i hop
           obtain ⟨qf, hqf⟩ : ∃ qf, qf = ext2 pq t b 0 := ⟨_, rfl⟩
           rw [← hqf] at HRQ
           have HQF := hid hqf
           have HM6 := hid (HM4.out.below (by rw [hsz]; exact HG2.out))
           have HW2 := hid (show B ≤ w2.heap.size by have h := HG2.out.size; rw [hsz] at h; omega)
           have HNE := hid (show v3.ownBlock ≠ some qg from fun e => by have h1 := (HM3.out.own.lt _ e).2; have h2 := HRQ.out.2; omega)
           obtain ⟨wz, hwz⟩ : ∃ wz, wz = w2 := ⟨_, rfl⟩
           rw [← hwz]
           rw [← hwz] at HM6 HBW2 HRQ HW2
           clear hc2 hqf hc4 hc5 y0 y1
           clear HMQ HG2 HG1 HO1 hs1
           clear hwz
           go_loopw [11, 95] (fun u i wr => ∃ (a K : Nat) (v : Value) (P : Nat → Nat → Nat) (T g cp : Nat → Nat) (R : Nat → Bool), a ≤ k ∧ v = u ∧ i = .int .i64 a ∧ WayM B wr rb cb v k m K P T g cp R (mk1 C3 b) ∧ WayS k m rel mv le K P T R ∧ (∀ a, a < k → 0 < le a → R a = true) ∧ (∀ i, i < q → ∀ y, y < m → rel (P i (2 * T i)) y = true → mk1 C3 b y = true) ∧ (∀ y, y < m → y ≠ b → mk1 C3 b y = true → ri y ≤ 0 ∧ ∀ a, a < k → 0 < mv a y → R a = true) ∧ (∀ x, x < a → 0 < mv x b → R x = true) ∧ (q < K ∧ P q = pq ∧ T q = t ∧ g q = gq) ∧ (RowP wr qg (2 * t + 2) (fun j => (qf j : Int)) ∧ v.ownBlock ≠ some qg) ∧ Below w.heap.size w wr ∧ B ≤ wr.heap.size) (fun _ i _ => k - (intOf i).toNat)
           case atStart => exact ⟨0, K3, _, P3, T3, g3, cp3, R3, Nat.zero_le _, rfl, rfl, HM6.out, HS3.out, HN3.out, fun i hi y hy hr => mk1_old (HR3.out i hi y hy hr), fun y hy hne hc => HC3.out y hy ((mk1_inv hc).resolve_left hne), fun x h => by omega, HQ3.out, ⟨HRQ.out.1, HNE.out⟩, HBW2.out, HW2.out⟩
           case round =>
            obtain ⟨a, K7, v7, P7, T7, g7, cp7, R7, hak, rfl, rfl, hM7, hS7, hin7, hrow7, hcol7, hdone7, hq7, hqr7, hb7, hB7⟩ := hrel
            have HM7 := hid hM7
            have HS7 := hid hS7
            have HN7 := hid hin7
            have HR7 := hid hrow7
            have HC7 := hid hcol7
            have HD7 := hid hdone7
            have HQ7 := hid hq7
            have HQR7 := hid hqr7
            have HB7 := hid hb7
            have hK7n := hS7.bound
            by_cases hal : a < k
            ·obtain ⟨b6, o6, r6, k6, rfl, hr6⟩ := H3.out.row hal
             obtain ⟨hc6, hx6⟩ := hr6 wr hb7
             obtain ⟨b7, o7, rfl, hc7⟩ := hx6 b hbl
             dsimp only at hc7
             obtain ⟨mx, hmx⟩ : ∃ mx, mx = mv a b := ⟨_, rfl⟩
             rw [← hmx] at hc7
             have HMX := hid hmx
             have y0 := hM7.rows.cell hal
             have y1 := hM7.rows.frozen a
             clear hM7 hS7 hin7 hrow7 hcol7 hdone7 hq7 hqr7 hb7 hr6 hx6 hmx
             cases hra : R7 a
             rotate_left
             ·rw [hra] at y0
              have HRA := hid hra
              clear hra
              go_wp2_with fail
              go_roundw
              case rel =>
               refine ⟨a + 1, K7, _, P7, T7, g7, cp7, R7, by omega, rfl, by go_num, HM7.out, HS7.out, HN7.out, HR7.out, HC7.out, fun x hx hm => ?_, HQ7.out, HQR7.out, HB7.out, hB7⟩
               by_cases e : x = a
               ·subst e; exact HRA.out
               ·exact HD7.out x (by omega) hm
              case measure => simp [intOf]; omega
             ·rw [hra] at y0
              have HRA := hid hra
              clear hra
              by_cases hpm : 0 < mx
              rotate_left
              ·go_wp2_with fail
               go_roundw
               case rel =>
                refine ⟨a + 1, K7, _, P7, T7, g7, cp7, R7, by omega, rfl, by go_num, HM7.out, HS7.out, HN7.out, HR7.out, HC7.out, fun x hx hm => ?_, HQ7.out, HQR7.out, HB7.out, hB7⟩
                by_cases e : x = a
                ·subst e; rw [← HMX.out] at hm; exact absurd hm hpm
                ·exact HD7.out x (by omega) hm
               case measure => simp [intOf]; omega
              ·have HM8 := hid (HM7.out.setRow hrB hne.symm a)
               have HB8 := hid (show Below w.heap.size w (wr.setCell ⟨rb, a, none⟩ (.bool true)) from HB7.out.setCell (by have := HK.out.r; simpa using this) _)
               have hsz8 : (wr.setCell ⟨rb, a, none⟩ (.bool true)).heap.size = wr.heap.size := by simp [World.setCell]
               have HQ8 := hid (show RowP (wr.setCell ⟨rb, a, none⟩ (.bool true)) qg (2 * t + 2) (fun j => (qf j : Int)) from HQR7.out.1.same (Below.heap_setCell _ _ _ _ (by have := HRQ.out.2; have := HM3.out.rows.lt; simp only; omega)))
               go_wp2_with (at_builtin; first
                | (refine wpList_append_own_at _ rfl _ _ 26 rfl wr.heap.size 3 i0 (.int .i64 0) 1 8 Tryz.underlying26 HI.out.1 HI.out.2.1 HI.out.2.2.1 HI.out.2.2.2 rfl (by decide) _ _ _ rfl (World.ownsRow_nil _ _ _ _) ⟨qg, 0, none⟩ (2 * t + 2) capq ((natL qf (2 * t + 2)).map (Value.int .i64)) rfl (by simp [natL_len]) HQ8.out.news (natL_cells _ _) (by unfold maxLen; omega) (by omega) (by rw [hsz8]; exact Nat.le_refl _) ?_
                   intro v1 w1 hown1 hgrow1 _ hat1
                   rw [Nat.zero_add, List.nil_append] at hown1
                   obtain ⟨g1, cap1, rfl⟩ := own_pos hown1 (by omega)
                   have HO1 := hid hown1
                   have HG1 := hid (show Below wr.heap.size (wr.setCell ⟨rb, a, none⟩ (.bool true)) w1 from (Below.refl _ _).grown hgrow1 (by rw [hsz8]; exact Nat.le_refl _) (fun j hj => by cases hj))
                   have hs1 : wr.heap.size ≤ w1.heap.size := by have h := HG1.out.size; rw [hsz8] at h; exact h
                   clear hown1 hgrow1 hat1)
                | (refine wpList_append_own_at _ rfl _ _ 26 rfl wr.heap.size 3 i0 (.int .i64 0) 1 8 Tryz.underlying26 HI.out.1 HI.out.2.1 HI.out.2.2.1 HI.out.2.2.2 rfl (by decide) _ _ _ rfl (HO1.out.alloc _) ⟨w1.heap.size, 0, none⟩ 1 1 [.int .i64 (a : Int)] rfl rfl (cell_one_new _ _ _) (by intro u hu; simp at hu; subst hu; rfl) (by unfold maxLen; omega) (by omega) (by simp; omega) ?_
                   intro v2 w2 hown2 hgrow2 _ hat2
                   obtain ⟨gN, capN, rfl⟩ := own_pos hown2 (by omega)
                   have HRN := hid (rowP_copy (f' := ext2 pq t b a) hown2 (ext2_a _ _ _ _) (fun j hj => by rw [HQF.out]; exact ext2_pre _ (by omega)))
                   have HG2 := hid (show Below wr.heap.size (wr.setCell ⟨rb, a, none⟩ (.bool true)) w2 from (HG1.out.alloc hs1 _).grown hgrow2 (by simp; omega) (fun j hj => (HO1.out.lt j hj).1))
                   have hs2 : wr.heap.size ≤ w2.heap.size := by have h := HG2.out.size; rw [hsz8] at h; exact h
                   have HM9 := hid (HM8.out.below (by rw [hsz8]; exact HG2.out))
                   have HQ9 := hid (HQ8.out.same (HG2.out.block _ (by have h := HQ8.out.lt; rw [hsz8] at h; exact h)))
                   clear hown2 hgrow2 hat2)
                | (refine wpList_append_own_at _ rfl _ _ 137 rfl B 26 i1 (.slice none 0 0) 1 24 Tryz.underlying137 HJ.out.1 HJ.out.2.1 HJ.out.2.2.1 HJ.out.2.2.2 rfl (by decide) _ _ _ rfl (HM9.out.own.alloc _) ⟨w2.heap.size, 0, none⟩ 1 1 [.slice (some ⟨gN, 0, none⟩) (2 * t + 2 + 1) capN] rfl rfl (cell_one_new _ _ _) (by intro u hu; simp at hu; subst hu; rfl) (by unfold maxLen; omega) (by omega) (by simp; omega) ?_
                   intro v3' w3 hown3 hgrow3 _ hat3
                   have hne3 : v7.ownBlock ≠ some gN := fun e => by
                    have h1 := (HM8.out.own.lt _ e).2
                    have h2 := HRN.out.2
                    rw [hsz8] at h1; omega
                   have HM10 := hid ((HM9.out.below (ba _ _)).push hrB hcB (p := ext2 pq t b a) (t := t + 1) (gN := gN) (cN := capN) (HRN.out.1.same (Below.heap_alloc _ _ _ HRN.out.1.lt)) (by have := HRN.out.2; omega) hne3 hgrow3 hat3 hown3)
                   have HQ10 := hid (grown_keep hgrow3 hat3 (HM9.out.own.alloc _) (HQ9.out.same (Below.heap_alloc _ _ _ HQ9.out.lt)) HQR7.out.2)
                   have HB10 := hid (show Below w.heap.size w w3 from (HB8.out.trans ((HG2.out.mono HB7.out.size).alloc (Nat.le_trans HB7.out.size hs2) _)).grown hgrow3 (by have := HB7.out.size; simp; omega) (fun j hj => by have h1 := (HM8.out.own.lt j hj).1; have := HBB.out; have := HWB.out; omega))
                   have hs3 : B ≤ w3.heap.size := by have h := hgrow3.size; simp at h; omega
                   clear hown3 hgrow3 hat3 hne3))
               go_roundw
               case rel =>
                have hq7 := HQ7.out
                have hnx := HS7.out.next hq7.1 hbl (a := a) (by rw [hq7.2.1, hq7.2.2.1, ← HQ.out.2.2.2]; exact HRL.out) hal (by rw [← HMX.out]; exact hpm) HRA.out
                rw [hq7.2.1, hq7.2.2.1] at hnx
                refine ⟨a + 1, K7 + 1, _, _, _, _, _, _, by omega, rfl, by go_num, HM10.out, hnx, fun x hx hl => mk1_old (HN7.out x hx hl), fun i hi y hy hr => ?_, fun y hy hne hc => ⟨(HC7.out y hy hne hc).1, fun x hx hm => mk1_old ((HC7.out y hy hne hc).2 x hx hm)⟩, fun x hx hm => ?_, ⟨by omega, by rw [at1_old _ _ hq7.1]; exact hq7.2.1, by rw [at1_old _ _ hq7.1]; exact hq7.2.2.1, by rw [at1_old _ _ hq7.1]; exact hq7.2.2.2⟩, HQ10.out, HB10.out, hs3⟩
                ·rw [at1_old _ _ (by omega), at1_old _ _ (by omega)] at hr
                 exact HR7.out i hi y hy hr
                ·by_cases e : x = a
                 ·subst e; exact mk1_same _ _
                 ·exact mk1_old (HD7.out x (by omega) hm)
               case measure => simp [intOf]; omega
            ·obtain rfl : a = k := by omega
             clear hM7 hS7 hin7 hrow7 hcol7 hdone7 hq7 hqr7 hb7
             go_wp2_with fail
             go_roundw
             case rel =>
              refine ⟨b + 1, K7, _, P7, T7, g7, cp7, R7, mk1 C3 b, by omega, rfl, by go_num, HM7.out, HS7.out, HN7.out, HR7.out, fun y hy hr => ?_, fun y hy hc => ?_, HQ7.out, HB7.out, hB7⟩
              ·by_cases e : y = b
               ·subst e; exact mk1_same _ _
               ·exact mk1_old (HU3.out y (by omega) hr)
              ·by_cases e : y = b
               ·subst e; exact ⟨by rw [← HOX.out]; exact hop, fun x hx hm => HD7.out x hx hm⟩
               ·exact HC7.out y hy e hc
             case measure => simp [intOf]; omega
       ·obtain rfl : b = m := by omega
        have HF := hid (show ∀ i, i < q + 1 → ∀ y, y < b → rel (P3 i (2 * T3 i)) y = true → C3 y = true from fun i hi y hy hr => by
         by_cases e : i = q
         ·subst e
          have h := hq3
          rw [h.2.1, h.2.2.1, ← HQ.out.2.2.2] at hr
          exact hcur3 y hy hr
         ·exact hrow3 i (by omega) y hy hr)
        clear hM3 hS3 hin3 hrow3 hcur3 hcol3 hq3 hb3
        go_wp2_with fail
        go_roundw
        case rel => exact ⟨q + 1, K3, _, P3, T3, g3, cp3, R3, C3, by have := HQ3.out.1; omega, rfl, by go_num, HM3.out, HS3.out, HN3.out, HF.out, HC3.out, HB3.out, hB3⟩
        case measure => have := HQ3.out.1; simp [intOf]; omega
     ·obtain rfl : q = K2 := by omega
      have HSH := hid (hS2.shut hin2 hrow2 hcol2)
      clear hM2 hS2 hin2 hrow2 hcol2 hb2 hpath
      go_wp2_with fail
      go_ret
      exact ⟨HB2.out, Or.inl ⟨rfl, HSH.out⟩⟩
end Go.Proofs.YtfgpjfgejhahfaaGreatDoor
