/- Proved here: contracts of the walk to BisimFaults: the reference's sum, times, Has and covers, and paths of a search (pure); each under the conditions that its own statement names. -/
import Derived.Test.YtfgpjfgejhahfaaGreatDoorG23
import Derived.Test.YtfgpjfgejhahfaaGreatDoorG43
set_option maxRecDepth 100000
set_option maxHeartbeats 3200000
namespace Go.Proofs.YtfgpjfgejhahfaaGreatDoor
open Go Go.RowKit
open Go.Lib (hid)
def Cel (w : World) (c : Option Addr) (n : Nat) (g : Nat → Value) : Prop := ∀ k, k < n → ∃ b o, c = some ⟨b, o, none⟩ ∧ w.cell? ⟨b, o + k, none⟩ = some (g k)
theorem Cel.below {w w' : World} (hb : Below w.heap.size w w') {c : Option Addr} {n : Nat} {g : Nat → Value} (h : Cel w c n g) : Cel w' c n g := by
 intro k hk
 obtain ⟨b, o, h1, h2⟩ := h k hk
 refine ⟨b, o, h1, ?_⟩
 rw [World.cell?_of_block (w := w) (a := ⟨b, o + k, none⟩) (hb.block b (lt_of_cell h2))]
 exact h2
theorem Cel.all {w : World} {c : Option Addr} {n : Nat} {g : Nat → Value} (h : Cel w c n g) {k : Nat} (hk : k < n) : ∃ b o, c = some ⟨b, o, none⟩ ∧ ∀ x, Below w.heap.size w x → x.cell? ⟨b, o + k, none⟩ = some (g k) := by
 obtain ⟨b, o, h1, h2⟩ := h k hk
 refine ⟨b, o, h1, fun x hx => ?_⟩
 rw [World.cell?_of_block (w := w) (a := ⟨b, o + k, none⟩) (hx.block b (lt_of_cell h2))]
 exact h2
theorem Cel.congr {w : World} {c : Option Addr} {n : Nat} {g g' : Nat → Value} (h : Cel w c n g) (e : ∀ k, k < n → g k = g' k) : Cel w c n g' := by
 intro k hk
 obtain ⟨b, o, h1, h2⟩ := h k hk
 exact ⟨b, o, h1, by rw [← e k hk]; exact h2⟩
theorem Ints.cel {S : Nat → Prop} {w : World} {c : Option Addr} {ws : List Int} (h : Ints S w c ws) : Cel w c ws.length (fun k => .int .i64 (getW ws k)) := by
 intro k hk
 obtain ⟨b, o, h1, h2⟩ := h.get hk
 exact ⟨b, o, h1, by show _ = some (Value.int .i64 (getW ws k)); rw [← getW_lt hk]; exact h2⟩
theorem RowP.cel {w : World} {b m : Nat} {f : Nat → Int} (h : RowP w b m f) : Cel w (some ⟨b, 0, none⟩) m (fun k => .int .i64 (f k)) :=
 fun k hk => ⟨b, 0, rfl, by rw [Nat.zero_add]; exact h.cell hk⟩
theorem rowIs_cel {w : World} {b n : Nat} {t : TypeId} {g : Nat → Value} (h : w.rowIs b t n g) : Cel w (some ⟨b, 0, none⟩) n g :=
 fun k hk => ⟨b, 0, rfl, by rw [Nat.zero_add]; exact h.cell hk⟩
theorem sumR_any (c : Option Addr) (cp n : Nat) (f : Nat → Int) (w : World) (hc : Cel w c n (fun k => .int .i64 (f k))) (h0 : ∀ i, i < n → 0 ≤ f i) (hs : sumN f n ≤ 4611686018427387904) (hn : n ≤ 1000000) :
    Calls Tryz.prog 59 #[.slice c n cp] w fun e w' => e = .returned (.int .i64 (sumN f n)) ∧ w' = w := by
 have HS := hid (fun k (hk : k ≤ n) => sumN_mono h0 hk)
 have HC := hid hc
 have H0 := hid h0
 clear hc h0
 go_enter Tryz.func59, Tryz.ntmps59
 go_wp2_with fail
 go_loopw [3, 8] (fun v i wr => ∃ k : Nat, k ≤ n ∧ i = .int .i64 k ∧ v = .int .i64 (sumN f k) ∧ wr = w) (fun _ i _ => n - (intOf i).toNat)
 case atStart => exact ⟨0, Nat.zero_le _, rfl, rfl, by first | trivial | rfl⟩
 case round =>
  obtain ⟨k, hk, rfl, rfl, rfl⟩ := hrel
  by_cases hlt : k < n
  ·obtain ⟨b, o, rfl, hc⟩ := HC.out k hlt
   dsimp only at hc
   obtain ⟨x, hx⟩ : ∃ x, x = f k := ⟨_, rfl⟩
   obtain ⟨s, hsx⟩ : ∃ s, s = sumN f k := ⟨_, rfl⟩
   have hb1 : 0 ≤ s ∧ s ≤ sumN f n := by rw [hsx]; exact HS.out k hk
   have hb2 : s + x ≤ sumN f n := by rw [hsx, hx]; exact (HS.out (k + 1) hlt).2
   have hb3 : 0 ≤ x := by rw [hx]; exact H0.out k hlt
   have HX := hid (show s + x = sumN f (k + 1) by rw [hsx, hx]; rfl)
   rw [← hx] at hc
   rw [← hsx]
   clear hx hsx
   go_wp2_with fail
   go_roundw
   case rel => exact ⟨k + 1, by omega, by go_num, by rw [← HX.out], by first | trivial | rfl⟩
   case measure => simp [intOf]; omega
  ·have hkn : k = n := by omega
   subst hkn
   go_wp2_with fail
   go_ret
   exact ⟨rfl, rfl⟩
def timL (f : Nat → Int) (fac : Int) (k : Nat) : List Int := (List.range k).map (fun i => f i * fac)
theorem timL_succ (f : Nat → Int) (fac : Int) (k : Nat) : timL f fac (k + 1) = timL f fac k ++ [f k * fac] := by simp [timL, List.range_succ]
theorem timL_get (f : Nat → Int) (fac : Int) {k i : Nat} (h : i < k) : (timL f fac k).getD i 0 = f i * fac := by
 simp [timL, List.getD_eq_getElem?_getD, h]
def TimP (w : World) (n : Nat) (f : Nat → Int) (e : Ending) (w' : World) : Prop :=
 ∃ c cp, e = .returned (.slice c n cp) ∧ Cel w' c n (fun k => .int .i64 (f k)) ∧ Below w.heap.size w w'
theorem timesR_any (c : Option Addr) (cp n : Nat) (f : Nat → Int) (fac : Int) (w : World) (hc : Cel w c n (fun k => .int .i64 (f k))) (h0 : ∀ i, i < n → 0 ≤ f i * fac ∧ f i * fac ≤ 4611686018427387904) (hn : n ≤ 1000000) :
    Calls Tryz.prog 61 #[.slice c n cp, .int .i64 fac] w (TimP w n (fun k => f k * fac)) := by
 obtain ⟨i0, hi, hz0, hz1, hz2⟩ := info_parts infoInt
 have HC := hid (fun x (hx : Below w.heap.size w x) => hc.below hx)
 have H0 := hid h0
 clear hc h0
 go_enter Tryz.func61, Tryz.ntmps61
 go_wp2_with fail
 go_loopw [5, 10] (fun v i wr => ∃ k : Nat, k ≤ n ∧ i = .int .i64 k ∧ wr.ownsRow w.heap.size 3 1 v k ((timL f fac k).map (Value.int .i64)) ∧ Below w.heap.size w wr) (fun _ i _ => n - (intOf i).toNat)
 case atStart => exact ⟨0, Nat.zero_le _, rfl, World.ownsRow_nil _ _ _ _, Below.refl _ _⟩
 case round =>
  obtain ⟨k, hk, rfl, hown, hb⟩ := hrel
  have HO := hid hown
  have HB := hid hb
  have hbs := hb.size
  by_cases hlt : k < n
  ·obtain ⟨b, o, rfl, hx⟩ := HC.out wr hb k hlt
   dsimp only at hx
   have hx0 := H0.out k hlt
   have HT := hid (timL_succ f fac k)
   obtain ⟨x, hxx⟩ : ∃ x, x = f k := ⟨_, rfl⟩
   rw [← hxx] at hx hx0 HT
   have hwr : wrap64 (x * fac) = x * fac := IntWalk.wrap64_in _ ⟨by omega, by omega⟩
   clear hb hxx
   go_wp2_with (at_builtin; refine wpList_append_own _ rfl _ _ 26 rfl w.heap.size 3 i0 (.int .i64 0) 1 8 Tryz.underlying26 hi hz0 hz1 hz2 rfl (by decide) _ _ _ rfl (hown.alloc _) ⟨wr.heap.size, 0, none⟩ 1 1 [.int .i64 (x * fac)] rfl rfl (cell_one_new _ _ _) (by intro u hu; simp at hu; subst hu; rfl) (by unfold maxLen; omega) (by omega) (by simp; omega) ?_; intro v' w1 hown' hgrow _)
   have HO1 := hid hown'
   have HB1 := hid (show Below w.heap.size w w1 from (HB.out.alloc HB.out.size _).grown hgrow (by simp; omega) (fun j hj => (hown.lt j hj).1))
   clear hown hown' hgrow
   go_wp2_with fail
   go_roundw
   case rel => exact ⟨k + 1, by omega, by go_num, by rw [HT.out]; simpa using HO1.out, HB1.out⟩
   case measure => simp [intOf]; omega
  ·obtain rfl : k = n := by omega
   clear hown hb
   go_wp2_with fail
   go_ret
   rcases HO.out.2 with ⟨rfl, h0⟩ | ⟨g, cap, cur, rfl, hg, hgh⟩
   ·subst h0
    exact ⟨none, 0, rfl, fun k hk => absurd hk (by omega), HB.out⟩
   ·refine ⟨some ⟨g, 0, none⟩, cap, rfl, ?_, HB.out⟩
    exact (rowP_of_own HO.out).cel.congr (fun j hj => by rw [timL_get f fac hj])
theorem hasP_any (S : Nat → Prop) (a : Option Addr) (cap : Nat) (r : List (Int × Int)) (p : Int × Int) (w : World) (hr : Prs S w a r) :
    Calls Tryz.prog 33 #[.slice a r.length cap, Pv p] w fun e w' => e = .returned (.bool (decide (p ∈ r))) ∧ Below w.heap.size w w' := by
 obtain ⟨p1, p2⟩ := p
 have hl := hr.1
 have HP := hid hr
 obtain ⟨R, hR⟩ : ∃ R, R = decide ((p1, p2) ∈ r) := ⟨_, rfl⟩
 rw [← hR]
 have HR := hid hR
 obtain ⟨N, hN⟩ : ∃ N, N = r.length := ⟨_, rfl⟩
 rw [← hN] at hl ⊢
 have HN := hid hN
 clear hr hR hN
 obtain ⟨W, hW⟩ : ∃ W : World, W = w.alloc (.cells #[.int .i64 p1, .int .i64 p2] 61) := ⟨_, rfl⟩
 obtain ⟨wb, hwb⟩ : ∃ wb, wb = w.heap.size := ⟨_, rfl⟩
 have HWB := hid (show W.heap[wb]? = some (.cells #[.int .i64 p1, .int .i64 p2] 61 (0, 0)) by rw [hW, hwb]; exact heap_new _ _)
 have HBW := hid (show Below w.heap.size w W by rw [hW]; exact ba _ _)
 go_enter Tryz.func33, Tryz.ntmps33
 simp only [Pv]
 go_wp2_with fail
 rw [← hW, ← hwb]
 clear hW hwb
 go_loopw [9] (fun i wr => ∃ k : Nat, k ≤ N ∧ i = .int .i64 k ∧ (p1, p2) ∉ r.take k ∧ Below W.heap.size W wr) (fun i _ => N - (intOf i).toNat)
 case atStart => exact ⟨0, Nat.zero_le _, rfl, by simp, Below.refl _ _⟩
 case round =>
  obtain ⟨k, hk, rfl, hno, hb⟩ := hrel
  have HB := hid hb
  have HNO := hid hno
  by_cases hlt : k < N
  ·obtain ⟨q, hq⟩ : ∃ q, r[k]? = some q := ⟨r[k]'(by have := HN.out; omega), List.getElem?_eq_getElem _⟩
   obtain ⟨b, o, rfl, _, c0, c1⟩ := ((HP.out.below HBW.out).below hb).get hq
   obtain ⟨q1, q2⟩ := q
   simp only at c0 c1
   have HQ := hid hq
   obtain ⟨X, hX⟩ : ∃ X : World, X = wr.alloc (.cells #[.int .i64 q1, .int .i64 q2] 61) := ⟨_, rfl⟩
   obtain ⟨xb, hxb⟩ : ∃ xb, xb = wr.heap.size := ⟨_, rfl⟩
   have hXb : X.heap[xb]? = some (.cells #[.int .i64 q1, .int .i64 q2] 61 (0, 0)) := by rw [hX, hxb]; exact heap_new _ _
   have hwX : Below W.heap.size W X := by rw [hX]; exact hb.alloc hb.size _
   have HWX := hid hwX
   have x0 := (cells2 hXb).1
   have x1 := (cells2 hXb).2
   obtain ⟨y0, y1⟩ := cells2 ((hwX.block _ (heap_lt HWB.out)).trans HWB.out)
   rw [hX] at x0 x1 y0 y1
   rw [hxb] at x0 x1
   clear hb hno hq hXb hwX
   by_cases hpq : (p1, p2) = (q1, q2)
   ·have he := fun W => eqlP (p1, p2) (q1, q2) W
    rw [decide_eq_true hpq] at he
    simp only [Pv] at he
    go_wp2_with fail
    rw [← hX]
    go_ret
    exact ⟨by rw [HR.out, decide_eq_true (by rw [hpq]; exact List.mem_of_getElem? HQ.out)]; rfl, HBW.out.trans (HWX.out.mono HBW.out.size)⟩
   ·have he := fun W => eqlP (p1, p2) (q1, q2) W
    rw [decide_eq_false hpq] at he
    simp only [Pv] at he
    go_wp2_with fail
    rw [← hX]
    go_roundw
    case rel => exact ⟨k + 1, by omega, by go_num, by rw [List.take_add_one, HQ.out]; simp only [Option.toList_some, List.mem_append, List.mem_singleton]; exact fun h => h.elim HNO.out hpq, HWX.out⟩
    case measure => simp [intOf]; omega
  ·obtain rfl : k = N := by omega
   clear hb hno
   go_wp2_with fail
   go_ret
   exact ⟨by rw [HR.out, decide_eq_false (by have h := HNO.out; rw [HN.out, List.take_length] at h; exact h)]; rfl, HBW.out.trans (HB.out.mono HBW.out.size)⟩
def Tab (w : World) (c : Option Addr) (n m : Nat) (rel : Nat → Nat → Bool) : Prop :=
 ∃ (rows : Nat → Option Addr) (caps : Nat → Nat), Cel w c n (fun i => .slice (rows i) m (caps i)) ∧ ∀ i, i < n → Cel w (rows i) m (fun j => .bool (rel i j))
theorem Tab.below {w w' : World} (hb : Below w.heap.size w w') {c : Option Addr} {n m : Nat} {rel : Nat → Nat → Bool} (h : Tab w c n m rel) : Tab w' c n m rel := by
 obtain ⟨rows, caps, h1, h2⟩ := h
 exact ⟨rows, caps, h1.below hb, fun i hi => (h2 i hi).below hb⟩
theorem Tab.row {w : World} {c : Option Addr} {n m : Nat} {rel : Nat → Nat → Bool} (h : Tab w c n m rel) {i : Nat} (hi : i < n) :
    ∃ b o r k, c = some ⟨b, o, none⟩ ∧ ∀ x, Below w.heap.size w x → x.cell? ⟨b, o + i, none⟩ = some (.slice r m k) ∧ Cel x r m (fun j => .bool (rel i j)) := by
 obtain ⟨rows, caps, h1, h2⟩ := h
 obtain ⟨b, o, e, hc⟩ := h1 i hi
 refine ⟨b, o, rows i, caps i, e, fun x hx => ⟨?_, (h2 i hi).below hx⟩⟩
 rw [World.cell?_of_block (w := w) (a := ⟨b, o + i, none⟩) (hx.block b (lt_of_cell hc))]
 exact hc
theorem coversR_any (c : Option Addr) (cp n m : Nat) (rel : Nat → Nat → Bool) (w : World) (h : Tab w c n m rel) (hn : n ≤ 1000) (hm : m ≤ 1000) :
    Calls Tryz.prog 58 #[.slice c n cp, .int .i64 (m : Int)] w fun e w' => ∃ r : Bool, e = .returned (.bool r) ∧
     (r = true ↔ (∀ a, a < n → ∃ b, b < m ∧ rel a b = true) ∧ ∀ b, b < m → ∃ a, a < n ∧ rel a b = true) ∧ Below w.heap.size w w' := by
 have HT := hid h
 have hmk := run_make_row' (P := Tryz.prog) 92 4 (.bool false) 1 Tryz.underlying92 infoBl rfl .i64 .i64 m (by omega) (by omega)
 obtain ⟨W, hW⟩ : ∃ W : World, W = w.alloc (Obj.cells (madeCells #[Value.bool false] m) 4) := ⟨_, rfl⟩
 obtain ⟨cb, hcb⟩ : ∃ cb, cb = w.heap.size := ⟨_, rfl⟩
 have HWR := hid (show W.rowIs cb 4 m (fun _ => .bool false) by rw [hW, hcb]; exact World.rowIs_made _ _ _ _)
 have HWB := hid (show Below cb w W by rw [hW, hcb]; exact ba _ _)
 have HCB := hid hcb
 rw [← hcb]
 clear h
 go_enter Tryz.func58, Tryz.ntmps58
 go_wp2_with fail
 rw [← hW, ← hcb]
 clear hW hcb hmk
 go_loopw [17] (fun i wr => ∃ (a : Nat) (cv : Nat → Bool), a ≤ n ∧ i = .int .i64 a ∧ wr.rowIs cb 4 m (fun j => .bool (cv j)) ∧ (∀ x, x < a → ∃ b, b < m ∧ rel x b = true) ∧ (∀ b, b < m → (cv b = true ↔ ∃ x, x < a ∧ rel x b = true)) ∧ Below cb w wr) (fun i _ => n - (intOf i).toNat)
 case atStart => exact ⟨0, fun _ => false, Nat.zero_le _, rfl, HWR.out, fun x h => by omega, fun b _ => ⟨(fun h => by cases h), fun ⟨x, hx, _⟩ => by omega⟩, HWB.out⟩
 case round =>
  obtain ⟨a, cv, han, rfl, hrow, hall, hcv, hb⟩ := hrel
  have HROW := hid hrow
  have HALL := hid hall
  have HCV := hid hcv
  have HB := hid hb
  clear hrow hall hcv HWR HWB
  by_cases hlt : a < n
  ·obtain ⟨pb, po, r, k, rfl, hr⟩ := HT.out.row hlt
   have HR := hid hr
   have hc := (hr wr (by rw [← HCB.out]; exact hb)).1
   clear hb hr
   go_wp2_with fail
   obtain ⟨wx, hwx⟩ : ∃ wx, wx = wr := ⟨_, rfl⟩
   rw [← hwx]
   rw [← hwx] at HROW HB
   clear hwx hc
   go_loopw [8, 23] (fun f j wr => ∃ (b : Nat) (fo : Bool) (cv2 : Nat → Bool), b ≤ m ∧ f = .bool fo ∧ j = .int .i64 b ∧ wr.rowIs cb 4 m (fun j => .bool (cv2 j)) ∧ (fo = true ↔ ∃ y, y < b ∧ rel a y = true) ∧ (∀ y, y < m → cv2 y = (cv y || (decide (y < b) && rel a y))) ∧ Below cb w wr) (fun _ j _ => m - (intOf j).toNat)
   case atStart => exact ⟨0, false, cv, Nat.zero_le _, rfl, rfl, HROW.out, ⟨(fun h => by cases h), fun ⟨y, hy, _⟩ => by omega⟩, fun y _ => by simp, HB.out⟩
   case round =>
    obtain ⟨b, fo, cv2, hbm, rfl, rfl, hrow2, hfo, hcv2, hb3⟩ := hrel
    have HROW2 := hid hrow2
    have HFO := hid hfo
    have HCV2 := hid hcv2
    have HB3 := hid hb3
    clear hfo hcv2 HROW HB
    by_cases hbl : b < m
    ·obtain ⟨rb, ro, rfl, hx⟩ := (HR.out wr (by rw [← HCB.out]; exact hb3)).2 b hbl
     dsimp only at hx
     have y0 := hrow2.cell hbl
     have y1 := hrow2.frozen b
     obtain ⟨q, hq⟩ : ∃ q, q = rel a b := ⟨_, rfl⟩
     obtain ⟨u, hu⟩ : ∃ u, u = cv2 b := ⟨_, rfl⟩
     have HQ := hid hq
     have HU := hid hu
     rw [← hq] at hx
     rw [← hu] at y0
     have HST := hid (show Below cb w (wr.setCell ⟨cb, b, none⟩ (.bool (u || q))) from hb3.setCell (Nat.le_refl _) _)
     have HFN := hid (show (fo || q) = true ↔ ∃ y, y < b + 1 ∧ rel a y = true by
      rw [Bool.or_eq_true, HFO.out, hq]
      constructor
      ·rintro (⟨y, h1, h2⟩ | h)
       ·exact ⟨y, by omega, h2⟩
       ·exact ⟨b, by omega, h⟩
      ·rintro ⟨y, h1, h2⟩
       by_cases e : y = b
       ·subst e; exact Or.inr h2
       ·exact Or.inl ⟨y, by omega, h2⟩)
     have HCN := hid (show ∀ y, y < m → (if y = b then (u || q) else cv2 y) = (cv y || (decide (y < b + 1) && rel a y)) by
      intro y hy
      by_cases e : y = b
      ·subst e
       rw [if_pos rfl, hu, HCV2.out y hy, hq]; simp
      ·rw [if_neg e, HCV2.out y hy]
       by_cases e2 : y < b
       ·simp [e2, show y < b + 1 by omega]
       ·simp [e2, show ¬ y < b + 1 by omega])
     have HRN := hid (rowB_set hrow2 b (u || q))
     clear hq hu hrow2 hb3
     cases fo <;> cases q <;> cases u <;> simp only [Bool.or_true, Bool.or_false] at HST HFN HCN HRN
     all_goals
      go_wp2_with fail
      go_roundw
      case rel => exact ⟨b + 1, _, _, by omega, rfl, by go_num, HRN.out, by simpa using HFN.out, HCN.out, HST.out⟩
      case measure => simp [intOf]; omega
    ·have hbe : b = m := by omega
     subst hbe
     clear hrow2 hb3
     have HA := hid (show fo = true ↔ ∃ y, y < b ∧ rel a y = true from HFO.out)
     cases fo
     ·go_wp2_with fail
      go_ret
      exact ⟨false, rfl, ⟨(fun h => by cases h), fun h => by
       obtain ⟨y, hy, hr⟩ := h.1 a hlt
       exact absurd (HA.out.2 ⟨y, hy, hr⟩) (by simp)⟩, HB3.out⟩
     ·go_wp2_with fail
      go_roundw
      case rel =>
       refine ⟨a + 1, cv2, by omega, by go_num, HROW2.out, fun x hx => ?_, fun y hy => ?_, HB3.out⟩
       ·by_cases e : x = a
        ·subst e; exact HA.out.1 rfl
        ·exact HALL.out x (by omega)
       ·rw [HCV2.out y hy]
        simp only [hy, decide_true, Bool.true_and, Bool.or_eq_true]
        rw [HCV.out y hy]
        constructor
        ·rintro (⟨x, h1, h2⟩ | h)
         ·exact ⟨x, by omega, h2⟩
         ·exact ⟨a, by omega, h⟩
        ·rintro ⟨x, h1, h2⟩
         by_cases e : x = a
         ·subst e; exact Or.inr h2
         ·exact Or.inl ⟨x, by omega, h2⟩
      case measure => simp [intOf]; omega
  ·obtain rfl : a = n := by omega
   go_wp2_with fail
   obtain ⟨wx, hwx⟩ : ∃ wx, wx = wr := ⟨_, rfl⟩
   rw [← hwx]
   rw [← hwx] at HROW HB
   clear hwx hb
   go_loopw [48] (fun j wr => ∃ b : Nat, b ≤ m ∧ j = .int .i64 b ∧ wr = wx ∧ ∀ y, y < b → cv y = true) (fun j _ => m - (intOf j).toNat)
   case atStart => exact ⟨0, Nat.zero_le _, rfl, rfl, fun y h => by omega⟩
   case round =>
    obtain ⟨b, hbm, rfl, rfl, hdone⟩ := hrel
    have HD := hid hdone
    clear hdone
    by_cases hbl : b < m
    ·have y0 := HROW.out.cell hbl
     cases hcb : cv b
     ·rw [hcb] at y0
      have HC := hid hcb
      clear hcb
      go_wp2_with fail
      go_ret
      exact ⟨false, rfl, ⟨(fun h => by cases h), fun h => by
       have := (HCV.out b hbl).2 (h.2 b hbl)
       rw [HC.out] at this; cases this⟩, HB.out⟩
     ·rw [hcb] at y0
      have HC := hid hcb
      clear hcb
      go_wp2_with fail
      go_roundw
      case rel => exact ⟨b + 1, by omega, by go_num, by first | trivial | rfl, fun y hy => by
       by_cases e : y = b
       ·subst e; exact HC.out
       ·exact HD.out y (by omega)⟩
      case measure => simp [intOf]; omega
    ·go_wp2_with fail
     go_ret
     exact ⟨true, rfl, ⟨fun _ => ⟨HALL.out, fun y hy => (HCV.out y hy).1 (HD.out y (by omega))⟩, fun _ => rfl⟩, HB.out⟩
end Go.Proofs.YtfgpjfgejhahfaaGreatDoor
namespace Go.Proofs.YtfgpjfgejhahfaaGreatDoor
open Go Go.RowKit
structure Alt (n m : Nat) (rel : Nat → Nat → Bool) (mv : Nat → Nat → Int) (le : Nat → Int) (R : Nat → Bool) (p : Nat → Nat) (t : Nat) : Prop where
 start : 0 < le (p 0)
 row : ∀ i, i ≤ t → p (2 * i) < n
 col : ∀ i, i < t → p (2 * i + 1) < m
 rl : ∀ i, i < t → rel (p (2 * i)) (p (2 * i + 1)) = true
 mv0 : ∀ i, i < t → 0 < mv (p (2 * i + 2)) (p (2 * i + 1))
 mark : ∀ i, i ≤ t → R (p (2 * i)) = true
 inj : ∀ i j, i < j → j ≤ t → p (2 * i) ≠ p (2 * j)
def mk1 (R : Nat → Bool) (a : Nat) : Nat → Bool := fun x => if x = a then true else R x
theorem mk1_same (R : Nat → Bool) (a : Nat) : mk1 R a a = true := by simp [mk1]
theorem mk1_old {R : Nat → Bool} {a x : Nat} (h : R x = true) : mk1 R a x = true := by unfold mk1; split <;> simp [h]
theorem mk1_inv {R : Nat → Bool} {a x : Nat} (h : mk1 R a x = true) : x = a ∨ R x = true := by
 unfold mk1 at h
 split at h
 ·exact Or.inl ‹_›
 ·exact Or.inr h
def ext2 (p : Nat → Nat) (t b a : Nat) : Nat → Nat := fun j => if j = 2 * t + 1 then b else if j = 2 * t + 2 then a else p j
theorem ext2_old (p : Nat → Nat) {t b a j : Nat} (h : j ≤ 2 * t) : ext2 p t b a j = p j := by simp [ext2, show j ≠ 2 * t + 1 by omega, show j ≠ 2 * t + 2 by omega]
theorem ext2_b (p : Nat → Nat) (t b a : Nat) : ext2 p t b a (2 * t + 1) = b := by simp [ext2]
theorem ext2_a (p : Nat → Nat) (t b a : Nat) : ext2 p t b a (2 * t + 2) = a := by simp [ext2]
theorem ext2_pre (p : Nat → Nat) {t b a j : Nat} (h : j < 2 * t + 2) : ext2 p t b a j = ext2 p t b 0 j := by simp [ext2, show j ≠ 2 * t + 2 by omega]
theorem Alt.one {n m : Nat} {rel : Nat → Nat → Bool} {mv : Nat → Nat → Int} {le : Nat → Int} {R : Nat → Bool} {a : Nat} (ha : a < n) (hl : 0 < le a) (hR : R a = true) : Alt n m rel mv le R (fun _ => a) 0 :=
 ⟨hl, fun _ _ => ha, fun i h => by omega, fun i h => by omega, fun i h => by omega, fun _ _ => hR, fun i j h1 h2 => by omega⟩
theorem Alt.mono {n m : Nat} {rel : Nat → Nat → Bool} {mv : Nat → Nat → Int} {le : Nat → Int} {R R' : Nat → Bool} {p : Nat → Nat} {t : Nat} (h : Alt n m rel mv le R p t) (e : ∀ x, R x = true → R' x = true) : Alt n m rel mv le R' p t :=
 ⟨h.start, h.row, h.col, h.rl, h.mv0, fun i hi => e _ (h.mark i hi), h.inj⟩
theorem Alt.step {n m : Nat} {rel : Nat → Nat → Bool} {mv : Nat → Nat → Int} {le : Nat → Int} {R : Nat → Bool} {p : Nat → Nat} {t a b : Nat} (h : Alt n m rel mv le R p t) (hb : b < m) (hr : rel (p (2 * t)) b = true) (ha : a < n)
    (hm : 0 < mv a b) (hR : R a = false) : Alt n m rel mv le (mk1 R a) (ext2 p t b a) (t + 1) := by
 have e0 : ∀ i, i ≤ t → ext2 p t b a (2 * i) = p (2 * i) := fun i hi => ext2_old p (by omega)
 have e1 : ∀ i, i < t → ext2 p t b a (2 * i + 1) = p (2 * i + 1) := fun i hi => ext2_old p (by omega)
 have ea : ext2 p t b a (2 * (t + 1)) = a := ext2_a p t b a
 have eb := ext2_b p t b a
 refine ⟨?_, fun i hi => ?_, fun i hi => ?_, fun i hi => ?_, fun i hi => ?_, fun i hi => ?_, fun i j hij hj => ?_⟩
 ·rw [show (0 : Nat) = 2 * 0 from rfl, e0 0 (by omega)]; exact h.start
 ·by_cases e : i = t + 1
  ·subst e; rw [ea]; exact ha
  ·rw [e0 i (by omega)]; exact h.row i (by omega)
 ·by_cases e : i = t
  ·subst e; rw [eb]; exact hb
  ·rw [e1 i (by omega)]; exact h.col i (by omega)
 ·by_cases e : i = t
  ·subst e; rw [eb, e0 i (by omega)]; exact hr
  ·rw [e1 i (by omega), e0 i (by omega)]; exact h.rl i (by omega)
 ·by_cases e : i = t
  ·subst e; rw [eb, show 2 * i + 2 = 2 * (i + 1) by omega, ea]; exact hm
  ·rw [e1 i (by omega), show 2 * i + 2 = 2 * (i + 1) by omega, e0 (i + 1) (by omega)]; exact h.mv0 i (by omega)
 ·by_cases e : i = t + 1
  ·subst e; rw [ea]; exact mk1_same _ _
  ·rw [e0 i (by omega)]; exact mk1_old (h.mark i (by omega))
 ·by_cases e : j = t + 1
  ·subst e; rw [ea, e0 i (by omega)]
   intro hc
   have := h.mark i (by omega)
   rw [hc, hR] at this; cases this
  ·rw [e0 i (by omega), e0 j (by omega)]; exact h.inj i j hij (by omega)
structure Aug (n m : Nat) (rel : Nat → Nat → Bool) (mv : Nat → Nat → Int) (le ri : Nat → Int) (p : Nat → Nat) (t : Nat) : Prop where
 alt : Alt n m rel mv le (fun _ => true) p t
 last : p (2 * t + 1) < m
 rl : rel (p (2 * t)) (p (2 * t + 1)) = true
 open_ : 0 < ri (p (2 * t + 1))
theorem Alt.aug {n m : Nat} {rel : Nat → Nat → Bool} {mv : Nat → Nat → Int} {le ri : Nat → Int} {R : Nat → Bool} {p : Nat → Nat} {t b : Nat} (h : Alt n m rel mv le R p t) (hb : b < m) (hr : rel (p (2 * t)) b = true) (ho : 0 < ri b) :
    Aug n m rel mv le ri (ext2 p t b 0) t := by
 have e0 : ∀ i, i ≤ t → ext2 p t b 0 (2 * i) = p (2 * i) := fun i hi => ext2_old p (by omega)
 have e1 : ∀ i, i < t → ext2 p t b 0 (2 * i + 1) = p (2 * i + 1) := fun i hi => ext2_old p (by omega)
 have eb := ext2_b p t b 0
 refine ⟨⟨?_, fun i hi => ?_, fun i hi => ?_, fun i hi => ?_, fun i hi => ?_, fun _ _ => rfl, fun i j hij hj => ?_⟩, ?_, ?_, ?_⟩
 ·rw [show (0 : Nat) = 2 * 0 from rfl, e0 0 (by omega)]; exact h.start
 ·rw [e0 i hi]; exact h.row i hi
 ·rw [e1 i hi]; exact h.col i hi
 ·rw [e1 i hi, e0 i (by omega)]; exact h.rl i hi
 ·rw [e1 i hi, show 2 * i + 2 = 2 * (i + 1) by omega, e0 (i + 1) (by omega)]; exact h.mv0 i hi
 ·rw [e0 i (by omega), e0 j (by omega)]; exact h.inj i j hij hj
 ·rw [eb]; exact hb
 ·rw [eb, e0 t (by omega)]; exact hr
 ·rw [eb]; exact ho
def cntR (R : Nat → Bool) : Nat → Nat
 | 0 => 0
 | n + 1 => cntR R n + if R n then 1 else 0
theorem cntR_le (R : Nat → Bool) : ∀ n, cntR R n ≤ n := by
 intro n
 induction n with
 | zero => exact Nat.le_refl _
 | succ n ih => simp only [cntR]; split <;> omega
theorem cntR_none : ∀ n, cntR (fun _ => false) n = 0 := by
 intro n
 induction n with
 | zero => rfl
 | succ n ih => simp [cntR, ih]
theorem cntR_mk {R : Nat → Bool} {a : Nat} (hR : R a = false) : ∀ n, cntR (mk1 R a) n = cntR R n + if a < n then 1 else 0 := by
 intro n
 induction n with
 | zero => simp [cntR]
 | succ n ih =>
  simp only [cntR, ih]
  by_cases e : n = a
  ·subst e; rw [mk1_same, hR]; simp
  ·have : mk1 R a n = R n := by simp [mk1, e]
   rw [this]
   by_cases h : a < n
   ·simp [h, show a < n + 1 by omega]; omega
   ·simp [h, show ¬ a < n + 1 by omega]
structure WayS (n m : Nat) (rel : Nat → Nat → Bool) (mv : Nat → Nat → Int) (le : Nat → Int) (K : Nat) (P : Nat → Nat → Nat) (T : Nat → Nat) (R : Nat → Bool) : Prop where
 alt : ∀ i, i < K → Alt n m rel mv le R (P i) (T i)
 ti : ∀ i, i < K → T i ≤ i
 ends : ∀ a, a < n → R a = true → ∃ i, i < K ∧ P i (2 * T i) = a
 cnt : K = cntR R n
def at1 {α : Type} (f : Nat → α) (K : Nat) (x : α) : Nat → α := fun i => if i = K then x else f i
theorem at1_same {α : Type} (f : Nat → α) (K : Nat) (x : α) : at1 f K x K = x := by simp [at1]
theorem at1_old {α : Type} (f : Nat → α) {K i : Nat} (x : α) (h : i < K) : at1 f K x i = f i := by simp [at1, show i ≠ K by omega]
theorem WayS.none {n m : Nat} {rel : Nat → Nat → Bool} {mv : Nat → Nat → Int} {le : Nat → Int} : WayS n m rel mv le 0 (fun _ _ => 0) (fun _ => 0) (fun _ => false) :=
 ⟨fun i h => by omega, fun i h => by omega, fun a _ h => (by cases h), (cntR_none n).symm⟩
theorem WayS.bound {n m : Nat} {rel : Nat → Nat → Bool} {mv : Nat → Nat → Int} {le : Nat → Int} {K : Nat} {P : Nat → Nat → Nat} {T : Nat → Nat} {R : Nat → Bool} (h : WayS n m rel mv le K P T R) : K ≤ n := by
 rw [h.cnt]; exact cntR_le _ _
theorem WayS.add {n m : Nat} {rel : Nat → Nat → Bool} {mv : Nat → Nat → Int} {le : Nat → Int} {K : Nat} {P : Nat → Nat → Nat} {T : Nat → Nat} {R : Nat → Bool} (h : WayS n m rel mv le K P T R) {a t : Nat} {p : Nat → Nat}
    (ha : a < n) (hR : R a = false) (hp : Alt n m rel mv le (mk1 R a) p t) (he : p (2 * t) = a) (ht : t ≤ K) : WayS n m rel mv le (K + 1) (at1 P K p) (at1 T K t) (mk1 R a) := by
 refine ⟨fun i hi => ?_, fun i hi => ?_, fun x hx hm => ?_, ?_⟩
 ·by_cases e : i = K
  ·subst e; rw [at1_same, at1_same]; exact hp
  ·rw [at1_old _ _ (by omega), at1_old _ _ (by omega)]; exact (h.alt i (by omega)).mono (fun _ => mk1_old)
 ·by_cases e : i = K
  ·subst e; rw [at1_same]; exact ht
  ·rw [at1_old _ _ (by omega)]; exact h.ti i (by omega)
 ·rcases mk1_inv hm with e | e
  ·subst e; exact ⟨K, by omega, by rw [at1_same, at1_same]; exact he⟩
  ·obtain ⟨i, h1, h2⟩ := h.ends x hx e
   exact ⟨i, by omega, by rw [at1_old _ _ h1, at1_old _ _ h1]; exact h2⟩
 ·rw [cntR_mk hR, if_pos ha, h.cnt]
theorem WayS.first {n m : Nat} {rel : Nat → Nat → Bool} {mv : Nat → Nat → Int} {le : Nat → Int} {K : Nat} {P : Nat → Nat → Nat} {T : Nat → Nat} {R : Nat → Bool} (h : WayS n m rel mv le K P T R) {a : Nat} (ha : a < n) (hR : R a = false) (hl : 0 < le a) :
    WayS n m rel mv le (K + 1) (at1 P K (fun _ => a)) (at1 T K 0) (mk1 R a) :=
 h.add ha hR (Alt.one ha hl (mk1_same _ _)) rfl (by omega)
theorem WayS.next {n m : Nat} {rel : Nat → Nat → Bool} {mv : Nat → Nat → Int} {le : Nat → Int} {K : Nat} {P : Nat → Nat → Nat} {T : Nat → Nat} {R : Nat → Bool} (h : WayS n m rel mv le K P T R) {k a b : Nat} (hk : k < K) (hb : b < m) (hr : rel (P k (2 * T k)) b = true)
    (ha : a < n) (hm : 0 < mv a b) (hR : R a = false) : WayS n m rel mv le (K + 1) (at1 P K (ext2 (P k) (T k) b a)) (at1 T K (T k + 1)) (mk1 R a) :=
 h.add ha hR ((h.alt k hk).step hb hr ha hm hR) (ext2_a _ _ _ _) (by have := h.ti k hk; omega)
structure Shut (n m : Nat) (rel : Nat → Nat → Bool) (mv : Nat → Nat → Int) (le ri : Nat → Int) : Prop where
 ex : ∃ A T : Nat → Bool, (∀ a b, a < n → b < m → A a = true → T b = false → rel a b = false) ∧ (∀ b, b < m → T b = true → ri b ≤ 0) ∧
  (∀ a b, a < n → b < m → T b = true → 0 < mv a b → A a = true) ∧ ∀ a, a < n → 0 < le a → A a = true
theorem Shut.noFlow {n m : Nat} {L Rr : Nat → Int} {rel : Nat → Nat → Bool} {mv : Nat → Nat → Int} {le ri : Nat → Int} (h : Shut n m rel mv le ri) (hp : Part n m L Rr rel mv le ri) (hs : 0 < sumN le n) : ¬ Flow n m L Rr rel := by
 obtain ⟨A, T, h1, h2, h3, h4⟩ := h.ex
 have hk : ∃ k, k < n ∧ 0 < le k := by
  refine Classical.byContradiction fun hno => ?_
  have : sumN le n ≤ sumN (fun _ => 0) n := sumN_le n (fun i hi => by
   by_cases e : 0 < le i
   ·exact absurd ⟨i, hi, e⟩ hno
   ·omega)
  rw [sumN_zero] at this; omega
 obtain ⟨k, hk, hl⟩ := hk
 exact hp.cut A T h1 (fun b hb ht => by have := h2 b hb ht; have := hp.ri0 b hb; omega) h3 hk (h4 k hk hl) hl
theorem WayS.shut {n m : Nat} {rel : Nat → Nat → Bool} {mv : Nat → Nat → Int} {le ri : Nat → Int} {K : Nat} {P : Nat → Nat → Nat} {T : Nat → Nat} {R C : Nat → Bool} (h : WayS n m rel mv le K P T R)
    (hin : ∀ a, a < n → 0 < le a → R a = true) (hrow : ∀ i, i < K → ∀ b, b < m → rel (P i (2 * T i)) b = true → C b = true) (hcol : ∀ b, b < m → C b = true → ri b ≤ 0 ∧ ∀ a, a < n → 0 < mv a b → R a = true) : Shut n m rel mv le ri := by
 refine ⟨⟨R, C, fun a b ha hb hA hT => ?_, fun b hb ht => (hcol b hb ht).1, fun a b ha hb ht hm => (hcol b hb ht).2 a ha hm, hin⟩⟩
 obtain ⟨i, hi, e⟩ := h.ends a ha hA
 cases hr : rel a b
 ·rfl
 ·have := hrow i hi b hb (by rw [e]; exact hr)
  rw [this] at hT; cases hT
end Go.Proofs.YtfgpjfgejhahfaaGreatDoor
