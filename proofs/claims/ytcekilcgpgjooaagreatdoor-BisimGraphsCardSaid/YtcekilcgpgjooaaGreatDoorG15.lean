/- Proved here: contracts of the walk to BisimGraphs: the reference's functions on values; each under the conditions that its own statement names. -/
import Derived.Test.YtcekilcgpgjooaaGreatDoorG14
import Derived.OwnWalk
import Derived.Maps.AppendAt
set_option maxRecDepth 100000
set_option maxHeartbeats 3200000
namespace Go.Proofs.YtcekilcgpgjooaaGreatDoor
open Go.RowKit
open Go.Lib (hid)
def vlft : V → Int → Int
 | .nil, m => m
 | .cons _ kids _ rest, m => if 0 < m then vlft rest (max (vlft kids (m - 1)) 0) else m
theorem vlft_le (t : V) : ∀ m : Int, 0 ≤ m → vlft t m ≤ m := by
 induction t with
 | nil => intro m h; simp [vlft]
 | cons n kids ws rest ihk ihr =>
  intro m h
  unfold vlft
  split
  ·have := ihk (m - 1) (by omega)
   have := ihr (max (vlft kids (m - 1)) 0) (by omega)
   omega
  ·omega
theorem vlft_zero (t : V) : vlft t 0 = 0 := by
 cases t <;> simp [vlft]
theorem vlft_nodes (t : V) : ∀ m : Int, 0 ≤ m → max (vlft t m) 0 = max (m - t.count) 0 := by
 induction t with
 | nil => intro m h; simp [vlft, V.count]
 | cons n kids ws rest ihk ihr =>
  intro m h
  unfold vlft
  simp only [V.count]
  split
  ·have h1 := ihk (m - 1) (by omega)
   have h2 := ihr (max (vlft kids (m - 1)) 0) (by omega)
   omega
  ·omega
theorem vleft_any (S' : Nat → Prop) : ∀ (t : V) (n : Int) (a c : Option Addr) (cap lw cp : Nat) (m : Int) (w : World), Vl S' w a t → 0 < m → m ≤ 100000 →
    Calls Tryz.prog 86 #[Vv n a t.len cap c lw cp, .int .i64 m] w fun e w' =>
     e = .returned (.int .i64 (max (vlft t (m - 1)) 0)) ∧ Below w.heap.size w w' := by
 refine V.ind ?_
 intro t ih n a c cap lw cp m w hs hm0 hm1
 obtain ⟨W, hW⟩ : ∃ W : World, W = w.alloc (Obj.cells #[.int .i64 n, Value.slice a t.len cap, Value.slice c lw cp] 58) := ⟨_, rfl⟩
 have hWb : Below w.heap.size w W := by rw [hW]; exact ba _ _
 have c2 : W.cell? ⟨w.heap.size, 1, none⟩ = some (.slice a t.len cap) := by rw [hW]; simp
 have hs' : Vl S' W a t := hs.below hWb
 have hlen := hs.1
 go_enter Tryz.func86, Tryz.ntmps86
 go_wp2_with fail
 rw [← hW]
 clear hW
 go_loopw [1, 5] (fun v i wr => ∃ j : Nat, ∃ q : Int, j ≤ t.len ∧ i = .int .i64 j ∧ v = .int .i64 q ∧ q ≤ 100000 ∧ 0 ≤ q ∧ vlft (t.drop j) q = vlft t (m - 1) ∧ Below W.heap.size W wr) (fun _ i _ => t.len - (intOf i).toNat)
 case atStart => exact ⟨0, _, Nat.zero_le _, rfl, rfl, by omega, by omega, by simp, Below.refl _ _⟩
 case round =>
  obtain ⟨j, q, hj, rfl, rfl, hq, hq0, hl, hb⟩ := hrel
  have HL := hid hl
  clear hl
  have c2' := cell_below hb c2
  by_cases hlt : j < t.len
  ·by_cases hp : 0 < q
   ·obtain ⟨b, o, rfl, hat⟩ := hs'.addr hlt
    obtain ⟨n1, k1, ws1, r1, hd, hd1⟩ := V.drop_lt hlt
    obtain ⟨d0, ⟨a1, cap1, d1, hv1⟩, ⟨c1, cp1, d2, hi1⟩⟩ := hat.get hd
    replace d0 := cell_below hb d0
    replace d1 := cell_below hb d1
    replace d2 := cell_below hb d2
    replace hv1 := hv1.below hb
    have HD := hid hd
    have HD1 := hid hd1
    clear hd hd1
    go_wp2_with fail
    refine (ih _ _ _ _ _ HD.out _ _ _ _ _ _ _ _ hv1 (by omega) (by omega)).mono ?_
    rintro e w' ⟨rfl, hb'⟩
    go_wp2_with fail
    go_roundw
    case rel => exact ⟨j + 1, _, by omega, by go_num, rfl, by have := vlft_le k1 (q - 1) (by omega); omega, by omega, by rw [← HL.out, HD1.out, HD.out]; simp [vlft, hp], hb.trans (hb'.mono hb.size)⟩
    case measure => simp [intOf]; omega
   ·go_wp2_with fail
    go_ret
    have hq' : q = 0 := by omega
    subst hq'
    exact ⟨by rw [← HL.out, vlft_zero]; simp, hWb.trans (hb.mono (hWb.size))⟩
  ·go_wp2_with fail
   go_ret
   have hj' : j = t.len := by omega
   subst hj'
   exact ⟨by rw [← HL.out, V.drop_all]; simp [vlft]; omega, hWb.trans (hb.mono (hWb.size))⟩
def wgt (k : Int) : Bool := decide (k = 6 ∨ k = 7)
theorem weighted_any (k : Int) (w : World) : Calls Tryz.prog 183 #[.int .i64 k] w fun e w' => e = .returned (.bool (wgt k)) ∧ w = w' := by
 by_cases h6 : k = 6
 ·subst h6
  go_enter Tryz.func183, Tryz.ntmps183
  go_wp2_with fail
  go_ret
  exact ⟨rfl, rfl⟩
 by_cases h7 : k = 7
 ·subst h7
  go_enter Tryz.func183, Tryz.ntmps183
  go_wp2_with fail
  go_ret
  exact ⟨rfl, rfl⟩
 have HR := hid (show wgt k = false by simp [wgt, h6, h7])
 have b6 : (k == 6) = false := by simpa using h6
 have b7 : (k == 7) = false := by simpa using h7
 clear h6 h7
 go_enter Tryz.func183, Tryz.ntmps183
 go_wp2_with fail
 go_ret
 exact ⟨by rw [HR.out]; rfl, rfl⟩
theorem sets_any (k : Int) (w : World) : Calls Tryz.prog 160 #[.int .i64 k] w fun e w' => e = .returned (.bool (coll k)) ∧ w = w' := by
 by_cases h5 : k = 5
 ·subst h5
  go_enter Tryz.func160, Tryz.ntmps160
  go_wp2_with fail
  go_ret
  exact ⟨rfl, rfl⟩
 have HR := hid (show coll k = wgt k by simp [wgt, coll, h5])
 have b5 : (k == 5) = false := by simpa using h5
 clear h5
 go_enter Tryz.func160, Tryz.ntmps160
 go_wp2_with fail
 refine (weighted_any k w).mono ?_
 rintro e w' ⟨rfl, rfl⟩
 go_wp2_with fail
 go_ret
 exact ⟨by rw [HR.out]; simp, rfl⟩
def mostNum (f : F) (m : Int) : Int := if f.k = 0 then m - 1 else if f.k = 1 then f.n - 1 else if f.k = 3 then 1 else 0
def numOk (f : F) (m n : Int) : Bool := decide (0 ≤ n ∧ n ≤ mostNum f m)
theorem number_any (f : F) (a a' c : Option Addr) (cap cap' cp : Nat) (m n : Int) (lk lw : Nat) (w : World) (hm0 : -1000 ≤ m) (hm1 : m ≤ 1000) (hn0 : -1000 ≤ f.n) (hn1 : f.n ≤ 1000) :
    Calls Tryz.prog 158 #[f.val a cap, .int .i64 m, Vv n a' lk cap' c lw cp] w fun e w' => e = .returned (.bool (numOk f m n)) ∧ Below w.heap.size w w' := by
 obtain ⟨k, fn, ft⟩ := f
 simp only at hn0 hn1
 have hb : ∀ k' : Int, Below w.heap.size w ((w.alloc (Obj.cells #[.int .i64 k', .int .i64 fn, Value.slice a ft.len cap] 24)).alloc (Obj.cells #[.int .i64 n, Value.slice a' lk cap', Value.slice c lw cp] 58)) := fun _ => ba2 _ _ _
 obtain ⟨q, hq⟩ : ∃ q, q = mostNum ⟨k, fn, ft⟩ m := ⟨_, rfl⟩
 have HN := hid (show numOk ⟨k, fn, ft⟩ m n = decide (0 ≤ n ∧ n ≤ q) by rw [hq]; rfl)
 have HB := hid hb
 clear hb
 by_cases h0 : 0 ≤ n
 rotate_left
 ·have HR := hid (show numOk ⟨k, fn, ft⟩ m n = false by rw [HN.out]; exact decide_eq_false (fun h => h0 h.1))
  have h0' : n < 0 := by omega
  clear hq
  by_cases k0 : k = 0
  ·subst k0
   go_enter Tryz.func158, Tryz.ntmps158
   go_wp2_with fail
   go_ret
   exact ⟨by rw [HR.out]; rfl, HB.out _⟩
  by_cases k1 : k = 1
  ·subst k1
   go_enter Tryz.func158, Tryz.ntmps158
   go_wp2_with fail
   go_ret
   exact ⟨by rw [HR.out]; rfl, HB.out _⟩
  by_cases k3 : k = 3
  ·subst k3
   go_enter Tryz.func158, Tryz.ntmps158
   go_wp2_with fail
   go_ret
   exact ⟨by rw [HR.out]; rfl, HB.out _⟩
  have b0 : (k == 0) = false := by simpa using k0
  have b1 : (k == 1) = false := by simpa using k1
  have b3 : (k == 3) = false := by simpa using k3
  clear k0 k1 k3
  go_enter Tryz.func158, Tryz.ntmps158
  go_wp2_with fail
  go_ret
  exact ⟨by rw [HR.out]; rfl, HB.out _⟩
 by_cases h1 : n ≤ q
 all_goals
  have HR := hid (show numOk ⟨k, fn, ft⟩ m n = decide (n ≤ q) by rw [HN.out]; simp [h0])
  by_cases k0 : k = 0
  ·subst k0
   obtain rfl : q = m - 1 := by rw [hq]; simp [mostNum]
   clear hq
   go_enter Tryz.func158, Tryz.ntmps158
   go_wp2_with fail
   go_ret
   exact ⟨by rw [HR.out]; simp [h1], HB.out _⟩
  by_cases k1 : k = 1
  ·subst k1
   obtain rfl : q = fn - 1 := by rw [hq]; simp [mostNum]
   clear hq
   go_enter Tryz.func158, Tryz.ntmps158
   go_wp2_with fail
   go_ret
   exact ⟨by rw [HR.out]; simp [h1], HB.out _⟩
  by_cases k3 : k = 3
  ·subst k3
   obtain rfl : q = 1 := by rw [hq]; simp [mostNum]
   clear hq
   go_enter Tryz.func158, Tryz.ntmps158
   go_wp2_with fail
   go_ret
   exact ⟨by rw [HR.out]; simp [h1], HB.out _⟩
  obtain rfl : q = 0 := by rw [hq]; simp [mostNum, k0, k1, k3]
  have b0 : (k == 0) = false := by simpa using k0
  have b1 : (k == 1) = false := by simpa using k1
  have b3 : (k == 3) = false := by simpa using k3
  clear k0 k1 k3 hq
  go_enter Tryz.func158, Tryz.ntmps158
  go_wp2_with fail
  go_ret
  exact ⟨by rw [HR.out]; simp [h1], HB.out _⟩
theorem gcdRef_any (q x : Nat) (w : World) (hq : q ≤ 1048576) (hx : x ≤ 1048576) : Calls Tryz.prog 184 #[.int .i64 (q : Int), .int .i64 (x : Int)] w fun e w' => e = .returned (.int .i64 (Nat.gcd q x : Nat)) ∧ ∃ n, w' = w.drewN n := by
 go_enter Tryz.func184, Tryz.ntmps184
 go_wp2_with fail
 go_loopw [0, 1] (fun d x1 wr => ∃ p y nq : Nat, d = .int .i64 p ∧ x1 = .int .i64 y ∧ p ≤ 1048576 ∧ y ≤ 1048576 ∧ Nat.gcd p y = Nat.gcd q x ∧ wr = w.drewN nq) (fun _ x1 _ => (intOf x1).toNat)
 case atStart => exact ⟨q, x, 0, rfl, rfl, hq, hx, rfl, rfl⟩
 case round =>
  obtain ⟨p, y, nq, rfl, rfl, hp1, hy1, hgg, rfl⟩ := hrel
  have HG2 := hid hgg
  clear hgg
  by_cases hy : y = 0
  ·subst hy
   have HP0 := hid (show p = Nat.gcd q x by rw [← HG2.out]; simp)
   go_wp2_with fail
   go_ret
   exact ⟨by rw [← HP0.out]; rfl, _, rfl⟩
  ·have hyn : ((y : Int) != 0) = true := by simp; omega
   have hy0 : (1 : Int) ≤ y := by omega
   have HY := hid hy
   clear hy
   go_wp2_with fail
   go_quiet (fail)
   go_wp2_with fail
   go_roundw
   case rel => exact ⟨y, p % y, _, rfl, by go_num, hy1, by have := Nat.mod_lt p (show 0 < y by omega); omega, by rw [gcd_step]; exact HG2.out, World.drewN_drewN _ _ _⟩
   case measure => simp [intOf]; have := Nat.mod_lt p (show 0 < y by omega); omega
def weighsR (k : Int) (len : Nat) (ws : List Int) : Bool := if wgt k = true then wOk 1048576 ws && (decide (ws.length = len) && (decide (k = 6) || decide (0 < len))) else decide (ws.length = 0)
theorem weighedRef_any (S' : Nat → Prop) (k : Int) (a' c : Option Addr) (cap' cp : Nat) (n : Int) (len : Nat) (ws : List Int) (w : World) (hi : Ints S' w c ws) :
    Calls Tryz.prog 159 #[.int .i64 k, Vv n a' len cap' c ws.length cp] w fun e w' => e = .returned (.bool (weighsR k len ws)) ∧ Below w.heap.size w w' := by
 obtain ⟨W, hW⟩ : ∃ W : World, W = w.alloc (Obj.cells #[.int .i64 n, Value.slice a' len cap', Value.slice c ws.length cp] 58) := ⟨_, rfl⟩
 have hWb : Below w.heap.size w W := by rw [hW]; exact ba _ _
 have e1 : W.cell? ⟨w.heap.size, 1, none⟩ = some (.slice a' len cap') := by rw [hW]; simp
 have e2 : W.cell? ⟨w.heap.size, 2, none⟩ = some (.slice c ws.length cp) := by rw [hW]; simp
 have hlw := hi.1
 have hiW := hi.below hWb
 clear hi
 go_enter Tryz.func159, Tryz.ntmps159
 go_wp2_with fail
 rw [← hW]
 clear hW
 refine (weighted_any k W).mono ?_
 rintro e w' ⟨rfl, rfl⟩
 cases hk : wgt k
 ·have HR := hid (show weighsR k len ws = decide (ws.length = 0) by unfold weighsR; rw [hk]; simp)
  clear hk
  go_wp2_with fail
  go_ret
  exact ⟨by rw [HR.out]; exact eqn_len _ 0, hWb⟩
 have HR := hid (show weighsR k len ws = (wOk 1048576 ws && (decide (ws.length = len) && (decide (k = 6) || decide (0 < len)))) by unfold weighsR; rw [hk]; simp)
 clear hk
 go_wp2_with fail
 go_loopw [5, 7, 18] (fun l _ i wr => ∃ j : Nat, ∃ q : Int, j ≤ ws.length ∧ i = .int .i64 j ∧ l = .int .i64 q ∧ 0 ≤ q ∧ q ≤ 1048576 ∧ wOk (1048576 - q) (ws.drop j) = wOk 1048576 ws ∧ wr = W) (fun _ _ i _ => ws.length - (intOf i).toNat)
 case atStart => exact ⟨0, 0, Nat.zero_le _, rfl, rfl, by omega, by omega, by simp, rfl⟩
 case round =>
  obtain ⟨j, q, hj, rfl, rfl, hq0, hq1, hw, rfl⟩ := hrel
  have HW := hid hw
  clear hw
  by_cases hlt : j < ws.length
  ·obtain ⟨b, o, rfl, d0⟩ := hiW.get hlt
   have hstep := wOk_drop (q := 1048576 - q) hlt
   obtain ⟨x, hx⟩ : ∃ x, x = ws[j] := ⟨_, rfl⟩
   rw [← hx] at hstep d0
   have HS := hid hstep
   clear hstep hx
   by_cases h1 : 1 ≤ x
   ·by_cases h2 : x ≤ 1048576 - q
    ·go_wp2_with fail
     go_roundw
     case rel => exact ⟨j + 1, q + x, by omega, by go_num, rfl, by omega, by omega, by rw [← HW.out, HS.out, show 1048576 - (q + x) = 1048576 - q - x by omega]; simp [h1, h2], trivial⟩
     case measure => simp [intOf]; omega
    ·have HF := hid (show wOk 1048576 ws = false by rw [← HW.out, HS.out]; simp [h2])
     go_wp2_with fail
     go_ret
     exact ⟨by rw [HR.out, HF.out]; simp, hWb⟩
   ·have HF := hid (show wOk 1048576 ws = false by rw [← HW.out, HS.out]; simp [h1])
    have hx1 : x < 1 := by omega
    go_wp2_with fail
    go_ret
    exact ⟨by rw [HR.out, HF.out]; simp, hWb⟩
  ·have HF := hid (show wOk 1048576 ws = true by rw [← HW.out, List.drop_of_length_le (by omega)]; rfl)
   by_cases h3 : ws.length = len
   ·have h3' : ((ws.length : Int) == (len : Int)) = true := by simp [h3]
    by_cases h6 : k = 6
    ·have HX := hid (show weighsR k len ws = true by rw [HR.out, HF.out]; simp [h3, h6])
     subst h6
     clear h3
     go_wp2_with fail
     go_ret
     exact ⟨by rw [HX.out]; rfl, hWb⟩
    ·have h6' : (k == 6) = false := by simpa using h6
     by_cases h0 : 0 < len
     ·have HX := hid (show weighsR k len ws = true by rw [HR.out, HF.out]; simp [h3, h0])
      clear h3 h6
      go_wp2_with fail
      go_ret
      exact ⟨by rw [HX.out]; rfl, hWb⟩
     ·have HX := hid (show weighsR k len ws = false by rw [HR.out, HF.out]; simp [h0, h6])
      have HH0 := hid h0
      clear h3 h6 h0
      go_wp2_with fail
      go_ret
      exact ⟨by rw [HX.out]; show Ending.returned (Value.bool (decide (0 < len))) = _; rw [decide_eq_false HH0.out], hWb⟩
   ·have h3' : ((ws.length : Int) == (len : Int)) = false := by simp; omega
    have HX := hid (show weighsR k len ws = false by rw [HR.out]; simp [h3])
    have HH := hid h3
    clear h3
    go_wp2_with fail
    go_ret
    exact ⟨by rw [HX.out]; rfl, hWb⟩
theorem nodes_any (S' : Nat → Prop) : ∀ (t : V) (n : Int) (a c : Option Addr) (cap lw cp : Nat) (w : World), Vl S' w a t → t.count ≤ 1000000 →
    Calls Tryz.prog 51 #[Vv n a t.len cap c lw cp] w fun e w' =>
     e = .returned (.int .i64 (1 + (t.count : Int))) ∧ Below w.heap.size w w' := by
 refine V.ind ?_
 intro t ih n a c cap lw cp w hs hm1
 obtain ⟨W, hW⟩ : ∃ W : World, W = w.alloc (Obj.cells #[.int .i64 n, Value.slice a t.len cap, Value.slice c lw cp] 58) := ⟨_, rfl⟩
 have hWb : Below w.heap.size w W := by rw [hW]; exact ba _ _
 have c2 : W.cell? ⟨w.heap.size, 1, none⟩ = some (.slice a t.len cap) := by rw [hW]; simp
 have hs' : Vl S' W a t := hs.below hWb
 have hlen := hs.1
 go_enter Tryz.func51, Tryz.ntmps51
 go_wp2_with fail
 rw [← hW]
 clear hW
 go_loopw [3, 9] (fun v i wr => ∃ j q : Nat, j ≤ t.len ∧ i = .int .i64 j ∧ v = .int .i64 (q : Int) ∧ q + (t.drop j).count = 1 + t.count ∧ Below W.heap.size W wr) (fun _ i _ => t.len - (intOf i).toNat)
 case atStart => exact ⟨0, 1, Nat.zero_le _, rfl, rfl, by simp, Below.refl _ _⟩
 case round =>
  obtain ⟨j, q, hj, rfl, rfl, hq, hb⟩ := hrel
  have hcl := count_le t j
  have HQ := hid hq
  have hqb : (q : Int) ≤ 1000001 := by omega
  clear hq
  by_cases hlt : j < t.len
  ·obtain ⟨b, o, rfl, hat⟩ := hs'.addr hlt
   obtain ⟨n1, k1, ws1, r1, hd, hd1⟩ := V.drop_lt hlt
   obtain ⟨d0, ⟨a1, cap1, d1, hv1⟩, ⟨c1, cp1, d2, hi1⟩⟩ := hat.get hd
   replace d0 := cell_below hb d0
   replace d1 := cell_below hb d1
   replace d2 := cell_below hb d2
   replace hv1 := hv1.below hb
   have hcs := count_step hd hd1
   have hk1 : (k1.count : Int) ≤ 1000000 := by omega
   have HCS := hid hcs
   have HD := hid hd
   clear hd hd1 hcs
   go_wp2_with fail
   refine (ih _ _ _ _ _ HD.out _ _ _ _ _ _ _ (hv1.below (ba _ _)) (by omega)).mono ?_
   rintro e w' ⟨rfl, hb'⟩
   go_wp2_with fail
   go_roundw
   case rel => exact ⟨j + 1, q + (1 + k1.count), by omega, by go_num, by go_num, by have := HQ.out; have := HCS.out; omega, hb.trans ((ba _ _).trans (hb'.mono (by simp)) |>.mono hb.size)⟩
   case measure => simp [intOf]; omega
  ·have HF := hid (show q = 1 + t.count by have := HQ.out; rw [show j = t.len by omega, V.drop_all] at this; simpa [V.count] using this)
   go_wp2_with fail
   go_ret
   exact ⟨by rw [HF.out]; simp, hWb.trans (hb.mono hWb.size)⟩
def V.light : V → Int → Bool
 | .nil, _ => true
 | .cons _ k ws r, m => (k.light m && decide ((ws.length : Int) ≤ m)) && r.light m
theorem light_step {t : V} {j : Nat} {n1 : Int} {k1 : V} {ws1 : List Int} {rest : V} {m : Int} (h : t.drop j = .cons n1 k1 ws1 rest) (h' : t.drop (j + 1) = rest) :
    (t.drop j).light m = ((k1.light m && decide ((ws1.length : Int) ≤ m)) && (t.drop (j + 1)).light m) := by
 rw [h, h']; rfl
theorem light_any (S' : Nat → Prop) : ∀ (t : V) (n : Int) (a c : Option Addr) (cap lw cp : Nat) (m : Int) (w : World), Vl S' w a t →
    Calls Tryz.prog 87 #[Vv n a t.len cap c lw cp, .int .i64 m] w fun e w' =>
     e = .returned (.bool (t.light m && decide ((lw : Int) ≤ m))) ∧ Below w.heap.size w w' := by
 refine V.ind ?_
 intro t ih n a c cap lw cp m w hs
 obtain ⟨W, hW⟩ : ∃ W : World, W = w.alloc (Obj.cells #[.int .i64 n, Value.slice a t.len cap, Value.slice c lw cp] 58) := ⟨_, rfl⟩
 have hWb : Below w.heap.size w W := by rw [hW]; exact ba _ _
 have c1 : W.cell? ⟨w.heap.size, 1, none⟩ = some (.slice a t.len cap) := by rw [hW]; simp
 have c2 : W.cell? ⟨w.heap.size, 2, none⟩ = some (.slice c lw cp) := by rw [hW]; simp
 have hs' : Vl S' W a t := hs.below hWb
 have hlen := hs.1
 go_enter Tryz.func87, Tryz.ntmps87
 go_wp2_with fail
 rw [← hW]
 clear hW
 go_loopw [10] (fun i wr => ∃ j : Nat, j ≤ t.len ∧ i = .int .i64 j ∧ (t.drop j).light m = t.light m ∧ Below W.heap.size W wr) (fun i _ => t.len - (intOf i).toNat)
 case atStart => exact ⟨0, Nat.zero_le _, rfl, by simp, Below.refl _ _⟩
 case round =>
  obtain ⟨j, hj, rfl, hq, hb⟩ := hrel
  have HQ := hid hq
  clear hq
  by_cases hlt : j < t.len
  ·obtain ⟨b, o, rfl, hat⟩ := hs'.addr hlt
   obtain ⟨n1, k1, ws1, r1, hd, hd1⟩ := V.drop_lt hlt
   obtain ⟨d0, ⟨a1, cap1, d1, hv1⟩, ⟨c1', cp1, d2, hi1⟩⟩ := hat.get hd
   replace d0 := cell_below hb d0
   replace d1 := cell_below hb d1
   replace d2 := cell_below hb d2
   replace hv1 := hv1.below hb
   have hst := light_step (m := m) hd hd1
   obtain ⟨r, hr⟩ : ∃ r, r = (k1.light m && decide ((ws1.length : Int) ≤ m)) := ⟨_, rfl⟩
   rw [← hr] at hst
   have HST := hid hst
   have IHH := hid (fun x (hx : Vl S' x a1 k1) => ih _ _ _ _ _ hd n1 a1 c1' cap1 ws1.length cp1 m x hx)
   simp only [← hr] at IHH
   have hbx : Below wr.heap.size wr (wr.alloc (Obj.cells #[.int .i64 n1, Value.slice a1 k1.len cap1, Value.slice c1' ws1.length cp1] 58)) := ba _ _
   have HB2 := hid (hb.trans (hbx.mono hb.size))
   have HV := hid (hv1.below hbx)
   clear hd hd1 hst hr hv1 hbx
   go_wp2_with fail
   refine (IHH.out _ HV.out).mono ?_
   rintro e w' ⟨rfl, hb'⟩
   have hbw := HB2.out.trans (hb'.mono HB2.out.size)
   cases hrb : r
   ·have HF := hid (show t.light m = false by rw [← HQ.out, HST.out, hrb]; rfl)
    clear hrb
    go_wp2_with fail
    go_ret
    exact ⟨by rw [HF.out]; rfl, hWb.trans (hbw.mono hWb.size)⟩
   ·have HF := hid (show (t.drop (j + 1)).light m = t.light m by rw [← HQ.out, HST.out, hrb]; rfl)
    clear hrb
    go_wp2_with fail
    go_roundw
    case rel => exact ⟨j + 1, by omega, by go_num, HF.out, hbw⟩
    case measure => simp [intOf]; omega
  ·have HF := hid (show t.light m = true by rw [← HQ.out, show j = t.len by omega, V.drop_all]; rfl)
   have c2' := cell_below hb c2
   go_wp2_with fail
   go_ret
   exact ⟨by rw [HF.out]; simp, hWb.trans (hb.mono hWb.size)⟩
def vFew (t : V) (lw : Nat) (m : Int) : Bool := decide (1 + (t.count : Int) ≤ m) && (t.light m && decide ((lw : Int) ≤ m))
theorem vfew_any (S' : Nat → Prop) (t : V) (n : Int) (a c : Option Addr) (cap lw cp : Nat) (m : Int) (w : World) (hs : Vl S' w a t) (h0 : 0 ≤ m) (h1 : m ≤ 99999) :
    Calls Tryz.prog 50 #[Vv n a t.len cap c lw cp, .int .i64 m] w fun e w' =>
     e = .returned (.bool (vFew t lw m)) ∧ Below w.heap.size w w' := by
 obtain ⟨W, hW⟩ : ∃ W : World, W = w.alloc (Obj.cells #[.int .i64 n, Value.slice a t.len cap, Value.slice c lw cp] 58) := ⟨_, rfl⟩
 have hWb : Below w.heap.size w W := by rw [hW]; exact ba _ _
 have c0 : W.cell? ⟨w.heap.size, 0, none⟩ = some (.int .i64 n) := by rw [hW]; simp
 have c1 : W.cell? ⟨w.heap.size, 1, none⟩ = some (.slice a t.len cap) := by rw [hW]; simp
 have c2 : W.cell? ⟨w.heap.size, 2, none⟩ = some (.slice c lw cp) := by rw [hW]; simp
 have hs' : Vl S' W a t := hs.below hWb
 have hvn := vlft_nodes t m h0
 have HVN := hid hvn
 clear hvn
 go_enter Tryz.func50, Tryz.ntmps50
 go_wp2_with fail
 rw [← hW]
 clear hW
 refine (vleft_any S' t n a c cap lw cp (m + 1) W hs' (by omega) (by omega)).mono ?_
 rintro e w1 ⟨rfl, hb1⟩
 replace c0 := cell_below hb1 c0
 replace c1 := cell_below hb1 c1
 replace c2 := cell_below hb1 c2
 rw [show m + 1 - 1 = m by omega]
 by_cases hc : 1 + (t.count : Int) ≤ m
 ·have hp : 0 < max (vlft t m) 0 := by rw [HVN.out]; omega
  have HF := hid (show vFew t lw m = (t.light m && decide ((lw : Int) ≤ m)) by unfold vFew; rw [decide_eq_true hc]; rfl)
  clear hc
  go_wp2_with fail
  refine (light_any S' t n a c cap lw cp m w1 (hs'.below hb1)).mono ?_
  rintro e w2 ⟨rfl, hb2⟩
  go_wp2_with fail
  go_ret
  exact ⟨by rw [HF.out]; rfl, hWb.trans ((hb1.trans (hb2.mono hb1.size)).mono hWb.size)⟩
 ·have hp : max (vlft t m) 0 ≤ 0 := by rw [HVN.out]; omega
  have HF := hid (show vFew t lw m = false by unfold vFew; rw [decide_eq_false hc]; rfl)
  clear hc
  go_wp2_with fail
  go_ret
  exact ⟨by rw [HF.out]; rfl, hWb.trans (hb1.mono hWb.size)⟩
end Go.Proofs.YtcekilcgpgjooaaGreatDoor
namespace Go.Proofs.YtcekilcgpgjooaaGreatDoor
open Go.RowKit
def New (lo : Nat) (g : Option Nat) : Nat → Nat → Prop := fun b _ => lo ≤ b ∧ some b ≠ g
def T.Row (S : Nat → Nat → Prop) (w : World) : T → List Value → Prop
 | .nil, xs => xs = []
 | .cons k n kids rest, xs => ∃ a cap ys, xs = .int .i64 k :: .int .i64 n :: .slice a kids.len cap :: ys ∧ (Sl S w a kids ∧ kids.len ≤ cap) ∧ rest.Row S w ys
def T.take : T → Nat → T
 | _, 0 => .nil
 | .nil, _ + 1 => .nil
 | .cons k n kids rest, i + 1 => .cons k n kids (rest.take i)
theorem T.take_all (t : T) : t.take t.len = t := by
 induction t with
 | nil => rfl
 | cons k n kids rest _ ihr => simp [T.len, T.take, ihr]
theorem T.len_nodes (t : T) : t.len ≤ t.nodes := by
 induction t with
 | nil => simp [T.len]
 | cons k n kids rest _ ihr => simp only [T.len, T.nodes]; omega
theorem T.Row.push {S : Nat → Nat → Prop} {w : World} {t : T} : ∀ {j : Nat} {xs : List Value} {k n : Int} {kids rest : T} {a : Option Addr} {cap : Nat}, (t.take j).Row S w xs → t.drop j = .cons k n kids rest → Sl S w a kids → kids.len ≤ cap →
    (t.take (j + 1)).Row S w (xs ++ [.int .i64 k, .int .i64 n, .slice a kids.len cap]) := by
 induction t with
 | nil => intro j _ _ _ _ _ _ _ _ hd; cases j <;> simp [T.drop] at hd
 | cons k' n' kids' rest' _ ihr =>
  intro j xs k n kids rest a cap hr hd hs hcp
  cases j with
  | zero =>
   simp only [T.drop, T.cons.injEq] at hd
   obtain ⟨rfl, rfl, rfl, rfl⟩ := hd
   simp only [T.take, T.Row] at hr
   subst hr
   exact ⟨a, cap, [], rfl, ⟨hs, hcp⟩, by cases rest' <;> rfl⟩
  | succ j =>
   simp only [T.take, T.Row, T.drop] at hr hd ⊢
   obtain ⟨a0, cap0, ys, rfl, h1, h2⟩ := hr
   exact ⟨a0, cap0, _, rfl, h1, ihr h2 hd hs hcp⟩
theorem T.Row.mono {S S' : Nat → Nat → Prop} {w w' : World} {t : T} (h : ∀ a u, Sl S w a u → Sl S' w' a u) : ∀ {xs : List Value}, t.Row S w xs → t.Row S' w' xs := by
 induction t with
 | nil => intro xs hr; exact hr
 | cons k n kids rest _ ihr =>
  intro xs hr
  obtain ⟨a0, cap0, ys, rfl, h1, h2⟩ := hr
  exact ⟨a0, cap0, ys, rfl, ⟨h _ _ h1.1, h1.2⟩, ihr h2⟩
theorem T.Row.at {S S' : Nat → Nat → Prop} {w : World} {g : Nat} (hS : ∀ b o, S b o → S' b o) (hg : ∀ o, Soft S' w g o) {t : T} : ∀ {xs : List Value} {o : Nat}, t.Row S w xs → (∀ j u, xs[j]? = some u → w.cell? ⟨g, o + j, none⟩ = some u) → t.At S' w g o := by
 induction t with
 | nil => intro _ _ _ _; trivial
 | cons k n kids rest _ ihr =>
  intro xs o hr hc
  obtain ⟨a0, cap0, ys, rfl, h1, h2⟩ := hr
  have h1' := h1.1.weaken hS
  refine ⟨hg _, hc 0 _ rfl, hc 1 _ rfl, ⟨a0, cap0, hc 2 _ rfl, ⟨h1.2, h1'.1⟩, h1'.2⟩, ihr h2 fun j u hj => ?_⟩
  have := hc (3 + j) u (by rw [show 3 + j = j + 3 by omega]; simpa using hj)
  rwa [show o + (3 + j) = o + 3 + j by omega] at this
theorem Sl.grown {S S' : Nat → Nat → Prop} {w w' : World} {row : Option Nat} {a : Option Addr} {t : T} (h : Sl S w a t) (hg : w.grownBy w' row) (hS : ∀ b o, S b o → b < w.heap.size → S' b o ∧ some b ≠ row) : Sl S' w' a t := by
 have h' := h.lt
 refine ⟨h.1, ?_⟩
 have h2 := h'.2
 cases a with
 | none => exact h2
 | some p =>
  exact ⟨h2.1, T.At.mono (fun b o hb => (hS b o hb.1 hb.2).1) (fun b o hb hlt => hg.block b hlt (hS b o hb.1 hb.2).2) h2.2⟩
theorem sl_of_row {lo : Nat} {w : World} {v : Value} {t : T} {xs : List Value} (hn : t.len ≤ 100000) (ho : w.ownsRow lo 24 3 v t.len xs) (hr : t.Row (New lo v.ownBlock) w xs) :
    ∃ a cap, v = .slice a t.len cap ∧ Sl (fun b _ => lo ≤ b) w a t := by
 have h2 := ho.2
 rcases h2 with ⟨hv, hz⟩ | ⟨g, cap, cur, hv, hb, hg, hc, _, _, htake⟩
 ·subst hv
  rw [hz]
  cases t with
  | nil => exact ⟨none, 0, rfl, by simp [T.len], rfl⟩
  | cons k n kids rest => simp [T.len] at hz
 ·subst hv
  refine ⟨some ⟨g, 0, none⟩, cap, rfl, by omega, Or.inr rfl, ?_⟩
  refine T.Row.at (S := New lo (some g)) (fun b _ h => h.1) (fun _ => ⟨hb, by simp [World.frozen?, hg], by simp [World.frozen?, hg]⟩) hr fun j u hj => ?_
  have := ho.cells (g := g) rfl j u hj
  have hadd : (⟨g, 0, none⟩ : Addr).add j = ⟨g, j, none⟩ := by unfold Addr.add; split <;> simp_all
  rw [hadd] at this
  rwa [Nat.zero_add]
end Go.Proofs.YtcekilcgpgjooaaGreatDoor
namespace Go.Proofs.YtcekilcgpgjooaaGreatDoor
open Go.RowKit
open Go.Lib (hid)
theorem infoF : (Tryz.prog.info? 24).map (fun i => (i.zero, i.size, i.bytes)) = some (some (.agg #[.int .i64 0, .int .i64 0, .slice none 0 0]), 3, 40) := by kernel_rfl
theorem infoV : (Tryz.prog.info? 58).map (fun i => (i.zero, i.size, i.bytes)) = some (some (.agg #[.int .i64 0, .slice none 0 0, .slice none 0 0]), 3, 56) := by kernel_rfl
theorem infoI : (Tryz.prog.info? 3).map (fun i => (i.zero, i.size, i.bytes)) = some (some (.int .i64 0), 1, 8) := by kernel_rfl
def repC : Nat → List Value → List Value
 | 0, _ => []
 | j + 1, c => c ++ repC j c
theorem repC_snoc (c : List Value) : ∀ j, repC j c ++ c = repC (j + 1) c := by
 intro j
 induction j with
 | zero => simp [repC]
 | succ j ih => rw [show repC (j + 1) c = c ++ repC j c from rfl, List.append_assoc, ih]; rfl
def T.rep : Nat → F → T
 | 0, _ => .nil
 | j + 1, g => .cons g.k g.n g.t (T.rep j g)
theorem T.rep_len (g : F) : ∀ j, (T.rep j g).len = j := by
 intro j; induction j with
 | zero => rfl
 | succ j ih => simp [T.rep, T.len, ih]
theorem T.rep_get (g : F) : ∀ j i, i < j → (T.rep j g).get i = g := by
 intro j; induction j with
 | zero => intro i h; omega
 | succ j ih => intro i h; cases i with
  | zero => rfl
  | succ i => exact ih i (by omega)
theorem T.rep_row {S : Nat → Nat → Prop} {w : World} {g : F} {a : Option Addr} {cap : Nat} (hs : Sl S w a g.t) (hc : g.t.len ≤ cap) : ∀ j, (T.rep j g).Row S w (repC j [.int .i64 g.k, .int .i64 g.n, .slice a g.t.len cap]) := by
 intro j; induction j with
 | zero => rfl
 | succ j ih => exact ⟨a, cap, _, rfl, ⟨hs, hc⟩, ih⟩
theorem sl_of_own {S S' : Nat → Nat → Prop} {lo : Nat} {w : World} {v : Value} {t : T} {xs : List Value} (hn : t.len ≤ 1000000) (ho : w.ownsRow lo 24 3 v t.len xs) (hr : t.Row S w xs) (hS : ∀ b o, S b o → S' b o) (hl : ∀ b o, lo ≤ b → S' b o) :
    ∃ a cap, v = .slice a t.len cap ∧ Sl S' w a t := by
 have h2 := ho.2
 rcases h2 with ⟨hv, hz⟩ | ⟨g, cap, cur, hv, hb, hg, hc, _, _, htake⟩
 ·subst hv
  rw [hz]
  cases t with
  | nil => exact ⟨none, 0, rfl, by simp [T.len], rfl⟩
  | cons k n kids rest => simp [T.len] at hz
 ·subst hv
  refine ⟨some ⟨g, 0, none⟩, cap, rfl, by omega, Or.inr rfl, ?_⟩
  refine T.Row.at (S := S) hS (fun _ => ⟨hl _ _ hb, by simp [World.frozen?, hg], by simp [World.frozen?, hg]⟩) hr fun j u hj => ?_
  have := ho.cells (g := g) rfl j u hj
  have hadd : (⟨g, 0, none⟩ : Addr).add j = ⟨g, j, none⟩ := by unfold Addr.add; split <;> simp_all
  rw [hadd] at this
  rwa [Nat.zero_add]
def partsOk (f : F) (n : Int) (len : Nat) : Bool := if f.k = 0 ∨ f.k = 1 then decide (len = 0) else if f.k = 2 then decide (len = 2) else if f.k = 3 then decide (0 ≤ n ∧ n ≤ 1) && decide (len = 1) else if f.k = 4 then decide ((len : Int) = f.n) else true
structure PartsYes (S : Nat → Nat → Prop) (f : F) (n : Int) (len : Nat) (w : World) (e : Ending) (w' : World) (t : T) (a : Option Addr) (cap : Nat) : Prop where
 e : e = .returned (.tuple #[.slice a t.len cap, .bool (partsOk f n len)])
 sl : Sl (fun b o => S b o ∨ w.heap.size ≤ b) w' a t
 below : Below w.heap.size w w'
 get : partsOk f n len = true → t.len = len ∧ ∀ i, i < len → t.get i = f.part n i
def PartsPost (S : Nat → Nat → Prop) (f : F) (n : Int) (len : Nat) (w : World) (e : Ending) (w' : World) : Prop := ∃ t a cap, PartsYes S f n len w e w' t a cap
theorem parts_coll (S : Nat → Nat → Prop) (f : F) (a a' c : Option Addr) (cap cap' cp : Nat) (n : Int) (len lw : Nat) (w : World) (hs : Sl S w a f.t) (hk : f.k ≠ 0 ∧ f.k ≠ 1 ∧ f.k ≠ 2 ∧ f.k ≠ 3 ∧ f.k ≠ 4) (h0 : 0 < f.t.len) (hl : len ≤ 1000000) :
    Calls Tryz.prog 157 #[f.val a cap, Vv n a' len cap' c lw cp] w (PartsPost S f n len w) := by
 have HPO := hid (show partsOk f n len = true by unfold partsOk; rw [if_neg (by omega), if_neg (by omega), if_neg (by omega), if_neg (by omega)])
 have HPT := hid (show ∀ i, f.part n i = f.t.get 0 by intro i; unfold F.part; rw [if_neg hk.2.2.1, if_neg hk.2.2.2.1])
 obtain ⟨W, hW⟩ : ∃ W : World, W = (w.alloc (Obj.cells #[.int .i64 f.k, .int .i64 f.n, Value.slice a f.t.len cap] 24)).alloc (Obj.cells #[.int .i64 n, Value.slice a' len cap', Value.slice c lw cp] 58) := ⟨_, rfl⟩
 have hWb : Below w.heap.size w W := by rw [hW]; exact ba2 _ _ _
 have hWs : W.heap.size = w.heap.size + 2 := by rw [hW]; simp
 have c0 : W.cell? ⟨w.heap.size, 0, none⟩ = some (.int .i64 f.k) := by rw [hW]; simp
 have c2 : W.cell? ⟨w.heap.size, 2, none⟩ = some (.slice a f.t.len cap) := by rw [hW]; simp
 have e1 : W.cell? ⟨w.heap.size + 1, 1, none⟩ = some (.slice a' len cap') := by rw [hW]; simp
 have hlen := hs.1
 have b0 : (f.k == 0) = false := by simpa using hk.1
 have b1 : (f.k == 1) = false := by simpa using hk.2.1
 have b2 : (f.k == 2) = false := by simpa using hk.2.2.1
 have b3 : (f.k == 3) = false := by simpa using hk.2.2.2.1
 have b4 : (f.k == 4) = false := by simpa using hk.2.2.2.2
 obtain ⟨b, o, rfl, hA⟩ := hs.addr h0
 obtain ⟨k1, n1, kids, rest, hd, _⟩ := T.drop_lt h0
 obtain ⟨_, d0, d1, a1, cap1, d2, hs1, hcp⟩ := hA.getc hd
 have HG := hid (show f.t.get 0 = ⟨k1, n1, kids⟩ from T.get_drop _ _ _ _ _ _ hd)
 have HS := hid hs1
 simp only [Nat.mul_zero, Nat.add_zero] at d0 d1 d2
 replace d0 := cell_below hWb d0
 replace d1 := cell_below hWb d1
 replace d2 := cell_below hWb d2
 obtain ⟨i0, hi, hz0, hz1, hz2⟩ := info_parts infoF
 clear hk hA hd hs1 hs
 go_enter Tryz.func157, Tryz.ntmps157
 go_wp2_with fail
 rw [← hW]
 clear hW
 go_loopw [6, 10] (fun v i wr => ∃ j : Nat, j ≤ len ∧ i = .int .i64 j ∧ wr.ownsRow (w.heap.size + 2) 24 3 v j (repC j [.int .i64 k1, .int .i64 n1, .slice a1 kids.len cap1]) ∧ Below W.heap.size W wr) (fun _ i _ => len - (intOf i).toNat)
 case atStart => exact ⟨0, Nat.zero_le _, rfl, World.ownsRow_nil _ _ _ _, Below.refl _ _⟩
 case round =>
  obtain ⟨j, hj, rfl, hown, hb⟩ := hrel
  have hWr := hb.size
  by_cases hlt : j < len
  ·replace c2 := cell_below hb c2
   replace d0 := cell_below hb d0
   replace d1 := cell_below hb d1
   replace d2 := cell_below hb d2
   have hbx : Below wr.heap.size wr (wr.alloc (.cells #[.int .i64 k1, .int .i64 n1, .slice a1 kids.len cap1] 24)) := ba _ _
   obtain ⟨x0, x1, x2⟩ := cells_of (heap_new wr (.cells #[.int .i64 k1, .int .i64 n1, .slice a1 kids.len cap1] 24))
   have HX := hid (show ∀ i u, [Value.int IntKind.i64 k1, .int .i64 n1, Value.slice a1 kids.len cap1][i]? = some u → (wr.alloc (.cells #[.int .i64 k1, .int .i64 n1, .slice a1 kids.len cap1] 24)).cell? ((⟨wr.heap.size, 0, none⟩ : Addr).add i) = some u from (by
           intro i u hu
           match i, hu with
           | 0, hu => simp at hu; subst hu; exact x0
           | 1, hu => simp at hu; subst hu; exact x1
           | 2, hu => simp at hu; subst hu; exact x2))
   clear x0 x1 x2
   go_wp2_with (at_builtin; refine wpList_append_own_at _ rfl _ _ 22 rfl (w.heap.size + 2) 24 i0 (.agg #[.int .i64 0, .int .i64 0, .slice none 0 0]) 3 40 Tryz.underlying22 hi hz0 hz1 hz2 rfl (by decide) _ _ _ rfl (hown.alloc _) ⟨wr.heap.size, 0, none⟩ 1 1 [.int .i64 k1, .int .i64 n1, .slice a1 kids.len cap1] rfl rfl HX.out (by simp [Value.oneCell']) (by unfold maxLen; omega) (by omega) (by simp; omega) ?_)
   intro v' w1 hown1 hgr _ hat
   rw [repC_snoc] at hown1
   have hB1 : Below W.heap.size W w1 := (hb.trans (hbx.mono hWr)).grown hgr (by simp; omega) (fun k hk => by have := hown.lt k hk; omega)
   clear hown hgr hat HX hbx
   go_wp2_with fail
   go_roundw
   case rel => exact ⟨j + 1, by omega, by go_num, hown1, hB1⟩
   case measure => simp [intOf]; omega
  ·obtain rfl : j = len := by omega
   replace e1 := cell_below hb e1
   obtain ⟨ar, cr, hv, hsl⟩ := sl_of_own (S := S) (S' := fun b o => S b o ∨ w.heap.size ≤ b) (t := T.rep j ⟨k1, n1, kids⟩) (by rw [T.rep_len]; omega) (by rw [T.rep_len]; exact hown) (T.rep_row ((HS.out.below hWb).below hb) hcp j) (fun b o h => Or.inl h) (fun b o h => Or.inr (by omega))
   rw [T.rep_len] at hv
   subst hv
   have HSL := hid hsl
   clear hown hsl
   go_wp2_with fail
   go_quiet (fail)
   go_wp2_with fail
   go_ret2
   have hbb : Below w.heap.size w wr := hWb.trans (hb.mono hWb.size)
   exact ⟨T.rep j ⟨k1, n1, kids⟩, ar, cr, by rw [T.rep_len, HPO.out]; simp, HSL.out.below below_drewN, hbb.trans below_drewN, fun _ => ⟨T.rep_len _ _, fun i hi => by rw [T.rep_get _ _ _ hi, HPT.out, HG.out]⟩⟩
theorem eqn_pair (v : Value) (a b : Nat) : Ending.returned (Value.tuple #[v, .bool ((a : Int) == (b : Int))]) = .returned (.tuple #[v, .bool (decide (b = a))]) := by
 rw [show ((a : Int) == (b : Int)) = decide (b = a) by rw [Bool.eq_iff_iff]; simp; omega]
theorem parts_exp (S : Nat → Nat → Prop) (f : F) (a a' c : Option Addr) (cap cap' cp : Nat) (n : Int) (len lw : Nat) (w : World) (hs : Sl S w a f.t) (q : Nat) (hk : f.k = 4) (hq : f.n = (q : Int)) (h0 : 0 < f.t.len) (hl : q ≤ 1000000) :
    Calls Tryz.prog 157 #[f.val a cap, Vv n a' len cap' c lw cp] w (PartsPost S f n len w) := by
 obtain ⟨k, fn, ft⟩ := f
 simp only at hk hq h0 hs
 subst hk hq
 have HPO := hid (show partsOk ⟨4, (q : Int), ft⟩ n len = decide (len = q) by
  show decide ((len : Int) = (q : Int)) = _
  exact decide_eq_decide.2 (by omega))
 have HPT := hid (show ∀ i, F.part ⟨4, (q : Int), ft⟩ n i = ft.get 0 from fun i => rfl)
 obtain ⟨W, hW⟩ : ∃ W : World, W = (w.alloc (Obj.cells #[.int .i64 4, .int .i64 (q : Int), Value.slice a ft.len cap] 24)).alloc (Obj.cells #[.int .i64 n, Value.slice a' len cap', Value.slice c lw cp] 58) := ⟨_, rfl⟩
 have hWb : Below w.heap.size w W := by rw [hW]; exact ba2 _ _ _
 have hWs : W.heap.size = w.heap.size + 2 := by rw [hW]; simp
 have c0 : W.cell? ⟨w.heap.size, 0, none⟩ = some (.int .i64 4) := by rw [hW]; simp
 have c2 : W.cell? ⟨w.heap.size, 2, none⟩ = some (.slice a ft.len cap) := by rw [hW]; simp
 have e1 : W.cell? ⟨w.heap.size + 1, 1, none⟩ = some (.slice a' len cap') := by rw [hW]; simp
 have hlen := hs.1
 obtain ⟨b, o, rfl, hA⟩ := hs.addr h0
 obtain ⟨k1, n1, kids, rest, hd, _⟩ := T.drop_lt h0
 obtain ⟨_, d0, d1, a1, cap1, d2, hs1, hcp⟩ := hA.getc hd
 have HG := hid (show ft.get 0 = ⟨k1, n1, kids⟩ from T.get_drop _ _ _ _ _ _ hd)
 have HS := hid hs1
 simp only [Nat.mul_zero, Nat.add_zero] at d0 d1 d2
 replace d0 := cell_below hWb d0
 replace d1 := cell_below hWb d1
 replace d2 := cell_below hWb d2
 obtain ⟨i0, hi, hz0, hz1, hz2⟩ := info_parts infoF
 clear hA hd hs1 hs
 go_enter Tryz.func157, Tryz.ntmps157
 go_wp2_with fail
 rw [← hW]
 clear hW
 go_loopw [6, 61] (fun v i wr => ∃ j : Nat, j ≤ q ∧ i = .int .i64 j ∧ wr.ownsRow (w.heap.size + 2) 24 3 v j (repC j [.int .i64 k1, .int .i64 n1, .slice a1 kids.len cap1]) ∧ Below W.heap.size W wr) (fun _ i _ => q - (intOf i).toNat)
 case atStart => exact ⟨0, Nat.zero_le _, rfl, World.ownsRow_nil _ _ _ _, Below.refl _ _⟩
 case round =>
  obtain ⟨j, hj, rfl, hown, hb⟩ := hrel
  have hWr := hb.size
  by_cases hlt : j < q
  ·replace c2 := cell_below hb c2
   replace d0 := cell_below hb d0
   replace d1 := cell_below hb d1
   replace d2 := cell_below hb d2
   have hbx : Below wr.heap.size wr (wr.alloc (.cells #[.int .i64 k1, .int .i64 n1, .slice a1 kids.len cap1] 24)) := ba _ _
   obtain ⟨x0, x1, x2⟩ := cells_of (heap_new wr (.cells #[.int .i64 k1, .int .i64 n1, .slice a1 kids.len cap1] 24))
   have HX := hid (show ∀ i u, [Value.int IntKind.i64 k1, .int .i64 n1, Value.slice a1 kids.len cap1][i]? = some u → (wr.alloc (.cells #[.int .i64 k1, .int .i64 n1, .slice a1 kids.len cap1] 24)).cell? ((⟨wr.heap.size, 0, none⟩ : Addr).add i) = some u from (by
           intro i u hu
           match i, hu with
           | 0, hu => simp at hu; subst hu; exact x0
           | 1, hu => simp at hu; subst hu; exact x1
           | 2, hu => simp at hu; subst hu; exact x2))
   clear x0 x1 x2
   go_wp2_with (at_builtin; refine wpList_append_own_at _ rfl _ _ 22 rfl (w.heap.size + 2) 24 i0 (.agg #[.int .i64 0, .int .i64 0, .slice none 0 0]) 3 40 Tryz.underlying22 hi hz0 hz1 hz2 rfl (by decide) _ _ _ rfl (hown.alloc _) ⟨wr.heap.size, 0, none⟩ 1 1 [.int .i64 k1, .int .i64 n1, .slice a1 kids.len cap1] rfl rfl HX.out (by simp [Value.oneCell']) (by unfold maxLen; omega) (by omega) (by simp; omega) ?_)
   intro v' w1 hown1 hgr _ hat
   rw [repC_snoc] at hown1
   have hB1 : Below W.heap.size W w1 := (hb.trans (hbx.mono hWr)).grown hgr (by simp; omega) (fun k hk => by have := hown.lt k hk; omega)
   clear hown hgr hat HX hbx
   go_wp2_with fail
   go_roundw
   case rel => exact ⟨j + 1, by omega, by go_num, hown1, hB1⟩
   case measure => simp [intOf]; omega
  ·obtain rfl : j = q := by omega
   replace e1 := cell_below hb e1
   obtain ⟨ar, cr, hv, hsl⟩ := sl_of_own (S := S) (S' := fun b o => S b o ∨ w.heap.size ≤ b) (t := T.rep j ⟨k1, n1, kids⟩) (by rw [T.rep_len]; omega) (by rw [T.rep_len]; exact hown) (T.rep_row ((HS.out.below hWb).below hb) hcp j) (fun b o h => Or.inl h) (fun b o h => Or.inr (by omega))
   rw [T.rep_len] at hv
   subst hv
   have HSL := hid hsl
   clear hown hsl
   go_wp2_with fail
   go_quiet (fail)
   go_wp2_with fail
   go_ret2
   have hbb : Below w.heap.size w wr := hWb.trans (hb.mono hWb.size)
   exact ⟨T.rep j ⟨k1, n1, kids⟩, ar, cr, by rw [T.rep_len, HPO.out]; exact eqn_pair _ _ _, HSL.out.below below_drewN, hbb.trans below_drewN, fun hp => ⟨by rw [T.rep_len]; rw [HPO.out] at hp; exact (of_decide_eq_true hp).symm, fun i hi => by rw [HPO.out] at hp; have := of_decide_eq_true hp; rw [T.rep_get _ _ _ (by omega), HPT.out, HG.out]⟩⟩
theorem eqn_pair2 (v : Value) (a : Nat) (b : Nat) : Ending.returned (Value.tuple #[v, .bool ((b : Int) == (a : Int))]) = .returned (.tuple #[v, .bool (decide (a = b))]) := eqn_pair v b a
theorem parts_none (S : Nat → Nat → Prop) (k fn : Int) (ft : T) (a a' c : Option Addr) (cap cap' cp : Nat) (n : Int) (len lw : Nat) (w : World) (hk : k = 0 ∨ k = 1) :
    Calls Tryz.prog 157 #[F.val ⟨k, fn, ft⟩ a cap, Vv n a' len cap' c lw cp] w (PartsPost S ⟨k, fn, ft⟩ n len w) := by
 have HPO := hid (show partsOk ⟨k, fn, ft⟩ n len = decide (len = 0) by unfold partsOk; rw [if_pos hk])
 have hbb : ∀ x : Nat, Below w.heap.size w (((w.alloc (Obj.cells #[.int .i64 k, .int .i64 fn, Value.slice a ft.len cap] 24)).alloc (Obj.cells #[.int .i64 n, Value.slice a' len cap', Value.slice c lw cp] 58)).drewN x) := fun _ => (ba2 _ _ _).trans below_drewN
 have HB := hid hbb
 clear hbb
 rcases hk with rfl | rfl
 all_goals
  go_enter Tryz.func157, Tryz.ntmps157
  go_wp2_with fail
  go_quiet (fail)
  go_wp2_with fail
  go_ret2
  exact ⟨.nil, none, 0, by rw [HPO.out]; exact eqn_pair2 _ len 0, ⟨by simp [T.len], rfl⟩, HB.out _, fun hp => by rw [HPO.out] at hp; have := of_decide_eq_true hp; exact ⟨by simp [T.len, this], fun i hi => by omega⟩⟩
theorem parts_prod (S : Nat → Nat → Prop) (fn : Int) (ft : T) (a a' c : Option Addr) (cap cap' cp : Nat) (n : Int) (len lw : Nat) (w : World) (hs : Sl S w a ft) (h2 : ft.len = 2) :
    Calls Tryz.prog 157 #[F.val ⟨2, fn, ft⟩ a cap, Vv n a' len cap' c lw cp] w (PartsPost S ⟨2, fn, ft⟩ n len w) := by
 have HPO := hid (show partsOk ⟨2, fn, ft⟩ n len = decide (len = ft.len) by rw [h2]; rfl)
 have hbb : ∀ x : Nat, Below w.heap.size w (((w.alloc (Obj.cells #[.int .i64 2, .int .i64 fn, Value.slice a ft.len cap] 24)).alloc (Obj.cells #[.int .i64 n, Value.slice a' len cap', Value.slice c lw cp] 58)).drewN x) := fun _ => (ba2 _ _ _).trans below_drewN
 have HB := hid hbb
 have HS := hid (hs.weaken (S' := fun b o => S b o ∨ w.heap.size ≤ b) (fun _ _ h => Or.inl h))
 have hlen := hs.1
 clear hbb hs h2
 go_enter Tryz.func157, Tryz.ntmps157
 go_wp2_with fail
 go_quiet (fail)
 go_wp2_with fail
 go_ret2
 exact ⟨ft, a, cap, by rw [HPO.out]; exact eqn_pair2 _ len ft.len, HS.out.below (HB.out _), HB.out _, fun hp => by rw [HPO.out] at hp; have := of_decide_eq_true hp; exact ⟨this.symm, fun i hi => rfl⟩⟩
theorem parts_sumno (S : Nat → Nat → Prop) (fn : Int) (ft : T) (a a' c : Option Addr) (cap cap' cp : Nat) (n : Int) (len lw : Nat) (w : World) (hn : ¬ (0 ≤ n ∧ n ≤ 1)) :
    Calls Tryz.prog 157 #[F.val ⟨3, fn, ft⟩ a cap, Vv n a' len cap' c lw cp] w (PartsPost S ⟨3, fn, ft⟩ n len w) := by
 have HPO := hid (show partsOk ⟨3, fn, ft⟩ n len = false by show (decide (0 ≤ n ∧ n ≤ 1) && _) = false; rw [decide_eq_false hn]; rfl)
 have hbb : Below w.heap.size w ((w.alloc (Obj.cells #[.int .i64 3, .int .i64 fn, Value.slice a ft.len cap] 24)).alloc (Obj.cells #[.int .i64 n, Value.slice a' len cap', Value.slice c lw cp] 58)) := ba2 _ _ _
 by_cases h0 : 0 ≤ n
 ·have h1 : 1 < n := by omega
  clear hn
  go_enter Tryz.func157, Tryz.ntmps157
  go_wp2_with fail
  go_ret2
  exact ⟨.nil, none, 0, by rw [HPO.out]; rfl, ⟨by simp [T.len], rfl⟩, hbb, fun hp => by rw [HPO.out] at hp; cases hp⟩
 ·have h1 : n < 0 := by omega
  clear hn
  go_enter Tryz.func157, Tryz.ntmps157
  go_wp2_with fail
  go_ret2
  exact ⟨.nil, none, 0, by rw [HPO.out]; rfl, ⟨by simp [T.len], rfl⟩, hbb, fun hp => by rw [HPO.out] at hp; cases hp⟩
theorem parts_sum (S : Nat → Nat → Prop) (fn : Int) (ft : T) (a a' c : Option Addr) (cap cap' cp : Nat) (j : Nat) (len lw : Nat) (w : World) (hs : Sl S w a ft) (h2 : ft.len = 2) (hc : ft.len ≤ cap) (hn : j ≤ 1) :
    Calls Tryz.prog 157 #[F.val ⟨3, fn, ft⟩ a cap, Vv (j : Int) a' len cap' c lw cp] w (PartsPost S ⟨3, fn, ft⟩ (j : Int) len w) := by
 have HPO := hid (show partsOk ⟨3, fn, ft⟩ (j : Int) len = decide (len = 1) by show (decide (0 ≤ (j : Int) ∧ (j : Int) ≤ 1) && decide (len = 1)) = _; rw [decide_eq_true (by omega)]; rfl)
 have hbb : ∀ x : Nat, Below w.heap.size w (((w.alloc (Obj.cells #[.int .i64 3, .int .i64 fn, Value.slice a ft.len cap] 24)).alloc (Obj.cells #[.int .i64 (j : Int), Value.slice a' len cap', Value.slice c lw cp] 58)).drewN x) := fun _ => (ba2 _ _ _).trans below_drewN
 have HB := hid hbb
 have hjl : j < ft.len := by omega
 obtain ⟨b, o, rfl, hA⟩ := hs.addr hjl
 obtain ⟨k1, n1, kids, rest, hd, _⟩ := T.drop_lt hjl
 have hA2 := hA.drop j
 rw [hd] at hA2
 have HS := hid (show Sl (fun b o => S b o ∨ w.heap.size ≤ b) w (some ⟨b, o + 3 * j, none⟩) (.cons k1 n1 kids .nil) from ⟨by simp [T.len], Or.inr rfl, ((show T.At S w (.cons k1 n1 kids .nil) b (o + 3 * j) from ⟨hA2.1, hA2.2.1, hA2.2.2.1, hA2.2.2.2.1, trivial⟩).mono (fun _ _ h => Or.inl h) (fun _ _ _ _ => rfl))⟩)
 have HG := hid (show ft.get j = ⟨k1, n1, kids⟩ from T.get_drop _ _ _ _ _ _ hd)
 have hlen := hs.1
 clear hbb hs hA hA2 hd h2
 go_enter Tryz.func157, Tryz.ntmps157
 go_wp2_with fail
 go_quiet (fail)
 go_wp2_with fail
 go_ret2
 refine ⟨.cons k1 n1 kids .nil, some ⟨b, o + 3 * j, none⟩, cap - j, ?_, HS.out.below (HB.out _), HB.out _, fun hp => ?_⟩
 ·rw [HPO.out, Nat.mul_comm 3 j]; exact eqn_pair2 _ len 1
 ·rw [HPO.out] at hp
  have := of_decide_eq_true hp
  subst this
  refine ⟨rfl, fun i hi => ?_⟩
  obtain rfl : i = 0 := by omega
  show T.get (.cons k1 n1 kids .nil) 0 = ft.get ((j : Int).toNat)
  rw [Int.toNat_natCast, HG.out]; rfl
theorem F.good_k {f : F} (hg : f.good = true) : f.k = 0 ∨ f.k = 1 ∨ f.k = 2 ∨ f.k = 3 ∨ f.k = 4 ∨ f.k = 5 ∨ f.k = 6 ∨ f.k = 7 := by
 obtain ⟨h1, _, _⟩ := F.good_len hg
 unfold arityOf at h1
 by_cases a : f.k = 0 ∨ f.k = 1
 ·omega
 rw [if_neg a] at h1
 by_cases b : f.k = 4 ∨ f.k = 5 ∨ f.k = 6 ∨ f.k = 7
 ·omega
 rw [if_neg b] at h1
 by_cases c : f.k = 2 ∨ f.k = 3
 ·omega
 rw [if_neg c] at h1
 omega
theorem F.good_1 {f : F} (hg : f.good = true) (h : 4 ≤ f.k) : f.t.len = 1 := by
 obtain ⟨h1, _, _⟩ := F.good_len hg
 have := F.good_k hg
 unfold arityOf at h1
 rw [if_neg (by omega), if_pos (by omega)] at h1
 omega
theorem F.good_2 {f : F} (hg : f.good = true) (h : f.k = 2 ∨ f.k = 3) : f.t.len = 2 := by
 obtain ⟨h1, _, _⟩ := F.good_len hg
 unfold arityOf at h1
 rw [if_neg (by omega), if_neg (by omega), if_pos h] at h1
 omega
theorem F.good_n {f : F} (hg : f.good = true) : 0 ≤ f.n ∧ f.n ≤ 16 := by
 obtain ⟨_, h2, h3⟩ := F.good_len hg
 have := mostOf_bd f.k
 unfold leastOf at h2
 split at h2 <;> omega
theorem parts_any (S : Nat → Nat → Prop) (f : F) (a a' c : Option Addr) (cap cap' cp : Nat) (n : Int) (len lw : Nat) (w : World) (hs : Sl S w a f.t) (hc : f.t.len ≤ cap) (hg : f.good = true) (hl : len ≤ 1000000) :
    Calls Tryz.prog 157 #[f.val a cap, Vv n a' len cap' c lw cp] w (PartsPost S f n len w) := by
 have hk := F.good_k hg
 by_cases h01 : f.k = 0 ∨ f.k = 1
 ·obtain ⟨k, fn, ft⟩ := f
  exact parts_none S k fn ft a a' c cap cap' cp n len lw w h01
 by_cases h2 : f.k = 2
 ·have := F.good_2 hg (Or.inl h2)
  obtain ⟨k, fn, ft⟩ := f
  simp only at h2
  subst h2
  exact parts_prod S fn ft a a' c cap cap' cp n len lw w hs this
 by_cases h3 : f.k = 3
 ·have := F.good_2 hg (Or.inr h3)
  obtain ⟨k, fn, ft⟩ := f
  simp only at h3
  subst h3
  by_cases hn : 0 ≤ n ∧ n ≤ 1
  ·obtain ⟨j, rfl⟩ : ∃ j : Nat, n = (j : Int) := ⟨n.toNat, by omega⟩
   exact parts_sum S fn ft a a' c cap cap' cp j len lw w hs this hc (by omega)
  ·exact parts_sumno S fn ft a a' c cap cap' cp n len lw w hn
 have h1 := F.good_1 hg (by omega)
 by_cases h4 : f.k = 4
 ·have hn := F.good_n hg
  exact parts_exp S f a a' c cap cap' cp n len lw w hs f.n.toNat h4 (by omega) (by omega) (by omega)
 ·exact parts_coll S f a a' c cap cap' cp n len lw w hs ⟨by omega, by omega, h2, h3, h4⟩ (by omega) hl
end Go.Proofs.YtcekilcgpgjooaaGreatDoor
