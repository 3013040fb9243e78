/- Proved here: contracts of the walk to BisimGraphs: the comparison of values; each under the conditions that its own statement names. -/
import Derived.Test.YtcekilcgpgjooaaGreatDoorG03
import Derived.Deep.QuietTactic
set_option maxRecDepth 100000
set_option maxHeartbeats 6400000
namespace Go.Proofs.YtcekilcgpgjooaaGreatDoor
open Go.RowKit
open Go.Lib (hid)
def CmpOk (t : V) : Prop := ∀ (u : V) (S S' : Nat → Prop) (n n' : Int) (ws ws' : List Int) (a a' c c' : Option Addr) (cap cap' cp cp' : Nat) (w : World), Vl S w a t → Vl S' w a' u → Ints S w c ws → Ints S' w c' ws' →
 Calls Tryz.prog 83 #[.agg #[.int .i64 n, .slice a t.len cap, .slice c ws.length cp], .agg #[.int .i64 n', .slice a' u.len cap', .slice c' ws'.length cp']] w fun e w' =>
  e = .returned (.int .i64 (or3 (cmpI n n') (t.cmp u) (cmpL ws ws'))) ∧ Below w.heap.size w w'
theorem V.cmp_step {t u : V} {j : Nat} {n n' : Int} {k k' : V} {ws ws' : List Int} {r r' : V} (h : t.drop j = .cons n k ws r) (h' : u.drop j = .cons n' k' ws' r') :
    (t.drop j).cmp (u.drop j) = if or3 (cmpI n n') (k.cmp k') (cmpL ws ws') ≠ 0 then or3 (cmpI n n') (k.cmp k') (cmpL ws ws') else r.cmp r' := by
 rw [h, h']; rfl
theorem V.cmp_end {t u : V} (j : Nat) (hj : ¬ (j < t.len ∧ j < u.len)) (hj2 : j ≤ t.len ∧ j ≤ u.len) : (t.drop j).cmp (u.drop j) = cmpI t.len u.len := by
 have h : t.drop j = .nil ∨ u.drop j = .nil := by
  by_cases h1 : j < t.len
  ·right
   obtain rfl : j = u.len := by omega
   exact u.drop_all
  ·left
   obtain rfl : j = t.len := by omega
   exact t.drop_all
 rw [V.cmp_len h, V.drop_len, V.drop_len]
 unfold cmpI
 split <;> split <;> (try split) <;> (try split) <;> omega
theorem cmpLists_any (t : V) (ih : t.Elems CmpOk) (u : V) (S S' : Nat → Prop) (a a' : Option Addr) (cap cap' : Nat) (w : World) (hs : Vl S w a t) (hu : Vl S' w a' u) :
    Calls Tryz.prog 119 #[.slice a t.len cap, .slice a' u.len cap', .func (.func 83) #[] #[]] w fun e w' => e = .returned (.int .i64 (t.cmp u)) ∧ Below w.heap.size w w' := by
 have IH := hid ih
 have hlen := hs.1
 have hlenu := hu.1
 clear ih
 by_cases hle : t.len ≤ u.len
 ·go_enter Tryz.func119, Tryz.ntmps119
  go_wp2_with fail
  go_loopw [7, 8, 14] (fun _ _ i wr => ∃ j : Nat, j ≤ t.len ∧ i = .int .i64 j ∧ (t.drop j).cmp (u.drop j) = t.cmp u ∧ Below w.heap.size w wr) (fun _ _ i _ => t.len - (intOf i).toNat)
  case atStart => exact ⟨0, Nat.zero_le _, rfl, by simp, Below.refl _ _⟩
  case round =>
   obtain ⟨j, hj, rfl, hq, hb⟩ := hrel
   have HQ := hid hq
   clear hq
   by_cases hlt : j < t.len
   ·have hjt : j < t.len := by omega
    have hju : j < u.len := by omega
    obtain ⟨b, o, rfl, hat⟩ := hs.addr hjt
    obtain ⟨n1, k1, ws1, r1, hd, hd1⟩ := V.drop_lt hjt
    obtain ⟨d0, ⟨a1, cap1, d1, hv1⟩, ⟨c1, cp1, d2, hi1⟩⟩ := hat.get hd
    obtain ⟨b', o', rfl, hat'⟩ := hu.addr hju
    obtain ⟨n2, k2, ws2, r2, hd', hd1'⟩ := V.drop_lt hju
    obtain ⟨f0, ⟨a2, cap2, f1, hv2⟩, ⟨c2, cp2, f2, hi2⟩⟩ := hat'.get hd'
    replace d0 := cell_below hb d0
    replace d1 := cell_below hb d1
    replace d2 := cell_below hb d2
    replace f0 := cell_below hb f0
    replace f1 := cell_below hb f1
    replace f2 := cell_below hb f2
    have HC := hid (fun x (hx : Below w.heap.size w x) => IH.out _ _ _ _ _ hd k2 S S' n1 n2 ws1 ws2 a1 a2 c1 c2 cap1 cap2 cp1 cp2 x (hv1.below hx) (hv2.below hx) (hi1.below hx) (hi2.below hx))
    have hstep := V.cmp_step hd hd'
    obtain ⟨r, hr⟩ : ∃ r, r = or3 (cmpI n1 n2) (k1.cmp k2) (cmpL ws1 ws2) := ⟨_, rfl⟩
    simp only [← hr] at HC hstep
    rw [← hd1, ← hd1'] at hstep
    have HS := hid hstep
    have hbd : Below w.heap.size w wr.drew := hb.drew
    clear hr hd hd1 hd' hd1' hstep
    go_wp2_with fail
    go_region_held3 (fun x : World => x.cell? ⟨b, o + j * 3, none⟩ = some (.int .i64 n1) ∧ x.cell? ⟨b, o + j * 3 + 1, none⟩ = some (.slice a1 k1.len cap1) ∧ x.cell? ⟨b, o + j * 3 + 2, none⟩ = some (.slice c1 ws1.length cp1) ∧ x.cell? ⟨b', o' + j * 3, none⟩ = some (.int .i64 n2) ∧ x.cell? ⟨b', o' + j * 3 + 1, none⟩ = some (.slice a2 k2.len cap2) ∧ x.cell? ⟨b', o' + j * 3 + 2, none⟩ = some (.slice c2 ws2.length cp2)) (first | exact ⟨d0, d1, d2, f0, f1, f2⟩) (first | (go_at_call 83; refine (HC.out _ hbd).mono ?_; rintro e wx ⟨rfl, hbx⟩; have hbz := hbd.trans (hbx.mono hbd.size); have d0 := cell_below hbx d0; have d1 := cell_below hbx d1; have d2 := cell_below hbx d2; have f0 := cell_below hbx f0; have f1 := cell_below hbx f1; have f2 := cell_below hbx f2))
    cases hz : decide (r = 0)
    ·have hz' : (r != 0) = true := by simpa using hz
     have hz2 : r ≠ 0 := by simpa using hz
     have HF := hid (show t.cmp u = r by rw [← HQ.out, HS.out, if_pos hz2])
     clear hz hz2
     go_wp2_with fail
     go_ret
     exact ⟨by rw [HF.out]; rfl, hbz⟩
    ·have hz0 : r = 0 := by simpa using hz
     have hz' : (r != 0) = false := by simp [hz0]
     have HF := hid (show (t.drop (j + 1)).cmp (u.drop (j + 1)) = t.cmp u by rw [← HQ.out, HS.out, hz0]; simp)
     clear hz hz0
     go_wp2_with fail
     go_roundw
     case rel => exact ⟨j + 1, by omega, by go_num, HF.out, hbz⟩
     case measure => simp [intOf]; omega
   ·have hno : j = t.len := by omega
    have HE := hid (show t.cmp u = cmpI t.len u.len by rw [← HQ.out]; exact V.cmp_end j (by omega) (by omega))
    clear hno
    go_wp2_with fail
    refine (cmpI_any _ _ _).mono ?_
    rintro e w' ⟨rfl, rfl⟩
    go_wp2_with fail
    go_ret
    exact ⟨by rw [HE.out]; rfl, hb⟩
 ·have hle2 : u.len ≤ t.len := by omega
  go_enter Tryz.func119, Tryz.ntmps119
  go_wp2_with fail
  go_loopw [7, 8, 14] (fun _ _ i wr => ∃ j : Nat, j ≤ u.len ∧ i = .int .i64 j ∧ (t.drop j).cmp (u.drop j) = t.cmp u ∧ Below w.heap.size w wr) (fun _ _ i _ => u.len - (intOf i).toNat)
  case atStart => exact ⟨0, Nat.zero_le _, rfl, by simp, Below.refl _ _⟩
  case round =>
   obtain ⟨j, hj, rfl, hq, hb⟩ := hrel
   have HQ := hid hq
   clear hq
   by_cases hlt : j < u.len
   ·have hjt : j < t.len := by omega
    have hju : j < u.len := by omega
    obtain ⟨b, o, rfl, hat⟩ := hs.addr hjt
    obtain ⟨n1, k1, ws1, r1, hd, hd1⟩ := V.drop_lt hjt
    obtain ⟨d0, ⟨a1, cap1, d1, hv1⟩, ⟨c1, cp1, d2, hi1⟩⟩ := hat.get hd
    obtain ⟨b', o', rfl, hat'⟩ := hu.addr hju
    obtain ⟨n2, k2, ws2, r2, hd', hd1'⟩ := V.drop_lt hju
    obtain ⟨f0, ⟨a2, cap2, f1, hv2⟩, ⟨c2, cp2, f2, hi2⟩⟩ := hat'.get hd'
    replace d0 := cell_below hb d0
    replace d1 := cell_below hb d1
    replace d2 := cell_below hb d2
    replace f0 := cell_below hb f0
    replace f1 := cell_below hb f1
    replace f2 := cell_below hb f2
    have HC := hid (fun x (hx : Below w.heap.size w x) => IH.out _ _ _ _ _ hd k2 S S' n1 n2 ws1 ws2 a1 a2 c1 c2 cap1 cap2 cp1 cp2 x (hv1.below hx) (hv2.below hx) (hi1.below hx) (hi2.below hx))
    have hstep := V.cmp_step hd hd'
    obtain ⟨r, hr⟩ : ∃ r, r = or3 (cmpI n1 n2) (k1.cmp k2) (cmpL ws1 ws2) := ⟨_, rfl⟩
    simp only [← hr] at HC hstep
    rw [← hd1, ← hd1'] at hstep
    have HS := hid hstep
    have hbd : Below w.heap.size w wr.drew := hb.drew
    clear hr hd hd1 hd' hd1' hstep
    go_wp2_with fail
    go_region_held3 (fun x : World => x.cell? ⟨b, o + j * 3, none⟩ = some (.int .i64 n1) ∧ x.cell? ⟨b, o + j * 3 + 1, none⟩ = some (.slice a1 k1.len cap1) ∧ x.cell? ⟨b, o + j * 3 + 2, none⟩ = some (.slice c1 ws1.length cp1) ∧ x.cell? ⟨b', o' + j * 3, none⟩ = some (.int .i64 n2) ∧ x.cell? ⟨b', o' + j * 3 + 1, none⟩ = some (.slice a2 k2.len cap2) ∧ x.cell? ⟨b', o' + j * 3 + 2, none⟩ = some (.slice c2 ws2.length cp2)) (first | exact ⟨d0, d1, d2, f0, f1, f2⟩) (first | (go_at_call 83; refine (HC.out _ hbd).mono ?_; rintro e wx ⟨rfl, hbx⟩; have hbz := hbd.trans (hbx.mono hbd.size); have d0 := cell_below hbx d0; have d1 := cell_below hbx d1; have d2 := cell_below hbx d2; have f0 := cell_below hbx f0; have f1 := cell_below hbx f1; have f2 := cell_below hbx f2))
    cases hz : decide (r = 0)
    ·have hz' : (r != 0) = true := by simpa using hz
     have hz2 : r ≠ 0 := by simpa using hz
     have HF := hid (show t.cmp u = r by rw [← HQ.out, HS.out, if_pos hz2])
     clear hz hz2
     go_wp2_with fail
     go_ret
     exact ⟨by rw [HF.out]; rfl, hbz⟩
    ·have hz0 : r = 0 := by simpa using hz
     have hz' : (r != 0) = false := by simp [hz0]
     have HF := hid (show (t.drop (j + 1)).cmp (u.drop (j + 1)) = t.cmp u by rw [← HQ.out, HS.out, hz0]; simp)
     clear hz hz0
     go_wp2_with fail
     go_roundw
     case rel => exact ⟨j + 1, by omega, by go_num, HF.out, hbz⟩
     case measure => simp [intOf]; omega
   ·have hno : j = u.len := by omega
    have HE := hid (show t.cmp u = cmpI t.len u.len by rw [← HQ.out]; exact V.cmp_end j (by omega) (by omega))
    clear hno
    go_wp2_with fail
    refine (cmpI_any _ _ _).mono ?_
    rintro e w' ⟨rfl, rfl⟩
    go_wp2_with fail
    go_ret
    exact ⟨by rw [HE.out]; rfl, hb⟩
theorem alloc_cell {b o : Nat} {v : Value} {u : World} {x : Obj} (h : u.cell? ⟨b, o, none⟩ = some v) : (u.alloc x).cell? ⟨b, o, none⟩ = some v := cell_below (ba _ _) h
theorem cmpL_step {t u : List Int} {j : Nat} (ht : j < t.length) (hu : j < u.length) : cmpL (t.drop j) (u.drop j) = if cmpI t[j] u[j] ≠ 0 then cmpI t[j] u[j] else cmpL (t.drop (j + 1)) (u.drop (j + 1)) := by
 rw [List.drop_eq_getElem_cons ht, List.drop_eq_getElem_cons hu]; rfl
theorem cmpL_end {t u : List Int} (j : Nat) (hj : ¬ (j < t.length ∧ j < u.length)) (hj2 : j ≤ t.length ∧ j ≤ u.length) : cmpL (t.drop j) (u.drop j) = cmpI t.length u.length := by
 have h : t.drop j = [] ∨ u.drop j = [] := by
  by_cases h1 : j < t.length
  ·exact Or.inr (List.drop_of_length_le (by omega))
  ·exact Or.inl (List.drop_of_length_le (by omega))
 rw [cmpL_len h, List.length_drop, List.length_drop]
 unfold cmpI
 split <;> split <;> (try split) <;> (try split) <;> omega
theorem cmpInts_any (t u : List Int) (S S' : Nat → Prop) (a a' : Option Addr) (cap cap' : Nat) (w : World) (hs : Ints S w a t) (hu : Ints S' w a' u) :
    Calls Tryz.prog 120 #[.slice a t.length cap, .slice a' u.length cap', .func (.func 79) #[] #[]] w fun e w' => e = .returned (.int .i64 (cmpL t u)) ∧ Below w.heap.size w w' := by
 have hlen := hs.1
 have hlenu := hu.1
 by_cases hle : t.length ≤ u.length
 ·go_enter Tryz.func120, Tryz.ntmps120
  go_wp2_with fail
  go_loopw [7, 8, 14] (fun _ _ i wr => ∃ j : Nat, j ≤ t.length ∧ i = .int .i64 j ∧ cmpL (t.drop j) (u.drop j) = cmpL t u ∧ Below w.heap.size w wr) (fun _ _ i _ => t.length - (intOf i).toNat)
  case atStart => exact ⟨0, Nat.zero_le _, rfl, by simp, Below.refl _ _⟩
  case round =>
   obtain ⟨j, hj, rfl, hq, hb⟩ := hrel
   have HQ := hid hq
   clear hq
   by_cases hlt : j < t.length
   ·have hjt : j < t.length := by omega
    have hju : j < u.length := by omega
    obtain ⟨b, o, rfl, d0⟩ := hs.get hjt
    obtain ⟨b', o', rfl, f0⟩ := hu.get hju
    replace d0 := cell_below hb d0
    replace f0 := cell_below hb f0
    have hstep := cmpL_step hjt hju
    obtain ⟨x, hx⟩ : ∃ x, x = t[j] := ⟨_, rfl⟩
    obtain ⟨y, hy⟩ : ∃ y, y = u[j] := ⟨_, rfl⟩
    rw [← hx] at hstep d0
    rw [← hy] at hstep f0
    obtain ⟨r, hr⟩ : ∃ r, r = cmpI x y := ⟨_, rfl⟩
    have HC := hid (fun v => cmpI_any x y v)
    simp only [← hr] at HC hstep
    have HS := hid hstep
    have hbd : Below w.heap.size w wr.drew := hb.drew
    clear hr hstep hx hy
    go_wp2_with fail
    go_region_held3 (fun v : World => v.cell? ⟨b, o + j, none⟩ = some (.int .i64 x) ∧ v.cell? ⟨b', o' + j, none⟩ = some (.int .i64 y)) (first | exact ⟨d0, f0⟩) (first | (go_at_call 79; refine (HC.out _).mono ?_; rintro e wx ⟨rfl, rfl⟩))
    cases hz : decide (r = 0)
    ·have hz' : (r != 0) = true := by simpa using hz
     have hz2 : r ≠ 0 := by simpa using hz
     have HF := hid (show cmpL t u = r by rw [← HQ.out, HS.out, if_pos hz2])
     clear hz hz2
     go_wp2_with fail
     go_ret
     exact ⟨by rw [HF.out]; rfl, hbd⟩
    ·have hz0 : r = 0 := by simpa using hz
     have hz' : (r != 0) = false := by simp [hz0]
     have HF := hid (show cmpL (t.drop (j + 1)) (u.drop (j + 1)) = cmpL t u by rw [← HQ.out, HS.out, hz0]; simp)
     clear hz hz0
     go_wp2_with fail
     go_roundw
     case rel => exact ⟨j + 1, by omega, by go_num, HF.out, hbd⟩
     case measure => simp [intOf]; omega
   ·have hno : j = t.length := by omega
    have HE := hid (show cmpL t u = cmpI t.length u.length by rw [← HQ.out]; exact cmpL_end j (by omega) (by omega))
    clear hno
    go_wp2_with fail
    refine (cmpI_any _ _ _).mono ?_
    rintro e w' ⟨rfl, rfl⟩
    go_wp2_with fail
    go_ret
    exact ⟨by rw [HE.out]; rfl, hb⟩
 ·have hle2 : u.length ≤ t.length := by omega
  go_enter Tryz.func120, Tryz.ntmps120
  go_wp2_with fail
  go_loopw [7, 8, 14] (fun _ _ i wr => ∃ j : Nat, j ≤ u.length ∧ i = .int .i64 j ∧ cmpL (t.drop j) (u.drop j) = cmpL t u ∧ Below w.heap.size w wr) (fun _ _ i _ => u.length - (intOf i).toNat)
  case atStart => exact ⟨0, Nat.zero_le _, rfl, by simp, Below.refl _ _⟩
  case round =>
   obtain ⟨j, hj, rfl, hq, hb⟩ := hrel
   have HQ := hid hq
   clear hq
   by_cases hlt : j < u.length
   ·have hjt : j < t.length := by omega
    have hju : j < u.length := by omega
    obtain ⟨b, o, rfl, d0⟩ := hs.get hjt
    obtain ⟨b', o', rfl, f0⟩ := hu.get hju
    replace d0 := cell_below hb d0
    replace f0 := cell_below hb f0
    have hstep := cmpL_step hjt hju
    obtain ⟨x, hx⟩ : ∃ x, x = t[j] := ⟨_, rfl⟩
    obtain ⟨y, hy⟩ : ∃ y, y = u[j] := ⟨_, rfl⟩
    rw [← hx] at hstep d0
    rw [← hy] at hstep f0
    obtain ⟨r, hr⟩ : ∃ r, r = cmpI x y := ⟨_, rfl⟩
    have HC := hid (fun v => cmpI_any x y v)
    simp only [← hr] at HC hstep
    have HS := hid hstep
    have hbd : Below w.heap.size w wr.drew := hb.drew
    clear hr hstep hx hy
    go_wp2_with fail
    go_region_held3 (fun v : World => v.cell? ⟨b, o + j, none⟩ = some (.int .i64 x) ∧ v.cell? ⟨b', o' + j, none⟩ = some (.int .i64 y)) (first | exact ⟨d0, f0⟩) (first | (go_at_call 79; refine (HC.out _).mono ?_; rintro e wx ⟨rfl, rfl⟩))
    cases hz : decide (r = 0)
    ·have hz' : (r != 0) = true := by simpa using hz
     have hz2 : r ≠ 0 := by simpa using hz
     have HF := hid (show cmpL t u = r by rw [← HQ.out, HS.out, if_pos hz2])
     clear hz hz2
     go_wp2_with fail
     go_ret
     exact ⟨by rw [HF.out]; rfl, hbd⟩
    ·have hz0 : r = 0 := by simpa using hz
     have hz' : (r != 0) = false := by simp [hz0]
     have HF := hid (show cmpL (t.drop (j + 1)) (u.drop (j + 1)) = cmpL t u by rw [← HQ.out, HS.out, hz0]; simp)
     clear hz hz0
     go_wp2_with fail
     go_roundw
     case rel => exact ⟨j + 1, by omega, by go_num, HF.out, hbd⟩
     case measure => simp [intOf]; omega
   ·have hno : j = u.length := by omega
    have HE := hid (show cmpL t u = cmpI t.length u.length by rw [← HQ.out]; exact cmpL_end j (by omega) (by omega))
    clear hno
    go_wp2_with fail
    refine (cmpI_any _ _ _).mono ?_
    rintro e w' ⟨rfl, rfl⟩
    go_wp2_with fail
    go_ret
    exact ⟨by rw [HE.out]; rfl, hb⟩
theorem cmp_any : ∀ t : V, CmpOk t := by
 refine V.ind ?_
 intro t ih u S S' n n' ws ws' a a' c c' cap cap' cp cp' w hs hu hi hi'
 obtain ⟨W, hW⟩ : ∃ W : World, W = (w.alloc (Obj.cells #[.int .i64 n, Value.slice a t.len cap, Value.slice c ws.length cp] 58)).alloc (Obj.cells #[.int .i64 n', Value.slice a' u.len cap', Value.slice c' ws'.length cp'] 58) := ⟨_, rfl⟩
 have hWb : Below w.heap.size w W := by rw [hW]; exact ba2 _ _ _
 have c0 : W.cell? ⟨w.heap.size, 0, none⟩ = some (.int .i64 n) := by rw [hW]; simp
 have c1 : W.cell? ⟨w.heap.size, 1, none⟩ = some (.slice a t.len cap) := by rw [hW]; simp
 have c2 : W.cell? ⟨w.heap.size, 2, none⟩ = some (.slice c ws.length cp) := by rw [hW]; simp
 have e0 : W.cell? ⟨w.heap.size + 1, 0, none⟩ = some (.int .i64 n') := by rw [hW]; simp
 have e1 : W.cell? ⟨w.heap.size + 1, 1, none⟩ = some (.slice a' u.len cap') := by rw [hW]; simp
 have e2 : W.cell? ⟨w.heap.size + 1, 2, none⟩ = some (.slice c' ws'.length cp') := by rw [hW]; simp
 have HL := hid (fun x (hx : Below W.heap.size W x) => cmpLists_any t ih u S S' a a' cap cap' x ((hs.below hWb).below hx) ((hu.below hWb).below hx))
 have HI := hid (fun x (hx : Below W.heap.size W x) => cmpInts_any ws ws' S S' c c' cp cp' x ((hi.below hWb).below hx) ((hi'.below hWb).below hx))
 have HN := hid (fun x => cmpI_any n n' x)
 have HX := hid (fun x (hx : Below W.heap.size W x) => And.intro (cell_below hx c0) (And.intro (cell_below hx c1) (And.intro (cell_below hx c2) (And.intro (cell_below hx e0) (And.intro (cell_below hx e1) (cell_below hx e2))))))
 obtain ⟨r1, hr1⟩ : ∃ r, r = cmpI n n' := ⟨_, rfl⟩
 obtain ⟨r2, hr2⟩ : ∃ r, r = t.cmp u := ⟨_, rfl⟩
 obtain ⟨r3, hr3⟩ : ∃ r, r = cmpL ws ws' := ⟨_, rfl⟩
 simp only [← hr1, ← hr2, ← hr3] at HL HI HN ⊢
 clear hr1 hr2 hr3 ih hs hu hi hi'
 go_enter Tryz.func83, Tryz.ntmps83
 go_wp2_with fail
 rw [← hW]
 clear hW
 have hbx : Below W.heap.size W W.drew := (Below.refl _ _).drew
 go_region_held3 (fun x : World => x.cell? ⟨w.heap.size, 0, none⟩ = some (.int .i64 n) ∧ x.cell? ⟨w.heap.size, 1, none⟩ = some (.slice a t.len cap) ∧ x.cell? ⟨w.heap.size, 2, none⟩ = some (.slice c ws.length cp) ∧ x.cell? ⟨w.heap.size + 1, 0, none⟩ = some (.int .i64 n') ∧ x.cell? ⟨w.heap.size + 1, 1, none⟩ = some (.slice a' u.len cap') ∧ x.cell? ⟨w.heap.size + 1, 2, none⟩ = some (.slice c' ws'.length cp')) (first | (with_reducible exact ⟨c0, c1, c2, e0, e1, e2⟩) | (with_reducible exact ⟨alloc_cell c0, alloc_cell c1, alloc_cell c2, alloc_cell e0, alloc_cell e1, alloc_cell e2⟩) | exact ⟨c0, c1, c2, e0, e1, e2⟩) (first | (go_at_call 78; refine (or3_any r1 r2 r3 _ 0 _ _ (by simp) (by simp) (by simp)).mono ?_; rintro e wy ⟨rfl, rfl⟩) | (go_at_call 79; refine (HN.out _).mono ?_; rintro e wx ⟨rfl, rfl⟩) | (go_at_call 119; refine (HL.out _ hbx).mono ?_; rintro e wx ⟨rfl, hby⟩; have hbx := hbx.trans (hby.mono hbx.size); obtain ⟨c0, c1, c2, e0, e1, e2⟩ := HX.out _ hbx) | (go_at_call 120; refine (HI.out _ hbx).mono ?_; rintro e wx ⟨rfl, hby⟩; have hbx := hbx.trans (hby.mono hbx.size); obtain ⟨c0, c1, c2, e0, e1, e2⟩ := HX.out _ hbx))
 all_goals
  go_wp2_with fail
  go_ret
  exact ⟨rfl, hWb.trans ((hbx.alloc hbx.size _).mono hWb.size)⟩
def CmpRefOk (t : V) : Prop := ∀ (u : V) (S S' : Nat → Prop) (n n' : Int) (ws ws' : List Int) (a a' c c' : Option Addr) (cap cap' cp cp' : Nat) (w : World), Vl S w a t → Vl S' w a' u → Ints S w c ws → Ints S' w c' ws' →
 Calls Tryz.prog 125 #[.agg #[.int .i64 n, .slice a t.len cap, .slice c ws.length cp], .agg #[.int .i64 n', .slice a' u.len cap', .slice c' ws'.length cp']] w fun e w' =>
  e = .returned (.int .i64 (or3 (cmpI n n') (t.cmp u) (cmpL ws ws'))) ∧ Below w.heap.size w w'
theorem or3_1 {a b c : Int} (h : a ≠ 0) : or3 a b c = a := by unfold or3; rw [if_pos h]
theorem or3_2 {b c : Int} (h : b ≠ 0) : or3 0 b c = b := by unfold or3; rw [if_neg (by omega), if_pos h]
theorem or3_3 {c : Int} : or3 0 0 c = c := by unfold or3; rw [if_neg (by omega), if_neg (by omega)]
theorem cmpRef_any : ∀ t : V, CmpRefOk t := by
 refine V.ind ?_
 intro t ih u S S' n n' ws ws' a a' c c' cap cap' cp cp' w hs hu hi hi'
 obtain ⟨W, hW⟩ : ∃ W : World, W = (w.alloc (Obj.cells #[.int .i64 n, Value.slice a t.len cap, Value.slice c ws.length cp] 58)).alloc (Obj.cells #[.int .i64 n', Value.slice a' u.len cap', Value.slice c' ws'.length cp'] 58) := ⟨_, rfl⟩
 have hWb : Below w.heap.size w W := by rw [hW]; exact ba2 _ _ _
 have c0 : W.cell? ⟨w.heap.size, 0, none⟩ = some (.int .i64 n) := by rw [hW]; simp
 have c1 : W.cell? ⟨w.heap.size, 1, none⟩ = some (.slice a t.len cap) := by rw [hW]; simp
 have c2 : W.cell? ⟨w.heap.size, 2, none⟩ = some (.slice c ws.length cp) := by rw [hW]; simp
 have e0 : W.cell? ⟨w.heap.size + 1, 0, none⟩ = some (.int .i64 n') := by rw [hW]; simp
 have e1 : W.cell? ⟨w.heap.size + 1, 1, none⟩ = some (.slice a' u.len cap') := by rw [hW]; simp
 have e2 : W.cell? ⟨w.heap.size + 1, 2, none⟩ = some (.slice c' ws'.length cp') := by rw [hW]; simp
 have HX := hid (fun x (hx : Below W.heap.size W x) => And.intro (cell_below hx c0) (And.intro (cell_below hx c1) (And.intro (cell_below hx c2) (And.intro (cell_below hx e0) (And.intro (cell_below hx e1) (cell_below hx e2))))))
 have IH := hid ih
 have hsW := hs.below hWb
 have huW := hu.below hWb
 have hiW := hi.below hWb
 have hiW' := hi'.below hWb
 have hlen := hs.1
 have hlenu := hu.1
 have hlw := hi.1
 have hlw' := hi'.1
 clear ih hs hu hi hi'
 by_cases hn : n = n'
 rotate_left
 ·have hn' : (n != n') = true := by simpa using hn
  have HR := hid (or3_1 (b := t.cmp u) (c := cmpL ws ws') (fun h => hn (cmpI_zero.1 h)))
  clear hn
  go_enter Tryz.func125, Tryz.ntmps125
  go_wp2_with fail
  rw [← hW]
  clear hW
  refine (orderRef_any n n' W).mono ?_
  rintro e w' ⟨rfl, rfl⟩
  go_wp2_with fail
  go_ret
  exact ⟨by rw [HR.out]; rfl, hWb⟩
 have hn' : (n != n') = false := by simpa using hn
 have HR := hid (show or3 (cmpI n n') (t.cmp u) (cmpL ws ws') = or3 0 (t.cmp u) (cmpL ws ws') by rw [cmpI_zero.2 hn])
 clear hn
 rw [HR.out]
 clear HR
 go_enter Tryz.func125, Tryz.ntmps125
 go_wp2_with fail
 rw [← hW]
 clear hW
 go_loopw [5, 6] (fun i _ wr => ∃ j : Nat, j ≤ t.len ∧ j ≤ u.len ∧ i = .int .i64 j ∧ (t.drop j).cmp (u.drop j) = t.cmp u ∧ Below W.heap.size W wr) (fun i _ _ => t.len - (intOf i).toNat)
 case atStart => exact ⟨0, Nat.zero_le _, Nat.zero_le _, rfl, by simp, Below.refl _ _⟩
 case round =>
  obtain ⟨j, hj, hj2, rfl, hq, hb⟩ := hrel
  have HQ := hid hq
  clear hq
  clear c0 c1 c2 e0 e1 e2
  obtain ⟨c0, c1, c2, e0, e1, e2⟩ := HX.out _ hb
  by_cases hjt : j < t.len
  ·by_cases hju : j < u.len
   ·obtain ⟨b, o, rfl, hat⟩ := hsW.addr hjt
    obtain ⟨n1, k1, ws1, r1, hd, hd1⟩ := V.drop_lt hjt
    obtain ⟨d0, ⟨a1, cap1, d1, hv1⟩, ⟨c1', cp1, d2, hi1⟩⟩ := hat.get hd
    obtain ⟨b', o', rfl, hat'⟩ := huW.addr hju
    obtain ⟨n2, k2, ws2, r2, hd', hd1'⟩ := V.drop_lt hju
    obtain ⟨f0, ⟨a2, cap2, f1, hv2⟩, ⟨c2', cp2, f2, hi2⟩⟩ := hat'.get hd'
    replace d0 := cell_below hb d0
    replace d1 := cell_below hb d1
    replace d2 := cell_below hb d2
    replace f0 := cell_below hb f0
    replace f1 := cell_below hb f1
    replace f2 := cell_below hb f2
    have HC := hid (fun x (hx : Below W.heap.size W x) => IH.out _ _ _ _ _ hd k2 S S' n1 n2 ws1 ws2 a1 a2 c1' c2' cap1 cap2 cp1 cp2 x (hv1.below hx) (hv2.below hx) (hi1.below hx) (hi2.below hx))
    have hstep := V.cmp_step hd hd'
    obtain ⟨r, hr⟩ : ∃ r, r = or3 (cmpI n1 n2) (k1.cmp k2) (cmpL ws1 ws2) := ⟨_, rfl⟩
    simp only [← hr] at HC hstep
    rw [← hd1, ← hd1'] at hstep
    have HS := hid hstep
    have hbd : Below W.heap.size W wr.drew := hb.drew
    clear hr hd hd1 hd' hd1' hstep
    go_wp2_with fail
    go_region_held3 (fun x : World => x.cell? ⟨w.heap.size, 1, none⟩ = some (.slice (some ⟨b, o, none⟩) t.len cap) ∧ x.cell? ⟨w.heap.size + 1, 1, none⟩ = some (.slice (some ⟨b', o', none⟩) u.len cap') ∧ x.cell? ⟨b, o + j * 3, none⟩ = some (.int .i64 n1) ∧ x.cell? ⟨b, o + j * 3 + 1, none⟩ = some (.slice a1 k1.len cap1) ∧ x.cell? ⟨b, o + j * 3 + 2, none⟩ = some (.slice c1' ws1.length cp1) ∧ x.cell? ⟨b', o' + j * 3, none⟩ = some (.int .i64 n2) ∧ x.cell? ⟨b', o' + j * 3 + 1, none⟩ = some (.slice a2 k2.len cap2) ∧ x.cell? ⟨b', o' + j * 3 + 2, none⟩ = some (.slice c2' ws2.length cp2)) (first | exact ⟨c1, e1, d0, d1, d2, f0, f1, f2⟩) (first | (go_at_call 125; refine (HC.out _ hbd).mono ?_; rintro e wx ⟨rfl, hbx⟩; have hbz := hbd.trans (hbx.mono hbd.size); obtain ⟨c0, c1, c2, e0, e1, e2⟩ := HX.out _ hbz; have d0 := cell_below hbx d0; have d1 := cell_below hbx d1; have d2 := cell_below hbx d2; have f0 := cell_below hbx f0; have f1 := cell_below hbx f1; have f2 := cell_below hbx f2))
    cases hz : decide (r = 0)
    ·have hz' : (r != 0) = true := by simpa using hz
     have hz2 : r ≠ 0 := by simpa using hz
     have HF := hid (show or3 0 (t.cmp u) (cmpL ws ws') = r by rw [show t.cmp u = r by rw [← HQ.out, HS.out, if_pos hz2]]; exact or3_2 hz2)
     clear hz hz2
     go_wp2_with fail
     go_ret
     exact ⟨by rw [HF.out]; rfl, hWb.trans (hbz.mono hWb.size)⟩
    ·have hz0 : r = 0 := by simpa using hz
     have hz' : (r != 0) = false := by simp [hz0]
     have HF := hid (show (t.drop (j + 1)).cmp (u.drop (j + 1)) = t.cmp u by rw [← HQ.out, HS.out, hz0]; simp)
     clear hz hz0
     go_wp2_with fail
     go_roundw
     case rel => exact ⟨j + 1, by omega, by omega, by go_num, HF.out, hbz⟩
     case measure => simp [intOf]; omega
   ·have HE := hid (show t.cmp u = cmpI t.len u.len by rw [← HQ.out]; exact V.cmp_end j (by omega) (by omega))
    have hlt : u.len < t.len := by omega
    have hl' : ((t.len : Int) != (u.len : Int)) = true := by simp; omega
    have HF := hid (show or3 0 (t.cmp u) (cmpL ws ws') = cmpI t.len u.len by rw [HE.out]; exact or3_2 (fun h => by have := cmpI_zero.1 h; omega))
    go_wp2_with fail
    refine (orderRef_any _ _ _).mono ?_
    rintro e w' ⟨rfl, rfl⟩
    go_wp2_with fail
    go_ret
    exact ⟨by rw [HF.out]; rfl, hWb.trans (hb.mono hWb.size)⟩
  ·have HE := hid (show t.cmp u = cmpI t.len u.len by rw [← HQ.out]; exact V.cmp_end j (by omega) (by omega))
   by_cases hlt : t.len < u.len
   ·have hl' : ((t.len : Int) != (u.len : Int)) = true := by simp; omega
    have HF := hid (show or3 0 (t.cmp u) (cmpL ws ws') = cmpI t.len u.len by rw [HE.out]; exact or3_2 (fun h => by have := cmpI_zero.1 h; omega))
    go_wp2_with fail
    refine (orderRef_any _ _ _).mono ?_
    rintro e w' ⟨rfl, rfl⟩
    go_wp2_with fail
    go_ret
    exact ⟨by rw [HF.out]; rfl, hWb.trans (hb.mono hWb.size)⟩
   ·have heq : t.len = u.len := by omega
    have hl' : ((t.len : Int) != (u.len : Int)) = false := by simp [heq]
    have HF := hid (show or3 0 (t.cmp u) (cmpL ws ws') = cmpL ws ws' by rw [HE.out, heq, cmpI_self]; exact or3_3)
    have hjt' : (t.len : Int) ≤ j := by omega
    clear heq
    go_wp2_with fail
    go_loopw [7] (fun i wx => ∃ j : Nat, j ≤ ws.length ∧ j ≤ ws'.length ∧ i = .int .i64 j ∧ cmpL (ws.drop j) (ws'.drop j) = cmpL ws ws' ∧ Below W.heap.size W wx) (fun i _ => ws.length - (intOf i).toNat)
    case atStart => exact ⟨0, Nat.zero_le _, Nat.zero_le _, rfl, by simp, hb⟩
    case round =>
     obtain ⟨j, hj, hj2, rfl, hq, hb⟩ := hrel
     have HQ2 := hid hq
     clear hq
     clear c0 c1 c2 e0 e1 e2
     obtain ⟨c0, c1, c2, e0, e1, e2⟩ := HX.out _ hb
     by_cases hjt : j < ws.length
     ·by_cases hju : j < ws'.length
      ·obtain ⟨b, o, rfl, d0⟩ := hiW.get hjt
       obtain ⟨b', o', rfl, f0⟩ := hiW'.get hju
       replace d0 := cell_below hb d0
       replace f0 := cell_below hb f0
       have hstep := cmpL_step hjt hju
       obtain ⟨x0, hx⟩ : ∃ x, x = ws[j] := ⟨_, rfl⟩
       obtain ⟨y0, hy⟩ : ∃ y, y = ws'[j] := ⟨_, rfl⟩
       rw [← hx] at hstep d0
       rw [← hy] at hstep f0
       have HS := hid hstep
       have hbd := hb.drew
       clear hstep hx hy
       cases hz : decide (x0 = y0)
       ·have hz' : (x0 != y0) = true := by simpa using hz
        have hz2 : x0 ≠ y0 := by simpa using hz
        have hz3 : cmpI x0 y0 ≠ 0 := fun h => hz2 (cmpI_zero.1 h)
        have HF2 := hid (show cmpL ws ws' = cmpI x0 y0 by rw [← HQ2.out, HS.out, if_pos hz3])
        clear hz hz2 hz3
        go_wp2_with fail
        go_region_held3 (fun x : World => x.cell? ⟨w.heap.size, 2, none⟩ = some (.slice (some ⟨b, o, none⟩) ws.length cp) ∧ x.cell? ⟨w.heap.size + 1, 2, none⟩ = some (.slice (some ⟨b', o', none⟩) ws'.length cp') ∧ x.cell? ⟨b, o + j, none⟩ = some (.int .i64 x0) ∧ x.cell? ⟨b', o' + j, none⟩ = some (.int .i64 y0)) (first | exact ⟨c2, e2, d0, f0⟩) (fail)
        go_wp2_with fail
        go_region_held3 (fun x : World => x.cell? ⟨w.heap.size, 2, none⟩ = some (.slice (some ⟨b, o, none⟩) ws.length cp) ∧ x.cell? ⟨w.heap.size + 1, 2, none⟩ = some (.slice (some ⟨b', o', none⟩) ws'.length cp') ∧ x.cell? ⟨b, o + j, none⟩ = some (.int .i64 x0) ∧ x.cell? ⟨b', o' + j, none⟩ = some (.int .i64 y0)) (first | exact ⟨c2, e2, d0, f0⟩) (first | (go_at_call 162; refine (orderRef_any _ _ _).mono ?_; rintro e wz ⟨rfl, rfl⟩))
        go_wp2_with fail
        go_ret
        exact ⟨by rw [HF.out, HF2.out]; rfl, hWb.trans (hbd.drew.mono hWb.size)⟩
       ·have hz0 : x0 = y0 := by simpa using hz
        have hz' : (x0 != y0) = false := by simp [hz0]
        have HF2 := hid (show cmpL (ws.drop (j + 1)) (ws'.drop (j + 1)) = cmpL ws ws' by rw [← HQ2.out, HS.out, hz0, cmpI_self]; simp)
        clear hz hz0
        go_wp2_with fail
        go_region_held3 (fun x : World => x.cell? ⟨w.heap.size, 2, none⟩ = some (.slice (some ⟨b, o, none⟩) ws.length cp) ∧ x.cell? ⟨w.heap.size + 1, 2, none⟩ = some (.slice (some ⟨b', o', none⟩) ws'.length cp') ∧ x.cell? ⟨b, o + j, none⟩ = some (.int .i64 x0) ∧ x.cell? ⟨b', o' + j, none⟩ = some (.int .i64 y0)) (first | exact ⟨c2, e2, d0, f0⟩) (fail)
        go_wp2_with fail
        go_roundw
        case rel => exact ⟨j + 1, by omega, by omega, by go_num, HF2.out, hbd⟩
        case measure => simp [intOf]; omega
      ·have HE2 := hid (show cmpL ws ws' = cmpI ws.length ws'.length by rw [← HQ2.out]; exact cmpL_end j (by omega) (by omega))
       go_wp2_with fail
       refine (orderRef_any _ _ _).mono ?_
       rintro e w' ⟨rfl, rfl⟩
       go_wp2_with fail
       go_ret
       exact ⟨by rw [HF.out, HE2.out]; rfl, hWb.trans (hb.mono hWb.size)⟩
     ·have HE2 := hid (show cmpL ws ws' = cmpI ws.length ws'.length by rw [← HQ2.out]; exact cmpL_end j (by omega) (by omega))
      go_wp2_with fail
      refine (orderRef_any _ _ _).mono ?_
      rintro e w' ⟨rfl, rfl⟩
      go_wp2_with fail
      go_ret
      exact ⟨by rw [HF.out, HE2.out]; rfl, hWb.trans (hb.mono hWb.size)⟩
end Go.Proofs.YtcekilcgpgjooaaGreatDoor
