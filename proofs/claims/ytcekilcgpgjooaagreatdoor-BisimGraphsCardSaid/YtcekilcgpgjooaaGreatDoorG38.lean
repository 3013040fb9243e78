/- Proved here: contracts of the walk to BisimGraphs: Compare, its draws counted; each under the conditions that its own statement names. -/
import Derived.Test.YtcekilcgpgjooaaGreatDoorG10
set_option maxRecDepth 100000
set_option maxHeartbeats 3200000
namespace Go.Proofs.YtcekilcgpgjooaaGreatDoor
open Go.RowKit
open Go.Lib (hid)
structure GB (w w' : World) : Prop where
 b : Below w.heap.size w w'
 d : w.drawn ≤ w'.drawn
theorem GB.refl (w : World) : GB w w := ⟨Below.refl _ _, Nat.le_refl _⟩
theorem GB.trans {u v w : World} (h : GB u v) (h' : GB v w) : GB u w := ⟨h.b.trans (h'.b.mono h.b.size), Nat.le_trans h.d h'.d⟩
theorem GB.drew {u v : World} (h : GB u v) : GB u v.drew := ⟨h.b.drew, by have := h.d; simp only [World.drew]; omega⟩
theorem GB.alloc {u v : World} (h : GB u v) (o : Obj) : GB u (v.alloc o) := ⟨h.b.alloc h.b.size o, h.d⟩
def GCmpOk (t : V) : Prop := ∀ (u : V) (S S' : Nat → Prop) (n n' : Int) (ws ws' : List Int) (a a' c c' : Option Addr) (cap cap' cp cp' : Nat) (w : World), Vl S w a t → Vl S' w a' u → Ints S w c ws → Ints S' w c' ws' →
 Calls Tryz.prog 83 #[.agg #[.int .i64 n, .slice a t.len cap, .slice c ws.length cp], .agg #[.int .i64 n', .slice a' u.len cap', .slice c' ws'.length cp']] w fun e w' =>
  e = .returned (.int .i64 (or3 (cmpI n n') (t.cmp u) (cmpL ws ws'))) ∧ GB w w'
theorem gcmpLists_any (t : V) (ih : t.Elems GCmpOk) (u : V) (S S' : Nat → Prop) (a a' : Option Addr) (cap cap' : Nat) (w : World) (hs : Vl S w a t) (hu : Vl S' w a' u) :
    Calls Tryz.prog 119 #[.slice a t.len cap, .slice a' u.len cap', .func (.func 83) #[] #[]] w fun e w' => e = .returned (.int .i64 (t.cmp u)) ∧ GB w w' := by
 have IH := hid ih
 have hlen := hs.1
 have hlenu := hu.1
 clear ih
 by_cases hle : t.len ≤ u.len
 ·go_enter Tryz.func119, Tryz.ntmps119
  go_wp2_with fail
  go_loopw [7, 8, 14] (fun _ _ i wr => ∃ j : Nat, j ≤ t.len ∧ i = .int .i64 j ∧ (t.drop j).cmp (u.drop j) = t.cmp u ∧ GB w wr) (fun _ _ i _ => t.len - (intOf i).toNat)
  case atStart => exact ⟨0, Nat.zero_le _, rfl, by simp, GB.refl _⟩
  case round =>
   obtain ⟨j, hj, rfl, hq, hb⟩ := hrel
   have HQ := hid hq
   clear hq
   by_cases hlt : j < t.len
   ·have hjt : j < t.len := by omega
    have hju : j < u.len := by omega
    obtain ⟨b, o, rfl, hat⟩ := hs.addr hjt
    obtain ⟨n1, k1, ws1, r1, hd, hd1⟩ := V.drop_lt hjt
    obtain ⟨d0, ⟨a1, cap1, d1, hv1⟩, ⟨c1, cp1, d2, hi1⟩⟩ := hat.get hd
    obtain ⟨b', o', rfl, hat'⟩ := hu.addr hju
    obtain ⟨n2, k2, ws2, r2, hd', hd1'⟩ := V.drop_lt hju
    obtain ⟨f0, ⟨a2, cap2, f1, hv2⟩, ⟨c2, cp2, f2, hi2⟩⟩ := hat'.get hd'
    replace d0 := cell_below hb.b d0
    replace d1 := cell_below hb.b d1
    replace d2 := cell_below hb.b d2
    replace f0 := cell_below hb.b f0
    replace f1 := cell_below hb.b f1
    replace f2 := cell_below hb.b f2
    have HC := hid (fun x (hx : GB w x) => IH.out _ _ _ _ _ hd k2 S S' n1 n2 ws1 ws2 a1 a2 c1 c2 cap1 cap2 cp1 cp2 x (hv1.below hx.b) (hv2.below hx.b) (hi1.below hx.b) (hi2.below hx.b))
    have hstep := V.cmp_step hd hd'
    obtain ⟨r, hr⟩ : ∃ r, r = or3 (cmpI n1 n2) (k1.cmp k2) (cmpL ws1 ws2) := ⟨_, rfl⟩
    simp only [← hr] at HC hstep
    rw [← hd1, ← hd1'] at hstep
    have HS := hid hstep
    have hbd : GB w wr.drew := hb.drew
    clear hr hd hd1 hd' hd1' hstep
    go_wp2_with fail
    go_region_held3 (fun x : World => x.cell? ⟨b, o + j * 3, none⟩ = some (.int .i64 n1) ∧ x.cell? ⟨b, o + j * 3 + 1, none⟩ = some (.slice a1 k1.len cap1) ∧ x.cell? ⟨b, o + j * 3 + 2, none⟩ = some (.slice c1 ws1.length cp1) ∧ x.cell? ⟨b', o' + j * 3, none⟩ = some (.int .i64 n2) ∧ x.cell? ⟨b', o' + j * 3 + 1, none⟩ = some (.slice a2 k2.len cap2) ∧ x.cell? ⟨b', o' + j * 3 + 2, none⟩ = some (.slice c2 ws2.length cp2)) (first | exact ⟨d0, d1, d2, f0, f1, f2⟩) (first | (go_at_call 83; refine (HC.out _ hbd).mono ?_; rintro e wx ⟨rfl, hbx⟩; have hbz := hbd.trans hbx; have d0 := cell_below hbx.b d0; have d1 := cell_below hbx.b d1; have d2 := cell_below hbx.b d2; have f0 := cell_below hbx.b f0; have f1 := cell_below hbx.b f1; have f2 := cell_below hbx.b f2))
    cases hz : decide (r = 0)
    ·have hz' : (r != 0) = true := by simpa using hz
     have hz2 : r ≠ 0 := by simpa using hz
     have HF := hid (show t.cmp u = r by rw [← HQ.out, HS.out, if_pos hz2])
     clear hz hz2
     go_wp2_with fail
     go_ret
     exact ⟨by rw [HF.out]; rfl, hbz⟩
    ·have hz0 : r = 0 := by simpa using hz
     have hz' : (r != 0) = false := by simp [hz0]
     have HF := hid (show (t.drop (j + 1)).cmp (u.drop (j + 1)) = t.cmp u by rw [← HQ.out, HS.out, hz0]; simp)
     clear hz hz0
     go_wp2_with fail
     go_roundw
     case rel => exact ⟨j + 1, by omega, by go_num, HF.out, hbz⟩
     case measure => simp [intOf]; omega
   ·have hno : j = t.len := by omega
    have HE := hid (show t.cmp u = cmpI t.len u.len by rw [← HQ.out]; exact V.cmp_end j (by omega) (by omega))
    clear hno
    go_wp2_with fail
    refine (cmpI_any _ _ _).mono ?_
    rintro e w' ⟨rfl, rfl⟩
    go_wp2_with fail
    go_ret
    exact ⟨by rw [HE.out]; rfl, hb⟩
 ·have hle2 : u.len ≤ t.len := by omega
  go_enter Tryz.func119, Tryz.ntmps119
  go_wp2_with fail
  go_loopw [7, 8, 14] (fun _ _ i wr => ∃ j : Nat, j ≤ u.len ∧ i = .int .i64 j ∧ (t.drop j).cmp (u.drop j) = t.cmp u ∧ GB w wr) (fun _ _ i _ => u.len - (intOf i).toNat)
  case atStart => exact ⟨0, Nat.zero_le _, rfl, by simp, GB.refl _⟩
  case round =>
   obtain ⟨j, hj, rfl, hq, hb⟩ := hrel
   have HQ := hid hq
   clear hq
   by_cases hlt : j < u.len
   ·have hjt : j < t.len := by omega
    have hju : j < u.len := by omega
    obtain ⟨b, o, rfl, hat⟩ := hs.addr hjt
    obtain ⟨n1, k1, ws1, r1, hd, hd1⟩ := V.drop_lt hjt
    obtain ⟨d0, ⟨a1, cap1, d1, hv1⟩, ⟨c1, cp1, d2, hi1⟩⟩ := hat.get hd
    obtain ⟨b', o', rfl, hat'⟩ := hu.addr hju
    obtain ⟨n2, k2, ws2, r2, hd', hd1'⟩ := V.drop_lt hju
    obtain ⟨f0, ⟨a2, cap2, f1, hv2⟩, ⟨c2, cp2, f2, hi2⟩⟩ := hat'.get hd'
    replace d0 := cell_below hb.b d0
    replace d1 := cell_below hb.b d1
    replace d2 := cell_below hb.b d2
    replace f0 := cell_below hb.b f0
    replace f1 := cell_below hb.b f1
    replace f2 := cell_below hb.b f2
    have HC := hid (fun x (hx : GB w x) => IH.out _ _ _ _ _ hd k2 S S' n1 n2 ws1 ws2 a1 a2 c1 c2 cap1 cap2 cp1 cp2 x (hv1.below hx.b) (hv2.below hx.b) (hi1.below hx.b) (hi2.below hx.b))
    have hstep := V.cmp_step hd hd'
    obtain ⟨r, hr⟩ : ∃ r, r = or3 (cmpI n1 n2) (k1.cmp k2) (cmpL ws1 ws2) := ⟨_, rfl⟩
    simp only [← hr] at HC hstep
    rw [← hd1, ← hd1'] at hstep
    have HS := hid hstep
    have hbd : GB w wr.drew := hb.drew
    clear hr hd hd1 hd' hd1' hstep
    go_wp2_with fail
    go_region_held3 (fun x : World => x.cell? ⟨b, o + j * 3, none⟩ = some (.int .i64 n1) ∧ x.cell? ⟨b, o + j * 3 + 1, none⟩ = some (.slice a1 k1.len cap1) ∧ x.cell? ⟨b, o + j * 3 + 2, none⟩ = some (.slice c1 ws1.length cp1) ∧ x.cell? ⟨b', o' + j * 3, none⟩ = some (.int .i64 n2) ∧ x.cell? ⟨b', o' + j * 3 + 1, none⟩ = some (.slice a2 k2.len cap2) ∧ x.cell? ⟨b', o' + j * 3 + 2, none⟩ = some (.slice c2 ws2.length cp2)) (first | exact ⟨d0, d1, d2, f0, f1, f2⟩) (first | (go_at_call 83; refine (HC.out _ hbd).mono ?_; rintro e wx ⟨rfl, hbx⟩; have hbz := hbd.trans hbx; have d0 := cell_below hbx.b d0; have d1 := cell_below hbx.b d1; have d2 := cell_below hbx.b d2; have f0 := cell_below hbx.b f0; have f1 := cell_below hbx.b f1; have f2 := cell_below hbx.b f2))
    cases hz : decide (r = 0)
    ·have hz' : (r != 0) = true := by simpa using hz
     have hz2 : r ≠ 0 := by simpa using hz
     have HF := hid (show t.cmp u = r by rw [← HQ.out, HS.out, if_pos hz2])
     clear hz hz2
     go_wp2_with fail
     go_ret
     exact ⟨by rw [HF.out]; rfl, hbz⟩
    ·have hz0 : r = 0 := by simpa using hz
     have hz' : (r != 0) = false := by simp [hz0]
     have HF := hid (show (t.drop (j + 1)).cmp (u.drop (j + 1)) = t.cmp u by rw [← HQ.out, HS.out, hz0]; simp)
     clear hz hz0
     go_wp2_with fail
     go_roundw
     case rel => exact ⟨j + 1, by omega, by go_num, HF.out, hbz⟩
     case measure => simp [intOf]; omega
   ·have hno : j = u.len := by omega
    have HE := hid (show t.cmp u = cmpI t.len u.len by rw [← HQ.out]; exact V.cmp_end j (by omega) (by omega))
    clear hno
    go_wp2_with fail
    refine (cmpI_any _ _ _).mono ?_
    rintro e w' ⟨rfl, rfl⟩
    go_wp2_with fail
    go_ret
    exact ⟨by rw [HE.out]; rfl, hb⟩
theorem gcmpInts_any (t u : List Int) (S S' : Nat → Prop) (a a' : Option Addr) (cap cap' : Nat) (w : World) (hs : Ints S w a t) (hu : Ints S' w a' u) :
    Calls Tryz.prog 120 #[.slice a t.length cap, .slice a' u.length cap', .func (.func 79) #[] #[]] w fun e w' => e = .returned (.int .i64 (cmpL t u)) ∧ GB w w' := by
 have hlen := hs.1
 have hlenu := hu.1
 by_cases hle : t.length ≤ u.length
 ·go_enter Tryz.func120, Tryz.ntmps120
  go_wp2_with fail
  go_loopw [7, 8, 14] (fun _ _ i wr => ∃ j : Nat, j ≤ t.length ∧ i = .int .i64 j ∧ cmpL (t.drop j) (u.drop j) = cmpL t u ∧ GB w wr) (fun _ _ i _ => t.length - (intOf i).toNat)
  case atStart => exact ⟨0, Nat.zero_le _, rfl, by simp, GB.refl _⟩
  case round =>
   obtain ⟨j, hj, rfl, hq, hb⟩ := hrel
   have HQ := hid hq
   clear hq
   by_cases hlt : j < t.length
   ·have hjt : j < t.length := by omega
    have hju : j < u.length := by omega
    obtain ⟨b, o, rfl, d0⟩ := hs.get hjt
    obtain ⟨b', o', rfl, f0⟩ := hu.get hju
    replace d0 := cell_below hb.b d0
    replace f0 := cell_below hb.b f0
    have hstep := cmpL_step hjt hju
    obtain ⟨x, hx⟩ : ∃ x, x = t[j] := ⟨_, rfl⟩
    obtain ⟨y, hy⟩ : ∃ y, y = u[j] := ⟨_, rfl⟩
    rw [← hx] at hstep d0
    rw [← hy] at hstep f0
    obtain ⟨r, hr⟩ : ∃ r, r = cmpI x y := ⟨_, rfl⟩
    have HC := hid (fun v => cmpI_any x y v)
    simp only [← hr] at HC hstep
    have HS := hid hstep
    have hbd : GB w wr.drew := hb.drew
    clear hr hstep hx hy
    go_wp2_with fail
    go_region_held3 (fun v : World => v.cell? ⟨b, o + j, none⟩ = some (.int .i64 x) ∧ v.cell? ⟨b', o' + j, none⟩ = some (.int .i64 y)) (first | exact ⟨d0, f0⟩) (first | (go_at_call 79; refine (HC.out _).mono ?_; rintro e wx ⟨rfl, rfl⟩))
    cases hz : decide (r = 0)
    ·have hz' : (r != 0) = true := by simpa using hz
     have hz2 : r ≠ 0 := by simpa using hz
     have HF := hid (show cmpL t u = r by rw [← HQ.out, HS.out, if_pos hz2])
     clear hz hz2
     go_wp2_with fail
     go_ret
     exact ⟨by rw [HF.out]; rfl, hbd⟩
    ·have hz0 : r = 0 := by simpa using hz
     have hz' : (r != 0) = false := by simp [hz0]
     have HF := hid (show cmpL (t.drop (j + 1)) (u.drop (j + 1)) = cmpL t u by rw [← HQ.out, HS.out, hz0]; simp)
     clear hz hz0
     go_wp2_with fail
     go_roundw
     case rel => exact ⟨j + 1, by omega, by go_num, HF.out, hbd⟩
     case measure => simp [intOf]; omega
   ·have hno : j = t.length := by omega
    have HE := hid (show cmpL t u = cmpI t.length u.length by rw [← HQ.out]; exact cmpL_end j (by omega) (by omega))
    clear hno
    go_wp2_with fail
    refine (cmpI_any _ _ _).mono ?_
    rintro e w' ⟨rfl, rfl⟩
    go_wp2_with fail
    go_ret
    exact ⟨by rw [HE.out]; rfl, hb⟩
 ·have hle2 : u.length ≤ t.length := by omega
  go_enter Tryz.func120, Tryz.ntmps120
  go_wp2_with fail
  go_loopw [7, 8, 14] (fun _ _ i wr => ∃ j : Nat, j ≤ u.length ∧ i = .int .i64 j ∧ cmpL (t.drop j) (u.drop j) = cmpL t u ∧ GB w wr) (fun _ _ i _ => u.length - (intOf i).toNat)
  case atStart => exact ⟨0, Nat.zero_le _, rfl, by simp, GB.refl _⟩
  case round =>
   obtain ⟨j, hj, rfl, hq, hb⟩ := hrel
   have HQ := hid hq
   clear hq
   by_cases hlt : j < u.length
   ·have hjt : j < t.length := by omega
    have hju : j < u.length := by omega
    obtain ⟨b, o, rfl, d0⟩ := hs.get hjt
    obtain ⟨b', o', rfl, f0⟩ := hu.get hju
    replace d0 := cell_below hb.b d0
    replace f0 := cell_below hb.b f0
    have hstep := cmpL_step hjt hju
    obtain ⟨x, hx⟩ : ∃ x, x = t[j] := ⟨_, rfl⟩
    obtain ⟨y, hy⟩ : ∃ y, y = u[j] := ⟨_, rfl⟩
    rw [← hx] at hstep d0
    rw [← hy] at hstep f0
    obtain ⟨r, hr⟩ : ∃ r, r = cmpI x y := ⟨_, rfl⟩
    have HC := hid (fun v => cmpI_any x y v)
    simp only [← hr] at HC hstep
    have HS := hid hstep
    have hbd : GB w wr.drew := hb.drew
    clear hr hstep hx hy
    go_wp2_with fail
    go_region_held3 (fun v : World => v.cell? ⟨b, o + j, none⟩ = some (.int .i64 x) ∧ v.cell? ⟨b', o' + j, none⟩ = some (.int .i64 y)) (first | exact ⟨d0, f0⟩) (first | (go_at_call 79; refine (HC.out _).mono ?_; rintro e wx ⟨rfl, rfl⟩))
    cases hz : decide (r = 0)
    ·have hz' : (r != 0) = true := by simpa using hz
     have hz2 : r ≠ 0 := by simpa using hz
     have HF := hid (show cmpL t u = r by rw [← HQ.out, HS.out, if_pos hz2])
     clear hz hz2
     go_wp2_with fail
     go_ret
     exact ⟨by rw [HF.out]; rfl, hbd⟩
    ·have hz0 : r = 0 := by simpa using hz
     have hz' : (r != 0) = false := by simp [hz0]
     have HF := hid (show cmpL (t.drop (j + 1)) (u.drop (j + 1)) = cmpL t u by rw [← HQ.out, HS.out, hz0]; simp)
     clear hz hz0
     go_wp2_with fail
     go_roundw
     case rel => exact ⟨j + 1, by omega, by go_num, HF.out, hbd⟩
     case measure => simp [intOf]; omega
   ·have hno : j = u.length := by omega
    have HE := hid (show cmpL t u = cmpI t.length u.length by rw [← HQ.out]; exact cmpL_end j (by omega) (by omega))
    clear hno
    go_wp2_with fail
    refine (cmpI_any _ _ _).mono ?_
    rintro e w' ⟨rfl, rfl⟩
    go_wp2_with fail
    go_ret
    exact ⟨by rw [HE.out]; rfl, hb⟩
theorem gcmp_any : ∀ t : V, GCmpOk t := by
 refine V.ind ?_
 intro t ih u S S' n n' ws ws' a a' c c' cap cap' cp cp' w hs hu hi hi'
 obtain ⟨W, hW⟩ : ∃ W : World, W = (w.alloc (Obj.cells #[.int .i64 n, Value.slice a t.len cap, Value.slice c ws.length cp] 58)).alloc (Obj.cells #[.int .i64 n', Value.slice a' u.len cap', Value.slice c' ws'.length cp'] 58) := ⟨_, rfl⟩
 have hWb : GB w W := by rw [hW]; exact ((GB.refl _).alloc _).alloc _
 have c0 : W.cell? ⟨w.heap.size, 0, none⟩ = some (.int .i64 n) := by rw [hW]; simp
 have c1 : W.cell? ⟨w.heap.size, 1, none⟩ = some (.slice a t.len cap) := by rw [hW]; simp
 have c2 : W.cell? ⟨w.heap.size, 2, none⟩ = some (.slice c ws.length cp) := by rw [hW]; simp
 have e0 : W.cell? ⟨w.heap.size + 1, 0, none⟩ = some (.int .i64 n') := by rw [hW]; simp
 have e1 : W.cell? ⟨w.heap.size + 1, 1, none⟩ = some (.slice a' u.len cap') := by rw [hW]; simp
 have e2 : W.cell? ⟨w.heap.size + 1, 2, none⟩ = some (.slice c' ws'.length cp') := by rw [hW]; simp
 have HL := hid (fun x (hx : GB W x) => gcmpLists_any t ih u S S' a a' cap cap' x ((hs.below hWb.b).below hx.b) ((hu.below hWb.b).below hx.b))
 have HI := hid (fun x (hx : GB W x) => gcmpInts_any ws ws' S S' c c' cp cp' x ((hi.below hWb.b).below hx.b) ((hi'.below hWb.b).below hx.b))
 have HN := hid (fun x => cmpI_any n n' x)
 have HX := hid (fun x (hx : GB W x) => And.intro (cell_below hx.b c0) (And.intro (cell_below hx.b c1) (And.intro (cell_below hx.b c2) (And.intro (cell_below hx.b e0) (And.intro (cell_below hx.b e1) (cell_below hx.b e2))))))
 obtain ⟨r1, hr1⟩ : ∃ r, r = cmpI n n' := ⟨_, rfl⟩
 obtain ⟨r2, hr2⟩ : ∃ r, r = t.cmp u := ⟨_, rfl⟩
 obtain ⟨r3, hr3⟩ : ∃ r, r = cmpL ws ws' := ⟨_, rfl⟩
 simp only [← hr1, ← hr2, ← hr3] at HL HI HN ⊢
 clear hr1 hr2 hr3 ih hs hu hi hi'
 go_enter Tryz.func83, Tryz.ntmps83
 go_wp2_with fail
 rw [← hW]
 clear hW
 have hbx : GB W W.drew := (GB.refl _).drew
 go_region_held3 (fun x : World => x.cell? ⟨w.heap.size, 0, none⟩ = some (.int .i64 n) ∧ x.cell? ⟨w.heap.size, 1, none⟩ = some (.slice a t.len cap) ∧ x.cell? ⟨w.heap.size, 2, none⟩ = some (.slice c ws.length cp) ∧ x.cell? ⟨w.heap.size + 1, 0, none⟩ = some (.int .i64 n') ∧ x.cell? ⟨w.heap.size + 1, 1, none⟩ = some (.slice a' u.len cap') ∧ x.cell? ⟨w.heap.size + 1, 2, none⟩ = some (.slice c' ws'.length cp')) (first | (with_reducible exact ⟨c0, c1, c2, e0, e1, e2⟩) | (with_reducible exact ⟨alloc_cell c0, alloc_cell c1, alloc_cell c2, alloc_cell e0, alloc_cell e1, alloc_cell e2⟩) | exact ⟨c0, c1, c2, e0, e1, e2⟩) (first | (go_at_call 78; refine (or3_any r1 r2 r3 _ 0 _ _ (by simp) (by simp) (by simp)).mono ?_; rintro e wy ⟨rfl, rfl⟩) | (go_at_call 79; refine (HN.out _).mono ?_; rintro e wx ⟨rfl, rfl⟩) | (go_at_call 119; refine (HL.out _ hbx).mono ?_; rintro e wx ⟨rfl, hby⟩; have hbx := hbx.trans hby; obtain ⟨c0, c1, c2, e0, e1, e2⟩ := HX.out _ hbx) | (go_at_call 120; refine (HI.out _ hbx).mono ?_; rintro e wx ⟨rfl, hby⟩; have hbx := hbx.trans hby; obtain ⟨c0, c1, c2, e0, e1, e2⟩ := HX.out _ hbx))
 all_goals
  go_wp2_with fail
  go_ret
  exact ⟨rfl, hWb.trans (hbx.alloc _)⟩
end Go.Proofs.YtcekilcgpgjooaaGreatDoor
