/- Proved here: contracts of the walk to BisimGraphs: the law's few and fault; each under the conditions that its own statement names. -/
import Derived.Test.YtcekilcgpgjooaaGreatDoorG21
import Derived.Test.YtcekilcgpgjooaaGreatDoorG36
set_option maxRecDepth 100000
set_option maxHeartbeats 6400000
namespace Go.Proofs.YtcekilcgpgjooaaGreatDoor
open Go Go.RowKit
open Go.Lib (hid)
theorem cells8 {u : World} {b : Nat} {x0 x1 x2 x3 x4 x5 x6 x7 : Value} {t : TypeId} {fz : Nat × Nat} (h : u.heap[b]? = some (.cells #[x0, x1, x2, x3, x4, x5, x6, x7] t fz)) :
    (u.cell? ⟨b, 0, none⟩ = some x0 ∧ u.cell? ⟨b, 1, none⟩ = some x1 ∧ u.cell? ⟨b, 2, none⟩ = some x2 ∧ u.cell? ⟨b, 3, none⟩ = some x3) ∧ u.cell? ⟨b, 4, none⟩ = some x4 ∧ u.cell? ⟨b, 5, none⟩ = some x5 ∧ u.cell? ⟨b, 6, none⟩ = some x6 ∧ u.cell? ⟨b, 7, none⟩ = some x7 := by
 simp [World.cell?, h]
theorem few2_any (S S2 : Nat → Nat → Prop) (S' S2' : Nat → Prop) (f g : F) (a na a2 na2 : Option Addr) (cap ncap cap2 ncap2 b : Nat) (ty : TypeId) (t u : V) (w : World) (hs : Sl S w a f.t) (hv : Vl S' w na t) (hs2 : Sl S2 w a2 g.t) (hv2 : Vl S2' w na2 u)
    (hk : w.heap[b]? = some (.cells #[.int .i64 f.k, .int .i64 f.n, .slice a f.t.len cap, .slice na t.len ncap, .int .i64 g.k, .int .i64 g.n, .slice a2 g.t.len cap2, .slice na2 u.len ncap2] ty (0, 0))) :
    Calls Tryz.prog 5 #[.slice (some ⟨b, 0, none⟩) 2 2] w fun e w' => e = .returned (.bool ((sFew f t 200 && decide (t.len ≤ 8)) && (sFew g u 200 && decide (u.len ≤ 8)))) ∧ Below w.heap.size w w' := by
 have HS := hid hs
 have HV := hid hv
 have HS2 := hid hs2
 have HV2 := hid hv2
 have HK := hid hk
 obtain ⟨r1, hr1⟩ : ∃ r1 : Bool, r1 = (sFew f t 200 && decide (t.len ≤ 8)) := ⟨_, rfl⟩
 obtain ⟨r2, hr2⟩ : ∃ r2 : Bool, r2 = (sFew g u 200 && decide (u.len ≤ 8)) := ⟨_, rfl⟩
 rw [← hr1, ← hr2]
 have HR1 := hid hr1
 have HR2 := hid hr2
 have hlen := hv.1
 have hlen2 := hv2.1
 clear hs hv hs2 hv2 hk hr1 hr2
 go_enter Tryz.func5, Tryz.ntmps5
 go_wp2_with fail
 go_loopw [7] (fun i wr => ∃ k : Nat, k ≤ 2 ∧ i = .int .i64 k ∧ (1 ≤ k → r1 = true) ∧ (2 ≤ k → r2 = true) ∧ Below w.heap.size w wr) (fun i _ => 2 - (intOf i).toNat)
 case atStart => exact ⟨0, Nat.zero_le _, rfl, (by intro h; omega), (by intro h; omega), Below.refl _ _⟩
 case round =>
  obtain ⟨k, hk, rfl, hrt1, hrt2, hb⟩ := hrel
  have HB := hid hb
  by_cases hk1 : k < 2
  rotate_left
  ·have HRT := hid (And.intro (hrt1 (by omega)) (hrt2 (by omega)))
   clear hrt1 hrt2 hb
   obtain rfl : k = 2 := by omega
   clear hk1 hk
   go_wp2_with fail
   go_ret
   exact ⟨by rw [HRT.out.1, HRT.out.2]; rfl, HB.out⟩
  rcases Nat.eq_zero_or_pos k with h0 | h0
  ·obtain rfl : k = 0 := by omega
   clear h0
   clear hrt1 hrt2 hk1 hk
   obtain ⟨⟨c0, c1, c2, c3⟩, c4, c5, c6, c7⟩ := cells8 (show wr.heap[b]? = _ by rw [hb.block b (heap_lt HK.out)]; exact HK.out)
   obtain ⟨W, hW⟩ : ∃ W : World, W = wr.alloc (Obj.cells #[.int .i64 f.k, .int .i64 f.n, .slice a f.t.len cap, .slice na t.len ncap] 27) := ⟨_, rfl⟩
   have hWb : Below wr.heap.size wr W := by rw [hW]; exact ba _ _
   have hWs : W.heap.size = wr.heap.size + 1 := by rw [hW]; simp
   obtain ⟨wb, hwb⟩ : ∃ wb, wb = wr.heap.size := ⟨_, rfl⟩
   have k0 : W.heap[wb]? = some (Obj.cells #[.int .i64 f.k, .int .i64 f.n, .slice a f.t.len cap, .slice na t.len ncap] 27 (0, 0)) := by rw [hW, hwb]; exact heap_new _ _
   obtain ⟨d0, d1, d2, d3⟩ := cells4 k0
   have HE := hid (fun x (hx : Below W.heap.size W x) => cells4 (show x.heap[wb]? = _ by rw [hx.block _ (by omega)]; exact k0))
   have HWB := hid (hb.trans (hWb.mono hb.size))
   have HFW := hid (sysfew_any S S' f a na cap ncap t 200 W ((HS.out.below hb).below hWb) ((HV.out.below hb).below hWb) (by omega) (by omega))
   clear hb hWb hWs k0
   go_wp2_with fail
   rw [← hW, ← hwb]
   clear hW hwb
   refine HFW.out.mono ?_
   rintro e x ⟨rfl, hx⟩
   have HBX := hid (HWB.out.trans (hx.mono HWB.out.size))
   clear c0 c1 c2 c3 c4 c5 c6 c7 d0 d1 d2 d3
   obtain ⟨d0, d1, d2, d3⟩ := HE.out _ hx
   obtain ⟨q0, hq0⟩ : ∃ q0 : Bool, q0 = sFew f t 200 := ⟨_, rfl⟩
   rw [← hq0] at HR1
   rw [← hq0]
   clear hq0 hx
   cases q0
   ·have HF := hid (show r1 = false by rw [HR1.out]; rfl)
    go_wp2_with fail
    go_ret
    exact ⟨by rw [HF.out]; rfl, HBX.out⟩
   by_cases h8 : t.len ≤ 8
   ·have HF := hid (show r1 = true by rw [HR1.out]; simp [h8])
    have h8' : ¬ (8 : Int) < (t.len : Int) := by omega
    have h8d : decide ((8 : Int) < (t.len : Int)) = false := decide_eq_false h8'
    clear h8
    go_wp2_with fail
    go_roundw
    case rel => exact ⟨1, by omega, by go_num, fun _ => HF.out, fun h => absurd h (by omega), HBX.out⟩
    case measure => simp [intOf]
   ·have HF := hid (show r1 = false by rw [HR1.out]; simp [h8])
    have h8' : (8 : Int) < (t.len : Int) := by omega
    have h8d : decide ((8 : Int) < (t.len : Int)) = true := decide_eq_true h8'
    clear h8
    go_wp2_with fail
    go_ret
    exact ⟨by rw [HF.out]; rfl, HBX.out⟩
  ·obtain rfl : k = 1 := by omega
   have HP1 := hid (hrt1 (Nat.le_refl _))
   clear hrt1 hrt2 hk1 hk h0
   obtain ⟨⟨c0, c1, c2, c3⟩, c4, c5, c6, c7⟩ := cells8 (show wr.heap[b]? = _ by rw [hb.block b (heap_lt HK.out)]; exact HK.out)
   obtain ⟨W, hW⟩ : ∃ W : World, W = wr.alloc (Obj.cells #[.int .i64 g.k, .int .i64 g.n, .slice a2 g.t.len cap2, .slice na2 u.len ncap2] 27) := ⟨_, rfl⟩
   have hWb : Below wr.heap.size wr W := by rw [hW]; exact ba _ _
   have hWs : W.heap.size = wr.heap.size + 1 := by rw [hW]; simp
   obtain ⟨wb, hwb⟩ : ∃ wb, wb = wr.heap.size := ⟨_, rfl⟩
   have k0 : W.heap[wb]? = some (Obj.cells #[.int .i64 g.k, .int .i64 g.n, .slice a2 g.t.len cap2, .slice na2 u.len ncap2] 27 (0, 0)) := by rw [hW, hwb]; exact heap_new _ _
   obtain ⟨d0, d1, d2, d3⟩ := cells4 k0
   have HE := hid (fun x (hx : Below W.heap.size W x) => cells4 (show x.heap[wb]? = _ by rw [hx.block _ (by omega)]; exact k0))
   have HWB := hid (hb.trans (hWb.mono hb.size))
   have HFW := hid (sysfew_any S2 S2' g a2 na2 cap2 ncap2 u 200 W ((HS2.out.below hb).below hWb) ((HV2.out.below hb).below hWb) (by omega) (by omega))
   clear hb hWb hWs k0
   go_wp2_with fail
   rw [← hW, ← hwb]
   clear hW hwb
   refine HFW.out.mono ?_
   rintro e x ⟨rfl, hx⟩
   have HBX := hid (HWB.out.trans (hx.mono HWB.out.size))
   clear c0 c1 c2 c3 c4 c5 c6 c7 d0 d1 d2 d3
   obtain ⟨d0, d1, d2, d3⟩ := HE.out _ hx
   obtain ⟨q0, hq0⟩ : ∃ q0 : Bool, q0 = sFew g u 200 := ⟨_, rfl⟩
   rw [← hq0] at HR2
   rw [← hq0]
   clear hq0 hx
   cases q0
   ·have HF := hid (show r2 = false by rw [HR2.out]; rfl)
    go_wp2_with fail
    go_ret
    exact ⟨by rw [HF.out]; cases r1 <;> rfl, HBX.out⟩
   by_cases h8 : u.len ≤ 8
   ·have HF := hid (show r2 = true by rw [HR2.out]; simp [h8])
    have h8' : ¬ (8 : Int) < (u.len : Int) := by omega
    have h8d : decide ((8 : Int) < (u.len : Int)) = false := decide_eq_false h8'
    clear h8
    go_wp2_with fail
    go_roundw
    case rel => exact ⟨2, by omega, by go_num, fun _ => HP1.out, fun _ => HF.out, HBX.out⟩
    case measure => simp [intOf]
   ·have HF := hid (show r2 = false by rw [HR2.out]; simp [h8])
    have h8' : (8 : Int) < (u.len : Int) := by omega
    have h8d : decide ((8 : Int) < (u.len : Int)) = true := decide_eq_true h8'
    clear h8
    go_wp2_with fail
    go_ret
    exact ⟨by rw [HF.out]; cases r1 <;> rfl, HBX.out⟩
theorem fault2_any (S S2 : Nat → Nat → Prop) (S' S2' S3 : Nat → Prop) (f g : F) (a na a2 na2 ar : Option Addr) (cap ncap cap2 ncap2 cr : Nat) (t u : V) (r : List (Int × Int)) (w : World) (hs : Sl S w a f.t) (hc : f.t.len ≤ cap) (hv : Vl S' w na t) (hs2 : Sl S2 w a2 g.t) (hc2 : g.t.len ≤ cap2) (hv2 : Vl S2' w na2 u) (hr : Prs S3 w ar r) :
    Calls Tryz.prog 6 #[.slice ar r.length cr, Sv f a cap na t.len ncap, Sv g a2 cap2 na2 u.len ncap2] w fun e w' => e = .returned (.int .i64 (relE' f t g u r)) ∧ Below w.heap.size w w' := by
 obtain ⟨W, hW⟩ : ∃ W : World, W = (w.alloc (Obj.cells #[.int .i64 f.k, .int .i64 f.n, .slice a f.t.len cap, .slice na t.len ncap] 27)).alloc (Obj.cells #[.int .i64 g.k, .int .i64 g.n, .slice a2 g.t.len cap2, .slice na2 u.len ncap2] 27) := ⟨_, rfl⟩
 have hWb : Below w.heap.size w W := by rw [hW]; exact ba2 _ _ _
 have hWs : W.heap.size = w.heap.size + 2 := by rw [hW]; simp
 have k0 : W.heap[w.heap.size]? = some (Obj.cells #[.int .i64 f.k, .int .i64 f.n, .slice a f.t.len cap, .slice na t.len ncap] 27 (0, 0)) := by rw [hW]; exact heap_old2 _ _ _
 have k1 : W.heap[w.heap.size + 1]? = some (Obj.cells #[.int .i64 g.k, .int .i64 g.n, .slice a2 g.t.len cap2, .slice na2 u.len ncap2] 27 (0, 0)) := by rw [hW]; exact heap_new2 _ _ _
 have HE := hid (fun x (hx : Below W.heap.size W x) => And.intro (cells4 (show x.heap[w.heap.size]? = _ by rw [hx.block _ (by omega)]; exact k0)) (cells4 (show x.heap[w.heap.size + 1]? = _ by rw [hx.block _ (by omega)]; exact k1)))
 have HIS := hid (fun x (hx : Below W.heap.size W x) => sysis_any merged_any S S' f a na cap ncap t x ((hs.below hWb).below hx) hc ((hv.below hWb).below hx))
 have HIS2 := hid (fun x (hx : Below W.heap.size W x) => sysis_any merged_any S2 S2' g a2 na2 cap2 ncap2 u x ((hs2.below hWb).below hx) hc2 ((hv2.below hWb).below hx))
 have HSM := hid (fun x (hx : Below W.heap.size W x) => show Calls Tryz.prog 21 #[.agg #[.int .i64 f.k, .int .i64 f.n, .slice a f.t.len cap], .agg #[.int .i64 g.k, .int .i64 g.n, .slice a2 g.t.len cap2]] x (fun e x' => e = .returned (.bool (decide (f.k = g.k ∧ f.n = g.n ∧ f.t = g.t))) ∧ Below x.heap.size x x') from (sameRef_any S S2 f.t g.t f.k f.n g.k g.n a a2 cap cap2 x ((hs.below hWb).below hx) ((hs2.below hWb).below hx)).mono (fun e w h => ⟨h.1.trans (by simp), h.2⟩))
 have HRL := hid (fun x (hx : Below W.heap.size W x) => relation_any S3 ar cr r t.len u.len x ((hr.below hWb).below hx))
 have HWB := hid hWb
 have hlen := hv.1
 have hlen2 := hv2.1
 have hlr := hr.1
 obtain ⟨E, hE⟩ : ∃ E, E = relE' f t g u r := ⟨_, rfl⟩
 rw [← hE]
 have HEE := hid hE
 obtain ⟨N, hN⟩ : ∃ N, N = r.length := ⟨_, rfl⟩
 rw [← hN] at HRL hlr ⊢
 clear hs hv hs2 hv2 hr k0 k1 hWs hWb hE hN
 obtain ⟨⟨c0, c1, c2, c3⟩, e0, e1, e2, e3⟩ := HE.out _ (Below.refl _ _)
 go_enter Tryz.func6, Tryz.ntmps6
 go_wp2_with fail
 rw [← hW]
 clear hW
 refine (HIS.out _ (Below.refl _ _)).mono ?_
 rintro e w1 ⟨rfl, hb1⟩
 have HB1 := hid hb1
 clear c0 c1 c2 c3 e0 e1 e2 e3
 obtain ⟨⟨c0, c1, c2, c3⟩, e0, e1, e2, e3⟩ := HE.out _ hb1
 clear hb1
 obtain ⟨q0, hq0⟩ : ∃ q0 : Bool, q0 = sysOk f t := ⟨_, rfl⟩
 have HQ0 := hid hq0
 rw [← hq0] at HIS
 rw [← hq0]
 clear hq0
 cases q0
 ·have HF := hid (show E = 30 by rw [HEE.out]; unfold relE' bothE; simp [← HQ0.out])
  go_wp2_with fail
  go_ret
  exact ⟨by rw [HF.out]; rfl, HWB.out.trans (HB1.out.mono HWB.out.size)⟩
 go_wp2_with fail
 refine (HIS2.out _ HB1.out).mono ?_
 rintro e w2 ⟨rfl, hb2⟩
 have HB2 := hid (HB1.out.trans (hb2.mono HB1.out.size))
 clear c0 c1 c2 c3 e0 e1 e2 e3 hb2
 obtain ⟨⟨c0, c1, c2, c3⟩, e0, e1, e2, e3⟩ := HE.out _ HB2.out
 obtain ⟨q2, hq2⟩ : ∃ q2 : Bool, q2 = sysOk g u := ⟨_, rfl⟩
 have HQ2 := hid hq2
 rw [← hq2]
 clear hq2
 cases q2
 ·have HF := hid (show E = 30 by rw [HEE.out]; unfold relE' bothE; simp [← HQ2.out])
  go_wp2_with fail
  go_ret
  exact ⟨by rw [HF.out]; rfl, HWB.out.trans (HB2.out.mono HWB.out.size)⟩
 go_wp2_with fail
 refine (HSM.out _ HB2.out).mono ?_
 rintro e w3 ⟨rfl, hb3⟩
 have HB3 := hid (HB2.out.trans (hb3.mono HB2.out.size))
 clear c0 c1 c2 c3 e0 e1 e2 e3 hb3
 obtain ⟨⟨c0, c1, c2, c3⟩, e0, e1, e2, e3⟩ := HE.out _ HB3.out
 obtain ⟨q3, hq3⟩ : ∃ q3 : Bool, q3 = decide (f.k = g.k ∧ f.n = g.n ∧ f.t = g.t) := ⟨_, rfl⟩
 have HQ3 := hid hq3
 rw [← hq3]
 clear hq3
 cases q3
 ·have HF := hid (show E = 1 by
   have h := HQ3.out.symm
   rw [decide_eq_false_iff_not] at h
   rw [HEE.out]; unfold relE' bothE; rw [← HQ0.out, ← HQ2.out]; simp [h])
  go_wp2_with fail
  go_ret
  exact ⟨by rw [HF.out]; rfl, HWB.out.trans (HB3.out.mono HWB.out.size)⟩
 have HBO := hid (show bothE f t g u = 0 by
  have h := HQ3.out.symm
  rw [decide_eq_true_eq] at h
  unfold bothE; rw [← HQ0.out, ← HQ2.out]; simp [h])
 go_wp2_with fail
 refine (HRL.out _ HB3.out).mono ?_
 rintro e w4 ⟨rfl, hb4⟩
 have HB4 := hid (HWB.out.trans ((HB3.out.trans (hb4.mono HB3.out.size)).mono HWB.out.size))
 clear c0 c1 c2 c3 e0 e1 e2 e3 hb4
 obtain ⟨q1, hq1⟩ : ∃ q1 : Bool, q1 = relFrom t.len u.len none r := ⟨_, rfl⟩
 have HQ1 := hid hq1
 rw [← hq1]
 clear hq1
 cases q1
 ·have HF := hid (show E = 1 by rw [HEE.out]; unfold relE'; rw [if_pos HBO.out, ← HQ1.out]; rfl)
  go_wp2_with fail
  go_ret
  exact ⟨by rw [HF.out]; rfl, HB4.out⟩
 ·have HF := hid (show E = 0 by rw [HEE.out]; unfold relE'; rw [if_pos HBO.out, ← HQ1.out]; rfl)
  go_wp2_with fail
  go_ret
  exact ⟨by rw [HF.out]; rfl, HB4.out⟩
end Go.Proofs.YtcekilcgpgjooaaGreatDoor
