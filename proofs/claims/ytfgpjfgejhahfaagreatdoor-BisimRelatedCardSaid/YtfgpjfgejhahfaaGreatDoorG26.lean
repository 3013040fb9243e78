/-
  Proved here: contracts of the walk to BisimRelated: the law's few and fault; each under the conditions that its own statement names.
-/
import Derived.Test.YtfgpjfgejhahfaaGreatDoorG10
import Derived.Test.YtfgpjfgejhahfaaGreatDoorG11
import Derived.Test.YtfgpjfgejhahfaaGreatDoorG21
import Derived.Test.YtfgpjfgejhahfaaGreatDoorG23
import Derived.Test.YtfgpjfgejhahfaaGreatDoorG24
namespace Go.Proofs.YtfgpjfgejhahfaaGreatDoor
open Go Go.RowKit

set_option maxRecDepth 100000 in
set_option maxHeartbeats 3200000 in
theorem few1_any (S : Nat → Nat → Prop) (S' : Nat → Prop) (f : F) (a na : Option Addr) (cap ncap b : Nat) (ty : TypeId) (t : V) (w : World) (hs : Sl S w a f.t) (hv : Vl S' w na t) (hk : w.heap[b]? = some (.cells #[.int .i64 f.k, .int .i64 f.n, .slice a f.t.len cap, .slice na t.len ncap] ty (0, 0))) :
    Calls Tryz.prog 17 #[.slice (some ⟨b, 0, none⟩) 1 1] w fun e w' => e = .returned (.bool (sFew f t 200 && decide (t.len ≤ 8))) ∧ Below w.heap.size w w' := by
  have HS := Lib.hid hs
  have HV := Lib.hid hv
  have HK := Lib.hid hk
  obtain ⟨r, hr⟩ : ∃ r : Bool, r = (sFew f t 200 && decide (t.len ≤ 8)) := ⟨_, rfl⟩
  rw [← hr]
  have HR := Lib.hid hr
  have hlen := hv.1
  clear hs hv hk hr
  go_enter Tryz.func17, Tryz.ntmps17
  go_wp2_with fail
  go_loopw [7] (fun i wr => ∃ k : Nat, k ≤ 1 ∧ i = .int .i64 k ∧ (k = 1 → r = true) ∧ Below w.heap.size w wr) (fun i _ => 1 - (intOf i).toNat)
  case atStart => exact ⟨0, Nat.zero_le _, rfl, (by intro h; omega), Below.refl _ _⟩
  case round =>
    obtain ⟨k, hk, rfl, hrt, hb⟩ := hrel
    have HB := Lib.hid hb
    by_cases hk1 : k < 1
    rotate_left
    · have HRT := Lib.hid (hrt (by omega))
      clear hrt hb hk
      go_wp2_with fail
      go_ret
      exact ⟨by rw [HRT.out]; rfl, HB.out⟩
    obtain rfl : k = 0 := by omega
    clear hrt hk1 hk
    obtain ⟨c0, c1, c2, c3⟩ := cells4 (show wr.heap[b]? = _ by rw [hb.block b (heap_lt HK.out)]; exact HK.out)
    obtain ⟨W, hW⟩ : ∃ W : World, W = wr.alloc (Obj.cells #[.int .i64 f.k, .int .i64 f.n, .slice a f.t.len cap, .slice na t.len ncap] 42) := ⟨_, rfl⟩
    have hWb : Below wr.heap.size wr W := by rw [hW]; exact (Below.refl _ _).alloc (Nat.le_refl _) _
    have hWs : W.heap.size = wr.heap.size + 1 := by rw [hW]; simp
    obtain ⟨wb, hwb⟩ : ∃ wb, wb = wr.heap.size := ⟨_, rfl⟩
    have k0 : W.heap[wb]? = some (Obj.cells #[.int .i64 f.k, .int .i64 f.n, .slice a f.t.len cap, .slice na t.len ncap] 42 (0, 0)) := by rw [hW, hwb]; exact heap_new _ _
    obtain ⟨d0, d1, d2, d3⟩ := cells4 k0
    have HE := Lib.hid (fun x (hx : Below W.heap.size W x) => cells4 (show x.heap[wb]? = _ by rw [hx.block _ (by omega)]; exact k0))
    have HWB := Lib.hid (hb.trans (hWb.mono hb.size))
    have HFW := Lib.hid (sysfew_any S S' f a na cap ncap t 200 W ((HS.out.below hb).below hWb) ((HV.out.below hb).below hWb) (by omega) (by omega))
    clear hb hWb hWs k0
    go_wp2_with fail
    rw [← hW, ← hwb]
    clear hW hwb
    refine HFW.out.mono ?_
    rintro e x ⟨rfl, hx⟩
    have HBX := Lib.hid (HWB.out.trans (hx.mono HWB.out.size))
    clear c0 c1 c2 c3 d0 d1 d2 d3
    obtain ⟨d0, d1, d2, d3⟩ := HE.out _ hx
    obtain ⟨q0, hq0⟩ : ∃ q0 : Bool, q0 = sFew f t 200 := ⟨_, rfl⟩
    rw [← hq0] at HR
    rw [← hq0]
    clear hq0 hx
    cases q0
    · have HF := Lib.hid (show r = false by rw [HR.out]; rfl)
      go_wp2_with fail
      go_ret
      exact ⟨by rw [HF.out]; rfl, HBX.out⟩
    by_cases h8 : t.len ≤ 8
    · have HF := Lib.hid (show r = true by rw [HR.out]; simp [h8])
      have h8' : ¬ (8 : Int) < (t.len : Int) := by omega
      have h8d : decide ((8 : Int) < (t.len : Int)) = false := decide_eq_false h8'
      clear h8
      go_wp2_with fail
      go_roundw
      case rel => exact ⟨1, by omega, by go_num, fun _ => HF.out, HBX.out⟩
      case measure => simp [intOf]
    · have HF := Lib.hid (show r = false by rw [HR.out]; simp [h8])
      have h8' : (8 : Int) < (t.len : Int) := by omega
      have h8d : decide ((8 : Int) < (t.len : Int)) = true := decide_eq_true h8'
      clear h8
      go_wp2_with fail
      go_ret
      exact ⟨by rw [HF.out]; rfl, HBX.out⟩

/-- The error of a relation in a system. -/
theorem cloE_cases (f : F) (t : V) (r : List (Int × Int)) : cloE f t r = 30 ∨ cloE f t r = 1 ∨ cloE f t r = 0 := by
  unfold cloE
  split
  · split
    · exact Or.inr (Or.inr rfl)
    · exact Or.inr (Or.inl rfl)
  · exact Or.inl rfl
set_option maxRecDepth 100000 in
set_option maxHeartbeats 3200000 in
theorem fault_any (S : Nat → Nat → Prop) (S' S2 : Nat → Prop) (f : F) (a na ar : Option Addr) (cap ncap cr : Nat) (t : V) (r : List (Int × Int)) (w : World) (hs : Sl S w a f.t) (hc : f.t.len ≤ cap) (hv : Vl S' w na t) (hr : Prs S2 w ar r) :
    Calls Tryz.prog 22 #[.slice ar r.length cr, Sv f a cap na t.len ncap, Sv f a cap na t.len ncap] w fun e w' => e = .returned (.int .i64 (cloE f t r)) ∧ Below w.heap.size w w' := by
  obtain ⟨W, hW⟩ : ∃ W : World, W = (w.alloc (Obj.cells #[.int .i64 f.k, .int .i64 f.n, .slice a f.t.len cap, .slice na t.len ncap] 42)).alloc (Obj.cells #[.int .i64 f.k, .int .i64 f.n, .slice a f.t.len cap, .slice na t.len ncap] 42) := ⟨_, rfl⟩
  have hWb : Below w.heap.size w W := by rw [hW]; exact ((Below.refl _ _).alloc (Nat.le_refl _) _).alloc (by simp) _
  have hWs : W.heap.size = w.heap.size + 2 := by rw [hW]; simp
  have k0 : W.heap[w.heap.size]? = some (Obj.cells #[.int .i64 f.k, .int .i64 f.n, .slice a f.t.len cap, .slice na t.len ncap] 42 (0, 0)) := by rw [hW]; exact heap_old2 _ _ _
  have k1 : W.heap[w.heap.size + 1]? = some (Obj.cells #[.int .i64 f.k, .int .i64 f.n, .slice a f.t.len cap, .slice na t.len ncap] 42 (0, 0)) := by rw [hW]; exact heap_new2 _ _ _
  have HE := Lib.hid (fun x (hx : Below W.heap.size W x) => And.intro (cells4 (show x.heap[w.heap.size]? = _ by rw [hx.block _ (by omega)]; exact k0)) (cells4 (show x.heap[w.heap.size + 1]? = _ by rw [hx.block _ (by omega)]; exact k1)))
  have HIS := Lib.hid (fun x (hx : Below W.heap.size W x) => sysis_any merged_any S S' f a na cap ncap t x ((hs.below hWb).below hx) hc ((hv.below hWb).below hx))
  have HSM := Lib.hid (fun x (hx : Below W.heap.size W x) => show Calls Tryz.prog 68 #[.agg #[.int .i64 f.k, .int .i64 f.n, .slice a f.t.len cap], .agg #[.int .i64 f.k, .int .i64 f.n, .slice a f.t.len cap]] x (fun e x' => e = .returned (.bool true) ∧ Below x.heap.size x x') from (sameRef_any S S f.t f.t f.k f.n f.k f.n a a cap cap x ((hs.below hWb).below hx) ((hs.below hWb).below hx)).mono (fun e w h => ⟨h.1.trans (by simp), h.2⟩))
  have HRL := Lib.hid (fun x (hx : Below W.heap.size W x) => relation_any S2 ar cr r t.len t.len x ((hr.below hWb).below hx))
  have HWB := Lib.hid hWb
  have hlen := hv.1
  have hlr := hr.1
  obtain ⟨E, hE⟩ : ∃ E, E = cloE f t r := ⟨_, rfl⟩
  rw [← hE]
  have HEE := Lib.hid hE
  obtain ⟨N, hN⟩ : ∃ N, N = r.length := ⟨_, rfl⟩
  rw [← hN] at HRL hlr ⊢
  clear hs hv hr k0 k1 hWs hWb hE hN
  obtain ⟨⟨c0, c1, c2, c3⟩, e0, e1, e2, e3⟩ := HE.out _ (Below.refl _ _)
  go_enter Tryz.func22, Tryz.ntmps22
  go_wp2_with fail
  rw [← hW]
  clear hW
  refine (HIS.out _ (Below.refl _ _)).mono ?_
  rintro e w1 ⟨rfl, hb1⟩
  have HB1 := Lib.hid hb1
  clear c0 c1 c2 c3 e0 e1 e2 e3
  obtain ⟨⟨c0, c1, c2, c3⟩, e0, e1, e2, e3⟩ := HE.out _ hb1
  clear hb1
  obtain ⟨q0, hq0⟩ : ∃ q0 : Bool, q0 = sysOk f t := ⟨_, rfl⟩
  have HQ0 := Lib.hid hq0
  rw [← hq0] at HIS
  rw [← hq0]
  clear hq0
  cases q0
  · have HF := Lib.hid (show E = 30 by rw [HEE.out]; unfold cloE; rw [← HQ0.out]; rfl)
    go_wp2_with fail
    go_ret
    exact ⟨by rw [HF.out]; rfl, HWB.out.trans (HB1.out.mono HWB.out.size)⟩
  go_wp2_with fail
  refine (HIS.out _ HB1.out).mono ?_
  rintro e w2 ⟨rfl, hb2⟩
  have HB2 := Lib.hid (HB1.out.trans (hb2.mono HB1.out.size))
  clear c0 c1 c2 c3 e0 e1 e2 e3 hb2
  obtain ⟨⟨c0, c1, c2, c3⟩, e0, e1, e2, e3⟩ := HE.out _ HB2.out
  go_wp2_with fail
  refine (HSM.out _ HB2.out).mono ?_
  rintro e w3 ⟨rfl, hb3⟩
  have HB3 := Lib.hid (HB2.out.trans (hb3.mono HB2.out.size))
  clear c0 c1 c2 c3 e0 e1 e2 e3 hb3
  obtain ⟨⟨c0, c1, c2, c3⟩, e0, e1, e2, e3⟩ := HE.out _ HB3.out
  go_wp2_with fail
  refine (HRL.out _ HB3.out).mono ?_
  rintro e w4 ⟨rfl, hb4⟩
  have HB4 := Lib.hid (HWB.out.trans ((HB3.out.trans (hb4.mono HB3.out.size)).mono HWB.out.size))
  clear c0 c1 c2 c3 e0 e1 e2 e3 hb4
  obtain ⟨q1, hq1⟩ : ∃ q1 : Bool, q1 = relFrom t.len t.len none r := ⟨_, rfl⟩
  have HQ1 := Lib.hid hq1
  rw [← hq1]
  clear hq1
  cases q1
  · have HF := Lib.hid (show E = 1 by rw [HEE.out]; unfold cloE; rw [← HQ0.out, ← HQ1.out]; rfl)
    go_wp2_with fail
    go_ret
    exact ⟨by rw [HF.out]; rfl, HB4.out⟩
  · have HF := Lib.hid (show E = 0 by rw [HEE.out]; unfold cloE; rw [← HQ0.out, ← HQ1.out]; rfl)
    go_wp2_with fail
    go_ret
    exact ⟨by rw [HF.out]; rfl, HB4.out⟩
end Go.Proofs.YtfgpjfgejhahfaaGreatDoor
