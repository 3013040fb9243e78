/-
  Proved here: the law FunctorForms returns true at each two functors; the condition is that the table of the kinds lies as the program's text lays it.
-/
import Derived.Test.YtioimhnebjiicaaDoorSizC
import Derived.Test.YtioimhnebjiicaaDoorBackB
import Derived.Deep.RegionHeld3
namespace Go.Proofs.YtioimhnebjiicaaDoor
open Go.RowKit

/-- The two arguments of the law lie in their boxes. -/
structure Two (B : Nat) (k n k' n' : Int) (s s' : Value) (u : World) : Prop where
  a0 : u.cell? ⟨B, 0, none⟩ = some (.int .i64 k)
  a1 : u.cell? ⟨B, 1, none⟩ = some (.int .i64 n)
  a2 : u.cell? ⟨B, 2, none⟩ = some s
  b0 : u.cell? ⟨B + 1, 0, none⟩ = some (.int .i64 k')
  b1 : u.cell? ⟨B + 1, 1, none⟩ = some (.int .i64 n')
  b2 : u.cell? ⟨B + 1, 2, none⟩ = some s'

theorem Two.below {B : Nat} {k n k' n' : Int} {s s' : Value} {u u' : World} (h : Two B k n k' n' s s' u) (hb : Below u.heap.size u u') : Two B k n k' n' s s' u' :=
  ⟨cell_below hb h.a0, cell_below hb h.a1, cell_below hb h.a2, cell_below hb h.b0, cell_below hb h.b1, cell_below hb h.b2⟩

set_option maxRecDepth 100000 in
set_option maxHeartbeats 12800000 in
theorem forms_any (S S' : Nat → Nat → Prop) (t t' : T) (k n k' n' : Int) (a a' : Option Addr) (cap cap' : Nat) (w : World) (hs : Sl S w a t) (hs2 : Sl S' w a' t') (hk : Kinds w) :
    Calls Tryd.prog 3 #[.agg #[.int .i64 k, .int .i64 n, .slice a t.len cap], .agg #[.int .i64 k', .int .i64 n', .slice a' t'.len cap']] w fun e w' => e = .returned (.bool true) ∧ Below w.heap.size w w' := by
  obtain ⟨W, hW⟩ : ∃ W, W = (w.alloc (.cells #[.int .i64 k, .int .i64 n, .slice a t.len cap] 24)).alloc (.cells #[.int .i64 k', .int .i64 n', .slice a' t'.len cap'] 24) := ⟨_, rfl⟩
  have hb0 : Below w.heap.size w W := by rw [hW]; exact ((Below.refl _ _).alloc (Nat.le_refl _) _).alloc (by simp) _
  have hp0 : W.heap[w.heap.size]? = some (Obj.cells #[.int .i64 k, .int .i64 n, .slice a t.len cap] 24 (0, 0)) := by rw [hW]; exact heap_old2 _ _ _
  have hp1 : W.heap[w.heap.size + 1]? = some (Obj.cells #[.int .i64 k', .int .i64 n', .slice a' t'.len cap'] 24 (0, 0)) := by rw [hW]; exact heap_new2 _ _ _
  obtain ⟨c0, c1, c2⟩ := cells_of hp0
  obtain ⟨c3, c4, c5⟩ := cells_of hp1
  have h2 : Two w.heap.size k n k' n' (.slice a t.len cap) (.slice a' t'.len cap') W := ⟨c0, c1, c2, c3, c4, c5⟩
  have hsW := hs.below hb0
  have hsW2 := hs2.below hb0
  have hkW := hk.below hb0
  have H2 := Lib.hid (fun u (hu : Below W.heap.size W u) => h2.below hu)
  have HAW := Lib.hid (fun u (hu : Below W.heap.size W u) => awake_any u (hkW.below hu))
  have fin : ∀ u u', Below W.heap.size W u → Below u.heap.size u u' → Below w.heap.size w u' := fun u u' h1 h2 => hb0.trans ((h1.trans (h2.mono h1.size)).mono hb0.size)
  have FIN := Lib.hid fin
  clear hs hs2 hk fin hp0 hp1 h2
  cases hf : decide (1 + (t.nodes : Int) ≤ 2000)
  · have HF := Lib.hid (few_at S t k n a cap W false hsW hf)
    clear hf hsW hsW2 hkW H2 hb0
    go_enter Tryd.func3, Tryd.ntmps3
    go_wp2_with fail
    rw [← hW]
    clear hW
    refine HF.out.mono ?_
    rintro e w1 ⟨rfl, hb1⟩
    go_wp2_with fail
    refine (HAW.out w1 hb1).mono ?_
    rintro e w2 ⟨rfl, hb2⟩
    go_wp2_with fail
    go_ret
    exact ⟨rfl, FIN.out _ _ hb1 hb2⟩
  have HF := Lib.hid (few_at S t k n a cap W true hsW hf)
  have hn : t.nodes ≤ 100000 := by have := of_decide_eq_true hf; omega
  clear hf
  cases hf2 : decide (1 + (t'.nodes : Int) ≤ 2000)
  · have HF2 := Lib.hid (fun u (hu : Below W.heap.size W u) => few_at S' t' k' n' a' cap' u false (hsW2.below hu) hf2)
    clear hf2 hsW hsW2 hkW hb0 hn
    go_enter Tryd.func3, Tryd.ntmps3
    go_wp2_with fail
    rw [← hW]
    clear hW
    refine HF.out.mono ?_
    rintro e w1 ⟨rfl, hb1⟩
    obtain ⟨d0, d1, d2, d3, d4, d5⟩ := H2.out w1 hb1
    go_wp2_with fail
    refine (HF2.out w1 hb1).mono ?_
    rintro e w2 ⟨rfl, hb2⟩
    go_wp2_with fail
    refine (HAW.out w2 (hb1.trans (hb2.mono hb1.size))).mono ?_
    rintro e w3 ⟨rfl, hb3⟩
    go_wp2_with fail
    go_ret
    exact ⟨rfl, FIN.out _ _ (hb1.trans (hb2.mono hb1.size)) hb3⟩
  have HF2 := Lib.hid (fun u (hu : Below W.heap.size W u) => few_at S' t' k' n' a' cap' u true (hsW2.below hu) hf2)
  clear hf2
  have HSZ := Lib.hid (fun u (hu : Below W.heap.size W u) => size_any S t k n a cap u (hsW.below hu) hn)
  have HSR := Lib.hid (fun u (hu : Below W.heap.size W u) => sizeRef_any S t k n a cap u (hsW.below hu) hn)
  have HCP := Lib.hid (fun u (hu : Below W.heap.size W u) => copy_any S t k n a cap u (hsW.below hu) hn)
  obtain ⟨r, hr⟩ : ∃ r, r = decide (k = k' ∧ n = n' ∧ t = t') := ⟨_, rfl⟩
  have HSM := Lib.hid (fun u (hu : Below W.heap.size W u) => same_any t t' S S' k n k' n' a a' cap cap' u (hsW.below hu) (hsW2.below hu))
  have HSMR := Lib.hid (fun u (hu : Below W.heap.size W u) => sameRef_any S S' t t' k n k' n' a a' cap cap' u (hsW.below hu) (hsW2.below hu))
  have HSC := Lib.hid (fun u (S2 : Nat → Nat → Prop) (a2 : Option Addr) (cap2 : Nat) (hu : Below W.heap.size W u) (h : Sl S2 u a2 t) => same_any t t S S2 k n k n a a2 cap cap2 u (hsW.below hu) h)
  rw [← hr] at HSM HSMR
  have et : decide (k = k ∧ n = n ∧ t = t) = true := by simp
  rw [et] at HSC
  clear et hr
  have HCK := Lib.hid (fun u (hu : Below W.heap.size W u) => check_any S t k n a cap u (hsW.below hu) (hkW.below hu))
  have HFA := Lib.hid (fun u (hu : Below W.heap.size W u) => fault_any S t k n a cap u (hsW.below hu))
  have HPO := Lib.hid (fun u (hu : Below W.heap.size W u) => poly_any S t k n a cap u (hsW.below hu) (hkW.below hu))
  have HPL := Lib.hid (fun u (hu : Below W.heap.size W u) => plain_any S t k n a cap u (hsW.below hu) (hkW.below hu))
  have HPR := Lib.hid (fun u (hu : Below W.heap.size W u) => polyRef_any S t k n a cap u (hsW.below hu))
  have HLR := Lib.hid (fun u (hu : Below W.heap.size W u) => plainRef_any S t k n a cap u (hsW.below hu))
  obtain ⟨rp, hrp⟩ : ∃ r, r = (decide (k ∈ [5, 6, 7]) || t.hasAny [5, 6, 7]) := ⟨_, rfl⟩
  obtain ⟨rq, hrq⟩ : ∃ r, r = (decide (k ∈ [6, 7]) || t.hasAny [6, 7]) := ⟨_, rfl⟩
  cases hv : valid k n t
  · have e1 : faultOf k n t = 10 := by unfold faultOf; rw [hv]; rfl
    have e2 : lackB [5, 6, 7] k n t = false := by unfold lackB; rw [hv]; rfl
    have e3 : lackB [6, 7] k n t = false := by unfold lackB; rw [hv]; rfl
    rw [e1] at HCK HFA
    rw [e1, e2] at HPO
    rw [e1, e3] at HPL
    clear e1 e2 e3 hrp hrq hv hsW hsW2 hkW hb0 hn
    go_enter Tryd.func3, Tryd.ntmps3
    go_wp2_with fail
    rw [← hW]
    clear hW
    refine HF.out.mono ?_
    rintro e w1 ⟨rfl, hb1⟩
    obtain ⟨d0, d1, d2, d3, d4, d5⟩ := H2.out w1 hb1
    go_wp2_with fail
    refine (HF2.out w1 hb1).mono ?_
    rintro e w2 ⟨rfl, hb2⟩
    have hc2 := hb1.trans (hb2.mono hb1.size)
    clear d0 d1 d2 d3 d4 d5
    obtain ⟨d0, d1, d2, d3, d4, d5⟩ := H2.out w2 hc2
    go_wp2_with fail
    refine (HSZ.out w2 hc2).mono ?_
    rintro e w3 ⟨rfl, hb3⟩
    have hc3 := hc2.trans (hb3.mono hc2.size)
    clear d0 d1 d2 d3 d4 d5
    obtain ⟨d0, d1, d2, d3, d4, d5⟩ := H2.out w3 hc3
    go_wp2_with fail
    refine (HSR.out w3 hc3).mono ?_
    rintro e w4 ⟨rfl, hb4⟩
    have hc4 := hc3.trans (hb4.mono hc3.size)
    clear d0 d1 d2 d3 d4 d5
    obtain ⟨d0, d1, d2, d3, d4, d5⟩ := H2.out w4 hc4
    go_wp2_with fail
    refine (HPO.out w4 hc4).mono ?_
    rintro e w5 ⟨rfl, hb5⟩
    have hc5 := hc4.trans (hb5.mono hc4.size)
    clear d0 d1 d2 d3 d4 d5
    obtain ⟨d0, d1, d2, d3, d4, d5⟩ := H2.out w5 hc5
    go_wp2_with fail
    refine (HPL.out w5 hc5).mono ?_
    rintro e w6 ⟨rfl, hb6⟩
    have hc6 := hc5.trans (hb6.mono hc5.size)
    clear d0 d1 d2 d3 d4 d5
    obtain ⟨d0, d1, d2, d3, d4, d5⟩ := H2.out w6 hc6
    go_wp2_with fail
    refine (HFA.out w6 hc6).mono ?_
    rintro e w7 ⟨rfl, hb7⟩
    have hc7 := hc6.trans (hb7.mono hc6.size)
    clear d0 d1 d2 d3 d4 d5
    obtain ⟨d0, d1, d2, d3, d4, d5⟩ := H2.out w7 hc7
    go_wp2_with fail
    have hbx : Below W.heap.size W w7.drew := hc7.drew
    go_region_held3 (fun u : World => u.cell? ⟨w.heap.size, 0, none⟩ = some (.int .i64 k) ∧ u.cell? ⟨w.heap.size, 1, none⟩ = some (.int .i64 n) ∧ u.cell? ⟨w.heap.size, 2, none⟩ = some (.slice a t.len cap) ∧ u.cell? ⟨w.heap.size + 1, 0, none⟩ = some (.int .i64 k') ∧ u.cell? ⟨w.heap.size + 1, 1, none⟩ = some (.int .i64 n') ∧ u.cell? ⟨w.heap.size + 1, 2, none⟩ = some (.slice a' t'.len cap')) (first | exact ⟨d0, d1, d2, d3, d4, d5⟩) (first | (go_at_call 15; refine (HSC.out _ _ _ _ hbx hsl).mono ?_; rintro e wx ⟨rfl, hbz⟩; have hbx := hbx.trans (hbz.mono hbx.size); obtain ⟨d0, d1, d2, d3, d4, d5⟩ := H2.out _ hbx) | (go_at_call 14; refine (HCK.out _ hbx).mono ?_; rintro e wx ⟨rfl, hbz⟩; have hbx := hbx.trans (hbz.mono hbx.size); obtain ⟨d0, d1, d2, d3, d4, d5⟩ := H2.out _ hbx) | (go_at_call 15; refine (HSM.out _ hbx).mono ?_; rintro e wx ⟨rfl, hbz⟩; have hbx := hbx.trans (hbz.mono hbx.size); obtain ⟨d0, d1, d2, d3, d4, d5⟩ := H2.out _ hbx) | (go_at_call 16; refine (HSMR.out _ hbx).mono ?_; rintro e wx ⟨rfl, hbz⟩; have hbx := hbx.trans (hbz.mono hbx.size); obtain ⟨d0, d1, d2, d3, d4, d5⟩ := H2.out _ hbx) | (go_at_call 17; refine (HCP.out _ hbx).mono ?_; rintro e wx ⟨a2, cap2, rfl, hsl, hbz⟩; have hbx := hbx.trans (hbz.mono hbx.size); obtain ⟨d0, d1, d2, d3, d4, d5⟩ := H2.out _ hbx))
    go_wp2_with fail
    refine (HAW.out _ hbx).mono ?_
    rintro e wz ⟨rfl, hbz⟩
    go_wp2_with fail
    go_ret
    exact ⟨rfl, FIN.out _ _ hbx hbz⟩
  · have e1 : faultOf k n t = 0 := by unfold faultOf; rw [hv]; rfl
    have e2 : lackB [5, 6, 7] k n t = !rp := by unfold lackB; rw [hv, ← hrp]; rfl
    have e3 : lackB [6, 7] k n t = !rq := by unfold lackB; rw [hv, ← hrq]; rfl
    rw [e1] at HCK HFA
    rw [e1, e2] at HPO
    rw [e1, e3] at HPL
    rw [← hrp] at HPR
    rw [← hrq] at HLR
    clear e1 e2 e3 hrp hrq hv hsW hsW2 hkW hb0 hn
    go_enter Tryd.func3, Tryd.ntmps3
    go_wp2_with fail
    rw [← hW]
    clear hW
    refine HF.out.mono ?_
    rintro e w1 ⟨rfl, hb1⟩
    obtain ⟨d0, d1, d2, d3, d4, d5⟩ := H2.out w1 hb1
    go_wp2_with fail
    refine (HF2.out w1 hb1).mono ?_
    rintro e w2 ⟨rfl, hb2⟩
    have hc2 := hb1.trans (hb2.mono hb1.size)
    clear d0 d1 d2 d3 d4 d5
    obtain ⟨d0, d1, d2, d3, d4, d5⟩ := H2.out w2 hc2
    go_wp2_with fail
    refine (HSZ.out w2 hc2).mono ?_
    rintro e w3 ⟨rfl, hb3⟩
    have hc3 := hc2.trans (hb3.mono hc2.size)
    clear d0 d1 d2 d3 d4 d5
    obtain ⟨d0, d1, d2, d3, d4, d5⟩ := H2.out w3 hc3
    go_wp2_with fail
    refine (HSR.out w3 hc3).mono ?_
    rintro e w4 ⟨rfl, hb4⟩
    have hc4 := hc3.trans (hb4.mono hc3.size)
    clear d0 d1 d2 d3 d4 d5
    obtain ⟨d0, d1, d2, d3, d4, d5⟩ := H2.out w4 hc4
    go_wp2_with fail
    refine (HPO.out w4 hc4).mono ?_
    rintro e w5 ⟨rfl, hb5⟩
    have hc5 := hc4.trans (hb5.mono hc4.size)
    clear d0 d1 d2 d3 d4 d5
    obtain ⟨d0, d1, d2, d3, d4, d5⟩ := H2.out w5 hc5
    go_wp2_with fail
    refine (HPL.out w5 hc5).mono ?_
    rintro e w6 ⟨rfl, hb6⟩
    have hc6 := hc5.trans (hb6.mono hc5.size)
    clear d0 d1 d2 d3 d4 d5
    obtain ⟨d0, d1, d2, d3, d4, d5⟩ := H2.out w6 hc6
    go_wp2_with fail
    refine (HFA.out w6 hc6).mono ?_
    rintro e w7 ⟨rfl, hb7⟩
    have hc7 := hc6.trans (hb7.mono hc6.size)
    clear d0 d1 d2 d3 d4 d5
    obtain ⟨d0, d1, d2, d3, d4, d5⟩ := H2.out w7 hc7
    go_wp2_with fail
    have hbx : Below W.heap.size W w7.drew := hc7.drew
    go_region_held3 (fun u : World => u.cell? ⟨w.heap.size, 0, none⟩ = some (.int .i64 k) ∧ u.cell? ⟨w.heap.size, 1, none⟩ = some (.int .i64 n) ∧ u.cell? ⟨w.heap.size, 2, none⟩ = some (.slice a t.len cap) ∧ u.cell? ⟨w.heap.size + 1, 0, none⟩ = some (.int .i64 k') ∧ u.cell? ⟨w.heap.size + 1, 1, none⟩ = some (.int .i64 n') ∧ u.cell? ⟨w.heap.size + 1, 2, none⟩ = some (.slice a' t'.len cap')) (first | exact ⟨d0, d1, d2, d3, d4, d5⟩) (first | (go_at_call 15; refine (HSC.out _ _ _ _ hbx hsl).mono ?_; rintro e wx ⟨rfl, hbz⟩; have hbx := hbx.trans (hbz.mono hbx.size); obtain ⟨d0, d1, d2, d3, d4, d5⟩ := H2.out _ hbx) | (go_at_call 14; refine (HCK.out _ hbx).mono ?_; rintro e wx ⟨rfl, hbz⟩; have hbx := hbx.trans (hbz.mono hbx.size); obtain ⟨d0, d1, d2, d3, d4, d5⟩ := H2.out _ hbx) | (go_at_call 15; refine (HSM.out _ hbx).mono ?_; rintro e wx ⟨rfl, hbz⟩; have hbx := hbx.trans (hbz.mono hbx.size); obtain ⟨d0, d1, d2, d3, d4, d5⟩ := H2.out _ hbx) | (go_at_call 16; refine (HSMR.out _ hbx).mono ?_; rintro e wx ⟨rfl, hbz⟩; have hbx := hbx.trans (hbz.mono hbx.size); obtain ⟨d0, d1, d2, d3, d4, d5⟩ := H2.out _ hbx) | (go_at_call 17; refine (HCP.out _ hbx).mono ?_; rintro e wx ⟨a2, cap2, rfl, hsl, hbz⟩; have hbx := hbx.trans (hbz.mono hbx.size); obtain ⟨d0, d1, d2, d3, d4, d5⟩ := H2.out _ hbx))
    go_wp2_with fail
    refine (HPR.out _ hbx).mono ?_
    rintro e wy ⟨rfl, hby⟩
    have hbx := hbx.trans (hby.mono hbx.size)
    obtain ⟨d0, d1, d2, d3, d4, d5⟩ := H2.out _ hbx
    go_wp2_with fail
    refine (HLR.out _ hbx).mono ?_
    rintro e wy2 ⟨rfl, hby2⟩
    have hbx := hbx.trans (hby2.mono hbx.size)
    obtain ⟨d0, d1, d2, d3, d4, d5⟩ := H2.out _ hbx
    go_wp2_with fail
    refine (HAW.out _ hbx).mono ?_
    rintro e wz ⟨rfl, hbz⟩
    go_wp2_with fail
    go_ret
    exact ⟨rfl, FIN.out _ _ hbx hbz⟩
end Go.Proofs.YtioimhnebjiicaaDoor
