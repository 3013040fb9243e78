/- Proved here: contracts of the walk to BisimGraphs: bisim.Related; each under the conditions that its own statement names. -/
import Derived.Test.YtcekilcgpgjooaaGreatDoorG33
set_option maxRecDepth 100000
set_option maxHeartbeats 6400000
namespace Go.Proofs.YtcekilcgpgjooaaGreatDoor
open Go Go.RowKit Go.Maps
open Go.Lib (hid)
def memN (r : List (Int × Int)) (k : Nat) : Int → Int → Bool := fun x y => decide ((x, y) ∈ r.take k)
theorem MapB.congr {w : World} {b n : Nat} {mem mem' : Int → Int → Bool} (h : MapB w b n mem) (e : ∀ x y, mem x y = mem' x y) : MapB w b n mem' := by
 obtain ⟨D, h1, h2, h3⟩ := h
 exact ⟨D, h1, h2, fun x y kl hkl => by rw [h3 x y kl hkl, e x y]⟩
def MemI (mb vb n B : Nat) (mem : Int → Int → Bool) (w : World) : Prop := MapB w mb n mem ∧ w.heap[vb]? = some (Obj.cells #[.map (some mb)] 73 (0, 0)) ∧ B ≤ w.heap.size
theorem mem_asks {mb vb N B n m : Nat} {mem : Int → Int → Bool} (hm : mb < B) (hv : vb < B) (hn : n ≤ 1000000) (hm' : m ≤ 1000000) :
    Asks B (fun _ => False) (MemI mb vb N B mem) n m (fun x y => mem x y) 102 #[.pointer (some ⟨vb, 0, none⟩)] := by
 refine ⟨enters_of Tryz.func102 (by kernel_rfl) rfl, fun k h => h.elim, fun w h => h.2.2, fun w w' h hb => ?_, fun a b w ha hb h => ?_⟩
 ·have h2 := hb.size
  have h3 := h.2.2
  exact ⟨h.1.same (hb.block _ hm), (hb.block _ hv).trans h.2.1, by omega⟩
 ·refine (member_call vb mb N mem a b w (by omega) (by omega) h.1 h.2.1).mono ?_
  rintro e w' ⟨rfl, rfl⟩
  exact ⟨rfl, h, Kept.refl _ _⟩
theorem member_any (S : Nat → Prop) (a : Option Addr) (cap : Nat) (r : List (Int × Int)) (w : World) (hr : Prs S w a r) (hN : r.length ≤ 1000000) (hwf : ∀ p ∈ r, 0 ≤ p.1 ∧ p.1 ≤ 1000000 ∧ 0 ≤ p.2 ∧ p.2 ≤ 1000000) :
    Calls Tryz.prog 57 #[.slice a r.length cap] w fun e w' => e = .returned (.func (.func 102) #[] #[.pointer (some ⟨w.heap.size + 1, 0, none⟩)]) ∧ Below w.heap.size w w' ∧ w.heap.size + 2 ≤ w'.heap.size ∧
     MemI w.heap.size (w.heap.size + 1) r.length w'.heap.size (fun x y => decide ((x, y) ∈ r)) w' := by
 obtain ⟨N, hNN⟩ : ∃ N, N = r.length := ⟨_, rfl⟩
 rw [← hNN] at hN
 rw [← hNN]
 have HN := hid hNN
 have HP := hid hr
 have HW := hid hwf
 obtain ⟨W, hW⟩ : ∃ W : World, W = (w.alloc (.map #[] 0)).alloc (Obj.cells #[.map (some w.heap.size)] 73) := ⟨_, rfl⟩
 have HWB := hid (show Below w.heap.size w W by rw [hW]; exact ba2 _ _ _)
 have HWM := hid (show MapB W w.heap.size 0 (fun _ _ => false) by rw [hW]; exact (MapB.made w).same (Below.heap_alloc _ _ _ (by simp)))
 have HWV := hid (show W.heap[w.heap.size + 1]? = some (Obj.cells #[.map (some w.heap.size)] 73 (0, 0)) by rw [hW]; exact heap_new2 _ _ _)
 obtain ⟨mb, hmb⟩ : ∃ mb, mb = w.heap.size := ⟨_, rfl⟩
 have HMB := hid hmb
 rw [← hmb] at HWM HWV
 have hmm := @run_makeMap Tryz.prog
 clear hNN hr hwf
 go_enter Tryz.func57, Tryz.ntmps57
 go_wp2_with fail
 rw [← hW, ← hmb]
 clear hW hmb hmm
 go_loopw [9] (fun i wr => ∃ k : Nat, k ≤ N ∧ i = .int .i64 k ∧ MapB wr mb k (memN r k) ∧ wr.heap[mb + 1]? = some (Obj.cells #[.map (some mb)] 73 (0, 0)) ∧ Below w.heap.size w wr) (fun i _ => N - (intOf i).toNat)
 case atStart => exact ⟨0, Nat.zero_le _, rfl, HWM.out.congr (fun x y => by simp [memN]), HWV.out, HWB.out⟩
 case round =>
  obtain ⟨k, hk, rfl, hmp, hvb, hb⟩ := hrel
  have HMP := hid hmp
  have HVB := hid hvb
  have HB := hid hb
  have hmlt := hmp.lt
  have hvlt := heap_lt hvb
  clear hmp
  by_cases hlt : k < N
  ·obtain ⟨p, hp⟩ : ∃ p, r[k]? = some p := ⟨r[k]'(by have := HN.out; omega), List.getElem?_eq_getElem _⟩
   obtain ⟨b, o, rfl, _, c0, c1⟩ := (HP.out.below hb).get hp
   have hpw := HW.out p (List.mem_of_getElem? hp)
   have HTK := hid (show ∀ x y, (decide (x = p.1 ∧ y = p.2) || memN r k x y) = memN r (k + 1) x y from fun x y => by
    unfold memN
    rw [List.take_add_one, hp]
    by_cases e : x = p.1 ∧ y = p.2
    ·simp [e]
    ·have e2 : ¬ (x, y) = p := fun h => e (by rw [← h]; exact ⟨rfl, rfl⟩)
     simp [e, e2])
   obtain ⟨p1, p2⟩ := p
   simp only at c0 c1 hpw
   obtain ⟨kl, hkl⟩ := keyP (x := p1) (y := p2) (WalkArith.wf_i64 (by omega)) (WalkArith.wf_i64 (by omega))
   have HKL := hid hkl
   obtain ⟨D, hown, hism, hD⟩ := HMP.out
   have HOW := hid hown
   have HIS := hid hism
   have HDD := hid hD
   have z0 := cell_of1 hvb
   have hvl2 : mb + 1 < wr.heap.size := hvlt
   clear hkl hown hism hD hb hvb hp
   go_wp2_with (at_mapUpdate; refine wpList_mapUpdate_own _ rfl _ _ _ 73 rfl 38 4 lawP Tryz.underlying73 (plainElem Tryz.prog 4) mb k D rfl (HOW.out.alloc _) (by unfold maxLen; omega) _ _ kl rfl rfl HKL.out (.lit (.bool true)) [] (plainElem_bool Tryz.underlying4 true) ?_)
   intro w1 hown1 hg1
   have HM1 := hid ((MapB.put HKL.out HIS.out HDD.out hown1).congr HTK.out)
   have HV1 := hid (show w1.heap[mb + 1]? = some (Obj.cells #[.map (some mb)] 73 (0, 0)) by
    rw [hg1.block (mb + 1) (by simp; omega) (by simp), Below.heap_alloc _ _ _ hvl2]; exact HVB.out)
   have HB1 := hid (show Below w.heap.size w w1 from (HB.out.alloc HB.out.size _).grown hg1 (by simp; have := HB.out.size; omega) (fun j hj => by cases hj; rw [HMB.out]; exact Nat.le_refl _))
   clear hown1 hg1
   go_wp2_with fail
   go_roundw
   case rel => exact ⟨k + 1, by omega, by go_num, HM1.out, HV1.out, HB1.out⟩
   case measure => simp [intOf]; omega
  ·have HF := hid (show MapB wr mb N (fun x y => decide ((x, y) ∈ r)) from by
    have e : k = N := by omega
    have h := HMP.out
    rw [e] at h
    exact h.congr (fun x y => by unfold memN; rw [List.take_of_length_le (by rw [HN.out]; exact Nat.le_refl _)]))
   go_wp2_with fail
   go_ret
   exact ⟨by rw [← HMB.out]; rfl, HB.out, by rw [← HMB.out]; omega, by rw [← HMB.out]; exact ⟨HF.out, HVB.out, Nat.le_refl _⟩⟩
end Go.Proofs.YtcekilcgpgjooaaGreatDoor
namespace Go.Proofs.YtcekilcgpgjooaaGreatDoor
open Go Go.RowKit
open Go.Lib (hid)
theorem ixErr0 (w : World) : (Instr.index 92 (.agg #[.int .i64 10, .int .i64 1, .int .i64 20]) (.int .i64 0)).run Tryz.prog w = .ok (.int .i64 10) w := by kernel_rfl
theorem ixErr1 (w : World) : (Instr.index 92 (.agg #[.int .i64 10, .int .i64 1, .int .i64 20]) (.int .i64 1)).run Tryz.prog w = .ok (.int .i64 1) w := by kernel_rfl
theorem ixErr2 (w : World) : (Instr.index 92 (.agg #[.int .i64 10, .int .i64 1, .int .i64 20]) (.int .i64 2)).run Tryz.prog w = .ok (.int .i64 20) w := by kernel_rfl
def relFault (e1 e2 : Int) : Int := if e1 = 10 ∨ e2 = 10 then 10 else if e1 = 1 ∨ e2 = 1 then 1 else if e1 = 20 ∨ e2 = 20 then 20 else 0
theorem top_fault (S : Nat → Nat → Prop) (S' : Nat → Prop) (f : F) (n n' p q : Int) (t t' : V) (ws ws' : List Int) (r : List (Int × Int)) (a a1 a2 c1 c2 ar : Option Addr) (cap cap1 cap2 cp1 cp2 cr : Nat) (w : World)
    (hk : Kinds w) (hs : Sl S w a f.t) (hv : Vl S' w a1 t) (hi : Ints S' w c1 ws) (hv' : Vl S' w a2 t') (hi' : Ints S' w c2 ws') (hr : Prs S' w ar r) (hbad : relFault (vFault f p n t ws) (vFault f q n' t' ws') ≠ 0 ∨ relFrom p q none r = false) :
    Calls Tryz.prog 24 #[f.val a cap, .int .i64 p, .int .i64 q, Vv n a1 t.len cap1 c1 ws.length cp1, Vv n' a2 t'.len cap2 c2 ws'.length cp2, .slice ar r.length cr] w fun e w' =>
     e = .returned (.tuple #[.bool false, .int .i64 (if relFault (vFault f p n t ws) (vFault f q n' t' ws') ≠ 0 then relFault (vFault f p n t ws) (vFault f q n' t' ws') else 1)]) ∧ Below w.heap.size w w' := by
 obtain ⟨W, hW⟩ : ∃ W : World, W = ((w.alloc (Obj.cells #[.int .i64 f.k, .int .i64 f.n, .slice a f.t.len cap] 24)).alloc (Obj.cells #[.int .i64 n, .slice a1 t.len cap1, .slice c1 ws.length cp1] 58)).alloc (Obj.cells #[.int .i64 n', .slice a2 t'.len cap2, .slice c2 ws'.length cp2] 58) := ⟨_, rfl⟩
 have hWb : Below w.heap.size w W := by rw [hW]; exact (ba2 _ _ _).alloc (by simp; omega) _
 have k0 : W.heap[w.heap.size]? = some (Obj.cells #[.int .i64 f.k, .int .i64 f.n, .slice a f.t.len cap] 24 (0, 0)) := by rw [hW]; exact lkOld (heap_old2 _ _ _)
 have k1 : W.heap[w.heap.size + 1]? = some (Obj.cells #[.int .i64 n, .slice a1 t.len cap1, .slice c1 ws.length cp1] 58 (0, 0)) := by rw [hW]; exact lkOld (heap_new2 _ _ _)
 have k2 : W.heap[w.heap.size + 1 + 1]? = some (Obj.cells #[.int .i64 n', .slice a2 t'.len cap2, .slice c2 ws'.length cp2] 58 (0, 0)) := by rw [hW]; exact lkNew (by simp) rfl
 obtain ⟨bf, hbf⟩ : ∃ bf, bf = w.heap.size := ⟨_, rfl⟩
 rw [← hbf] at k0 k1 k2
 obtain ⟨b0, b1, b2⟩ := cells_of k0
 obtain ⟨b3, b4, b5⟩ := cells_of k1
 obtain ⟨b6, b7, b8⟩ := cells_of k2
 obtain ⟨e1, he1⟩ : ∃ e1, e1 = vFault f p n t ws := ⟨_, rfl⟩
 obtain ⟨e2, he2⟩ : ∃ e2, e2 = vFault f q n' t' ws' := ⟨_, rfl⟩
 rw [← he1, ← he2] at hbad ⊢
 have HC1 := hid (fun x (hb : Below W.heap.size W x) => (show Calls Tryz.prog 54 #[f.val a cap, .int .i64 p, Vv n a1 t.len cap1 c1 ws.length cp1] x (fun e x' => e = .returned (.int .i64 e1) ∧ Below x.heap.size x x') by
  rw [he1]; exact vcheck_any S S' f a a1 c1 cap cap1 cp1 n p t ws x ((hs.below hWb).below hb) ((hv.below hWb).below hb) ((hi.below hWb).below hb) ((hk.below hWb).below hb)))
 have HC2 := hid (fun x (hb : Below W.heap.size W x) => (show Calls Tryz.prog 54 #[f.val a cap, .int .i64 q, Vv n' a2 t'.len cap2 c2 ws'.length cp2] x (fun e x' => e = .returned (.int .i64 e2) ∧ Below x.heap.size x x') by
  rw [he2]; exact vcheck_any S S' f a a2 c2 cap cap2 cp2 n' q t' ws' x ((hs.below hWb).below hb) ((hv'.below hWb).below hb) ((hi'.below hWb).below hb) ((hk.below hWb).below hb)))
 have HIR := hid (fun x (hb : Below W.heap.size W x) => isRel_any S' ar cr r p q x ((hr.below hWb).below hb))
 have HWB := hid hWb
 have HBAD := hid hbad
 obtain ⟨F, hF⟩ : ∃ F : Int, F = (if relFault e1 e2 ≠ 0 then relFault e1 e2 else 1) := ⟨_, rfl⟩
 rw [← hF]
 have HF := hid hF
 clear he1 he2 hk hs hv hi hv' hi' hr hbad hWb k0 k1 k2 hF
 have hbx : Below W.heap.size W W := Below.refl _ _
 go_enter Tryz.func24, Tryz.ntmps24
 go_wp2_with fail
 rw [← hW, ← hbf]
 clear hW hbf
 go_cut [14, 15] from 18 to 25 (fun s14 s15 wx => s14 = .int .i64 e1 ∧ s15 = .int .i64 e2 ∧ Below W.heap.size W wx)
 case first =>
  go_region_held3 (fun x : World => x.cell? ⟨bf, 0, none⟩ = some (.int .i64 f.k) ∧ x.cell? ⟨bf, 1, none⟩ = some (.int .i64 f.n) ∧ x.cell? ⟨bf, 2, none⟩ = some (.slice a f.t.len cap) ∧ x.cell? ⟨bf + 1, 0, none⟩ = some (.int .i64 n) ∧ x.cell? ⟨bf + 1, 1, none⟩ = some (.slice a1 t.len cap1) ∧ x.cell? ⟨bf + 1, 2, none⟩ = some (.slice c1 ws.length cp1) ∧ x.cell? ⟨bf + 1 + 1, 0, none⟩ = some (.int .i64 n') ∧ x.cell? ⟨bf + 1 + 1, 1, none⟩ = some (.slice a2 t'.len cap2) ∧ x.cell? ⟨bf + 1 + 1, 2, none⟩ = some (.slice c2 ws'.length cp2)) (first | exact ⟨b0, b1, b2, b3, b4, b5, b6, b7, b8⟩ | fail) (first
   | (go_at_call 54; refine callAt (args' := #[f.val a cap, .int .i64 p, Vv n a1 t.len cap1 c1 ws.length cp1]) rfl ?_; refine (HC1.out _ (by first | exact hbx | exact belowN hbx)).mono ?_; rintro e x ⟨rfl, hb⟩; replace b0 := cell_below hb b0; replace b1 := cell_below hb b1; replace b2 := cell_below hb b2; replace b3 := cell_below hb b3; replace b4 := cell_below hb b4; replace b5 := cell_below hb b5; replace b6 := cell_below hb b6; replace b7 := cell_below hb b7; replace b8 := cell_below hb b8; replace hbx := Below.trans (b := _) (by first | exact hbx | exact belowN hbx) (hb.mono hbx.size); clear hb)
   | (go_at_call 54; refine callAt (args' := #[f.val a cap, .int .i64 q, Vv n' a2 t'.len cap2 c2 ws'.length cp2]) rfl ?_; refine (HC2.out _ (by first | exact hbx | exact belowN hbx)).mono ?_; rintro e x ⟨rfl, hb⟩; replace b0 := cell_below hb b0; replace b1 := cell_below hb b1; replace b2 := cell_below hb b2; replace b3 := cell_below hb b3; replace b4 := cell_below hb b4; replace b5 := cell_below hb b5; replace b6 := cell_below hb b6; replace b7 := cell_below hb b7; replace b8 := cell_below hb b8; replace hbx := Below.trans (b := _) (by first | exact hbx | exact belowN hbx) (hb.mono hbx.size); clear hb)
   | fail)
  all_goals (go_wp2_with fail; go_meet; exact ⟨rfl, rfl, by first | exact hbx | exact belowN hbx⟩)
 case rest =>
  obtain ⟨rfl, rfl, hbc⟩ := hcut
  have HBC := hid (HWB.out.trans (hbc.mono HWB.out.size))
  have HIC := hid (HIR.out wc hbc)
  have hx0 := ixErr0
  have hx1 := ixErr1
  have hx2 := ixErr2
  clear hbx hbc b0 b1 b2 b3 b4 b5 b6 b7 b8
  go_wp2_with fail
  go_loopw [27] (fun i wr => ∃ k : Int, (k = 0 ∨ k = 1 ∨ k = 2 ∨ k = 3) ∧ i = .int .i64 k ∧ wr = wc ∧ ((1 ≤ k → e1 ≠ 10 ∧ e2 ≠ 10) ∧ (2 ≤ k → e1 ≠ 1 ∧ e2 ≠ 1) ∧ (3 ≤ k → e1 ≠ 20 ∧ e2 ≠ 20))) (fun i _ => 3 - (intOf i).toNat)
  case atStart => exact ⟨0, Or.inl rfl, rfl, by first | trivial | rfl, ⟨fun h => by omega, fun h => by omega, fun h => by omega⟩⟩
  case round =>
   obtain ⟨k, hk, rfl, rfl, hne⟩ := hrel
   have HNE := hid hne
   clear hne
   rcases hk with rfl | rfl | rfl | rfl
   ·by_cases h1 : e1 = 10
    ·have HFZ := hid (show F = 10 by
     rw [HF.out, show relFault e1 e2 = 10 by unfold relFault; rw [if_pos (by omega)]]; rfl)
     have hb1 : (e1 == 10) = true := by simp [h1]
     clear h1
     go_wp2_with fail
     go_ret2
     exact ⟨by rw [HFZ.out]; rfl, HBC.out⟩
    by_cases h2 : e2 = 10
    ·have HFZ := hid (show F = 10 by
     rw [HF.out, show relFault e1 e2 = 10 by unfold relFault; rw [if_pos (by omega)]]; rfl)
     have hb1 : (e1 == 10) = false := by simpa using h1
     have hb2 : (e2 == 10) = true := by simp [h2]
     clear h1 h2
     go_wp2_with fail
     go_ret2
     exact ⟨by rw [HFZ.out]; rfl, HBC.out⟩
    have HNX := hid (show e1 ≠ 10 ∧ e2 ≠ 10 from ⟨h1, h2⟩)
    have hb1 : (e1 == 10) = false := by simpa using h1
    have hb2 : (e2 == 10) = false := by simpa using h2
    clear h1 h2
    go_wp2_with fail
    go_roundw
    case rel => exact ⟨1, by omega, by first | rfl | go_num, by first | trivial | rfl, fun _ => HNX.out, fun h => by omega, fun h => by omega⟩
    case measure => simp [intOf]
   ·by_cases h1 : e1 = 1
    ·have HFZ := hid (show F = 1 by
     have g0 := HNE.out.1 (by omega)
     rw [HF.out, show relFault e1 e2 = 1 by unfold relFault; rw [if_neg (by omega), if_pos (by omega)]]; rfl)
     have hb1 : (e1 == 1) = true := by simp [h1]
     clear h1
     go_wp2_with fail
     go_ret2
     exact ⟨by rw [HFZ.out]; rfl, HBC.out⟩
    by_cases h2 : e2 = 1
    ·have HFZ := hid (show F = 1 by
     have g0 := HNE.out.1 (by omega)
     rw [HF.out, show relFault e1 e2 = 1 by unfold relFault; rw [if_neg (by omega), if_pos (by omega)]]; rfl)
     have hb1 : (e1 == 1) = false := by simpa using h1
     have hb2 : (e2 == 1) = true := by simp [h2]
     clear h1 h2
     go_wp2_with fail
     go_ret2
     exact ⟨by rw [HFZ.out]; rfl, HBC.out⟩
    have HNX := hid (show e1 ≠ 1 ∧ e2 ≠ 1 from ⟨h1, h2⟩)
    have hb1 : (e1 == 1) = false := by simpa using h1
    have hb2 : (e2 == 1) = false := by simpa using h2
    clear h1 h2
    go_wp2_with fail
    go_roundw
    case rel => exact ⟨2, by omega, by first | rfl | go_num, by first | trivial | rfl, fun _ => HNE.out.1 (by omega), fun _ => HNX.out, fun h => by omega⟩
    case measure => simp [intOf]
   ·by_cases h1 : e1 = 20
    ·have HFZ := hid (show F = 20 by
     have g0 := HNE.out.1 (by omega)
     have g1 := HNE.out.2.1 (by omega)
     rw [HF.out, show relFault e1 e2 = 20 by unfold relFault; rw [if_neg (by omega), if_neg (by omega), if_pos (by omega)]]; rfl)
     have hb1 : (e1 == 20) = true := by simp [h1]
     clear h1
     go_wp2_with fail
     go_ret2
     exact ⟨by rw [HFZ.out]; rfl, HBC.out⟩
    by_cases h2 : e2 = 20
    ·have HFZ := hid (show F = 20 by
     have g0 := HNE.out.1 (by omega)
     have g1 := HNE.out.2.1 (by omega)
     rw [HF.out, show relFault e1 e2 = 20 by unfold relFault; rw [if_neg (by omega), if_neg (by omega), if_pos (by omega)]]; rfl)
     have hb1 : (e1 == 20) = false := by simpa using h1
     have hb2 : (e2 == 20) = true := by simp [h2]
     clear h1 h2
     go_wp2_with fail
     go_ret2
     exact ⟨by rw [HFZ.out]; rfl, HBC.out⟩
    have HNX := hid (show e1 ≠ 20 ∧ e2 ≠ 20 from ⟨h1, h2⟩)
    have hb1 : (e1 == 20) = false := by simpa using h1
    have hb2 : (e2 == 20) = false := by simpa using h2
    clear h1 h2
    go_wp2_with fail
    go_roundw
    case rel => exact ⟨3, by omega, by first | rfl | go_num, by first | trivial | rfl, fun _ => HNE.out.1 (by omega), fun _ => HNE.out.2.1 (by omega), fun _ => HNX.out⟩
    case measure => simp [intOf]
   ·have hz : relFault e1 e2 = 0 := by
     obtain ⟨h1, h2, h3⟩ := HNE.out
     have h1 := h1 (by omega)
     have h2 := h2 (by omega)
     have h3 := h3 (by omega)
     unfold relFault
     rw [if_neg (by omega), if_neg (by omega), if_neg (by omega)]
    have HFZ := hid (show F = 1 by rw [HF.out, hz]; rfl)
    have HRF := hid (show relFrom p q none r = false by
     rcases HBAD.out with h | h
     ·exact absurd hz h
     ·exact h)
    clear hz
    go_wp2_with fail
    refine HIC.out.mono ?_
    rw [HRF.out]
    rintro e w2 ⟨rfl, hb2⟩
    have HB2 := hid (HBC.out.trans (hb2.mono HBC.out.size))
    clear hb2
    go_wp2_with fail
    go_ret2
    exact ⟨by rw [HFZ.out]; rfl, HB2.out⟩
def RelAt (f : F) (t : V) : Prop := ∀ (B : Nat) (P : Nat → Prop) (I : World → Prop) (nn mm : Nat) (rel : Nat → Nat → Bool) (g : Nat) (lb : Array Value) (RB : F → Int × V × List Int → Int × V × List Int → Bool) (S : Nat → Nat → Prop) (S' : Nat → Prop)
 (n n' : Int) (t' : V) (ws ws' : List Int) (a a1 a2 c1 c2 : Option Addr) (cap cap1 cap2 cp1 cp2 : Nat) (w : World),
 Asks B P I nn mm rel g lb → (∀ f u v, RB f u v = true ↔ relV (tells rel) f u v) → I w → Sl S w a f.t → Vl S' w a1 t → Ints S' w c1 ws → Vl S' w a2 t' → Ints S' w c2 ws' → (∀ b o, S b o → ¬ P b) → (∀ b, S' b → ¬ P b) →
 f.good = true → okV nodeOk nn f n t ws = true → okV nodeOk mm f n' t' ws' = true →
 Calls Tryz.prog 56 #[f.val a cap, Vv n a1 t.len cap1 c1 ws.length cp1, Vv n' a2 t'.len cap2 c2 ws'.length cp2, .func (.func g) #[] lb] w fun e w' => e = .returned (.bool (RB f (n, t, ws) (n', t', ws'))) ∧ I w' ∧ Kept P w w'
theorem relAt_any (f : F) (t : V) : RelAt f t := fun B P I nn mm rel g lb RB S S' n n' t' ws ws' a a1 a2 c1 c2 cap cap1 cap2 cp1 cp2 w => relOk_all t B P I nn mm rel g lb RB S S' f n n' t' ws ws' a a1 a2 c1 c2 cap cap1 cap2 cp1 cp2 w
theorem relAt6 {fn : Int} {ft : T} {t : V} (_ : t.flat) : RelAt ⟨6, fn, ft⟩ t := relAt_any _ t
theorem relAt7 {fn : Int} {ft : T} {t : V} (_ : t.flat) : RelAt ⟨7, fn, ft⟩ t := relAt_any _ t
theorem vFault_ok {f : F} {m n : Int} {t : V} {ws : List Int} (h : vFault f m n t ws = 0) : okV nodeOk m f n t ws = true := by
 unfold vFault at h
 by_cases h1 : stFault f m ≠ 0
 ·rw [if_pos h1] at h; exact absurd h h1
 ·rw [if_neg h1] at h
  by_cases h2 : vValid f m n t ws = true
  ·unfold vValid at h2; simp only [Bool.and_eq_true] at h2; exact h2.1
  ·rw [if_neg h2] at h; omega
theorem relFrom_in {n m : Int} : ∀ {r : List (Int × Int)} {pr : Option (Int × Int)}, relFrom n m pr r = true → ∀ z ∈ r, 0 ≤ z.1 ∧ z.1 < n ∧ 0 ≤ z.2 ∧ z.2 < m := by
 intro r
 induction r with
 | nil => intro pr _ z hz; simp at hz
 | cons p r ih =>
  intro pr h z hz
  have h1 : inPair n m p = true ∧ relFrom n m (some p) r = true := by
   cases pr with
   | none => simpa [relFrom] using h
   | some q => simp only [relFrom, Bool.and_eq_true] at h; exact ⟨h.1, h.2.2⟩
  rcases List.mem_cons.1 hz with rfl | hz
  ·simpa [inPair] using h1.1
  ·exact ih h1.2 z hz
theorem top_ok (S : Nat → Nat → Prop) (S' : Nat → Prop) (f : F) (n n' : Int) (p q : Nat) (t t' : V) (ws ws' : List Int) (r : List (Int × Int)) (a a1 a2 c1 c2 ar : Option Addr) (cap cap1 cap2 cp1 cp2 cr : Nat) (w : World)
    (hk : Kinds w) (hs : Sl S w a f.t) (hv : Vl S' w a1 t) (hi : Ints S' w c1 ws) (hv' : Vl S' w a2 t') (hi' : Ints S' w c2 ws') (hr : Prs S' w ar r) (hf1 : vFault f p n t ws = 0) (hf2 : vFault f q n' t' ws' = 0) (hp : p ≤ 100) (hq : q ≤ 100) (hrf : relFrom p q none r = true) (hrn : r.length ≤ 1000000)
    (RB : F → Int × V × List Int → Int × V × List Int → Bool) (hRB : ∀ f u v, RB f u v = true ↔ relV (tells (fun x y => decide (((x : Int), (y : Int)) ∈ r))) f u v) (hRA : RelAt f t) :
    Calls Tryz.prog 24 #[f.val a cap, .int .i64 (p : Int), .int .i64 (q : Int), Vv n a1 t.len cap1 c1 ws.length cp1, Vv n' a2 t'.len cap2 c2 ws'.length cp2, .slice ar r.length cr] w fun e w' =>
     e = .returned (.tuple #[.bool (RB f (n, t, ws) (n', t', ws')), .int .i64 0]) ∧ Below w.heap.size w w' := by
 obtain ⟨W, hW⟩ : ∃ W : World, W = ((w.alloc (Obj.cells #[.int .i64 f.k, .int .i64 f.n, .slice a f.t.len cap] 24)).alloc (Obj.cells #[.int .i64 n, .slice a1 t.len cap1, .slice c1 ws.length cp1] 58)).alloc (Obj.cells #[.int .i64 n', .slice a2 t'.len cap2, .slice c2 ws'.length cp2] 58) := ⟨_, rfl⟩
 have hWb : Below w.heap.size w W := by rw [hW]; exact (ba2 _ _ _).alloc (by simp; omega) _
 have k0 : W.heap[w.heap.size]? = some (Obj.cells #[.int .i64 f.k, .int .i64 f.n, .slice a f.t.len cap] 24 (0, 0)) := by rw [hW]; exact lkOld (heap_old2 _ _ _)
 have k1 : W.heap[w.heap.size + 1]? = some (Obj.cells #[.int .i64 n, .slice a1 t.len cap1, .slice c1 ws.length cp1] 58 (0, 0)) := by rw [hW]; exact lkOld (heap_new2 _ _ _)
 have k2 : W.heap[w.heap.size + 1 + 1]? = some (Obj.cells #[.int .i64 n', .slice a2 t'.len cap2, .slice c2 ws'.length cp2] 58 (0, 0)) := by rw [hW]; exact lkNew (by simp) rfl
 obtain ⟨bf, hbf⟩ : ∃ bf, bf = w.heap.size := ⟨_, rfl⟩
 rw [← hbf] at k0 k1 k2
 obtain ⟨b0, b1, b2⟩ := cells_of k0
 obtain ⟨b3, b4, b5⟩ := cells_of k1
 obtain ⟨b6, b7, b8⟩ := cells_of k2
 have hg : f.good = true := stFault_good (m := p) (by
  unfold vFault at hf1
  by_cases h : stFault f p = 0
  ·exact h
  ·rw [if_pos h] at hf1; exact absurd hf1 h)
 have ok1 := vFault_ok hf1
 have ok2 := vFault_ok hf2
 have HC1 := hid (fun x (hb : Below W.heap.size W x) => (show Calls Tryz.prog 54 #[f.val a cap, .int .i64 (p : Int), Vv n a1 t.len cap1 c1 ws.length cp1] x (fun e x' => e = .returned (.int .i64 0) ∧ Below x.heap.size x x') by
  rw [← hf1]; exact vcheck_any S S' f a a1 c1 cap cap1 cp1 n p t ws x ((hs.below hWb).below hb) ((hv.below hWb).below hb) ((hi.below hWb).below hb) ((hk.below hWb).below hb)))
 have HC2 := hid (fun x (hb : Below W.heap.size W x) => (show Calls Tryz.prog 54 #[f.val a cap, .int .i64 (q : Int), Vv n' a2 t'.len cap2 c2 ws'.length cp2] x (fun e x' => e = .returned (.int .i64 0) ∧ Below x.heap.size x x') by
  rw [← hf2]; exact vcheck_any S S' f a a2 c2 cap cap2 cp2 n' q t' ws' x ((hs.below hWb).below hb) ((hv'.below hWb).below hb) ((hi'.below hWb).below hb) ((hk.below hWb).below hb)))
 have HIR := hid (fun x (hb : Below W.heap.size W x) => isRel_any S' ar cr r p q x ((hr.below hWb).below hb))
 have HWB := hid hWb
 have HSF := hid (fun x (hb : Below W.heap.size W x) => And.intro ((hs.below hWb).below hb) (And.intro ((hv.below hWb).below hb) (And.intro ((hi.below hWb).below hb) (And.intro ((hv'.below hWb).below hb) (And.intro ((hi'.below hWb).below hb) ((hr.below hWb).below hb))))))
 have HRFT := hid hrf
 have HRA := hid hRA
 have HRB := hid hRB
 have HG := hid (And.intro hg (And.intro ok1 ok2))
 have HRN := hid hrn
 have HBX0 := hid (show w.heap.size < W.heap.size ∧ w.heap.size + 1 < W.heap.size ∧ w.heap.size + 1 + 1 < W.heap.size by rw [hbf] at k2; have := heap_lt k2; omega)
 rw [← hbf] at HBX0
 clear hf1 hf2 hk hs hv hi hv' hi' hr hrf hRA hRB hg ok1 ok2 hWb k0 k1 k2 hrn
 have hbx : Below W.heap.size W W := Below.refl _ _
 go_enter Tryz.func24, Tryz.ntmps24
 go_wp2_with fail
 rw [← hW, ← hbf]
 clear hW hbf
 go_cut [14, 15] from 18 to 25 (fun s14 s15 wx => s14 = .int .i64 0 ∧ s15 = .int .i64 0 ∧ Below W.heap.size W wx)
 case first =>
  go_region_held3 (fun x : World => x.cell? ⟨bf, 0, none⟩ = some (.int .i64 f.k) ∧ x.cell? ⟨bf, 1, none⟩ = some (.int .i64 f.n) ∧ x.cell? ⟨bf, 2, none⟩ = some (.slice a f.t.len cap) ∧ x.cell? ⟨bf + 1, 0, none⟩ = some (.int .i64 n) ∧ x.cell? ⟨bf + 1, 1, none⟩ = some (.slice a1 t.len cap1) ∧ x.cell? ⟨bf + 1, 2, none⟩ = some (.slice c1 ws.length cp1) ∧ x.cell? ⟨bf + 1 + 1, 0, none⟩ = some (.int .i64 n') ∧ x.cell? ⟨bf + 1 + 1, 1, none⟩ = some (.slice a2 t'.len cap2) ∧ x.cell? ⟨bf + 1 + 1, 2, none⟩ = some (.slice c2 ws'.length cp2)) (first | exact ⟨b0, b1, b2, b3, b4, b5, b6, b7, b8⟩ | fail) (first
   | (go_at_call 54; refine callAt (args' := #[f.val a cap, .int .i64 (p : Int), Vv n a1 t.len cap1 c1 ws.length cp1]) rfl ?_; refine (HC1.out _ (by first | exact hbx | exact belowN hbx)).mono ?_; rintro e x ⟨rfl, hb⟩; replace b0 := cell_below hb b0; replace b1 := cell_below hb b1; replace b2 := cell_below hb b2; replace b3 := cell_below hb b3; replace b4 := cell_below hb b4; replace b5 := cell_below hb b5; replace b6 := cell_below hb b6; replace b7 := cell_below hb b7; replace b8 := cell_below hb b8; replace hbx := Below.trans (b := _) (by first | exact hbx | exact belowN hbx) (hb.mono hbx.size); clear hb)
   | (go_at_call 54; refine callAt (args' := #[f.val a cap, .int .i64 (q : Int), Vv n' a2 t'.len cap2 c2 ws'.length cp2]) rfl ?_; refine (HC2.out _ (by first | exact hbx | exact belowN hbx)).mono ?_; rintro e x ⟨rfl, hb⟩; replace b0 := cell_below hb b0; replace b1 := cell_below hb b1; replace b2 := cell_below hb b2; replace b3 := cell_below hb b3; replace b4 := cell_below hb b4; replace b5 := cell_below hb b5; replace b6 := cell_below hb b6; replace b7 := cell_below hb b7; replace b8 := cell_below hb b8; replace hbx := Below.trans (b := _) (by first | exact hbx | exact belowN hbx) (hb.mono hbx.size); clear hb)
   | fail)
  all_goals (go_wp2_with fail; go_meet; exact ⟨rfl, rfl, by first | exact hbx | exact belowN hbx⟩)
 case rest =>
  obtain ⟨rfl, rfl, hbc⟩ := hcut
  have HBC := hid (HWB.out.trans (hbc.mono HWB.out.size))
  have HIC := hid (HIR.out wc hbc)
  have hx0 := ixErr0
  have hx1 := ixErr1
  have hx2 := ixErr2
  have HB0 := hid (show W.cell? ⟨bf, 0, none⟩ = some (.int .i64 f.k) ∧ W.cell? ⟨bf, 1, none⟩ = some (.int .i64 f.n) ∧ W.cell? ⟨bf, 2, none⟩ = some (.slice a f.t.len cap) ∧ W.cell? ⟨bf + 1, 0, none⟩ = some (.int .i64 n) ∧ W.cell? ⟨bf + 1, 1, none⟩ = some (.slice a1 t.len cap1) ∧ W.cell? ⟨bf + 1, 2, none⟩ = some (.slice c1 ws.length cp1) ∧ W.cell? ⟨bf + 1 + 1, 0, none⟩ = some (.int .i64 n') ∧ W.cell? ⟨bf + 1 + 1, 1, none⟩ = some (.slice a2 t'.len cap2) ∧ W.cell? ⟨bf + 1 + 1, 2, none⟩ = some (.slice c2 ws'.length cp2) from ⟨b0, b1, b2, b3, b4, b5, b6, b7, b8⟩)
  have HBW := hid hbc
  clear hbx hbc b0 b1 b2 b3 b4 b5 b6 b7 b8
  go_wp2_with fail
  go_loopw [27] (fun i wr => ∃ k : Int, (k = 0 ∨ k = 1 ∨ k = 2 ∨ k = 3) ∧ i = .int .i64 k ∧ wr = wc) (fun i _ => 3 - (intOf i).toNat)
  case atStart => exact ⟨0, Or.inl rfl, rfl, by first | trivial | rfl⟩
  case round =>
   obtain ⟨k, hk, rfl, rfl⟩ := hrel
   rcases hk with rfl | rfl | rfl | rfl
   ·go_wp2_with fail
    go_roundw
    case rel => exact ⟨1, by omega, by first | rfl | go_num, by first | trivial | rfl⟩
    case measure => simp [intOf]
   ·go_wp2_with fail
    go_roundw
    case rel => exact ⟨2, by omega, by first | rfl | go_num, by first | trivial | rfl⟩
    case measure => simp [intOf]
   ·go_wp2_with fail
    go_roundw
    case rel => exact ⟨3, by omega, by first | rfl | go_num, by first | trivial | rfl⟩
    case measure => simp [intOf]
   ·go_wp2_with fail
    refine HIC.out.mono ?_
    rw [HRFT.out]
    rintro e w2 ⟨rfl, hb2⟩
    have hbw : Below W.heap.size W w2 := HBW.out.trans (hb2.mono HBW.out.size)
    have HBZ := hid (HWB.out.trans (hbw.mono HWB.out.size))
    obtain ⟨b0, b1, b2, b3, b4, b5, b6, b7, b8⟩ := HB0.out
    replace b0 := cell_below hbw b0; replace b1 := cell_below hbw b1; replace b2 := cell_below hbw b2; replace b3 := cell_below hbw b3; replace b4 := cell_below hbw b4; replace b5 := cell_below hbw b5; replace b6 := cell_below hbw b6; replace b7 := cell_below hbw b7; replace b8 := cell_below hbw b8
    have hpr := relFrom_in (r := r) (pr := none) HRFT.out
    have HMM := hid (fun x (hb : Below w2.heap.size w2 x) => member_any S' ar cr r x (((HSF.out w2 hbw).2.2.2.2.2).below hb) HRN.out (fun z hz => by have := hpr z hz; omega))
    have HRR := hid (fun x mb B (hb : Below w2.heap.size w2 x) (h1 : mb < B) (h2 : mb + 1 < B) (hi : MemI mb (mb + 1) r.length B (fun x y => decide ((x, y) ∈ r)) x) =>
     HRA.out B (fun _ => False) _ p q (fun x y => decide (((x : Int), (y : Int)) ∈ r)) _ _ RB S S' n n' t' ws ws' a a1 a2 c1 c2 cap cap1 cap2 cp1 cp2 x (mem_asks h1 h2 (by omega) (by omega)) HRB.out hi ((HSF.out w2 hbw).1.below hb) ((HSF.out w2 hbw).2.1.below hb) ((HSF.out w2 hbw).2.2.1.below hb) ((HSF.out w2 hbw).2.2.2.1.below hb) ((HSF.out w2 hbw).2.2.2.2.1.below hb) (fun _ _ _ h => h) (fun _ _ h => h) HG.out.1 HG.out.2.1 HG.out.2.2)
    have hby : Below w2.heap.size w2 w2 := Below.refl _ _
    clear hpr hb2 hbw
    go_wp2_with fail
    go_region_held3 (fun x : World => x.cell? ⟨bf, 0, none⟩ = some (.int .i64 f.k) ∧ x.cell? ⟨bf, 1, none⟩ = some (.int .i64 f.n) ∧ x.cell? ⟨bf, 2, none⟩ = some (.slice a f.t.len cap) ∧ x.cell? ⟨bf + 1, 0, none⟩ = some (.int .i64 n) ∧ x.cell? ⟨bf + 1, 1, none⟩ = some (.slice a1 t.len cap1) ∧ x.cell? ⟨bf + 1, 2, none⟩ = some (.slice c1 ws.length cp1) ∧ x.cell? ⟨bf + 1 + 1, 0, none⟩ = some (.int .i64 n') ∧ x.cell? ⟨bf + 1 + 1, 1, none⟩ = some (.slice a2 t'.len cap2) ∧ x.cell? ⟨bf + 1 + 1, 2, none⟩ = some (.slice c2 ws'.length cp2)) (first | exact ⟨b0, b1, b2, b3, b4, b5, b6, b7, b8⟩ | fail) (first
     | (go_at_call 57; refine (HMM.out _ (by first | exact hby | exact belowN hby)).mono ?_; rintro e x ⟨rfl, hb, hsx, hmi⟩; replace b0 := cell_below hb b0; replace b1 := cell_below hb b1; replace b2 := cell_below hb b2; replace b3 := cell_below hb b3; replace b4 := cell_below hb b4; replace b5 := cell_below hb b5; replace b6 := cell_below hb b6; replace b7 := cell_below hb b7; replace b8 := cell_below hb b8; replace hby := Below.trans (b := _) (by first | exact hby | exact belowN hby) (hb.mono hby.size); have HMI := hid hmi; have HSX := hid hsx; clear hb hmi hsx)
     | (go_at_call 56; refine (HRR.out _ _ _ (by first | exact hby | exact belowN hby) (Nat.lt_of_lt_of_le (Nat.lt_add_of_pos_right (by decide)) HSX.out) (Nat.lt_of_lt_of_le (Nat.lt_succ_self _) HSX.out) (by first | exact HMI.out | exact (HMI.out : MemI _ _ _ _ _ _))).mono ?_; rintro e x ⟨rfl, _, hkx⟩; have hbk : Below _ _ x := hkx.toBelow (Nat.le_refl _) (fun _ _ h => h); replace b0 := cell_below hbk b0; replace b1 := cell_below hbk b1; replace b2 := cell_below hbk b2; replace b3 := cell_below hbk b3; replace b4 := cell_below hbk b4; replace b5 := cell_below hbk b5; replace b6 := cell_below hbk b6; replace b7 := cell_below hbk b7; replace b8 := cell_below hbk b8; have HKX := hid (Below.trans (b := _) (by first | exact hby | exact belowN hby) (hbk.mono hby.size)); clear hkx hbk)
     | fail)
    all_goals (go_wp2_with fail; go_ret2; exact ⟨rfl, HBZ.out.trans (HKX.out.mono HBZ.out.size)⟩)
end Go.Proofs.YtcekilcgpgjooaaGreatDoor
