/- Proved here: contracts of the walk to BisimGraphs: system.Quotient; each under the conditions that its own statement names. -/
import Derived.Test.YtcekilcgpgjooaaGreatDoorG46
set_option maxRecDepth 100000
set_option maxHeartbeats 12800000
namespace Go.Proofs.YtcekilcgpgjooaaGreatDoor
open Go Go.RowKit
open Go.Lib (hid)
theorem store4 {u : World} {b : Nat} {c : Array Value} {t : TypeId} {x0 x1 x2 x3 : Value} (h : u.heap[b]? = some (.cells c t (0, 0))) (hc : c.size = 4) :
    ((((u.setCell ⟨b, 0, none⟩ x0).setCell ⟨b, 1, none⟩ x1).setCell ⟨b, 2, none⟩ x2).setCell ⟨b, 3, none⟩ x3).heap[b]? = some (.cells #[x0, x1, x2, x3] t (0, 0)) := by
 obtain ⟨c⟩ := c
 match c, hc with
 | [a0, a1, a2, a3], _ => simp [World.setCell, Array.getElem?_modify, h]
theorem infoBoolQ : (Tryz.prog.info? 4).map (fun i => (i.zero, i.size, i.bytes)) = some (some (.bool false), 1, 1) := by kernel_rfl
theorem makeV (m : Nat) (hm : m ≤ 100) (w : World) : (Instr.makeSlice 25 (.int .i64 (m : Int)) (.int .i64 (m : Int))).run Tryz.prog w = .ok (.slice (some ⟨w.heap.size, 0, none⟩) m m) (w.alloc (.cells (madeCells #[.int .i64 0, .slice none 0 0, .slice none 0 0] (m * 3)) 58)) := by
 obtain ⟨i, hi, hz0, hz1, hz2⟩ := info_parts infoV
 have h := run_make (P := Tryz.prog) w 25 58 i _ Tryz.underlying25 hi hz0 .i64 .i64 m m (by omega) (Int.le_refl _) (by rw [hz2]; omega) (by omega)
 simp only [Int.toNat_natCast, hz1] at h
 exact h
def quoOk (t : V) (tl : List Int) : Prop := tl.length = t.len ∧ tl.all (fun x => decide (0 ≤ x ∧ x < 100)) = true ∧ ∀ y : Nat, (y : Int) < aft tl → (y : Int) ∈ tl
def quoEq (f : F) (t : V) (tl : List Int) (j : Nat) : Prop := ∀ x x', x < j → x' < j → tl.getD x 0 = tl.getD x' 0 → mapE (toH tl) f (t.el x) = mapE (toH tl) f (t.el x')
def QuoPost (f : F) (t : V) (tl : List Int) (w : World) (e : Ending) (w' : World) : Prop := ∃ (k n : Int) (a1 a2 : Option Addr) (l1 c1 l2 c2 : Nat) (E : Int), e = .returned (.tuple #[.agg #[.int .i64 k, .int .i64 n, .slice a1 l1 c1, .slice a2 l2 c2], .int .i64 E]) ∧ (¬ quoOk t tl → E = 1) ∧ (quoOk t tl → (quoEq f t tl t.len → E = 0) ∧ (¬ quoEq f t tl t.len → E = 4)) ∧ Below w.heap.size w w'
def VAt (S : Nat → Prop) (w : World) (F : Nat → Value) (o : Nat) (p : Int × V × List Int) : Prop := ∃ xa xc xd xe, F o = .int .i64 p.1 ∧ F (o + 1) = .slice xa p.2.1.len xc ∧ F (o + 2) = .slice xd p.2.2.length xe ∧ Vl S w xa p.2.1 ∧ Ints S w xd p.2.2
theorem VAt.kept {S P : Nat → Prop} {w w' : World} {F : Nat → Value} {o : Nat} {p : Int × V × List Int} (h : VAt S w F o p) (hk : Kept P w w') (hS : ∀ b, S b → ¬ P b) : VAt S w' F o p := by
 obtain ⟨xa, xc, xd, xe, h0, h1, h2, h3, h4⟩ := h
 exact ⟨xa, xc, xd, xe, h0, h1, h2, h3.keptP hk hS, h4.keptP hk hS⟩
theorem quo_laid (w : World) (c1 o2 : Array Value) (t1 t2 t3 : TypeId) (m : Nat) {Y : World} (hY : Y = ((w.alloc (.cells c1 t1)).alloc (.cells o2 t2)).alloc (.cells (madeCells #[.bool false] m) t3)) :
    Y.heap[w.heap.size]? = some (.cells c1 t1 (0, 0)) ∧ Y.heap[w.heap.size + 1]? = some (.cells o2 t2 (0, 0)) ∧ Y.rowIs (w.heap.size + 1 + 1) t3 m (fun _ => .bool false) ∧ Y.heap.size = w.heap.size + 3 ∧ Below w.heap.size w Y := by
 subst hY
 refine ⟨?_, ?_, ?_, by simp, (ba2 _ _ _).alloc (by simp; omega) _⟩
 ·exact (Below.heap_alloc _ _ _ (by simp; omega)).trans (heap_old2 _ _ _)
 ·exact (Below.heap_alloc _ _ _ (by simp)).trans (heap_new2 _ _ _)
 ·have h := World.rowIs_made ((w.alloc (.cells c1 t1)).alloc (.cells o2 t2)) (.bool false) m t3
  simpa using h
theorem row_some {w : World} {b : Nat} {c : Array Value} {t : TypeId} (h : w.heap[b]? = some (.cells c t (0, 0))) : w.rowIs b t c.size (fun i => c.getD i default) :=
 ⟨c, h, rfl, fun i hi => by simp [hi]⟩
structure QIn (Z : Nat) (f : F) (t : V) (tl : List Int) (m nb sb j : Nat) (w6 w : World) : Prop where
 ex : ∃ (F : Nat → Value) (G : Nat → Bool), w.rowIs nb 58 (m * 3) F ∧ w.rowIs sb 4 m (fun i => .bool (G i)) ∧ (∀ y, y < m → G y = true → ∃ x, x < j ∧ tl.getD x 0 = (y : Int) ∧ VAt (fun b => Z ≤ b) w F (y * 3) (mapE (toH tl) f (t.el x))) ∧ (∀ x, x < j → G (tl.getD x 0).toNat = true)
 eq : quoEq f t tl j
 kp : Kept (fun b => b = nb ∨ b = sb) w6 w
theorem QIn.step {Z : Nat} {f : F} {t : V} {tl : List Int} {m nb sb j y : Nat} {w6 wr z : World} {xa xd : Option Addr} {xc xe : Nat} {p : Int × V × List Int} (h : QIn Z f t tl m nb sb j w6 wr) (hb : Below wr.heap.size wr z) (hp : p = mapE (toH tl) f (t.el j)) (hgd : tl.getD j 0 = (y : Int)) (hym : y < m)
    (hv : Vl (fun b => Z ≤ b) wr xa p.2.1) (hi : Ints (fun b => Z ≤ b) wr xd p.2.2) (hc : ∀ x, x < j → tl.getD x 0 = (y : Int) → mapE (toH tl) f (t.el x) = p) (hn : nb < Z) (hs : sb < Z) (hne : nb ≠ sb) :
    QIn Z f t tl m nb sb (j + 1) w6 ((((z.setCell ⟨nb, y * 3, none⟩ (.int .i64 p.1)).setCell ⟨nb, y * 3 + 1, none⟩ (.slice xa p.2.1.len xc)).setCell ⟨nb, y * 3 + 2, none⟩ (.slice xd p.2.2.length xe)).setCell ⟨sb, y, none⟩ (.bool true)) := by
 obtain ⟨F, G, hF, hG, hex, hall⟩ := h.ex
 have hF := hF.of_block (hb.block _ hF.lt)
 have hG := hG.of_block (hb.block _ hG.lt)
 have hk : Kept (fun b => b = nb ∨ b = sb) wr ((((z.setCell ⟨nb, y * 3, none⟩ (.int .i64 p.1)).setCell ⟨nb, y * 3 + 1, none⟩ (.slice xa p.2.1.len xc)).setCell ⟨nb, y * 3 + 2, none⟩ (.slice xd p.2.2.length xe)).setCell ⟨sb, y, none⟩ (.bool true)) :=
  (((((Kept.refl _ _).below hb).set (p := ⟨nb, y * 3, none⟩) (Or.inl (Or.inl rfl)) _).set (p := ⟨nb, y * 3 + 1, none⟩) (Or.inl (Or.inl rfl)) _).set (p := ⟨nb, y * 3 + 2, none⟩) (Or.inl (Or.inl rfl)) _).set (p := ⟨sb, y, none⟩) (Or.inl (Or.inr rfl)) _
 have hP : ∀ b, Z ≤ b → ¬ (b = nb ∨ b = sb) := fun b h1 h2 => by omega
 refine ⟨⟨_, fun i => if i = y then true else G i, (((hF.set _ _).set _ _).set _ _).setOther hne _, (((((hG.setOther (Ne.symm hne) _).setOther (Ne.symm hne) _).setOther (Ne.symm hne) _).set y (.bool true)).congr (fun i _ => by by_cases e : i = y <;> simp [e])), ?_, ?_⟩, ?_, h.kp.trans hk⟩
 ·intro y' hy' hg
  by_cases e : y' = y
  ·subst e
   refine ⟨j, by omega, hgd, xa, xc, xd, xe, ?_, ?_, ?_, ?_, ?_⟩
   ·rw [← hp]; simp
   ·rw [← hp]; simp
   ·rw [← hp]; simp
   ·rw [← hp]; exact hv.keptP hk hP
   ·rw [← hp]; exact hi.keptP hk hP
  ·simp only [if_neg e] at hg
   obtain ⟨x, hx, hxy, hva⟩ := hex y' hy' hg
   obtain ⟨a1, a2, a3, a4, h0, h1, h2, h3, h4⟩ := hva.kept hk hP
   exact ⟨x, by omega, hxy, a1, a2, a3, a4, by simp only [h0]; rw [if_neg (by omega), if_neg (by omega), if_neg (by omega)], by simp only [h1]; rw [if_neg (by omega), if_neg (by omega), if_neg (by omega)], by simp only [h2]; rw [if_neg (by omega), if_neg (by omega), if_neg (by omega)], h3, h4⟩
 ·intro x hx
  by_cases e : x = j
  ·subst e
   show (if (tl.getD x 0).toNat = y then true else G (tl.getD x 0).toNat) = true
   rw [if_pos (by rw [hgd]; simp)]
  ·by_cases e2 : (tl.getD x 0).toNat = y
   ·show (if (tl.getD x 0).toNat = y then true else G (tl.getD x 0).toNat) = true
    rw [if_pos e2]
   ·show (if (tl.getD x 0).toNat = y then true else G (tl.getD x 0).toNat) = true
    rw [if_neg e2]; exact hall x (by omega)
 ·intro x x' hx hx' he
  by_cases e : x = j
  ·subst e
   by_cases e' : x' = x
   ·subst e'; rfl
   ·rw [← hp]; exact (hc x' (by omega) (he.symm.trans hgd)).symm
  ·by_cases e' : x' = j
   ·subst e'
    rw [← hp]; exact hc x (by omega) (he.trans hgd)
   ·exact h.eq x x' (by omega) (by omega) he
theorem quo_any (S : Nat → Nat → Prop) (S' S3 : Nat → Prop) (f : F) (a na ta : Option Addr) (cap ncap tcap : Nat) (t : V) (tl : List Int) (w : World) (hs : Sl S w a f.t) (hv : Vl S' w na t) (hk : Kinds w) (hi : Ints S3 w ta tl) (hok : sysOk f t = true) (hnd : f.t.nodes ≤ 100000) :
    Calls Tryz.prog 18 #[Sv f a cap na t.len ncap, .slice ta tl.length tcap] w (QuoPost f t tl w) := by
 obtain ⟨k, hkk⟩ : ∃ k, k = f.k := ⟨_, rfl⟩
 have hfv : Sv f a cap na t.len ncap = .agg #[.int .i64 k, .int .i64 f.n, .slice a f.t.len cap, .slice na t.len ncap] := by rw [hkk]
 rw [hfv]
 obtain ⟨N, hN⟩ : ∃ N, N = t.len := ⟨_, rfl⟩
 obtain ⟨L, hL⟩ : ∃ L, L = tl.length := ⟨_, rfl⟩
 obtain ⟨W, hW⟩ : ∃ W : World, W = (w.alloc (Obj.cells #[.int .i64 k, .int .i64 f.n, .slice a f.t.len cap, .slice na N ncap] 27)).alloc (Obj.cells #[.int .i64 0, .int .i64 0, .slice none 0 0, .slice none 0 0] 27) := ⟨_, rfl⟩
 have hWb : Below w.heap.size w W := by rw [hW]; exact ba2 _ _ _
 have k0 : W.heap[w.heap.size]? = some (Obj.cells #[.int .i64 k, .int .i64 f.n, .slice a f.t.len cap, .slice na N ncap] 27 (0, 0)) := by rw [hW]; exact heap_old2 _ _ _
 have k1 : W.heap[w.heap.size + 1]? = some (Obj.cells #[.int .i64 0, .int .i64 0, .slice none 0 0, .slice none 0 0] 27 (0, 0)) := by rw [hW]; exact heap_new2 _ _ _
 obtain ⟨B, hB⟩ : ∃ B, B = w.heap.size := ⟨_, rfl⟩
 rw [← hB] at k0 k1
 have HE := hid (fun x (hx : Below W.heap.size W x) => (show (_ ∧ _ ∧ _ ∧ _) ∧ x.heap[B + 1]? = _ from ⟨cells4' ((hx.block _ (heap_lt k0)).trans k0), (hx.block _ (heap_lt k1)).trans k1⟩))
 have HWB := hid hWb
 have HB := hid hB
 have HBL := hid (heap_lt k1)
 have HCH := hid (fun z (hz : Below W.heap.size W z) => syscheck_any S S' f a na cap ncap t z ((hs.below hWb).below hz) ((hv.below hWb).below hz) ((hk.below hWb).below hz))
 rw [if_pos hok, hfv] at HCH
 have HAR := hid (fun z (hz : Below W.heap.size W z) => areStates_any S3 ta tcap tl 100 z ((hi.below hWb).below hz))
 have HNG := hid (fun z (hz : Below W.heap.size W z) hl => hasNoGap_any S3 ta tcap tl z ((hi.below hWb).below hz) hl)
 have HAF := hid (fun z (hz : Below W.heap.size W z) hl => after_any S3 ta tcap tl z ((hi.below hWb).below hz) hl)
 have HCL := hid (fun z (hz : Below W.heap.size W z) => fcln_any f.t S f.k f.n a cap z ((hs.below hWb).below hz) hnd)
 have HIM := hid (fun z (hz : Below W.heap.size W z) hm hall => images_any S S' S3 f a na ta cap ncap tcap t tl z ((hs.below hWb).below hz) ((hv.below hWb).below hz) ((hk.below hWb).below hz) ((hi.below hWb).below hz) hok hm hall)
 rw [hfv] at HIM
 rw [← hkk] at HCL
 have HI := hid (hi.below hWb)
 have hN100 : N ≤ 100 := by rw [hN]; exact (sys_parts hok).2.1
 have hlt := hi.1
 rw [← hL] at HAR HNG HAF HIM hlt ⊢
 rw [← hN] at HCH HIM ⊢
 have HN := hid hN
 have HL := hid hL
 obtain ⟨⟨c0, c1, c2, c3⟩, hr⟩ := HE.out _ (Below.refl _ _)
 obtain ⟨r0, r1, r2, r3⟩ := cells4' hr
 have rz : ∀ i, W.frozen? ⟨B + 1, i, none⟩ = false := fun i => frozen_of hr
 clear hs hv hk hi hok hnd hfv hkk hN hL hWb k0 k1 hr
 by_cases hlen : L = N
 rotate_left
 ·have HBAD := hid (show ¬ quoOk t tl from fun h => hlen (by rw [HL.out, HN.out]; exact h.1))
  have hlen' : ((L : Int) != (N : Int)) = true := by simp; omega
  clear hlen
  go_enter Tryz.func18, Tryz.ntmps18
  go_upto_region 1 with (fail)
  rw [← hW, ← hB]
  clear hW hB
  go_wp2_with fail
  refine (HCH.out _ (Below.refl _ _)).mono ?_
  rintro e w1 ⟨rfl, hb1⟩
  have HB1 := hid hb1
  clear c0 c1 c2 c3 r0 r1 r2 r3 rz
  obtain ⟨⟨c0, c1, c2, c3⟩, hr⟩ := HE.out _ hb1
  obtain ⟨r0, r1, r2, r3⟩ := cells4' hr
  have rz : ∀ i, w1.frozen? ⟨B + 1, i, none⟩ = false := fun i => frozen_of hr
  have HR := hid hr
  clear hr hb1
  go_wp2_with fail
  obtain ⟨z0, z1, z2, z3⟩ := cells4' (store4 (x0 := .int .i64 0) (x1 := .int .i64 0) (x2 := .slice none 0 0) (x3 := .slice none 0 0) HR.out rfl)
  refine bodyPost_ret (v := .tuple #[.agg #[.int .i64 0, .int .i64 0, .slice none 0 0, .slice none 0 0], .int .i64 1]) (by simp [results, Tryz.results18, go_sem, z0, z1, z2, z3]) rfl ?_
  have hbe : B = w.heap.size := HB.out
  have hb := HWB.out.trans (HB1.out.mono HWB.out.size)
  exact ⟨_, _, _, _, _, _, _, _, 1, rfl, fun _ => rfl, fun h => absurd h HBAD.out, (((hb.setCell (p := ⟨B + 1, 0, none⟩) (by simp; omega) _).setCell (p := ⟨B + 1, 1, none⟩) (by simp; omega) _).setCell (p := ⟨B + 1, 2, none⟩) (by simp; omega) _).setCell (p := ⟨B + 1, 3, none⟩) (by simp; omega) _⟩
 ·have hlen' : ((L : Int) != (N : Int)) = false := by simp; omega
  obtain ⟨q1, hq1⟩ : ∃ q1 : Bool, q1 = tl.all (fun x => decide (0 ≤ x ∧ x < 100)) := ⟨_, rfl⟩
  rw [← hq1] at HAR
  have HQ1 := hid hq1
  have HLN := hid hlen
  clear hlen hq1
  go_enter Tryz.func18, Tryz.ntmps18
  go_upto_region 1 with (fail)
  rw [← hW, ← hB]
  clear hW hB
  go_wp2_with fail
  refine (HCH.out _ (Below.refl _ _)).mono ?_
  rintro e w1 ⟨rfl, hb1⟩
  have HB1 := hid hb1
  clear c0 c1 c2 c3 r0 r1 r2 r3 rz
  obtain ⟨⟨c0, c1, c2, c3⟩, hr⟩ := HE.out _ hb1
  obtain ⟨r0, r1, r2, r3⟩ := cells4' hr
  have rz : ∀ i, w1.frozen? ⟨B + 1, i, none⟩ = false := fun i => frozen_of hr
  have HR := hid hr
  clear hr
  clear hb1
  go_wp2_with fail
  refine (HAR.out _ HB1.out).mono ?_
  rintro e w2 ⟨rfl, hb2⟩
  have HB2 := hid (HB1.out.trans (hb2.mono HB1.out.size))
  clear HR
  clear c0 c1 c2 c3 r0 r1 r2 r3 rz
  obtain ⟨⟨c0, c1, c2, c3⟩, hr⟩ := HE.out _ HB2.out
  obtain ⟨r0, r1, r2, r3⟩ := cells4' hr
  have rz : ∀ i, w2.frozen? ⟨B + 1, i, none⟩ = false := fun i => frozen_of hr
  have HR := hid hr
  clear hr
  clear hb2
  cases q1 with
  | false =>
   have HBAD := hid (show ¬ quoOk t tl from fun h => by have := h.2.1; rw [← HQ1.out] at this; cases this)
   go_wp2_with fail
   obtain ⟨z0, z1, z2, z3⟩ := cells4' (store4 (x0 := .int .i64 0) (x1 := .int .i64 0) (x2 := .slice none 0 0) (x3 := .slice none 0 0) HR.out rfl)
   refine bodyPost_ret (v := .tuple #[.agg #[.int .i64 0, .int .i64 0, .slice none 0 0, .slice none 0 0], .int .i64 1]) (by simp [results, Tryz.results18, go_sem, z0, z1, z2, z3]) rfl ?_
   have hbe : B = w.heap.size := HB.out
   have hb := HWB.out.trans (HB2.out.mono HWB.out.size)
   exact ⟨_, _, _, _, _, _, _, _, 1, rfl, fun _ => rfl, fun h => absurd h HBAD.out, (((hb.setCell (p := ⟨B + 1, 0, none⟩) (by simp; omega) _).setCell (p := ⟨B + 1, 1, none⟩) (by simp; omega) _).setCell (p := ⟨B + 1, 2, none⟩) (by simp; omega) _).setCell (p := ⟨B + 1, 3, none⟩) (by simp; omega) _⟩
  | true =>
   have hl0 : ∀ y ∈ tl, 0 ≤ y ∧ y < 100 := fun y hy => by have := List.all_eq_true.1 HQ1.out.symm y hy; exact of_decide_eq_true this
   have HL0 := hid hl0
   clear hl0
   go_wp2_with fail
   refine (HNG.out _ HB2.out HL0.out).mono ?_
   rintro e w3 ⟨q2, rfl, hq2, hb3⟩
   have HQ2 := hid hq2
   have HB3 := hid (HB2.out.trans (hb3.mono HB2.out.size))
   clear HR
   clear c0 c1 c2 c3 r0 r1 r2 r3 rz
   obtain ⟨⟨c0, c1, c2, c3⟩, hr⟩ := HE.out _ HB3.out
   obtain ⟨r0, r1, r2, r3⟩ := cells4' hr
   have rz : ∀ i, w3.frozen? ⟨B + 1, i, none⟩ = false := fun i => frozen_of hr
   have HR := hid hr
   clear hr
   clear hb3 hq2
   cases q2 with
   | false =>
    have HBAD := hid (show ¬ quoOk t tl from fun h => by have := HQ2.out.2 h.2.2; cases this)
    go_wp2_with fail
    obtain ⟨z0, z1, z2, z3⟩ := cells4' (store4 (x0 := .int .i64 0) (x1 := .int .i64 0) (x2 := .slice none 0 0) (x3 := .slice none 0 0) HR.out rfl)
    refine bodyPost_ret (v := .tuple #[.agg #[.int .i64 0, .int .i64 0, .slice none 0 0, .slice none 0 0], .int .i64 1]) (by simp [results, Tryz.results18, go_sem, z0, z1, z2, z3]) rfl ?_
    have hbe : B = w.heap.size := HB.out
    have hb := HWB.out.trans (HB3.out.mono HWB.out.size)
    exact ⟨_, _, _, _, _, _, _, _, 1, rfl, fun _ => rfl, fun h => absurd h HBAD.out, (((hb.setCell (p := ⟨B + 1, 0, none⟩) (by simp; omega) _).setCell (p := ⟨B + 1, 1, none⟩) (by simp; omega) _).setCell (p := ⟨B + 1, 2, none⟩) (by simp; omega) _).setCell (p := ⟨B + 1, 3, none⟩) (by simp; omega) _⟩
   | true =>
    have HGOOD := hid (show quoOk t tl from ⟨by rw [← HL.out, ← HN.out]; exact HLN.out, HQ1.out.symm, HQ2.out.1 rfl⟩)
    obtain ⟨m, hm⟩ : ∃ m : Nat, aft tl = (m : Int) := ⟨(aft tl).toNat, by have := aft_nonneg tl; omega⟩
    have hm100 : m ≤ 100 := by have := aft_le (l := tl) (m := 100) (by omega) (fun y hy => (HL0.out y hy).2); omega
    have HMM := hid hm
    rw [hm] at HAF
    clear hm r0 r1 r2 r3 rz HR
    have hmkV := makeV m hm100
    have hmkB := run_make_row' (P := Tryz.prog) 85 4 (.bool false) 1 Tryz.underlying85 infoBoolQ rfl .i64 .i64 m (by omega) (by omega)
    go_wp2_with fail
    refine (HCL.out _ HB3.out).mono ?_
    rintro e w4 ⟨fa, fcap, rfl, _, _, hb4⟩
    have HB4 := hid (HB3.out.trans (hb4.mono HB3.out.size))
    clear c0 c1 c2 c3 hb4
    obtain ⟨⟨c0, c1, c2, c3⟩, hr⟩ := HE.out _ HB4.out
    clear hr
    go_wp2_with fail
    refine (HAF.out _ HB4.out HL0.out).mono ?_
    rintro e w5 ⟨rfl, hb5⟩
    have HB5 := hid (HB4.out.trans (hb5.mono HB4.out.size))
    clear c0 c1 c2 c3 hb5
    obtain ⟨⟨c0, c1, c2, c3⟩, hr⟩ := HE.out _ HB5.out
    clear hr
    go_upto_region 7 with (fail)
    obtain ⟨nb, hnb⟩ : ∃ nb, nb = w5.heap.size := ⟨_, rfl⟩
    obtain ⟨Y, hY⟩ : ∃ Y : World, Y = ((w5.alloc (Obj.cells (madeCells #[.int .i64 0, .slice none 0 0, .slice none 0 0] (m * 3)) 58)).alloc (Obj.cells #[.int .i64 k, .int .i64 f.n, .slice fa f.t.len fcap, .slice (some ⟨w5.heap.size, 0, none⟩) m m] 27)).alloc (Obj.cells (madeCells #[.bool false] m) 4) := ⟨_, rfl⟩
    rw [← hY]
    obtain ⟨y0, y1, y2, y3, y4⟩ := quo_laid _ _ _ _ _ _ _ hY
    rw [← hnb] at y0 y1 y2 y3 y4 ⊢
    have HBN := hid (show B + 1 < nb by have := HBL.out; have := HB5.out.size; omega)
    have HBY := hid (HB5.out.trans (y4.mono (by have := HB5.out.size; omega)))
    have HWN := hid (show W.heap.size ≤ nb by rw [hnb]; exact HB5.out.size)
    clear hY y4 c0 c1 c2 c3 hmkV hmkB hnb
    obtain ⟨⟨c0, c1, c2, c3⟩, hr⟩ := HE.out _ HBY.out
    have HR := hid hr
    have HIMY := hid (HIM.out _ HBY.out (by rw [HL.out, HN.out]; exact HGOOD.out.1) HQ1.out.symm)
    have hY0 := row_some y0
    rw [size_madeCells] at hY0
    have HY0 := hid hY0
    have HY1 := hid y1
    have HY2 := hid y2
    have HYS := hid y3
    clear hr y0 y1 y2 y3 hY0
    go_wp2_with fail
    refine HIMY.out.mono ?_
    rintro e w6 ⟨ra, rcap, rfl, hrv, hb6⟩
    have HB6 := hid hb6
    have HRV := hid hrv
    clear hb6 hrv c0 c1 c2 c3
    go_wp2_with fail
    have hb6 := HB6.out
    have h6s := hb6.size
    have hys := HYS.out
    go_loopw [8, 9, 10, 47] (fun _ _ _ i wr => ∃ j : Nat, j ≤ N ∧ i = .int .i64 j ∧ QIn Y.heap.size f t tl m nb (nb + 1 + 1) j w6 wr) (fun _ _ _ i _ => N - (intOf i).toNat)
    case atStart => exact ⟨0, Nat.zero_le _, rfl, ⟨⟨_, fun _ => false, HY0.out.of_block (hb6.block _ (by omega)), HY2.out.of_block (hb6.block _ (by omega)), fun y _ h => (by cases h), fun x h => absurd h (by omega)⟩, fun x x' h => absurd h (by omega), Kept.refl _ _⟩⟩
    case round =>
     obtain ⟨j, hj, rfl, hq⟩ := hrel
     have hkp := hq.kp
     have HQI := hid hq
     have hcx : ∀ {b : Nat} {o : Obj}, Y.heap[b]? = some o → b ≠ nb → b ≠ nb + 1 + 1 → wr.heap[b]? = some o := fun {b o} h h1 h2 => hkp.heap (fun e => by omega) ((hb6.block _ (heap_lt h)).trans h)
     have hBn := HBN.out
     have hsz := HBY.out.size
     have HRW := hid (hcx HR.out (by omega) (by omega))
     have HBX := hid (hcx HY1.out (by omega) (by omega))
     have hW6 : Below W.heap.size W w6 := HBY.out.trans (hb6.mono hsz)
     have HWR := hid (show Below W.heap.size W wr from hW6.trans (hkp.toBelow hW6.size (fun k hk e => by have := HWN.out; omega)))
     clear hcx hW6
     by_cases hlt : j < N
     ·have hjt : j < t.len := by rw [← HN.out]; exact hlt
      have hjl : j < tl.length := by rw [HGOOD.out.1]; exact hjt
      obtain ⟨F, G, hF, hG, hex, hall⟩ := HQI.out.ex
      obtain ⟨xb, xo, xa, xc, xd, xe, rfl, _, x0, x1, x2, hxv, hxi⟩ := (HRV.out.keptP hkp (fun b h e => by omega)).el (i := j) (by rw [mapL_len]; exact hjt)
      rw [mapL_el _ _ _ _ hjt] at x0 x1 x2 hxv hxi
      obtain ⟨th, ho, rfl, y0⟩ := (HI.out.below HWR.out).get hjl
      have hyb := HL0.out tl[j] (List.getElem_mem _)
      obtain ⟨y, hy⟩ : ∃ y : Nat, tl[j] = (y : Int) := ⟨tl[j].toNat, by omega⟩
      have hym : y < m := by have := aft_gt tl[j] (List.getElem_mem _); rw [HMM.out, hy] at this; omega
      have hgd : tl.getD j 0 = (y : Int) := by simp [List.getD, List.getElem?_eq_getElem hjl, hy]
      rw [hy] at y0
      obtain ⟨p, hp⟩ : ∃ p, p = mapE (toH tl) f (t.el j) := ⟨_, rfl⟩
      rw [← hp] at x0 x1 x2 hxv hxi
      obtain ⟨pn, pk, pw⟩ := p
      simp only at x0 x1 x2 hxv hxi
      obtain ⟨X, hX⟩ : ∃ X : World, X = wr.alloc (Obj.cells #[.int .i64 pn, .slice xa pk.len xc, .slice xd pw.length xe] 58) := ⟨_, rfl⟩
      obtain ⟨vb, hvb⟩ : ∃ vb, vb = wr.heap.size := ⟨_, rfl⟩
      have hXb : X.heap[vb]? = some (Obj.cells #[.int .i64 pn, .slice xa pk.len xc, .slice xd pw.length xe] 58 (0, 0)) := by rw [hX, hvb]; exact heap_new _ _
      have hwX : Below wr.heap.size wr X := by rw [hX]; exact ba _ _
      have HWX := hid hwX
      have HXB := hid hXb
      have HXV := hid hxv
      have HXI := hid hxi
      have HP := hid hp
      have HGD := hid hgd
      have HYM := hid hym
      have HXF := hid (hF.of_block (hwX.block _ hF.lt))
      have HXG := hid (hG.of_block (hwX.block _ hG.lt))
      have HEX := hid (hex y hym)
      have HALL := hid hall
      have y1 := cell_below hwX y0
      obtain ⟨g, hg⟩ : ∃ g, g = G y := ⟨_, rfl⟩
      have hG1 := HXG.out.cell hym
      simp only [← hg] at hG1
      rw [← hg] at HEX
      have HG1 := hid hG1
      have HGG := hid hg
      have hymI : (y : Int) < (m : Int) := by omega
      have hymI' := hym
      have hjL : (j : Int) < (L : Int) := by have := HL.out; omega
      have hjN : (j : Int) < (N : Int) := by omega
      clear hF hG hex hall hxv hxi hp hgd hyb hy hXb hwX hq hkp hjt hjl hG1 hg
      go_upto_region 9 with (fail)
      go_upto_region 10 with (fail)
      rw [← hX, ← hvb]
      clear hX hvb x0 x1 x2 y0
      go_upto_region 11 with (fail)
      have hXn : wr.heap.size ≤ X.heap.size := HWX.out.size
      cases g with
      | false =>
       have HZ := hid (fun z (hz : Below X.heap.size X z) => cell_below hz HG1.out)
       refine wp_region_plan (by rfl) (fun z : World => Below X.heap.size X z)
        [some (.slice (some ⟨nb + 1 + 1, 0, none⟩) m m), some (.int .i64 (y : Int)), some (.pointer (some ⟨nb + 1 + 1, y, none⟩)), some (.bool false), some (.bool false), none, none, none, none, none, none, none, none, some (.bool false)] ?aF ?haF _ rfl (by kernel_rfl) (Below.refl _ _).drew ?hall ?hend
       case haF => (simp only [layAll, Act.put, Option.getD_some, Option.getD_none, List.setIfInBounds_toArray, List.set_cons_zero, List.set_cons_succ]; rfl)
       case hall =>
        repeat (first | (refine Steps.cons (v := none) rfl ?_) | (refine Steps.cons ⟨rfl, fun K z hS hK => ?_⟩ ?_; rotate_left))
        ·exact Steps.nil
        all_goals
         have g0 := HZ.out z hS
         (go_simp; exact hK _ hS)
       case hend =>
        intro z hz
        have HZX := hid (HWX.out.trans (hz.mono HWX.out.size))
        obtain ⟨p0, p1, p2⟩ := cells_of ((hz.block _ (heap_lt HXB.out)).trans HXB.out)
        have hbz := (HZX.out.block _ (heap_lt HBX.out)).trans HBX.out
        obtain ⟨b0, b1, b2, b3⟩ := cells4' hbz
        have hnz := HXF.out.of_block (hz.block _ HXF.out.lt)
        have hsz2 := HXG.out.of_block (hz.block _ HXG.out.lt)
        have f0 : ∀ i, z.frozen? ⟨nb, i, none⟩ = false := fun i => hnz.frozen i
        have f1 : ∀ i, z.frozen? ⟨nb + 1 + 1, i, none⟩ = false := fun i => hsz2.frozen i
        have e0 := hnz.cell (i := y * 3) (by omega)
        have e1 := hnz.cell (i := y * 3 + 1) (by omega)
        have e2 := hnz.cell (i := y * 3 + 2) (by omega)
        have e3 := hsz2.cell hymI'
        have HST := hid (HQI.out.step (xc := xc) (xe := xe) HZX.out HP.out HGD.out HYM.out HXV.out HXI.out (fun x hx he => by have := HALL.out x hx; rw [he, Int.toNat_natCast, ← HGG.out] at this; cases this) (by omega) (by omega) (by omega))
        clear hz hbz hnz hsz2
        go_wp2_with fail
        go_roundw
        case rel => exact ⟨j + 1, by omega, by go_num, HST.out⟩
        case measure => simp [intOf]; omega
      | true =>
       obtain ⟨x0', hx0, hxy, ya, yc, yd, ye, r0, r1, r2, hyv, hyi⟩ := HEX.out rfl
       obtain ⟨q, hq⟩ : ∃ q, q = mapE (toH tl) f (t.el x0') := ⟨_, rfl⟩
       rw [← hq] at r0 r1 r2 hyv hyi
       obtain ⟨qn, qk, qw⟩ := q
       simp only at r0 r1 r2 hyv hyi
       have hwx := HWX.out
       have u0 := HXF.out.cell (i := y * 3) (by omega)
       have u1 := HXF.out.cell (i := y * 3 + 1) (by omega)
       have u2 := HXF.out.cell (i := y * 3 + 2) (by omega)
       simp only [r0, r1, r2] at u0 u1 u2
       have HCL := hid (fun z (hz : Below X.heap.size X z) => svalue_any pn qn pk qk pw qw _ _ xa ya xd yd xc yc xe ye z ((HXV.out.below hwx).below hz) ((HXI.out.below hwx).below hz) ((hyv.below hwx).below hz) ((hyi.below hwx).below hz))
       obtain ⟨b, hbq⟩ : ∃ b : Bool, b = decide ((pn, pk, pw) = (qn, qk, qw)) := ⟨_, rfl⟩
       rw [← hbq] at HCL
       have hxb := (hwx.block _ (heap_lt HBX.out)).trans HBX.out
       obtain ⟨_, _, _, b3⟩ := cells4' hxb
       obtain ⟨p0, p1, p2⟩ := cells_of HXB.out
       have hg1 := HG1.out
       have HZ := hid (fun z (hz : Below X.heap.size X z) => (show _ ∧ _ ∧ _ ∧ _ ∧ _ ∧ _ ∧ _ ∧ _ from ⟨cell_below hz hg1, cell_below hz u0, cell_below hz u1, cell_below hz u2, cell_below hz p0, cell_below hz p1, cell_below hz p2, cell_below hz b3⟩))
       have HEQ := hid (show b = true ↔ mapE (toH tl) f (t.el j) = mapE (toH tl) f (t.el x0') by rw [← HP.out, ← hq, hbq, decide_eq_true_eq])
       have HX0 := hid hx0
       have HXY := hid hxy
       clear hyv hyi hq r0 r1 r2 u0 u1 u2 b3 p0 p1 p2 hg1 hxb hbq hwx hx0 hxy
       refine wp_region_plan (by rfl) (fun z : World => Below X.heap.size X z)
        [some (.slice (some ⟨nb + 1 + 1, 0, none⟩) m m), some (.int .i64 (y : Int)), some (.pointer (some ⟨nb + 1 + 1, y, none⟩)), some (.bool true), some (.bool true), some (Vv pn xa pk.len xc xd pw.length xe), some (.pointer (some ⟨nb + 1, 3, none⟩)), some (.slice (some ⟨nb, 0, none⟩) m m), some (.int .i64 (y : Int)), some (.pointer (some ⟨nb, y * 3, none⟩)), some (Vv qn ya qk.len yc yd qw.length ye), some (.bool b), some (.bool (!b)), some (.bool (!b))] ?aG ?haG _ rfl (by kernel_rfl) (Below.refl _ _).drew ?hallG ?hendG
       case haG => (simp only [layAll, Act.put, Option.getD_some, List.setIfInBounds_toArray, List.set_cons_zero, List.set_cons_succ]; rfl)
       case hallG =>
        repeat (first | (refine Steps.cons (v := none) rfl ?_) | (refine Steps.cons ⟨rfl, fun K z hS hK => ?_⟩ ?_; rotate_left))
        ·exact Steps.nil
        all_goals
         obtain ⟨g0, g1, g2, g3, g4, g5, g6, g7⟩ := HZ.out z hS
         first
         | (go_simp; exact hK _ hS)
         | (go_simp; refine callAt (args' := #[Vv pn xa pk.len xc xd pw.length xe, Vv qn ya qk.len yc yd qw.length ye]) rfl ?_; refine (HCL.out z hS).mono ?_; rintro e z2 ⟨rfl, hz2⟩; exact hK _ (hS.trans (hz2.mono hS.size)))
       case hendG =>
        intro z hz
        have HZX := hid (HWX.out.trans (hz.mono HWX.out.size))
        have HZR := hid ((HZX.out.block _ (heap_lt HRW.out)).trans HRW.out)
        cases b with
        | true =>
         obtain ⟨p0, p1, p2⟩ := cells_of ((hz.block _ (heap_lt HXB.out)).trans HXB.out)
         have hbz := (HZX.out.block _ (heap_lt HBX.out)).trans HBX.out
         obtain ⟨b0, b1, b2, b3⟩ := cells4' hbz
         have hnz := HXF.out.of_block (hz.block _ HXF.out.lt)
         have hsz2 := HXG.out.of_block (hz.block _ HXG.out.lt)
         have f0 : ∀ i, z.frozen? ⟨nb, i, none⟩ = false := fun i => hnz.frozen i
         have f1 : ∀ i, z.frozen? ⟨nb + 1 + 1, i, none⟩ = false := fun i => hsz2.frozen i
         have e0 := hnz.cell (i := y * 3) (by omega)
         have e1 := hnz.cell (i := y * 3 + 1) (by omega)
         have e2 := hnz.cell (i := y * 3 + 2) (by omega)
         have e3 := hsz2.cell hymI'
         have HST := hid (HQI.out.step (xc := xc) (xe := xe) HZX.out HP.out HGD.out HYM.out HXV.out HXI.out (fun x hx he => (HQI.out.eq x x0' hx HX0.out (he.trans HXY.out.symm)).trans ((HEQ.out.1 rfl).symm.trans HP.out.symm)) (by omega) (by omega) (by omega))
         clear hz hbz hnz hsz2
         go_wp2_with fail
         go_roundw
         case rel => exact ⟨j + 1, by omega, by go_num, HST.out⟩
         case measure => simp [intOf]; omega
        | false =>
         have HBAD := hid (show ¬ quoEq f t tl t.len from fun h => by
          have h1 := HEQ.out.2 (h j x0' (by have := HN.out; omega) (by have := HN.out; have := HX0.out; omega) (HGD.out.trans HXY.out.symm))
          cases h1)
         have hrz := HZR.out
         obtain ⟨r0, r1, r2, r3⟩ := cells4' hrz
         have rz : ∀ i, z.frozen? ⟨B + 1, i, none⟩ = false := fun i => frozen_of hrz
         clear hrz hz
         go_wp2_with fail
         obtain ⟨z0, z1, z2, z3⟩ := cells4' (store4 (x0 := .int .i64 0) (x1 := .int .i64 0) (x2 := .slice none 0 0) (x3 := .slice none 0 0) HZR.out rfl)
         refine bodyPost_ret (v := .tuple #[.agg #[.int .i64 0, .int .i64 0, .slice none 0 0, .slice none 0 0], .int .i64 4]) (by simp [results, Tryz.results18, go_sem, z0, z1, z2, z3]) rfl ?_
         have hbe : B = w.heap.size := HB.out
         have hb := HWB.out.trans ((HWR.out.trans (HZX.out.mono HWR.out.size)).mono HWB.out.size)
         exact ⟨_, _, _, _, _, _, _, _, 4, rfl, fun h => absurd HGOOD.out h, fun _ => ⟨fun h => absurd h HBAD.out, fun _ => rfl⟩, (((hb.setCell (p := ⟨B + 1, 0, none⟩) (by simp; omega) _).setCell (p := ⟨B + 1, 1, none⟩) (by simp; omega) _).setCell (p := ⟨B + 1, 2, none⟩) (by simp; omega) _).setCell (p := ⟨B + 1, 3, none⟩) (by simp; omega) _⟩
     ·obtain rfl : j = N := by omega
      have HOKQ := hid (show quoEq f t tl t.len by rw [← HN.out]; exact HQI.out.eq)
      have hrz := HRW.out
      obtain ⟨r0, r1, r2, r3⟩ := cells4' hrz
      have rz : ∀ i, wr.frozen? ⟨B + 1, i, none⟩ = false := fun i => frozen_of hrz
      obtain ⟨b0, b1, b2, b3⟩ := cells4' HBX.out
      clear hrz hq hkp
      go_wp2_with fail
      obtain ⟨z0, z1, z2, z3⟩ := cells4' (store4 (x0 := .int .i64 k) (x1 := .int .i64 f.n) (x2 := .slice fa f.t.len fcap) (x3 := .slice (some ⟨nb, 0, none⟩) m m) HRW.out rfl)
      refine bodyPost_ret (v := .tuple #[.agg #[.int .i64 k, .int .i64 f.n, .slice fa f.t.len fcap, .slice (some ⟨nb, 0, none⟩) m m], .int .i64 0]) (by simp [results, Tryz.results18, go_sem, z0, z1, z2, z3]) rfl ?_
      have hbe : B = w.heap.size := HB.out
      have hb := HWB.out.trans (HWR.out.mono HWB.out.size)
      exact ⟨_, _, _, _, _, _, _, _, 0, rfl, fun h => absurd HGOOD.out h, fun _ => ⟨fun _ => rfl, fun h => absurd HOKQ.out h⟩, (((hb.setCell (p := ⟨B + 1, 0, none⟩) (by simp; omega) _).setCell (p := ⟨B + 1, 1, none⟩) (by simp; omega) _).setCell (p := ⟨B + 1, 2, none⟩) (by simp; omega) _).setCell (p := ⟨B + 1, 3, none⟩) (by simp; omega) _⟩
end Go.Proofs.YtcekilcgpgjooaaGreatDoor
