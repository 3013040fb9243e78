/- Proved here: contracts of the walk to BisimFaults: largestWithin; each under the conditions that its own statement names. -/
import Derived.Test.YtfgpjfgejhahfaaGreatDoorG45
set_option maxRecDepth 100000
set_option maxHeartbeats 12800000
namespace Go.Proofs.YtfgpjfgejhahfaaGreatDoor
open Go Go.RowKit Go.Maps
open Go.Lib (hid)
theorem lw_anyT (S _S2 : Nat → Nat → Prop) (S' S2' S3 : Nat → Prop) (f : F) (a na a2 na2 ar : Option Addr) (cap ncap cap2 ncap2 cr : Nat) (t u : V) (r : List (Int × Int)) (w : World) (hs : Sl S w a f.t) (hv : Vl S' w na t) (hv2 : Vl S2' w na2 u) (hr : Prs S3 w ar r) (hN : r.length ≤ 10000)
    (hy1 : sysOk f t = true) (hy2 : sysOk f u = true) (hrel : ∀ z ∈ r, 0 ≤ z.1 ∧ z.1 < t.len ∧ 0 ≤ z.2 ∧ z.2 < u.len) :
    Calls Tryz.prog 64 #[Sv f a cap na t.len ncap, Sv f a2 cap2 na2 u.len ncap2, .slice ar r.length cr] w fun e w' => ∃ v M, e = .returned v ∧ w'.ownsRow w.heap.size 61 2 v (keptL r M r.length).length (flatP (keptL r M r.length)) ∧ Below w.heap.size w w' ∧ Grt r r.length (phiR f t u r) M := by
 obtain ⟨i0, hi, hz0, hz1, hz2⟩ := info_parts infoInt
 obtain ⟨N, hNN⟩ : ∃ N, N = r.length := ⟨_, rfl⟩
 obtain ⟨q, hq⟩ : ∃ q, q = (N + 63) / 64 := ⟨_, rfl⟩
 rw [← hNN] at hN ⊢
 have hqN : N ≤ 64 * q := by omega
 have hq2 : q ≤ 10000 := by omega
 have HQ := hid hq
 obtain ⟨W, hW⟩ : ∃ W : World, W = (w.alloc (Obj.cells #[.int .i64 f.k, .int .i64 f.n, .slice a f.t.len cap, .slice na t.len ncap] 42)).alloc (Obj.cells #[.int .i64 f.k, .int .i64 f.n, .slice a2 f.t.len cap2, .slice na2 u.len ncap2] 42) := ⟨_, rfl⟩
 have hWb : Below w.heap.size w W := by rw [hW]; exact ba2 _ _ _
 have k0 : W.heap[w.heap.size]? = some (Obj.cells #[.int .i64 f.k, .int .i64 f.n, .slice a f.t.len cap, .slice na t.len ncap] 42 (0, 0)) := by rw [hW]; exact heap_old2 _ _ _
 have k1 : W.heap[w.heap.size + 1]? = some (Obj.cells #[.int .i64 f.k, .int .i64 f.n, .slice a2 f.t.len cap2, .slice na2 u.len ncap2] 42 (0, 0)) := by rw [hW]; exact heap_new2 _ _ _
 have hWs : W.heap.size = w.heap.size + 2 := by rw [hW]; simp
 obtain ⟨bs, hbs⟩ : ∃ bs, bs = w.heap.size := ⟨_, rfl⟩
 rw [← hbs] at k0 k1
 obtain ⟨W1, hW1⟩ : ∃ W1 : World, W1 = (W.alloc (.map #[] 0)).alloc (Obj.cells #[.map (some W.heap.size)] 140) := ⟨_, rfl⟩
 obtain ⟨mb, hmb⟩ : ∃ mb, mb = W.heap.size := ⟨_, rfl⟩
 have hW1b : Below W.heap.size W W1 := by rw [hW1]; exact ba2 _ _ _
 have m0 : MapP W1 mb 0 (fun _ _ => none) := by rw [hW1, hmb]; exact (MapP.made W).same (Below.heap_alloc _ _ _ (by simp))
 have m1 : W1.heap[mb + 1]? = some (Obj.cells #[.map (some mb)] 140 (0, 0)) := by rw [hW1, hmb]; exact heap_new2 _ _ _
 have hW1s : W1.heap.size = mb + 2 := by rw [hW1, hmb]; simp
 obtain ⟨Y, hY⟩ : ∃ Y : World, Y = (W1.alloc (Obj.cells (madeCells #[Value.slice none 0 0] N) 143)).alloc (Obj.cells #[.slice (some ⟨W1.heap.size, 0, none⟩) N N] 141) := ⟨_, rfl⟩
 obtain ⟨ub, hub⟩ : ∃ ub, ub = W1.heap.size := ⟨_, rfl⟩
 have hYb : Below W1.heap.size W1 Y := by rw [hY]; exact ba2 _ _ _
 have y0 : Y.rowIs ub 143 N (fun _ => .slice none 0 0) := by rw [hY, hub]; exact (World.rowIs_made _ _ _ _).alloc _
 have y1 : Y.heap[ub + 1]? = some (Obj.cells #[.slice (some ⟨ub, 0, none⟩) N N] 141 (0, 0)) := by rw [hY, hub]; exact heap_new2 _ _ _
 have hYs : Y.heap.size = ub + 2 := by rw [hY, hub]; simp
 have hP0 : LwP r N q mb (mb + 1) (ub + 1) ub (fun _ => 0) 0 Y := ⟨(m0.congr (fun _ _ => rfl)).same (hYb.block _ m0.lt), (hYb.block _ (heap_lt m1)).trans m1, y1, y0.congr (fun j _ => by simp), fun j hj => by omega⟩
 have HP0 := hid hP0
 have hYW : Below W.heap.size W Y := hW1b.trans (hYb.mono hW1b.size)
 have HYW := hid hYW
 have HE := hid (fun x (hx : Below W.heap.size W x) => And.intro (cells4 ((hx.block _ (heap_lt k0)).trans k0)) (cells4 ((hx.block _ (heap_lt k1)).trans k1)))
 have HWB := hid hWb
 have hl1 := hv.1
 have hl2 := hv2.1
 obtain ⟨hg, hn1, hok1⟩ := sys_parts hy1
 obtain ⟨_, hn2, hok2⟩ := sys_parts hy2
 have HOK := hid (And.intro hok1 hok2)
 have HG := hid hg
 have HIN := hid hrel
 have HP := hid (hr.below hWb)
 have HS := hid (hs.below hWb)
 have HV := hid (hv.below hWb)
 have HV2 := hid (hv2.below hWb)
 have HN := hid hNN
 have hmm := @run_makeMap Tryz.prog
 have hmk := run_make_row' (P := Tryz.prog) 141 143 (.slice none 0 0) 24 Tryz.underlying141 infoMk rfl .i64 .i64 N (by omega) (by omega)
 have HSZ := hid (show W.heap.size = w.heap.size + 2 ∧ mb = W.heap.size ∧ ub = mb + 2 ∧ Y.heap.size = ub + 2 by omega)
 clear hs hv hv2 hr k0 k1 hWb hNN hq hy1 hy2 hrel hg hok1 hok2 m0 m1 y0 y1 hP0 hYb hW1b hYs hW1s hWs hYW
 go_enter Tryz.func64, Tryz.ntmps64
 go_upto_region 1 with (fail)
 rw [← hW, ← hbs]
 clear hW hbs
 go_upto_region 2 with (fail)
 rw [← hW1, ← hmb]
 clear hW1 hmb hmm
 go_upto_region 3 with (fail)
 rw [← hY, ← hub]
 clear hY hub hmk
 go_wp2_with fail
 go_loopw [9, 24] (fun z i wr => ∃ (k : Nat) (v : Value) (ug : Nat → Nat), k ≤ N ∧ v = z ∧ i = .int .i64 k ∧ wr.ownsRow Y.heap.size 3 1 v k ((upI k).map (Value.int .i64)) ∧ LwP r N q mb (mb + 1) (ub + 1) ub ug k wr ∧ (∀ j, j < k → Y.heap.size ≤ ug j) ∧ Kept (fun b => b = mb ∨ b = ub) Y wr) (fun _ i _ => N - (intOf i).toNat)
 case atStart => exact ⟨0, _, fun _ => 0, Nat.zero_le _, rfl, rfl, World.ownsRow_nil _ _ _ _, HP0.out, fun _ h => absurd h (Nat.not_lt_zero _), Kept.refl _ _⟩
 case round =>
  obtain ⟨k, v, ug, hk, rfl, rfl, hown, hlp, hug, hkp⟩ := hrel
  have HO := hid hown
  have HLP := hid hlp
  have HUG := hid hug
  have HK := hid hkp
  clear hown hlp hug hkp
  by_cases hlt : k < N
  ·obtain ⟨p, hp⟩ : ∃ p, r[k]? = some p := ⟨r[k]'(by have := HN.out; omega), List.getElem?_eq_getElem _⟩
   have hBW : Below W.heap.size W wr := HYW.out.trans ((HK.out.toBelow (B := W.heap.size) HYW.out.size (fun j hj e => by have := HSZ.out; have := HWB.out.size; rcases e with rfl | rfl <;> omega)))
   obtain ⟨pb, po, rfl, _, e0, e1⟩ := (HP.out.below hBW).get hp
   have hpin := HIN.out p (List.mem_of_getElem? hp)
   obtain ⟨p1, p2⟩ := p
   simp only at e0 e1 hpin
   obtain ⟨X, hX⟩ : ∃ X : World, X = wr.alloc (.cells #[.int .i64 p1, .int .i64 p2] 61) := ⟨_, rfl⟩
   obtain ⟨xb, hxb⟩ : ∃ xb, xb = wr.heap.size := ⟨_, rfl⟩
   have hXb : X.heap[xb]? = some (.cells #[.int .i64 p1, .int .i64 p2] 61 (0, 0)) := by rw [hX, hxb]; exact heap_new _ _
   obtain ⟨kl, hkl⟩ := keyP (x := p1) (y := p2) (WalkArith.wf_i64 (by omega)) (WalkArith.wf_i64 (by omega))
   have HKL := hid hkl
   have HXB : Below wr.heap.size wr X := by rw [hX]; exact ba _ _
   have hxs2 := HXB.size
   have HLX := hid (HLP.out.kept (Kept.ofBelow (P := fun _ => False) HXB) (fun h => h) (fun h => h) (fun h => h) (fun h => h) (fun _ _ h => h))
   have HOX := hid (row_below HO.out HXB)
   have HKX := hid (HK.out.trans (Kept.ofBelow HXB))
   obtain ⟨D, hownM, hism, hD⟩ := HLX.out.map
   have HOW := hid hownM
   have HIS := hid hism
   have HDD := hid hD
   have x0 := (cells2 hXb).1
   have x1 := (cells2 hXb).2
   have za := cell_of1 HLX.out.at_
   have zu := cell_of1 HLX.out.usr
   have HAT := hid (show ∀ x y, (if x = p1 ∧ y = p2 then some k else atL r k x y) = atL r (k + 1) x y from fun x y => by
    show _ = (if r[k]? = some (x, y) then some k else atL r k x y)
    rw [hp]
    by_cases e : x = p1 ∧ y = p2
    ·rw [if_pos e, if_pos (by rw [e.1, e.2])]
    ·rw [if_neg e, if_neg (fun h => e (by simp only [Option.some.injEq, Prod.mk.injEq] at h; exact ⟨h.1.symm, h.2.symm⟩))])
   have hkm : k < maxLen := by unfold maxLen; omega
   have hxl := heap_lt hXb
   clear hownM hism hD hkl HXB hp hBW
   go_upto_region 7 with (fail)
   rw [← hX, ← hxb]
   clear hX hxb e0 e1
   go_wp2_with (at_mapUpdate; refine wpList_mapUpdate_own _ rfl _ _ _ 140 rfl 61 3 lawP Tryz.underlying140 (plainElem Tryz.prog 3) mb k D rfl HOW.out hkm _ _ kl rfl rfl HKL.out (.lit (.int .i64 (k : Int))) [] (plainElem_int Tryz.underlying3 (WalkArith.wf_i64 (by omega))) ?_; intro w1 hown1 hg1)
   have HM1 := hid ((MapP.put HKL.out HIS.out HDD.out hown1).congr HAT.out)
   have HG1 := hid hg1
   have hz := HSZ.out
   have hxs : X.heap.size ≤ w1.heap.size := hg1.size
   have hk1 := Kept.ofGrown hg1
   have z1 : w1.cell? ⟨ub + 1, 0, none⟩ = some (.slice (some ⟨ub, 0, none⟩) N N) := hk1.cell (by simp; omega) zu
   have hr1 : w1.rowIs ub 143 N (fun j => if j < k then .slice (some ⟨ug j, 0, none⟩) q q else .slice none 0 0) := hk1.rowIs (by simp; omega) HLX.out.row
   have HR1 := hid hr1
   obtain ⟨nb, hnb⟩ : ∃ nb, nb = w1.heap.size := ⟨_, rfl⟩
   have HNB := hid hnb
   have HNM := hid (show Calls Tryz.prog 110 #[.int .i64 (N : Int)] w1.drew (fun e w' => e = .returned (.slice (some ⟨nb, 0, none⟩) q q) ∧ Below w1.heap.size w1 w' ∧ Mk w' nb q (fun _ => false)) from by
    refine (noMarks_any N w1.drew (by omega)).mono ?_
    rintro e w' ⟨rfl, hb, _, hm⟩
    rw [HQ.out, hnb]
    exact ⟨rfl, ⟨hb.os, hb.tape, hb.output, hb.size, hb.block⟩, hm⟩)
   have hN63 : (k : Int) < (N : Int) := by omega
   clear x0 x1 za zu hown1 hg1 hk1 hr1 hnb hz
   go_wp2_with fail
   go_region_held3 (fun x : World => x.cell? ⟨ub + 1, 0, none⟩ = some (.slice (some ⟨ub, 0, none⟩) N N)) (first | exact z1 | exact z2 | exact z3 | fail) (first | (go_at_call 110; refine HNM.out.mono ?_; rintro e w2 ⟨rfl, hb2, hmk2⟩; have z2 := cell_below hb2 z1; have hr2 := HR1.out.of_block (hb2.block ub HR1.out.lt); have s0 := hr2.cell hlt; have s1 := hr2.frozen k; have z3 : (w2.setCell ⟨ub, k, none⟩ (.slice (some ⟨nb, 0, none⟩) q q)).cell? ⟨ub + 1, 0, none⟩ = some (.slice (some ⟨ub, 0, none⟩) N N) := lkCell (by omega) z2; have HB2 := hid hb2; have HMK2 := hid hmk2; clear hb2 hmk2 hr2) | fail)
   obtain ⟨w3, hw3⟩ : ∃ w3 : World, w3 = w2.setCell ⟨ub, k, none⟩ (.slice (some ⟨nb, 0, none⟩) q q) := ⟨_, rfl⟩
   have hz := HSZ.out
   have hY := HK.out.size
   have HL3 := hid (HLX.out.step HG1.out HM1.out HB2.out HMK2.out HNB.out hw3 hlt (by omega) (by omega) (by omega) (by omega) (by omega) (by omega) (fun j hj => by have := HUG.out j hj; omega))
   have HKK := hid (show Kept (fun b => b = mb ∨ b = ub) X w3 by
    rw [hw3]
    have h1 : Kept (fun b => b = mb ∨ b = ub) X w2 := ((Kept.ofGrown HG1.out).mono (fun b _ h => Or.inl (by simpa using h))).trans (Kept.ofBelow HB2.out)
    exact h1.set (p := ⟨ub, k, none⟩) (Or.inl (Or.inr rfl)) _)
   have HK3 := hid (HKX.out.trans HKK.out)
   have HO3 := hid (row_keptP HOX.out HKK.out (fun b hb h => by rcases h with rfl | rfl <;> omega))
   have hnbY : Y.heap.size ≤ nb := by have := HNB.out; omega
   have h3s : Y.heap.size ≤ w3.heap.size := HK3.out.size
   rw [← hw3]
   have hzi : mb + 1 < ub ∧ ub + 1 < Y.heap.size := by omega
   clear hw3 z1 z2 z3 s0 s1 hz
   go_wp2_with (at_builtin; refine wpList_append_own _ rfl _ _ 26 rfl Y.heap.size 3 i0 (.int .i64 0) 1 8 Tryz.underlying26 hi hz0 hz1 hz2 rfl (by decide) _ _ _ rfl (HO3.out.alloc _) ⟨w3.heap.size, 0, none⟩ 1 1 [.int .i64 (k : Int)] rfl rfl (cell_one_new _ _ _) (by intro u hu; simp at hu; subst hu; rfl) (by unfold maxLen; omega) (by omega) (by simp; omega) ?_; intro v' w4 hown' hgrow _)
   have hlr := (HO3.out.alloc (.cells #[.int .i64 (k : Int)] 3)).lt
   have hk4 := (Kept.ofBelow (P := fun b => some b = v.ownBlock) ((Below.refl w3.heap.size w3).alloc (Nat.le_refl _) (.cells #[.int .i64 (k : Int)] 3))).trans (Kept.ofGrown hgrow)
   have HO4 := hid hown'
   have HL4 := hid (HL3.out.kept hk4 (fun e => by have := (hlr _ e.symm).1; omega) (fun e => by have := (hlr _ e.symm).1; omega) (fun e => by have := (hlr _ e.symm).1; omega) (fun e => by have := (hlr _ e.symm).1; omega) (fun j hj e => by
    obtain ⟨U, hU⟩ := HL3.out.sets j hj
    obtain ⟨c, hc⟩ := hU.obj
    exact row_other HO3.out hc (by decide) e))
   have HK4 := hid (show Kept (fun b => b = mb ∨ b = ub) Y w4 by
    refine ⟨?_, ?_, ?_, Nat.le_trans h3s hk4.size, fun b hb hn => ?_⟩
    ·exact hk4.os.trans HK3.out.os
    ·exact hk4.tape.trans HK3.out.tape
    ·exact hk4.output.trans HK3.out.output
    ·rw [hk4.block b (by omega) (fun e => by have := (hlr _ e.symm).1; omega)]; exact HK3.out.block b hb hn)
   clear hown' hgrow hlr hk4
   go_wp2_with fail
   go_roundw
   case rel => exact ⟨k + 1, v', (fun j => if j = k then nb else ug j), by omega, rfl, by go_num, by rw [upI_succ]; simpa using HO4.out, HL4.out, fun j hj => by
    by_cases e : j = k
    ·simp only [e, if_true]; exact hnbY
    ·simp only [e, if_false]; exact HUG.out j (by omega), HK4.out⟩
   case measure => simp [intOf]; omega
  ·obtain rfl : N = k := by omega
   obtain ⟨w5, rfl⟩ : ∃ w5 : World, w5 = wr := ⟨_, rfl⟩
   have hz := HSZ.out
   obtain ⟨rb, hrb⟩ : ∃ rb, rb = w5.heap.size := ⟨_, rfl⟩
   have HU := hid (show ∀ b, UsP N ug b → Y.heap.size ≤ b ∧ b < rb from fun b ⟨j, hj, e⟩ => by
    obtain ⟨U, hU⟩ := HLP.out.sets j hj
    rw [e, hrb]
    exact ⟨HUG.out j hj, hU.lt⟩)
   have HYB := hid (show Y.heap.size ≤ rb by rw [hrb]; exact HK.out.size)
   have HNM := hid (show Calls Tryz.prog 110 #[.int .i64 (N : Int)] w5 (fun e w' => e = .returned (.slice (some ⟨rb, 0, none⟩) q q) ∧ Below w5.heap.size w5 w' ∧ Mk w' rb q (fun _ => false)) from by
    refine (noMarks_any N w5 (by omega)).mono ?_
    rintro e w' ⟨rfl, hb, _, hm⟩
    rw [HQ.out, hrb]
    exact ⟨rfl, hb, hm⟩)
   have HRB := hid hrb
   clear hrb hz
   go_wp2_with fail
   refine HNM.out.mono ?_
   rintro e w6 ⟨rfl, hb6, hm6⟩
   obtain ⟨Z, hZ⟩ : ∃ Z : World, Z = w6.alloc (Obj.cells #[.slice (some ⟨rb, 0, none⟩) q q] 143) := ⟨_, rfl⟩
   obtain ⟨vr, hvr⟩ : ∃ vr, vr = w6.heap.size := ⟨_, rfl⟩
   have h6Z : Below w6.heap.size w6 Z := by rw [hZ]; exact ba _ _
   have h5Z : Below w5.heap.size w5 Z := hb6.trans (h6Z.mono hb6.size)
   have hz := HSZ.out
   have hs5 := hb6.size
   have hrbl := hm6.lt
   have hM0 : LwM r N q mb (mb + 1) vr (ub + 1) rb ub ug (fun _ => false) Z := by
    have h0 := HLP.out.kept (Kept.ofBelow (P := fun _ => False) h5Z) (fun h => h) (fun h => h) (fun h => h) (fun h => h) (fun _ _ h => h)
    exact ⟨h0.map, h0.at_, by rw [hZ, hvr]; exact heap_new _ _, hm6.same (h6Z.block _ hrbl), h0.usr, h0.row.congr (fun j hj => by simp [hj]), h0.sets⟩
   have hap : Apart N mb (mb + 1) vr (ub + 1) rb ub ug := by
    have hY5 := HYB.out
    have hr := HRB.out
    refine ⟨fun h => ?_, fun h => ?_, fun h => ?_, fun h => ?_, fun h => ?_, fun h => ?_⟩ <;> (have := HU.out _ h; omega)
   have HM0 := hid hM0
   have HAP := hid hap
   have HOZ := hid (row_below HO.out h5Z)
   have HYZ := hid (show Kept (fun b => b = mb ∨ b = ub) Y Z from HK.out.trans (Kept.ofBelow h5Z))
   have HWZ := hid (show Below W.heap.size W Z from HYW.out.trans ((HYZ.out.toBelow (B := W.heap.size) HYW.out.size (fun j hj e => by rcases e with rfl | rfl <;> omega))))
   have HZR := hid (show rb < vr ∧ vr < Z.heap.size by
    have h1 : vr < Z.heap.size := by rw [hZ, hvr]; simp
    omega)
   clear h6Z h5Z hb6 hm6 hM0 hap hz hs5 hrbl
   have HVR := hid hvr
   clear hvr
   go_wp2_with fail
   rw [← hZ, ← HVR.out]
   clear hZ
   go_loopw [9] (fun z wr => ∃ (v : Value) (M : List Nat) (R : Nat → Bool), v = z ∧ wr.ownsRow Y.heap.size 3 1 v M.length (M.map (fun j : Nat => Value.int .i64 (j : Int))) ∧ LwM r N q mb (mb + 1) vr (ub + 1) rb ub ug R wr ∧ Waits N R M ∧ Kept (fun b => UsP N ug b ∨ b = rb) Z wr ∧ LwInv r N (phiR f t u r) R (usOf wr ug) (fun _ => false) M ∧ LwGood r N (phiR f t u r) R) (fun z wr => lwMeasure rb N z wr)
   case atStart => exact ⟨_, List.range N, fun _ => false, rfl, by simpa [upI, Function.comp_def] using HOZ.out, HM0.out, ⟨List.pairwise_lt_range, fun j hj => ⟨List.mem_range.1 hj, rfl⟩⟩, Kept.refl _ _, LwInv.start, LwGood.start⟩
   case round =>
    obtain ⟨v, M, R, rfl, hown, hlm, hwt, hkz, hiv, hgd⟩ := hrel
    obtain ⟨w7, rfl⟩ : ∃ w7 : World, w7 = wr := ⟨_, rfl⟩
    have HO7 := hid hown
    have HM7 := hid hlm
    have HWT := hid hwt
    have HK7 := hid hkz
    have HIV7 := hid hiv
    have HGD7 := hid hgd
    obtain ⟨m, hm⟩ : ∃ m, m = M.length := ⟨_, rfl⟩
    have HMM := hid hm
    rw [← hm] at HO7
    clear hown hlm hwt hkz hm hiv hgd
    have hWB7 := HK7.out
    have HW7 := hid (show Below W.heap.size W w7 from HWZ.out.trans (HK7.out.toBelow (B := W.heap.size) HWZ.out.size (fun j hj e => by
     have hz := HSZ.out
     rcases e with e | rfl
     ·have := (HU.out _ e).1; omega
     ·have := HYB.out; omega)))
    clear hWB7
    obtain ⟨al, cl, rfl⟩ : ∃ al cl, v = .slice al m cl := by
     rcases HO7.out.2 with ⟨h, h2⟩ | ⟨g, c, cur, h, _⟩
     ·exact ⟨none, 0, by rw [h, h2]⟩
     ·exact ⟨_, _, h⟩
    have hr7 := cell_of1 HM7.out.rem
    by_cases h0 : m = 0
    ·subst h0
     have HKP := hid (show Calls Tryz.prog 115 #[.slice ar N cr, .slice (some ⟨rb, 0, none⟩) q q] w7 (fun e w' => ∃ v, e = .returned v ∧ w'.ownsRow w7.heap.size 61 2 v (keptL r R N).length (flatP (keptL r R N)) ∧ Below w7.heap.size w7 w') from by
      have h := kept_any S3 ar cr rb q q r R w7 (HP.out.below HW7.out) HM7.out.gone (by rw [← HN.out]; exact hqN) hq2
      rw [← HN.out] at h
      exact h)
     go_wp2_with fail
     refine HKP.out.mono ?_
     rintro e w8 ⟨x, rfl, hox, hb8⟩
     have HOX := hid hox
     have HB8 := hid (HWB.out.trans ((HW7.out.trans (hb8.mono HW7.out.size)).mono HWB.out.size))
     have HS7 := hid (Nat.le_trans HWB.out.size HW7.out.size)
     clear hox hb8
     go_wp2_with fail
     go_ret
     obtain rfl : M = [] := List.length_eq_zero_iff.1 HMM.out.symm
     exact ⟨x, R, rfl, row_mono HOX.out HS7.out, HB8.out, HIV7.out.done phiR_mono, HGD7.out⟩
    ·have hmp : 0 < m := by omega
     have hmi : (0 : Int) < (m : Int) := by omega
     have hmx : m ≤ 9223372036854775807 := by
      rcases HO7.out.2 with ⟨_, h⟩ | ⟨g, c, cur, _, _, _, h1, h2, _⟩
      ·omega
      ·unfold maxLen at h2; omega
     obtain ⟨g, rfl⟩ : ∃ g, al = some ⟨g, 0, none⟩ := by
      rcases HO7.out.2 with ⟨_, h⟩ | ⟨g, c, cur, h, _⟩
      ·omega
      ·simp only [Value.slice.injEq] at h; exact ⟨g, h.1⟩
     obtain ⟨ab, hab⟩ : ∃ ab, ab = w7.heap.size := ⟨_, rfl⟩
     have HAB := hid hab
     have HNM := hid (show Calls Tryz.prog 110 #[.int .i64 (N : Int)] w7 (fun e w' => e = .returned (.slice (some ⟨ab, 0, none⟩) q q) ∧ Below w7.heap.size w7 w' ∧ Mk w' ab q (fun _ => false)) from by
      refine (noMarks_any N w7 (by omega)).mono ?_
      rintro e w' ⟨rfl, hb, _, hm⟩
      rw [HQ.out, hab]
      exact ⟨rfl, hb, hm⟩)
     clear hab h0
     go_wp2_with fail
     refine HNM.out.mono ?_
     rintro e w8 ⟨rfl, hb8, hm8⟩
     have HA8 := hid hm8
     have HM8 := hid (HM7.out.same hb8)
     have HO8 := hid (row_below HO7.out hb8)
     have HW8 := hid (HW7.out.trans (hb8.mono HW7.out.size))
     have HK8 := hid (HK7.out.trans (Kept.ofBelow hb8))
     have HIV8 := hid (show LwInv r N (phiR f t u r) R (usOf w8 ug) (fun _ => false) (M.drop 0) from HIV7.out.mono (fun j i hj hi hb => Bm.below HM7.out hb8 j i hj (by omega) hb))
     clear hb8 hm8 hr7
     go_wp2_with fail
     go_loopw [54] (fun i wr => ∃ (k : Nat) (R' A : Nat → Bool), k ≤ m ∧ i = .int .i64 k ∧ LwM r N q mb (mb + 1) vr (ub + 1) rb ub ug R' wr ∧ Mk wr ab q A ∧ Came N R R' A (M.take k) ∧ Kept (fun b => UsP N ug b ∨ b = rb ∨ b = ab) w8 wr ∧ LwInv r N (phiR f t u r) R' (usOf wr ug) A (M.drop k) ∧ LwGood r N (phiR f t u r) R') (fun i _ => m - (intOf i).toNat)
     case atStart => exact ⟨0, R, fun _ => false, Nat.zero_le _, rfl, HM8.out, HA8.out, ⟨fun _ _ h => h, fun _ _ h => Or.inl h, Or.inr fun _ => rfl⟩, Kept.refl _ _, HIV8.out, HGD7.out⟩
     case round =>
      obtain ⟨k3, R', A, hk3, rfl, hlm, hmk, hcm, hkz, hiv, hgd⟩ := hrel
      have HM9 := hid hlm
      have HA9 := hid hmk
      have HCM := hid hcm
      have HK9 := hid hkz
      have HIV9 := hid hiv
      have HGD9 := hid hgd
      clear hlm hmk hcm hkz hiv hgd
      by_cases hlt3 : k3 < m
      ·obtain ⟨j, hj⟩ : ∃ j, M[k3]? = some j := ⟨M[k3]'(by have := HMM.out; omega), List.getElem?_eq_getElem _⟩
       obtain ⟨hjN, hRj⟩ := HWT.out.2 j (List.mem_of_getElem? hj)
       have hz := HSZ.out
       have hYB := HYB.out
       have hZR := HZR.out
       have hab7 : Z.heap.size ≤ ab := by rw [HAB.out]; exact HK7.out.size
       have hs8 : ab < w8.heap.size := HA8.out.lt
       have hs9 := HK9.out.size
       have HGN := hid (show ¬ (UsP N ug g ∨ g = rb ∨ g = ab) from by
        rintro (⟨j', hj', e⟩ | e | e)
        ·obtain ⟨U, hU⟩ := HM8.out.sets j' hj'
         obtain ⟨c, hc⟩ := hU.obj
         exact row_other HO8.out hc (by decide) (by rw [← e]; rfl)
        ·obtain ⟨c, hc⟩ := HM8.out.gone.obj
         exact row_other HO8.out hc (by decide) (by rw [← e]; rfl)
        ·obtain ⟨c, hc⟩ := HA8.out.obj
         exact row_other HO8.out hc (by decide) (by rw [← e]; rfl))
       have g8 : w8.cell? ⟨g, k3, none⟩ = some (.int .i64 (j : Int)) := by
        rw [HO8.out.cellAt k3 (by omega), List.getElem?_map, hj]; rfl
       have g9 := HK9.out.cell HGN.out g8
       have HUN := hid (show ∀ b, b < W.heap.size → ¬ (UsP N ug b ∨ b = rb ∨ b = ab) from fun b hb h => by
        rcases h with h | rfl | rfl
        ·have := (HU.out _ h).1; omega
        ·omega
        ·omega)
       have hW9 : Below W.heap.size W wr := HW8.out.trans (HK9.out.toBelow HW8.out.size HUN.out)
       obtain ⟨p, hp⟩ : ∃ p, r[j]? = some p := ⟨r[j]'(by have := HN.out; omega), List.getElem?_eq_getElem _⟩
       have hpin := HIN.out p (List.mem_of_getElem? hp)
       obtain ⟨p1, p2⟩ := p
       simp only at hpin
       obtain ⟨x, rfl⟩ : ∃ x : Nat, p1 = (x : Int) := ⟨p1.toNat, by omega⟩
       obtain ⟨y, rfl⟩ : ∃ y : Nat, p2 = (y : Int) := ⟨p2.toNat, by omega⟩
       have hx : x < t.len := by omega
       have hy : y < u.len := by omega
       obtain ⟨X, hX⟩ : ∃ X : World, X = wr.alloc (.cells #[.int .i64 (j : Int)] 3) := ⟨_, rfl⟩
       obtain ⟨vi, hvi⟩ : ∃ vi, vi = wr.heap.size := ⟨_, rfl⟩
       have hXi : X.heap[vi]? = some (.cells #[.int .i64 (j : Int)] 3 (0, 0)) := by rw [hX, hvi]; exact heap_new _ _
       have hXB : Below wr.heap.size wr X := by rw [hX]; exact ba _ _
       have hXs : X.heap.size = vi + 1 := by rw [hX, hvi]; simp
       have hWX : Below W.heap.size W X := hW9.trans (hXB.mono hW9.size)
       have HMX := hid (HM9.out.same hXB)
       have HAX := hid (HA9.out.same (hXB.block _ HA9.out.lt))
       have HKX := hid (HK9.out.trans (Kept.ofBelow hXB))
       have hlt9 := HM9.out.lt
       have hA9lt := HA9.out.lt
       obtain ⟨pb, po, rfl, _, e0, e1⟩ := (HP.out.below hWX).get hp
       simp only at e0 e1
       have hpl : pb < W.heap.size := by
        obtain ⟨_, _, hpe, _, e2, _⟩ := HP.out.get hp
        cases hpe
        exact lt_of_cell e2
       obtain ⟨b1, o1, ua, uc, uw, ud, rfl, hb1, u0, u1, u2, hus, hui⟩ := (HV.out.lt.below hWX).el hx
       obtain ⟨b2, o2, va, vc, vw, vd, rfl, hb2, v0, v1, v2, hvs, hvi2⟩ := (HV2.out.lt.below hWX).el hy
       obtain ⟨⟨n1, t1, w1'⟩, ht1⟩ : ∃ z, z = t.el x := ⟨_, rfl⟩
       obtain ⟨⟨n2, t2, w2'⟩, ht2⟩ : ∃ z, z = u.el y := ⟨_, rfl⟩
       rw [← ht1] at u0 u1 u2 hus hui
       rw [← ht2] at v0 v1 v2 hvs hvi2
       have hk1 := HOK.out.1 x hx
       have hk2 := HOK.out.2 y hy
       rw [← ht1] at hk1
       rw [← ht2] at hk2
       simp only at u0 u1 u2 hus hui v0 v1 v2 hvs hvi2 hk1 hk2
       obtain ⟨RB, hRB⟩ := relAny_ex (leftR r N R')
       have HPJ := hid hp
       have HT12 := hid (And.intro ht1 ht2)
       obtain ⟨bl, hbl⟩ : ∃ bl, bl = RB f (n1, t1, w1') (n2, t2, w2') := ⟨_, rfl⟩
       have hnvi : ¬ UsP N ug vi := fun h => by have := (HU.out _ h).2; omega
       have HAS := hid (lw_asksT (w0 := X) (r := r) (N := N) (q := q) (mb := mb) (va := mb + 1) (vr := vr) (vu := ub + 1) (rb := rb) (ub := ub) (vi := vi) (i := j) (n := t.len) (m := u.len) (B := X.heap.size) (ug := ug) (R := R') HAP.out hnvi (by omega) (fun b hb => by have := hlt9.2.2.2.2.2.2 b hb; omega) hjN hqN hq2 (by omega) (by omega))
       have HUW := hid (show ∀ b, b < W.heap.size → ¬ UsP N ug b from fun b hb h => HUN.out b hb (Or.inl h))
       have HLI := hid (show LwT r N q mb (mb + 1) vr (ub + 1) rb ub vi j ug R' X.heap.size X (fun _ _ => false) X from ⟨⟨HMX.out, hXi, Nat.le_refl _⟩, Bm.refl _ _ _ _, fun _ _ h => by cases h⟩)
       have HBX := hid (show Bm N q ug wr X from Bm.below HM9.out hXB)
       have HNB := hid (show bl = false → ¬ phiR f t u r j (leftR r N R') from by
        rintro hb ⟨x', y', h1, h2⟩
        rw [hp] at h1
        simp only [Option.some.injEq, Prod.mk.injEq] at h1
        obtain rfl : x = x' := by omega
        obtain rfl : y = y' := by omega
        rw [← ht1, ← ht2] at h2
        have h3 := (hRB _ _ _).2 h2
        rw [← hbl, hb] at h3
        cases h3)
       have HCL := hid (fun z (hz : Kept (UsP N ug) X z) YS (hm : LwT r N q mb (mb + 1) vr (ub + 1) rb ub vi j ug R' X.heap.size X YS z) => relOk_allT t1 X.heap.size (UsP N ug) _ t.len u.len _ _ _ RB (fun b o => S b o ∧ b < W.heap.size) (fun b => b < W.heap.size) f n1 n2 t2 w1' w2' a ua va uw vw cap uc vc ud vd z YS HAS.out hRB hm
        ((HS.out.lt.below hWX).keptP hz (fun b _ h => HUW.out b h.2)) ((hus.keptP hz (fun b h => HUW.out b h.2)).mono (fun _ h => h.2) (fun _ _ _ => rfl)) ((hui.keptP hz (fun b h => HUW.out b h.2)).mono (fun _ h => h.2) (fun _ _ _ => rfl)) ((hvs.keptP hz (fun b h => HUW.out b h.2)).mono (fun _ h => h.2) (fun _ _ _ => rfl)) ((hvi2.keptP hz (fun b h => HUW.out b h.2)).mono (fun _ h => h.2) (fun _ _ _ => rfl)) (fun b _ h => HUW.out b h.2) (fun b h => HUW.out b h) HG.out hk1 hk2)
       rw [← hbl] at HCL
       obtain ⟨⟨c0, c1, c2, c3⟩, d0, d1, d2, d3⟩ := HE.out _ hWX
       have hbsW : bs + 1 < W.heap.size := by
        have h1 := lt_of_cell ((HE.out _ (Below.refl _ _)).2.1)
        exact h1
       have HB3 := hid (fun (z : World) (h : LwI r N q mb (mb + 1) vr (ub + 1) rb ub vi j ug R' X.heap.size z ∧ Kept (UsP N ug) X z) => (show _ ∧ _ ∧ _ ∧ _ ∧ _ ∧ _ ∧ _ ∧ _ ∧ _ ∧ _ ∧ _ ∧ _ ∧ _ ∧ _ from ⟨h.2.cell (HUW.out _ (by omega)) c0, h.2.cell (HUW.out _ (by omega)) c1, h.2.cell (HUW.out _ (by omega)) c2, h.2.cell (HUW.out _ (by omega)) c3, h.2.cell (HUW.out _ hbsW) d3, h.2.cell (HUW.out _ hpl) e0, h.2.cell (HUW.out _ hpl) e1, cell_of1 h.1.2.1, h.2.cell (HUW.out _ hb1.2) u0, h.2.cell (HUW.out _ hb1.2) u1, h.2.cell (HUW.out _ hb1.2) u2, h.2.cell (HUW.out _ hb2.2) v0, h.2.cell (HUW.out _ hb2.2) v1, h.2.cell (HUW.out _ hb2.2) v2⟩))
       have hxi : (x : Int) < (t.len : Int) := by omega
       have hyi : (y : Int) < (u.len : Int) := by omega
       have hji : (j : Int) < (N : Int) := by omega
       have HJ := hid (And.intro hj hRj)
       have HNE := hid (show mb ≠ rb ∧ mb + 1 ≠ rb ∧ vr ≠ rb ∧ ub + 1 ≠ rb ∧ ub ≠ rb ∧ mb ≠ ab ∧ mb + 1 ≠ ab ∧ vr ≠ ab ∧ ub + 1 ≠ ab ∧ rb ≠ ab ∧ ub ≠ ab ∧ vi ≠ rb ∧ vi ≠ ab by omega)
       have HUR := hid (show ∀ b, UsP N ug b → b ≠ rb ∧ b ≠ ab from fun b hb => by have := (HU.out _ hb).2; omega)
       clear hj hRj hz hYB hZR hab7 hs8 hs9 g8 hW9 hp hpin hXi hXB hXs hWX hlt9 hA9lt ht1 ht2 hus hui hvs hvi2 hk1 hk2 hbl hnvi c0 c1 c2 c3 d0 d1 d2 d3 e0 e1 u0 u1 u2 v0 v1 v2 hbsW hb1 hb2 hpl hRB
       go_upto_region 17 with (fail)
       rw [← hX, ← hvi]
       clear hX hvi g9
       go_wp2_with fail
       refine wp_region_planL (by rfl) (fun (L : Nat → Bool) (z : World) => ∃ YS, LwT r N q mb (mb + 1) vr (ub + 1) rb ub vi j ug R' X.heap.size X YS z ∧ Kept (UsP N ug) X z ∧ (L 21 = true → bl = true → relV (tells YS) f (n1, t1, w1') (n2, t2, w2')))
        [some (.pointer (some ⟨bs, 0, none⟩)), some (F.val f a cap), some (.pointer (some ⟨bs, 3, none⟩)), some (.slice (some ⟨b1, o1, none⟩) t.len ncap), some (.slice (some ⟨pb, po, none⟩) N cr), some (.int .i64 (j : Int)), some (.pointer (some ⟨pb, po + j * 2, none⟩)), some (.pointer (some ⟨pb, po + j * 2, none⟩)), some (.int .i64 (x : Int)), some (.pointer (some ⟨b1, o1 + x * 3, none⟩)), some (Vv n1 ua t1.len uc uw w1'.length ud),
         some (.pointer (some ⟨bs + 1, 3, none⟩)), some (.slice (some ⟨b2, o2, none⟩) u.len ncap2), some (.slice (some ⟨pb, po, none⟩) N cr), some (.int .i64 (j : Int)), some (.pointer (some ⟨pb, po + j * 2, none⟩)), some (.pointer (some ⟨pb, po + j * 2 + 1, none⟩)), some (.int .i64 (y : Int)), some (.pointer (some ⟨b2, o2 + y * 3, none⟩)), some (Vv n2 va t2.len vc vw w2'.length vd),
         some (.func (.func 111) #[] #[.pointer (some ⟨mb + 1, 0, none⟩), .pointer (some ⟨vr, 0, none⟩), .pointer (some ⟨ub + 1, 0, none⟩), .pointer (some ⟨vi, 0, none⟩)]), some (.bool bl), some (.bool (!bl))] ?aF ?haF _ rfl (by kernel_rfl) ⟨_, HAS.out.same _ _ _ HLI.out ((Below.refl _ _).drew), (Kept.refl _ _).drew, fun h => (by cases h)⟩ ?hall ?hend
       case haF => (simp only [layAll, Act.put, Option.getD_some, List.setIfInBounds_toArray, List.set_cons_zero, List.set_cons_succ]; rfl)
       case hall =>
        repeat (first | (refine StepsL.cons ⟨rfl, fun K L z hL hS hK => ?_⟩ ?_; rotate_left))
        ·exact StepsL.nil
        all_goals
         obtain ⟨g0, g1, g2, g3, g4, g5, g6, g7, g8, g9, g10, g11, g12, g13⟩ := HB3.out z ⟨hS.choose_spec.1.1, hS.choose_spec.2.1⟩
         obtain ⟨YS, hS1, hS2, hS3⟩ := hS
         first
         | (go_simp; exact hK _ ⟨YS, hS1, hS2, hS3⟩)
         | (go_simp; refine callAt (args' := #[F.val f a cap, Vv n1 ua t1.len uc uw w1'.length ud, Vv n2 va t2.len vc vw w2'.length vd, .func (.func 111) #[] #[.pointer (some ⟨mb + 1, 0, none⟩), .pointer (some ⟨vr, 0, none⟩), .pointer (some ⟨ub + 1, 0, none⟩), .pointer (some ⟨vi, 0, none⟩)]]) rfl ?_; refine (HCL.out z hS2 YS hS1).mono ?_; rintro e z2 ⟨rfl, ⟨Y2, hs2, ht2, hI2⟩, hk2⟩; exact hK _ ⟨Y2, hI2, hS2.trans hk2, fun _ h => ht2 h⟩)
       case hend =>
        intro L w10 hLL ⟨YS, hw10a, hw10b, hw10c⟩
        have hw10 := And.intro hw10a.1 hw10b
        have HL10 := hid hw10.1
        have HTOK := hid (hw10c (hLL 21 (by decide)))
        have HLT := hid hw10a.2
        clear hw10a hw10b hw10c hLL
        have HK10 := hid hw10.2
        have HA10 := hid (HAX.out.same (hw10.2.block _ HAX.out.lt (fun h => (HUR.out _ h).2 rfl)))
        have HKA := hid (HKX.out.trans (hw10.2.mono (fun b _ h => Or.inl h)) : Kept (fun b => UsP N ug b ∨ b = rb ∨ b = ab) w8 w10)
        clear hw10
        have HIV10 := hid (show LwInv r N (phiR f t u r) R' (usOf w10 ug) A (j :: M.drop (k3 + 1)) from by
         have hd : M.drop k3 = j :: M.drop (k3 + 1) := by
          have h1 := List.getElem?_eq_some_iff.1 HJ.out.1
          obtain ⟨h1, h2⟩ := h1
          rw [List.drop_eq_getElem_cons h1, h2]
         rw [← hd]
         exact HIV9.out.mono (fun j' i' hj' hi' hb => (HBX.out.trans HLT.out.1) j' i' hj' (by omega) hb))
        have HTK := hid (show M.take (k3 + 1) = M.take k3 ++ [j] by rw [List.take_add_one, HJ.out.1]; rfl)
        cases bl with
        | true =>
         go_wp2_with fail
         go_roundw
         case rel => exact ⟨k3 + 1, R', A, by omega, by go_num, HL10.out.1, HA10.out, ⟨HCM.out.1, fun z hz h => by rcases HCM.out.2.1 z hz h with h | h; exact Or.inl h; exact Or.inr (by rw [HTK.out]; exact List.mem_append_left _ h), HCM.out.2.2⟩, HKA.out, HIV10.out.pass ⟨YS, ⟨x, y, HPJ.out, by rw [← HT12.out.1, ← HT12.out.2]; exact HTOK.out (by first | rfl | trivial)⟩, fun a b h => let ⟨j', j1, j2, j3⟩ := HLT.out.2 a b h; ⟨j', j1, j2, j3⟩⟩, HGD9.out⟩
         case measure => simp [intOf]; omega
        | false =>
         have z0 := cell_of1 HL10.out.1.rem
         have z1 := cell_of1 HL10.out.2.1
         have HADD := hid (add_any rb q q R' j w10 HL10.out.1.gone (by omega) (by omega))
         go_wp2_with fail
         refine HADD.out.mono ?_
         rintro e w11 ⟨rfl, hm11, hk11⟩
         obtain ⟨e1, e2, e3, e4, e5, e6, e7, e8, e9, e10, e11, e12, e13⟩ := HNE.out
         have HM11 := hid (HL10.out.1.added hk11 hm11 e1 e2 e3 e4 e5 (fun b hb => (HUR.out b hb).1))
         have HI11 := hid (hk11.heap e12 HL10.out.2.1)
         have HA11 := hid (HA10.out.same (hk11.block _ HA10.out.lt (Ne.symm e10)))
         have HK11 := hid (HKA.out.trans (hk11.mono (fun b _ h => Or.inr (Or.inl h))) : Kept (fun b => UsP N ug b ∨ b = rb ∨ b = ab) w8 w11)
         have HB11 := hid (Bm.kept HL10.out.1 hk11 (fun b hb => (HUR.out b hb).1))
         obtain ⟨U, hU⟩ := HM11.out.sets j hjN
         have HU11 := hid hU
         have HALL := hid (addAll_any ab (ug j) q q q A U w11 HA11.out hU (HUR.out _ ⟨j, hjN, rfl⟩).2 (by omega))
         have y0 := cell_of1 HM11.out.usr
         have y1 := cell_of1 HI11.out
         have y2 := HM11.out.row.cell hjN
         clear hm11 hk11 e1 e2 e3 e4 e5 e6 e7 e8 e9 e10 e11 e12 e13 hU z0 z1
         go_wp2_with fail
         refine HALL.out.mono ?_
         rintro e w12 ⟨rfl, hm12, hk12⟩
         obtain ⟨e1, e2, e3, e4, e5, e6, e7, e8, e9, e10, e11, e12, e13⟩ := HNE.out
         have HM12 := hid (HM11.out.kept hk12 e6 e7 e8 e9 e10 e11 (fun b hb => (HUR.out b hb).2))
         have HA12 := hid hm12
         have HB12 := hid (Bm.kept HM11.out hk12 (fun b hb => (HUR.out b hb).2))
         have HIV12 := hid (((HIV10.out.mono (us' := usOf w11 ug) (fun j' i' hj' hi' hb => HB11.out j' i' hj' (by omega) hb)).drop (U := U) (fun i' hi' hb => by rw [← HU11.out.bit (by omega)]; exact hb)).mono (us' := usOf w12 ug) (fun j' i' hj' hi' hb => HB12.out j' i' hj' (by omega) hb))
         have HGD12 := hid (HGD9.out.drop phiR_mono hjN (HNB.out (by first | rfl | trivial)))
         have HK12 := hid (HK11.out.trans (hk12.mono (fun b _ h => Or.inr (Or.inr h))) : Kept (fun b => UsP N ug b ∨ b = rb ∨ b = ab) w8 w12)
         clear hm12 hk12 e1 e2 e3 e4 e5 e6 e7 e8 e9 e10 e11 e12 e13 y0 y1 y2
         have HR2 := hid (show Came N R (fun z => decide (z = j) || R' z) (fun z => A z || U z) (M.take (k3 + 1)) from by
          refine ⟨fun z hz h => by simp [HCM.out.1 z hz h], fun z hz h => ?_, Or.inl ⟨j, hjN, HJ.out.2, by simp⟩⟩
          rw [HTK.out]
          simp only [Bool.or_eq_true, decide_eq_true_eq] at h
          rcases h with rfl | h
          ·exact Or.inr (by simp)
          ·rcases HCM.out.2.1 z hz h with h | h
           ·exact Or.inl h
           ·exact Or.inr (List.mem_append_left _ h))
         go_wp2_with fail
         go_roundw
         case rel => exact ⟨k3 + 1, _, _, by omega, by go_num, HM12.out, HA12.out, HR2.out, HK12.out, HIV12.out, HGD12.out⟩
         case measure => simp [intOf]; omega
      ·obtain rfl : m = k3 := by omega
       obtain ⟨w13, rfl⟩ : ∃ w13 : World, w13 = wr := ⟨_, rfl⟩
       obtain ⟨sb, hsb⟩ : ∃ sb, sb = w13.heap.size := ⟨_, rfl⟩
       have HSB := hid hsb
       have hYs : Y.heap.size ≤ sb := by
        have h1 := HYB.out
        have h2 := HM9.out.gone.lt
        omega
       clear hsb
       go_wp2_with fail
       go_loopw [9, 94] (fun z i wr => ∃ (k : Nat) (v : Value) (M' : List Nat), k ≤ N ∧ v = z ∧ i = .int .i64 k ∧ wr.ownsRow sb 3 1 v M'.length (M'.map (fun j : Nat => Value.int .i64 (j : Int))) ∧ (M'.Pairwise (· < ·) ∧ (∀ j ∈ M', j < k ∧ R' j = false ∧ A j = true) ∧ M'.length ≤ k ∧ ∀ j, j < k → A j = true → R' j = false → j ∈ M') ∧ Below w13.heap.size w13 wr) (fun _ i _ => N - (intOf i).toNat)
       case atStart => exact ⟨0, _, [], Nat.zero_le _, rfl, rfl, World.ownsRow_nil _ _ _ _, ⟨List.Pairwise.nil, by simp, Nat.le_refl _, fun _ h => absurd h (Nat.not_lt_zero _)⟩, Below.refl _ _⟩
       case round =>
        obtain ⟨k, v, M', hk, rfl, rfl, hown, hpw, hb⟩ := hrel
        have HO := hid hown
        have HPW := hid hpw
        have HB := hid hb
        have hml := hpw.2.2.1
        clear hown hpw
        by_cases hlt : k < N
        ·have HHA := hid (has_any ab q q A k wr (HA9.out.same (hb.block _ HA9.out.lt)) (by omega) (by omega))
         cases hAk : A k with
         | false =>
          have HAK := hid hAk
          rw [hAk] at HHA
          clear hb hAk
          go_wp2_with fail
          refine HHA.out.mono ?_
          rintro e w14 ⟨rfl, hb14⟩
          have HB14 := hid (HB.out.trans (hb14.mono HB.out.size))
          have HO14 := hid (row_below HO.out hb14)
          clear hb14
          go_wp2_with fail
          go_roundw
          case rel => exact ⟨k + 1, _, M', by omega, rfl, by go_num, HO14.out, ⟨HPW.out.1, fun j hj => by have := HPW.out.2.1 j hj; exact ⟨by omega, this.2⟩, by omega, fun z hz h1 h2 => by
           by_cases e : z = k
           ·subst e; rw [HAK.out] at h1; cases h1
           ·exact HPW.out.2.2.2 z (by omega) h1 h2⟩, HB14.out⟩
          case measure => simp [intOf]; omega
         | true =>
          have HAK := hid hAk
          rw [hAk] at HHA
          clear hb hAk
          go_wp2_with fail
          refine HHA.out.mono ?_
          rintro e w14 ⟨rfl, hb14⟩
          have HB14 := hid (HB.out.trans (hb14.mono HB.out.size))
          have HO14 := hid (row_below HO.out hb14)
          have HM14 := hid (HM9.out.same HB14.out)
          have HHR := hid (has_any rb q q R' k w14 HM14.out.gone (by omega) (by omega))
          have z0 := cell_of1 HM14.out.rem
          clear hb14
          cases hRk : R' k with
          | true =>
           have HRK := hid hRk
           rw [hRk] at HHR
           clear hRk
           go_wp2_with fail
           refine HHR.out.mono ?_
           rintro e w15 ⟨rfl, hb15⟩
           have HB15 := hid (HB14.out.trans (hb15.mono HB14.out.size))
           have HO15 := hid (row_below HO14.out hb15)
           clear hb15 z0
           go_wp2_with fail
           go_roundw
           case rel => exact ⟨k + 1, _, M', by omega, rfl, by go_num, HO15.out, ⟨HPW.out.1, fun j hj => by have := HPW.out.2.1 j hj; exact ⟨by omega, this.2⟩, by omega, fun z hz h1 h2 => by
            by_cases e : z = k
            ·subst e; rw [HRK.out] at h2; cases h2
            ·exact HPW.out.2.2.2 z (by omega) h1 h2⟩, HB15.out⟩
           case measure => simp [intOf]; omega
          | false =>
           have HRK := hid hRk
           rw [hRk] at HHR
           clear hRk
           go_wp2_with fail
           refine HHR.out.mono ?_
           rintro e w15 ⟨rfl, hb15⟩
           have HB15 := hid (HB14.out.trans (hb15.mono HB14.out.size))
           have HO15 := hid (row_below HO14.out hb15)
           have hs15 : sb ≤ w15.heap.size := by rw [HSB.out]; exact HB15.out.size
           clear hb15 z0
           go_wp2_with (at_builtin; refine wpList_append_own _ rfl _ _ 26 rfl sb 3 i0 (.int .i64 0) 1 8 Tryz.underlying26 hi hz0 hz1 hz2 rfl (by decide) _ _ _ rfl (HO15.out.alloc _) ⟨w15.heap.size, 0, none⟩ 1 1 [.int .i64 (k : Int)] rfl rfl (cell_one_new _ _ _) (by intro u hu; simp at hu; subst hu; rfl) (by unfold maxLen; omega) (by omega) (by simp; omega) ?_; intro v' w16 hown' hgrow _)
           have HO16 := hid hown'
           have HB16 := hid (show Below w13.heap.size w13 w16 from (HB15.out.alloc HB15.out.size _).grown hgrow (by rw [← HSB.out]; simp; omega) (fun j hj => by rw [← HSB.out]; exact (HO15.out.lt j hj).1))
           clear hown' hgrow
           go_wp2_with fail
           go_roundw
           case rel => exact ⟨k + 1, v', M' ++ [k], by omega, rfl, by go_num, by simpa using HO16.out, ⟨List.pairwise_append.2 ⟨HPW.out.1, by simp, fun x hx y hy => by simp only [List.mem_singleton] at hy; subst hy; exact (HPW.out.2.1 x hx).1⟩, fun j hj => by
            rcases List.mem_append.1 hj with h | h
            ·have := HPW.out.2.1 j h; exact ⟨by omega, this.2⟩
            ·simp only [List.mem_singleton] at h; subst h; exact ⟨by omega, HRK.out, HAK.out⟩, by simp; omega, fun z hz h1 h2 => by
            by_cases e : z = k
            ·subst e; simp
            ·exact List.mem_append_left _ (HPW.out.2.2.2 z (by omega) h1 h2)⟩, HB16.out⟩
           case measure => simp [intOf]; omega
        ·obtain rfl : N = k := by omega
         clear hb
         go_wp2_with fail
         go_roundw
         case rel =>
          refine ⟨v, M', R', rfl, row_mono HO.out hYs, HM9.out.same HB.out, ⟨HPW.out.1, fun j hj => ⟨(HPW.out.2.1 j hj).1, (HPW.out.2.1 j hj).2.1⟩⟩, ?_, ((show LwInv r N (phiR f t u r) R' (usOf w13 ug) A [] from by have h := HIV9.out; rwa [List.drop_eq_nil_of_le (by rw [← HMM.out]; exact Nat.le_refl _)] at h).next (fun i hi h1 h2 => HPW.out.2.2.2 i hi h1 h2)).mono (fun j' i' hj' hi' hb => Bm.below HM9.out HB.out j' i' hj' (by omega) hb), HGD9.out⟩
          have hZ8 := HK8.out
          refine ⟨?_, ?_, ?_, ?_, ?_⟩
          ·exact HB.out.os.trans (HK9.out.os.trans hZ8.os)
          ·exact HB.out.tape.trans (HK9.out.tape.trans hZ8.tape)
          ·exact HB.out.output.trans (HK9.out.output.trans hZ8.output)
          ·exact Nat.le_trans hZ8.size (Nat.le_trans HK9.out.size HB.out.size)
          ·intro b hb hn
           have hZ7 : Z.heap.size ≤ ab := by rw [HAB.out]; exact HK7.out.size
           have h8 := hZ8.size
           have h9 := HK9.out.size
           rw [HB.out.block b (by omega), HK9.out.block b (by omega) (fun h => by
            rcases h with h | h | h
            ·exact hn (Or.inl h)
            ·exact hn (Or.inr h)
            ·omega)]
           exact hZ8.block b hb hn
         case measure =>
          have h7 := HM7.out.gone.gaps (k := N) hqN
          have h9 := (HM9.out.same HB.out).gone.gaps (k := N) hqN
          have hRHS : lwMeasure rb N (Value.slice (some { block := g, off := 0 }) m cl) w7 = 1 + gapsM R N := by
           unfold lwMeasure
           simp only [h7]
           rw [if_neg (by omega)]
          rw [hRHS]
          have hLHS : lwMeasure rb N v wr = if M'.length = 0 then 0 else 1 + gapsM R' N := by
           unfold lwMeasure
           rcases HO.out.2 with ⟨rfl, h0⟩ | ⟨g', c', cur, rfl, _⟩
           ·simp [h0]
           ·simp only [h9]
          rw [hLHS]
          by_cases h0 : M'.length = 0
          ·rw [if_pos h0]; omega
          ·rw [if_neg h0]
           obtain ⟨j, hj⟩ : ∃ j, j ∈ M' := by
            cases M' with
            | nil => simp at h0
            | cons z zs => exact ⟨z, by simp⟩
           have hAj := (HPW.out.2.1 j hj).2.2
           rcases HCM.out.2.2 with ⟨j', h1, h2, h3⟩ | h1
           ·have := gapsM_lt HCM.out.1 h1 h2 h3
            omega
           ·rw [h1 j] at hAj; cases hAj
end Go.Proofs.YtfgpjfgejhahfaaGreatDoor
