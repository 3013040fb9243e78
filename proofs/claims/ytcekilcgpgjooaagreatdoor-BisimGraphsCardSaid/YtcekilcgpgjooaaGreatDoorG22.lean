/- Proved here: contracts of the walk to BisimGraphs: bisim.Compose; each under the conditions that its own statement names. -/
import Derived.Test.YtcekilcgpgjooaaGreatDoorG09
import Derived.Test.YtcekilcgpgjooaaGreatDoorG19
import Derived.StillTailTactics
set_option maxRecDepth 100000
set_option maxHeartbeats 3200000
namespace Go.Proofs.YtcekilcgpgjooaaGreatDoor
open Go Go.RowKit





end Go.Proofs.YtcekilcgpgjooaaGreatDoor
namespace Go.Proofs.YtcekilcgpgjooaaGreatDoor
open Go Go.RowKit Go.Maps Go.ChangeShapes
open Go.Lib (hid)
theorem zeroL (w : World) : (zeroValue 45).run Tryz.prog w = .ok (.slice none 0 0) w := by kernel_rfl
theorem infoIc : (Tryz.prog.info? 3).map (fun i => (i.zero, i.size, i.bytes)) = some (some (.int .i64 0), 1, 8) := by kernel_rfl
theorem compA_any (S S2 : Nat → Prop) (a a2 : Option Addr) (cap cap2 : Nat) (r q : List (Int × Int)) (w : World) (hr : Prs S w a r) (hq : Prs S2 w a2 q) (ha : a = none ∧ r = [] ∨ ∃ b o, a = some ⟨b, o, none⟩) (ha2 : a2 = none ∧ q = [] ∨ ∃ b o, a2 = some ⟨b, o, none⟩)
    (hN : r.length ≤ 500) (hM : q.length ≤ 500) (hwr : ∀ p ∈ r, (Lit.int .i64 p.1).wf = true ∧ (Lit.int .i64 p.2).wf = true) (hwq : ∀ p ∈ q, (Lit.int .i64 p.1).wf = true ∧ (Lit.int .i64 p.2).wf = true) :
    Calls Tryz.prog 14 #[.slice a r.length cap, .slice a2 q.length cap2] w fun e w' => ∃ v L, e = .returned v ∧ L.Pairwise ltP' ∧ (∀ x z, (x, z) ∈ L ↔ ∃ y, (x, y) ∈ r ∧ (y, z) ∈ q) ∧ w'.ownsRow w.heap.size 38 2 v L.length (flatP L) ∧ Below w.heap.size w w' := by
 obtain ⟨W, hW⟩ : ∃ W : World, W = w.alloc (.map #[] 0) := ⟨_, rfl⟩
 have HWB := hid (show Below w.heap.size w W by rw [hW]; exact ba _ _)
 have HWM := hid (show W.heap[w.heap.size]? = some (.map #[] 0) by rw [hW]; exact World.alloc_heap_new _ _)
 have hWs : W.heap.size = w.heap.size + 1 := by rw [hW]; simp
 obtain ⟨mb, hmb⟩ : ∃ mb, mb = w.heap.size := ⟨_, rfl⟩
 rw [← hmb] at HWM hWs
 have HMB := hid hmb
 have HWS := hid hWs
 have HDQ := hid (show ∀ cap, Calls Tryz.prog 38 #[.slice a2 q.length cap] W (DiffP W q) from fun cap => by
  refine Calls.mono ?_ (DiffOf.toP (by omega))
  rcases ha2 with ⟨rfl, rfl⟩ | ⟨b, o, rfl⟩
  ·exact diff_nil cap W
  ·exact diff_some S2 b o cap q W (hq.below HWB.out) (by omega))
 have HDR := hid (show ∀ cap W', Below w.heap.size w W' → Calls Tryz.prog 38 #[.slice a r.length cap] W' (DiffP W' r) from fun cap W' hb => by
  refine Calls.mono ?_ (DiffOf.toP (by omega))
  rcases ha with ⟨rfl, rfl⟩ | ⟨b, o, rfl⟩
  ·exact diff_nil cap W'
  ·exact diff_some S b o cap r W' (hr.below hb) (by omega))
 have HWR := hid hwr
 have HWQ := hid hwq
 obtain ⟨M, hMM⟩ : ∃ M, M = q.length := ⟨_, rfl⟩
 obtain ⟨N, hNN⟩ : ∃ N, N = r.length := ⟨_, rfl⟩
 rw [← hMM] at HDQ hM ⊢
 rw [← hNN] at HDR hN ⊢
 have HM := hid hMM
 have HN := hid hNN
 have hmm := @run_makeMap Tryz.prog
 clear hr hq ha ha2 hwr hwq hMM hNN hWs
 go_enter Tryz.func14, Tryz.ntmps14
 go_wp2_with fail
 rw [← hW, ← hmb]
 clear hW hmb
 go_wp2_with (go_at_call 38; refine (HDQ.out _).mono ?_; rintro e W1 ⟨al, L, cl, rfl, hLp, hLm, hLl, hprs, hb1⟩)
 have hL5 : L.length ≤ 500 := by have := HM.out; omega
 have HLP := hid hLp
 have HLM := hid hLm
 have HP := hid hprs
 have HB1 := hid hb1
 have hw1 : mb < W1.heap.size := by have := HWS.out; have := hb1.size; omega
 have HM1 := hid (show W1.heap[mb]? = some (.map #[] 0) by rw [hb1.block mb (by have := HWS.out; omega)]; exact HWM.out)
 obtain ⟨n, hn⟩ : ∃ n, n = L.length := ⟨_, rfl⟩
 have hn5 : n ≤ 500 := by omega
 rw [← hn]
 have HLn := hid hn
 clear hLp hLm hLl hb1 hprs hn hmm hL5
 obtain ⟨i0, hi, hz0, hz1, hz2⟩ := info_parts infoIc
 have HI := hid (show _ ∧ _ ∧ _ ∧ _ from ⟨hi, hz0, hz1, hz2⟩)
 clear hi hz0 hz1 hz2
 go_loopw [17] (fun i wr => ∃ (k : Nat) (D : DataW Unit), k ≤ n ∧ i = .int .i64 k ∧ wr.ownsGroups Tryz.prog 3 W1.heap.size 3 .i64 mb k D ∧ Grp D (L.take k) ∧ Kept (fun j => j = mb) W1 wr) (fun i _ => n - (intOf i).toNat)
 case atStart => exact ⟨0, .map [], Nat.zero_le _, rfl, groups_empty _ _ _ _ _ HM1.out hw1, Grp.start, Kept.refl _ _⟩
 case round =>
  obtain ⟨k, D, hk, rfl, hG, hGr, hkept⟩ := hrel
  have HG := hid hG
  have HGr := hid hGr
  have HK := hid hkept
  have hmlt : mb < wr.heap.size := Nat.lt_of_lt_of_le hw1 hkept.size
  by_cases hlt : k < n
  ·obtain ⟨p, hp⟩ : ∃ p, L[k]? = some p := ⟨L[k]'(by have := HLn.out; omega), List.getElem?_eq_getElem _⟩
   obtain ⟨b, o, rfl, hSb, c0, c1⟩ := (HP.out.kept hkept (fun b hb e => by have := HWS.out; omega)).get hp
   have hpw := HWQ.out p ((HLM.out p).1 (List.mem_of_getElem? hp))
   have HTK := hid (show L.take (k + 1) = L.take k ++ [p] by rw [List.take_add_one, hp]; rfl)
   obtain ⟨p1, p2⟩ := p
   simp only at c0 c1 hpw
   obtain ⟨hwx, hwy⟩ := hpw
   obtain ⟨X, hX⟩ : ∃ X : World, X = wr.alloc (.cells #[.int .i64 p1, .int .i64 p2] 38) := ⟨_, rfl⟩
   obtain ⟨pb, hpb⟩ : ∃ pb, pb = wr.heap.size := ⟨_, rfl⟩
   have hXg : wr.grownBy X none := by rw [hX]; exact World.grownBy_alloc _ _ _
   have hXb : X.heap[pb]? = some (.cells #[.int .i64 p1, .int .i64 p2] 38 (0, 0)) := by rw [hX, hpb]; exact World.alloc_heap_new _ _
   have hXs : W1.heap.size ≤ X.heap.size := Nat.le_trans hkept.size hXg.size
   have hX1 : X.drew.ownsGroups Tryz.prog 3 W1.heap.size 3 .i64 mb k D := groups_later hG (grown_drew hXg)
   obtain ⟨Y, hY⟩ : ∃ Y : World, Y = (X.alloc (.cells #[.int .i64 p2] 3)).drew := ⟨_, rfl⟩
   have hYg : X.drew.grownBy Y none := by rw [hY]; exact World.grownBy_alloc X.drew _ _
   have hY1 : Y.ownsGroups Tryz.prog 3 W1.heap.size 3 .i64 mb k D := groups_later hX1 hYg
   have hkey := keyOf_int_mk Tryz.underlying3 hwx
   obtain ⟨v1, zs1, hrun1, hat1, hoi1, hzl1, hback1⟩ := hX1.at (int_keyed Tryz.underlying3) Tryz.underlying72 (zeroL _) (by unfold maxLen; omega) hkey
   obtain ⟨v2, zs2, hrun2, hat2, hoi2, hzl2, hback2⟩ := hY1.at (int_keyed Tryz.underlying3) Tryz.underlying72 (zeroL _) (by unfold maxLen; omega) hkey
   have e1 := hGr.zs hwx hat1 hoi1
   have e2 := hGr.zs hwx hat2 hoi2
   subst e1
   subst e2
   obtain ⟨zs, hzs⟩ : ∃ zs, zs = vals (L.take k) p1 := ⟨_, rfl⟩
   rw [← hzs] at hoi1 hoi2 hzl1 hat1 hat2
   have HZ := hid hzs
   have HO1 := hid hoi1
   have HO2 := hid hoi2
   have HB1' := hid hback1
   have HB2' := hid hback2
   have HXG := hid hXg
   have HYG := hid hYg
   have HXB := hid hXb
   have HWX := hid hwx
   have HWY := hid hwy
   obtain ⟨x0, x1⟩ := cells2 (show X.drew.heap[pb]? = _ from hXb)
   have hzl : zs.length ≤ k := hzl1
   have HYC := hid (show ∀ j u, [Value.int .i64 p2][j]? = some u → ∃ ad, some (⟨X.heap.size, 0, none⟩ : Addr) = some ad ∧ Y.cell? (ad.add j) = some u from fun j u hu => ⟨_, rfl, by rw [hY]; exact cell_one_new X.drew (.int .i64 p2) 3 j u hu⟩)
   have HWB2 := hid (show Y.heap[pb]? = some (.cells #[.int .i64 p1, .int .i64 p2] 38 (0, 0)) by rw [hYg.block pb (by have := heap_lt hXb; exact this) (by simp)]; exact hXb)
   have hYs : W1.heap.size ≤ Y.heap.size := Nat.le_trans hXs hYg.size
   have hpl : mb < pb := by rw [hpb]; exact hmlt
   have hpX : pb < X.heap.size := heap_lt hXb
   have HYS := hid hYs
   have HPL := hid hpl
   clear hYs hpl
   subst hY
   clear hG hGr hkept hXg hYg hXb hX1 hY1 hat1 hat2 hoi1 hoi2 hback1 hback2 hzs hwx hwy hzl1 hzl2 hkey hp
   go_wp2_with fail
   rw [← hX, ← hpb]
   clear hX hpb
   go_region_held3 (fun x : World => x.cell? ⟨pb, 0, none⟩ = some (.int .i64 p1) ∧ x.cell? ⟨pb, 1, none⟩ = some (.int .i64 p2)) (first | exact ⟨x0, x1⟩ | exact ⟨cellAl x0, cellAl x1⟩ | exact ⟨y0, y1⟩ | exact ⟨z0, z1⟩ | fail) (first | (refine step_append_base (by rfl) _ _ 45 (by rfl) W1.heap.size 3 i0 (.int .i64 0) 1 8 Tryz.underlying45 HI.out.1 HI.out.2.1 HI.out.2.2.1 HI.out.2.2.2 rfl (by omega) v1 zs.length _ (by rfl) (HO1.out.1.alloc _) (some ⟨X.heap.size, 0, none⟩) 1 1 [.int .i64 p2] (by rfl) rfl HYC.out (by intro u hu; simp at hu; subst hu; rfl) (by unfold maxLen; omega) (by omega) HYS.out ?_; intro v3 w3 hown3 hgr3 hat3; obtain ⟨w4, hup, hg4, hgr4⟩ := HB1'.out w3 v3 (zs ++ [p2]) (HYG.out.trans2 hgr3) (ints_snoc HO1.out.2 HWY.out hown3) (by simp; omega) (by rcases hat3 with h | h; (exact Or.inl h); (exact Or.inr ⟨_, h, by simp⟩)); obtain ⟨⟨y0, y1⟩, z0, z1⟩ := pair_kept HWB2.out hgr3 (row_other (HO1.out.1.alloc _) HWB2.out (by decide)) hgr4 HPL.out; have HW4 := hid (show _ ∧ _ from ⟨hg4, ints_snoc HO1.out.2 HWY.out hown3⟩); have HGR := hid (show _ ∧ _ from ⟨hgr3, hgr4⟩); clear hown3 hgr3 hat3 hg4 hgr4) | (refine step_append_base (by rfl) _ _ 45 (by rfl) W1.heap.size 3 i0 (.int .i64 0) 1 8 Tryz.underlying45 HI.out.1 HI.out.2.1 HI.out.2.2.1 HI.out.2.2.2 rfl (by omega) v2 zs.length _ (by rfl) HO2.out.1 (some ⟨X.heap.size, 0, none⟩) 1 1 [.int .i64 p2] (by rfl) rfl HYC.out (by intro u hu; simp at hu; subst hu; rfl) (by unfold maxLen; omega) (by omega) HYS.out ?_; intro v3 w3 hown3 hgr3 hat3; obtain ⟨w4, hup, hg4, hgr4⟩ := HB2'.out w3 v3 (zs ++ [p2]) hgr3 (ints_snoc HO2.out.2 HWY.out hown3) (by simp; omega) (by rcases hat3 with h | h; (exact Or.inl h); (exact Or.inr ⟨_, h, by simp⟩)); obtain ⟨⟨y0, y1⟩, z0, z1⟩ := pair_kept HWB2.out hgr3 (row_other HO2.out.1 HWB2.out (by decide)) hgr4 HPL.out; have HW4 := hid (show _ ∧ _ from ⟨hg4, ints_snoc HO2.out.2 HWY.out hown3⟩); have HGR := hid (show _ ∧ _ from ⟨hgr3, hgr4⟩); clear hown3 hgr3 hat3 hg4 hgr4) | fail)
   all_goals go_wp2_with fail
   all_goals go_roundw
   all_goals first
    | (case measure => simp [intOf]; omega)
    | skip
   all_goals
    case rel =>
     refine ⟨k + 1, _, by omega, by go_num, HW4.out.1, ?_, ?_⟩
     ·rw [HTK.out]
      have h := HGr.out.put HWX.out (by rw [← HZ.out]; exact HW4.out.2)
      rw [← HZ.out] at h
      exact h
     ·have hx := (HK.out.grown HXG.out (fun j e => by cases e)).drew
      first
       | exact (hx.grown (HYG.out.trans2 HGR.out.1) (fun j e => Or.inr (HO1.out.1.lt j e).1)).grown HGR.out.2 (fun j e => by cases e; exact Or.inl rfl)
       | exact (hx.grown (HYG.out.trans2 HGR.out.1) (fun j e => Or.inr (HO2.out.1.lt j e).1)).grown HGR.out.2 (fun j e => by cases e; exact Or.inl rfl)
  ·obtain rfl : k = n := by omega
   obtain ⟨w2, rfl⟩ : ∃ w2 : World, w2 = wr := ⟨_, rfl⟩
   have HBW := hid (show Below w.heap.size w w2 from (HWB.out.trans (HB1.out.mono HWB.out.size)).trans (hkept.toBelow (by have := HMB.out; omega) (fun j hj e => by have := HMB.out; omega)))
   have hGL : Grp D L := by have h := hGr; rw [HLn.out, List.take_length] at h; exact h
   have HGL := hid hGL
   obtain ⟨V, hV⟩ : ∃ V : World, V = w2.alloc (.map #[] 0) := ⟨_, rfl⟩
   have HVB := hid (show Below w2.heap.size w2 V by rw [hV]; exact ba _ _)
   have HVM := hid (show MapH V w2.heap.size 0 (fun _ => false) by rw [hV]; exact MapH.made w2)
   have HDV := hid (fun cap => HDR.out cap V (HBW.out.trans (HVB.out.mono HBW.out.size)))
   have HVS := hid (show V.heap.size = w2.heap.size + 1 by rw [hV]; simp)
   obtain ⟨fb, hfb⟩ : ∃ fb, fb = w2.heap.size := ⟨_, rfl⟩
   have HFB := hid hfb
   rw [← hfb] at HVM HVS
   have hmm := @run_makeMap Tryz.prog
   clear hG hGr hkept hGL HGr
   go_wp2_with fail
   rw [← hV, ← hfb]
   clear hV hfb
   go_wp2_with (go_at_call 38; refine (HDV.out _).mono ?_; rintro e V1 ⟨al2, L2, cl2, rfl, hLp2, hLm2, hLl2, hprs2, hb2⟩)
   have HLM2 := hid hLm2
   have HP2 := hid hprs2
   have HB2 := hid hb2
   have hL25 : L2.length ≤ 500 := by have := HN.out; omega
   obtain ⟨n2, hn2⟩ : ∃ n2, n2 = L2.length := ⟨_, rfl⟩
   have hn25 : n2 ≤ 500 := by omega
   rw [← hn2]
   have HLn2 := hid hn2
   have HV1M := hid (show MapH V1 fb 0 (fun _ => false) from HVM.out.same (hb2.block fb HVM.out.lt))
   have hfv : fb < V1.heap.size := HV1M.out.lt
   clear hLp2 hLm2 hLl2 hprs2 hb2 hn2 hL25 hmm
   go_wp2_with fail
   go_loopw [37] (fun i x => ∃ (k2 m : Nat), k2 ≤ n2 ∧ i = .int .i64 k2 ∧ m ≤ k2 * 500 ∧ MapH x fb m (fun p => decide (p ∈ upTo L L2 k2)) ∧ Kept (fun j => j = fb) V1 x) (fun i _ => n2 - (intOf i).toNat)
   case atStart => exact ⟨0, 0, Nat.zero_le _, rfl, Nat.le_refl _, HV1M.out.congr (fun p => by simp [upTo]), Kept.refl _ _⟩
   case round =>
    obtain ⟨k2, m, hk2, rfl, hm, hmap, hkp⟩ := hrel
    obtain ⟨wo, rfl⟩ : ∃ wo : World, wo = wr := ⟨_, rfl⟩
    have HMP := hid hmap
    have HKP := hid hkp
    have hfo : fb < wo.heap.size := hmap.lt
    have hVo : V.heap.size ≤ wo.heap.size := Nat.le_trans HB2.out.size hkp.size
    have HGW := hid (show w2.grownBy wo none from ⟨hkp.os.trans (HB2.out.os.trans HVB.out.os), hkp.tape.trans (HB2.out.tape.trans HVB.out.tape), hkp.output.trans (HB2.out.output.trans HVB.out.output), Nat.le_trans HVB.out.size hVo, fun i hi _ => (hkp.block i (Nat.lt_of_lt_of_le hi (Nat.le_trans HVB.out.size HB2.out.size)) (fun e => by have := HFB.out; omega)).trans ((HB2.out.block i (Nat.lt_of_lt_of_le hi HVB.out.size)).trans (HVB.out.block i hi))⟩)
    clear hmap hkp
    by_cases hlt2 : k2 < n2
    ·obtain ⟨p, hp⟩ : ∃ p, L2[k2]? = some p := ⟨L2[k2]'(by have := HLn2.out; omega), List.getElem?_eq_getElem _⟩
     obtain ⟨b2, o2, rfl, hSb2, c0, c1⟩ := (HP2.out.kept HKP.out (fun b hb e => by have := HVS.out; omega)).get hp
     have hpw := HWR.out p ((HLM2.out p).1 (List.mem_of_getElem? hp))
     have HTK := hid (show upTo L L2 (k2 + 1) = upTo L L2 k2 ++ (vals L p.2).map (fun z => (p.1, z)) from upTo_succ (by rw [List.take_add_one, hp]; rfl))
     obtain ⟨p1, p2⟩ := p
     simp only at c0 c1 hpw HTK
     obtain ⟨hwx, hwy⟩ := hpw
     have HWX := hid hwx
     obtain ⟨X, hX⟩ : ∃ X : World, X = wo.alloc (.cells #[.int .i64 p1, .int .i64 p2] 38) := ⟨_, rfl⟩
     obtain ⟨pb, hpb⟩ : ∃ pb, pb = wo.heap.size := ⟨_, rfl⟩
     have hXg : wo.grownBy X none := by rw [hX]; exact World.grownBy_alloc _ _ _
     have hXb : X.heap[pb]? = some (.cells #[.int .i64 p1, .int .i64 p2] 38 (0, 0)) := by rw [hX, hpb]; exact World.alloc_heap_new _ _
     obtain ⟨v, zs, hrun, hat, hoi, hzl, _⟩ := (groups_later HG.out (HGW.out.trans2 hXg)).at (int_keyed Tryz.underlying3) Tryz.underlying72 (zeroL _) (by unfold maxLen; omega) (keyOf_int_mk Tryz.underlying3 hwy)
     have ez := HGL.out.zs hwy hat hoi
     obtain ⟨ag, cg, rfl, hform⟩ := ints_form hoi
     obtain ⟨nz, hnz⟩ : ∃ nz, nz = zs.length := ⟨_, rfl⟩
     have hz5 : nz ≤ 500 := by omega
     rw [← hnz] at hrun
     have HNZ := hid hnz
     have HEZ := hid ez
     have HF := hid hform
     have HXM := hid (show MapH X fb m (fun p => decide (p ∈ upTo L L2 k2)) from HMP.out.same (hXg.block fb hfo (by simp)))
     have HXG := hid hXg
     have HXB := hid hXb
     have hfx : fb < X.heap.size := HXM.out.lt
     have hpf : fb < pb := by rw [hpb]; exact hfo
     obtain ⟨x0, x1⟩ := cells2 hXb
     clear hXg hXb hat hoi hform hnz ez hwx hwy hzl hp
     have HX := hid hX
     have HPB := hid hpb
     have hrun' := hrun
     have x1' := x1
     rw [hX] at hrun'
     rw [hX, hpb] at x1'
     clear hX hpb hrun x0 x1
     go_wp2_with fail
     rw [← HX.out, ← HPB.out]
     clear hrun' x1'
     go_loopw [46] (fun i y => ∃ (j m2 : Nat), j ≤ nz ∧ i = .int .i64 j ∧ m2 ≤ k2 * 500 + j ∧ MapH y fb m2 (fun p => decide (p ∈ upTo L L2 k2 ++ (zs.take j).map (fun z => (p1, z)))) ∧ Kept (fun b => b = fb) X y) (fun i _ => nz - (intOf i).toNat)
     case atStart => exact ⟨0, m, Nat.zero_le _, rfl, by omega, HXM.out.congr (fun p => by simp), Kept.refl _ _⟩
     case round =>
      obtain ⟨j, m2, hj, rfl, hm2, hmap2, hkp2⟩ := hrel
      have HMP2 := hid hmap2
      have HKP2 := hid hkp2
      obtain ⟨y0, y1⟩ := cells2 (hkp2.heap (by omega) HXB.out)
      by_cases hlt3 : j < nz
      ·obtain ⟨z, hz⟩ : ∃ z, zs[j]? = some z := ⟨zs[j]'(by have := HNZ.out; omega), List.getElem?_eq_getElem _⟩
       obtain ⟨g, rfl, hgb, hzc, cs, tt, fr, hgh⟩ := HF.out j z hz
       have z0 := hkp2.cell (HXM.out.ne hgh) hzc
       have hwz := (HWQ.out (p2, z) ((HLM.out _).1 (mem_vals.1 (by rw [← HEZ.out]; exact List.mem_of_getElem? hz)))).2
       obtain ⟨kl, hkl⟩ := PKey.mk (p := (p1, z)) HWX.out hwz
       have HTJ := hid (show zs.take (j + 1) = zs.take j ++ [z] by rw [List.take_add_one, hz]; rfl)
       obtain ⟨D2, hown2, htidy, hsz2, hD2⟩ := hmap2
       have HKL := hid hkl
       have HOW := hid hown2
       have HD2 := hid (show _ ∧ _ ∧ _ from ⟨htidy, hsz2, hD2⟩)
       clear hkp2 hzc hgh hwz hkl hown2 htidy hsz2 hD2 hz
       go_wp2_with (at_mapUpdate; refine wpList_mapUpdate_own _ rfl _ _ _ 73 rfl 38 4 lawP Tryz.underlying73 (plainElem Tryz.prog 4) fb m2 D2 rfl HOW.out (by unfold maxLen; omega) _ _ kl rfl rfl HKL.out (.lit (.bool true)) [] (plainElem_bool Tryz.underlying4 true) ?_)
       intro w5 hown5 hg5
       have HM5 := hid (MapH.put HKL.out HD2.out.1 HD2.out.2.1 HD2.out.2.2 hown5)
       have HK5 := hid (HKP2.out.grown hg5 (fun j e => by cases e; exact Or.inl rfl))
       clear hown5 hg5
       go_wp2_with fail
       go_roundw
       case rel => exact ⟨j + 1, m2 + 1, by omega, by go_num, by omega, HM5.out.congr (fun p => by rw [dec_snoc, HTJ.out, List.map_append, ← List.append_assoc]; rfl), HK5.out⟩
       case measure => simp [intOf]; omega
      ·obtain rfl : j = nz := by omega
       have HMP3 := hid (show MapH wr fb m2 (fun p => decide (p ∈ upTo L L2 (k2 + 1))) from HMP2.out.congr (fun p => by rw [HTK.out, HNZ.out, List.take_length, HEZ.out]))
       clear hmap2 hkp2
       go_wp2_with fail
       go_roundw
       case rel => exact ⟨k2 + 1, m2, by omega, by go_num, by omega, HMP3.out, (HKP.out.grown HXG.out (fun j e => by cases e)).trans (HKP2.out.mono (fun k _ h => h))⟩
       case measure => simp [intOf]; omega
    ·obtain rfl : k2 = n2 := by omega
     obtain ⟨D2, hown2, htidy, hsz2, hD2⟩ := HMP.out
     have HOW := hid hown2
     have HD2 := hid hD2
     have HSZ := hid hsz2
     clear hown2 htidy hsz2 hD2
     have hsz3 : Maps.size D2 ≤ 1000000 := by have := HSZ.out; omega
     have HSF := hid (sortedP_any wo.heap.size fb m D2 (wo.alloc (.cells #[.map (some fb)] 73)) (by simp) (cell_one_new wo (.map (some fb)) 73 0 _ rfl) (HOW.out.alloc _) hsz3)
     clear hsz3
     go_wp2_with (first
      | (go_at_call 40; refine (callsIn_wide.1 (keysP_call Fence.wide 10 trivial rfl (some fb) _)).mono ?_; rintro e y ⟨rfl, rfl⟩)
      | (go_at_call 39; refine HSF.out.mono ?_; rintro e y ⟨v, L3, rfl, hp3, hk3, hm3, hrow3, hb3⟩))
     go_ret
     refine ⟨v, L3, rfl, hp3, fun x z => ?_, row_mono hrow3 ?_, ?_⟩
     ·have hup : ∀ kl, PKey (x, z) kl → ((x, z) ∈ L3 ↔ (x, z) ∈ upTo L L2 k2) := fun kl hkl => by rw [hm3 _ kl hkl, HD2.out _ kl hkl]; simp
      constructor
      ·intro h
       obtain ⟨kl, hkl⟩ := hk3 _ h
       have h2 := (hup kl hkl).1 h
       rw [HLn2.out] at h2
       obtain ⟨y, h3, h4⟩ := mem_upTo.1 h2
       exact ⟨y, (HLM2.out _).1 h3, (HLM.out _).1 h4⟩
      ·rintro ⟨y, h3, h4⟩
       obtain ⟨kl, hkl⟩ := PKey.mk (p := (x, z)) (HWR.out _ h3).1 (HWQ.out _ h4).2
       refine (hup kl hkl).2 ?_
       rw [HLn2.out]
       exact mem_upTo.2 ⟨y, (HLM2.out _).2 h3, (HLM.out _).2 h4⟩
     ·have h1 := HBW.out.size
      have h2 := HGW.out.size
      simp
      omega
     ·have h1 := HBW.out.size
      have h2 := HGW.out.size
      have h3 := HBW.out.grown HGW.out h1 (fun j e => by cases e)
      exact (h3.alloc h3.size _).trans (hb3.mono (by simp; omega))
end Go.Proofs.YtcekilcgpgjooaaGreatDoor
