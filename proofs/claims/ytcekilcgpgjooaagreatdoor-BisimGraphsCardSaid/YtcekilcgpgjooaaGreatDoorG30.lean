/- Proved here: contracts of the walk to BisimGraphs: canMove; each under the conditions that its own statement names. -/
import Derived.Test.YtcekilcgpgjooaaGreatDoorG29
set_option maxRecDepth 100000
set_option maxHeartbeats 6400000
namespace Go.Proofs.YtcekilcgpgjooaaGreatDoor
open Go Go.RowKit
open Go.Lib (hid)
theorem moveOk_allT {B base : Nat} {P : Nat → Prop} {I : (Nat → Nat → Bool) → World → Prop} {X0 rel : Nat → Nat → Bool} {g : Nat} {lbv : Array Value} {y : Dfs} {ld rd : Nat → Int} {K : Int} (E : DEnvT B base P I rel g lbv y ld rd K) {le ri : Nat → Int} {mv : Nat → Nat → Int}
    (hS : DSt y.x.n y.x.m X0 ri mv) : ∀ d, MoveOkT d B P I X0 rel (.func (.func g) #[] lbv) y le ld rd ri mv K := by
 intro d
 induction d with
 | zero => intro X a most w nr nl hX ha hK; have := (E.ldK a ha).2; omega
 | succ d ih => exact move_anyT E hS (back_anyT E hS ih)
theorem along_anyT {B : Nat} {P : Nat → Prop} {I : (Nat → Nat → Bool) → World → Prop} {rel : Nat → Nat → Bool} {g : Nat} {lbv : Array Value} {L R : Nat → Int} (x : Mv) (db eb : Nat) (hA : AsksT B P I x.n x.m rel g lbv) (hb : Sml x.n x.m L R)
    (X : Nat → Nat → Bool) (le ri : Nat → Int) (mv : Nat → Nat → Int) (ld rd : Nat → Int) (w : World) (hx : MdOk x B db eb w.heap.size) (hI : I X w) (hm : MdIn x db eb (.func (.func g) #[] lbv) w le ri mv ld rd) (hp : Part x.n x.m L R X mv le ri) (hd : Depths x.n x.m rel mv le ri ld rd true) :
    Calls Tryz.prog 135 #[x.ptr] w fun e w' => e = .returned (.tuple #[]) ∧ ∃ Y le' ri' mv', MdIn x db eb (.func (.func g) #[] lbv) w' le' ri' mv' ld rd ∧ Part x.n x.m L R Y mv' le' ri' ∧ (I Y w' ∧ Sub X Y) ∧ Kept (Qk P B) w w' ∧ sumN le' x.n < sumN le x.n := by
 have HA := hid hA
 have HX := hid hx
 have HSm := hid hb
 obtain ⟨lb, rb, vb, n, m⟩ := x
 have hn1 : n ≤ 1000 := hb.hn
 have hm1 : m ≤ 1000 := hb.hm
 have hBb : B ≤ w.heap.size := by have := hx.o.l; have := hx.o.lv; have := hx.d; have := hx.dt; omega
 have HBB := hid hBb
 obtain ⟨base, hbase⟩ : ∃ base, base = w.heap.size := ⟨_, rfl⟩
 rw [← hbase] at HX HBB
 have HM := hid hm
 have HP := hid hp
 have HI := hid hI
 have HBS := hid hbase
 have HDP := hid hd
 clear hA hx hb hm hp hI hBb hd hbase
 obtain ⟨W, hW⟩ : ∃ W : World, W = w.alloc (Obj.cells #[.pointer (some ⟨vb + 1, 0, none⟩)] 186) := ⟨_, rfl⟩
 have hWs : W.heap.size = base + 1 := by rw [hW, HBS.out]; simp
 have hWb : Below w.heap.size w W := by rw [hW]; exact ba _ _
 have hmW := HM.out.same HX.out (fun k _ hk => hWb.block k (by rw [← HBS.out]; exact hk))
 obtain ⟨c0, c1, c2, c3, c4, c5⟩ := cells6 hmW.m.st
 have k0 : W.cell? ⟨w.heap.size, 0, none⟩ = some (.pointer (some ⟨vb + 1, 0, none⟩)) := by rw [hW]; simp
 simp only at c0 c1 c2 c3 c4 c5
 have HMW := hid hmW
 have hmkn := run_make_row' (P := Tryz.prog) 45 3 (.int .i64 0) 8 Tryz.underlying45 infoInt rfl .i64 .i64 n (by omega) (by omega)
 have hmkm := run_make_row' (P := Tryz.prog) 45 3 (.int .i64 0) 8 Tryz.underlying45 infoInt rfl .i64 .i64 m (by omega) (by omega)
 go_enter Tryz.func135, Tryz.ntmps135
 go_wp2_with fail
 rw [← hW]
 have HKW := hid k0
 have hHW : W.heap[base]? = some (Obj.cells #[.pointer (some ⟨vb + 1, 0, none⟩)] 186 (0, 0)) := by rw [hW, HBS.out]; exact heap_new _ _
 have HWB := hid hWb
 have HWS := hid hWs
 rw [← HBS.out] at k0 ⊢
 have hlt0 : base < W.heap.size := by omega
 have hltv : vb + 1 < W.heap.size := by have h1 := HX.out.d; have h2 := HX.out.dt; simp only at h1; omega
 obtain ⟨mb, hmb⟩ : ∃ mb, mb = vb + 1 := ⟨_, rfl⟩
 rw [← hmb] at c0 c1 c2 c3 c4 c5 k0 hltv
 have HMB := hid hmb
 have b1 : base < W.heap.size + 1 := by omega
 have b2 : base < W.heap.size + 2 := by omega
 have b3 : base < W.heap.size + 3 := by omega
 have b22 : base < W.heap.size + 1 + 1 := by omega
 have b33 : base < W.heap.size + 1 + 1 + 1 := by omega
 have m1 : mb < W.heap.size + 1 := by omega
 have m2 : mb < W.heap.size + 2 := by omega
 have m3 : mb < W.heap.size + 3 := by omega
 have m22 : mb < W.heap.size + 1 + 1 := by omega
 have m33 : mb < W.heap.size + 1 + 1 + 1 := by omega
 clear hW hWb hWs hmW hmb
 go_cut [2, 3, 13, 19] from 8 to 19 (fun s2 s3 s13 s19 wx => ∃ q2 q3 nrb nlb : Nat, s2 = .pointer (some ⟨q2, 0, none⟩) ∧ s3 = .pointer (some ⟨q3, 0, none⟩) ∧ s13 = .slice (some ⟨nrb, 0, none⟩) n n ∧ s19 = .slice (some ⟨nlb, 0, none⟩) m m ∧ Rg1 W wx n m q2 q3 nrb nlb)
 case first =>
  go_region
  all_goals (go_wp2_with fail; go_meet; exact ⟨_, _, _, _, rfl, rfl, rfl, rfl, (by first | exact (four_get W _ _ _ _).1 | exact (four_get W _ _ _ _).2.1 | exact (four_get W _ _ _ _).2.2.1 | exact (four_get W _ _ _ _).2.2.2), (by first | exact (four_get W _ _ _ _).1 | exact (four_get W _ _ _ _).2.1 | exact (four_get W _ _ _ _).2.2.1 | exact (four_get W _ _ _ _).2.2.2), (by first | exact (four_get W _ _ _ _).1 | exact (four_get W _ _ _ _).2.1 | exact (four_get W _ _ _ _).2.2.1 | exact (four_get W _ _ _ _).2.2.2), (by first | exact (four_get W _ _ _ _).1 | exact (four_get W _ _ _ _).2.1 | exact (four_get W _ _ _ _).2.2.1 | exact (four_get W _ _ _ _).2.2.2), ⟨by omega, by omega, by omega, by omega⟩, ⟨by omega, by omega, by omega, by omega, by omega⟩, four_below _ _ _ _ _⟩)
 case rest =>
  obtain ⟨q2, q3, nrb, nlb, rfl, rfl, rfl, rfl, hR⟩ := hcut
  have hWc := hR.lo.size
  have k0c : wc.cell? ⟨base, 0, none⟩ = some (.pointer (some ⟨mb, 0, none⟩)) := by rw [hR.lo.cell (p := ⟨base, 0, none⟩) hlt0]; exact k0
  have d1c : wc.cell? ⟨mb, 1, none⟩ = some (.slice (some ⟨lb, 0, none⟩) n n) := by rw [hR.lo.cell (p := ⟨mb, 1, none⟩) hltv]; exact c1
  have hltc : base < wc.heap.size := by omega
  have hmtc : mb < wc.heap.size := by omega
  have hltc1 : base < wc.heap.size + 1 := by omega
  have hmtc1 : mb < wc.heap.size + 1 := by omega
  have hsl := hR.l
  have hsn := hR.ne
  have HR := hid hR
  have HHW := hid hHW
  have HSL := hid (show base + 1 ≤ q2 ∧ base + 1 ≤ q3 ∧ base + 1 ≤ nrb ∧ base + 1 ≤ nlb by have := HWS.out; omega)
  have HSN := hid hsn
  have h2l := heap_lt hR.b2
  have h3l := heap_lt hR.b3
  have h4l := heap_lt hR.rn
  have h5l := heap_lt hR.ln
  have HLT := hid (show q2 < wc.heap.size ∧ q3 < wc.heap.size ∧ nrb < wc.heap.size ∧ nlb < wc.heap.size from ⟨h2l, h3l, h4l, h5l⟩)
  clear hWc hlt0 hltv hmkn hmkm hsl hsn hHW h2l h3l h4l h5l
  clear hR c0 c1 c2 c3 c4 c5 k0 b1 b2 b3 b22 b33 m1 m2 m3 m22 m33
  go_wp2_with fail
  obtain ⟨wd, hwd⟩ : ∃ wd, wd = (wc.alloc (Obj.cells #[.func (.func 165) #[] #[.pointer (some ⟨q2, 0, none⟩), .pointer (some ⟨base, 0, none⟩), .pointer (some ⟨wc.heap.size + 1, 0, none⟩)]] 187)).alloc (Obj.cells #[.func (.func 164) #[] #[.pointer (some ⟨q3, 0, none⟩), .pointer (some ⟨base, 0, none⟩), .pointer (some ⟨wc.heap.size, 0, none⟩)]] 187) := ⟨_, rfl⟩
  obtain ⟨q4, hq4⟩ : ∃ q4, q4 = wc.heap.size := ⟨_, rfl⟩
  rw [← hwd, ← hq4]
  have hlb := HX.out.o.l
  have hdb := HX.out.dt
  have hdl := HX.out.d
  have hlv := HX.out.o.lv
  simp only at hlb hdl hlv
  have hbw : Below W.heap.size W wd := by
   have h := HR.out.lo.size
   rw [hwd]
   exact (HR.out.lo.alloc h _).alloc (by simp; omega) _
  have hmb := HMB.out
  subst hmb
  have HDF := hid (show DfIn ⟨⟨lb, rb, vb, n, m⟩, db, eb, base, q2, q3, q4, q4 + 1, nrb, nlb⟩ (.func (.func g) #[] lbv) wd le ri mv ld rd (fun _ => 0) (fun _ => 0) by
   refine ⟨HMW.out.same HX.out (fun k _ hk => hbw.block k (by have := HWS.out; omega)), by rw [hbw.block base (by have := HWS.out; omega)]; exact HHW.out, ?_, ?_, ?_, ?_, ?_, ?_⟩
   ·rw [hwd]; exact lkOld (lkOld HR.out.b2)
   ·rw [hwd]; exact lkOld (lkOld HR.out.b3)
   ·rw [hwd, hq4]; exact lkOld (lkNew rfl rfl)
   ·rw [hwd, hq4]; exact lkNew (by simp) rfl
   ·rw [hwd]; exact row_of_made (lkOld (lkOld HR.out.rn))
   ·rw [hwd]; exact row_of_made (lkOld (lkOld HR.out.ln)))
  have HE := hid (show DEnvT B base P I rel g lbv ⟨⟨lb, rb, vb, n, m⟩, db, eb, base, q2, q3, q4, q4 + 1, nrb, nlb⟩ ld rd 2000 by
   have h1 := HSL.out
   have h2 := HSN.out
   have h3 := HLT.out
   exact ⟨HA.out, ⟨HX.out, Nat.le_refl _, by simp only; omega, by simp only; omega, by simp only; omega, by simp only; omega, by simp only; omega, by simp only; omega, by simp only; omega, by simp only; omega, by simp only; omega, by simp only; omega, by simp only; omega, by simp only; omega, by simp only; omega, by simp only; omega, by simp only; omega, by simp only; omega, by simp only; omega⟩, hn1, hm1, HDP.out.low, HDP.out.rlow, by omega⟩)
  have HBW := hid (show Below base w wd from (HBS.out ▸ HWB.out : Below base w W).trans (hbw.mono (by have := HWS.out; omega)))
  have HID := hid (show I X wd from HA.out.same _ _ _ HI.out (HBW.out.mono HBB.out))
  have HKD := hid (show Kept (Qk P B) w wd from ⟨HBW.out.os, HBW.out.tape, HBW.out.output, HBW.out.size, fun k hk _ => HBW.out.block k (by rw [HBS.out]; exact hk)⟩)
  clear hwd hq4 hbw k0c d1c hltc hmtc hltc1 hmtc1
  go_loopw [27] (fun i wr => ∃ (k : Nat) (Y : Nat → Nat → Bool) (le1 ri1 : Nat → Int) (mv1 : Nat → Nat → Int) (nr1 nl1 : Nat → Nat), k ≤ n ∧ i = .int .i64 k ∧ DfIn ⟨⟨lb, rb, vb, n, m⟩, db, eb, base, q2, q3, q4, q4 + 1, nrb, nlb⟩ (.func (.func g) #[] lbv) wr le1 ri1 mv1 ld rd nr1 nl1 ∧
   Part n m L R Y mv1 le1 ri1 ∧ (I Y wr ∧ Sub X Y) ∧ Kept (Qk P B) w wr ∧ (∀ i, i < n → nr1 i ≤ m) ∧ (∀ b, b < m → nl1 b ≤ n) ∧ Prg n m rel ld rd le ri mv k le1 ri1 mv1 nr1 nl1) (fun i _ => n - (intOf i).toNat)
  case atStart => exact ⟨0, X, le, ri, mv, fun _ => 0, fun _ => 0, Nat.zero_le _, rfl, HDF.out, HP.out, ⟨HID.out, Sub.refl _⟩, HKD.out, fun _ _ => Nat.zero_le _, fun _ _ => Nat.zero_le _, Or.inr ⟨rfl, rfl, rfl, Dead.start, fun a h => by omega⟩⟩
  case round =>
   obtain ⟨k, Y1, le1, ri1, mv1, nr1, nl1, hk, rfl, hd1, hp1, hI1, hk1, hnr1, hnl1, hprg⟩ := hrel
   have HD1 := hid hd1
   have HP1 := hid hp1
   have HI1 := hid hI1
   have HK1 := hid hk1
   have HNR := hid hnr1
   have HNL := hid hnl1
   have HPR := hid hprg
   clear hd1 hp1 hI1 hk1 hnr1 hnl1 hprg HDF HID HKD
   by_cases hlt : k < n
   rotate_left
   ·go_wp2_with fail
    go_end0
    refine ⟨rfl, Y1, le1, ri1, mv1, HD1.out.d, HP1.out, HI1.out, HK1.out, ?_⟩
    rcases HPR.out with h | ⟨rfl, rfl, rfl, hdd, hno⟩
    ·exact h
    ·obtain ⟨a, ha, hla, hr⟩ := HDP.out.path
     exact absurd hr (hno a (by omega) hla)
   go_wp2_with fail
   obtain ⟨wx, hwx⟩ : ∃ wx, wx = wr := ⟨_, rfl⟩
   rw [← hwx]
   rw [← hwx] at HD1 HI1 HK1
   clear hwx
   go_loopg [7] (le1 k).toNat (fun gg _ wr => ∃ (Y : Nat → Nat → Bool) (le2 ri2 : Nat → Int) (mv2 : Nat → Nat → Int) (nr2 nl2 : Nat → Nat), (le2 k).toNat ≤ gg ∧ DfIn ⟨⟨lb, rb, vb, n, m⟩, db, eb, base, q2, q3, q4, q4 + 1, nrb, nlb⟩ (.func (.func g) #[] lbv) wr le2 ri2 mv2 ld rd nr2 nl2 ∧
    Part n m L R Y mv2 le2 ri2 ∧ (I Y wr ∧ Sub X Y) ∧ Kept (Qk P B) w wr ∧ (∀ i, i < n → nr2 i ≤ m) ∧ (∀ b, b < m → nl2 b ≤ n) ∧ Prg n m rel ld rd le ri mv k le2 ri2 mv2 nr2 nl2)
   case atStart => exact ⟨Y1, le1, ri1, mv1, nr1, nl1, Nat.le_refl _, HD1.out, HP1.out, HI1.out, HK1.out, HNR.out, HNL.out, HPR.out⟩
   case round =>
    obtain ⟨Y2, le2, ri2, mv2, nr2, nl2, hgg, hd2, hp2, hI2, hk2, hnr2, hnl2, hprg⟩ := hrel
    have HD2 := hid hd2
    have HP2 := hid hp2
    have HI2 := hid hI2
    have HK2 := hid hk2
    have HNR2 := hid hnr2
    have HNL2 := hid hnl2
    have HPR2 := hid hprg
    clear hd2 hp2 hI2 hk2 hnr2 hnl2 hprg HD1 HP1 HI1 HK1 HNR HNL HPR
    have z0 := cell_of1 HD2.out.bp
    have z4 := cell_of1 HD2.out.b4
    obtain ⟨y0, y1, y2, y3, y4, y5⟩ := cells6 HD2.out.d.m.st
    have z1 := HD2.out.d.m.left.cell hlt
    have hle2 := HP2.out.le_L hlt
    have hLk := HSm.out.l k hlt
    simp only at z0 z4 y0 y1 y2 y3 y4 y5 z1
    try simp only at hLk
    obtain ⟨lv, hlvv⟩ : ∃ lv, lv = le2 k := ⟨_, rfl⟩
    rw [← hlvv] at z1 hle2 hgg
    have HLV := hid hlvv
    clear hlvv
    by_cases hl0 : 0 < lv
    rotate_left
    ·go_wp2_with fail
     go_roundw
     case rel => exact ⟨k + 1, Y2, le2, ri2, mv2, nr2, nl2, by omega, by go_num, HD2.out, HP2.out, HI2.out, HK2.out, HNR2.out, HNL2.out, HPR2.out.next (fun h1 h2 => by have h3 := HLV.out; rw [h1] at h3; omega)⟩
     case measure => simp [intOf]; omega
    have HDS := hid (HP2.out.dst HSm.out)
    have HMO := hid (fun x (hi : I Y2 x) (hd : DfIn ⟨⟨lb, rb, vb, n, m⟩, db, eb, base, q2, q3, q4, q4 + 1, nrb, nlb⟩ (.func (.func g) #[] lbv) x le2 ri2 mv2 ld rd nr2 nl2) =>
     moveOk_allT HE.out HDS.out 2002 Y2 k lv x nr2 nl2 (Sub.refl _) hlt (by have := (HDP.out.low k hlt).1; omega) hl0 (by omega) hi hd HNR2.out HNL2.out)
    go_wp2_with fail
    go_region_held3 (fun x : World => x.cell? ⟨q4, 0, none⟩ = some (Dfs.fnM ⟨⟨lb, rb, vb, n, m⟩, db, eb, base, q2, q3, q4, q4 + 1, nrb, nlb⟩) ∧ x.cell? ⟨base, 0, none⟩ = some (.pointer (some ⟨vb + 1, 0, none⟩)) ∧ x.cell? ⟨vb + 1, 1, none⟩ = some (.slice (some ⟨lb, 0, none⟩) n n) ∧ x.cell? ⟨lb, k, none⟩ = some (.int .i64 lv)) (first | exact ⟨z4, z0, y1, z1⟩ | exact ⟨x4, x0, x1, x2⟩) (first | (go_at_call 165; refine (HMO.out _ (HA.out.drewN HI2.out.1) (HD2.out.drewN _)).mono ?_; rintro e w3 ⟨Y3, v, ri3, mv3, nr3, nl3, rfl, hd3, hI3, hk3, hn3, hv0, hvm, hcase⟩; have HD3 := hid hd3; have HI3 := hid hI3; have HK3 := hid (HK2.out.drewN.trans hk3); have HN3 := hid hn3; have HCASE := hid hcase; clear hd3 hI3 hk3 hn3 hcase; have x4 := cell_of1 HD3.out.b4; have x0 := cell_of1 HD3.out.bp; have x1 := (cells6 HD3.out.d.m.st).2.1; have x2 := HD3.out.d.m.left.cell hlt; simp only at x4 x0 x1 x2; rw [← HLV.out] at x2))
    have x3 := HD3.out.d.m.left.frozen k
    simp only at x3
    by_cases hv : 0 < v
    ·go_wp2_with fail
     go_roundg (lv - v).toNat
     case measure => omega
     case rel =>
      rcases HCASE.out with ⟨h, _⟩ | ⟨_, hf⟩
      ·omega
      have hpart := (HP2.out.weak HI3.out.2).step hf (by rw [← HLV.out]; exact hvm)
      rw [← HLV.out] at hpart
      refine ⟨Y3, upd le2 k (lv - v), ri3, mv3, nr3, nl3, by rw [upd_same]; omega, HD3.out.setLeft HE.out.ok k _, hpart, ⟨HA.out.set HI3.out.1 (by simp; omega) _, HI2.out.2.trans HI3.out.2⟩, HK3.out.set (Or.inl (Or.inr (by simp; omega))) _, HN3.out.rb, HN3.out.lb, Or.inl ?_⟩
      have hlt2 : sumN (upd le2 k (lv - v)) n < sumN le2 n := sumN_lt (k := k) n (fun i hi => by
       by_cases e : i = k
       ·subst e; rw [upd_same, ← HLV.out]; omega
       ·rw [upd_other e]; exact Int.le_refl _) hlt (by rw [upd_same, ← HLV.out]; omega)
      rcases HPR2.out with h | ⟨rfl, _⟩
      ·omega
      ·exact hlt2
    ·have hvz : v = 0 := by omega
     subst hvz
     go_wp2_with fail
     go_roundw
     case rel =>
      rcases HCASE.out with ⟨_, rfl, rfl, hmk, hdd⟩ | ⟨h, _⟩
      ·refine ⟨k + 1, Y3, le2, ri3, mv3, nr3, nl3, by omega, by go_num, HD3.out, HP2.out.weak HI3.out.2, ⟨HI3.out.1, HI2.out.2.trans HI3.out.2⟩, HK3.out, HN3.out.rb, HN3.out.lb, ?_⟩
       rcases HPR2.out with h | ⟨h1, rfl, rfl, h4, h5⟩
       ·exact Or.inl h
       ·refine Or.inr ⟨h1, rfl, rfl, hdd h4, fun a ha hl => ?_⟩
        by_cases e : a = k
        ·subst e; exact (hdd h4).row hmk
        ·exact h5 a (by omega) hl
      ·omega
     case measure => simp [intOf]; omega
theorem can_anyT {B : Nat} {P : Nat → Prop} {I : (Nat → Nat → Bool) → World → Prop} {rel : Nat → Nat → Bool} {g : Nat} {lbv : Array Value} {L R : Nat → Int} (n m lb rb : Nat) (hA : AsksT B P I n m rel g lbv) (hn : n ≤ 1000) (hm : m ≤ 1000)
    (hL : ∀ a, a < n → 0 ≤ L a) (hR : ∀ b, b < m → 0 ≤ R b) (hsL : sumN L n ≤ 1152921504606846976) (hsR : sumN R m ≤ 1152921504606846976) (hlb : B ≤ lb) (hrb : B ≤ rb) (hne : lb ≠ rb) (w : World) (X : Nat → Nat → Bool) (hI : I X w)
    (hl : w.rowIs lb 2 n (fun i => .int .i64 (L i))) (hr : w.rowIs rb 2 m (fun i => .int .i64 (R i))) :
    Calls Tryz.prog 99 #[.slice (some ⟨lb, 0, none⟩) n n, .slice (some ⟨rb, 0, none⟩) m m, .func (.func g) #[] lbv] w fun e w' => ∃ (Y : Nat → Nat → Bool) (p : Bool), e = .returned (.bool p) ∧ ((p = true ↔ Flow n m L R rel) ∧ (p = true → Flow n m L R Y)) ∧ (I Y w' ∧ Sub X Y) ∧ Kept (Qk P B) w w' := by
 have HA := hid hA
 have HSm := hid (Sml.mk (n := n) (m := m) (L := L) (R := R) hn hm (fun a ha => by have := sumN_elem hL ha; omega) (fun b hb => by have := sumN_elem hR hb; omega))
 have HL := hid hl
 have HR := hid hr
 have HI := hid hI
 have HL0 := hid hL
 have HR0 := hid hR
 have hllt := hl.lt
 have hrlt := hr.lt
 have hBw := hA.lt X w hI
 have HS1 := hid (sum64_any lb n L n w hl hL (by omega) (by omega))
 have HS2 := hid (sum64_any rb m R m w hr hR (by omega) (by omega))
 obtain ⟨sl, hsl⟩ : ∃ sl, sl = sumN L n := ⟨_, rfl⟩
 obtain ⟨sr, hsr⟩ : ∃ sr, sr = sumN R m := ⟨_, rfl⟩
 rw [← hsl] at HS1 hsL
 rw [← hsr] at HS2 hsR
 have HSL := hid hsl
 have HSR := hid hsr
 have hmkm := run_make_row' (P := Tryz.prog) 161 136 (.slice none 0 0) 24 Tryz.underlying161 infoR64 rfl .i64 .i64 m (by omega) (by omega)
 clear hA hl hr hI hL hR hsl hsr
 by_cases hss : sl = sr
 rotate_left
 ·have hsb : (sl != sr) = true := by simpa using hss
  have HF := hid (show ¬ Flow n m L R rel from fun h => hss (by rw [HSL.out, HSR.out]; exact h.sums))
  clear hss
  go_enter Tryz.func99, Tryz.ntmps99
  go_wp2_with fail
  refine HS1.out.mono ?_
  rintro e w ⟨rfl, rfl⟩
  go_wp2_with fail
  refine HS2.out.mono ?_
  rintro e w ⟨rfl, rfl⟩
  go_wp2_with fail
  go_ret
  exact ⟨X, false, rfl, ⟨⟨(fun h => by cases h), fun h => absurd h HF.out⟩, fun h => by cases h⟩, ⟨HI.out, Sub.refl _⟩, Kept.refl _ _⟩
 subst hss
 have hsz := HSR.out
 go_enter Tryz.func99, Tryz.ntmps99
 go_wp2_with fail
 refine HS1.out.mono ?_
 rintro e w ⟨rfl, rfl⟩
 go_wp2_with fail
 refine HS2.out.mono ?_
 rintro e w ⟨rfl, rfl⟩
 go_wp2_with fail
 obtain ⟨wd, hwd⟩ : ∃ wd, wd = (w.alloc (Obj.cells (madeCells #[Value.slice none 0 0] m) 136)).alloc (Obj.cells #[.func (.func g) #[] lbv, .slice (some ⟨lb, 0, none⟩) n n, .slice (some ⟨rb, 0, none⟩) m m, .slice (some ⟨w.heap.size, 0, none⟩) m m, .slice none 0 0, .slice none 0 0] 163) := ⟨_, rfl⟩
 obtain ⟨vb, hvb⟩ : ∃ vb, vb = w.heap.size := ⟨_, rfl⟩
 rw [← hwd, ← hvb]
 have HVB := hid hvb
 have HWD := hid (show Below w.heap.size w wd by rw [hwd]; exact ba2 _ _ _)
 have HST := hid (show wd.heap[vb + 1]? = some (Obj.cells #[.func (.func g) #[] lbv, .slice (some ⟨lb, 0, none⟩) n n, .slice (some ⟨rb, 0, none⟩) m m, .slice (some ⟨vb, 0, none⟩) m m, .slice none 0 0, .slice none 0 0] 163 (0, 0)) by rw [hwd, hvb]; exact lkNew (by simp) rfl)
 have HRV := hid (show wd.rowIs vb 136 m (fun _ => .slice none 0 0) by rw [hwd, hvb]; exact (World.rowIs_made _ _ _ _).alloc _)
 have HSD := hid (show wd.heap.size = vb + 2 by rw [hwd, hvb]; simp)
 have hbv : B ≤ vb := by omega
 clear hwd hvb hmkm
 have hmkn := run_make_row' (P := Tryz.prog) 136 2 (.int .i64 0) 8 Tryz.underlying136 infoI64 rfl .i64 .i64 n (by omega) (by omega)
 obtain ⟨c0, c1, c2, c3, c4, c5⟩ := cells6 HST.out
 go_wp2_with fail
 go_loopw [24] (fun i wr => ∃ b : Nat, b ≤ m ∧ i = .int .i64 b ∧ wr.heap.size = vb + 2 + b ∧ wr.heap[vb + 1]? = some (Obj.cells #[.func (.func g) #[] lbv, .slice (some ⟨lb, 0, none⟩) n n, .slice (some ⟨rb, 0, none⟩) m m, .slice (some ⟨vb, 0, none⟩) m m, .slice none 0 0, .slice none 0 0] 163 (0, 0)) ∧
  wr.rowIs vb 136 m (fun j => if j < b then .slice (some ⟨vb + 2 + j, 0, none⟩) n n else .slice none 0 0) ∧ (∀ j, j < b → wr.rowIs (vb + 2 + j) 2 n (fun _ => .int .i64 0)) ∧ Below vb wd wr) (fun i _ => m - (intOf i).toNat)
 case atStart => exact ⟨0, Nat.zero_le _, rfl, HSD.out, HST.out, HRV.out.congr (fun _ _ => by simp), fun j hj => by omega, Below.refl _ _⟩
 case round =>
  obtain ⟨b, hbm, rfl, hsz1, hst1, hrow1, hcol1, hb1⟩ := hrel
  have HSZ := hid hsz1
  have HST1 := hid hst1
  have HROW := hid hrow1
  have HCOL := hid hcol1
  have HB1 := hid hb1
  have hl1 : vb + 1 < wr.heap.size := by omega
  have hl2 : vb < wr.heap.size := by omega
  clear hsz1 hst1 hrow1 hcol1 hb1 c0 c1 c2 c3 c4 c5
  obtain ⟨c0, c1, c2, c3, c4, c5⟩ := cells6 HST1.out
  by_cases hbl : b < m
  ·have d0 := HROW.out.cell hbl
   have f0 := HROW.out.frozen b
   simp only [Nat.lt_irrefl, if_false] at d0
   go_wp2_with fail
   go_region
   have HB1d := hid (((HB1.out.setCell (p := ⟨vb, b, none⟩) (Nat.le_refl _) (.slice (some ⟨wr.heap.size, 0, none⟩) n n)).alloc (by simp; omega) (Obj.cells (madeCells #[Value.int .i64 0] n) 2)).drew)
   have hszs : (wr.setCell ⟨vb, b, none⟩ (.slice (some ⟨wr.heap.size, 0, none⟩) n n)).heap.size = wr.heap.size := by simp [World.setCell]
   have HSS := hid hszs
   clear hszs
   go_wp2_with fail
   go_roundw
   case rel =>
    refine ⟨b + 1, by omega, by go_num, ?_, lkDrew (lkOld (lkSet (by omega) HST1.out)), ?_, fun j hj => ?_, HB1d.out⟩
    ·have := HSZ.out
     have := HSS.out
     simp
     omega
    ·refine ((HROW.out.set b _).alloc _).drew.congr (fun j _ => ?_)
     by_cases e : j = b
     ·subst e; simp [HSZ.out]
     ·by_cases e2 : j < b
      ·simp [e, e2, show j < b + 1 by omega]
      ·simp [e, e2, show ¬ j < b + 1 by omega]
    ·by_cases e : j = b
     ·subst e
      have h := World.rowIs_made (wr.setCell ⟨vb, j, none⟩ (.slice (some ⟨wr.heap.size, 0, none⟩) n n)) (.int .i64 0) n 2
      rw [HSS.out, HSZ.out] at h
      rw [HSZ.out]
      exact h.drew
     ·exact (((HCOL.out j (by omega)).setOther (by simp; omega) _).alloc _).drew
   case measure => simp [intOf]; omega
  ·have hbm' : b = m := by omega
   have HX := hid (show (Mv.mk lb rb vb n m).Ok B from ⟨hlb, hrb, by have := HVB.out; simp only; omega, by have := HVB.out; simp only; omega, hne⟩)
   have HWR := hid (show Below w.heap.size w wr by have := HVB.out; exact (HWD.out).trans (by rw [← HVB.out]; exact HB1.out))
   have HM := hid (show MvIn ⟨lb, rb, vb, n, m⟩ (.func (.func g) #[] lbv) (.slice none 0 0) (.slice none 0 0) wr L R (fun _ _ => 0) from
    ⟨HST1.out, HL.out.of_block (HWR.out.block _ hllt), HR.out.of_block (HWR.out.block _ hrlt), HROW.out.congr (fun j hj => by simp only; rw [if_pos (by omega)]), fun j hj => HCOL.out j (by simp only at hj; omega)⟩)
   have HIR := hid (show I X wr from HA.out.same _ _ _ HI.out (HWR.out.mono hBw))
   have HKR := hid (show Kept (Qk P B) w wr from .ofBelow HWR.out)
   have HDI := hid (direct_anyT ⟨lb, rb, vb, n, m⟩ HA.out HX.out HSm.out X L R _ wr HIR.out HM.out (Part.start HL0.out HR0.out))
   have hwr2 := HWR.out.size
   clear HROW HCOL HB1 HST HRV HWD HST1 c0 c1 c2 c3 c4 c5 hl1 hl2 HL HR HI
   go_wp2_with fail
   refine HDI.out.mono ?_
   rintro e w3 ⟨rfl, Y3, le, ri, mv, hm3, hp3, hI3, hk3⟩
   have HM3 := hid hm3
   have HP3 := hid hp3
   have HI3 := hid hI3
   have HK3 := hid (HKR.out.trans hk3)
   have hl1 : vb + 1 < w3.heap.size := heap_lt hm3.st
   have hl2 : vb < w3.heap.size := by omega
   have hl3 : vb + 1 < w3.heap.size + 1 := by omega
   have hl4 : vb < w3.heap.size + 1 := by omega
   obtain ⟨c0, c1, c2, c3, c4, c5⟩ := cells6 hm3.st
   have f4 : w3.frozen? ⟨vb + 1, 4, none⟩ = false := frozen_of hm3.st
   have f5 : w3.frozen? ⟨vb + 1, 5, none⟩ = false := frozen_of hm3.st
   have HSTR := hid hm3.st
   clear hm3 hp3 hI3 hk3 HM HIR HKR HDI hmkn
   have hmkn := run_make_row' (P := Tryz.prog) 45 3 (.int .i64 0) 8 Tryz.underlying45 infoInt rfl .i64 .i64 n (by omega) (by omega)
   have hmkm := run_make_row' (P := Tryz.prog) 45 3 (.int .i64 0) 8 Tryz.underlying45 infoInt rfl .i64 .i64 m (by omega) (by omega)
   simp only at c0 c1 c2 c3 c4 c5
   go_wp2_with fail
   go_cut [38, 41] from 36 to 43 (fun s38 s41 wx => ∃ db eb : Nat, s38 = .slice (some ⟨db, 0, none⟩) n n ∧ s41 = .slice (some ⟨eb, 0, none⟩) m m ∧ Rg2 w3 wx vb n m db eb (.func (.func g) #[] lbv) (.slice (some ⟨lb, 0, none⟩) n n) (.slice (some ⟨rb, 0, none⟩) m m) (.slice (some ⟨vb, 0, none⟩) m m))
   case first =>
    go_region
    all_goals (go_wp2_with fail; go_meet; exact ⟨_, _, rfl, rfl, lkDrew (lkOld (lkOld (stSet5 (stSet4 HSTR.out)))), (by first | exact lkDrew (lkOld (lkNew (by simp [World.setCell]) rfl)) | exact lkDrew (lkNew (by simp [World.setCell]) rfl)), (by first | exact lkDrew (lkOld (lkNew (by simp [World.setCell]) rfl)) | exact lkDrew (lkNew (by simp [World.setCell]) rfl)), ⟨by omega, by omega, by omega⟩, (((((Oth.refl _ _).set _ _).set _ _).alloc _).alloc _).drew⟩)
   case rest =>
    obtain ⟨db, eb, rfl, rfl, hR⟩ := hcut
    have hdlt := heap_lt hR.l
    have helt := heap_lt hR.r
    have hrne := hR.ne
    have hmw : vb + 2 + m ≤ w3.heap.size := by
     rcases Nat.eq_zero_or_pos m with h | h
     ·omega
     ·have := (HM3.out.cols (m - 1) (by simp only; omega)).lt
      simp only at this; omega
    have HOK := hid (show MdOk (Mv.mk lb rb vb n m) B db eb wc.heap.size from ⟨HX.out, by simp only; omega, by simp only; omega, hrne.2.2, hdlt, helt⟩)
    have hlv := HX.out.lv
    have hrv := HX.out.rv
    simp only at hlv hrv
    have HMD := hid (show MdIn ⟨lb, rb, vb, n, m⟩ db eb (.func (.func g) #[] lbv) wc le ri mv (fun _ => 0) (fun _ => 0) from
     ⟨⟨hR.st, HM3.out.left.of_block (hR.oth.block _ HM3.out.left.lt (by simp only; omega)), HM3.out.right.of_block (hR.oth.block _ HM3.out.right.lt (by simp only; omega)), HM3.out.moved.of_block (hR.oth.block _ HM3.out.moved.lt (by simp only; omega)),
      fun b hb => (HM3.out.cols b hb).of_block (hR.oth.block _ (HM3.out.cols b hb).lt (by simp only; omega))⟩, row_of_made hR.l, row_of_made hR.r⟩)
    have HIC := hid (show I Y3 wc ∧ Sub X Y3 from ⟨HA.out.same _ _ _ HI3.out.1 ⟨hR.oth.os, hR.oth.tape, hR.oth.output, hR.oth.size, fun k hk => hR.oth.block k (by omega) (by omega)⟩, HI3.out.2⟩)
    have HKC := hid (show Kept (Qk P B) w wc from HK3.out.trans ⟨hR.oth.os, hR.oth.tape, hR.oth.output, hR.oth.size, fun k hk hn => hR.oth.block k hk (fun e => hn (Or.inr (by omega)))⟩)
    obtain ⟨base, hbase⟩ : ∃ base, base = wc.heap.size := ⟨_, rfl⟩
    have hbb : base ≤ wc.heap.size := by omega
    rw [← hbase] at HOK
    clear hR HM3 HI3 HK3 hl1 hl2 hl3 hl4 c0 c1 c2 c3 c4 c5 f4 f5 HSTR hmkn hmkm hdlt helt hbase hmw hwr2
    have HBB := hid hbb
    clear hbb
    go_wp2_with fail
    go_loopg [46] (sumN le n).toNat (fun gg _ wr => ∃ (Y : Nat → Nat → Bool) (le ri : Nat → Int) (mv : Nat → Nat → Int) (ld rd : Nat → Int), (sumN le n).toNat ≤ gg ∧ MdIn ⟨lb, rb, vb, n, m⟩ db eb (.func (.func g) #[] lbv) wr le ri mv ld rd ∧ Part n m L R Y mv le ri ∧ (I Y wr ∧ Sub X Y) ∧ Kept (Qk P B) w wr ∧ base ≤ wr.heap.size)
    case atStart => exact ⟨Y3, le, ri, mv, _, _, Nat.le_refl _, HMD.out, HP3.out, HIC.out, HKC.out, HBB.out⟩
    case round =>
     obtain ⟨Y4, le4, ri4, mv4, ld4, rd4, hgg, hm4, hp4, hI4, hk4, hb4⟩ := hrel
     have HM4 := hid hm4
     have HP4 := hid hp4
     have HI4 := hid hI4
     have HK4 := hid hk4
     have HB4 := hid hb4
     obtain ⟨c0, c1, c2, c3, c4, c5⟩ := cells6 hm4.m.st
     have hsle : sumN le4 n ≤ sumN L n := sumN_le n (fun a ha => (hp4.le_L ha).2)
     have hsl0 : 0 ≤ sumN le4 n := sumN_nonneg n hp4.le0
     have HSU := hid (sum64_any lb n le4 n wr hm4.m.left hp4.le0 (by have := HSL.out; omega) (by omega))
     have HOK4 := hid (show MdOk (Mv.mk lb rb vb n m) B db eb wr.heap.size from ⟨HOK.out.o, HOK.out.d, HOK.out.e, HOK.out.de, by have := HOK.out.dt; omega, by have := HOK.out.et; omega⟩)
     clear hm4 hp4 hI4 hk4 hb4 HMD HP3 HIC HKC HBB
     simp only at c0 c1 c2 c3 c4 c5
     obtain ⟨s4, hs4⟩ : ∃ s4, s4 = sumN le4 n := ⟨_, rfl⟩
     rw [← hs4] at HSU hsle hsl0 hgg
     have HS4 := hid hs4
     clear hs4
     go_wp2_with fail
     refine HSU.out.mono ?_
     rintro e w5 ⟨rfl, hw5⟩
     subst hw5
     by_cases hs0 : 0 < s4
     rotate_left
     ·have HFL := hid (show Flow n m L R Y4 from HP4.out.flow (by rw [← HSL.out]; exact HSR.out) (by rw [← HS4.out]; omega))
      have HFR := hid (show Flow n m L R rel from (HP4.out.weak (HA.out.le Y4 w5 HI4.out.1)).flow (by rw [← HSL.out]; exact HSR.out) (by rw [← HS4.out]; omega))
      go_wp2_with fail
      go_ret
      exact ⟨Y4, true, rfl, ⟨⟨fun _ => HFR.out, fun _ => rfl⟩, fun _ => HFL.out⟩, HI4.out, HK4.out⟩
     have HFI := hid (find_any ⟨lb, rb, vb, n, m⟩ db eb (HA.out.fix Y4) HSm.out le4 ri4 mv4 ld4 rd4 w5 HOK4.out HI4.out.1 HM4.out (HP4.out.weak (HA.out.le Y4 w5 HI4.out.1)))
     go_wp2_with fail
     refine HFI.out.mono ?_
     rintro e w6 ⟨p, ld6, rd6, rfl, hm6, hd6, hI6, hk6⟩
     have HM6 := hid hm6
     have HD6 := hid hd6
     have HI6 := hid hI6
     have HK6 := hid (HK4.out.trans hk6)
     have hs6 := hk6.size
     clear hm6 hd6 hI6 hk6 c0 c1 c2 c3 c4 c5 HFI HSU
     cases p
     ·go_wp2_with fail
      go_ret
      exact ⟨Y4, false, rfl, ⟨⟨(fun h => by cases h), fun h => absurd h (HD6.out.noFlow (HP4.out.weak (HA.out.le Y4 _ HI6.out)) (by rw [← HS4.out]; exact hs0))⟩, fun h => by cases h⟩, ⟨HI6.out, HI4.out.2⟩, HK6.out⟩
     ·have HOK6 := hid (show MdOk (Mv.mk lb rb vb n m) B db eb w6.heap.size from ⟨HOK4.out.o, HOK4.out.d, HOK4.out.e, HOK4.out.de, by have := HOK4.out.dt; omega, by have := HOK4.out.et; omega⟩)
      have HAL := hid (along_anyT ⟨lb, rb, vb, n, m⟩ db eb HA.out HSm.out Y4 le4 ri4 mv4 ld6 rd6 w6 HOK6.out HI6.out HM6.out HP4.out HD6.out)
      go_wp2_with fail
      refine HAL.out.mono ?_
      rintro e w7 ⟨rfl, Y7, le7, ri7, mv7, hm7, hp7, hI7, hk7, hlt7⟩
      have HM7 := hid hm7
      have HP7 := hid hp7
      have HI7 := hid hI7
      have HK7 := hid (HK6.out.trans hk7)
      have HL7 := hid hlt7
      have HS7 := hid hk7.size
      clear hm7 hp7 hI7 hk7 hlt7
      go_wp2_with fail
      go_roundg (sumN le7 n).toNat
      case measure =>
       have h1 := HL7.out
       have h2 := HS4.out
       have h3 := sumN_nonneg n HP7.out.le0
       omega
      case rel => exact ⟨Y7, le7, ri7, mv7, ld6, rd6, Nat.le_refl _, HM7.out, HP7.out, ⟨HI7.out.1, HI4.out.2.trans HI7.out.2⟩, HK7.out, by have := HB4.out; have := HS7.out; omega⟩
theorem idx_inj {a b a' b' m : Nat} (hb' : b' < m) (hb : b < m) (e : a' * m + b' = a * m + b) : a' = a ∧ b' = b := by
 have hm : 0 < m := by omega
 have e1 : a' = a := by
  have h1 : (a' * m + b') / m = a' := by rw [Nat.add_comm, Nat.add_mul_div_right _ _ hm, Nat.div_eq_of_lt hb']; omega
  have h2 : (a * m + b) / m = a := by rw [Nat.add_comm, Nat.add_mul_div_right _ _ hm, Nat.div_eq_of_lt hb]; omega
  rw [← h1, ← h2, e]
 subst e1
 exact ⟨rfl, by omega⟩
def RemIT (y : Rem) (g : Nat) (lb : Array Value) (rel : Nat → Nat → Bool) (I0 : (Nat → Nat → Bool) → World → Prop) (B1 : Nat) (X : Nat → Nat → Bool) (w : World) : Prop :=
 ∃ Z, Sub X Z ∧ I0 Z w ∧ B1 ≤ w.heap.size ∧ ∃ kn an, RemIn y g lb rel w kn an ∧ ∀ a b, a < y.n → b < y.m → kn (a * y.m + b) = true → rel a b = true → Z a b = true
theorem rem_callT {B0 B1 : Nat} {P0 : Nat → Prop} {I0 : (Nat → Nat → Bool) → World → Prop} {rel : Nat → Nat → Bool} {g : Nat} {lb : Array Value} (y : Rem) (hA : AsksT B0 P0 I0 y.n y.m rel g lb) (hy : RemOk y B0 B1) (X : Nat → Nat → Bool) (a b : Nat) (w : World) (ha : a < y.n) (hb : b < y.m) (hI : RemIT y g lb rel I0 B1 X w) :
    Calls Tryz.prog 131 (#[.int .i64 (a : Int), .int .i64 (b : Int)] ++ y.lb) w fun e w' => e = .returned (.bool (rel a b)) ∧ (∃ Y, Sub X Y ∧ (rel a b = true → Y a b = true) ∧ RemIT y g lb rel I0 B1 Y w') ∧ Kept (RemP y P0) w w' := by
 obtain ⟨Z, hXZ, hI0, hB1, kn, an, hr, htok⟩ := hI
 have HXZ := hid hXZ
 have HTK := hid htok
 have eg := hA.eg
 have HA := hid hA
 have HY := hid hy
 have HI0 := hid hI0
 have HR := hid hr
 have HB1 := hid hB1
 have hlt := idx_lt ha hb
 have hnm : y.n * y.m ≤ 1000000 := Nat.mul_le_mul hy.n hy.m
 obtain ⟨n, m, bm, bk, bd, ba, kb, ab⟩ := y
 simp only [Rem.lb]
 simp only at ha hb hlt hnm
 have hmb : m ≤ 1000 := hy.m
 have hab : a ≤ 1000 := by have := hy.n; simp only at this; omega
 obtain ⟨q, hq⟩ : ∃ q, q = a * m := ⟨_, rfl⟩
 obtain ⟨N, hN⟩ : ∃ N, N = n * m := ⟨_, rfl⟩
 have hqb : q ≤ 1000000 := by rw [hq]; exact Nat.mul_le_mul hab hmb
 have hmul : wrap64 ((a : Int) * (m : Int)) = (q : Int) := by
  rw [hq, ← Int.natCast_mul]
  exact IntWalk.wrap64_in _ ⟨by omega, by rw [← hq]; omega⟩
 have z0 := cell_of1 hr.m
 have z1 := cell_of1 hr.k
 have z2 := cell_of1 hr.d
 have z3 := cell_of1 hr.a
 have hi : q + b < N := by rw [hq, hN]; exact hlt
 have r0 := hr.rk.cell (i := q + b) (by simp only; rw [← hN]; exact hi)
 have r1 := hr.ra.cell (i := q + b) (by simp only; rw [← hN]; exact hi)
 simp only at z0 z1 z2 z3 r0 r1
 rw [← hN] at z1 z3
 have HOKR := hid hr.ok
 have HQ := hid hq
 have HNN := hid hN
 clear hA hy hI0 hB1 hr hq hN hlt hnm hXZ htok
 have hnn : N ≤ 1000000 := by rw [HNN.out]; exact Nat.mul_le_mul HY.out.n HY.out.m
 cases hk : kn (q + b)
 rotate_left
 ·have HTA := hid (show rel a b = true → Z a b = true from fun h => HTK.out a b ha hb (by rw [HQ.out] at hk; exact hk) h)
  have HV := hid (show an (q + b) = rel a b by rw [HQ.out]; exact HOKR.out a b ha hb (by rw [← HQ.out]; exact hk))
  rw [hk] at r0
  rw [HV.out] at r1
  clear hk
  go_enter Tryz.func131, Tryz.ntmps131
  go_wp2_with fail
  go_ret
  exact ⟨rfl, ⟨Z, HXZ.out, HTA.out, Z, Sub.refl _, HI0.out, HB1.out, kn, an, HR.out, HTK.out⟩, Kept.refl _ _⟩
 ·rw [hk] at r0
  clear hk
  go_enter Tryz.func131, Tryz.ntmps131
  go_wp2_with fail
  have HCL := hid (fun x (hi : I0 Z x) => HA.out.call Z a b x ha hb hi)
  have HD := hid (show I0 Z w.drew from HA.out.drew HI0.out)
  have o := HY.out.ne
  simp only at o
  obtain ⟨o1, o2, o3, o4, o5, o6, o7, o8, o9⟩ := o
  have HRS := hid (fun x y2 (h : RemIn ⟨n, m, bm, bk, bd, ba, kb, ab⟩ g lb rel x kn an) (hs : B1 ≤ x.heap.size) (hk : Kept P0 x y2) => h.same HY.out (fun k h1 h2 => hk.block k (by omega) (fun hp => by have := HA.out.pb k hp; omega)))
  have HRD := hid (fun k => (⟨HR.out.m, HR.out.k, HR.out.d, HR.out.a, HR.out.rk, HR.out.ra, HR.out.ok⟩ : RemIn ⟨n, m, bm, bk, bd, ba, kb, ab⟩ g lb rel (w.drewN k) kn an))
  clear z0 z1 r1
  have e1 : (0 : Int) ≤ (q : Int) + (b : Int) := by omega
  have e2 : (q : Int) + (b : Int) < (N : Int) := by omega
  have e3 : ((q : Int) + (b : Int)).toNat = q + b := by omega
  go_region_held3 (fun x : World => x.cell? ⟨ba, 0, none⟩ = some (.slice (some ⟨ab, 0, none⟩) N N) ∧ x.cell? ⟨bd, 0, none⟩ = some (.func (.func g) #[] lb)) (first | exact ⟨z3, z2⟩ | exact ⟨x3, x2⟩ | exact ⟨lkCell (Ne.symm o9) x3, lkCell (Ne.symm o8) x2⟩ | fail) (first | (go_at_fn g; refine (HCL.out _ (HA.out.drewN HI0.out)).mono ?_; rintro e w2 ⟨rfl, ⟨Z2, hs2, ht2, hI2⟩, hk2⟩; have HS2 := hid hs2; have HT2 := hid ht2; have HR2 := hid (HRS.out _ _ (HRD.out _) HB1.out hk2); have HI2 := hid hI2; have HK2 := hid hk2; have HZ2 := hid hk2.size; clear hI2 hk2; have x3 := cell_of1 HR2.out.a; have x2 := cell_of1 HR2.out.d; have x4 := HR2.out.ra.cell (i := q + b) (by simp only; rw [← HNN.out]; exact hi); have x5 := HR2.out.ra.frozen (q + b); obtain ⟨cur, hcur, hcs, hcc⟩ := HR2.out.ra; simp only at x3 x2 x4 x5 hcur; rw [← HNN.out] at x3; clear hcs hcc))
  have x1 := cell_of1 HR2.out.k
  have x6 := HR2.out.rk.cell (i := q + b) (by simp only; rw [← HNN.out]; exact hi)
  have x7 := HR2.out.rk.frozen (q + b)
  simp only at x1 x6 x7
  rw [← HNN.out] at x1
  have HLE := hid (HR2.out.learn HY.out ha hb)
  have HIE := hid (show I0 Z2 ((w2.setCell ⟨ab, q + b, none⟩ (.bool (rel a b))).setCell ⟨kb, q + b, none⟩ (.bool true)) from HA.out.set (HA.out.set HI2.out (HY.out.lo.2.2.2.2.2) _) (HY.out.lo.2.2.2.2.1) _)
  have HKE := hid (show Kept (RemP ⟨n, m, bm, bk, bd, ba, kb, ab⟩ P0) w ((w2.setCell ⟨ab, q + b, none⟩ (.bool (rel a b))).setCell ⟨kb, q + b, none⟩ (.bool true)) from
   Kept.set (P := RemP ⟨n, m, bm, bk, bd, ba, kb, ab⟩ P0) (Kept.set (P := RemP ⟨n, m, bm, bk, bd, ba, kb, ab⟩ P0) (Kept.trans (P := RemP ⟨n, m, bm, bk, bd, ba, kb, ab⟩ P0) (Kept.drewN (Kept.refl _ w)) (HK2.out.mono (fun k _ h => Or.inl h))) (p := ⟨ab, q + b, none⟩) (Or.inl (Or.inr (Or.inr rfl))) _) (p := ⟨kb, q + b, none⟩) (Or.inl (Or.inr (Or.inl rfl))) _)
  have HSE := hid (show B1 ≤ ((w2.setCell ⟨ab, q + b, none⟩ (.bool (rel a b))).setCell ⟨kb, q + b, none⟩ (.bool true)).heap.size from by
   have h1 : w.heap.size ≤ w2.heap.size := HZ2.out
   have h2 := HB1.out
   simp only [World.setCell, Array.size_modify]
   omega)
  rw [← HQ.out] at HLE
  go_wp2_with fail
  go_ret
  refine ⟨rfl, ⟨Z2, HXZ.out.trans HS2.out, HT2.out, Z2, Sub.refl _, HIE.out, HSE.out, _, _, HLE.out, fun a' b' ha' hb' hk' hr' => ?_⟩, HKE.out⟩
  by_cases e : a' * m + b' = q + b
  ·obtain ⟨rfl, rfl⟩ := idx_inj hb' hb (by rw [e, HQ.out])
   exact HT2.out hr'
  ·rw [if_neg e] at hk'
   exact HS2.out a' b' (HTK.out a' b' ha' hb' hk' hr')
theorem remembered_anyT {B0 : Nat} {P0 : Nat → Prop} {I0 : (Nat → Nat → Bool) → World → Prop} {rel : Nat → Nat → Bool} {g n m : Nat} {lb : Array Value} (hA : AsksT B0 P0 I0 n m rel g lb) (hn : n ≤ 1000) (hm : m ≤ 1000) (w : World) (X : Nat → Nat → Bool) (hI : I0 X w) :
    Calls Tryz.prog 95 #[.int .i64 (n : Int), .int .i64 (m : Int), .func (.func g) #[] lb] w fun e w' => ∃ (lb' : Array Value) (P1 : Nat → Prop) (I1 : (Nat → Nat → Bool) → World → Prop), e = .returned (.func (.func 131) #[] lb') ∧
     AsksT w'.heap.size P1 I1 n m rel 131 lb' ∧ I1 X w' ∧ Below w.heap.size w w' ∧ (∀ k, P1 k → P0 k ∨ w.heap.size ≤ k) ∧ (∀ Z x, I1 Z x → ∃ Y, Sub Z Y ∧ I0 Y x) := by
 have HA := hid hA
 have HI := hid hI
 have hB := hA.lt X w hI
 obtain ⟨N, hN⟩ : ∃ N, N = n * m := ⟨_, rfl⟩
 have hnn : N ≤ 1000000 := by rw [hN]; exact Nat.mul_le_mul hn hm
 have hmul : wrap64 ((n : Int) * (m : Int)) = (N : Int) := by
  rw [hN, ← Int.natCast_mul]
  exact IntWalk.wrap64_in _ ⟨by omega, by rw [← hN]; omega⟩
 have hmk := run_make_row' (P := Tryz.prog) 85 4 (.bool false) 1 Tryz.underlying85 infoBl rfl .i64 .i64 N (by omega) (by omega)
 have HNN := hid hN
 clear hA hI hN
 obtain ⟨W, hW⟩ : ∃ W : World, W = (w.alloc (Obj.cells #[.int .i64 (m : Int)] 3)).alloc (Obj.cells #[.func (.func g) #[] lb] 94) := ⟨_, rfl⟩
 have hWs : W.heap.size = w.heap.size + 2 := by rw [hW]; simp
 have HWb := hid (show Below w.heap.size w W by rw [hW]; exact ba2 _ _ _)
 have HWm := hid (show W.heap[w.heap.size]? = some (Obj.cells #[.int .i64 (m : Int)] 3 (0, 0)) by rw [hW]; exact heap_old2 _ _ _)
 have HWd := hid (show W.heap[w.heap.size + 1]? = some (Obj.cells #[.func (.func g) #[] lb] 94 (0, 0)) by rw [hW]; exact heap_new2 _ _ _)
 obtain ⟨bm, hbm⟩ : ∃ bm, bm = w.heap.size := ⟨_, rfl⟩
 have z0 : W.cell? ⟨bm, 0, none⟩ = some (.int .i64 (m : Int)) := by rw [hbm]; exact cell_of1 HWm.out
 have l0 : bm < W.heap.size := by omega
 have l1 : bm < W.heap.size + 1 := by omega
 have l2 : bm < W.heap.size + 1 + 1 := by omega
 have l3 : bm < W.heap.size + 1 + 1 + 1 := by omega
 have HWS := hid hWs
 go_enter Tryz.func95, Tryz.ntmps95
 go_wp2_with fail
 rw [← hW, ← hbm]
 have HBM := hid hbm
 clear hW hWs hbm
 go_cut [7, 8, 12, 16] from 9 to 16 (fun s7 s8 s12 s16 wx => ∃ bk ba kb ab : Nat, s7 = .pointer (some ⟨bk, 0, none⟩) ∧ s8 = .pointer (some ⟨ba, 0, none⟩) ∧ s12 = .slice (some ⟨kb, 0, none⟩) N N ∧ s16 = .slice (some ⟨ab, 0, none⟩) N N ∧ wx.heap[bk]? = some (Obj.cells #[.slice (some ⟨kb, 0, none⟩) N N] 85 (0, 0)) ∧ wx.heap[ba]? = some (Obj.cells #[.slice (some ⟨ab, 0, none⟩) N N] 85 (0, 0)) ∧
  wx.heap[kb]? = some (Obj.cells (madeCells #[.bool false] N) 4 (0, 0)) ∧ wx.heap[ab]? = some (Obj.cells (madeCells #[.bool false] N) 4 (0, 0)) ∧ (W.heap.size ≤ bk ∧ W.heap.size ≤ ba ∧ W.heap.size ≤ kb ∧ W.heap.size ≤ ab) ∧ (kb ≠ ab ∧ kb ≠ bk ∧ kb ≠ ba ∧ ab ≠ bk ∧ ab ≠ ba) ∧ Below W.heap.size W wx)
 case first =>
  go_region
  all_goals (go_wp2_with fail; go_meet; exact ⟨_, _, _, _, rfl, rfl, rfl, rfl, (by first | exact (four_get W _ _ _ _).1 | exact (four_get W _ _ _ _).2.1 | exact (four_get W _ _ _ _).2.2.1 | exact (four_get W _ _ _ _).2.2.2), (by first | exact (four_get W _ _ _ _).1 | exact (four_get W _ _ _ _).2.1 | exact (four_get W _ _ _ _).2.2.1 | exact (four_get W _ _ _ _).2.2.2), (by first | exact (four_get W _ _ _ _).1 | exact (four_get W _ _ _ _).2.1 | exact (four_get W _ _ _ _).2.2.1 | exact (four_get W _ _ _ _).2.2.2), (by first | exact (four_get W _ _ _ _).1 | exact (four_get W _ _ _ _).2.1 | exact (four_get W _ _ _ _).2.2.1 | exact (four_get W _ _ _ _).2.2.2), ⟨by omega, by omega, by omega, by omega⟩, ⟨by omega, by omega, by omega, by omega, by omega⟩, four_below _ _ _ _ _⟩)
 case rest =>
  obtain ⟨bk, ba, kb, ab, rfl, rfl, rfl, rfl, q1, q2, q3, q4, q5, q6, hb⟩ := hcut
  have Q1 := hid q1
  have Q2 := hid q2
  have Q3 := hid q3
  have Q4 := hid q4
  have Q5 := hid q5
  have Q6 := hid q6
  have HB := hid hb
  clear q1 q2 q3 q4 q5 q6 hb z0 l0 l1 l2 l3 hmk hmul
  go_wp2_with fail
  go_ret
  have hws := HWS.out
  have hbs := HB.out.size
  have hbm := HBM.out
  have h1 := heap_lt Q1.out
  have h2 := heap_lt Q2.out
  have h3 := heap_lt Q3.out
  have h4 := heap_lt Q4.out
  have h5 := Q5.out
  have h6 := Q6.out
  have hwc : Below w.heap.size w wc := HWb.out.trans (HB.out.mono (by omega))
  have hok : RemOk ⟨n, m, bm, bk, bm + 1, ba, kb, ab⟩ B0 wc.heap.size := ⟨hn, hm, ⟨by simp only; omega, by simp only; omega, by simp only; omega, by simp only; omega, by simp only; omega, by simp only; omega⟩,
   ⟨by simp only; omega, h1, by simp only; omega, h2, h3, h4⟩, ⟨h6.1, by simp only; omega, h6.2.1, by simp only; omega, h6.2.2.1, by simp only; omega, h6.2.2.2.1, by simp only; omega, h6.2.2.2.2⟩⟩
  have hin : RemIn ⟨n, m, bm, bk, bm + 1, ba, kb, ab⟩ g lb rel wc (fun _ => false) (fun _ => false) :=
   ⟨by simp only; rw [HB.out.block _ (by omega), hbm]; exact HWm.out, by simp only; rw [← HNN.out]; exact Q1.out, by simp only; rw [HB.out.block _ (by omega), hbm]; exact HWd.out, by simp only; rw [← HNN.out]; exact Q2.out,
    by simp only; rw [← HNN.out]; exact row_of_made Q3.out, by simp only; rw [← HNN.out]; exact row_of_made Q4.out, fun a b _ _ h => by cases h⟩
  refine ⟨Rem.lb ⟨n, m, bm, bk, bm + 1, ba, kb, ab⟩, RemP ⟨n, m, bm, bk, bm + 1, ba, kb, ab⟩ P0, RemIT ⟨n, m, bm, bk, bm + 1, ba, kb, ab⟩ g lb rel I0 wc.heap.size, rfl, ?_, ?_, hwc, ?_, fun Z x ⟨Y, h1, h2, _⟩ => ⟨Y, h1, h2⟩⟩
  ·refine ⟨enters_of Tryz.func131 (by kernel_rfl) rfl, ?_, fun _ x ⟨_, _, _, h, _⟩ => h, ?_, fun V1 V2 x hs ⟨Z, h1, h2⟩ => ⟨Z, hs.trans h1, h2⟩, fun V1 x ⟨Z, h1, h2, _⟩ a b h => HA.out.le Z x h2 a b (h1 a b h), fun V1 a b x ha hb' hi => rem_callT ⟨n, m, bm, bk, bm + 1, ba, kb, ab⟩ HA.out hok V1 a b x ha hb' hi⟩
   ·intro k hk
    rcases hk with hk | hk | hk
    ·have := HA.out.pb k hk; have := hwc.size; omega
    ·rw [hk]; exact h3
    ·rw [hk]; exact h4
   ·intro V1 x x' ⟨Z, hz, hi, hs, kn, an, hr, htk⟩ hbx
    have hsx := hbx.size
    exact ⟨Z, hz, HA.out.same _ _ _ hi (hbx.mono (by have := hwc.size; omega)), by omega, kn, an, hr.same hok (fun k _ hk => hbx.block k hk), htk⟩
  ·exact ⟨X, Sub.refl _, HA.out.same _ _ _ HI.out (hwc.mono hB), Nat.le_refl _, _, _, hin, fun a b _ _ h => by cases h⟩
  ·intro k hk
   rcases hk with hk | hk | hk
   ·exact Or.inl hk
   ·right; rw [hk]; simp only; omega
   ·right; rw [hk]; simp only; omega
theorem same_anyT {B : Nat} {P : Nat → Prop} {I : (Nat → Nat → Bool) → World → Prop} {rel : Nat → Nat → Bool} {g n m : Nat} {lb : Array Value} (k : Nat) (hA : AsksT B P I n m rel g lb) (hkn : k ≤ n) (hkm : k ≤ m) (hn : n ≤ 1000) (w : World) (X : Nat → Nat → Bool) (hI : I X w) :
    Calls Tryz.prog 97 #[.int .i64 (k : Int), .func (.func g) #[] lb] w fun e w' => ∃ (Y : Nat → Nat → Bool) (r : Bool), e = .returned (.bool r) ∧ ((r = true ↔ ∀ a, a < k → rel a a = true) ∧ (r = true → ∀ a, a < k → Y a a = true)) ∧ (I Y w' ∧ Sub X Y) ∧ Kept P w w' := by
 have eg := hA.eg
 have HA := hid hA
 have HI := hid hI
 clear hA hI
 go_enter Tryz.func97, Tryz.ntmps97
 go_wp2_with fail
 go_loopw [7] (fun i wr => ∃ (a : Nat) (Y : Nat → Nat → Bool), a ≤ k ∧ i = .int .i64 a ∧ (∀ x, x < a → Y x x = true) ∧ (I Y wr ∧ Sub X Y) ∧ Kept P w wr) (fun i _ => k - (intOf i).toNat)
 case atStart => exact ⟨0, X, Nat.zero_le _, rfl, fun x h => by omega, ⟨HI.out, Sub.refl _⟩, Kept.refl _ _⟩
 case round =>
  obtain ⟨a, Y1, hak, rfl, hall, hI1, hk1⟩ := hrel
  have HALL := hid hall
  have HI1 := hid hI1
  have HK1 := hid hk1
  clear hall hI1 hk1
  by_cases hlt : a < k
  ·have hcall := HA.out.call Y1 a a wr (by omega) (by omega) HI1.out.1
   cases hr : rel a a
   ·rw [hr] at hcall
    have HR := hid hr
    clear hr
    go_wp2_with (go_at_fn g; refine hcall.mono ?_; rintro e w2 ⟨rfl, ⟨Y2, hs2, ht2, hI2⟩, hk2⟩)
    go_ret
    exact ⟨Y2, false, rfl, ⟨⟨(fun h => by cases h), fun h => by have := h a hlt; rw [HR.out] at this; cases this⟩, fun h => by cases h⟩, ⟨hI2, HI1.out.2.trans hs2⟩, HK1.out.trans hk2⟩
   ·rw [hr] at hcall
    have HR := hid hr
    clear hr
    go_wp2_with (go_at_fn g; refine hcall.mono ?_; rintro e w2 ⟨rfl, ⟨Y2, hs2, ht2, hI2⟩, hk2⟩)
    go_roundw
    case rel =>
     refine ⟨a + 1, Y2, by omega, by go_num, fun x hx => ?_, ⟨hI2, HI1.out.2.trans hs2⟩, HK1.out.trans hk2⟩
     by_cases e : x = a
     ·subst e; exact ht2 (by first | rfl | trivial | exact HR.out)
     ·exact hs2 _ _ (HALL.out x (by omega))
    case measure => simp [intOf]; omega
  ·go_wp2_with fail
   go_ret
   exact ⟨Y1, true, rfl, ⟨⟨fun _ x hx => HA.out.le Y1 _ HI1.out.1 x x (HALL.out x (by omega)), fun _ => rfl⟩, fun _ x hx => HALL.out x (by omega)⟩, HI1.out, HK1.out⟩
theorem cover_anyT {B : Nat} {P : Nat → Prop} {I : (Nat → Nat → Bool) → World → Prop} {rel : Nat → Nat → Bool} {g n m : Nat} {lb : Array Value} (hA : AsksT B P I n m rel g lb) (hn : n ≤ 1000) (hm : m ≤ 1000) (w : World) (X : Nat → Nat → Bool) (hI : I X w) :
    Calls Tryz.prog 98 #[.int .i64 (n : Int), .int .i64 (m : Int), .func (.func g) #[] lb] w fun e w' => ∃ (Y : Nat → Nat → Bool) (r : Bool), e = .returned (.bool r) ∧
     ((r = true ↔ (∀ a, a < n → ∃ b, b < m ∧ rel a b = true) ∧ ∀ b, b < m → ∃ a, a < n ∧ rel a b = true) ∧ (r = true → (∀ a, a < n → ∃ b, b < m ∧ Y a b = true) ∧ ∀ b, b < m → ∃ a, a < n ∧ Y a b = true)) ∧ (I Y w' ∧ Sub X Y) ∧ Kept (Qk P B) w w' := by
 have eg := hA.eg
 have HA := hid hA
 have HI := hid hI
 have hB := hA.lt X w hI
 have hmk := run_make_row' (P := Tryz.prog) 85 4 (.bool false) 1 Tryz.underlying85 infoBl rfl .i64 .i64 m (by omega) (by omega)
 obtain ⟨W, hW⟩ : ∃ W : World, W = w.alloc (Obj.cells (madeCells #[Value.bool false] m) 4) := ⟨_, rfl⟩
 obtain ⟨cb, hcb⟩ : ∃ cb, cb = w.heap.size := ⟨_, rfl⟩
 have HWR := hid (show W.rowIs cb 4 m (fun _ => .bool false) by rw [hW, hcb]; exact World.rowIs_made _ _ _ _)
 have HWI := hid (show I X W by rw [hW]; exact hA.same _ _ _ hI ((Below.refl _ _).alloc hB _))
 have HWK := hid (show Kept (Qk P B) w W by rw [hW]; exact (Kept.refl _ _).alloc _)
 have hBc : B ≤ cb := by omega
 clear hA hI
 go_enter Tryz.func98, Tryz.ntmps98
 go_wp2_with fail
 rw [← hW, ← hcb]
 clear hW hcb hmk hB
 go_loopw [15] (fun i wr => ∃ (a : Nat) (Y : Nat → Nat → Bool) (cv : Nat → Bool), a ≤ n ∧ i = .int .i64 a ∧ wr.rowIs cb 4 m (fun j => .bool (cv j)) ∧ (∀ x, x < a → ∃ b, b < m ∧ Y x b = true) ∧ (∀ b, b < m → cv b = true → ∃ x, x < n ∧ Y x b = true) ∧ (I Y wr ∧ Sub X Y) ∧ Kept (Qk P B) w wr) (fun i _ => n - (intOf i).toNat)
 case atStart => exact ⟨0, X, fun _ => false, Nat.zero_le _, rfl, HWR.out, fun x h => by omega, fun b _ h => (by cases h), ⟨HWI.out, Sub.refl _⟩, HWK.out⟩
 case round =>
  obtain ⟨a, Y1, cv, han, rfl, hrow, hall, hcv, hI1, hk1⟩ := hrel
  have HROW := hid hrow
  have HALL := hid hall
  have HCV := hid hcv
  have HI1 := hid hI1
  have HK1 := hid hk1
  clear hrow hall hcv hI1 hk1 HWR HWI HWK
  by_cases hlt : a < n
  ·go_wp2_with fail
   obtain ⟨wx, hwx⟩ : ∃ wx, wx = wr := ⟨_, rfl⟩
   rw [← hwx]
   rw [← hwx] at HROW HI1 HK1
   clear hwx
   go_loopw [9] (fun j wr => ∃ (b : Nat) (Y : Nat → Nat → Bool), b ≤ m ∧ j = .int .i64 b ∧ wr.rowIs cb 4 m (fun j => .bool (cv j)) ∧ (∀ y, y < b → rel a y = false) ∧ (I Y wr ∧ Sub X Y ∧ Sub Y1 Y) ∧ Kept (Qk P B) w wr) (fun j _ => m - (intOf j).toNat)
   case atStart => exact ⟨0, Y1, Nat.zero_le _, rfl, HROW.out, fun y h => by omega, ⟨HI1.out.1, HI1.out.2, Sub.refl _⟩, HK1.out⟩
   case round =>
    obtain ⟨b, Y2, hbm, rfl, hrow2, hno, hI2, hk2⟩ := hrel
    have HROW2 := hid hrow2
    have HNO := hid hno
    have HI2 := hid hI2
    have HK2 := hid hk2
    clear hrow2 hno hI2 hk2 HROW HI1 HK1
    by_cases hbl : b < m
    ·have hcall := HA.out.call Y2 a b wr hlt hbl HI2.out.1
     cases hr : rel a b
     ·rw [hr] at hcall
      have HR := hid hr
      clear hr
      go_wp2_with (go_at_fn g; refine hcall.mono ?_; rintro e w3 ⟨rfl, ⟨Y3, hs3, ht3, hI3⟩, hk3⟩)
      go_roundw
      case rel =>
       refine ⟨b + 1, Y3, by omega, by go_num, hk3.rowIs (fun hp => by have := HA.out.pb _ hp; omega) HROW2.out, fun y hy => ?_, ⟨hI3, HI2.out.2.1.trans hs3, HI2.out.2.2.trans hs3⟩, HK2.out.trans (hk3.mono (fun k _ h => Or.inl h))⟩
       by_cases e : y = b
       ·subst e; exact HR.out
       ·exact HNO.out y (by omega)
      case measure => simp [intOf]; omega
     ·rw [hr] at hcall
      have HR := hid hr
      clear hr
      have hbne : ¬ b = m := by omega
      go_wp2_with (go_at_fn g; refine hcall.mono ?_; rintro e w3 ⟨rfl, ⟨Y3, hs3, ht3, hI3⟩, hk3⟩; have HS3 := hid hs3; have HT3 := hid (show Y3 a b = true from ht3 (by first | rfl | trivial | exact HR.out)); have hrow3 := hk3.rowIs (fun hp => by have := HA.out.pb _ hp; omega) HROW2.out; have x0 := hrow3.cell hbl; have x1 := hrow3.frozen b; have HROW3 := hid hrow3; have HI3 := hid hI3; have HK3 := hid hk3; clear hrow3 hI3 hk3 hs3 ht3)
      go_roundw
      case rel =>
       refine ⟨a + 1, Y3, fun j => if j = b then true else cv j, by omega, by go_num, rowB_set HROW3.out b true, fun x hx => ?_, fun y hy h => ?_, ⟨HA.out.set HI3.out hBc _, HI2.out.2.1.trans HS3.out⟩, (HK2.out.trans (HK3.out.mono (fun k _ h => Or.inl h))).set (Or.inl (Or.inr hBc)) _⟩
       ·by_cases e : x = a
        ·subst e; exact ⟨b, hbl, HT3.out⟩
        ·obtain ⟨b', hb', h'⟩ := HALL.out x (by omega)
         exact ⟨b', hb', HS3.out _ _ (HI2.out.2.2 _ _ h')⟩
       ·by_cases e : y = b
        ·subst e; exact ⟨a, hlt, HT3.out⟩
        ·simp only [if_neg e] at h
         obtain ⟨x', hx', h'⟩ := HCV.out y hy h
         exact ⟨x', hx', HS3.out _ _ (HI2.out.2.2 _ _ h')⟩
      case measure => simp [intOf]; omega
    ·have hbe : b = m := by omega
     subst hbe
     go_wp2_with fail
     go_ret
     exact ⟨Y2, false, rfl, ⟨⟨(fun h => by cases h), fun h => by obtain ⟨y, hy, h1⟩ := h.1 a hlt; rw [HNO.out y hy] at h1; cases h1⟩, fun h => by cases h⟩, ⟨HI2.out.1, HI2.out.2.1⟩, HK2.out⟩
  ·have HALL2 := hid (show ∀ x, x < n → ∃ b, b < m ∧ Y1 x b = true from fun x hx => HALL.out x (by omega))
   go_wp2_with fail
   obtain ⟨wx, hwx⟩ : ∃ wx, wx = wr := ⟨_, rfl⟩
   rw [← hwx]
   rw [← hwx] at HROW HI1 HK1
   clear hwx
   go_loopw [38] (fun i wr => ∃ (b : Nat) (Y : Nat → Nat → Bool) (cv : Nat → Bool), b ≤ m ∧ i = .int .i64 b ∧ wr.rowIs cb 4 m (fun j => .bool (cv j)) ∧ (∀ y, y < b → ∃ x, x < n ∧ Y x y = true) ∧ (∀ y, y < m → cv y = true → ∃ x, x < n ∧ Y x y = true) ∧ (I Y wr ∧ Sub X Y ∧ Sub Y1 Y) ∧ Kept (Qk P B) w wr) (fun i _ => m - (intOf i).toNat)
   case atStart => exact ⟨0, Y1, cv, Nat.zero_le _, rfl, HROW.out, fun x h => by omega, HCV.out, ⟨HI1.out.1, HI1.out.2, Sub.refl _⟩, HK1.out⟩
   case round =>
    obtain ⟨b, Y2, cv1, hbm, rfl, hrow2, hdone, hcv2, hI2, hk2⟩ := hrel
    have HROW2 := hid hrow2
    have HDN := hid hdone
    have HCV2 := hid hcv2
    have HI2 := hid hI2
    have HK2 := hid hk2
    clear hrow2 hdone hcv2 hI2 hk2 HROW HI1 HK1 HCV
    by_cases hbl : b < m
    ·go_wp2_with fail
     obtain ⟨wy, hwy⟩ : ∃ wy, wy = wr := ⟨_, rfl⟩
     rw [← hwy]
     rw [← hwy] at HROW2 HI2 HK2
     clear hwy
     go_loopw [11] (fun j wr => ∃ (a : Nat) (Y : Nat → Nat → Bool) (cv : Nat → Bool), a ≤ n ∧ j = .int .i64 a ∧ wr.rowIs cb 4 m (fun j => .bool (cv j)) ∧ (cv b = false → ∀ x, x < a → rel x b = false) ∧ (∀ y, y < m → cv y = true → ∃ x, x < n ∧ Y x y = true) ∧ (I Y wr ∧ Sub X Y ∧ Sub Y1 Y ∧ Sub Y2 Y) ∧ Kept (Qk P B) w wr) (fun j _ => n - (intOf j).toNat)
     case atStart => exact ⟨0, Y2, cv1, Nat.zero_le _, rfl, HROW2.out, fun _ x h => by omega, HCV2.out, ⟨HI2.out.1, HI2.out.2.1, HI2.out.2.2, Sub.refl _⟩, HK2.out⟩
     case round =>
      obtain ⟨a, Y3, cv3, han, rfl, hrow3, hno, hcv3, hI3, hk3⟩ := hrel
      have x0 := hrow3.cell hbl
      have HROW3 := hid hrow3
      have HNO := hid hno
      have HCV3 := hid hcv3
      have HI3 := hid hI3
      have HK3 := hid hk3
      clear hrow3 hno hcv3 hI3 hk3 HROW2 HI2 HK2
      try simp only at x0
      cases hcb : cv3 b
      rotate_left
      ·rw [hcb] at x0
       have HC := hid hcb
       clear hcb
       go_wp2_with fail
       go_roundw
       case rel =>
        refine ⟨b + 1, Y3, cv3, by omega, by go_num, HROW3.out, fun y hy => ?_, HCV3.out, ⟨HI3.out.1, HI3.out.2.1, HI3.out.2.2.1⟩, HK3.out⟩
        by_cases e : y = b
        ·subst e; exact HCV3.out y hbl HC.out
        ·obtain ⟨x', hx', h'⟩ := HDN.out y (by omega)
         exact ⟨x', hx', HI3.out.2.2.2 _ _ h'⟩
       case measure => simp [intOf]; omega
      ·rw [hcb] at x0
       have HC := hid hcb
       clear hcb
       by_cases ha : a < n
       ·have hane : ¬ a = n := by omega
        have HCL := hid (HA.out.call Y3 a b wr ha hbl HI3.out.1)
        go_wp2_with (go_at_fn g; refine HCL.out.mono ?_; rintro e w4 ⟨rfl, ⟨Y4, hs4, ht4, hI4⟩, hk4⟩; have HS4 := hid hs4; have HT4 := hid ht4; have hrow4 := hk4.rowIs (fun hp => by have := HA.out.pb _ hp; omega) HROW3.out; have y0 := hrow4.cell hbl; have y1 := hrow4.frozen b; have HROW4 := hid hrow4; have HI4 := hid hI4; have HK4 := hid hk4; clear hrow4 hI4 hk4 hs4 ht4)
        go_roundw
        case rel =>
         refine ⟨a + 1, Y4, fun j => if j = b then rel a b else cv3 j, by omega, by go_num, rowB_set HROW4.out b (rel a b), fun h x hx => ?_, fun y hy h => ?_, ⟨HA.out.set HI4.out hBc _, HI3.out.2.1.trans HS4.out, HI3.out.2.2.1.trans HS4.out, HI3.out.2.2.2.trans HS4.out⟩, (HK3.out.trans (HK4.out.mono (fun k _ h => Or.inl h))).set (Or.inl (Or.inr hBc)) _⟩
         ·simp only [if_true] at h
          by_cases e : x = a
          ·subst e; exact h
          ·exact HNO.out HC.out x (by omega)
         ·by_cases e : y = b
          ·subst e; simp only [if_true] at h; exact ⟨a, ha, HT4.out h⟩
          ·simp only [if_neg e] at h
           obtain ⟨x', hx', h'⟩ := HCV3.out y hy h
           exact ⟨x', hx', HS4.out _ _ h'⟩
        case measure => simp [intOf]; omega
       ·have hae : a = n := by omega
        subst hae
        go_wp2_with fail
        go_ret
        exact ⟨Y3, false, rfl, ⟨⟨(fun h => by cases h), fun h => by obtain ⟨x, hx, h1⟩ := h.2 b hbl; rw [HNO.out HC.out x hx] at h1; cases h1⟩, fun h => by cases h⟩, ⟨HI3.out.1, HI3.out.2.1⟩, HK3.out⟩
    ·go_wp2_with fail
     go_ret
     have hY : (∀ a, a < n → ∃ b, b < m ∧ Y2 a b = true) ∧ ∀ b, b < m → ∃ a, a < n ∧ Y2 a b = true :=
      ⟨fun a ha => let ⟨b', hb', h'⟩ := HALL2.out a ha; ⟨b', hb', HI2.out.2.2 _ _ h'⟩, fun y hy => HDN.out y (by omega)⟩
     have hle := HA.out.le Y2 _ HI2.out.1
     exact ⟨Y2, true, rfl, ⟨⟨fun _ => ⟨fun a ha => let ⟨b', hb', h'⟩ := hY.1 a ha; ⟨b', hb', hle a b' h'⟩, fun y hy => let ⟨x', hx', h'⟩ := hY.2 y hy; ⟨x', hx', hle x' y h'⟩⟩, fun _ => rfl⟩, fun _ => hY⟩, ⟨HI2.out.1, HI2.out.2.1⟩, HK2.out⟩
end Go.Proofs.YtcekilcgpgjooaaGreatDoor
