/- Proved here: contracts of the walk to BisimGraphs: findPaths; each under the conditions that its own statement names. -/
import Derived.Test.YtcekilcgpgjooaaGreatDoorG25
set_option maxRecDepth 100000
set_option maxHeartbeats 6400000
namespace Go.Proofs.YtcekilcgpgjooaaGreatDoor
open Go Go.RowKit
open Go.Lib (hid)
structure MdOk (x : Mv) (B db eb base : Nat) : Prop where
 o : x.Ok B
 d : x.vb + 2 + x.m ≤ db
 e : x.vb + 2 + x.m ≤ eb
 de : db ≠ eb
 dt : db < base
 et : eb < base
structure MdIn (x : Mv) (db eb : Nat) (fv : Value) (w : World) (le ri : Nat → Int) (mv : Nat → Nat → Int) (ld rd : Nat → Int) : Prop where
 m : MvIn x fv (.slice (some ⟨db, 0, none⟩) x.n x.n) (.slice (some ⟨eb, 0, none⟩) x.m x.m) w le ri mv
 l : w.rowIs db 3 x.n (fun a => .int .i64 (ld a))
 r : w.rowIs eb 3 x.m (fun b => .int .i64 (rd b))
theorem MdIn.same {x : Mv} {B db eb base : Nat} {fv : Value} {w w' : World} {le ri : Nat → Int} {mv : Nat → Nat → Int} {ld rd : Nat → Int} (h : MdIn x db eb fv w le ri mv ld rd) (hx : MdOk x B db eb base)
    (hk : ∀ k, B ≤ k → k < base → w'.heap[k]? = w.heap[k]?) : MdIn x db eb fv w' le ri mv ld rd := by
 have h1 := hx.o.l
 have h2 := hx.o.r
 have h3 := hx.o.lv
 have h4 := hx.o.rv
 have h5 := hx.d
 have h6 := hx.e
 have h7 := hx.dt
 have h8 := hx.et
 exact ⟨⟨by rw [hk _ (by omega) (by omega)]; exact h.m.st, h.m.left.of_block (hk _ (by omega) (by omega)), h.m.right.of_block (hk _ (by omega) (by omega)), h.m.moved.of_block (hk _ (by omega) (by omega)),
  fun b hb => (h.m.cols b hb).of_block (hk _ (by omega) (by omega))⟩, h.l.of_block (hk _ (by omega) (by omega)), h.r.of_block (hk _ (by omega) (by omega))⟩
theorem MdIn.kept {x : Mv} {B db eb base : Nat} {P : Nat → Prop} {fv : Value} {w w' : World} {le ri : Nat → Int} {mv : Nat → Nat → Int} {ld rd : Nat → Int} (h : MdIn x db eb fv w le ri mv ld rd) (hx : MdOk x B db eb base)
    (hk : Kept P w w') (hP : ∀ k, P k → k < B ∨ base ≤ k) (hb : base ≤ w.heap.size) : MdIn x db eb fv w' le ri mv ld rd :=
 h.same hx (fun k h1 h2 => hk.block k (by omega) (fun hp => by have := hP k hp; omega))
theorem MdIn.setD {x : Mv} {B db eb base : Nat} {fv : Value} {w : World} {le ri : Nat → Int} {mv : Nat → Nat → Int} {ld rd : Nat → Int} (h : MdIn x db eb fv w le ri mv ld rd) (hx : MdOk x B db eb base) (a : Nat) (v : Int) :
    MdIn x db eb fv (w.setCell ⟨db, a, none⟩ (.int .i64 v)) le ri mv (upd ld a v) rd := by
 have h3 := hx.o.lv
 have h4 := hx.o.rv
 have h5 := hx.d
 have h6 := hx.de
 refine ⟨⟨by rw [Below.heap_setCell _ _ _ _ (by simp; omega)]; exact h.m.st, h.m.left.setOther (by simp; omega) _, h.m.right.setOther (by simp; omega) _, h.m.moved.setOther (by simp; omega) _,
  fun b hb => (h.m.cols b hb).setOther (by simp; omega) _⟩, rowI_set h.l a v, h.r.setOther (by simp; omega) _⟩
theorem MdIn.setE {x : Mv} {B db eb base : Nat} {fv : Value} {w : World} {le ri : Nat → Int} {mv : Nat → Nat → Int} {ld rd : Nat → Int} (h : MdIn x db eb fv w le ri mv ld rd) (hx : MdOk x B db eb base) (b : Nat) (v : Int) :
    MdIn x db eb fv (w.setCell ⟨eb, b, none⟩ (.int .i64 v)) le ri mv ld (upd rd b v) := by
 have h3 := hx.o.lv
 have h4 := hx.o.rv
 have h5 := hx.e
 have h6 := hx.de
 refine ⟨⟨by rw [Below.heap_setCell _ _ _ _ (by simp; omega)]; exact h.m.st, h.m.left.setOther (by simp; omega) _, h.m.right.setOther (by simp; omega) _, h.m.moved.setOther (by simp; omega) _,
  fun b hb => (h.m.cols b hb).setOther (by simp; omega) _⟩, h.l.setOther (by simp; omega) _, rowI_set h.r b v⟩
abbrev Qk (P : Nat → Prop) (B : Nat) : Nat → Prop := fun k => P k ∨ B ≤ k
theorem find_any {B : Nat} {P : Nat → Prop} {I : World → Prop} {rel : Nat → Nat → Bool} {g : Nat} {lbv : Array Value} {L R : Nat → Int} (x : Mv) (db eb : Nat) (hA : Asks B P I x.n x.m rel g lbv) (hb : Sml x.n x.m L R)
    (le ri : Nat → Int) (mv : Nat → Nat → Int) (ld rd : Nat → Int) (w : World) (hx : MdOk x B db eb w.heap.size) (hI : I w) (hm : MdIn x db eb (.func (.func g) #[] lbv) w le ri mv ld rd) (hp : Part x.n x.m L R rel mv le ri) :
    Calls Tryz.prog 134 #[x.ptr] w fun e w' => ∃ p ld' rd', e = .returned (.bool p) ∧ MdIn x db eb (.func (.func g) #[] lbv) w' le ri mv ld' rd' ∧ Depths x.n x.m rel mv le ri ld' rd' p ∧ I w' ∧ Kept (Qk P B) w w' := by
 have eg := hA.eg
 have HA := hid hA
 have HX := hid hx
 have HSm := hid hb
 obtain ⟨lb, rb, vb, n, m⟩ := x
 have hn1 : n ≤ 1000 := hb.hn
 have hm1 : m ≤ 1000 := hb.hm
 have hBb : B ≤ w.heap.size := by have := hx.o.l; have := hx.o.lv; have := hx.d; have := hx.dt; omega
 have HBB := hid hBb
 obtain ⟨base, hbase⟩ : ∃ base, base = w.heap.size := ⟨_, rfl⟩
 rw [← hbase] at HX HBB
 obtain ⟨c0, c1, c2, c3, c4, c5⟩ := cells6 hm.m.st
 have HM := hid hm
 have HP := hid hp
 have HI := hid hI
 have HBS := hid hbase
 clear hA hx hb hm hp hI hBb hbase
 simp only at c0 c1 c2 c3 c4 c5
 go_enter Tryz.func134, Tryz.ntmps134
 go_wp2_with fail
 go_loopw [3, 19] (fun fs i wr => ∃ (k : Nat) (ld : Nat → Int) (fl : List Nat) (fa : Option Addr) (fc : Nat), k ≤ n ∧ i = .int .i64 k ∧ fs = .slice fa fl.length fc ∧ Fnd base wr (.slice fa fl.length fc) fl ∧ Ini le ld fl k ∧
  MdIn ⟨lb, rb, vb, n, m⟩ db eb (.func (.func g) #[] lbv) wr le ri mv ld rd ∧ I wr ∧ Kept (Qk P B) w wr ∧ base ≤ wr.heap.size) (fun _ i _ => n - (intOf i).toNat)
 case atStart => exact ⟨0, ld, [], none, 0, Nat.zero_le _, rfl, rfl, Fnd.nil _ _, Ini.start _ _, HM.out, HI.out, Kept.refl _ _, by rw [HBS.out]; exact Nat.le_refl _⟩
 case round =>
  obtain ⟨k, ld1, fl, fa, fc, hk, rfl, rfl, hF, hIn, hm1', hI1, hk1, hbs⟩ := hrel
  have HF := hid hF
  have HIN := hid hIn
  have HM1 := hid hm1'
  have HI1 := hid hI1
  have HK1 := hid hk1
  have hfl := hIn.len_le
  clear hF hIn hm1' hI1 hk1 c0 c1 c2 c3 c4 c5
  obtain ⟨c0, c1, c2, c3, c4, c5⟩ := cells6 HM1.out.m.st
  simp only at c0 c1 c2 c3 c4 c5
  by_cases hlt : k < n
  ·have d0 := HM1.out.m.left.cell hlt
   have e0 := HM1.out.l.cell hlt
   have f0 := HM1.out.l.frozen k
   have hle := HP.out.le_L hlt
   have hLb := HSm.out.l k hlt
   have hdb := HX.out.d
   have heb := HX.out.e
   have hlv := HX.out.o.lv
   have hrv := HX.out.o.rv
   simp only at d0 e0 f0 hle hLb hdb heb hlv hrv
   obtain ⟨lv, hlv'⟩ : ∃ lv, lv = le k := ⟨_, rfl⟩
   rw [← hlv'] at d0 hle
   have HLV := hid hlv'
   clear hlv'
   have hmk1 := HM1.out.setD HX.out k (-1)
   by_cases hl0 : 0 < lv
   ·obtain ⟨wa, hwa⟩ : ∃ wa, wa = (wr.setCell ⟨db, k, none⟩ (.int .i64 (-1))).setCell ⟨db, k, none⟩ (.int .i64 0) := ⟨_, rfl⟩
    have hdt := HX.out.dt
    have hBl := HX.out.o.l
    simp only at hdt hBl
    have HFa := hid (show Fnd base wa (.slice fa fl.length fc) fl by rw [hwa]; exact (HF.out.set hdt _).set hdt _)
    have HMa := hid (show MdIn ⟨lb, rb, vb, n, m⟩ db eb (.func (.func g) #[] lbv) wa le ri mv (upd (upd ld1 k (-1)) k 0) rd by rw [hwa]; exact hmk1.setD HX.out k 0)
    have HIa := hid (show I wa by rw [hwa]; exact HA.out.set (HA.out.set HI1.out (by simp; omega) _) (by simp; omega) _)
    have HKa := hid (show Kept (Qk P B) w wa by rw [hwa]; exact (HK1.out.set (Or.inl (Or.inr (by simp; omega))) _).set (Or.inl (Or.inr (by simp; omega))) _)
    have hsza : wa.heap.size = wr.heap.size := by rw [hwa]; simp [World.setCell]
    have HSZ := hid hsza
    have hbsa : base ≤ wa.heap.size := by omega
    clear hsza
    have HWA := hid hwa
    clear hmk1 hwa
    go_wp2_with (at_builtin; rw [← HWA.out]; refine wpList_append_fnd rfl _ _ rfl base (.slice fa fl.length fc) fl k wa wr.heap.size HSZ.out rfl HFa.out rfl (by omega) hbsa ?_)
    intro a' cap' w1 hF1 hKx
    have hbs1 := hKx.size
    go_wp2_with fail
    go_roundw
    case rel => exact ⟨k + 1, upd (upd ld1 k (-1)) k 0, fl ++ [k], a', cap', by omega, by go_num, by simp, by simpa using hF1, HIN.out.left (by rw [← HLV.out]; exact hl0), HMa.out.kept HX.out hKx (fun _ h => Or.inr h) hbsa, HA.out.same _ _ HIa.out (hKx.toBelow (by omega) (fun q hq h => by have := HBB.out; omega)), HKa.out.trans (hKx.mono (fun q _ h => Or.inr (by have := HBB.out; omega))), by omega⟩
    case measure => simp [intOf]; omega
   ·have HMk := hid hmk1
    have hBl := HX.out.o.l
    try simp only at hBl
    clear hmk1
    go_wp2_with fail
    go_roundw
    case rel => exact ⟨k + 1, upd ld1 k (-1), fl, fa, fc, by omega, by go_num, rfl, HF.out.set HX.out.dt _, HIN.out.none (by rw [← HLV.out]; exact hl0), HMk.out, HA.out.set HI1.out (by simp; omega) _, HK1.out.set (Or.inl (Or.inr (by simp; omega))) _, by simpa [World.setCell] using hbs⟩
    case measure => simp [intOf]; omega
  ·have hkn : k = n := by omega
   have HIN2 := hid (show Ini le ld1 fl n by have := HIN.out; rw [hkn] at this; exact this)
   have HBS1 := hid hbs
   clear hkn HIN hbs
   go_wp2_with fail
   go_loopw [48] (fun j wr => ∃ (b : Nat) (rd : Nat → Int), b ≤ m ∧ j = .int .i64 b ∧ (∀ y, y < b → rd y = -1) ∧ Fnd base wr (.slice fa fl.length fc) fl ∧
    MdIn ⟨lb, rb, vb, n, m⟩ db eb (.func (.func g) #[] lbv) wr le ri mv ld1 rd ∧ I wr ∧ Kept (Qk P B) w wr ∧ base ≤ wr.heap.size) (fun j _ => m - (intOf j).toNat)
   case atStart => exact ⟨0, rd, Nat.zero_le _, rfl, fun y hy => by omega, HF.out, HM1.out, HI1.out, HK1.out, HBS1.out⟩
   case round =>
    obtain ⟨b, rd1, hbm, rfl, hr1, hF1, hm2, hI2, hk2, hbs2⟩ := hrel
    have HR1 := hid hr1
    have HF1 := hid hF1
    have HM2 := hid hm2
    have HI2 := hid hI2
    have HK2 := hid hk2
    clear hr1 hF1 hm2 hI2 hk2 c0 c1 c2 c3 c4 c5 HM1 HI1 HK1 HF HBS1
    obtain ⟨c0, c1, c2, c3, c4, c5⟩ := cells6 HM2.out.m.st
    simp only at c0 c1 c2 c3 c4 c5
    by_cases hbl : b < m
    ·have d0 := HM2.out.r.cell hbl
     have f0 := HM2.out.r.frozen b
     have heb := HX.out.e
     have hlv := HX.out.o.lv
     have hBl := HX.out.o.l
     simp only at d0 f0 heb hlv hBl
     go_wp2_with fail
     go_roundw
     case rel =>
      refine ⟨b + 1, upd rd1 b (-1), by omega, by go_num, fun y hy => ?_, HF1.out.set HX.out.et _, HM2.out.setE HX.out b _, HA.out.set HI2.out (by simp; omega) _, HK2.out.set (Or.inl (Or.inr (by simp; omega))) _, by simpa [World.setCell] using hbs2⟩
      by_cases e : y = b
      ·subst e; exact upd_same _ _ _
      ·rw [upd_other e]; exact HR1.out y (by omega)
     case measure => simp [intOf]; omega
    ·have HB0 := hid (show Bfs n m rel mv le ri ld1 rd1 fl 0 0 0 m 0 false from HIN2.out.bfs (fun y hy => HR1.out y (by omega)) 0)
     have HBS2 := hid hbs2
     clear hbs2
     go_wp2_with fail
     go_loopw [3, 7, 8] (fun fs pv j wr => ∃ (i a : Nat) (ld rd : Nat → Int) (fl : List Nat) (fa : Option Addr) (fc : Nat) (pb : Bool), j = .int .i64 i ∧ pv = .bool pb ∧ fs = .slice fa fl.length fc ∧ i ≤ fl.length ∧ Fnd base wr (.slice fa fl.length fc) fl ∧
      Bfs n m rel mv le ri ld rd fl i a 0 m 0 pb ∧ MdIn ⟨lb, rb, vb, n, m⟩ db eb (.func (.func g) #[] lbv) wr le ri mv ld rd ∧ I wr ∧ Kept (Qk P B) w wr ∧ base ≤ wr.heap.size) (fun _ _ j _ => n - (intOf j).toNat)
     case atStart => exact ⟨0, 0, ld1, rd1, fl, fa, fc, false, rfl, rfl, rfl, Nat.zero_le _, HF1.out, HB0.out, HM2.out, HI2.out, HK2.out, HBS2.out⟩
     case round =>
      obtain ⟨i, a0, ld1, rd1, fl1, fa1, fc1, pb1, rfl, rfl, rfl, hi, hF1, hB1, hm1', hI1, hk1, hbs1⟩ := hrel
      have HF1 := hid hF1
      have HB1 := hid hB1
      have HM1 := hid hm1'
      have HI1 := hid hI1
      have HK1 := hid hk1
      have HBS1 := hid hbs1
      have hfl := hB1.len_le
      clear hF1 hB1 hm1' hI1 hk1 hbs1 c0 c1 c2 c3 c4 c5 HM2 HI2 HK2 HB0 HBS2 HIN2 HR1
      obtain ⟨c0, c1, c2, c3, c4, c5⟩ := cells6 HM1.out.m.st
      simp only at c0 c1 c2 c3 c4 c5
      by_cases hil : i < fl1.length
      ·obtain ⟨fg, rfl, hfg, f0⟩ := HF1.out.get hil
       obtain ⟨a, ha⟩ : ∃ a, a = fl1[i] := ⟨_, rfl⟩
       have HFA1 := hid (show fl1[i]? = some a by rw [ha]; exact List.getElem?_eq_getElem hil)
       rw [← ha] at f0
       obtain ⟨hax, hal0, hal1⟩ := HB1.out.ent i a HFA1.out
       have HB1' := hid (HB1.out.at a)
       obtain ⟨la, hla⟩ : ∃ la, la = ld1 a := ⟨_, rfl⟩
       rw [← hla] at hal0 hal1
       have HLA1 := hid hla
       clear ha HB1 hla
       go_wp2_with fail
       obtain ⟨wx, hwx⟩ : ∃ wx, wx = wr := ⟨_, rfl⟩
       rw [← hwx]
       rw [← hwx] at HF1 HM1 HI1 HK1 HBS1
       clear hwx f0 c0 c1 c2 c3 c4 c5
       go_loopw [3, 7, 73] (fun fs pv j wr => ∃ (b : Nat) (ld rd : Nat → Int) (fl : List Nat) (fa : Option Addr) (fc : Nat) (pb : Bool), b ≤ m ∧ j = .int .i64 b ∧ pv = .bool pb ∧ fs = .slice fa fl.length fc ∧ Fnd base wr (.slice fa fl.length fc) fl ∧
        Bfs n m rel mv le ri ld rd fl i a b m 0 pb ∧ fl[i]? = some a ∧ ld a = la ∧ MdIn ⟨lb, rb, vb, n, m⟩ db eb (.func (.func g) #[] lbv) wr le ri mv ld rd ∧ I wr ∧ Kept (Qk P B) w wr ∧ base ≤ wr.heap.size) (fun _ _ j _ => m - (intOf j).toNat)
       case atStart => exact ⟨0, ld1, rd1, fl1, some ⟨fg, 0, none⟩, fc1, pb1, Nat.zero_le _, rfl, rfl, rfl, HF1.out, HB1'.out, HFA1.out, HLA1.out.symm, HM1.out, HI1.out, HK1.out, HBS1.out⟩
       case round =>
        obtain ⟨b, ld2, rd2, fl2, fa2, fc2, pb2, hbm, rfl, rfl, rfl, hF2, hB2, hfa2, hla2, hm2, hI2, hk2, hbs2⟩ := hrel
        have HF2 := hid hF2
        have HB2 := hid hB2
        have HFA := hid hfa2
        have HLA := hid hla2.symm
        have HM2 := hid hm2
        have HI2 := hid hI2
        have HK2 := hid hk2
        have HBS2 := hid hbs2
        have hfl2 := hB2.len_le
        clear hF2 hB2 hfa2 hla2 hm2 hI2 hk2 hbs2 HF1 HB1' HM1 HI1 HK1 HBS1
        obtain ⟨c0, c1, c2, c3, c4, c5⟩ := cells6 HM2.out.m.st
        simp only at c0 c1 c2 c3 c4 c5
        by_cases hbl : b < m
        ·have d0 := HM2.out.r.cell hbl
         try simp only at d0
         obtain ⟨rdv, hrd⟩ : ∃ rdv, rdv = rd2 b := ⟨_, rfl⟩
         rw [← hrd] at d0
         have HRD := hid hrd
         have hrdl := HB2.out.rlow b hbl
         rw [← hrd] at hrdl
         clear hrd
         by_cases hrd0 : 0 ≤ rdv
         ·go_wp2_with fail
          go_roundw
          case rel => exact ⟨b + 1, ld2, rd2, fl2, fa2, fc2, pb2, by omega, by go_num, rfl, rfl, HF2.out, HB2.out.skip (Or.inl (by rw [← HRD.out]; exact hrd0)), HFA.out, HLA.out.symm, HM2.out, HI2.out, HK2.out, HBS2.out⟩
          case measure => simp [intOf]; omega
         have hcall := HA.out.call a b wr hax hbl HI2.out
         cases hrel : rel a b
         ·rw [hrel] at hcall
          have HREL := hid hrel
          clear hrel
          go_wp2_with (go_at_fn g; refine hcall.mono ?_; rintro e w3 ⟨rfl, hI3, hk3⟩)
          have hbs3 := hk3.size
          have HM3 := HM2.out.kept HX.out hk3 (fun q hq => Or.inl (HA.out.pb q hq)) HBS2.out
          have HF3 := HF2.out.kept hk3 (fun q hq => by have := HA.out.pb q hq; have := HBB.out; omega)
          go_roundw
          case rel => exact ⟨b + 1, ld2, rd2, fl2, fa2, fc2, pb2, by omega, by go_num, rfl, rfl, HF3, HB2.out.skip (Or.inr HREL.out), HFA.out, HLA.out.symm, HM3, hI3, HK2.out.trans (hk3.mono (fun q _ hq => Or.inl hq)), by have := HBS2.out; omega⟩
          case measure => simp [intOf]; omega
         rw [hrel] at hcall
         have HREL := hid hrel
         clear hrel
         obtain ⟨rv, hrv⟩ : ∃ rv, rv = ri b := ⟨_, rfl⟩
         have hri := HP.out.ri_R hbl
         have hRb := HSm.out.r b hbl
         try simp only at hri hRb
         rw [← hrv] at hri
         have HRV := hid hrv
         have hdt := HX.out.dt
         have heb := HX.out.e
         have hdbb := HX.out.d
         have hlv := HX.out.o.lv
         have hrv2 := HX.out.o.rv
         have hBl := HX.out.o.l
         have hde := HX.out.de
         have het := HX.out.et
         have hBB := HBB.out
         try simp only at hdt heb hdbb hlv hrv2 hBl hde het
         clear hrv
         have hcases : pb2 = true ∨ pb2 = false ∧ 0 < rv ∨ pb2 = false ∧ ¬ 0 < rv := by
          cases pb2
          ·by_cases h : 0 < rv
           ·exact Or.inr (Or.inl ⟨rfl, h⟩)
           ·exact Or.inr (Or.inr ⟨rfl, h⟩)
          ·exact Or.inl rfl
         rcases hcases with rfl | ⟨rfl, hr0⟩ | ⟨rfl, hr0⟩
         ·go_wp2_with (go_at_fn g; refine hcall.mono ?_; rintro e w3 ⟨rfl, hI3, hk3⟩; have hm3 := HM2.out.kept HX.out hk3 (fun q hq => Or.inl (HA.out.pb q hq)) HBS2.out; obtain ⟨y0, y1, y2, y3, y4, y5⟩ := cells6 hm3.m.st; have g0 := hm3.l.cell hax; have g1 := hm3.r.cell hbl; have g2 := hm3.m.right.cell hbl; have g3 := hm3.m.moved.cell hbl; have g4 := hm3.r.frozen b; simp only at y0 y1 y2 y3 y4 y5 g0 g1 g2 g3 g4; rw [← HLA.out] at g0; rw [← HRD.out] at g1; rw [← HRV.out] at g2; have HM3 := hid hm3; have HI3 := hid hI3; have HK3 := hid hk3; clear hm3 hI3 hk3)
          obtain ⟨w4, hw4⟩ : ∃ w4, w4 = w3.setCell ⟨eb, b, none⟩ (.int .i64 (la + 1)) := ⟨_, rfl⟩
          have HM4 := hid (show MdIn ⟨lb, rb, vb, n, m⟩ db eb (.func (.func g) #[] lbv) w4 le ri mv ld2 (upd rd2 b (la + 1)) by rw [hw4]; exact HM3.out.setE HX.out b _)
          have HI4 := hid (show I w4 by rw [hw4]; exact HA.out.set HI3.out (by simp; omega) _)
          have HK4 := hid (show Kept (Qk P B) w w4 by rw [hw4]; exact (HK2.out.trans (HK3.out.mono (fun q _ hq => Or.inl hq))).set (Or.inl (Or.inr (by simp; omega))) _)
          have HF4 := hid (show Fnd base w4 (.slice fa2 fl2.length fc2) fl2 by rw [hw4]; exact (HF2.out.kept HK3.out (fun q hq => by have := HA.out.pb q hq; omega)).set (by simp; omega) _)
          have HB4 := hid (show Bfs n m rel mv le ri ld2 (upd rd2 b (la + 1)) fl2 i a (b + 1) b 0 true by rw [HLA.out]; exact HB2.out.mark hn1 HFA.out hbl (by rw [← HRD.out]; omega) HREL.out (by rw [← HRV.out]; simp []))
          have HS4 := hid (show base ≤ w4.heap.size by rw [hw4]; have := HK3.out.size; have := HBS2.out; simpa [World.setCell] using (by omega))
          have HD4 := hid (show upd rd2 b (la + 1) b = la + 1 from upd_same _ _ _)
          rw [← hw4]
          clear hw4 y0 y1 y2 y3 y4 y5 g0 g1 g2 g3 g4 HM3 HI3 HK3 HM2 HI2 HK2 HF2 HB2 hcall
          go_loopw [3, 128] (fun fs j wr => ∃ (c : Nat) (ld : Nat → Int) (fl : List Nat) (fa : Option Addr) (fc : Nat), c ≤ n ∧ j = .int .i64 c ∧ fs = .slice fa fl.length fc ∧ Fnd base wr (.slice fa fl.length fc) fl ∧
           Bfs n m rel mv le ri ld (upd rd2 b (la + 1)) fl i a (b + 1) b c true ∧ fl[i]? = some a ∧ ld a = la ∧ MdIn ⟨lb, rb, vb, n, m⟩ db eb (.func (.func g) #[] lbv) wr le ri mv ld (upd rd2 b (la + 1)) ∧ I wr ∧ Kept (Qk P B) w wr ∧ base ≤ wr.heap.size) (fun _ j _ => n - (intOf j).toNat)
          case atStart => exact ⟨0, ld2, fl2, fa2, fc2, Nat.zero_le _, rfl, rfl, HF4.out, HB4.out, HFA.out, HLA.out.symm, HM4.out, HI4.out, HK4.out, HS4.out⟩
          case round =>
           obtain ⟨c, ld5, fl5, fa5, fc5, hc, rfl, rfl, hF5, hB5, hfa5, hla5, hm5, hI5, hk5, hbs5⟩ := hrel
           have HF5 := hid hF5
           have HB5 := hid hB5
           have HFA5 := hid hfa5
           have HLA5 := hid hla5
           have HM5 := hid hm5
           have HI5 := hid hI5
           have HK5 := hid hk5
           have HS5 := hid hbs5
           have hfl5 := hB5.len_le
           clear hF5 hB5 hfa5 hla5 hm5 hI5 hk5 hbs5 HM4 HI4 HK4 HF4 HB4 HS4
           obtain ⟨y0, y1, y2, y3, y4, y5⟩ := cells6 HM5.out.m.st
           simp only at y0 y1 y2 y3 y4 y5
           by_cases hcn : c < n
           ·have g0 := (HM5.out.m.cols b hbl).cell hcn
            have g1 := HM5.out.l.cell hcn
            have g2 := HM5.out.l.frozen c
            simp only at g0 g1 g2
            obtain ⟨mc, hmc⟩ : ∃ mc, mc = mv c b := ⟨_, rfl⟩
            obtain ⟨lc, hlc⟩ : ∃ lc, lc = ld5 c := ⟨_, rfl⟩
            rw [← hmc] at g0
            rw [← hlc] at g1
            have HMC := hid hmc
            have HLC := hid hlc
            clear hmc hlc
            by_cases hm0 : 0 < mc
            ·by_cases hl0 : lc < 0
             ·obtain ⟨wa, hwa⟩ : ∃ wa, wa = wr.setCell ⟨db, c, none⟩ (.int .i64 (la + 1)) := ⟨_, rfl⟩
              have HFa := hid (show Fnd base wa (.slice fa5 fl5.length fc5) fl5 by rw [hwa]; exact HF5.out.set hdt _)
              have HMa := hid (show MdIn ⟨lb, rb, vb, n, m⟩ db eb (.func (.func g) #[] lbv) wa le ri mv (upd ld5 c (la + 1)) (upd rd2 b (la + 1)) by rw [hwa]; exact HM5.out.setD HX.out c _)
              have HIa := hid (show I wa by rw [hwa]; exact HA.out.set HI5.out (by simp; omega) _)
              have HKa := hid (show Kept (Qk P B) w wa by rw [hwa]; exact HK5.out.set (Or.inl (Or.inr (by simp; omega))) _)
              have hsza : wa.heap.size = wr.heap.size := by rw [hwa]; simp [World.setCell]
              have HSZ := hid hsza
              have hbsa : base ≤ wa.heap.size := by have := HS5.out; omega
              have HBA := hid (show Bfs n m rel mv le ri (upd ld5 c (la + 1)) (upd rd2 b (la + 1)) (fl5 ++ [c]) i a (b + 1) b (c + 1) true by
               have := HB5.out.find HFA5.out hcn hbl (by rw [HD4.out, HLA5.out]) (by rw [← HLC.out]; exact hl0) (by rw [← HMC.out]; exact hm0)
               rw [HD4.out] at this; exact this)
              have HFB := hid (show (fl5 ++ [c])[i]? = some a by
               have h1 := HFA5.out
               have : i < fl5.length := by
                rcases Nat.lt_or_ge i fl5.length with h2 | h2
                ·exact h2
                ·rw [List.getElem?_eq_none h2] at h1; cases h1
               rw [List.getElem?_append_left this]; exact h1)
              have HLB := hid (show upd ld5 c (la + 1) a = la by
               have : a ≠ c := by intro e; have h1 := HLA5.out; have h2 := HLC.out; rw [e] at h1; omega
               rw [upd_other this]; exact HLA5.out)
              clear hsza
              have HWA := hid hwa
              clear hwa
              go_wp2_with (at_builtin; rw [← HWA.out]; refine wpList_append_fnd rfl _ _ rfl base (.slice fa5 fl5.length fc5) fl5 c wa wr.heap.size HSZ.out rfl HFa.out rfl (by omega) hbsa ?_)
              intro a' cap' w1 hF1 hKx
              have hbs1 := hKx.size
              go_wp2_with fail
              go_roundw
              case rel => exact ⟨c + 1, upd ld5 c (la + 1), fl5 ++ [c], a', cap', by omega, by go_num, by simp, by simpa using hF1, HBA.out, HFB.out, HLB.out, HMa.out.kept HX.out hKx (fun _ h => Or.inr h) hbsa, HA.out.same _ _ HIa.out (hKx.toBelow (by omega) (fun q hq h => by omega)), HKa.out.trans (hKx.mono (fun q _ h => Or.inr (by omega))), by omega⟩
              case measure => simp [intOf]; omega
             ·go_wp2_with fail
              go_roundw
              case rel => exact ⟨c + 1, ld5, fl5, fa5, fc5, by omega, by go_num, rfl, HF5.out, HB5.out.pass (Or.inl (by rw [← HLC.out]; omega)), HFA5.out, HLA5.out, HM5.out, HI5.out, HK5.out, HS5.out⟩
              case measure => simp [intOf]; omega
            ·go_wp2_with fail
             go_roundw
             case rel => exact ⟨c + 1, ld5, fl5, fa5, fc5, by omega, by go_num, rfl, HF5.out, HB5.out.pass (Or.inr (by rw [← HMC.out]; omega)), HFA5.out, HLA5.out, HM5.out, HI5.out, HK5.out, HS5.out⟩
             case measure => simp [intOf]; omega
           ·have hcc : c = n := by omega
            have HBC := hid (show Bfs n m rel mv le ri ld5 (upd rd2 b (la + 1)) fl5 i a (b + 1) m 0 true by have := HB5.out; rw [hcc] at this; exact this.through)
            clear hcc
            go_wp2_with fail
            go_roundw
            case rel => exact ⟨b + 1, ld5, upd rd2 b (la + 1), fl5, fa5, fc5, true, by omega, by go_num, (by first | rfl | simp [hr0]), rfl, HF5.out, HBC.out, HFA5.out, HLA5.out, HM5.out, HI5.out, HK5.out, HS5.out⟩
            case measure => simp [intOf]; omega
         ·go_wp2_with (go_at_fn g; refine hcall.mono ?_; rintro e w3 ⟨rfl, hI3, hk3⟩; have hm3 := HM2.out.kept HX.out hk3 (fun q hq => Or.inl (HA.out.pb q hq)) HBS2.out; obtain ⟨y0, y1, y2, y3, y4, y5⟩ := cells6 hm3.m.st; have g0 := hm3.l.cell hax; have g1 := hm3.r.cell hbl; have g2 := hm3.m.right.cell hbl; have g3 := hm3.m.moved.cell hbl; have g4 := hm3.r.frozen b; simp only at y0 y1 y2 y3 y4 y5 g0 g1 g2 g3 g4; rw [← HLA.out] at g0; rw [← HRD.out] at g1; rw [← HRV.out] at g2; have HM3 := hid hm3; have HI3 := hid hI3; have HK3 := hid hk3; clear hm3 hI3 hk3)
          obtain ⟨w4, hw4⟩ : ∃ w4, w4 = w3.setCell ⟨eb, b, none⟩ (.int .i64 (la + 1)) := ⟨_, rfl⟩
          have HM4 := hid (show MdIn ⟨lb, rb, vb, n, m⟩ db eb (.func (.func g) #[] lbv) w4 le ri mv ld2 (upd rd2 b (la + 1)) by rw [hw4]; exact HM3.out.setE HX.out b _)
          have HI4 := hid (show I w4 by rw [hw4]; exact HA.out.set HI3.out (by simp; omega) _)
          have HK4 := hid (show Kept (Qk P B) w w4 by rw [hw4]; exact (HK2.out.trans (HK3.out.mono (fun q _ hq => Or.inl hq))).set (Or.inl (Or.inr (by simp; omega))) _)
          have HF4 := hid (show Fnd base w4 (.slice fa2 fl2.length fc2) fl2 by rw [hw4]; exact (HF2.out.kept HK3.out (fun q hq => by have := HA.out.pb q hq; omega)).set (by simp; omega) _)
          have HB4 := hid (show Bfs n m rel mv le ri ld2 (upd rd2 b (la + 1)) fl2 i a (b + 1) b 0 true by rw [HLA.out]; exact HB2.out.mark hn1 HFA.out hbl (by rw [← HRD.out]; omega) HREL.out (by rw [← HRV.out]; simp [hr0]))
          have HS4 := hid (show base ≤ w4.heap.size by rw [hw4]; have := HK3.out.size; have := HBS2.out; simpa [World.setCell] using (by omega))
          have HD4 := hid (show upd rd2 b (la + 1) b = la + 1 from upd_same _ _ _)
          rw [← hw4]
          clear hw4 y0 y1 y2 y3 y4 y5 g0 g1 g2 g3 g4 HM3 HI3 HK3 HM2 HI2 HK2 HF2 HB2 hcall
          go_loopw [3, 128] (fun fs j wr => ∃ (c : Nat) (ld : Nat → Int) (fl : List Nat) (fa : Option Addr) (fc : Nat), c ≤ n ∧ j = .int .i64 c ∧ fs = .slice fa fl.length fc ∧ Fnd base wr (.slice fa fl.length fc) fl ∧
           Bfs n m rel mv le ri ld (upd rd2 b (la + 1)) fl i a (b + 1) b c true ∧ fl[i]? = some a ∧ ld a = la ∧ MdIn ⟨lb, rb, vb, n, m⟩ db eb (.func (.func g) #[] lbv) wr le ri mv ld (upd rd2 b (la + 1)) ∧ I wr ∧ Kept (Qk P B) w wr ∧ base ≤ wr.heap.size) (fun _ j _ => n - (intOf j).toNat)
          case atStart => exact ⟨0, ld2, fl2, fa2, fc2, Nat.zero_le _, rfl, rfl, HF4.out, HB4.out, HFA.out, HLA.out.symm, HM4.out, HI4.out, HK4.out, HS4.out⟩
          case round =>
           obtain ⟨c, ld5, fl5, fa5, fc5, hc, rfl, rfl, hF5, hB5, hfa5, hla5, hm5, hI5, hk5, hbs5⟩ := hrel
           have HF5 := hid hF5
           have HB5 := hid hB5
           have HFA5 := hid hfa5
           have HLA5 := hid hla5
           have HM5 := hid hm5
           have HI5 := hid hI5
           have HK5 := hid hk5
           have HS5 := hid hbs5
           have hfl5 := hB5.len_le
           clear hF5 hB5 hfa5 hla5 hm5 hI5 hk5 hbs5 HM4 HI4 HK4 HF4 HB4 HS4
           obtain ⟨y0, y1, y2, y3, y4, y5⟩ := cells6 HM5.out.m.st
           simp only at y0 y1 y2 y3 y4 y5
           by_cases hcn : c < n
           ·have g0 := (HM5.out.m.cols b hbl).cell hcn
            have g1 := HM5.out.l.cell hcn
            have g2 := HM5.out.l.frozen c
            simp only at g0 g1 g2
            obtain ⟨mc, hmc⟩ : ∃ mc, mc = mv c b := ⟨_, rfl⟩
            obtain ⟨lc, hlc⟩ : ∃ lc, lc = ld5 c := ⟨_, rfl⟩
            rw [← hmc] at g0
            rw [← hlc] at g1
            have HMC := hid hmc
            have HLC := hid hlc
            clear hmc hlc
            by_cases hm0 : 0 < mc
            ·by_cases hl0 : lc < 0
             ·obtain ⟨wa, hwa⟩ : ∃ wa, wa = wr.setCell ⟨db, c, none⟩ (.int .i64 (la + 1)) := ⟨_, rfl⟩
              have HFa := hid (show Fnd base wa (.slice fa5 fl5.length fc5) fl5 by rw [hwa]; exact HF5.out.set hdt _)
              have HMa := hid (show MdIn ⟨lb, rb, vb, n, m⟩ db eb (.func (.func g) #[] lbv) wa le ri mv (upd ld5 c (la + 1)) (upd rd2 b (la + 1)) by rw [hwa]; exact HM5.out.setD HX.out c _)
              have HIa := hid (show I wa by rw [hwa]; exact HA.out.set HI5.out (by simp; omega) _)
              have HKa := hid (show Kept (Qk P B) w wa by rw [hwa]; exact HK5.out.set (Or.inl (Or.inr (by simp; omega))) _)
              have hsza : wa.heap.size = wr.heap.size := by rw [hwa]; simp [World.setCell]
              have HSZ := hid hsza
              have hbsa : base ≤ wa.heap.size := by have := HS5.out; omega
              have HBA := hid (show Bfs n m rel mv le ri (upd ld5 c (la + 1)) (upd rd2 b (la + 1)) (fl5 ++ [c]) i a (b + 1) b (c + 1) true by
               have := HB5.out.find HFA5.out hcn hbl (by rw [HD4.out, HLA5.out]) (by rw [← HLC.out]; exact hl0) (by rw [← HMC.out]; exact hm0)
               rw [HD4.out] at this; exact this)
              have HFB := hid (show (fl5 ++ [c])[i]? = some a by
               have h1 := HFA5.out
               have : i < fl5.length := by
                rcases Nat.lt_or_ge i fl5.length with h2 | h2
                ·exact h2
                ·rw [List.getElem?_eq_none h2] at h1; cases h1
               rw [List.getElem?_append_left this]; exact h1)
              have HLB := hid (show upd ld5 c (la + 1) a = la by
               have : a ≠ c := by intro e; have h1 := HLA5.out; have h2 := HLC.out; rw [e] at h1; omega
               rw [upd_other this]; exact HLA5.out)
              clear hsza
              have HWA := hid hwa
              clear hwa
              go_wp2_with (at_builtin; rw [← HWA.out]; refine wpList_append_fnd rfl _ _ rfl base (.slice fa5 fl5.length fc5) fl5 c wa wr.heap.size HSZ.out rfl HFa.out rfl (by omega) hbsa ?_)
              intro a' cap' w1 hF1 hKx
              have hbs1 := hKx.size
              go_wp2_with fail
              go_roundw
              case rel => exact ⟨c + 1, upd ld5 c (la + 1), fl5 ++ [c], a', cap', by omega, by go_num, by simp, by simpa using hF1, HBA.out, HFB.out, HLB.out, HMa.out.kept HX.out hKx (fun _ h => Or.inr h) hbsa, HA.out.same _ _ HIa.out (hKx.toBelow (by omega) (fun q hq h => by omega)), HKa.out.trans (hKx.mono (fun q _ h => Or.inr (by omega))), by omega⟩
              case measure => simp [intOf]; omega
             ·go_wp2_with fail
              go_roundw
              case rel => exact ⟨c + 1, ld5, fl5, fa5, fc5, by omega, by go_num, rfl, HF5.out, HB5.out.pass (Or.inl (by rw [← HLC.out]; omega)), HFA5.out, HLA5.out, HM5.out, HI5.out, HK5.out, HS5.out⟩
              case measure => simp [intOf]; omega
            ·go_wp2_with fail
             go_roundw
             case rel => exact ⟨c + 1, ld5, fl5, fa5, fc5, by omega, by go_num, rfl, HF5.out, HB5.out.pass (Or.inr (by rw [← HMC.out]; omega)), HFA5.out, HLA5.out, HM5.out, HI5.out, HK5.out, HS5.out⟩
             case measure => simp [intOf]; omega
           ·have hcc : c = n := by omega
            have HBC := hid (show Bfs n m rel mv le ri ld5 (upd rd2 b (la + 1)) fl5 i a (b + 1) m 0 true by have := HB5.out; rw [hcc] at this; exact this.through)
            clear hcc
            go_wp2_with fail
            go_roundw
            case rel => exact ⟨b + 1, ld5, upd rd2 b (la + 1), fl5, fa5, fc5, true, by omega, by go_num, (by first | rfl | simp [hr0]), rfl, HF5.out, HBC.out, HFA5.out, HLA5.out, HM5.out, HI5.out, HK5.out, HS5.out⟩
            case measure => simp [intOf]; omega
         ·go_wp2_with (go_at_fn g; refine hcall.mono ?_; rintro e w3 ⟨rfl, hI3, hk3⟩; have hm3 := HM2.out.kept HX.out hk3 (fun q hq => Or.inl (HA.out.pb q hq)) HBS2.out; obtain ⟨y0, y1, y2, y3, y4, y5⟩ := cells6 hm3.m.st; have g0 := hm3.l.cell hax; have g1 := hm3.r.cell hbl; have g2 := hm3.m.right.cell hbl; have g3 := hm3.m.moved.cell hbl; have g4 := hm3.r.frozen b; simp only at y0 y1 y2 y3 y4 y5 g0 g1 g2 g3 g4; rw [← HLA.out] at g0; rw [← HRD.out] at g1; rw [← HRV.out] at g2; have HM3 := hid hm3; have HI3 := hid hI3; have HK3 := hid hk3; clear hm3 hI3 hk3)
          obtain ⟨w4, hw4⟩ : ∃ w4, w4 = w3.setCell ⟨eb, b, none⟩ (.int .i64 (la + 1)) := ⟨_, rfl⟩
          have HM4 := hid (show MdIn ⟨lb, rb, vb, n, m⟩ db eb (.func (.func g) #[] lbv) w4 le ri mv ld2 (upd rd2 b (la + 1)) by rw [hw4]; exact HM3.out.setE HX.out b _)
          have HI4 := hid (show I w4 by rw [hw4]; exact HA.out.set HI3.out (by simp; omega) _)
          have HK4 := hid (show Kept (Qk P B) w w4 by rw [hw4]; exact (HK2.out.trans (HK3.out.mono (fun q _ hq => Or.inl hq))).set (Or.inl (Or.inr (by simp; omega))) _)
          have HF4 := hid (show Fnd base w4 (.slice fa2 fl2.length fc2) fl2 by rw [hw4]; exact (HF2.out.kept HK3.out (fun q hq => by have := HA.out.pb q hq; omega)).set (by simp; omega) _)
          have HB4 := hid (show Bfs n m rel mv le ri ld2 (upd rd2 b (la + 1)) fl2 i a (b + 1) b 0 false by rw [HLA.out]; exact HB2.out.mark hn1 HFA.out hbl (by rw [← HRD.out]; omega) HREL.out (by rw [← HRV.out]; simp [hr0]))
          have HS4 := hid (show base ≤ w4.heap.size by rw [hw4]; have := HK3.out.size; have := HBS2.out; simpa [World.setCell] using (by omega))
          have HD4 := hid (show upd rd2 b (la + 1) b = la + 1 from upd_same _ _ _)
          rw [← hw4]
          clear hw4 y0 y1 y2 y3 y4 y5 g0 g1 g2 g3 g4 HM3 HI3 HK3 HM2 HI2 HK2 HF2 HB2 hcall
          go_loopw [3, 128] (fun fs j wr => ∃ (c : Nat) (ld : Nat → Int) (fl : List Nat) (fa : Option Addr) (fc : Nat), c ≤ n ∧ j = .int .i64 c ∧ fs = .slice fa fl.length fc ∧ Fnd base wr (.slice fa fl.length fc) fl ∧
           Bfs n m rel mv le ri ld (upd rd2 b (la + 1)) fl i a (b + 1) b c false ∧ fl[i]? = some a ∧ ld a = la ∧ MdIn ⟨lb, rb, vb, n, m⟩ db eb (.func (.func g) #[] lbv) wr le ri mv ld (upd rd2 b (la + 1)) ∧ I wr ∧ Kept (Qk P B) w wr ∧ base ≤ wr.heap.size) (fun _ j _ => n - (intOf j).toNat)
          case atStart => exact ⟨0, ld2, fl2, fa2, fc2, Nat.zero_le _, rfl, rfl, HF4.out, HB4.out, HFA.out, HLA.out.symm, HM4.out, HI4.out, HK4.out, HS4.out⟩
          case round =>
           obtain ⟨c, ld5, fl5, fa5, fc5, hc, rfl, rfl, hF5, hB5, hfa5, hla5, hm5, hI5, hk5, hbs5⟩ := hrel
           have HF5 := hid hF5
           have HB5 := hid hB5
           have HFA5 := hid hfa5
           have HLA5 := hid hla5
           have HM5 := hid hm5
           have HI5 := hid hI5
           have HK5 := hid hk5
           have HS5 := hid hbs5
           have hfl5 := hB5.len_le
           clear hF5 hB5 hfa5 hla5 hm5 hI5 hk5 hbs5 HM4 HI4 HK4 HF4 HB4 HS4
           obtain ⟨y0, y1, y2, y3, y4, y5⟩ := cells6 HM5.out.m.st
           simp only at y0 y1 y2 y3 y4 y5
           by_cases hcn : c < n
           ·have g0 := (HM5.out.m.cols b hbl).cell hcn
            have g1 := HM5.out.l.cell hcn
            have g2 := HM5.out.l.frozen c
            simp only at g0 g1 g2
            obtain ⟨mc, hmc⟩ : ∃ mc, mc = mv c b := ⟨_, rfl⟩
            obtain ⟨lc, hlc⟩ : ∃ lc, lc = ld5 c := ⟨_, rfl⟩
            rw [← hmc] at g0
            rw [← hlc] at g1
            have HMC := hid hmc
            have HLC := hid hlc
            clear hmc hlc
            by_cases hm0 : 0 < mc
            ·by_cases hl0 : lc < 0
             ·obtain ⟨wa, hwa⟩ : ∃ wa, wa = wr.setCell ⟨db, c, none⟩ (.int .i64 (la + 1)) := ⟨_, rfl⟩
              have HFa := hid (show Fnd base wa (.slice fa5 fl5.length fc5) fl5 by rw [hwa]; exact HF5.out.set hdt _)
              have HMa := hid (show MdIn ⟨lb, rb, vb, n, m⟩ db eb (.func (.func g) #[] lbv) wa le ri mv (upd ld5 c (la + 1)) (upd rd2 b (la + 1)) by rw [hwa]; exact HM5.out.setD HX.out c _)
              have HIa := hid (show I wa by rw [hwa]; exact HA.out.set HI5.out (by simp; omega) _)
              have HKa := hid (show Kept (Qk P B) w wa by rw [hwa]; exact HK5.out.set (Or.inl (Or.inr (by simp; omega))) _)
              have hsza : wa.heap.size = wr.heap.size := by rw [hwa]; simp [World.setCell]
              have HSZ := hid hsza
              have hbsa : base ≤ wa.heap.size := by have := HS5.out; omega
              have HBA := hid (show Bfs n m rel mv le ri (upd ld5 c (la + 1)) (upd rd2 b (la + 1)) (fl5 ++ [c]) i a (b + 1) b (c + 1) false by
               have := HB5.out.find HFA5.out hcn hbl (by rw [HD4.out, HLA5.out]) (by rw [← HLC.out]; exact hl0) (by rw [← HMC.out]; exact hm0)
               rw [HD4.out] at this; exact this)
              have HFB := hid (show (fl5 ++ [c])[i]? = some a by
               have h1 := HFA5.out
               have : i < fl5.length := by
                rcases Nat.lt_or_ge i fl5.length with h2 | h2
                ·exact h2
                ·rw [List.getElem?_eq_none h2] at h1; cases h1
               rw [List.getElem?_append_left this]; exact h1)
              have HLB := hid (show upd ld5 c (la + 1) a = la by
               have : a ≠ c := by intro e; have h1 := HLA5.out; have h2 := HLC.out; rw [e] at h1; omega
               rw [upd_other this]; exact HLA5.out)
              clear hsza
              have HWA := hid hwa
              clear hwa
              go_wp2_with (at_builtin; rw [← HWA.out]; refine wpList_append_fnd rfl _ _ rfl base (.slice fa5 fl5.length fc5) fl5 c wa wr.heap.size HSZ.out rfl HFa.out rfl (by omega) hbsa ?_)
              intro a' cap' w1 hF1 hKx
              have hbs1 := hKx.size
              go_wp2_with fail
              go_roundw
              case rel => exact ⟨c + 1, upd ld5 c (la + 1), fl5 ++ [c], a', cap', by omega, by go_num, by simp, by simpa using hF1, HBA.out, HFB.out, HLB.out, HMa.out.kept HX.out hKx (fun _ h => Or.inr h) hbsa, HA.out.same _ _ HIa.out (hKx.toBelow (by omega) (fun q hq h => by omega)), HKa.out.trans (hKx.mono (fun q _ h => Or.inr (by omega))), by omega⟩
              case measure => simp [intOf]; omega
             ·go_wp2_with fail
              go_roundw
              case rel => exact ⟨c + 1, ld5, fl5, fa5, fc5, by omega, by go_num, rfl, HF5.out, HB5.out.pass (Or.inl (by rw [← HLC.out]; omega)), HFA5.out, HLA5.out, HM5.out, HI5.out, HK5.out, HS5.out⟩
              case measure => simp [intOf]; omega
            ·go_wp2_with fail
             go_roundw
             case rel => exact ⟨c + 1, ld5, fl5, fa5, fc5, by omega, by go_num, rfl, HF5.out, HB5.out.pass (Or.inr (by rw [← HMC.out]; omega)), HFA5.out, HLA5.out, HM5.out, HI5.out, HK5.out, HS5.out⟩
             case measure => simp [intOf]; omega
           ·have hcc : c = n := by omega
            have HBC := hid (show Bfs n m rel mv le ri ld5 (upd rd2 b (la + 1)) fl5 i a (b + 1) m 0 false by have := HB5.out; rw [hcc] at this; exact this.through)
            clear hcc
            go_wp2_with fail
            go_roundw
            case rel => exact ⟨b + 1, ld5, upd rd2 b (la + 1), fl5, fa5, fc5, false, by omega, by go_num, (by first | rfl | simp [hr0]), rfl, HF5.out, HBC.out, HFA5.out, HLA5.out, HM5.out, HI5.out, HK5.out, HS5.out⟩
            case measure => simp [intOf]; omega
        ·go_wp2_with fail
         go_roundw
         case rel => exact ⟨i + 1, 0, ld2, rd2, fl2, fa2, fc2, pb2, by go_num, rfl, rfl, (by
             have h1 := HFA.out
             rcases Nat.lt_or_ge i fl2.length with h2 | h2
             ·exact h2
             ·rw [List.getElem?_eq_none h2] at h1; cases h1), HF2.out, (by have := HB2.out; rw [show b = m by omega] at this; exact this.next HFA.out 0), HM2.out, HI2.out, HK2.out, HBS2.out⟩
         case measure => simp [intOf]; omega
      ·go_wp2_with fail
       go_ret
       exact ⟨pb1, ld1, rd1, rfl, HM1.out, (HB1.out.at 0).depths hn1 (by omega), HI1.out, HK1.out⟩
end Go.Proofs.YtcekilcgpgjooaaGreatDoor
