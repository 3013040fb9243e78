/-
  Proved here: contracts of the walk to BisimRelated: canMove; each under the conditions that its own statement names.
-/
import Derived.Test.YtfgpjfgejhahfaaGreatDoorG31
import Derived.Deep.CutRange
import Derived.BigRegion
import Derived.Laws.EntriesVeiled
namespace Go.Proofs.YtfgpjfgejhahfaaGreatDoor
open Go Go.RowKit

theorem moveOk_all {B base : Nat} {P : Nat → Prop} {I : World → Prop} {rel : Nat → Nat → Bool} {g : Nat} {lbv : Array Value} {y : Dfs} {ld rd : Nat → Int} {K : Int} (E : DEnv B base P I rel g lbv y ld rd K) {le ri : Nat → Int} {mv : Nat → Nat → Int}
    (hS : DSt y.x.n y.x.m rel ri mv) : ∀ d, MoveOk d B P I rel (.func (.func g) #[] lbv) y le ld rd ri mv K := by
  intro d
  induction d with
  | zero => intro a most w nr nl ha hK; have := (E.ldK a ha).2; omega
  | succ d ih => exact move_any E hS (back_any E hS ih)

theorem four_get (W : World) (o0 o1 o2 o3 : Obj) : ((((W.alloc o0).alloc o1).alloc o2).alloc o3).heap[W.heap.size]? = some o0 ∧ ((((W.alloc o0).alloc o1).alloc o2).alloc o3).heap[W.heap.size + 1]? = some o1 ∧
    ((((W.alloc o0).alloc o1).alloc o2).alloc o3).heap[W.heap.size + 1 + 1]? = some o2 ∧ ((((W.alloc o0).alloc o1).alloc o2).alloc o3).heap[W.heap.size + 1 + 1 + 1]? = some o3 := by
  have h0 := heap_new W o0
  have h1 := heap_new (W.alloc o0) o1
  have h2 := heap_new ((W.alloc o0).alloc o1) o2
  have h3 := heap_new (((W.alloc o0).alloc o1).alloc o2) o3
  have s0 : (W.alloc o0).heap.size = W.heap.size + 1 := by simp
  have s1 : ((W.alloc o0).alloc o1).heap.size = W.heap.size + 1 + 1 := by simp
  have s2 : (((W.alloc o0).alloc o1).alloc o2).heap.size = W.heap.size + 1 + 1 + 1 := by simp
  rw [s0] at h1
  rw [s1] at h2
  rw [s2] at h3
  refine ⟨?_, ?_, ?_, h3⟩
  · rw [Below.heap_alloc _ _ _ (by rw [s2]; omega), Below.heap_alloc _ _ _ (by rw [s1]; omega), Below.heap_alloc _ _ _ (by rw [s0]; omega)]; exact h0
  · rw [Below.heap_alloc _ _ _ (by rw [s2]; omega), Below.heap_alloc _ _ _ (by rw [s1]; omega)]; exact h1
  · rw [Below.heap_alloc _ _ _ (by rw [s2]; omega)]; exact h2
theorem four_below (W : World) (o0 o1 o2 o3 : Obj) : Below W.heap.size W ((((W.alloc o0).alloc o1).alloc o2).alloc o3).drew :=
  ((((Below.refl _ _).alloc (Nat.le_refl _) _).alloc (by simp) _).alloc (by simp; omega) _ |>.alloc (by simp; omega) _).drew

theorem lkNew {w : World} {k : Nat} {o o' : Obj} (h : k = w.heap.size) (ho : o = o') : (w.alloc o).heap[k]? = some o' := by subst h ho; exact heap_new _ _
theorem lkOld {w : World} {k : Nat} {o o' : Obj} (h : w.heap[k]? = some o') : (w.alloc o).heap[k]? = some o' := by rw [Below.heap_alloc _ _ _ (heap_lt h)]; exact h
/-- Less is left than there was, or nothing has been moved and no row below k leads to an open column. -/
def Prg (n m : Nat) (rel : Nat → Nat → Bool) (ld rd le ri : Nat → Int) (mv : Nat → Nat → Int) (k : Nat) (le1 ri1 : Nat → Int) (mv1 : Nat → Nat → Int) (nr1 nl1 : Nat → Nat) : Prop :=
  sumN le1 n < sumN le n ∨ (le1 = le ∧ ri1 = ri ∧ mv1 = mv ∧ Dead n m rel ld rd ri mv nr1 nl1 ∧ ∀ a, a < k → 0 < le a → ¬ Rch n m rel ld rd ri mv false a)
theorem Prg.next {n m : Nat} {rel : Nat → Nat → Bool} {ld rd le ri : Nat → Int} {mv : Nat → Nat → Int} {k : Nat} {le1 ri1 : Nat → Int} {mv1 : Nat → Nat → Int} {nr1 nl1 : Nat → Nat} (h : Prg n m rel ld rd le ri mv k le1 ri1 mv1 nr1 nl1)
    (hk : le1 = le → 0 < le k → ¬ Rch n m rel ld rd ri mv false k) : Prg n m rel ld rd le ri mv (k + 1) le1 ri1 mv1 nr1 nl1 := by
  rcases h with h | ⟨h1, h2, h3, h4, h5⟩
  · exact Or.inl h
  · refine Or.inr ⟨h1, h2, h3, h4, fun a ha hl => ?_⟩
    by_cases e : a = k
    · subst e; exact hk h1 hl
    · exact h5 a (by omega) hl
theorem Part.dst {n m : Nat} {L R : Nat → Int} {rel : Nat → Nat → Bool} {mv : Nat → Nat → Int} {le ri : Nat → Int} (h : Part n m L R rel mv le ri) (hS : Sml n m L R) : DSt n m rel ri mv :=
  ⟨h.mv0, h.mvr, fun b hb => ⟨h.ri0 b hb, by have := h.ri_R hb; have := hS.r b hb; omega⟩, fun i hi => by have := h.rows i hi; have := h.le0 i hi; have := hS.l i hi; omega⟩

/-- Two new rows of numbers, and two variables that hold them. -/
structure Rg1 (W wx : World) (n m q2 q3 nrb nlb : Nat) : Prop where
  b2 : wx.heap[q2]? = some (Obj.cells #[.slice (some ⟨nrb, 0, none⟩) n n] 26 (0, 0))
  b3 : wx.heap[q3]? = some (Obj.cells #[.slice (some ⟨nlb, 0, none⟩) m m] 26 (0, 0))
  rn : wx.heap[nrb]? = some (Obj.cells (madeCells #[.int .i64 0] n) 3 (0, 0))
  ln : wx.heap[nlb]? = some (Obj.cells (madeCells #[.int .i64 0] m) 3 (0, 0))
  l : W.heap.size ≤ q2 ∧ W.heap.size ≤ q3 ∧ W.heap.size ≤ nrb ∧ W.heap.size ≤ nlb
  ne : nrb ≠ nlb ∧ nrb ≠ q2 ∧ nrb ≠ q3 ∧ nlb ≠ q2 ∧ nlb ≠ q3
  lo : Below W.heap.size W wx
theorem row_of_made {w : World} {b n : Nat} {t : TypeId} {z : Value} (h : w.heap[b]? = some (Obj.cells (madeCells #[z] n) t (0, 0))) : w.rowIs b t n (fun _ => z) :=
  ⟨_, h, size_madeCells _ _, fun i hi => by simp [madeCells, hi, Nat.mod_one]⟩

set_option maxRecDepth 100000 in
set_option maxHeartbeats 6400000 in
theorem along_any {B : Nat} {P : Nat → Prop} {I : World → Prop} {rel : Nat → Nat → Bool} {g : Nat} {lbv : Array Value} {L R : Nat → Int} (x : Mv) (db eb : Nat) (hA : Asks B P I x.n x.m rel g lbv) (hb : Sml x.n x.m L R)
    (le ri : Nat → Int) (mv : Nat → Nat → Int) (ld rd : Nat → Int) (w : World) (hx : MdOk x B db eb w.heap.size) (hI : I w) (hm : MdIn x db eb (.func (.func g) #[] lbv) w le ri mv ld rd) (hp : Part x.n x.m L R rel mv le ri) (hd : Depths x.n x.m rel mv le ri ld rd true) :
    Calls Tryz.prog 145 #[x.ptr] w fun e w' => e = .returned (.tuple #[]) ∧ ∃ le' ri' mv', MdIn x db eb (.func (.func g) #[] lbv) w' le' ri' mv' ld rd ∧ Part x.n x.m L R rel mv' le' ri' ∧ I w' ∧ Kept (Qk P B) w w' ∧ sumN le' x.n < sumN le x.n := by
  have HA := Lib.hid hA
  have HX := Lib.hid hx
  have HSm := Lib.hid hb
  obtain ⟨lb, rb, vb, n, m⟩ := x
  have hn1 : n ≤ 1000 := hb.hn
  have hm1 : m ≤ 1000 := hb.hm
  have hBb : B ≤ w.heap.size := by have := hx.o.l; have := hx.o.lv; have := hx.d; have := hx.dt; omega
  have HBB := Lib.hid hBb
  obtain ⟨base, hbase⟩ : ∃ base, base = w.heap.size := ⟨_, rfl⟩
  rw [← hbase] at HX HBB
  have HM := Lib.hid hm
  have HP := Lib.hid hp
  have HI := Lib.hid hI
  have HBS := Lib.hid hbase
  have HDP := Lib.hid hd
  clear hA hx hb hm hp hI hBb hd hbase
  obtain ⟨W, hW⟩ : ∃ W : World, W = w.alloc (Obj.cells #[.pointer (some ⟨vb + 1, 0, none⟩)] 187) := ⟨_, rfl⟩
  have hWs : W.heap.size = base + 1 := by rw [hW, HBS.out]; simp
  have hWb : Below w.heap.size w W := by rw [hW]; exact (Below.refl _ _).alloc (Nat.le_refl _) _
  have hmW := HM.out.same HX.out (fun k _ hk => hWb.block k (by rw [← HBS.out]; exact hk))
  obtain ⟨c0, c1, c2, c3, c4, c5⟩ := cells6 hmW.m.st
  have k0 : W.cell? ⟨w.heap.size, 0, none⟩ = some (.pointer (some ⟨vb + 1, 0, none⟩)) := by rw [hW]; simp
  simp only at c0 c1 c2 c3 c4 c5
  have HMW := Lib.hid hmW
  have hmkn := run_make_row' (P := Tryz.prog) 26 3 (.int .i64 0) 8 Tryz.underlying26 infoInt rfl .i64 .i64 n (by omega) (by omega)
  have hmkm := run_make_row' (P := Tryz.prog) 26 3 (.int .i64 0) 8 Tryz.underlying26 infoInt rfl .i64 .i64 m (by omega) (by omega)
  go_enter Tryz.func145, Tryz.ntmps145
  go_wp2_with fail
  rw [← hW]
  have HKW := Lib.hid k0
  have hHW : W.heap[base]? = some (Obj.cells #[.pointer (some ⟨vb + 1, 0, none⟩)] 187 (0, 0)) := by rw [hW, HBS.out]; exact heap_new _ _
  have HWB := Lib.hid hWb
  have HWS := Lib.hid hWs
  rw [← HBS.out] at k0 ⊢
  have hlt0 : base < W.heap.size := by omega
  have hltv : vb + 1 < W.heap.size := by have h1 := HX.out.d; have h2 := HX.out.dt; simp only at h1; omega
  obtain ⟨mb, hmb⟩ : ∃ mb, mb = vb + 1 := ⟨_, rfl⟩
  rw [← hmb] at c0 c1 c2 c3 c4 c5 k0 hltv
  have HMB := Lib.hid hmb
  have b1 : base < W.heap.size + 1 := by omega
  have b2 : base < W.heap.size + 2 := by omega
  have b3 : base < W.heap.size + 3 := by omega
  have b22 : base < W.heap.size + 1 + 1 := by omega
  have b33 : base < W.heap.size + 1 + 1 + 1 := by omega
  have m1 : mb < W.heap.size + 1 := by omega
  have m2 : mb < W.heap.size + 2 := by omega
  have m3 : mb < W.heap.size + 3 := by omega
  have m22 : mb < W.heap.size + 1 + 1 := by omega
  have m33 : mb < W.heap.size + 1 + 1 + 1 := by omega
  clear hW hWb hWs hmW hmb
  go_cut [2, 3, 13, 19] from 8 to 19 (fun s2 s3 s13 s19 wx => ∃ q2 q3 nrb nlb : Nat, s2 = .pointer (some ⟨q2, 0, none⟩) ∧ s3 = .pointer (some ⟨q3, 0, none⟩) ∧ s13 = .slice (some ⟨nrb, 0, none⟩) n n ∧ s19 = .slice (some ⟨nlb, 0, none⟩) m m ∧ Rg1 W wx n m q2 q3 nrb nlb)
  case first =>
    go_region
    all_goals (go_wp2_with fail; go_meet; exact ⟨_, _, _, _, rfl, rfl, rfl, rfl, (by first | exact (four_get W _ _ _ _).1 | exact (four_get W _ _ _ _).2.1 | exact (four_get W _ _ _ _).2.2.1 | exact (four_get W _ _ _ _).2.2.2), (by first | exact (four_get W _ _ _ _).1 | exact (four_get W _ _ _ _).2.1 | exact (four_get W _ _ _ _).2.2.1 | exact (four_get W _ _ _ _).2.2.2), (by first | exact (four_get W _ _ _ _).1 | exact (four_get W _ _ _ _).2.1 | exact (four_get W _ _ _ _).2.2.1 | exact (four_get W _ _ _ _).2.2.2), (by first | exact (four_get W _ _ _ _).1 | exact (four_get W _ _ _ _).2.1 | exact (four_get W _ _ _ _).2.2.1 | exact (four_get W _ _ _ _).2.2.2), ⟨by omega, by omega, by omega, by omega⟩, ⟨by omega, by omega, by omega, by omega, by omega⟩, four_below _ _ _ _ _⟩)
  case rest =>
    obtain ⟨q2, q3, nrb, nlb, rfl, rfl, rfl, rfl, hR⟩ := hcut
    have hWc := hR.lo.size
    have k0c : wc.cell? ⟨base, 0, none⟩ = some (.pointer (some ⟨mb, 0, none⟩)) := by rw [hR.lo.cell (p := ⟨base, 0, none⟩) hlt0]; exact k0
    have d1c : wc.cell? ⟨mb, 1, none⟩ = some (.slice (some ⟨lb, 0, none⟩) n n) := by rw [hR.lo.cell (p := ⟨mb, 1, none⟩) hltv]; exact c1
    have hltc : base < wc.heap.size := by omega
    have hmtc : mb < wc.heap.size := by omega
    have hltc1 : base < wc.heap.size + 1 := by omega
    have hmtc1 : mb < wc.heap.size + 1 := by omega
    have hsl := hR.l
    have hsn := hR.ne
    have HR := Lib.hid hR
    have HHW := Lib.hid hHW
    have HSL := Lib.hid (show base + 1 ≤ q2 ∧ base + 1 ≤ q3 ∧ base + 1 ≤ nrb ∧ base + 1 ≤ nlb by have := HWS.out; omega)
    have HSN := Lib.hid hsn
    have h2l := heap_lt hR.b2
    have h3l := heap_lt hR.b3
    have h4l := heap_lt hR.rn
    have h5l := heap_lt hR.ln
    have HLT := Lib.hid (show q2 < wc.heap.size ∧ q3 < wc.heap.size ∧ nrb < wc.heap.size ∧ nlb < wc.heap.size from ⟨h2l, h3l, h4l, h5l⟩)
    clear hWc hlt0 hltv hmkn hmkm hsl hsn hHW h2l h3l h4l h5l
    clear hR c0 c1 c2 c3 c4 c5 k0 b1 b2 b3 b22 b33 m1 m2 m3 m22 m33
    go_wp2_with fail
    obtain ⟨wd, hwd⟩ : ∃ wd, wd = (wc.alloc (Obj.cells #[.func (.func 170) #[] #[.pointer (some ⟨q2, 0, none⟩), .pointer (some ⟨base, 0, none⟩), .pointer (some ⟨wc.heap.size + 1, 0, none⟩)]] 188)).alloc (Obj.cells #[.func (.func 169) #[] #[.pointer (some ⟨q3, 0, none⟩), .pointer (some ⟨base, 0, none⟩), .pointer (some ⟨wc.heap.size, 0, none⟩)]] 188) := ⟨_, rfl⟩
    obtain ⟨q4, hq4⟩ : ∃ q4, q4 = wc.heap.size := ⟨_, rfl⟩
    rw [← hwd, ← hq4]
    have hlb := HX.out.o.l
    have hdb := HX.out.dt
    have hdl := HX.out.d
    have hlv := HX.out.o.lv
    simp only at hlb hdl hlv
    have hbw : Below W.heap.size W wd := by
      have h := HR.out.lo.size
      rw [hwd]
      exact (HR.out.lo.alloc h _).alloc (by simp; omega) _
    have hmb := HMB.out
    subst hmb
    have HDF := Lib.hid (show DfIn ⟨⟨lb, rb, vb, n, m⟩, db, eb, base, q2, q3, q4, q4 + 1, nrb, nlb⟩ (.func (.func g) #[] lbv) wd le ri mv ld rd (fun _ => 0) (fun _ => 0) by
      refine ⟨HMW.out.same HX.out (fun k _ hk => hbw.block k (by have := HWS.out; omega)), by rw [hbw.block base (by have := HWS.out; omega)]; exact HHW.out, ?_, ?_, ?_, ?_, ?_, ?_⟩
      · rw [hwd]; exact lkOld (lkOld HR.out.b2)
      · rw [hwd]; exact lkOld (lkOld HR.out.b3)
      · rw [hwd, hq4]; exact lkOld (lkNew rfl rfl)
      · rw [hwd, hq4]; exact lkNew (by simp) rfl
      · rw [hwd]; exact row_of_made (lkOld (lkOld HR.out.rn))
      · rw [hwd]; exact row_of_made (lkOld (lkOld HR.out.ln)))
    have HE := Lib.hid (show DEnv B base P I rel g lbv ⟨⟨lb, rb, vb, n, m⟩, db, eb, base, q2, q3, q4, q4 + 1, nrb, nlb⟩ ld rd 2000 by
      have h1 := HSL.out
      have h2 := HSN.out
      have h3 := HLT.out
      exact ⟨HA.out, ⟨HX.out, Nat.le_refl _, by simp only; omega, by simp only; omega, by simp only; omega, by simp only; omega, by simp only; omega, by simp only; omega, by simp only; omega, by simp only; omega, by simp only; omega, by simp only; omega, by simp only; omega, by simp only; omega, by simp only; omega, by simp only; omega, by simp only; omega, by simp only; omega, by simp only; omega⟩, hn1, hm1, HDP.out.low, HDP.out.rlow, by omega⟩)
    have HBW := Lib.hid (show Below base w wd from (HBS.out ▸ HWB.out : Below base w W).trans (hbw.mono (by have := HWS.out; omega)))
    have HID := Lib.hid (show I wd from HA.out.same _ _ HI.out (HBW.out.mono HBB.out))
    have HKD := Lib.hid (show Kept (Qk P B) w wd from ⟨HBW.out.os, HBW.out.tape, HBW.out.output, HBW.out.size, fun k hk _ => HBW.out.block k (by rw [HBS.out]; exact hk)⟩)
    clear hwd hq4 hbw k0c d1c hltc hmtc hltc1 hmtc1
    go_loopw [27] (fun i wr => ∃ (k : Nat) (le1 ri1 : Nat → Int) (mv1 : Nat → Nat → Int) (nr1 nl1 : Nat → Nat), k ≤ n ∧ i = .int .i64 k ∧ DfIn ⟨⟨lb, rb, vb, n, m⟩, db, eb, base, q2, q3, q4, q4 + 1, nrb, nlb⟩ (.func (.func g) #[] lbv) wr le1 ri1 mv1 ld rd nr1 nl1 ∧
      Part n m L R rel mv1 le1 ri1 ∧ I wr ∧ Kept (Qk P B) w wr ∧ (∀ i, i < n → nr1 i ≤ m) ∧ (∀ b, b < m → nl1 b ≤ n) ∧ Prg n m rel ld rd le ri mv k le1 ri1 mv1 nr1 nl1) (fun i _ => n - (intOf i).toNat)
    case atStart => exact ⟨0, le, ri, mv, fun _ => 0, fun _ => 0, Nat.zero_le _, rfl, HDF.out, HP.out, HID.out, HKD.out, fun _ _ => Nat.zero_le _, fun _ _ => Nat.zero_le _, Or.inr ⟨rfl, rfl, rfl, Dead.start, fun a h => by omega⟩⟩
    case round =>
      obtain ⟨k, le1, ri1, mv1, nr1, nl1, hk, rfl, hd1, hp1, hI1, hk1, hnr1, hnl1, hprg⟩ := hrel
      have HD1 := Lib.hid hd1
      have HP1 := Lib.hid hp1
      have HI1 := Lib.hid hI1
      have HK1 := Lib.hid hk1
      have HNR := Lib.hid hnr1
      have HNL := Lib.hid hnl1
      have HPR := Lib.hid hprg
      clear hd1 hp1 hI1 hk1 hnr1 hnl1 hprg HDF HID HKD
      by_cases hlt : k < n
      rotate_left
      · go_wp2_with fail
        go_end0
        refine ⟨rfl, le1, ri1, mv1, HD1.out.d, HP1.out, HI1.out, HK1.out, ?_⟩
        rcases HPR.out with h | ⟨rfl, rfl, rfl, hdd, hno⟩
        · exact h
        · obtain ⟨a, ha, hla, hr⟩ := HDP.out.path
          exact absurd hr (hno a (by omega) hla)
      go_wp2_with fail
      obtain ⟨wx, hwx⟩ : ∃ wx, wx = wr := ⟨_, rfl⟩
      rw [← hwx]
      rw [← hwx] at HD1 HI1 HK1
      clear hwx
      go_loopg [7] (le1 k).toNat (fun gg _ wr => ∃ (le2 ri2 : Nat → Int) (mv2 : Nat → Nat → Int) (nr2 nl2 : Nat → Nat), (le2 k).toNat ≤ gg ∧ DfIn ⟨⟨lb, rb, vb, n, m⟩, db, eb, base, q2, q3, q4, q4 + 1, nrb, nlb⟩ (.func (.func g) #[] lbv) wr le2 ri2 mv2 ld rd nr2 nl2 ∧
        Part n m L R rel mv2 le2 ri2 ∧ I wr ∧ Kept (Qk P B) w wr ∧ (∀ i, i < n → nr2 i ≤ m) ∧ (∀ b, b < m → nl2 b ≤ n) ∧ Prg n m rel ld rd le ri mv k le2 ri2 mv2 nr2 nl2)
      case atStart => exact ⟨le1, ri1, mv1, nr1, nl1, Nat.le_refl _, HD1.out, HP1.out, HI1.out, HK1.out, HNR.out, HNL.out, HPR.out⟩
      case round =>
        obtain ⟨le2, ri2, mv2, nr2, nl2, hgg, hd2, hp2, hI2, hk2, hnr2, hnl2, hprg⟩ := hrel
        have HD2 := Lib.hid hd2
        have HP2 := Lib.hid hp2
        have HI2 := Lib.hid hI2
        have HK2 := Lib.hid hk2
        have HNR2 := Lib.hid hnr2
        have HNL2 := Lib.hid hnl2
        have HPR2 := Lib.hid hprg
        clear hd2 hp2 hI2 hk2 hnr2 hnl2 hprg HD1 HP1 HI1 HK1 HNR HNL HPR
        have z0 := cell_of1 HD2.out.bp
        have z4 := cell_of1 HD2.out.b4
        obtain ⟨y0, y1, y2, y3, y4, y5⟩ := cells6 HD2.out.d.m.st
        have z1 := HD2.out.d.m.left.cell hlt
        have hle2 := HP2.out.le_L hlt
        have hLk := HSm.out.l k hlt
        simp only at z0 z4 y0 y1 y2 y3 y4 y5 z1
        try simp only at hLk
        obtain ⟨lv, hlvv⟩ : ∃ lv, lv = le2 k := ⟨_, rfl⟩
        rw [← hlvv] at z1 hle2 hgg
        have HLV := Lib.hid hlvv
        clear hlvv
        by_cases hl0 : 0 < lv
        rotate_left
        · go_wp2_with fail
          go_roundw
          case rel => exact ⟨k + 1, le2, ri2, mv2, nr2, nl2, by omega, by go_num, HD2.out, HP2.out, HI2.out, HK2.out, HNR2.out, HNL2.out, HPR2.out.next (fun h1 h2 => by have h3 := HLV.out; rw [h1] at h3; omega)⟩
          case measure => simp [intOf]; omega
        have HDS := Lib.hid (HP2.out.dst HSm.out)
        have HMO := Lib.hid (fun x (hi : I x) (hd : DfIn ⟨⟨lb, rb, vb, n, m⟩, db, eb, base, q2, q3, q4, q4 + 1, nrb, nlb⟩ (.func (.func g) #[] lbv) x le2 ri2 mv2 ld rd nr2 nl2) =>
          moveOk_all HE.out HDS.out 2002 k lv x nr2 nl2 hlt (by have := (HDP.out.low k hlt).1; omega) hl0 (by omega) hi hd HNR2.out HNL2.out)
        go_wp2_with fail
        go_region_held3 (fun x : World => x.cell? ⟨q4, 0, none⟩ = some (Dfs.fnM ⟨⟨lb, rb, vb, n, m⟩, db, eb, base, q2, q3, q4, q4 + 1, nrb, nlb⟩) ∧ x.cell? ⟨base, 0, none⟩ = some (.pointer (some ⟨vb + 1, 0, none⟩)) ∧ x.cell? ⟨vb + 1, 1, none⟩ = some (.slice (some ⟨lb, 0, none⟩) n n) ∧ x.cell? ⟨lb, k, none⟩ = some (.int .i64 lv)) (first | exact ⟨z4, z0, y1, z1⟩ | exact ⟨x4, x0, x1, x2⟩) (first | (go_at_call 170; refine (HMO.out _ (HA.out.drewN HI2.out) (HD2.out.drewN _)).mono ?_; rintro e w3 ⟨v, ri3, mv3, nr3, nl3, rfl, hd3, hI3, hk3, hn3, hv0, hvm, hcase⟩; have HD3 := Lib.hid hd3; have HI3 := Lib.hid hI3; have HK3 := Lib.hid (HK2.out.drewN.trans hk3); have HN3 := Lib.hid hn3; have HCASE := Lib.hid hcase; clear hd3 hI3 hk3 hn3 hcase; have x4 := cell_of1 HD3.out.b4; have x0 := cell_of1 HD3.out.bp; have x1 := (cells6 HD3.out.d.m.st).2.1; have x2 := HD3.out.d.m.left.cell hlt; simp only at x4 x0 x1 x2; rw [← HLV.out] at x2))
        have x3 := HD3.out.d.m.left.frozen k
        simp only at x3
        by_cases hv : 0 < v
        · go_wp2_with fail
          go_roundg (lv - v).toNat
          case measure => omega
          case rel =>
            rcases HCASE.out with ⟨h, _⟩ | ⟨_, hf⟩
            · omega
            have hpart := HP2.out.step hf (by rw [← HLV.out]; exact hvm)
            rw [← HLV.out] at hpart
            refine ⟨upd le2 k (lv - v), ri3, mv3, nr3, nl3, by rw [upd_same]; omega, HD3.out.setLeft HE.out.ok k _, hpart, HA.out.set HI3.out (by simp; omega) _, HK3.out.set (Or.inl (Or.inr (by simp; omega))) _, HN3.out.rb, HN3.out.lb, Or.inl ?_⟩
            have hlt2 : sumN (upd le2 k (lv - v)) n < sumN le2 n := sumN_lt (k := k) n (fun i hi => by
              by_cases e : i = k
              · subst e; rw [upd_same, ← HLV.out]; omega
              · rw [upd_other e]; exact Int.le_refl _) hlt (by rw [upd_same, ← HLV.out]; omega)
            rcases HPR2.out with h | ⟨rfl, _⟩
            · omega
            · exact hlt2
        · have hvz : v = 0 := by omega
          subst hvz
          go_wp2_with fail
          go_roundw
          case rel =>
            rcases HCASE.out with ⟨_, rfl, rfl, hmk, hdd⟩ | ⟨h, _⟩
            · refine ⟨k + 1, le2, ri3, mv3, nr3, nl3, by omega, by go_num, HD3.out, HP2.out, HI3.out, HK3.out, HN3.out.rb, HN3.out.lb, ?_⟩
              rcases HPR2.out with h | ⟨h1, rfl, rfl, h4, h5⟩
              · exact Or.inl h
              · refine Or.inr ⟨h1, rfl, rfl, hdd h4, fun a ha hl => ?_⟩
                by_cases e : a = k
                · subst e; exact (hdd h4).row hmk
                · exact h5 a (by omega) hl
            · omega
          case measure => simp [intOf]; omega
end Go.Proofs.YtfgpjfgejhahfaaGreatDoor

namespace Go.Proofs.YtfgpjfgejhahfaaGreatDoor
open Go Go.RowKit

theorem Flow.sums {n m : Nat} {L R : Nat → Int} {rel : Nat → Nat → Bool} (h : Flow n m L R rel) : sumN L n = sumN R m := by
  obtain ⟨f, _, _, h1, h2⟩ := h
  rw [← sumN_congr n h1, ← sumN_congr m h2, sumN_swap]
theorem lkSet {u : World} {k b i : Nat} {v : Value} {o : Obj} (hk : k ≠ b) (h : u.heap[k]? = some o) : (u.setCell ⟨b, i, none⟩ v).heap[k]? = some o := by
  rw [Below.heap_setCell _ _ _ _ (by simpa using hk)]; exact h
theorem stSet4 {u : World} {b : Nat} {x0 x1 x2 x3 x4 x5 v : Value} {t : TypeId} (h : u.heap[b]? = some (.cells #[x0, x1, x2, x3, x4, x5] t (0, 0))) : (u.setCell ⟨b, 4, none⟩ v).heap[b]? = some (.cells #[x0, x1, x2, x3, v, x5] t (0, 0)) := by
  simp [World.setCell, Array.getElem?_modify, h]
theorem stSet5 {u : World} {b : Nat} {x0 x1 x2 x3 x4 x5 v : Value} {t : TypeId} (h : u.heap[b]? = some (.cells #[x0, x1, x2, x3, x4, x5] t (0, 0))) : (u.setCell ⟨b, 5, none⟩ v).heap[b]? = some (.cells #[x0, x1, x2, x3, x4, v] t (0, 0)) := by
  simp [World.setCell, Array.getElem?_modify, h]
theorem lkDrew {u : World} {k : Nat} {o : Obj} (h : u.heap[k]? = some o) : u.drew.heap[k]? = some o := h

/-- Two new rows of depths, held in the struct. -/
structure Rg2 (w wx : World) (vb n m db eb : Nat) (x0 x1 x2 x3 : Value) : Prop where
  st : wx.heap[vb + 1]? = some (Obj.cells #[x0, x1, x2, x3, .slice (some ⟨db, 0, none⟩) n n, .slice (some ⟨eb, 0, none⟩) m m] 168 (0, 0))
  l : wx.heap[db]? = some (Obj.cells (madeCells #[.int .i64 0] n) 3 (0, 0))
  r : wx.heap[eb]? = some (Obj.cells (madeCells #[.int .i64 0] m) 3 (0, 0))
  ne : w.heap.size ≤ db ∧ w.heap.size ≤ eb ∧ db ≠ eb
  oth : Oth (vb + 1) w wx

set_option maxRecDepth 100000 in
set_option maxHeartbeats 6400000 in
theorem can_any {B : Nat} {P : Nat → Prop} {I : World → Prop} {rel : Nat → Nat → Bool} {g : Nat} {lbv : Array Value} {L R : Nat → Int} (n m lb rb : Nat) (hA : Asks B P I n m rel g lbv) (hn : n ≤ 1000) (hm : m ≤ 1000)
    (hL : ∀ a, a < n → 0 ≤ L a) (hR : ∀ b, b < m → 0 ≤ R b) (hsL : sumN L n ≤ 1152921504606846976) (hsR : sumN R m ≤ 1152921504606846976) (hlb : B ≤ lb) (hrb : B ≤ rb) (hne : lb ≠ rb) (w : World) (hI : I w)
    (hl : w.rowIs lb 2 n (fun i => .int .i64 (L i))) (hr : w.rowIs rb 2 m (fun i => .int .i64 (R i))) :
    Calls Tryz.prog 98 #[.slice (some ⟨lb, 0, none⟩) n n, .slice (some ⟨rb, 0, none⟩) m m, .func (.func g) #[] lbv] w fun e w' => ∃ p : Bool, e = .returned (.bool p) ∧ (p = true ↔ Flow n m L R rel) ∧ I w' ∧ Kept (Qk P B) w w' := by
  have HA := Lib.hid hA
  have HSm := Lib.hid (Sml.mk (n := n) (m := m) (L := L) (R := R) hn hm (fun a ha => by have := sumN_elem hL ha; omega) (fun b hb => by have := sumN_elem hR hb; omega))
  have HL := Lib.hid hl
  have HR := Lib.hid hr
  have HI := Lib.hid hI
  have HL0 := Lib.hid hL
  have HR0 := Lib.hid hR
  have hllt := hl.lt
  have hrlt := hr.lt
  have hBw := hA.lt w hI
  have HS1 := Lib.hid (sum64_any lb n L n w hl hL (by omega) (by omega))
  have HS2 := Lib.hid (sum64_any rb m R m w hr hR (by omega) (by omega))
  obtain ⟨sl, hsl⟩ : ∃ sl, sl = sumN L n := ⟨_, rfl⟩
  obtain ⟨sr, hsr⟩ : ∃ sr, sr = sumN R m := ⟨_, rfl⟩
  rw [← hsl] at HS1 hsL
  rw [← hsr] at HS2 hsR
  have HSL := Lib.hid hsl
  have HSR := Lib.hid hsr
  have hmkm := run_make_row' (P := Tryz.prog) 166 130 (.slice none 0 0) 24 Tryz.underlying166 infoR64 rfl .i64 .i64 m (by omega) (by omega)
  clear hA hl hr hI hL hR hsl hsr
  by_cases hss : sl = sr
  rotate_left
  · have hsb : (sl != sr) = true := by simpa using hss
    have HF := Lib.hid (show ¬ Flow n m L R rel from fun h => hss (by rw [HSL.out, HSR.out]; exact h.sums))
    clear hss
    go_enter Tryz.func98, Tryz.ntmps98
    go_wp2_with fail
    refine HS1.out.mono ?_
    rintro e w ⟨rfl, rfl⟩
    go_wp2_with fail
    refine HS2.out.mono ?_
    rintro e w ⟨rfl, rfl⟩
    go_wp2_with fail
    go_ret
    exact ⟨false, rfl, ⟨(fun h => by cases h), fun h => absurd h HF.out⟩, HI.out, Kept.refl _ _⟩
  subst hss
  have hsz := HSR.out
  go_enter Tryz.func98, Tryz.ntmps98
  go_wp2_with fail
  refine HS1.out.mono ?_
  rintro e w ⟨rfl, rfl⟩
  go_wp2_with fail
  refine HS2.out.mono ?_
  rintro e w ⟨rfl, rfl⟩
  go_wp2_with fail
  obtain ⟨wd, hwd⟩ : ∃ wd, wd = (w.alloc (Obj.cells (madeCells #[Value.slice none 0 0] m) 130)).alloc (Obj.cells #[.func (.func g) #[] lbv, .slice (some ⟨lb, 0, none⟩) n n, .slice (some ⟨rb, 0, none⟩) m m, .slice (some ⟨w.heap.size, 0, none⟩) m m, .slice none 0 0, .slice none 0 0] 168) := ⟨_, rfl⟩
  obtain ⟨vb, hvb⟩ : ∃ vb, vb = w.heap.size := ⟨_, rfl⟩
  rw [← hwd, ← hvb]
  have HVB := Lib.hid hvb
  have HWD := Lib.hid (show Below w.heap.size w wd by rw [hwd]; exact ((Below.refl _ _).alloc (Nat.le_refl _) _).alloc (by simp) _)
  have HST := Lib.hid (show wd.heap[vb + 1]? = some (Obj.cells #[.func (.func g) #[] lbv, .slice (some ⟨lb, 0, none⟩) n n, .slice (some ⟨rb, 0, none⟩) m m, .slice (some ⟨vb, 0, none⟩) m m, .slice none 0 0, .slice none 0 0] 168 (0, 0)) by rw [hwd, hvb]; exact lkNew (by simp) rfl)
  have HRV := Lib.hid (show wd.rowIs vb 130 m (fun _ => .slice none 0 0) by rw [hwd, hvb]; exact (World.rowIs_made _ _ _ _).alloc _)
  have HSD := Lib.hid (show wd.heap.size = vb + 2 by rw [hwd, hvb]; simp)
  have hbv : B ≤ vb := by omega
  clear hwd hvb hmkm
  have hmkn := run_make_row' (P := Tryz.prog) 130 2 (.int .i64 0) 8 Tryz.underlying130 infoI64 rfl .i64 .i64 n (by omega) (by omega)
  obtain ⟨c0, c1, c2, c3, c4, c5⟩ := cells6 HST.out
  go_wp2_with fail
  go_loopw [24] (fun i wr => ∃ b : Nat, b ≤ m ∧ i = .int .i64 b ∧ wr.heap.size = vb + 2 + b ∧ wr.heap[vb + 1]? = some (Obj.cells #[.func (.func g) #[] lbv, .slice (some ⟨lb, 0, none⟩) n n, .slice (some ⟨rb, 0, none⟩) m m, .slice (some ⟨vb, 0, none⟩) m m, .slice none 0 0, .slice none 0 0] 168 (0, 0)) ∧
    wr.rowIs vb 130 m (fun j => if j < b then .slice (some ⟨vb + 2 + j, 0, none⟩) n n else .slice none 0 0) ∧ (∀ j, j < b → wr.rowIs (vb + 2 + j) 2 n (fun _ => .int .i64 0)) ∧ Below vb wd wr) (fun i _ => m - (intOf i).toNat)
  case atStart => exact ⟨0, Nat.zero_le _, rfl, HSD.out, HST.out, HRV.out.congr (fun _ _ => by simp), fun j hj => by omega, Below.refl _ _⟩
  case round =>
    obtain ⟨b, hbm, rfl, hsz1, hst1, hrow1, hcol1, hb1⟩ := hrel
    have HSZ := Lib.hid hsz1
    have HST1 := Lib.hid hst1
    have HROW := Lib.hid hrow1
    have HCOL := Lib.hid hcol1
    have HB1 := Lib.hid hb1
    have hl1 : vb + 1 < wr.heap.size := by omega
    have hl2 : vb < wr.heap.size := by omega
    clear hsz1 hst1 hrow1 hcol1 hb1 c0 c1 c2 c3 c4 c5
    obtain ⟨c0, c1, c2, c3, c4, c5⟩ := cells6 HST1.out
    by_cases hbl : b < m
    · have d0 := HROW.out.cell hbl
      have f0 := HROW.out.frozen b
      simp only [Nat.lt_irrefl, if_false] at d0
      go_wp2_with fail
      go_region
      have HB1d := Lib.hid (((HB1.out.setCell (p := ⟨vb, b, none⟩) (Nat.le_refl _) (.slice (some ⟨wr.heap.size, 0, none⟩) n n)).alloc (by simp; omega) (Obj.cells (madeCells #[Value.int .i64 0] n) 2)).drew)
      have hszs : (wr.setCell ⟨vb, b, none⟩ (.slice (some ⟨wr.heap.size, 0, none⟩) n n)).heap.size = wr.heap.size := by simp [World.setCell]
      have HSS := Lib.hid hszs
      clear hszs
      go_wp2_with fail
      go_roundw
      case rel =>
        refine ⟨b + 1, by omega, by go_num, ?_, lkDrew (lkOld (lkSet (by omega) HST1.out)), ?_, fun j hj => ?_, HB1d.out⟩
        · have := HSZ.out
          have := HSS.out
          simp
          omega
        · refine ((HROW.out.set b _).alloc _).drew.congr (fun j _ => ?_)
          by_cases e : j = b
          · subst e; simp [HSZ.out]
          · by_cases e2 : j < b
            · simp [e, e2, show j < b + 1 by omega]
            · simp [e, e2, show ¬ j < b + 1 by omega]
        · by_cases e : j = b
          · subst e
            have h := World.rowIs_made (wr.setCell ⟨vb, j, none⟩ (.slice (some ⟨wr.heap.size, 0, none⟩) n n)) (.int .i64 0) n 2
            rw [HSS.out, HSZ.out] at h
            rw [HSZ.out]
            exact h.drew
          · exact (((HCOL.out j (by omega)).setOther (by simp; omega) _).alloc _).drew
      case measure => simp [intOf]; omega
    · have hbm' : b = m := by omega
      have HX := Lib.hid (show (Mv.mk lb rb vb n m).Ok B from ⟨hlb, hrb, by have := HVB.out; simp only; omega, by have := HVB.out; simp only; omega, hne⟩)
      have HWR := Lib.hid (show Below w.heap.size w wr by have := HVB.out; exact (HWD.out).trans (by rw [← HVB.out]; exact HB1.out))
      have HM := Lib.hid (show MvIn ⟨lb, rb, vb, n, m⟩ (.func (.func g) #[] lbv) (.slice none 0 0) (.slice none 0 0) wr L R (fun _ _ => 0) from
        ⟨HST1.out, HL.out.of_block (HWR.out.block _ hllt), HR.out.of_block (HWR.out.block _ hrlt), HROW.out.congr (fun j hj => by simp only; rw [if_pos (by omega)]), fun j hj => HCOL.out j (by simp only at hj; omega)⟩)
      have HIR := Lib.hid (show I wr from HA.out.same _ _ HI.out (HWR.out.mono hBw))
      have HKR := Lib.hid (show Kept (Qk P B) w wr from .ofBelow HWR.out)
      have HDI := Lib.hid (direct_any ⟨lb, rb, vb, n, m⟩ HA.out HX.out HSm.out L R _ wr HIR.out HM.out (Part.start HL0.out HR0.out))
      have hwr2 := HWR.out.size
      clear HROW HCOL HB1 HST HRV HWD HST1 c0 c1 c2 c3 c4 c5 hl1 hl2 HL HR HI
      go_wp2_with fail
      refine HDI.out.mono ?_
      rintro e w3 ⟨rfl, le, ri, mv, hm3, hp3, hI3, hk3⟩
      have HM3 := Lib.hid hm3
      have HP3 := Lib.hid hp3
      have HI3 := Lib.hid hI3
      have HK3 := Lib.hid (HKR.out.trans hk3)
      have hl1 : vb + 1 < w3.heap.size := heap_lt hm3.st
      have hl2 : vb < w3.heap.size := by omega
      have hl3 : vb + 1 < w3.heap.size + 1 := by omega
      have hl4 : vb < w3.heap.size + 1 := by omega
      obtain ⟨c0, c1, c2, c3, c4, c5⟩ := cells6 hm3.st
      have f4 : w3.frozen? ⟨vb + 1, 4, none⟩ = false := frozen_of hm3.st
      have f5 : w3.frozen? ⟨vb + 1, 5, none⟩ = false := frozen_of hm3.st
      have HSTR := Lib.hid hm3.st
      clear hm3 hp3 hI3 hk3 HM HIR HKR HDI hmkn
      have hmkn := run_make_row' (P := Tryz.prog) 26 3 (.int .i64 0) 8 Tryz.underlying26 infoInt rfl .i64 .i64 n (by omega) (by omega)
      have hmkm := run_make_row' (P := Tryz.prog) 26 3 (.int .i64 0) 8 Tryz.underlying26 infoInt rfl .i64 .i64 m (by omega) (by omega)
      simp only at c0 c1 c2 c3 c4 c5
      go_wp2_with fail
      go_cut [38, 41] from 36 to 43 (fun s38 s41 wx => ∃ db eb : Nat, s38 = .slice (some ⟨db, 0, none⟩) n n ∧ s41 = .slice (some ⟨eb, 0, none⟩) m m ∧ Rg2 w3 wx vb n m db eb (.func (.func g) #[] lbv) (.slice (some ⟨lb, 0, none⟩) n n) (.slice (some ⟨rb, 0, none⟩) m m) (.slice (some ⟨vb, 0, none⟩) m m))
      case first =>
        go_region
        all_goals (go_wp2_with fail; go_meet; exact ⟨_, _, rfl, rfl, lkDrew (lkOld (lkOld (stSet5 (stSet4 HSTR.out)))), (by first | exact lkDrew (lkOld (lkNew (by simp [World.setCell]) rfl)) | exact lkDrew (lkNew (by simp [World.setCell]) rfl)), (by first | exact lkDrew (lkOld (lkNew (by simp [World.setCell]) rfl)) | exact lkDrew (lkNew (by simp [World.setCell]) rfl)), ⟨by omega, by omega, by omega⟩, (((((Oth.refl _ _).set _ _).set _ _).alloc _).alloc _).drew⟩)
      case rest =>
        obtain ⟨db, eb, rfl, rfl, hR⟩ := hcut
        have hdlt := heap_lt hR.l
        have helt := heap_lt hR.r
        have hrne := hR.ne
        have hmw : vb + 2 + m ≤ w3.heap.size := by
          rcases Nat.eq_zero_or_pos m with h | h
          · omega
          · have := (HM3.out.cols (m - 1) (by simp only; omega)).lt
            simp only at this; omega
        have HOK := Lib.hid (show MdOk (Mv.mk lb rb vb n m) B db eb wc.heap.size from ⟨HX.out, by simp only; omega, by simp only; omega, hrne.2.2, hdlt, helt⟩)
        have hlv := HX.out.lv
        have hrv := HX.out.rv
        simp only at hlv hrv
        have HMD := Lib.hid (show MdIn ⟨lb, rb, vb, n, m⟩ db eb (.func (.func g) #[] lbv) wc le ri mv (fun _ => 0) (fun _ => 0) from
          ⟨⟨hR.st, HM3.out.left.of_block (hR.oth.block _ HM3.out.left.lt (by simp only; omega)), HM3.out.right.of_block (hR.oth.block _ HM3.out.right.lt (by simp only; omega)), HM3.out.moved.of_block (hR.oth.block _ HM3.out.moved.lt (by simp only; omega)),
            fun b hb => (HM3.out.cols b hb).of_block (hR.oth.block _ (HM3.out.cols b hb).lt (by simp only; omega))⟩, row_of_made hR.l, row_of_made hR.r⟩)
        have HIC := Lib.hid (show I wc from HA.out.same _ _ HI3.out ⟨hR.oth.os, hR.oth.tape, hR.oth.output, hR.oth.size, fun k hk => hR.oth.block k (by omega) (by omega)⟩)
        have HKC := Lib.hid (show Kept (Qk P B) w wc from HK3.out.trans ⟨hR.oth.os, hR.oth.tape, hR.oth.output, hR.oth.size, fun k hk hn => hR.oth.block k hk (fun e => hn (Or.inr (by omega)))⟩)
        obtain ⟨base, hbase⟩ : ∃ base, base = wc.heap.size := ⟨_, rfl⟩
        have hbb : base ≤ wc.heap.size := by omega
        rw [← hbase] at HOK
        clear hR HM3 HI3 HK3 hl1 hl2 hl3 hl4 c0 c1 c2 c3 c4 c5 f4 f5 HSTR hmkn hmkm hdlt helt hbase hmw hwr2
        have HBB := Lib.hid hbb
        clear hbb
        go_wp2_with fail
        go_loopg [46] (sumN le n).toNat (fun gg _ wr => ∃ (le ri : Nat → Int) (mv : Nat → Nat → Int) (ld rd : Nat → Int), (sumN le n).toNat ≤ gg ∧ MdIn ⟨lb, rb, vb, n, m⟩ db eb (.func (.func g) #[] lbv) wr le ri mv ld rd ∧ Part n m L R rel mv le ri ∧ I wr ∧ Kept (Qk P B) w wr ∧ base ≤ wr.heap.size)
        case atStart => exact ⟨le, ri, mv, _, _, Nat.le_refl _, HMD.out, HP3.out, HIC.out, HKC.out, HBB.out⟩
        case round =>
          obtain ⟨le4, ri4, mv4, ld4, rd4, hgg, hm4, hp4, hI4, hk4, hb4⟩ := hrel
          have HM4 := Lib.hid hm4
          have HP4 := Lib.hid hp4
          have HI4 := Lib.hid hI4
          have HK4 := Lib.hid hk4
          have HB4 := Lib.hid hb4
          obtain ⟨c0, c1, c2, c3, c4, c5⟩ := cells6 hm4.m.st
          have hsle : sumN le4 n ≤ sumN L n := sumN_le n (fun a ha => (hp4.le_L ha).2)
          have hsl0 : 0 ≤ sumN le4 n := sumN_nonneg n hp4.le0
          have HSU := Lib.hid (sum64_any lb n le4 n wr hm4.m.left hp4.le0 (by have := HSL.out; omega) (by omega))
          have HOK4 := Lib.hid (show MdOk (Mv.mk lb rb vb n m) B db eb wr.heap.size from ⟨HOK.out.o, HOK.out.d, HOK.out.e, HOK.out.de, by have := HOK.out.dt; omega, by have := HOK.out.et; omega⟩)
          clear hm4 hp4 hI4 hk4 hb4 HMD HP3 HIC HKC HBB
          simp only at c0 c1 c2 c3 c4 c5
          obtain ⟨s4, hs4⟩ : ∃ s4, s4 = sumN le4 n := ⟨_, rfl⟩
          rw [← hs4] at HSU hsle hsl0 hgg
          have HS4 := Lib.hid hs4
          clear hs4
          go_wp2_with fail
          refine HSU.out.mono ?_
          rintro e w5 ⟨rfl, hw5⟩
          subst hw5
          by_cases hs0 : 0 < s4
          rotate_left
          · have HFL := Lib.hid (show Flow n m L R rel from HP4.out.flow (by rw [← HSL.out]; exact HSR.out) (by rw [← HS4.out]; omega))
            go_wp2_with fail
            go_ret
            exact ⟨true, rfl, ⟨fun _ => HFL.out, fun _ => rfl⟩, HI4.out, HK4.out⟩
          have HFI := Lib.hid (find_any ⟨lb, rb, vb, n, m⟩ db eb HA.out HSm.out le4 ri4 mv4 ld4 rd4 w5 HOK4.out HI4.out HM4.out HP4.out)
          go_wp2_with fail
          refine HFI.out.mono ?_
          rintro e w6 ⟨p, ld6, rd6, rfl, hm6, hd6, hI6, hk6⟩
          have HM6 := Lib.hid hm6
          have HD6 := Lib.hid hd6
          have HI6 := Lib.hid hI6
          have HK6 := Lib.hid (HK4.out.trans hk6)
          have hs6 := hk6.size
          clear hm6 hd6 hI6 hk6 c0 c1 c2 c3 c4 c5 HFI HSU
          cases p
          · go_wp2_with fail
            go_ret
            exact ⟨false, rfl, ⟨(fun h => by cases h), fun h => absurd h (HD6.out.noFlow HP4.out (by rw [← HS4.out]; exact hs0))⟩, HI6.out, HK6.out⟩
          · have HOK6 := Lib.hid (show MdOk (Mv.mk lb rb vb n m) B db eb w6.heap.size from ⟨HOK4.out.o, HOK4.out.d, HOK4.out.e, HOK4.out.de, by have := HOK4.out.dt; omega, by have := HOK4.out.et; omega⟩)
            have HAL := Lib.hid (along_any ⟨lb, rb, vb, n, m⟩ db eb HA.out HSm.out le4 ri4 mv4 ld6 rd6 w6 HOK6.out HI6.out HM6.out HP4.out HD6.out)
            go_wp2_with fail
            refine HAL.out.mono ?_
            rintro e w7 ⟨rfl, le7, ri7, mv7, hm7, hp7, hI7, hk7, hlt7⟩
            have HM7 := Lib.hid hm7
            have HP7 := Lib.hid hp7
            have HI7 := Lib.hid hI7
            have HK7 := Lib.hid (HK6.out.trans hk7)
            have HL7 := Lib.hid hlt7
            have HS7 := Lib.hid hk7.size
            clear hm7 hp7 hI7 hk7 hlt7
            go_wp2_with fail
            go_roundg (sumN le7 n).toNat
            case measure =>
              have h1 := HL7.out
              have h2 := HS4.out
              have h3 := sumN_nonneg n HP7.out.le0
              omega
            case rel => exact ⟨le7, ri7, mv7, ld6, rd6, Nat.le_refl _, HM7.out, HP7.out, HI7.out, HK7.out, by have := HB4.out; have := HS7.out; omega⟩
end Go.Proofs.YtfgpjfgejhahfaaGreatDoor
