/-
  Proved here: contracts of the walk to BisimRelated: related at bags and sets; each under the conditions that its own statement names.
-/
import Derived.Test.YtfgpjfgejhahfaaGreatDoorG34
namespace Go.Proofs.YtfgpjfgejhahfaaGreatDoor
open Go Go.RowKit

set_option maxRecDepth 100000 in
set_option maxHeartbeats 6400000 in
theorem rel6_any {t : V} (ih : t.Elems RelOk) {B : Nat} {P : Nat → Prop} {I : World → Prop} {nn mm : Nat} {rel : Nat → Nat → Bool} {g : Nat} {lb : Array Value} {RB : F → Int × V × List Int → Int × V × List Int → Bool} {S : Nat → Nat → Prop} {S' : Nat → Prop}
    {fn : Int} {ft : T} {n n' : Int} {t' : V} {ws ws' : List Int} {a a1 a2 c1 c2 : Option Addr} {cap cap1 cap2 cp1 cp2 : Nat} {w : World}
    (hA : Asks B P I nn mm rel g lb) (hRB : ∀ f u v, RB f u v = true ↔ relV (tells rel) f u v) (hI : I w) (hs : Sl S w a ft) (hv : Vl S' w a1 t) (hi : Ints S' w c1 ws) (hv' : Vl S' w a2 t') (hi' : Ints S' w c2 ws') (hSP : ∀ b o, S b o → ¬ P b) (hSP' : ∀ b, S' b → ¬ P b)
    (hg : F.good ⟨6, fn, ft⟩ = true) (hu : okV nodeOk nn ⟨6, fn, ft⟩ n t ws = true) (hu' : okV nodeOk mm ⟨6, fn, ft⟩ n' t' ws' = true) :
    Calls Tryz.prog 49 #[F.val ⟨6, fn, ft⟩ a cap, Vv n a1 t.len cap1 c1 ws.length cp1, Vv n' a2 t'.len cap2 c2 ws'.length cp2, .func (.func g) #[] lb] w fun e w' => e = .returned (.bool (RB ⟨6, fn, ft⟩ (n, t, ws) (n', t', ws'))) ∧ I w' ∧ Kept P w w' := by
  obtain ⟨W, hW⟩ : ∃ W : World, W = (((w.alloc (Obj.cells #[.int .i64 6, .int .i64 fn, .slice a ft.len cap] 24)).alloc (Obj.cells #[.int .i64 n, .slice a1 t.len cap1, .slice c1 ws.length cp1] 28)).alloc (Obj.cells #[.int .i64 n', .slice a2 t'.len cap2, .slice c2 ws'.length cp2] 28)).alloc (Obj.cells #[.func (.func g) #[] lb] 80) := ⟨_, rfl⟩
  have hx : Boxes w.heap.size ⟨6, fn, ft⟩ n n' t t' ws ws' a a1 a2 c1 c2 cap cap1 cap2 cp1 cp2 g lb W := boxes_made w hW
  have hWb : Below w.heap.size w W := by rw [hW]; exact (((Below.refl _ _).alloc (Nat.le_refl _) _).alloc (by simp) _).alloc (by simp; omega) _ |>.alloc (by simp; omega) _
  have hB := hA.lt w hI
  have hIW : I W := hA.same _ _ hI (hWb.mono hB)
  have hfl : 0 < ft.len := by
    have := (F.good_len hg).1
    simp only [arityOf] at this
    omega
  have hDA := decide_any ih hA hRB hIW (hs.below hWb) (hv.below hWb) (hv'.below hWb) hSP hSP' hg hu hu' (by simp only; omega) hx hB hfl
  have hw1 := wts_of hu (Or.inl rfl)
  have hw2 := wts_of hu' (Or.inl rfl)
  have hm1 := hw1.many
  have hm2 := hw2.many
  have hAI : AsIs P I W W := ⟨hIW, Nat.le_refl _, fun _ _ _ => rfl⟩
  have HRM := Lib.hid (remembered_any hDA (by omega) (by omega) W hAI)
  obtain ⟨bf, hbf⟩ : ∃ bf, bf = w.heap.size := ⟨_, rfl⟩
  rw [← hbf] at hx
  rw [← hbf] at HRM
  have HXB := Lib.hid hx
  have HI1 := Lib.hid (fun x (hb : Below w.heap.size w x) => hi.below hb)
  have HI2 := Lib.hid (fun x (hb : Below w.heap.size w x) => hi'.below hb)
  have HWB := Lib.hid hWb
  have HBF := Lib.hid hbf
  have HW1 := Lib.hid hw1
  have HW2 := Lib.hid hw2
  have HA := Lib.hid hA
  have HRB := Lib.hid (hRB ⟨6, fn, ft⟩ (n, t, ws) (n', t', ws'))
  have HRE := Lib.hid (fun i j => hRB (ft.get 0) (t.el i) (t'.el j))
  have HBB := Lib.hid hB
  have hlt2 := hv.1
  have hlt3 := hv'.1
  have hwl1 : ws.length ≤ 100 := by have := hw1.ln; omega
  have hwl2 : ws'.length ≤ 100 := by have := hw2.ln; omega
  have hnP : ∀ k, bf ≤ k → ¬ P k := fun k hk hp => by have := hA.pb k hp; omega
  have HNP := Lib.hid hnP
  obtain ⟨b0, b1, b2⟩ := cells_of hx.f
  obtain ⟨b3, b4, b5⟩ := cells_of hx.u
  obtain ⟨b6, b7, b8⟩ := cells_of hx.v
  simp only at b0 b1 b2
  clear hA hRB hI hs hv hi hv' hi' hSP hSP' hg hu hu' hx hWb hB hIW hfl hDA hw1 hw2 hAI ih hnP
  go_enter Tryz.func49, Tryz.ntmps49
  go_wp2_with fail
  rw [← hW, ← hbf]
  clear hW hbf
  refine HRM.out.mono ?_
  rintro e w1 ⟨lb1, P1, I1, rfl, hA1, hI1, hb1, hP1, hIm⟩
  have HA1 := Lib.hid hA1
  have HI11 := Lib.hid hI1
  have HB1 := Lib.hid hb1
  have HP1 := Lib.hid hP1
  have HIM := Lib.hid hIm
  have d0 := cell_below hb1 b0
  have d5 := cell_below hb1 b5
  have d8 := cell_below hb1 b8
  clear b0 b1 b2 b3 b4 b5 b6 b7 b8 hA1 hI1 hb1 hP1 hIm HRM
  go_wp2_with fail
  have hww : Below w.heap.size w w1 := HWB.out.trans (HB1.out.mono HWB.out.size)
  have HXW := Lib.hid (fun x (hb : Below w1.heap.size w1 x) => (hww.trans (hb.mono hww.size) : Below w.heap.size w x))
  have hpu : ∀ i, i < ws.length → 0 ≤ getW ws i * 1 ∧ getW ws i * 1 ≤ 1099511627776 := fun i hi => by
    have h1 := HW1.out.nn i hi
    have h2 : getW ws i ≤ 1048576 := by have := sumN_elem HW1.out.nn hi; have := HW1.out.sum; omega
    omega
  have hpv : ∀ i, i < ws'.length → 0 ≤ getW ws' i * 1 ∧ getW ws' i * 1 ≤ 1099511627776 := fun i hi => by
    have h1 := HW2.out.nn i hi
    have h2 : getW ws' i ≤ 1048576 := by have := sumN_elem HW2.out.nn hi; have := HW2.out.sum; omega
    omega
  have hsum1 : sumN (fun i => getW ws i * 1) ws.length ≤ 1152921504606846976 := by
    rw [sumN_mul]; have := HW1.out.sum; omega
  have hsum2 : sumN (fun i => getW ws' i * 1) ws'.length ≤ 1152921504606846976 := by
    rw [sumN_mul]; have := HW2.out.sum; omega
  have HTU := Lib.hid (fun x (hb : Below w1.heap.size w1 x) => (timesW_any S' c1 cp1 ws 1 x (HI1.out x (HXW.out x hb)) (fun i hi => ⟨(hpu i hi).1, by have := (hpu i hi).2; omega⟩) (by omega)).mono (show ∀ e x', _ → ∃ l : Nat, e = .returned (.slice (some ⟨l, 0, none⟩) ws.length ws.length) ∧ x.heap.size ≤ l ∧ x'.rowIs l 2 ws.length (fun i => .int .i64 (getW ws i * 1)) ∧ Below x.heap.size x x' from fun e x' h => ⟨_, h.1, Nat.le_refl _, h.2.1, h.2.2.1⟩))
  have HTV := Lib.hid (fun x (hb : Below w1.heap.size w1 x) => (timesW_any S' c2 cp2 ws' 1 x (HI2.out x (HXW.out x hb)) (fun i hi => ⟨(hpv i hi).1, by have := (hpv i hi).2; omega⟩) (by omega)).mono (show ∀ e x', _ → ∃ l : Nat, e = .returned (.slice (some ⟨l, 0, none⟩) ws'.length ws'.length) ∧ x.heap.size ≤ l ∧ x'.rowIs l 2 ws'.length (fun i => .int .i64 (getW ws' i * 1)) ∧ Below x.heap.size x x' from fun e x' h => ⟨_, h.1, Nat.le_refl _, h.2.1, h.2.2.1⟩))
  have HIFF := Lib.hid (show Flow ws.length ws'.length (fun i => getW ws i * 1) (fun i => getW ws' i * 1) (fun i j => RB (ft.get 0) (t.el i) (t'.el j)) ↔ RB ⟨6, fn, ft⟩ (n, t, ws) (n', t', ws') = true by
    rw [HRB.out, HW1.out.ln, HW2.out.ln]
    have h1 : relV (tells rel) ⟨6, fn, ft⟩ (n, t, ws) (n', t', ws') = FlowP t.len t'.len (fun a => getW ws a * 1) (fun b => getW ws' b * 1) (fun a b => t.relE (tells rel) (fun _ => ft.get 0) a (t'.el b)) := by
      unfold relV nodeRel
      simp
    rw [h1]
    exact flowP_iff (fun i j hi hj => (HRE.out i j).trans (relE_el (fun _ => ft.get 0) (t'.el j) hi).symm))
  have HA2 := Lib.hid (show Asks w1.heap.size P1 I1 ws.length ws'.length (fun i j => RB (ft.get 0) (t.el i) (t'.el j)) 141 lb1 by rw [HW1.out.ln, HW2.out.ln]; exact HA1.out)
  have HCM := Lib.hid (fun x l r (hb : Below w1.heap.size w1 x) (hl : w1.heap.size ≤ l) (hr : w1.heap.size ≤ r) (hne : l ≠ r) (hl' : x.rowIs l 2 ws.length (fun i => .int .i64 (getW ws i * 1))) (hr' : x.rowIs r 2 ws'.length (fun i => .int .i64 (getW ws' i * 1))) =>
    (can_any ws.length ws'.length l r HA2.out (by omega) (by omega) (fun a ha => (hpu a ha).1) (fun b hb => (hpv b hb).1) hsum1 hsum2 hl hr hne x (HA2.out.same _ _ HI11.out hb) hl' hr').mono (show ∀ e x', _ → e = .returned (.bool (RB ⟨6, fn, ft⟩ (n, t, ws) (n', t', ws'))) ∧ I x' ∧ Kept P w x' ∧ x'.cell? ⟨bf + 1, 2, none⟩ = some (.slice c1 ws.length cp1) ∧ x'.cell? ⟨bf + 2, 2, none⟩ = some (.slice c2 ws'.length cp2) from by
      rintro e x' ⟨p, rfl, hp, hI', hk'⟩
      have hpe : p = RB ⟨6, fn, ft⟩ (n, t, ws) (n', t', ws') := by
        have h1 := hp.trans HIFF.out
        cases p <;> cases hq : RB ⟨6, fn, ft⟩ (n, t, ws) (n', t', ws') <;> simp_all
      obtain ⟨h1, h2, h3⟩ := HIM.out x' hI'
      have hwx := HXW.out x hb
      refine ⟨by rw [hpe], h1, ⟨hk'.os.trans hwx.os, hk'.tape.trans hwx.tape, hk'.output.trans hwx.output, Nat.le_trans hwx.size hk'.size, fun k hk hp => (h3 k (Nat.lt_of_lt_of_le hk HWB.out.size) hp).trans (HWB.out.block k hk)⟩, ?_, ?_⟩
      · exact (cells_of (show x'.heap[bf + 1]? = _ from (h3 _ (heap_lt HXB.out.u) (HNP.out _ (by omega))).trans HXB.out.u)).2.2
      · exact (cells_of (show x'.heap[bf + 2]? = _ from (h3 _ (heap_lt HXB.out.v) (HNP.out _ (by omega))).trans HXB.out.v)).2.2))
  have hbx : Below w1.heap.size w1 w1 := Below.refl _ _
  clear hpu hpv hsum1 hsum2 hww HI1 HI2
  go_region_held3 (fun x : World => x.cell? ⟨bf + 1, 2, none⟩ = some (.slice c1 ws.length cp1) ∧ x.cell? ⟨bf + 2, 2, none⟩ = some (.slice c2 ws'.length cp2)) (first | exact ⟨d5, d8⟩ | fail) (first
    | (go_at_call 99; refine callAt (args' := #[.slice c1 ws.length cp1, .int .i64 1]) rfl ?_; refine (HTU.out _ (by first | exact hbx | exact belowN hbx)).mono ?_; rintro e x ⟨lu, rfl, hlu, ru, bu⟩; have hwu := Nat.le_trans hbx.size hlu; replace d5 := cell_below bu d5; replace d8 := cell_below bu d8; replace hbx := Below.trans (b := _) (by first | exact hbx | exact belowN hbx) (bu.mono hbx.size); (try replace rv := rv.of_block (bu.block _ rv.lt)); (try have hne := Ne.symm (Nat.ne_of_lt (Nat.lt_of_lt_of_le rv.lt hlu))))
    | (go_at_call 99; refine callAt (args' := #[.slice c2 ws'.length cp2, .int .i64 1]) rfl ?_; refine (HTV.out _ (by first | exact hbx | exact belowN hbx)).mono ?_; rintro e x ⟨lv, rfl, hlv, rv, bv⟩; have hwv := Nat.le_trans hbx.size hlv; (try have hne := Nat.ne_of_lt (Nat.lt_of_lt_of_le ru.lt hlv)); replace d5 := cell_below bv d5; replace d8 := cell_below bv d8; replace hbx := Below.trans (b := _) (by first | exact hbx | exact belowN hbx) (bv.mono hbx.size); (try replace ru := ru.of_block (bv.block _ ru.lt)))
    | (go_at_call 98; refine (HCM.out _ _ _ (by first | exact hbx | exact belowN hbx) hwu hwv hne ru rv).mono ?_; rintro e x ⟨rfl, hIz, hkz, e5, e8⟩; clear d5 d8; have d5 := e5; have d8 := e8; clear e5 e8; have HIZ := Lib.hid hIz; have HKZ := Lib.hid hkz; clear hIz hkz)
    | fail)
  all_goals (go_wp2_with fail; go_ret; exact ⟨rfl, HIZ.out, HKZ.out⟩)
end Go.Proofs.YtfgpjfgejhahfaaGreatDoor

namespace Go.Proofs.YtfgpjfgejhahfaaGreatDoor
open Go Go.RowKit

set_option maxRecDepth 100000 in
set_option maxHeartbeats 6400000 in
theorem rel5_any {t : V} (ih : t.Elems RelOk) {B : Nat} {P : Nat → Prop} {I : World → Prop} {nn mm : Nat} {rel : Nat → Nat → Bool} {g : Nat} {lb : Array Value} {RB : F → Int × V × List Int → Int × V × List Int → Bool} {S : Nat → Nat → Prop} {S' : Nat → Prop}
    {fn : Int} {ft : T} {n n' : Int} {t' : V} {ws ws' : List Int} {a a1 a2 c1 c2 : Option Addr} {cap cap1 cap2 cp1 cp2 : Nat} {w : World}
    (hA : Asks B P I nn mm rel g lb) (hRB : ∀ f u v, RB f u v = true ↔ relV (tells rel) f u v) (hI : I w) (hs : Sl S w a ft) (hv : Vl S' w a1 t) (_hi : Ints S' w c1 ws) (hv' : Vl S' w a2 t') (_hi' : Ints S' w c2 ws') (hSP : ∀ b o, S b o → ¬ P b) (hSP' : ∀ b, S' b → ¬ P b)
    (hg : F.good ⟨5, fn, ft⟩ = true) (hu : okV nodeOk nn ⟨5, fn, ft⟩ n t ws = true) (hu' : okV nodeOk mm ⟨5, fn, ft⟩ n' t' ws' = true) :
    Calls Tryz.prog 49 #[F.val ⟨5, fn, ft⟩ a cap, Vv n a1 t.len cap1 c1 ws.length cp1, Vv n' a2 t'.len cap2 c2 ws'.length cp2, .func (.func g) #[] lb] w fun e w' => e = .returned (.bool (RB ⟨5, fn, ft⟩ (n, t, ws) (n', t', ws'))) ∧ I w' ∧ Kept P w w' := by
  obtain ⟨W, hW⟩ : ∃ W : World, W = (((w.alloc (Obj.cells #[.int .i64 5, .int .i64 fn, .slice a ft.len cap] 24)).alloc (Obj.cells #[.int .i64 n, .slice a1 t.len cap1, .slice c1 ws.length cp1] 28)).alloc (Obj.cells #[.int .i64 n', .slice a2 t'.len cap2, .slice c2 ws'.length cp2] 28)).alloc (Obj.cells #[.func (.func g) #[] lb] 80) := ⟨_, rfl⟩
  have hx : Boxes w.heap.size ⟨5, fn, ft⟩ n n' t t' ws ws' a a1 a2 c1 c2 cap cap1 cap2 cp1 cp2 g lb W := boxes_made w hW
  have hWb : Below w.heap.size w W := by rw [hW]; exact (((Below.refl _ _).alloc (Nat.le_refl _) _).alloc (by simp) _).alloc (by simp; omega) _ |>.alloc (by simp; omega) _
  have hB := hA.lt w hI
  have hIW : I W := hA.same _ _ hI (hWb.mono hB)
  have hfl : 0 < ft.len := by
    have := (F.good_len hg).1
    simp only [arityOf] at this
    omega
  have hDA := decide_any ih hA hRB hIW (hs.below hWb) (hv.below hWb) (hv'.below hWb) hSP hSP' hg hu hu' (by simp only; omega) hx hB hfl
  have hm1 := okV_many hu rfl
  have hm2 := okV_many hu' rfl
  have hAI : AsIs P I W W := ⟨hIW, Nat.le_refl _, fun _ _ _ => rfl⟩
  have HRM := Lib.hid (remembered_any hDA (by omega) (by omega) W hAI)
  obtain ⟨bf, hbf⟩ : ∃ bf, bf = w.heap.size := ⟨_, rfl⟩
  rw [← hbf] at hx
  rw [← hbf] at HRM
  have HXB := Lib.hid hx
  have HWB := Lib.hid hWb
  have HBF := Lib.hid hbf
  have HA := Lib.hid hA
  have HRB := Lib.hid (hRB ⟨5, fn, ft⟩ (n, t, ws) (n', t', ws'))
  have HRE := Lib.hid (fun i j => hRB (ft.get 0) (t.el i) (t'.el j))
  have HBB := Lib.hid hB
  have hlt2 := hv.1
  have hlt3 := hv'.1
  have hnP : ∀ k, bf ≤ k → ¬ P k := fun k hk hp => by have := hA.pb k hp; omega
  have HNP := Lib.hid hnP
  obtain ⟨b0, b1, b2⟩ := cells_of hx.f
  obtain ⟨b3, b4, b5⟩ := cells_of hx.u
  obtain ⟨b6, b7, b8⟩ := cells_of hx.v
  simp only at b0 b1 b2
  clear hA hRB hI hs hv _hi hv' _hi' hSP hSP' hg hu hu' hx hWb hB hIW hfl hDA hAI ih hnP
  go_enter Tryz.func49, Tryz.ntmps49
  go_wp2_with fail
  rw [← hW, ← hbf]
  clear hW hbf
  refine HRM.out.mono ?_
  rintro e w1 ⟨lb1, P1, I1, rfl, hA1, hI1, hb1, hP1, hIm⟩
  have HA1 := Lib.hid hA1
  have HI11 := Lib.hid hI1
  have HB1 := Lib.hid hb1
  have HP1 := Lib.hid hP1
  have HIM := Lib.hid hIm
  have d0 := cell_below hb1 b0
  have d4 := cell_below hb1 b4
  have d7 := cell_below hb1 b7
  clear b0 b1 b2 b3 b4 b5 b6 b7 b8 hA1 hI1 hb1 hP1 hIm HRM
  go_wp2_with fail
  have hww : Below w.heap.size w w1 := HWB.out.trans (HB1.out.mono HWB.out.size)
  have HKW := Lib.hid (fun x' (hI' : I1 x') (hk' : Kept (Qk P1 w1.heap.size) w1 x') => (show I x' ∧ Kept P w x' from by
    obtain ⟨h1, h2, h3⟩ := HIM.out x' hI'
    exact ⟨h1, hk'.os.trans hww.os, hk'.tape.trans hww.tape, hk'.output.trans hww.output, Nat.le_trans hww.size hk'.size, fun k hk hp => (h3 k (Nat.lt_of_lt_of_le hk HWB.out.size) hp).trans (HWB.out.block k hk)⟩))
  have HIFF := Lib.hid (show ((∀ i, i < t.len → ∃ j, j < t'.len ∧ RB (ft.get 0) (t.el i) (t'.el j) = true) ∧ ∀ j, j < t'.len → ∃ i, i < t.len ∧ RB (ft.get 0) (t.el i) (t'.el j) = true) ↔ RB ⟨5, fn, ft⟩ (n, t, ws) (n', t', ws') = true by
    rw [HRB.out]
    have h1 : relV (tells rel) ⟨5, fn, ft⟩ (n, t, ws) (n', t', ws') = ((∀ i, i < t.len → ∃ j, j < t'.len ∧ t.relE (tells rel) (fun _ => ft.get 0) i (t'.el j)) ∧ ∀ j, j < t'.len → ∃ i, i < t.len ∧ t.relE (tells rel) (fun _ => ft.get 0) i (t'.el j)) := by
      unfold relV nodeRel
      simp
    rw [h1]
    have h2 : ∀ i j, i < t.len → (RB (ft.get 0) (t.el i) (t'.el j) = true ↔ t.relE (tells rel) (fun _ => ft.get 0) i (t'.el j)) := fun i j hi => (HRE.out i j).trans (relE_el (fun _ => ft.get 0) (t'.el j) hi).symm
    constructor
    · intro ⟨h3, h4⟩
      exact ⟨fun i hi => by obtain ⟨j, hj, h5⟩ := h3 i hi; exact ⟨j, hj, (h2 i j hi).1 h5⟩, fun j hj => by obtain ⟨i, hi, h5⟩ := h4 j hj; exact ⟨i, hi, (h2 i j hi).1 h5⟩⟩
    · intro ⟨h3, h4⟩
      exact ⟨fun i hi => by obtain ⟨j, hj, h5⟩ := h3 i hi; exact ⟨j, hj, (h2 i j hi).2 h5⟩, fun j hj => by obtain ⟨i, hi, h5⟩ := h4 j hj; exact ⟨i, hi, (h2 i j hi).2 h5⟩⟩)
  have HCO := Lib.hid (cover_any HA1.out (by omega) (by omega) w1 HI11.out)
  clear hww
  refine HCO.out.mono ?_
  rintro e w2 ⟨r, rfl, hr, hI2, hk2⟩
  have hre : r = RB ⟨5, fn, ft⟩ (n, t, ws) (n', t', ws') := by
    have h1 := hr.trans HIFF.out
    cases r <;> cases hq : RB ⟨5, fn, ft⟩ (n, t, ws) (n', t', ws') <;> simp_all
  have HRE2 := Lib.hid hre
  have HFIN := Lib.hid (HKW.out _ hI2 hk2)
  clear hr hI2 hk2 hre
  go_wp2_with fail
  go_ret
  exact ⟨by rw [← HRE2.out]; rfl, HFIN.out⟩

set_option maxRecDepth 100000 in
set_option maxHeartbeats 6400000 in
theorem rel4_any {t : V} (ih : t.Elems RelOk) {B : Nat} {P : Nat → Prop} {I : World → Prop} {nn mm : Nat} {rel : Nat → Nat → Bool} {g : Nat} {lb : Array Value} {RB : F → Int × V × List Int → Int × V × List Int → Bool} {S : Nat → Nat → Prop} {S' : Nat → Prop}
    {fn : Int} {ft : T} {n n' : Int} {t' : V} {ws ws' : List Int} {a a1 a2 c1 c2 : Option Addr} {cap cap1 cap2 cp1 cp2 : Nat} {w : World}
    (hA : Asks B P I nn mm rel g lb) (hRB : ∀ f u v, RB f u v = true ↔ relV (tells rel) f u v) (hI : I w) (hs : Sl S w a ft) (hv : Vl S' w a1 t) (_hi : Ints S' w c1 ws) (hv' : Vl S' w a2 t') (_hi' : Ints S' w c2 ws') (hSP : ∀ b o, S b o → ¬ P b) (hSP' : ∀ b, S' b → ¬ P b)
    (hg : F.good ⟨4, fn, ft⟩ = true) (hu : okV nodeOk nn ⟨4, fn, ft⟩ n t ws = true) (hu' : okV nodeOk mm ⟨4, fn, ft⟩ n' t' ws' = true) :
    Calls Tryz.prog 49 #[F.val ⟨4, fn, ft⟩ a cap, Vv n a1 t.len cap1 c1 ws.length cp1, Vv n' a2 t'.len cap2 c2 ws'.length cp2, .func (.func g) #[] lb] w fun e w' => e = .returned (.bool (RB ⟨4, fn, ft⟩ (n, t, ws) (n', t', ws'))) ∧ I w' ∧ Kept P w w' := by
  obtain ⟨W, hW⟩ : ∃ W : World, W = (((w.alloc (Obj.cells #[.int .i64 4, .int .i64 fn, .slice a ft.len cap] 24)).alloc (Obj.cells #[.int .i64 n, .slice a1 t.len cap1, .slice c1 ws.length cp1] 28)).alloc (Obj.cells #[.int .i64 n', .slice a2 t'.len cap2, .slice c2 ws'.length cp2] 28)).alloc (Obj.cells #[.func (.func g) #[] lb] 80) := ⟨_, rfl⟩
  have hx : Boxes w.heap.size ⟨4, fn, ft⟩ n n' t t' ws ws' a a1 a2 c1 c2 cap cap1 cap2 cp1 cp2 g lb W := boxes_made w hW
  have hWb : Below w.heap.size w W := by rw [hW]; exact (((Below.refl _ _).alloc (Nat.le_refl _) _).alloc (by simp) _).alloc (by simp; omega) _ |>.alloc (by simp; omega) _
  have hB := hA.lt w hI
  have hIW : I W := hA.same _ _ hI (hWb.mono hB)
  have hfl : 0 < ft.len := by
    have := (F.good_len hg).1
    simp only [arityOf] at this
    omega
  have hDA := decide_any ih hA hRB hIW (hs.below hWb) (hv.below hWb) (hv'.below hWb) hSP hSP' hg hu hu' (by simp only; omega) hx hB hfl
  have hl1 : (t.len : Int) = fn := by have := okV_fields hu; unfold vFields argsOf at this; simp at this; omega
  have hl2 : (t'.len : Int) = fn := by have := okV_fields hu'; unfold vFields argsOf at this; simp at this; omega
  have hfn4 : fn ≤ 4 := by have := (F.good_len hg).2.2; simp only [mostOf] at this; simpa using this
  have hm1 : t.len ≤ 100 := by omega
  have hm2 : t'.len ≤ 100 := by omega
  have hAI : AsIs P I W W := ⟨hIW, Nat.le_refl _, fun _ _ _ => rfl⟩
  have HRM := Lib.hid (remembered_any hDA (by omega) (by omega) W hAI)
  obtain ⟨bf, hbf⟩ : ∃ bf, bf = w.heap.size := ⟨_, rfl⟩
  rw [← hbf] at hx
  rw [← hbf] at HRM
  have HXB := Lib.hid hx
  have HWB := Lib.hid hWb
  have HBF := Lib.hid hbf
  have HL1 := Lib.hid hl1
  have HL2 := Lib.hid hl2
  have HA := Lib.hid hA
  have HRB := Lib.hid (hRB ⟨4, fn, ft⟩ (n, t, ws) (n', t', ws'))
  have HRE := Lib.hid (fun i j => hRB (ft.get 0) (t.el i) (t'.el j))
  have HBB := Lib.hid hB
  have hlt2 := hv.1
  have hlt3 := hv'.1
  have hnP : ∀ k, bf ≤ k → ¬ P k := fun k hk hp => by have := hA.pb k hp; omega
  have HNP := Lib.hid hnP
  obtain ⟨b0, b1, b2⟩ := cells_of hx.f
  obtain ⟨b3, b4, b5⟩ := cells_of hx.u
  obtain ⟨b6, b7, b8⟩ := cells_of hx.v
  simp only at b0 b1 b2
  clear hA hRB hI hs hv _hi hv' _hi' hSP hSP' hg hu hu' hx hWb hB hIW hfl hDA hAI ih hnP hl1 hl2 hfn4
  go_enter Tryz.func49, Tryz.ntmps49
  go_wp2_with fail
  rw [← hW, ← hbf]
  clear hW hbf
  refine HRM.out.mono ?_
  rintro e w1 ⟨lb1, P1, I1, rfl, hA1, hI1, hb1, hP1, hIm⟩
  have HA1 := Lib.hid hA1
  have HI11 := Lib.hid hI1
  have HB1 := Lib.hid hb1
  have HP1 := Lib.hid hP1
  have HIM := Lib.hid hIm
  have d0 := cell_below hb1 b0
  have d1 := cell_below hb1 b1
  clear b0 b1 b2 b3 b4 b5 b6 b7 b8 hA1 hI1 hb1 hP1 hIm HRM
  go_wp2_with fail
  have hww : Below w.heap.size w w1 := HWB.out.trans (HB1.out.mono HWB.out.size)
  have HKW := Lib.hid (fun x' (hI' : I1 x') (hk' : Kept (Qk P1 w1.heap.size) w1 x') => (show I x' ∧ Kept P w x' from by
    obtain ⟨h1, h2, h3⟩ := HIM.out x' hI'
    exact ⟨h1, hk'.os.trans hww.os, hk'.tape.trans hww.tape, hk'.output.trans hww.output, Nat.le_trans hww.size hk'.size, fun k hk hp => (h3 k (Nat.lt_of_lt_of_le hk HWB.out.size) hp).trans (HWB.out.block k hk)⟩))
  have HIFF := Lib.hid (show (∀ i, i < t.len → RB (ft.get 0) (t.el i) (t'.el i) = true) ↔ RB ⟨4, fn, ft⟩ (n, t, ws) (n', t', ws') = true by
    rw [HRB.out]
    have h1 : relV (tells rel) ⟨4, fn, ft⟩ (n, t, ws) (n', t', ws') = (∀ i, i < fn.toNat → t.relE (tells rel) (fun _ => ft.get 0) i (t'.el i)) := by
      unfold relV nodeRel
      simp
    rw [h1, show fn.toNat = t.len by have := HL1.out; omega]
    have h2 : ∀ i, i < t.len → (RB (ft.get 0) (t.el i) (t'.el i) = true ↔ t.relE (tells rel) (fun _ => ft.get 0) i (t'.el i)) := fun i hi => (HRE.out i i).trans (relE_el (fun _ => ft.get 0) (t'.el i) hi).symm
    exact ⟨fun h i hi => (h2 i hi).1 (h i hi), fun h i hi => (h2 i hi).2 (h i hi)⟩)
  have HSA := Lib.hid (show Calls Tryz.prog 96 #[.int .i64 fn, .func (.func 141) #[] lb1] w1 _ from (by rw [← HL1.out]; exact same_any t.len HA1.out (Nat.le_refl _) (by have := HL1.out; have := HL2.out; omega) (by omega) w1 HI11.out))
  clear hww
  refine HSA.out.mono ?_
  rintro e w2 ⟨r, rfl, hr, hI2, hk2⟩
  have hre : r = RB ⟨4, fn, ft⟩ (n, t, ws) (n', t', ws') := by
    have h1 := hr.trans HIFF.out
    cases r <;> cases hq : RB ⟨4, fn, ft⟩ (n, t, ws) (n', t', ws') <;> simp_all
  have HRE2 := Lib.hid hre
  have HFIN := Lib.hid (HKW.out _ hI2 (hk2.mono (fun k _ h => Or.inl h)))
  clear hr hI2 hk2 hre
  go_wp2_with fail
  go_ret
  exact ⟨by rw [← HRE2.out]; rfl, HFIN.out⟩

end Go.Proofs.YtfgpjfgejhahfaaGreatDoor
