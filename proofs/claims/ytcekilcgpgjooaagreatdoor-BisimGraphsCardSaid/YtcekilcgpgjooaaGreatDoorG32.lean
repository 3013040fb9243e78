/- Proved here: contracts of the walk to BisimGraphs: related at bags and sets; each under the conditions that its own statement names. -/
import Derived.Test.YtcekilcgpgjooaaGreatDoorG31
set_option maxRecDepth 100000
set_option maxHeartbeats 6400000
namespace Go.Proofs.YtcekilcgpgjooaaGreatDoor
open Go Go.RowKit
open Go.Lib (hid)
theorem rel5_anyT {t : V} (ih : t.Elems RelOkT) {B : Nat} {P : Nat → Prop} {I : (Nat → Nat → Bool) → World → Prop} {X : Nat → Nat → Bool} {nn mm : Nat} {rel : Nat → Nat → Bool} {g : Nat} {lb : Array Value} {RB : F → Int × V × List Int → Int × V × List Int → Bool} {S : Nat → Nat → Prop} {S' : Nat → Prop}
    {fn : Int} {ft : T} {n n' : Int} {t' : V} {ws ws' : List Int} {a a1 a2 c1 c2 : Option Addr} {cap cap1 cap2 cp1 cp2 : Nat} {w : World}
    (hA : AsksT B P I nn mm rel g lb) (hRB : ∀ f u v, RB f u v = true ↔ relV (tells rel) f u v) (hI : I X w) (hs : Sl S w a ft) (hv : Vl S' w a1 t) (_hi : Ints S' w c1 ws) (hv' : Vl S' w a2 t') (_hi' : Ints S' w c2 ws') (hSP : ∀ b o, S b o → ¬ P b) (hSP' : ∀ b, S' b → ¬ P b)
    (hg : F.good ⟨5, fn, ft⟩ = true) (hu : okV nodeOk nn ⟨5, fn, ft⟩ n t ws = true) (hu' : okV nodeOk mm ⟨5, fn, ft⟩ n' t' ws' = true) :
    Calls Tryz.prog 56 #[F.val ⟨5, fn, ft⟩ a cap, Vv n a1 t.len cap1 c1 ws.length cp1, Vv n' a2 t'.len cap2 c2 ws'.length cp2, .func (.func g) #[] lb] w fun e w' => e = .returned (.bool (RB ⟨5, fn, ft⟩ (n, t, ws) (n', t', ws'))) ∧ (∃ Y, Sub X Y ∧ (RB ⟨5, fn, ft⟩ (n, t, ws) (n', t', ws') = true → relV (tells Y) ⟨5, fn, ft⟩ (n, t, ws) (n', t', ws')) ∧ I Y w') ∧ Kept P w w' := by
 obtain ⟨W, hW⟩ : ∃ W : World, W = (((w.alloc (Obj.cells #[.int .i64 5, .int .i64 fn, .slice a ft.len cap] 24)).alloc (Obj.cells #[.int .i64 n, .slice a1 t.len cap1, .slice c1 ws.length cp1] 58)).alloc (Obj.cells #[.int .i64 n', .slice a2 t'.len cap2, .slice c2 ws'.length cp2] 58)).alloc (Obj.cells #[.func (.func g) #[] lb] 94) := ⟨_, rfl⟩
 have hx : Boxes w.heap.size ⟨5, fn, ft⟩ n n' t t' ws ws' a a1 a2 c1 c2 cap cap1 cap2 cp1 cp2 g lb W := boxes_made w hW
 have hWb : Below w.heap.size w W := by rw [hW]; exact (ba2 _ _ _).alloc (by simp; omega) _ |>.alloc (by simp; omega) _
 have hB := hA.lt X w hI
 have hIW : I X W := hA.same _ _ _ hI (hWb.mono hB)
 have hfl : 0 < ft.len := by
  have := (F.good_len hg).1
  simp only [arityOf] at this
  omega
 have hDA := decide_anyT ih hA hRB hIW (hs.below hWb) (hv.below hWb) (hv'.below hWb) hSP hSP' hg hu hu' (by simp only; omega) hx hB hfl
 have hm1 := okV_many hu rfl
 have hm2 := okV_many hu' rfl
 have hAI : AsIsT P I W X t.len t'.len (elD (ft.get 0) t t') (fun _ _ => false) W := ⟨X, Sub.refl _, hIW, Nat.le_refl _, fun _ _ _ => rfl, fun _ _ h => by cases h⟩
 have HRM := hid (remembered_anyT hDA (by omega) (by omega) W _ hAI)
 obtain ⟨bf, hbf⟩ : ∃ bf, bf = w.heap.size := ⟨_, rfl⟩
 rw [← hbf] at hx
 rw [← hbf] at HRM
 have HXB := hid hx
 have HWB := hid hWb
 have HBF := hid hbf
 have HA := hid hA
 have HRB := hid (hRB ⟨5, fn, ft⟩ (n, t, ws) (n', t', ws'))
 have HRE := hid (fun i j => hRB (ft.get 0) (t.el i) (t'.el j))
 have HBB := hid hB
 have hlt2 := hv.1
 have hlt3 := hv'.1
 have hnP : ∀ k, bf ≤ k → ¬ P k := fun k hk hp => by have := hA.pb k hp; omega
 have HNP := hid hnP
 obtain ⟨b0, b1, b2⟩ := cells_of hx.f
 obtain ⟨b3, b4, b5⟩ := cells_of hx.u
 obtain ⟨b6, b7, b8⟩ := cells_of hx.v
 simp only at b0 b1 b2
 clear hA hRB hI hs hv _hi hv' _hi' hSP hSP' hg hu hu' hx hWb hB hIW hfl hDA hAI ih hnP
 go_enter Tryz.func56, Tryz.ntmps56
 go_wp2_with fail
 rw [← hW, ← hbf]
 clear hW hbf
 refine HRM.out.mono ?_
 rintro e w1 ⟨lb1, P1, I1, rfl, hA1, hI1, hb1, hP1, hIm⟩
 have HA1 := hid hA1
 have HI11 := hid hI1
 have HB1 := hid hb1
 have HP1 := hid hP1
 have HIM := hid hIm
 have d0 := cell_below hb1 b0
 have d4 := cell_below hb1 b4
 have d7 := cell_below hb1 b7
 clear b0 b1 b2 b3 b4 b5 b6 b7 b8 hA1 hI1 hb1 hP1 hIm HRM
 go_wp2_with fail
 have hww : Below w.heap.size w w1 := HWB.out.trans (HB1.out.mono HWB.out.size)
 have HKW := hid (fun x' Y' (hI' : I1 Y' x') (hk' : Kept (Qk P1 w1.heap.size) w1 x') => (show (∃ X1, Sub X X1 ∧ I X1 x' ∧ ∀ i j, Y' i j = true → i < t.len ∧ elD (ft.get 0) t t' X1 i j) ∧ Kept P w x' from by
  obtain ⟨Z', hz, X1, x1, h1, h2, h3, h5⟩ := HIM.out Y' x' hI'
  exact ⟨⟨X1, x1, h1, fun i j h => ⟨(h5 i j (hz i j h)).1, (h5 i j (hz i j h)).2.2⟩⟩, hk'.os.trans hww.os, hk'.tape.trans hww.tape, hk'.output.trans hww.output, Nat.le_trans hww.size hk'.size, fun k hk hp => (h3 k (Nat.lt_of_lt_of_le hk HWB.out.size) hp).trans (HWB.out.block k hk)⟩))
 have HIFF := hid (show ((∀ i, i < t.len → ∃ j, j < t'.len ∧ RB (ft.get 0) (t.el i) (t'.el j) = true) ∧ ∀ j, j < t'.len → ∃ i, i < t.len ∧ RB (ft.get 0) (t.el i) (t'.el j) = true) ↔ RB ⟨5, fn, ft⟩ (n, t, ws) (n', t', ws') = true by
  rw [HRB.out]
  have h1 : relV (tells rel) ⟨5, fn, ft⟩ (n, t, ws) (n', t', ws') = ((∀ i, i < t.len → ∃ j, j < t'.len ∧ t.relE (tells rel) (fun _ => ft.get 0) i (t'.el j)) ∧ ∀ j, j < t'.len → ∃ i, i < t.len ∧ t.relE (tells rel) (fun _ => ft.get 0) i (t'.el j)) := by
   unfold relV nodeRel
   simp
  rw [h1]
  have h2 : ∀ i j, i < t.len → (RB (ft.get 0) (t.el i) (t'.el j) = true ↔ t.relE (tells rel) (fun _ => ft.get 0) i (t'.el j)) := fun i j hi => (HRE.out i j).trans (relE_el (fun _ => ft.get 0) (t'.el j) hi).symm
  constructor
  ·intro ⟨h3, h4⟩
   exact ⟨fun i hi => by obtain ⟨j, hj, h5⟩ := h3 i hi; exact ⟨j, hj, (h2 i j hi).1 h5⟩, fun j hj => by obtain ⟨i, hi, h5⟩ := h4 j hj; exact ⟨i, hi, (h2 i j hi).1 h5⟩⟩
  ·intro ⟨h3, h4⟩
   exact ⟨fun i hi => by obtain ⟨j, hj, h5⟩ := h3 i hi; exact ⟨j, hj, (h2 i j hi).2 h5⟩, fun j hj => by obtain ⟨i, hi, h5⟩ := h4 j hj; exact ⟨i, hi, (h2 i j hi).2 h5⟩⟩)
 have HCO := hid (cover_anyT HA1.out (by omega) (by omega) w1 _ HI11.out)
 clear hww
 refine HCO.out.mono ?_
 rintro e w2 ⟨Y2, r, rfl, ⟨hr, hr2⟩, ⟨hI2, _⟩, hk2⟩
 have HR2 := hid hr2
 have hre : r = RB ⟨5, fn, ft⟩ (n, t, ws) (n', t', ws') := by
  have h1 := hr.trans HIFF.out
  cases r <;> cases hq : RB ⟨5, fn, ft⟩ (n, t, ws) (n', t', ws') <;> simp_all
 have HRE2 := hid hre
 have HFIN := hid (HKW.out _ Y2 hI2 hk2)
 clear hr hI2 hk2 hre hr2
 go_wp2_with fail
 go_ret
 obtain ⟨⟨X1, x1, hI1, htk⟩, hkk⟩ := HFIN.out
 refine ⟨by rw [← HRE2.out]; rfl, ⟨X1, x1, fun h => ?_, hI1⟩, hkk⟩
 have h2 := HR2.out (by rw [HRE2.out]; exact h)
 exact rel5_of ⟨fun i hi => let ⟨j, hj, hr⟩ := h2.1 i hi; ⟨j, hj, (htk i j hr).2⟩, fun j hj => let ⟨i, hi, hr⟩ := h2.2 j hj; ⟨i, hi, (htk i j hr).2⟩⟩
theorem rel4_anyT {t : V} (ih : t.Elems RelOkT) {B : Nat} {P : Nat → Prop} {I : (Nat → Nat → Bool) → World → Prop} {X : Nat → Nat → Bool} {nn mm : Nat} {rel : Nat → Nat → Bool} {g : Nat} {lb : Array Value} {RB : F → Int × V × List Int → Int × V × List Int → Bool} {S : Nat → Nat → Prop} {S' : Nat → Prop}
    {fn : Int} {ft : T} {n n' : Int} {t' : V} {ws ws' : List Int} {a a1 a2 c1 c2 : Option Addr} {cap cap1 cap2 cp1 cp2 : Nat} {w : World}
    (hA : AsksT B P I nn mm rel g lb) (hRB : ∀ f u v, RB f u v = true ↔ relV (tells rel) f u v) (hI : I X w) (hs : Sl S w a ft) (hv : Vl S' w a1 t) (_hi : Ints S' w c1 ws) (hv' : Vl S' w a2 t') (_hi' : Ints S' w c2 ws') (hSP : ∀ b o, S b o → ¬ P b) (hSP' : ∀ b, S' b → ¬ P b)
    (hg : F.good ⟨4, fn, ft⟩ = true) (hu : okV nodeOk nn ⟨4, fn, ft⟩ n t ws = true) (hu' : okV nodeOk mm ⟨4, fn, ft⟩ n' t' ws' = true) :
    Calls Tryz.prog 56 #[F.val ⟨4, fn, ft⟩ a cap, Vv n a1 t.len cap1 c1 ws.length cp1, Vv n' a2 t'.len cap2 c2 ws'.length cp2, .func (.func g) #[] lb] w fun e w' => e = .returned (.bool (RB ⟨4, fn, ft⟩ (n, t, ws) (n', t', ws'))) ∧ (∃ Y, Sub X Y ∧ (RB ⟨4, fn, ft⟩ (n, t, ws) (n', t', ws') = true → relV (tells Y) ⟨4, fn, ft⟩ (n, t, ws) (n', t', ws')) ∧ I Y w') ∧ Kept P w w' := by
 obtain ⟨W, hW⟩ : ∃ W : World, W = (((w.alloc (Obj.cells #[.int .i64 4, .int .i64 fn, .slice a ft.len cap] 24)).alloc (Obj.cells #[.int .i64 n, .slice a1 t.len cap1, .slice c1 ws.length cp1] 58)).alloc (Obj.cells #[.int .i64 n', .slice a2 t'.len cap2, .slice c2 ws'.length cp2] 58)).alloc (Obj.cells #[.func (.func g) #[] lb] 94) := ⟨_, rfl⟩
 have hx : Boxes w.heap.size ⟨4, fn, ft⟩ n n' t t' ws ws' a a1 a2 c1 c2 cap cap1 cap2 cp1 cp2 g lb W := boxes_made w hW
 have hWb : Below w.heap.size w W := by rw [hW]; exact (ba2 _ _ _).alloc (by simp; omega) _ |>.alloc (by simp; omega) _
 have hB := hA.lt X w hI
 have hIW : I X W := hA.same _ _ _ hI (hWb.mono hB)
 have hfl : 0 < ft.len := by
  have := (F.good_len hg).1
  simp only [arityOf] at this
  omega
 have hDA := decide_anyT ih hA hRB hIW (hs.below hWb) (hv.below hWb) (hv'.below hWb) hSP hSP' hg hu hu' (by simp only; omega) hx hB hfl
 have hl1 : (t.len : Int) = fn := by have := okV_fields hu; unfold vFields argsOf at this; simp at this; omega
 have hl2 : (t'.len : Int) = fn := by have := okV_fields hu'; unfold vFields argsOf at this; simp at this; omega
 have hfn4 : fn ≤ 4 := by have := (F.good_len hg).2.2; simp only [mostOf] at this; simpa using this
 have hm1 : t.len ≤ 100 := by omega
 have hm2 : t'.len ≤ 100 := by omega
 have hAI : AsIsT P I W X t.len t'.len (elD (ft.get 0) t t') (fun _ _ => false) W := ⟨X, Sub.refl _, hIW, Nat.le_refl _, fun _ _ _ => rfl, fun _ _ h => by cases h⟩
 have HRM := hid (remembered_anyT hDA (by omega) (by omega) W _ hAI)
 obtain ⟨bf, hbf⟩ : ∃ bf, bf = w.heap.size := ⟨_, rfl⟩
 rw [← hbf] at hx
 rw [← hbf] at HRM
 have HXB := hid hx
 have HWB := hid hWb
 have HBF := hid hbf
 have HL1 := hid hl1
 have HL2 := hid hl2
 have HA := hid hA
 have HRB := hid (hRB ⟨4, fn, ft⟩ (n, t, ws) (n', t', ws'))
 have HRE := hid (fun i j => hRB (ft.get 0) (t.el i) (t'.el j))
 have HBB := hid hB
 have hlt2 := hv.1
 have hlt3 := hv'.1
 have hnP : ∀ k, bf ≤ k → ¬ P k := fun k hk hp => by have := hA.pb k hp; omega
 have HNP := hid hnP
 obtain ⟨b0, b1, b2⟩ := cells_of hx.f
 obtain ⟨b3, b4, b5⟩ := cells_of hx.u
 obtain ⟨b6, b7, b8⟩ := cells_of hx.v
 simp only at b0 b1 b2
 clear hA hRB hI hs hv _hi hv' _hi' hSP hSP' hg hu hu' hx hWb hB hIW hfl hDA hAI ih hnP hl1 hl2 hfn4
 go_enter Tryz.func56, Tryz.ntmps56
 go_wp2_with fail
 rw [← hW, ← hbf]
 clear hW hbf
 refine HRM.out.mono ?_
 rintro e w1 ⟨lb1, P1, I1, rfl, hA1, hI1, hb1, hP1, hIm⟩
 have HA1 := hid hA1
 have HI11 := hid hI1
 have HB1 := hid hb1
 have HP1 := hid hP1
 have HIM := hid hIm
 have d0 := cell_below hb1 b0
 have d1 := cell_below hb1 b1
 clear b0 b1 b2 b3 b4 b5 b6 b7 b8 hA1 hI1 hb1 hP1 hIm HRM
 go_wp2_with fail
 have hww : Below w.heap.size w w1 := HWB.out.trans (HB1.out.mono HWB.out.size)
 have HKW := hid (fun x' Y' (hI' : I1 Y' x') (hk' : Kept (Qk P1 w1.heap.size) w1 x') => (show (∃ X1, Sub X X1 ∧ I X1 x' ∧ ∀ i j, Y' i j = true → i < t.len ∧ elD (ft.get 0) t t' X1 i j) ∧ Kept P w x' from by
  obtain ⟨Z', hz, X1, x1, h1, h2, h3, h5⟩ := HIM.out Y' x' hI'
  exact ⟨⟨X1, x1, h1, fun i j h => ⟨(h5 i j (hz i j h)).1, (h5 i j (hz i j h)).2.2⟩⟩, hk'.os.trans hww.os, hk'.tape.trans hww.tape, hk'.output.trans hww.output, Nat.le_trans hww.size hk'.size, fun k hk hp => (h3 k (Nat.lt_of_lt_of_le hk HWB.out.size) hp).trans (HWB.out.block k hk)⟩))
 have HIFF := hid (show (∀ i, i < t.len → RB (ft.get 0) (t.el i) (t'.el i) = true) ↔ RB ⟨4, fn, ft⟩ (n, t, ws) (n', t', ws') = true by
  rw [HRB.out]
  have h1 : relV (tells rel) ⟨4, fn, ft⟩ (n, t, ws) (n', t', ws') = (∀ i, i < fn.toNat → t.relE (tells rel) (fun _ => ft.get 0) i (t'.el i)) := by
   unfold relV nodeRel
   simp
  rw [h1, show fn.toNat = t.len by have := HL1.out; omega]
  have h2 : ∀ i, i < t.len → (RB (ft.get 0) (t.el i) (t'.el i) = true ↔ t.relE (tells rel) (fun _ => ft.get 0) i (t'.el i)) := fun i hi => (HRE.out i i).trans (relE_el (fun _ => ft.get 0) (t'.el i) hi).symm
  exact ⟨fun h i hi => (h2 i hi).1 (h i hi), fun h i hi => (h2 i hi).2 (h i hi)⟩)
 have HSA := hid (show Calls Tryz.prog 97 #[.int .i64 fn, .func (.func 131) #[] lb1] w1 _ from (by rw [← HL1.out]; exact same_anyT t.len HA1.out (Nat.le_refl _) (by have := HL1.out; have := HL2.out; omega) (by omega) w1 _ HI11.out))
 clear hww
 refine HSA.out.mono ?_
 rintro e w2 ⟨Y2, r, rfl, ⟨hr, hr2⟩, ⟨hI2, _⟩, hk2⟩
 have HR2 := hid hr2
 have hre : r = RB ⟨4, fn, ft⟩ (n, t, ws) (n', t', ws') := by
  have h1 := hr.trans HIFF.out
  cases r <;> cases hq : RB ⟨4, fn, ft⟩ (n, t, ws) (n', t', ws') <;> simp_all
 have HRE2 := hid hre
 have HFIN := hid (HKW.out _ Y2 hI2 (hk2.mono (fun k _ h => Or.inl h)))
 clear hr hI2 hk2 hre hr2
 go_wp2_with fail
 go_ret
 obtain ⟨⟨X1, x1, hI1, htk⟩, hkk⟩ := HFIN.out
 refine ⟨by rw [← HRE2.out]; rfl, ⟨X1, x1, fun h => ?_, hI1⟩, hkk⟩
 have h2 := HR2.out (by rw [HRE2.out]; exact h)
 exact rel4_of HL1.out (fun i hi => (htk i i (h2 i hi)).2)
theorem rel0_anyT {t : V} {B : Nat} {P : Nat → Prop} {I : (Nat → Nat → Bool) → World → Prop} {X : Nat → Nat → Bool} {nn mm : Nat} {rel : Nat → Nat → Bool} {g : Nat} {lb : Array Value} {RB : F → Int × V × List Int → Int × V × List Int → Bool} {S : Nat → Nat → Prop} {S' : Nat → Prop}
    {fn : Int} {ft : T} {n n' : Int} {t' : V} {ws ws' : List Int} {a a1 a2 c1 c2 : Option Addr} {cap cap1 cap2 cp1 cp2 : Nat} {w : World}
    (hA : AsksT B P I nn mm rel g lb) (hRB : ∀ f u v, RB f u v = true ↔ relV (tells rel) f u v) (hI : I X w) (_hs : Sl S w a ft) (_hv : Vl S' w a1 t) (_hi : Ints S' w c1 ws) (_hv' : Vl S' w a2 t') (_hi' : Ints S' w c2 ws') (_hSP : ∀ b o, S b o → ¬ P b) (_hSP' : ∀ b, S' b → ¬ P b)
    (_hg : F.good ⟨0, fn, ft⟩ = true) (hu : okV nodeOk nn ⟨0, fn, ft⟩ n t ws = true) (hu' : okV nodeOk mm ⟨0, fn, ft⟩ n' t' ws' = true) :
    Calls Tryz.prog 56 #[F.val ⟨0, fn, ft⟩ a cap, Vv n a1 t.len cap1 c1 ws.length cp1, Vv n' a2 t'.len cap2 c2 ws'.length cp2, .func (.func g) #[] lb] w fun e w' => e = .returned (.bool (RB ⟨0, fn, ft⟩ (n, t, ws) (n', t', ws'))) ∧ (∃ Y, Sub X Y ∧ (RB ⟨0, fn, ft⟩ (n, t, ws) (n', t', ws') = true → relV (tells Y) ⟨0, fn, ft⟩ (n, t, ws) (n', t', ws')) ∧ I Y w') ∧ Kept P w w' := by
 obtain ⟨W, hW⟩ : ∃ W : World, W = (((w.alloc (Obj.cells #[.int .i64 0, .int .i64 fn, .slice a ft.len cap] 24)).alloc (Obj.cells #[.int .i64 n, .slice a1 t.len cap1, .slice c1 ws.length cp1] 58)).alloc (Obj.cells #[.int .i64 n', .slice a2 t'.len cap2, .slice c2 ws'.length cp2] 58)).alloc (Obj.cells #[.func (.func g) #[] lb] 94) := ⟨_, rfl⟩
 have hx : Boxes w.heap.size ⟨0, fn, ft⟩ n n' t t' ws ws' a a1 a2 c1 c2 cap cap1 cap2 cp1 cp2 g lb W := boxes_made w hW
 have hWb : Below w.heap.size w W := by rw [hW]; exact (ba2 _ _ _).alloc (by simp; omega) _ |>.alloc (by simp; omega) _
 have hB := hA.lt X w hI
 have hIW : I X W := hA.same _ _ _ hI (hWb.mono hB)
 have f1 := okV_fields hu
 have f2 := okV_fields hu'
 have hn : 0 ≤ n ∧ n < nn := by unfold vFields numbersOf at f1; simp at f1; omega
 have hn' : 0 ≤ n' ∧ n' < mm := by unfold vFields numbersOf at f2; simp at f2; omega
 have eg := hA.eg
 obtain ⟨x, hxn⟩ : ∃ x : Nat, n = x := ⟨n.toNat, by omega⟩
 obtain ⟨y, hyn⟩ : ∃ y : Nat, n' = y := ⟨n'.toNat, by omega⟩
 subst hxn
 subst hyn
 have hcall := hA.call X x y W (by omega) (by omega) hIW
 have HRE := hid (show rel x y = RB ⟨0, fn, ft⟩ ((x : Int), t, ws) ((y : Int), t', ws') by
  have h1 := hRB ⟨0, fn, ft⟩ ((x : Int), t, ws) ((y : Int), t', ws')
  have h2 : relV (tells rel) ⟨0, fn, ft⟩ ((x : Int), t, ws) ((y : Int), t', ws') = (rel x y = true) := by unfold relV nodeRel tells; simp
  rw [h2] at h1
  cases hq : RB ⟨0, fn, ft⟩ ((x : Int), t, ws) ((y : Int), t', ws') <;> cases hr : rel x y <;> simp_all)
 obtain ⟨b0, b1, b2⟩ := cells_of hx.f
 obtain ⟨b3, b4, b5⟩ := cells_of hx.u
 obtain ⟨b6, b7, b8⟩ := cells_of hx.v
 have b9 := cell_of1 hx.i
 simp only at b0 b1 b2
 obtain ⟨bf, hbf⟩ : ∃ bf, bf = w.heap.size := ⟨_, rfl⟩
 rw [← hbf] at b0 b1 b2 b3 b4 b5 b6 b7 b8 b9
 have HWB := hid hWb
 clear hA hRB hI _hs _hv _hi _hv' _hi' _hSP _hSP' _hg hu hu' hx hWb hB hIW f1 f2 hn hn'
 go_enter Tryz.func56, Tryz.ntmps56
 go_wp2_with fail
 rw [← hW, ← hbf]
 clear hW hbf
 go_wp2_with (go_at_fn g; refine hcall.mono ?_; rintro e w2 ⟨rfl, ⟨Y2, hs2, ht2, hI2⟩, hk2⟩)
 go_ret
 exact ⟨by rw [← HRE.out]; rfl, ⟨Y2, hs2, fun h => by (unfold relV nodeRel tells; simpa using ht2 (by rw [HRE.out]; exact h)), hI2⟩, (Kept.ofBelow HWB.out).trans hk2⟩
theorem rel1_anyT {t : V} {B : Nat} {P : Nat → Prop} {I : (Nat → Nat → Bool) → World → Prop} {X : Nat → Nat → Bool} {nn mm : Nat} {rel : Nat → Nat → Bool} {g : Nat} {lb : Array Value} {RB : F → Int × V × List Int → Int × V × List Int → Bool} {S : Nat → Nat → Prop} {S' : Nat → Prop}
    {fn : Int} {ft : T} {n n' : Int} {t' : V} {ws ws' : List Int} {a a1 a2 c1 c2 : Option Addr} {cap cap1 cap2 cp1 cp2 : Nat} {w : World}
    (hA : AsksT B P I nn mm rel g lb) (hRB : ∀ f u v, RB f u v = true ↔ relV (tells rel) f u v) (hI : I X w) (_hs : Sl S w a ft) (_hv : Vl S' w a1 t) (_hi : Ints S' w c1 ws) (_hv' : Vl S' w a2 t') (_hi' : Ints S' w c2 ws') (_hSP : ∀ b o, S b o → ¬ P b) (_hSP' : ∀ b, S' b → ¬ P b)
    (_hg : F.good ⟨1, fn, ft⟩ = true) (_hu : okV nodeOk nn ⟨1, fn, ft⟩ n t ws = true) (_hu' : okV nodeOk mm ⟨1, fn, ft⟩ n' t' ws' = true) :
    Calls Tryz.prog 56 #[F.val ⟨1, fn, ft⟩ a cap, Vv n a1 t.len cap1 c1 ws.length cp1, Vv n' a2 t'.len cap2 c2 ws'.length cp2, .func (.func g) #[] lb] w fun e w' => e = .returned (.bool (RB ⟨1, fn, ft⟩ (n, t, ws) (n', t', ws'))) ∧ (∃ Y, Sub X Y ∧ (RB ⟨1, fn, ft⟩ (n, t, ws) (n', t', ws') = true → relV (tells Y) ⟨1, fn, ft⟩ (n, t, ws) (n', t', ws')) ∧ I Y w') ∧ Kept P w w' := by
 obtain ⟨W, hW⟩ : ∃ W : World, W = (((w.alloc (Obj.cells #[.int .i64 1, .int .i64 fn, .slice a ft.len cap] 24)).alloc (Obj.cells #[.int .i64 n, .slice a1 t.len cap1, .slice c1 ws.length cp1] 58)).alloc (Obj.cells #[.int .i64 n', .slice a2 t'.len cap2, .slice c2 ws'.length cp2] 58)).alloc (Obj.cells #[.func (.func g) #[] lb] 94) := ⟨_, rfl⟩
 have hx : Boxes w.heap.size ⟨1, fn, ft⟩ n n' t t' ws ws' a a1 a2 c1 c2 cap cap1 cap2 cp1 cp2 g lb W := boxes_made w hW
 have hWb : Below w.heap.size w W := by rw [hW]; exact (ba2 _ _ _).alloc (by simp; omega) _ |>.alloc (by simp; omega) _
 have hB := hA.lt X w hI
 have hIW : I X W := hA.same _ _ _ hI (hWb.mono hB)
 have HRE := hid (show (n == n') = RB ⟨1, fn, ft⟩ (n, t, ws) (n', t', ws') by
  have h1 := hRB ⟨1, fn, ft⟩ (n, t, ws) (n', t', ws')
  have h2 : relV (tells rel) ⟨1, fn, ft⟩ (n, t, ws) (n', t', ws') = (n = n') := by unfold relV nodeRel; simp
  rw [h2] at h1
  by_cases hr : n = n'
  ·rw [h1.2 hr, hr]; simp
  ·have h3 : ¬ RB ⟨1, fn, ft⟩ (n, t, ws) (n', t', ws') = true := fun h => hr (h1.1 h)
   rw [Bool.not_eq_true] at h3
   rw [h3]; simpa using hr)
 obtain ⟨b0, b1, b2⟩ := cells_of hx.f
 obtain ⟨b3, b4, b5⟩ := cells_of hx.u
 obtain ⟨b6, b7, b8⟩ := cells_of hx.v
 simp only at b0 b1 b2
 obtain ⟨bf, hbf⟩ : ∃ bf, bf = w.heap.size := ⟨_, rfl⟩
 rw [← hbf] at b0 b1 b2 b3 b4 b5 b6 b7 b8
 have HWB := hid hWb
 have HIW := hid hIW
 have HRX := hid (show RB ⟨1, fn, ft⟩ (n, t, ws) (n', t', ws') = true → relV (tells X) ⟨1, fn, ft⟩ (n, t, ws) (n', t', ws') from fun h => by have h1 := (hRB _ _ _).1 h; unfold relV nodeRel at h1 ⊢; simpa using h1)
 clear hA hRB hI _hs _hv _hi _hv' _hi' _hSP _hSP' _hg _hu _hu' hx hWb hB hIW
 go_enter Tryz.func56, Tryz.ntmps56
 go_wp2_with fail
 rw [← hW, ← hbf]
 clear hW hbf
 go_wp2_with fail
 go_ret
 exact ⟨by rw [← HRE.out]; rfl, ⟨X, Sub.refl _, HRX.out, HIW.out⟩, Kept.ofBelow HWB.out⟩
theorem rel30_anyT {t : V} (ih : t.Elems RelOkT) {B : Nat} {P : Nat → Prop} {I : (Nat → Nat → Bool) → World → Prop} {X : Nat → Nat → Bool} {nn mm : Nat} {rel : Nat → Nat → Bool} {g : Nat} {lb : Array Value} {RB : F → Int × V × List Int → Int × V × List Int → Bool} {S : Nat → Nat → Prop} {S' : Nat → Prop}
    {fn : Int} {ft : T} {n' : Int} {t' : V} {ws ws' : List Int} {a a1 a2 c1 c2 : Option Addr} {cap cap1 cap2 cp1 cp2 : Nat} {w : World}
    (hA : AsksT B P I nn mm rel g lb) (hRB : ∀ f u v, RB f u v = true ↔ relV (tells rel) f u v) (hI : I X w) (hs : Sl S w a ft) (hv : Vl S' w a1 t) (_hi : Ints S' w c1 ws) (hv' : Vl S' w a2 t') (_hi' : Ints S' w c2 ws') (hSP : ∀ b o, S b o → ¬ P b) (hSP' : ∀ b, S' b → ¬ P b)
    (hg : F.good ⟨3, fn, ft⟩ = true) (hu : okV nodeOk nn ⟨3, fn, ft⟩ 0 t ws = true) (hu' : okV nodeOk mm ⟨3, fn, ft⟩ n' t' ws' = true) :
    Calls Tryz.prog 56 #[F.val ⟨3, fn, ft⟩ a cap, Vv 0 a1 t.len cap1 c1 ws.length cp1, Vv n' a2 t'.len cap2 c2 ws'.length cp2, .func (.func g) #[] lb] w fun e w' => e = .returned (.bool (RB ⟨3, fn, ft⟩ (0, t, ws) (n', t', ws'))) ∧ (∃ Y, Sub X Y ∧ (RB ⟨3, fn, ft⟩ (0, t, ws) (n', t', ws') = true → relV (tells Y) ⟨3, fn, ft⟩ (0, t, ws) (n', t', ws')) ∧ I Y w') ∧ Kept P w w' := by
 obtain ⟨W, hW⟩ : ∃ W : World, W = (((w.alloc (Obj.cells #[.int .i64 3, .int .i64 fn, .slice a ft.len cap] 24)).alloc (Obj.cells #[.int .i64 0, .slice a1 t.len cap1, .slice c1 ws.length cp1] 58)).alloc (Obj.cells #[.int .i64 n', .slice a2 t'.len cap2, .slice c2 ws'.length cp2] 58)).alloc (Obj.cells #[.func (.func g) #[] lb] 94) := ⟨_, rfl⟩
 have hx : Boxes w.heap.size ⟨3, fn, ft⟩ 0 n' t t' ws ws' a a1 a2 c1 c2 cap cap1 cap2 cp1 cp2 g lb W := boxes_made w hW
 have hWb : Below w.heap.size w W := by rw [hW]; exact (ba2 _ _ _).alloc (by simp; omega) _ |>.alloc (by simp; omega) _
 have hB := hA.lt X w hI
 have hIW : I X W := hA.same _ _ _ hI (hWb.mono hB)
 have f1 := okV_fields hu
 have f2 := okV_fields hu'
 have hfl : ft.len = 2 := by
  have := (F.good_len hg).1
  simp only [arityOf] at this
  omega
 have hl1 : t.len = 1 := by unfold vFields argsOf at f1; simp at f1; omega
 have hl2 : t'.len = 1 := by unfold vFields argsOf at f2; simp at f2; omega
 obtain ⟨fb, fo, fa0, fc0, rfl, hfb, f00, f01, f02, hfs0⟩ := (hs.below hWb).at (i := 0) (by first | omega | (simp only; omega))
 simp only [Nat.mul_zero, Nat.add_zero] at f00 f01 f02
 obtain ⟨g0, hg0⟩ : ∃ g0 : F, g0 = ft.get 0 := ⟨_, rfl⟩
 rw [← hg0] at f00 f01 f02 hfs0
 obtain ⟨ub, uo, ua0, uc0, uw0, ud0, rfl, hub, u00, u01, u02, hus0, hui0⟩ := (hv.below hWb).el (i := 0) (by omega)
 simp only [Nat.zero_mul, Nat.add_zero] at u00 u01 u02
 obtain ⟨nu0, hnu0⟩ : ∃ x, x = (t.el 0).1 := ⟨_, rfl⟩
 obtain ⟨ku0, hku0⟩ : ∃ x, x = (t.el 0).2.1 := ⟨_, rfl⟩
 obtain ⟨wu0, hwu0⟩ : ∃ x, x = (t.el 0).2.2 := ⟨_, rfl⟩
 have eeu0 : t.el 0 = (nu0, ku0, wu0) := by rw [hnu0, hku0, hwu0]
 rw [← hnu0] at u00
 rw [← hku0] at u01 hus0
 rw [← hwu0] at u02 hui0
 obtain ⟨vb, vo, va0, vc0, vw0, vd0, rfl, hvb, v00, v01, v02, hvs0, hvi0⟩ := (hv'.below hWb).el (i := 0) (by omega)
 simp only [Nat.zero_mul, Nat.add_zero] at v00 v01 v02
 obtain ⟨nv0, hnv0⟩ : ∃ x, x = (t'.el 0).1 := ⟨_, rfl⟩
 obtain ⟨kv0, hkv0⟩ : ∃ x, x = (t'.el 0).2.1 := ⟨_, rfl⟩
 obtain ⟨wv0, hwv0⟩ : ∃ x, x = (t'.el 0).2.2 := ⟨_, rfl⟩
 have eev0 : t'.el 0 = (nv0, kv0, wv0) := by rw [hnv0, hkv0, hwv0]
 rw [← hnv0] at v00
 rw [← hkv0] at v01 hvs0
 rw [← hwv0] at v02 hvi0
 have HRELX := hid (fun (Y : Nat → Nat → Bool) => (show relV (tells Y) ⟨3, fn, ft⟩ (0, t, ws) (n', t', ws') ↔ 0 = n' ∧ relV (tells Y) g0 (nu0, ku0, wu0) (nv0, kv0, wv0) by
  have h2 : relV (tells Y) ⟨3, fn, ft⟩ (0, t, ws) (n', t', ws') = (0 = n' ∧ t.relE (tells Y) (fun _ => ft.get 0) 0 (t'.el 0)) := by unfold relV nodeRel; simp
  rw [h2, relE_el (fun _ => ft.get 0) (t'.el 0) (by omega), eeu0, eev0, hg0]))
 have HREL := hid (show relV (tells rel) ⟨3, fn, ft⟩ (0, t, ws) (n', t', ws') ↔ 0 = n' ∧ RB g0 (nu0, ku0, wu0) (nv0, kv0, wv0) = true by
  have h2 : relV (tells rel) ⟨3, fn, ft⟩ (0, t, ws) (n', t', ws') = (0 = n' ∧ t.relE (tells rel) (fun _ => ft.get 0) 0 (t'.el 0)) := by unfold relV nodeRel; simp
  rw [h2, relE_el (fun _ => ft.get 0) (t'.el 0) (by omega), ← hRB, eeu0, eev0, hg0])
 have HRB := hid (hRB ⟨3, fn, ft⟩ (0, t, ws) (n', t', ws'))
 have hp1 : 0 < t.len := by omega
 have hp2 : 0 < t'.len := by omega
 have hp3 : 1 < ft.len := by omega
 have hp5 : (1 : Int) < (ft.len : Int) := by omega
 have hp4 : 0 < ft.len := by omega
 obtain ⟨b0, b1, b2⟩ := cells_of hx.f
 obtain ⟨b3, b4, b5⟩ := cells_of hx.u
 obtain ⟨b6, b7, b8⟩ := cells_of hx.v
 have b9 := cell_of1 hx.i
 simp only at b0 b1 b2
 obtain ⟨bf, hbf⟩ : ∃ bf, bf = w.heap.size := ⟨_, rfl⟩
 rw [← hbf] at b0 b1 b2 b3 b4 b5 b6 b7 b8 b9
 have hnP : ∀ k, bf ≤ k → ¬ P k := fun k hk hp => by have := hA.pb k hp; omega
 have HNP := hid (show ¬ P bf ∧ ¬ P (bf + 1) ∧ ¬ P (bf + 2) ∧ ¬ P (bf + 3) from ⟨hnP _ (by omega), hnP _ (by omega), hnP _ (by omega), hnP _ (by omega)⟩)
 have HNQ := hid (show ¬ P fb ∧ ¬ P ub ∧ ¬ P vb from ⟨hSP _ _ hfb, hSP' _ hub, hSP' _ hvb⟩)
 have HWB := hid hWb
 have HA := hid hA
 have HIW := hid hIW
 by_cases hnn : ((0 : Int)) = n'
 rotate_left
 ·have HF := hid (show RB ⟨3, fn, ft⟩ (0, t, ws) (n', t', ws') = false by
   cases hq : RB ⟨3, fn, ft⟩ (0, t, ws) (n', t', ws')
   ·rfl
   ·exact absurd ((HREL.out.1 (HRB.out.1 hq)).1) hnn)
  have hnb : (((0 : Int)) == n') = false := by simpa using hnn
  have HNN := hid hnn
  clear hnn
  clear hA hRB hI hs hv _hi hv' _hi' hSP hSP' hg hu hu' hx hWb hB hIW f1 f2 hl1 hl2 hfl hnP ih hfs0 hus0 hui0 hvs0 hvi0 hg0 hnu0 hku0 hwu0 hnv0 hkv0 hwv0 eeu0 eev0
  go_enter Tryz.func56, Tryz.ntmps56
  go_wp2_with fail
  rw [← hW, ← hbf]
  clear hW hbf
  go_wp2_with fail
  go_quiet (fail)
  go_wp2_with fail
  go_ret
  exact ⟨by rw [HF.out]; rfl, ⟨X, Sub.refl _, fun h => by (rw [HF.out] at h; cases h), HA.out.drewN HIW.out⟩, (Kept.ofBelow HWB.out).drewN⟩
 subst hnn
 have IH0 : RelOkT ku0 := by
  obtain ⟨n1, k1, ws1, r1, hd, _⟩ := V.drop_lt (t := t) (i := 0) (by omega)
  have h := ih 0 n1 k1 ws1 r1 hd
  rw [hku0, V.el_drop hd]
  exact h
 have oku0 : okV nodeOk nn g0 nu0 ku0 wu0 = true := by
  have h := ok_el hu (i := 0) (by omega)
  rw [hnu0, hku0, hwu0, hg0]
  simpa [F.part] using h
 have okv0 : okV nodeOk mm g0 nv0 kv0 wv0 = true := by
  have h := ok_el hu' (i := 0) (by omega)
  rw [hnv0, hkv0, hwv0, hg0]
  simpa [F.part] using h
 have hgp0 : g0.good = true := by
  have h := good_part hg (okV_fields hu) (i := 0) (by omega)
  rw [hg0]
  simpa [F.part] using h
 have HCL0 := hid (fun y (hk : Kept P W y) (hIy : I X y) => IH0 B P I nn mm rel g lb RB S S' g0 nu0 nv0 kv0 wu0 wv0 fa0 ua0 va0 uw0 vw0 fc0 uc0 vc0 ud0 vd0 y X hA hRB hIy (hfs0.keptP hk hSP) (hus0.keptP hk hSP') (hui0.keptP hk hSP') (hvs0.keptP hk hSP') (hvi0.keptP hk hSP') hSP hSP' hgp0 oku0 okv0)
 have HF := hid (show RB g0 (nu0, ku0, wu0) (nv0, kv0, wv0) = RB ⟨3, fn, ft⟩ (0, t, ws) (0, t', ws') by
  have h1 := HRB.out.trans HREL.out
  exact Bool.eq_iff_iff.2 (h1.trans ⟨fun h => h.2, fun h => ⟨rfl, h⟩⟩).symm)
 clear hA hRB hI hs hv _hi hv' _hi' hSP hSP' hg hu hu' hx hWb hB hIW f1 f2 hl1 hl2 hfl hnP ih hfs0 hus0 hui0 hvs0 hvi0 hg0 hnu0 hku0 hwu0 hnv0 hkv0 hwv0 eeu0 eev0 IH0 oku0 okv0 hgp0
 go_enter Tryz.func56, Tryz.ntmps56
 go_wp2_with fail
 rw [← hW, ← hbf]
 clear hW hbf
 go_wp2_with fail
 go_region_held3 (fun x : World => x.cell? ⟨bf, 2, none⟩ = some (.slice (some ⟨fb, fo, none⟩) ft.len cap) ∧ x.cell? ⟨bf + 1, 0, none⟩ = some (.int .i64 0) ∧ x.cell? ⟨bf + 1, 1, none⟩ = some (.slice (some ⟨ub, uo, none⟩) t.len cap1) ∧ x.cell? ⟨bf + 2, 0, none⟩ = some (.int .i64 0) ∧ x.cell? ⟨bf + 2, 1, none⟩ = some (.slice (some ⟨vb, vo, none⟩) t'.len cap2) ∧ x.cell? ⟨bf + 3, 0, none⟩ = some (.func (.func g) #[] lb) ∧ x.cell? ⟨fb, fo, none⟩ = some (.int .i64 g0.k) ∧ x.cell? ⟨fb, fo + 1, none⟩ = some (.int .i64 g0.n) ∧ x.cell? ⟨fb, fo + 2, none⟩ = some (.slice fa0 g0.t.len fc0) ∧ x.cell? ⟨ub, uo, none⟩ = some (.int .i64 nu0) ∧ x.cell? ⟨ub, uo + 1, none⟩ = some (.slice ua0 ku0.len uc0) ∧ x.cell? ⟨ub, uo + 2, none⟩ = some (.slice uw0 wu0.length ud0) ∧ x.cell? ⟨vb, vo, none⟩ = some (.int .i64 nv0) ∧ x.cell? ⟨vb, vo + 1, none⟩ = some (.slice va0 kv0.len vc0) ∧ x.cell? ⟨vb, vo + 2, none⟩ = some (.slice vw0 wv0.length vd0)) (first | exact ⟨b2, b3, b4, b6, b7, b9, f00, f01, f02, u00, u01, u02, v00, v01, v02⟩ | fail) (first | (go_at_call 56; refine (HCL0.out _ ((Kept.refl _ _).drewN) (HA.out.drewN HIW.out)).mono ?_; rintro e w2 ⟨rfl, ⟨Y2, hs2, ht2, hI2⟩, hk2⟩; have HS2 := hid hs2; have HT2 := hid ht2; replace b2 := hk2.cell HNP.out.1 b2; replace b3 := hk2.cell HNP.out.2.1 b3; replace b4 := hk2.cell HNP.out.2.1 b4; replace b6 := hk2.cell HNP.out.2.2.1 b6; replace b7 := hk2.cell HNP.out.2.2.1 b7; replace b9 := hk2.cell HNP.out.2.2.2 b9; replace f00 := hk2.cell HNQ.out.1 f00; replace f01 := hk2.cell HNQ.out.1 f01; replace f02 := hk2.cell HNQ.out.1 f02; replace u00 := hk2.cell HNQ.out.2.1 u00; replace u01 := hk2.cell HNQ.out.2.1 u01; replace u02 := hk2.cell HNQ.out.2.1 u02; replace v00 := hk2.cell HNQ.out.2.2 v00; replace v01 := hk2.cell HNQ.out.2.2 v01; replace v02 := hk2.cell HNQ.out.2.2 v02; have HI2 := hid hI2; have HK2 := hid hk2; clear hI2 hk2 hs2 ht2) | fail)
 go_wp2_with fail
 go_ret
 exact ⟨by rw [← HF.out]; rfl, ⟨Y2, HS2.out, fun h => (HRELX.out Y2).2 ⟨by first | trivial | rfl, HT2.out (by rw [HF.out]; exact h)⟩, HI2.out⟩, ((Kept.ofBelow HWB.out).drewN).trans HK2.out⟩
theorem rel31_anyT {t : V} (ih : t.Elems RelOkT) {B : Nat} {P : Nat → Prop} {I : (Nat → Nat → Bool) → World → Prop} {X : Nat → Nat → Bool} {nn mm : Nat} {rel : Nat → Nat → Bool} {g : Nat} {lb : Array Value} {RB : F → Int × V × List Int → Int × V × List Int → Bool} {S : Nat → Nat → Prop} {S' : Nat → Prop}
    {fn : Int} {ft : T} {n' : Int} {t' : V} {ws ws' : List Int} {a a1 a2 c1 c2 : Option Addr} {cap cap1 cap2 cp1 cp2 : Nat} {w : World}
    (hA : AsksT B P I nn mm rel g lb) (hRB : ∀ f u v, RB f u v = true ↔ relV (tells rel) f u v) (hI : I X w) (hs : Sl S w a ft) (hv : Vl S' w a1 t) (_hi : Ints S' w c1 ws) (hv' : Vl S' w a2 t') (_hi' : Ints S' w c2 ws') (hSP : ∀ b o, S b o → ¬ P b) (hSP' : ∀ b, S' b → ¬ P b)
    (hg : F.good ⟨3, fn, ft⟩ = true) (hu : okV nodeOk nn ⟨3, fn, ft⟩ 1 t ws = true) (hu' : okV nodeOk mm ⟨3, fn, ft⟩ n' t' ws' = true) :
    Calls Tryz.prog 56 #[F.val ⟨3, fn, ft⟩ a cap, Vv 1 a1 t.len cap1 c1 ws.length cp1, Vv n' a2 t'.len cap2 c2 ws'.length cp2, .func (.func g) #[] lb] w fun e w' => e = .returned (.bool (RB ⟨3, fn, ft⟩ (1, t, ws) (n', t', ws'))) ∧ (∃ Y, Sub X Y ∧ (RB ⟨3, fn, ft⟩ (1, t, ws) (n', t', ws') = true → relV (tells Y) ⟨3, fn, ft⟩ (1, t, ws) (n', t', ws')) ∧ I Y w') ∧ Kept P w w' := by
 obtain ⟨W, hW⟩ : ∃ W : World, W = (((w.alloc (Obj.cells #[.int .i64 3, .int .i64 fn, .slice a ft.len cap] 24)).alloc (Obj.cells #[.int .i64 1, .slice a1 t.len cap1, .slice c1 ws.length cp1] 58)).alloc (Obj.cells #[.int .i64 n', .slice a2 t'.len cap2, .slice c2 ws'.length cp2] 58)).alloc (Obj.cells #[.func (.func g) #[] lb] 94) := ⟨_, rfl⟩
 have hx : Boxes w.heap.size ⟨3, fn, ft⟩ 1 n' t t' ws ws' a a1 a2 c1 c2 cap cap1 cap2 cp1 cp2 g lb W := boxes_made w hW
 have hWb : Below w.heap.size w W := by rw [hW]; exact (ba2 _ _ _).alloc (by simp; omega) _ |>.alloc (by simp; omega) _
 have hB := hA.lt X w hI
 have hIW : I X W := hA.same _ _ _ hI (hWb.mono hB)
 have f1 := okV_fields hu
 have f2 := okV_fields hu'
 have hfl : ft.len = 2 := by
  have := (F.good_len hg).1
  simp only [arityOf] at this
  omega
 have hl1 : t.len = 1 := by unfold vFields argsOf at f1; simp at f1; omega
 have hl2 : t'.len = 1 := by unfold vFields argsOf at f2; simp at f2; omega
 obtain ⟨fb, fo, fa1, fc1, rfl, hfb, f10, f11, f12, hfs1⟩ := (hs.below hWb).at (i := 1) (by first | omega | (simp only; omega))
 simp only [Nat.mul_one, Nat.add_assoc, Nat.reduceAdd] at f10 f11 f12
 obtain ⟨g1, hg1⟩ : ∃ g1 : F, g1 = ft.get 1 := ⟨_, rfl⟩
 rw [← hg1] at f10 f11 f12 hfs1
 obtain ⟨ub, uo, ua0, uc0, uw0, ud0, rfl, hub, u00, u01, u02, hus0, hui0⟩ := (hv.below hWb).el (i := 0) (by omega)
 simp only [Nat.zero_mul, Nat.add_zero] at u00 u01 u02
 obtain ⟨nu0, hnu0⟩ : ∃ x, x = (t.el 0).1 := ⟨_, rfl⟩
 obtain ⟨ku0, hku0⟩ : ∃ x, x = (t.el 0).2.1 := ⟨_, rfl⟩
 obtain ⟨wu0, hwu0⟩ : ∃ x, x = (t.el 0).2.2 := ⟨_, rfl⟩
 have eeu0 : t.el 0 = (nu0, ku0, wu0) := by rw [hnu0, hku0, hwu0]
 rw [← hnu0] at u00
 rw [← hku0] at u01 hus0
 rw [← hwu0] at u02 hui0
 obtain ⟨vb, vo, va0, vc0, vw0, vd0, rfl, hvb, v00, v01, v02, hvs0, hvi0⟩ := (hv'.below hWb).el (i := 0) (by omega)
 simp only [Nat.zero_mul, Nat.add_zero] at v00 v01 v02
 obtain ⟨nv0, hnv0⟩ : ∃ x, x = (t'.el 0).1 := ⟨_, rfl⟩
 obtain ⟨kv0, hkv0⟩ : ∃ x, x = (t'.el 0).2.1 := ⟨_, rfl⟩
 obtain ⟨wv0, hwv0⟩ : ∃ x, x = (t'.el 0).2.2 := ⟨_, rfl⟩
 have eev0 : t'.el 0 = (nv0, kv0, wv0) := by rw [hnv0, hkv0, hwv0]
 rw [← hnv0] at v00
 rw [← hkv0] at v01 hvs0
 rw [← hwv0] at v02 hvi0
 have HRELX := hid (fun (Y : Nat → Nat → Bool) => (show relV (tells Y) ⟨3, fn, ft⟩ (1, t, ws) (n', t', ws') ↔ 1 = n' ∧ relV (tells Y) g1 (nu0, ku0, wu0) (nv0, kv0, wv0) by
  have h2 : relV (tells Y) ⟨3, fn, ft⟩ (1, t, ws) (n', t', ws') = (1 = n' ∧ t.relE (tells Y) (fun _ => ft.get 1) 0 (t'.el 0)) := by unfold relV nodeRel; simp
  rw [h2, relE_el (fun _ => ft.get 1) (t'.el 0) (by omega), eeu0, eev0, hg1]))
 have HREL := hid (show relV (tells rel) ⟨3, fn, ft⟩ (1, t, ws) (n', t', ws') ↔ 1 = n' ∧ RB g1 (nu0, ku0, wu0) (nv0, kv0, wv0) = true by
  have h2 : relV (tells rel) ⟨3, fn, ft⟩ (1, t, ws) (n', t', ws') = (1 = n' ∧ t.relE (tells rel) (fun _ => ft.get 1) 0 (t'.el 0)) := by unfold relV nodeRel; simp
  rw [h2, relE_el (fun _ => ft.get 1) (t'.el 0) (by omega), ← hRB, eeu0, eev0, hg1])
 have HRB := hid (hRB ⟨3, fn, ft⟩ (1, t, ws) (n', t', ws'))
 have hp1 : 0 < t.len := by omega
 have hp2 : 0 < t'.len := by omega
 have hp3 : 1 < ft.len := by omega
 have hp5 : (1 : Int) < (ft.len : Int) := by omega
 have hp4 : 0 < ft.len := by omega
 obtain ⟨b0, b1, b2⟩ := cells_of hx.f
 obtain ⟨b3, b4, b5⟩ := cells_of hx.u
 obtain ⟨b6, b7, b8⟩ := cells_of hx.v
 have b9 := cell_of1 hx.i
 simp only at b0 b1 b2
 obtain ⟨bf, hbf⟩ : ∃ bf, bf = w.heap.size := ⟨_, rfl⟩
 rw [← hbf] at b0 b1 b2 b3 b4 b5 b6 b7 b8 b9
 have hnP : ∀ k, bf ≤ k → ¬ P k := fun k hk hp => by have := hA.pb k hp; omega
 have HNP := hid (show ¬ P bf ∧ ¬ P (bf + 1) ∧ ¬ P (bf + 2) ∧ ¬ P (bf + 3) from ⟨hnP _ (by omega), hnP _ (by omega), hnP _ (by omega), hnP _ (by omega)⟩)
 have HNQ := hid (show ¬ P fb ∧ ¬ P ub ∧ ¬ P vb from ⟨hSP _ _ hfb, hSP' _ hub, hSP' _ hvb⟩)
 have HWB := hid hWb
 have HA := hid hA
 have HIW := hid hIW
 by_cases hnn : ((1 : Int)) = n'
 rotate_left
 ·have HF := hid (show RB ⟨3, fn, ft⟩ (1, t, ws) (n', t', ws') = false by
   cases hq : RB ⟨3, fn, ft⟩ (1, t, ws) (n', t', ws')
   ·rfl
   ·exact absurd ((HREL.out.1 (HRB.out.1 hq)).1) hnn)
  have hnb : (((1 : Int)) == n') = false := by simpa using hnn
  have HNN := hid hnn
  clear hnn
  clear hA hRB hI hs hv _hi hv' _hi' hSP hSP' hg hu hu' hx hWb hB hIW f1 f2 hl1 hl2 hfl hnP ih hfs1 hus0 hui0 hvs0 hvi0 hg1 hnu0 hku0 hwu0 hnv0 hkv0 hwv0 eeu0 eev0
  go_enter Tryz.func56, Tryz.ntmps56
  go_wp2_with fail
  rw [← hW, ← hbf]
  clear hW hbf
  go_wp2_with fail
  go_quiet (fail)
  go_wp2_with fail
  go_ret
  exact ⟨by rw [HF.out]; rfl, ⟨X, Sub.refl _, fun h => by (rw [HF.out] at h; cases h), HA.out.drewN HIW.out⟩, (Kept.ofBelow HWB.out).drewN⟩
 subst hnn
 have IH0 : RelOkT ku0 := by
  obtain ⟨n1, k1, ws1, r1, hd, _⟩ := V.drop_lt (t := t) (i := 0) (by omega)
  have h := ih 0 n1 k1 ws1 r1 hd
  rw [hku0, V.el_drop hd]
  exact h
 have oku0 : okV nodeOk nn g1 nu0 ku0 wu0 = true := by
  have h := ok_el hu (i := 0) (by omega)
  rw [hnu0, hku0, hwu0, hg1]
  simpa [F.part] using h
 have okv0 : okV nodeOk mm g1 nv0 kv0 wv0 = true := by
  have h := ok_el hu' (i := 0) (by omega)
  rw [hnv0, hkv0, hwv0, hg1]
  simpa [F.part] using h
 have hgp0 : g1.good = true := by
  have h := good_part hg (okV_fields hu) (i := 0) (by omega)
  rw [hg1]
  simpa [F.part] using h
 have HCL0 := hid (fun y (hk : Kept P W y) (hIy : I X y) => IH0 B P I nn mm rel g lb RB S S' g1 nu0 nv0 kv0 wu0 wv0 fa1 ua0 va0 uw0 vw0 fc1 uc0 vc0 ud0 vd0 y X hA hRB hIy (hfs1.keptP hk hSP) (hus0.keptP hk hSP') (hui0.keptP hk hSP') (hvs0.keptP hk hSP') (hvi0.keptP hk hSP') hSP hSP' hgp0 oku0 okv0)
 have HF := hid (show RB g1 (nu0, ku0, wu0) (nv0, kv0, wv0) = RB ⟨3, fn, ft⟩ (1, t, ws) (1, t', ws') by
  have h1 := HRB.out.trans HREL.out
  exact Bool.eq_iff_iff.2 (h1.trans ⟨fun h => h.2, fun h => ⟨rfl, h⟩⟩).symm)
 clear hA hRB hI hs hv _hi hv' _hi' hSP hSP' hg hu hu' hx hWb hB hIW f1 f2 hl1 hl2 hfl hnP ih hfs1 hus0 hui0 hvs0 hvi0 hg1 hnu0 hku0 hwu0 hnv0 hkv0 hwv0 eeu0 eev0 IH0 oku0 okv0 hgp0
 go_enter Tryz.func56, Tryz.ntmps56
 go_wp2_with fail
 rw [← hW, ← hbf]
 clear hW hbf
 go_wp2_with fail
 go_region_held3 (fun x : World => x.cell? ⟨bf, 2, none⟩ = some (.slice (some ⟨fb, fo, none⟩) ft.len cap) ∧ x.cell? ⟨bf + 1, 0, none⟩ = some (.int .i64 1) ∧ x.cell? ⟨bf + 1, 1, none⟩ = some (.slice (some ⟨ub, uo, none⟩) t.len cap1) ∧ x.cell? ⟨bf + 2, 0, none⟩ = some (.int .i64 1) ∧ x.cell? ⟨bf + 2, 1, none⟩ = some (.slice (some ⟨vb, vo, none⟩) t'.len cap2) ∧ x.cell? ⟨bf + 3, 0, none⟩ = some (.func (.func g) #[] lb) ∧ x.cell? ⟨fb, fo + 3, none⟩ = some (.int .i64 g1.k) ∧ x.cell? ⟨fb, fo + 4, none⟩ = some (.int .i64 g1.n) ∧ x.cell? ⟨fb, fo + 5, none⟩ = some (.slice fa1 g1.t.len fc1) ∧ x.cell? ⟨ub, uo, none⟩ = some (.int .i64 nu0) ∧ x.cell? ⟨ub, uo + 1, none⟩ = some (.slice ua0 ku0.len uc0) ∧ x.cell? ⟨ub, uo + 2, none⟩ = some (.slice uw0 wu0.length ud0) ∧ x.cell? ⟨vb, vo, none⟩ = some (.int .i64 nv0) ∧ x.cell? ⟨vb, vo + 1, none⟩ = some (.slice va0 kv0.len vc0) ∧ x.cell? ⟨vb, vo + 2, none⟩ = some (.slice vw0 wv0.length vd0)) (first | exact ⟨b2, b3, b4, b6, b7, b9, f10, f11, f12, u00, u01, u02, v00, v01, v02⟩ | fail) (first | (go_at_call 56; refine (HCL0.out _ ((Kept.refl _ _).drewN) (HA.out.drewN HIW.out)).mono ?_; rintro e w2 ⟨rfl, ⟨Y2, hs2, ht2, hI2⟩, hk2⟩; have HS2 := hid hs2; have HT2 := hid ht2; replace b2 := hk2.cell HNP.out.1 b2; replace b3 := hk2.cell HNP.out.2.1 b3; replace b4 := hk2.cell HNP.out.2.1 b4; replace b6 := hk2.cell HNP.out.2.2.1 b6; replace b7 := hk2.cell HNP.out.2.2.1 b7; replace b9 := hk2.cell HNP.out.2.2.2 b9; replace f10 := hk2.cell HNQ.out.1 f10; replace f11 := hk2.cell HNQ.out.1 f11; replace f12 := hk2.cell HNQ.out.1 f12; replace u00 := hk2.cell HNQ.out.2.1 u00; replace u01 := hk2.cell HNQ.out.2.1 u01; replace u02 := hk2.cell HNQ.out.2.1 u02; replace v00 := hk2.cell HNQ.out.2.2 v00; replace v01 := hk2.cell HNQ.out.2.2 v01; replace v02 := hk2.cell HNQ.out.2.2 v02; have HI2 := hid hI2; have HK2 := hid hk2; clear hI2 hk2 hs2 ht2) | fail)
 go_wp2_with fail
 go_ret
 exact ⟨by rw [← HF.out]; rfl, ⟨Y2, HS2.out, fun h => (HRELX.out Y2).2 ⟨by first | trivial | rfl, HT2.out (by rw [HF.out]; exact h)⟩, HI2.out⟩, ((Kept.ofBelow HWB.out).drewN).trans HK2.out⟩
end Go.Proofs.YtcekilcgpgjooaaGreatDoor
