/- Proved here: contracts of the walk to BisimGraphs: related at products, and so at every functor; each under the conditions that its own statement names. -/
import Derived.Test.YtcekilcgpgjooaaGreatDoorG32
set_option maxRecDepth 100000
set_option maxHeartbeats 6400000
namespace Go.Proofs.YtcekilcgpgjooaaGreatDoor
open Go Go.RowKit
open Go.Lib (hid)
theorem rel2_anyT {t : V} (ih : t.Elems RelOkT) {B : Nat} {P : Nat → Prop} {I : (Nat → Nat → Bool) → World → Prop} {X : Nat → Nat → Bool} {nn mm : Nat} {rel : Nat → Nat → Bool} {g : Nat} {lb : Array Value} {RB : F → Int × V × List Int → Int × V × List Int → Bool} {S : Nat → Nat → Prop} {S' : Nat → Prop}
    {fn : Int} {ft : T} {n n' : Int} {t' : V} {ws ws' : List Int} {a a1 a2 c1 c2 : Option Addr} {cap cap1 cap2 cp1 cp2 : Nat} {w : World}
    (hA : AsksT B P I nn mm rel g lb) (hRB : ∀ f u v, RB f u v = true ↔ relV (tells rel) f u v) (hI : I X w) (hs : Sl S w a ft) (hv : Vl S' w a1 t) (_hi : Ints S' w c1 ws) (hv' : Vl S' w a2 t') (_hi' : Ints S' w c2 ws') (hSP : ∀ b o, S b o → ¬ P b) (hSP' : ∀ b, S' b → ¬ P b)
    (hg : F.good ⟨2, fn, ft⟩ = true) (hu : okV nodeOk nn ⟨2, fn, ft⟩ n t ws = true) (hu' : okV nodeOk mm ⟨2, fn, ft⟩ n' t' ws' = true) :
    Calls Tryz.prog 56 #[F.val ⟨2, fn, ft⟩ a cap, Vv n a1 t.len cap1 c1 ws.length cp1, Vv n' a2 t'.len cap2 c2 ws'.length cp2, .func (.func g) #[] lb] w fun e w' => e = .returned (.bool (RB ⟨2, fn, ft⟩ (n, t, ws) (n', t', ws'))) ∧ (∃ Y, Sub X Y ∧ (RB ⟨2, fn, ft⟩ (n, t, ws) (n', t', ws') = true → relV (tells Y) ⟨2, fn, ft⟩ (n, t, ws) (n', t', ws')) ∧ I Y w') ∧ Kept P w w' := by
 obtain ⟨W, hW⟩ : ∃ W : World, W = (((w.alloc (Obj.cells #[.int .i64 2, .int .i64 fn, .slice a ft.len cap] 24)).alloc (Obj.cells #[.int .i64 n, .slice a1 t.len cap1, .slice c1 ws.length cp1] 58)).alloc (Obj.cells #[.int .i64 n', .slice a2 t'.len cap2, .slice c2 ws'.length cp2] 58)).alloc (Obj.cells #[.func (.func g) #[] lb] 94) := ⟨_, rfl⟩
 have hx : Boxes w.heap.size ⟨2, fn, ft⟩ n n' t t' ws ws' a a1 a2 c1 c2 cap cap1 cap2 cp1 cp2 g lb W := boxes_made w hW
 have hWb : Below w.heap.size w W := by rw [hW]; exact (ba2 _ _ _).alloc (by simp; omega) _ |>.alloc (by simp; omega) _
 have hB := hA.lt X w hI
 have hIW : I X W := hA.same _ _ _ hI (hWb.mono hB)
 have f1 := okV_fields hu
 have f2 := okV_fields hu'
 have hfl : ft.len = 2 := by
  have := (F.good_len hg).1
  simp only [arityOf] at this
  omega
 have hl1 : t.len = 2 := by unfold vFields argsOf at f1; simp at f1; omega
 have hl2 : t'.len = 2 := by unfold vFields argsOf at f2; simp at f2; omega
 obtain ⟨fb, fo, fa0, fc0, rfl, hfb, f00, f01, f02, hfs0⟩ := (hs.below hWb).at (i := 0) (by first | omega | (simp only; omega))
 simp only [Nat.mul_zero, Nat.add_zero] at f00 f01 f02
 obtain ⟨g0, hg0⟩ : ∃ g0 : F, g0 = ft.get 0 := ⟨_, rfl⟩
 rw [← hg0] at f00 f01 f02 hfs0
 obtain ⟨_, _, fa1, fc1, e1, _, f10, f11, f12, hfs1⟩ := (hs.below hWb).at (i := 1) (by first | omega | (simp only; omega))
 cases e1
 simp only [Nat.mul_one, Nat.add_assoc, Nat.reduceAdd] at f10 f11 f12
 obtain ⟨g1, hg1⟩ : ∃ g1 : F, g1 = ft.get 1 := ⟨_, rfl⟩
 rw [← hg1] at f10 f11 f12 hfs1
 obtain ⟨ub, uo, ua0, uc0, uw0, ud0, rfl, hub, u00, u01, u02, hus0, hui0⟩ := (hv.below hWb).el (i := 0) (by omega)
 simp only [Nat.zero_mul, Nat.add_zero] at u00 u01 u02
 obtain ⟨nu0, hnu0⟩ : ∃ x, x = (t.el 0).1 := ⟨_, rfl⟩
 obtain ⟨ku0, hku0⟩ : ∃ x, x = (t.el 0).2.1 := ⟨_, rfl⟩
 obtain ⟨wu0, hwu0⟩ : ∃ x, x = (t.el 0).2.2 := ⟨_, rfl⟩
 have eeu0 : t.el 0 = (nu0, ku0, wu0) := by rw [hnu0, hku0, hwu0]
 rw [← hnu0] at u00
 rw [← hku0] at u01 hus0
 rw [← hwu0] at u02 hui0
 obtain ⟨_, _, ua1, uc1, uw1, ud1, eu1, _, u10, u11, u12, hus1, hui1⟩ := (hv.below hWb).el (i := 1) (by omega)
 cases eu1
 simp only [Nat.one_mul, Nat.add_assoc, Nat.reduceAdd] at u10 u11 u12
 obtain ⟨nu1, hnu1⟩ : ∃ x, x = (t.el 1).1 := ⟨_, rfl⟩
 obtain ⟨ku1, hku1⟩ : ∃ x, x = (t.el 1).2.1 := ⟨_, rfl⟩
 obtain ⟨wu1, hwu1⟩ : ∃ x, x = (t.el 1).2.2 := ⟨_, rfl⟩
 have eeu1 : t.el 1 = (nu1, ku1, wu1) := by rw [hnu1, hku1, hwu1]
 rw [← hnu1] at u10
 rw [← hku1] at u11 hus1
 rw [← hwu1] at u12 hui1
 obtain ⟨vb, vo, va0, vc0, vw0, vd0, rfl, hvb, v00, v01, v02, hvs0, hvi0⟩ := (hv'.below hWb).el (i := 0) (by omega)
 simp only [Nat.zero_mul, Nat.add_zero] at v00 v01 v02
 obtain ⟨nv0, hnv0⟩ : ∃ x, x = (t'.el 0).1 := ⟨_, rfl⟩
 obtain ⟨kv0, hkv0⟩ : ∃ x, x = (t'.el 0).2.1 := ⟨_, rfl⟩
 obtain ⟨wv0, hwv0⟩ : ∃ x, x = (t'.el 0).2.2 := ⟨_, rfl⟩
 have eev0 : t'.el 0 = (nv0, kv0, wv0) := by rw [hnv0, hkv0, hwv0]
 rw [← hnv0] at v00
 rw [← hkv0] at v01 hvs0
 rw [← hwv0] at v02 hvi0
 obtain ⟨_, _, va1, vc1, vw1, vd1, ev1, _, v10, v11, v12, hvs1, hvi1⟩ := (hv'.below hWb).el (i := 1) (by omega)
 cases ev1
 simp only [Nat.one_mul, Nat.add_assoc, Nat.reduceAdd] at v10 v11 v12
 obtain ⟨nv1, hnv1⟩ : ∃ x, x = (t'.el 1).1 := ⟨_, rfl⟩
 obtain ⟨kv1, hkv1⟩ : ∃ x, x = (t'.el 1).2.1 := ⟨_, rfl⟩
 obtain ⟨wv1, hwv1⟩ : ∃ x, x = (t'.el 1).2.2 := ⟨_, rfl⟩
 have eev1 : t'.el 1 = (nv1, kv1, wv1) := by rw [hnv1, hkv1, hwv1]
 rw [← hnv1] at v10
 rw [← hkv1] at v11 hvs1
 rw [← hwv1] at v12 hvi1
 have HRELX := hid (fun (Y : Nat → Nat → Bool) => (show relV (tells Y) ⟨2, fn, ft⟩ (n, t, ws) (n', t', ws') ↔ relV (tells Y) g0 (nu0, ku0, wu0) (nv0, kv0, wv0) ∧ relV (tells Y) g1 (nu1, ku1, wu1) (nv1, kv1, wv1) by
  have h2 : relV (tells Y) ⟨2, fn, ft⟩ (n, t, ws) (n', t', ws') = (t.relE (tells Y) ft.get 0 (t'.el 0) ∧ t.relE (tells Y) ft.get 1 (t'.el 1)) := by unfold relV nodeRel; simp
  rw [h2, relE_el ft.get (t'.el 0) (by omega), relE_el ft.get (t'.el 1) (by omega), eeu0, eev0, eeu1, eev1, hg0, hg1]))
 have HREL := hid (show relV (tells rel) ⟨2, fn, ft⟩ (n, t, ws) (n', t', ws') ↔ RB g0 (nu0, ku0, wu0) (nv0, kv0, wv0) = true ∧ RB g1 (nu1, ku1, wu1) (nv1, kv1, wv1) = true by
  have h2 : relV (tells rel) ⟨2, fn, ft⟩ (n, t, ws) (n', t', ws') = (t.relE (tells rel) ft.get 0 (t'.el 0) ∧ t.relE (tells rel) ft.get 1 (t'.el 1)) := by unfold relV nodeRel; simp
  rw [h2, relE_el ft.get (t'.el 0) (by omega), relE_el ft.get (t'.el 1) (by omega), ← hRB, ← hRB, eeu0, eev0, eeu1, eev1, hg0, hg1])
 have HRB := hid (hRB ⟨2, fn, ft⟩ (n, t, ws) (n', t', ws'))
 have hp1 : 0 < t.len := by omega
 have hp2 : 0 < t'.len := by omega
 have hp3 : 1 < ft.len := by omega
 have hp5 : (1 : Int) < (ft.len : Int) := by omega
 have hp4 : 0 < ft.len := by omega
 obtain ⟨b0, b1, b2⟩ := cells_of hx.f
 obtain ⟨b3, b4, b5⟩ := cells_of hx.u
 obtain ⟨b6, b7, b8⟩ := cells_of hx.v
 have b9 := cell_of1 hx.i
 simp only at b0 b1 b2
 obtain ⟨bf, hbf⟩ : ∃ bf, bf = w.heap.size := ⟨_, rfl⟩
 rw [← hbf] at b0 b1 b2 b3 b4 b5 b6 b7 b8 b9
 have hnP : ∀ k, bf ≤ k → ¬ P k := fun k hk hp => by have := hA.pb k hp; omega
 have HNP := hid (show ¬ P bf ∧ ¬ P (bf + 1) ∧ ¬ P (bf + 2) ∧ ¬ P (bf + 3) from ⟨hnP _ (by omega), hnP _ (by omega), hnP _ (by omega), hnP _ (by omega)⟩)
 have HNQ := hid (show ¬ P fb ∧ ¬ P ub ∧ ¬ P vb from ⟨hSP _ _ hfb, hSP' _ hub, hSP' _ hvb⟩)
 have HWB := hid hWb
 have HA := hid hA
 have HIW := hid hIW
 have hp5 : 1 < t.len := by omega
 have hp6 : 1 < t'.len := by omega
 have hp7 : (1 : Int) < (t.len : Int) := by omega
 have hp8 : (1 : Int) < (t'.len : Int) := by omega
 have IH0 : RelOkT ku0 := by
  obtain ⟨n1, k1, ws1, r1, hd, _⟩ := V.drop_lt (t := t) (i := 0) (by omega)
  have h := ih 0 n1 k1 ws1 r1 hd
  rw [hku0, V.el_drop hd]
  exact h
 have oku0 : okV nodeOk nn g0 nu0 ku0 wu0 = true := by
  have h := ok_el hu (i := 0) (by omega)
  rw [hnu0, hku0, hwu0, hg0]
  simpa [F.part] using h
 have okv0 : okV nodeOk mm g0 nv0 kv0 wv0 = true := by
  have h := ok_el hu' (i := 0) (by omega)
  rw [hnv0, hkv0, hwv0, hg0]
  simpa [F.part] using h
 have hgp0 : g0.good = true := by
  have h := good_part hg (okV_fields hu) (i := 0) (by omega)
  rw [hg0]
  simpa [F.part] using h
 have HCL0 := hid (fun y (hk : Kept P W y) (Z : Nat → Nat → Bool) (hIy : I Z y) => IH0 B P I nn mm rel g lb RB S S' g0 nu0 nv0 kv0 wu0 wv0 fa0 ua0 va0 uw0 vw0 fc0 uc0 vc0 ud0 vd0 y Z hA hRB hIy (hfs0.keptP hk hSP) (hus0.keptP hk hSP') (hui0.keptP hk hSP') (hvs0.keptP hk hSP') (hvi0.keptP hk hSP') hSP hSP' hgp0 oku0 okv0)
 have IH1 : RelOkT ku1 := by
  obtain ⟨n1, k1, ws1, r1, hd, _⟩ := V.drop_lt (t := t) (i := 1) (by omega)
  have h := ih 1 n1 k1 ws1 r1 hd
  rw [hku1, V.el_drop hd]
  exact h
 have oku1 : okV nodeOk nn g1 nu1 ku1 wu1 = true := by
  have h := ok_el hu (i := 1) (by omega)
  rw [hnu1, hku1, hwu1, hg1]
  simpa [F.part] using h
 have okv1 : okV nodeOk mm g1 nv1 kv1 wv1 = true := by
  have h := ok_el hu' (i := 1) (by omega)
  rw [hnv1, hkv1, hwv1, hg1]
  simpa [F.part] using h
 have hgp1 : g1.good = true := by
  have h := good_part hg (okV_fields hu) (i := 1) (by omega)
  rw [hg1]
  simpa [F.part] using h
 have HCL1 := hid (fun y (hk : Kept P W y) (Z : Nat → Nat → Bool) (hIy : I Z y) => IH1 B P I nn mm rel g lb RB S S' g1 nu1 nv1 kv1 wu1 wv1 fa1 ua1 va1 uw1 vw1 fc1 uc1 vc1 ud1 vd1 y Z hA hRB hIy (hfs1.keptP hk hSP) (hus1.keptP hk hSP') (hui1.keptP hk hSP') (hvs1.keptP hk hSP') (hvi1.keptP hk hSP') hSP hSP' hgp1 oku1 okv1)
 clear hA hRB hI hs hv _hi hv' _hi' hSP hSP' hg hu hu' hx hWb hB hIW f1 f2 hl1 hl2 hfl hnP ih hfs0 hfs1 hus0 hui0 hvs0 hvi0 hus1 hui1 hvs1 hvi1 hg0 hg1 hnu0 hku0 hwu0 hnv0 hkv0 hwv0 hnu1 hku1 hwu1 hnv1 hkv1 hwv1 eeu0 eev0 eeu1 eev1 IH0 IH1 oku0 oku1 okv0 okv1 hgp0 hgp1
 have HB := hid (fun (x : World) (h : (∃ Z, Sub X Z ∧ I Z x) ∧ Kept P W x) => (show x.cell? ⟨bf, 2, none⟩ = some (.slice (some ⟨fb, fo, none⟩) ft.len cap) ∧ x.cell? ⟨bf + 1, 1, none⟩ = some (.slice (some ⟨ub, uo, none⟩) t.len cap1) ∧ x.cell? ⟨bf + 2, 1, none⟩ = some (.slice (some ⟨vb, vo, none⟩) t'.len cap2) ∧ x.cell? ⟨bf + 3, 0, none⟩ = some (.func (.func g) #[] lb) ∧ x.cell? ⟨fb, fo, none⟩ = some (.int .i64 g0.k) ∧ x.cell? ⟨fb, fo + 1, none⟩ = some (.int .i64 g0.n) ∧ x.cell? ⟨fb, fo + 2, none⟩ = some (.slice fa0 g0.t.len fc0) ∧ x.cell? ⟨fb, fo + 3, none⟩ = some (.int .i64 g1.k) ∧ x.cell? ⟨fb, fo + 4, none⟩ = some (.int .i64 g1.n) ∧ x.cell? ⟨fb, fo + 5, none⟩ = some (.slice fa1 g1.t.len fc1) ∧ x.cell? ⟨ub, uo, none⟩ = some (.int .i64 nu0) ∧ x.cell? ⟨ub, uo + 1, none⟩ = some (.slice ua0 ku0.len uc0) ∧ x.cell? ⟨ub, uo + 2, none⟩ = some (.slice uw0 wu0.length ud0) ∧ x.cell? ⟨ub, uo + 3, none⟩ = some (.int .i64 nu1) ∧ x.cell? ⟨ub, uo + 4, none⟩ = some (.slice ua1 ku1.len uc1) ∧ x.cell? ⟨ub, uo + 5, none⟩ = some (.slice uw1 wu1.length ud1) ∧ x.cell? ⟨vb, vo, none⟩ = some (.int .i64 nv0) ∧ x.cell? ⟨vb, vo + 1, none⟩ = some (.slice va0 kv0.len vc0) ∧ x.cell? ⟨vb, vo + 2, none⟩ = some (.slice vw0 wv0.length vd0) ∧ x.cell? ⟨vb, vo + 3, none⟩ = some (.int .i64 nv1) ∧ x.cell? ⟨vb, vo + 4, none⟩ = some (.slice va1 kv1.len vc1) ∧ x.cell? ⟨vb, vo + 5, none⟩ = some (.slice vw1 wv1.length vd1) from
  ⟨h.2.cell HNP.out.1 b2, h.2.cell HNP.out.2.1 b4, h.2.cell HNP.out.2.2.1 b7, h.2.cell HNP.out.2.2.2 b9, h.2.cell HNQ.out.1 f00, h.2.cell HNQ.out.1 f01, h.2.cell HNQ.out.1 f02, h.2.cell HNQ.out.1 f10, h.2.cell HNQ.out.1 f11, h.2.cell HNQ.out.1 f12, h.2.cell HNQ.out.2.1 u00, h.2.cell HNQ.out.2.1 u01, h.2.cell HNQ.out.2.1 u02, h.2.cell HNQ.out.2.1 u10, h.2.cell HNQ.out.2.1 u11, h.2.cell HNQ.out.2.1 u12, h.2.cell HNQ.out.2.2 v00, h.2.cell HNQ.out.2.2 v01, h.2.cell HNQ.out.2.2 v02, h.2.cell HNQ.out.2.2 v10, h.2.cell HNQ.out.2.2 v11, h.2.cell HNQ.out.2.2 v12⟩))
 obtain ⟨R1, hR1⟩ : ∃ R1, R1 = RB g1 (nu1, ku1, wu1) (nv1, kv1, wv1) := ⟨_, rfl⟩
 rw [← hR1] at HCL1
 have HR1 := hid hR1
 clear hR1
 clear b3 b5 b6 b8 f00 f01 f02 f10 f11 f12 u00 u01 u02 u10 u11 u12 v00 v01 v02 v10 v11 v12
 cases hr0 : RB g0 (nu0, ku0, wu0) (nv0, kv0, wv0)
 ·have HF := hid (show RB ⟨2, fn, ft⟩ (n, t, ws) (n', t', ws') = false by
   cases hq : RB ⟨2, fn, ft⟩ (n, t, ws) (n', t', ws')
   ·rfl
   ·have := (HREL.out.1 (HRB.out.1 hq)).1
    rw [hr0] at this; cases this)
  rw [hr0] at HCL0
  clear hr0 HCL1
  go_enter Tryz.func56, Tryz.ntmps56
  go_wp2_with fail
  rw [← hW, ← hbf]
  clear hW hbf
  go_wp2_with fail
  refine wp_region_plan (by rfl) (fun x => (∃ Z, Sub X Z ∧ I Z x) ∧ Kept P W x) [some (.pointer (some ⟨bf, 2, none⟩)), some (.slice (some ⟨fb, fo, none⟩) ft.len cap), some (.pointer (some ⟨fb, fo, none⟩)), some (F.val g0 fa0 fc0), some (.pointer (some ⟨bf + 1, 1, none⟩)), some (.slice (some ⟨ub, uo, none⟩) t.len cap1), some (.pointer (some ⟨ub, uo, none⟩)), some (Vv nu0 ua0 ku0.len uc0 uw0 wu0.length ud0), some (.pointer (some ⟨bf + 2, 1, none⟩)), some (.slice (some ⟨vb, vo, none⟩) t'.len cap2), some (.pointer (some ⟨vb, vo, none⟩)), some (Vv nv0 va0 kv0.len vc0 vw0 wv0.length vd0), some (.func (.func g) #[] lb), some (.bool false), some (.bool false), none, none, none, none, none, none, none, none, none, none, none, none, none, none, some (.bool false), some (.bool false)] ?aF ?haF _ rfl (by kernel_rfl) ⟨⟨X, Sub.refl _, HA.out.drewN HIW.out⟩, (Kept.refl _ _).drewN⟩ ?hall ?hend
  case haF => (simp only [layAll, Act.put, Option.getD_some, Option.getD_none, List.setIfInBounds_toArray, List.set_cons_zero, List.set_cons_succ]; rfl)
  case hall =>
   repeat (first | (refine Steps.cons (v := none) rfl ?_) | (refine Steps.cons ⟨rfl, fun K x hS hK => ?_⟩ ?_; rotate_left))
   ·exact Steps.nil
   all_goals
    obtain ⟨⟨Zx, hsx, hIx⟩, hkx⟩ := hS
    have hS : (∃ Z, Sub X Z ∧ I Z x) ∧ Kept P W x := ⟨⟨Zx, hsx, hIx⟩, hkx⟩
    obtain ⟨x2, x4, x7, x9, xf00, xf01, xf02, xf10, xf11, xf12, xu00, xu01, xu02, xu10, xu11, xu12, xv00, xv01, xv02, xv10, xv11, xv12⟩ := HB.out x hS
    first
    | (go_simp; exact hK _ hS)
    | (go_simp; refine callAt (args' := #[F.val g0 fa0 fc0, Vv nu0 ua0 ku0.len uc0 uw0 wu0.length ud0, Vv nv0 va0 kv0.len vc0 vw0 wv0.length vd0, .func (.func g) #[] lb]) rfl ?_; refine (HCL0.out x hkx Zx hIx).mono ?_; rintro e w2 ⟨rfl, ⟨Y2, hs2, _, hI2⟩, hk2⟩; exact hK _ ⟨⟨Y2, hsx.trans hs2, hI2⟩, hkx.trans hk2⟩)
  case hend =>
   intro w2 hw2
   have HW2 := hid hw2
   clear hw2
   go_wp2_with fail
   go_ret
   exact ⟨by rw [HF.out]; rfl, ⟨HW2.out.1.choose, HW2.out.1.choose_spec.1, fun h => by (rw [HF.out] at h; cases h), HW2.out.1.choose_spec.2⟩, (Kept.ofBelow HWB.out).trans HW2.out.2⟩
 ·have HF := hid (show R1 = RB ⟨2, fn, ft⟩ (n, t, ws) (n', t', ws') by
   have h1 := HRB.out.trans HREL.out
   rw [HR1.out]
   exact Bool.eq_iff_iff.2 (h1.trans ⟨fun h => h.2, fun h => ⟨hr0, h⟩⟩).symm)
  rw [hr0] at HCL0
  clear hr0
  go_enter Tryz.func56, Tryz.ntmps56
  go_wp2_with fail
  rw [← hW, ← hbf]
  clear hW hbf
  go_wp2_with fail
  refine wp_region_planL (by rfl) (fun L x => ∃ Z, Sub X Z ∧ I Z x ∧ Kept P W x ∧ (L 13 = true → relV (tells Z) g0 (nu0, ku0, wu0) (nv0, kv0, wv0)) ∧ (L 28 = true → R1 = true → relV (tells Z) g1 (nu1, ku1, wu1) (nv1, kv1, wv1))) [some (.pointer (some ⟨bf, 2, none⟩)), some (.slice (some ⟨fb, fo, none⟩) ft.len cap), some (.pointer (some ⟨fb, fo, none⟩)), some (F.val g0 fa0 fc0), some (.pointer (some ⟨bf + 1, 1, none⟩)), some (.slice (some ⟨ub, uo, none⟩) t.len cap1), some (.pointer (some ⟨ub, uo, none⟩)), some (Vv nu0 ua0 ku0.len uc0 uw0 wu0.length ud0), some (.pointer (some ⟨bf + 2, 1, none⟩)), some (.slice (some ⟨vb, vo, none⟩) t'.len cap2), some (.pointer (some ⟨vb, vo, none⟩)), some (Vv nv0 va0 kv0.len vc0 vw0 wv0.length vd0), some (.func (.func g) #[] lb), some (.bool true), some (.bool true), some (.pointer (some ⟨bf, 2, none⟩)), some (.slice (some ⟨fb, fo, none⟩) ft.len cap), some (.pointer (some ⟨fb, fo + 3, none⟩)), some (F.val g1 fa1 fc1), some (.pointer (some ⟨bf + 1, 1, none⟩)), some (.slice (some ⟨ub, uo, none⟩) t.len cap1), some (.pointer (some ⟨ub, uo + 3, none⟩)), some (Vv nu1 ua1 ku1.len uc1 uw1 wu1.length ud1), some (.pointer (some ⟨bf + 2, 1, none⟩)), some (.slice (some ⟨vb, vo, none⟩) t'.len cap2), some (.pointer (some ⟨vb, vo + 3, none⟩)), some (Vv nv1 va1 kv1.len vc1 vw1 wv1.length vd1), some (.func (.func g) #[] lb), some (.bool R1), some (.bool R1), some (.bool R1)] ?aG ?haF _ rfl (by kernel_rfl) ⟨X, Sub.refl _, HA.out.drewN HIW.out, (Kept.refl _ _).drewN, fun h => (by cases h), fun h => (by cases h)⟩ ?hall ?hend
  case haF => (simp only [layAll, Act.put, Option.getD_some, List.setIfInBounds_toArray, List.set_cons_zero, List.set_cons_succ]; rfl)
  case hall =>
   repeat (first | (refine StepsL.cons ⟨rfl, fun K L x hL hS hK => ?_⟩ ?_; rotate_left))
   ·exact StepsL.nil
   all_goals
    obtain ⟨Zx, hsx, hIx, hkx, htx0, htx1⟩ := hS
    obtain ⟨x2, x4, x7, x9, xf00, xf01, xf02, xf10, xf11, xf12, xu00, xu01, xu02, xu10, xu11, xu12, xv00, xv01, xv02, xv10, xv11, xv12⟩ := HB.out x ⟨⟨Zx, hsx, hIx⟩, hkx⟩
    first
    | (go_simp; exact hK _ ⟨Zx, hsx, hIx, hkx, htx0, htx1⟩)
    | (go_simp; refine callAt (args' := #[F.val g0 fa0 fc0, Vv nu0 ua0 ku0.len uc0 uw0 wu0.length ud0, Vv nv0 va0 kv0.len vc0 vw0 wv0.length vd0, .func (.func g) #[] lb]) rfl ?_; refine (HCL0.out x hkx Zx hIx).mono ?_; rintro e w2 ⟨rfl, ⟨Y2, hs2, ht2, hI2⟩, hk2⟩; exact hK _ ⟨Y2, hsx.trans hs2, hI2, hkx.trans hk2, fun _ => ht2 (by first | rfl | trivial), fun h hr => relV_mono (tells_mono hs2) (htx1 h hr)⟩)
    | (go_simp; refine callAt (args' := #[F.val g1 fa1 fc1, Vv nu1 ua1 ku1.len uc1 uw1 wu1.length ud1, Vv nv1 va1 kv1.len vc1 vw1 wv1.length vd1, .func (.func g) #[] lb]) rfl ?_; refine (HCL1.out x hkx Zx hIx).mono ?_; rintro e w2 ⟨rfl, ⟨Y2, hs2, ht2, hI2⟩, hk2⟩; exact hK _ ⟨Y2, hsx.trans hs2, hI2, hkx.trans hk2, fun h => relV_mono (tells_mono hs2) (htx0 h), fun _ hr => ht2 hr⟩)
  case hend =>
   intro L w2 hLL hw2
   have HW2 := hid (show ∃ Z, Sub X Z ∧ I Z w2 ∧ Kept P W w2 ∧ relV (tells Z) g0 (nu0, ku0, wu0) (nv0, kv0, wv0) ∧ (R1 = true → relV (tells Z) g1 (nu1, ku1, wu1) (nv1, kv1, wv1)) from let ⟨Z, z1, z2, z3, z4, z5⟩ := hw2; ⟨Z, z1, z2, z3, z4 (hLL 13 (by decide)), z5 (hLL 28 (by decide))⟩)
   clear hw2 hLL
   go_wp2_with fail
   go_ret
   obtain ⟨Z, z1, z2, z3, z4, z5⟩ := HW2.out
   exact ⟨by rw [← HF.out]; rfl, ⟨Z, z1, fun h => (HRELX.out Z).2 ⟨z4, z5 (by rw [HF.out]; exact h)⟩, z2⟩, (Kept.ofBelow HWB.out).trans z3⟩
end Go.Proofs.YtcekilcgpgjooaaGreatDoor
namespace Go.Proofs.YtcekilcgpgjooaaGreatDoor
open Go Go.RowKit
theorem relOk_allT (t : V) : RelOkT t := by
 refine V.ind ?_ t
 intro t ih B P I nn mm rel g lb RB S S' f n n' t' ws ws' a a1 a2 c1 c2 cap cap1 cap2 cp1 cp2 w X hA hRB hI hs hv hi hv' hi' hSP hSP' hg hu hu'
 obtain ⟨k, fn, ft⟩ := f
 have hl := okV_fields hu
 rcases kinds_of hg with h | h | h | h | h | h | h | h <;> simp only at h <;> subst h
 ·exact rel0_anyT hA hRB hI hs hv hi hv' hi' hSP hSP' hg hu hu'
 ·exact rel1_anyT hA hRB hI hs hv hi hv' hi' hSP hSP' hg hu hu'
 ·exact rel2_anyT ih hA hRB hI hs hv hi hv' hi' hSP hSP' hg hu hu'
 ·have hn : n = 0 ∨ n = 1 := by
   unfold vFields numbersOf at hl
   simp at hl
   omega
  rcases hn with rfl | rfl
  ·exact rel30_anyT ih hA hRB hI hs hv hi hv' hi' hSP hSP' hg hu hu'
  ·exact rel31_anyT ih hA hRB hI hs hv hi hv' hi' hSP hSP' hg hu hu'
 ·exact rel4_anyT ih hA hRB hI hs hv hi hv' hi' hSP hSP' hg hu hu'
 ·exact rel5_anyT ih hA hRB hI hs hv hi hv' hi' hSP hSP' hg hu hu'
 ·exact rel6_anyT ih hA hRB hI hs hv hi hv' hi' hSP hSP' hg hu hu'
 ·exact rel7_anyT ih hA hRB hI hs hv hi hv' hi' hSP hSP' hg hu hu'
theorem asksT_of {B : Nat} {P : Nat → Prop} {I : World → Prop} {n m : Nat} {rel : Nat → Nat → Bool} {g : Nat} {lb : Array Value} (h : Asks B P I n m rel g lb) : AsksT B P (fun X w => I w ∧ Sub X rel) n m rel g lb :=
 ⟨h.eg, h.pb, fun _ w hI => h.lt w hI.1, fun _ w w' hI hb => ⟨h.same w w' hI.1 hb, hI.2⟩, fun _ _ _ hs hI => ⟨hI.1, hs.trans hI.2⟩, fun _ _ hI => hI.2,
  fun _ a b w ha hb hI => (h.call a b w ha hb hI.1).mono (fun _ _ ⟨h1, h2, h3⟩ => ⟨h1, ⟨rel, hI.2, fun h => h, h2, Sub.refl _⟩, h3⟩)⟩
theorem relOk_all (t : V) : RelOk t := by
 intro B P I nn mm rel g lb RB S S' f n n' t' ws ws' a a1 a2 c1 c2 cap cap1 cap2 cp1 cp2 w hA hRB hI hs hv hi hv' hi' hSP hSP' hg hu hu'
 refine (relOk_allT t B P _ nn mm rel g lb RB S S' f n n' t' ws ws' a a1 a2 c1 c2 cap cap1 cap2 cp1 cp2 w (fun _ _ => false) (asksT_of hA) hRB ⟨hI, fun _ _ h => by cases h⟩ hs hv hi hv' hi' hSP hSP' hg hu hu').mono ?_
 rintro e w' ⟨h1, ⟨Y, _, _, h2⟩, h3⟩
 exact ⟨h1, h2.1, h3⟩
end Go.Proofs.YtcekilcgpgjooaaGreatDoor
