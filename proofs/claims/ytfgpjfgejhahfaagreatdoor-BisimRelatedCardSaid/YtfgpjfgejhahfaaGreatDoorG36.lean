/-
  Proved here: contracts of the walk to BisimRelated: related at the other kinds; each under the conditions that its own statement names.
-/
import Derived.Test.YtfgpjfgejhahfaaGreatDoorG35
namespace Go.Proofs.YtfgpjfgejhahfaaGreatDoor
open Go Go.RowKit

set_option maxRecDepth 100000 in
set_option maxHeartbeats 6400000 in
theorem rel0_any {t : V} {B : Nat} {P : Nat → Prop} {I : World → Prop} {nn mm : Nat} {rel : Nat → Nat → Bool} {g : Nat} {lb : Array Value} {RB : F → Int × V × List Int → Int × V × List Int → Bool} {S : Nat → Nat → Prop} {S' : Nat → Prop}
    {fn : Int} {ft : T} {n n' : Int} {t' : V} {ws ws' : List Int} {a a1 a2 c1 c2 : Option Addr} {cap cap1 cap2 cp1 cp2 : Nat} {w : World}
    (hA : Asks B P I nn mm rel g lb) (hRB : ∀ f u v, RB f u v = true ↔ relV (tells rel) f u v) (hI : I w) (_hs : Sl S w a ft) (_hv : Vl S' w a1 t) (_hi : Ints S' w c1 ws) (_hv' : Vl S' w a2 t') (_hi' : Ints S' w c2 ws') (_hSP : ∀ b o, S b o → ¬ P b) (_hSP' : ∀ b, S' b → ¬ P b)
    (_hg : F.good ⟨0, fn, ft⟩ = true) (hu : okV nodeOk nn ⟨0, fn, ft⟩ n t ws = true) (hu' : okV nodeOk mm ⟨0, fn, ft⟩ n' t' ws' = true) :
    Calls Tryz.prog 49 #[F.val ⟨0, fn, ft⟩ a cap, Vv n a1 t.len cap1 c1 ws.length cp1, Vv n' a2 t'.len cap2 c2 ws'.length cp2, .func (.func g) #[] lb] w fun e w' => e = .returned (.bool (RB ⟨0, fn, ft⟩ (n, t, ws) (n', t', ws'))) ∧ I w' ∧ Kept P w w' := by
  obtain ⟨W, hW⟩ : ∃ W : World, W = (((w.alloc (Obj.cells #[.int .i64 0, .int .i64 fn, .slice a ft.len cap] 24)).alloc (Obj.cells #[.int .i64 n, .slice a1 t.len cap1, .slice c1 ws.length cp1] 28)).alloc (Obj.cells #[.int .i64 n', .slice a2 t'.len cap2, .slice c2 ws'.length cp2] 28)).alloc (Obj.cells #[.func (.func g) #[] lb] 80) := ⟨_, rfl⟩
  have hx : Boxes w.heap.size ⟨0, fn, ft⟩ n n' t t' ws ws' a a1 a2 c1 c2 cap cap1 cap2 cp1 cp2 g lb W := boxes_made w hW
  have hWb : Below w.heap.size w W := by rw [hW]; exact (((Below.refl _ _).alloc (Nat.le_refl _) _).alloc (by simp) _).alloc (by simp; omega) _ |>.alloc (by simp; omega) _
  have hB := hA.lt w hI
  have hIW : I W := hA.same _ _ hI (hWb.mono hB)
  have f1 := okV_fields hu
  have f2 := okV_fields hu'
  have hn : 0 ≤ n ∧ n < nn := by unfold vFields numbersOf at f1; simp at f1; omega
  have hn' : 0 ≤ n' ∧ n' < mm := by unfold vFields numbersOf at f2; simp at f2; omega
  have eg := hA.eg
  obtain ⟨x, hxn⟩ : ∃ x : Nat, n = x := ⟨n.toNat, by omega⟩
  obtain ⟨y, hyn⟩ : ∃ y : Nat, n' = y := ⟨n'.toNat, by omega⟩
  subst hxn
  subst hyn
  have hcall := hA.call x y W (by omega) (by omega) hIW
  have HRE := Lib.hid (show rel x y = RB ⟨0, fn, ft⟩ ((x : Int), t, ws) ((y : Int), t', ws') by
    have h1 := hRB ⟨0, fn, ft⟩ ((x : Int), t, ws) ((y : Int), t', ws')
    have h2 : relV (tells rel) ⟨0, fn, ft⟩ ((x : Int), t, ws) ((y : Int), t', ws') = (rel x y = true) := by unfold relV nodeRel tells; simp
    rw [h2] at h1
    cases hq : RB ⟨0, fn, ft⟩ ((x : Int), t, ws) ((y : Int), t', ws') <;> cases hr : rel x y <;> simp_all)
  obtain ⟨b0, b1, b2⟩ := cells_of hx.f
  obtain ⟨b3, b4, b5⟩ := cells_of hx.u
  obtain ⟨b6, b7, b8⟩ := cells_of hx.v
  have b9 := cell_of1 hx.i
  simp only at b0 b1 b2
  obtain ⟨bf, hbf⟩ : ∃ bf, bf = w.heap.size := ⟨_, rfl⟩
  rw [← hbf] at b0 b1 b2 b3 b4 b5 b6 b7 b8 b9
  have HWB := Lib.hid hWb
  clear hA hRB hI _hs _hv _hi _hv' _hi' _hSP _hSP' _hg hu hu' hx hWb hB hIW f1 f2 hn hn'
  go_enter Tryz.func49, Tryz.ntmps49
  go_wp2_with fail
  rw [← hW, ← hbf]
  clear hW hbf
  go_wp2_with (go_at_fn g; refine hcall.mono ?_; rintro e w2 ⟨rfl, hI2, hk2⟩)
  go_ret
  exact ⟨by rw [← HRE.out]; rfl, hI2, (Kept.ofBelow HWB.out).trans hk2⟩

set_option maxRecDepth 100000 in
set_option maxHeartbeats 6400000 in
theorem rel1_any {t : V} {B : Nat} {P : Nat → Prop} {I : World → Prop} {nn mm : Nat} {rel : Nat → Nat → Bool} {g : Nat} {lb : Array Value} {RB : F → Int × V × List Int → Int × V × List Int → Bool} {S : Nat → Nat → Prop} {S' : Nat → Prop}
    {fn : Int} {ft : T} {n n' : Int} {t' : V} {ws ws' : List Int} {a a1 a2 c1 c2 : Option Addr} {cap cap1 cap2 cp1 cp2 : Nat} {w : World}
    (hA : Asks B P I nn mm rel g lb) (hRB : ∀ f u v, RB f u v = true ↔ relV (tells rel) f u v) (hI : I w) (_hs : Sl S w a ft) (_hv : Vl S' w a1 t) (_hi : Ints S' w c1 ws) (_hv' : Vl S' w a2 t') (_hi' : Ints S' w c2 ws') (_hSP : ∀ b o, S b o → ¬ P b) (_hSP' : ∀ b, S' b → ¬ P b)
    (_hg : F.good ⟨1, fn, ft⟩ = true) (_hu : okV nodeOk nn ⟨1, fn, ft⟩ n t ws = true) (_hu' : okV nodeOk mm ⟨1, fn, ft⟩ n' t' ws' = true) :
    Calls Tryz.prog 49 #[F.val ⟨1, fn, ft⟩ a cap, Vv n a1 t.len cap1 c1 ws.length cp1, Vv n' a2 t'.len cap2 c2 ws'.length cp2, .func (.func g) #[] lb] w fun e w' => e = .returned (.bool (RB ⟨1, fn, ft⟩ (n, t, ws) (n', t', ws'))) ∧ I w' ∧ Kept P w w' := by
  obtain ⟨W, hW⟩ : ∃ W : World, W = (((w.alloc (Obj.cells #[.int .i64 1, .int .i64 fn, .slice a ft.len cap] 24)).alloc (Obj.cells #[.int .i64 n, .slice a1 t.len cap1, .slice c1 ws.length cp1] 28)).alloc (Obj.cells #[.int .i64 n', .slice a2 t'.len cap2, .slice c2 ws'.length cp2] 28)).alloc (Obj.cells #[.func (.func g) #[] lb] 80) := ⟨_, rfl⟩
  have hx : Boxes w.heap.size ⟨1, fn, ft⟩ n n' t t' ws ws' a a1 a2 c1 c2 cap cap1 cap2 cp1 cp2 g lb W := boxes_made w hW
  have hWb : Below w.heap.size w W := by rw [hW]; exact (((Below.refl _ _).alloc (Nat.le_refl _) _).alloc (by simp) _).alloc (by simp; omega) _ |>.alloc (by simp; omega) _
  have hB := hA.lt w hI
  have hIW : I W := hA.same _ _ hI (hWb.mono hB)
  have HRE := Lib.hid (show (n == n') = RB ⟨1, fn, ft⟩ (n, t, ws) (n', t', ws') by
    have h1 := hRB ⟨1, fn, ft⟩ (n, t, ws) (n', t', ws')
    have h2 : relV (tells rel) ⟨1, fn, ft⟩ (n, t, ws) (n', t', ws') = (n = n') := by unfold relV nodeRel; simp
    rw [h2] at h1
    by_cases hr : n = n'
    · rw [h1.2 hr, hr]; simp
    · have h3 : ¬ RB ⟨1, fn, ft⟩ (n, t, ws) (n', t', ws') = true := fun h => hr (h1.1 h)
      rw [Bool.not_eq_true] at h3
      rw [h3]; simpa using hr)
  obtain ⟨b0, b1, b2⟩ := cells_of hx.f
  obtain ⟨b3, b4, b5⟩ := cells_of hx.u
  obtain ⟨b6, b7, b8⟩ := cells_of hx.v
  simp only at b0 b1 b2
  obtain ⟨bf, hbf⟩ : ∃ bf, bf = w.heap.size := ⟨_, rfl⟩
  rw [← hbf] at b0 b1 b2 b3 b4 b5 b6 b7 b8
  have HWB := Lib.hid hWb
  have HIW := Lib.hid hIW
  clear hA hRB hI _hs _hv _hi _hv' _hi' _hSP _hSP' _hg _hu _hu' hx hWb hB hIW
  go_enter Tryz.func49, Tryz.ntmps49
  go_wp2_with fail
  rw [← hW, ← hbf]
  clear hW hbf
  go_wp2_with fail
  go_ret
  exact ⟨by rw [← HRE.out]; rfl, HIW.out, Kept.ofBelow HWB.out⟩

end Go.Proofs.YtfgpjfgejhahfaaGreatDoor

namespace Go.Proofs.YtfgpjfgejhahfaaGreatDoor
open Go Go.RowKit

set_option maxRecDepth 100000 in
set_option maxHeartbeats 6400000 in
theorem rel30_any {t : V} (ih : t.Elems RelOk) {B : Nat} {P : Nat → Prop} {I : World → Prop} {nn mm : Nat} {rel : Nat → Nat → Bool} {g : Nat} {lb : Array Value} {RB : F → Int × V × List Int → Int × V × List Int → Bool} {S : Nat → Nat → Prop} {S' : Nat → Prop}
    {fn : Int} {ft : T} {n' : Int} {t' : V} {ws ws' : List Int} {a a1 a2 c1 c2 : Option Addr} {cap cap1 cap2 cp1 cp2 : Nat} {w : World}
    (hA : Asks B P I nn mm rel g lb) (hRB : ∀ f u v, RB f u v = true ↔ relV (tells rel) f u v) (hI : I w) (hs : Sl S w a ft) (hv : Vl S' w a1 t) (_hi : Ints S' w c1 ws) (hv' : Vl S' w a2 t') (_hi' : Ints S' w c2 ws') (hSP : ∀ b o, S b o → ¬ P b) (hSP' : ∀ b, S' b → ¬ P b)
    (hg : F.good ⟨3, fn, ft⟩ = true) (hu : okV nodeOk nn ⟨3, fn, ft⟩ 0 t ws = true) (hu' : okV nodeOk mm ⟨3, fn, ft⟩ n' t' ws' = true) :
    Calls Tryz.prog 49 #[F.val ⟨3, fn, ft⟩ a cap, Vv 0 a1 t.len cap1 c1 ws.length cp1, Vv n' a2 t'.len cap2 c2 ws'.length cp2, .func (.func g) #[] lb] w fun e w' => e = .returned (.bool (RB ⟨3, fn, ft⟩ (0, t, ws) (n', t', ws'))) ∧ I w' ∧ Kept P w w' := by
  obtain ⟨W, hW⟩ : ∃ W : World, W = (((w.alloc (Obj.cells #[.int .i64 3, .int .i64 fn, .slice a ft.len cap] 24)).alloc (Obj.cells #[.int .i64 0, .slice a1 t.len cap1, .slice c1 ws.length cp1] 28)).alloc (Obj.cells #[.int .i64 n', .slice a2 t'.len cap2, .slice c2 ws'.length cp2] 28)).alloc (Obj.cells #[.func (.func g) #[] lb] 80) := ⟨_, rfl⟩
  have hx : Boxes w.heap.size ⟨3, fn, ft⟩ 0 n' t t' ws ws' a a1 a2 c1 c2 cap cap1 cap2 cp1 cp2 g lb W := boxes_made w hW
  have hWb : Below w.heap.size w W := by rw [hW]; exact (((Below.refl _ _).alloc (Nat.le_refl _) _).alloc (by simp) _).alloc (by simp; omega) _ |>.alloc (by simp; omega) _
  have hB := hA.lt w hI
  have hIW : I W := hA.same _ _ hI (hWb.mono hB)
  have f1 := okV_fields hu
  have f2 := okV_fields hu'
  have hfl : ft.len = 2 := by
    have := (F.good_len hg).1
    simp only [arityOf] at this
    omega
  have hl1 : t.len = 1 := by unfold vFields argsOf at f1; simp at f1; omega
  have hl2 : t'.len = 1 := by unfold vFields argsOf at f2; simp at f2; omega
  obtain ⟨fb, fo, fa0, fc0, rfl, hfb, f00, f01, f02, hfs0⟩ := (hs.below hWb).at (i := 0) (by first | omega | (simp only; omega))
  simp only [Nat.mul_zero, Nat.add_zero] at f00 f01 f02
  obtain ⟨g0, hg0⟩ : ∃ g0 : F, g0 = ft.get 0 := ⟨_, rfl⟩
  rw [← hg0] at f00 f01 f02 hfs0
  obtain ⟨ub, uo, ua0, uc0, uw0, ud0, rfl, hub, u00, u01, u02, hus0, hui0⟩ := (hv.below hWb).el (i := 0) (by omega)
  simp only [Nat.zero_mul, Nat.add_zero] at u00 u01 u02
  obtain ⟨nu0, hnu0⟩ : ∃ x, x = (t.el 0).1 := ⟨_, rfl⟩
  obtain ⟨ku0, hku0⟩ : ∃ x, x = (t.el 0).2.1 := ⟨_, rfl⟩
  obtain ⟨wu0, hwu0⟩ : ∃ x, x = (t.el 0).2.2 := ⟨_, rfl⟩
  have eeu0 : t.el 0 = (nu0, ku0, wu0) := by rw [hnu0, hku0, hwu0]
  rw [← hnu0] at u00
  rw [← hku0] at u01 hus0
  rw [← hwu0] at u02 hui0
  obtain ⟨vb, vo, va0, vc0, vw0, vd0, rfl, hvb, v00, v01, v02, hvs0, hvi0⟩ := (hv'.below hWb).el (i := 0) (by omega)
  simp only [Nat.zero_mul, Nat.add_zero] at v00 v01 v02
  obtain ⟨nv0, hnv0⟩ : ∃ x, x = (t'.el 0).1 := ⟨_, rfl⟩
  obtain ⟨kv0, hkv0⟩ : ∃ x, x = (t'.el 0).2.1 := ⟨_, rfl⟩
  obtain ⟨wv0, hwv0⟩ : ∃ x, x = (t'.el 0).2.2 := ⟨_, rfl⟩
  have eev0 : t'.el 0 = (nv0, kv0, wv0) := by rw [hnv0, hkv0, hwv0]
  rw [← hnv0] at v00
  rw [← hkv0] at v01 hvs0
  rw [← hwv0] at v02 hvi0
  have HREL := Lib.hid (show relV (tells rel) ⟨3, fn, ft⟩ (0, t, ws) (n', t', ws') ↔ 0 = n' ∧ RB g0 (nu0, ku0, wu0) (nv0, kv0, wv0) = true by
    have h2 : relV (tells rel) ⟨3, fn, ft⟩ (0, t, ws) (n', t', ws') = (0 = n' ∧ t.relE (tells rel) (fun _ => ft.get 0) 0 (t'.el 0)) := by unfold relV nodeRel; simp
    rw [h2, relE_el (fun _ => ft.get 0) (t'.el 0) (by omega), ← hRB, eeu0, eev0, hg0])
  have HRB := Lib.hid (hRB ⟨3, fn, ft⟩ (0, t, ws) (n', t', ws'))
  have hp1 : 0 < t.len := by omega
  have hp2 : 0 < t'.len := by omega
  have hp3 : 1 < ft.len := by omega
  have hp5 : (1 : Int) < (ft.len : Int) := by omega
  have hp4 : 0 < ft.len := by omega
  obtain ⟨b0, b1, b2⟩ := cells_of hx.f
  obtain ⟨b3, b4, b5⟩ := cells_of hx.u
  obtain ⟨b6, b7, b8⟩ := cells_of hx.v
  have b9 := cell_of1 hx.i
  simp only at b0 b1 b2
  obtain ⟨bf, hbf⟩ : ∃ bf, bf = w.heap.size := ⟨_, rfl⟩
  rw [← hbf] at b0 b1 b2 b3 b4 b5 b6 b7 b8 b9
  have hnP : ∀ k, bf ≤ k → ¬ P k := fun k hk hp => by have := hA.pb k hp; omega
  have HNP := Lib.hid (show ¬ P bf ∧ ¬ P (bf + 1) ∧ ¬ P (bf + 2) ∧ ¬ P (bf + 3) from ⟨hnP _ (by omega), hnP _ (by omega), hnP _ (by omega), hnP _ (by omega)⟩)
  have HNQ := Lib.hid (show ¬ P fb ∧ ¬ P ub ∧ ¬ P vb from ⟨hSP _ _ hfb, hSP' _ hub, hSP' _ hvb⟩)
  have HWB := Lib.hid hWb
  have HA := Lib.hid hA
  have HIW := Lib.hid hIW
  by_cases hnn : ((0 : Int)) = n'
  rotate_left
  · have HF := Lib.hid (show RB ⟨3, fn, ft⟩ (0, t, ws) (n', t', ws') = false by
      cases hq : RB ⟨3, fn, ft⟩ (0, t, ws) (n', t', ws')
      · rfl
      · exact absurd ((HREL.out.1 (HRB.out.1 hq)).1) hnn)
    have hnb : (((0 : Int)) == n') = false := by simpa using hnn
    have HNN := Lib.hid hnn
    clear hnn
    clear hA hRB hI hs hv _hi hv' _hi' hSP hSP' hg hu hu' hx hWb hB hIW f1 f2 hl1 hl2 hfl hnP ih hfs0 hus0 hui0 hvs0 hvi0 hg0 hnu0 hku0 hwu0 hnv0 hkv0 hwv0 eeu0 eev0
    go_enter Tryz.func49, Tryz.ntmps49
    go_wp2_with fail
    rw [← hW, ← hbf]
    clear hW hbf
    go_wp2_with fail
    go_quiet (fail)
    go_wp2_with fail
    go_ret
    exact ⟨by rw [HF.out]; rfl, HA.out.drewN HIW.out, (Kept.ofBelow HWB.out).drewN⟩
  subst hnn
  have IH0 : RelOk ku0 := by
    obtain ⟨n1, k1, ws1, r1, hd, _⟩ := V.drop_lt (t := t) (i := 0) (by omega)
    have h := ih 0 n1 k1 ws1 r1 hd
    rw [hku0, V.el_drop hd]
    exact h
  have oku0 : okV nodeOk nn g0 nu0 ku0 wu0 = true := by
    have h := ok_el hu (i := 0) (by omega)
    rw [hnu0, hku0, hwu0, hg0]
    simpa [F.part] using h
  have okv0 : okV nodeOk mm g0 nv0 kv0 wv0 = true := by
    have h := ok_el hu' (i := 0) (by omega)
    rw [hnv0, hkv0, hwv0, hg0]
    simpa [F.part] using h
  have hgp0 : g0.good = true := by
    have h := good_part hg (okV_fields hu) (i := 0) (by omega)
    rw [hg0]
    simpa [F.part] using h
  have HCL0 := Lib.hid (fun y (hk : Kept P W y) (hIy : I y) => IH0 B P I nn mm rel g lb RB S S' g0 nu0 nv0 kv0 wu0 wv0 fa0 ua0 va0 uw0 vw0 fc0 uc0 vc0 ud0 vd0 y hA hRB hIy (hfs0.keptP hk hSP) (hus0.keptP hk hSP') (hui0.keptP hk hSP') (hvs0.keptP hk hSP') (hvi0.keptP hk hSP') hSP hSP' hgp0 oku0 okv0)
  have HF := Lib.hid (show RB g0 (nu0, ku0, wu0) (nv0, kv0, wv0) = RB ⟨3, fn, ft⟩ (0, t, ws) (0, t', ws') by
    have h1 := HRB.out.trans HREL.out
    exact Bool.eq_iff_iff.2 (h1.trans ⟨fun h => h.2, fun h => ⟨rfl, h⟩⟩).symm)
  clear hA hRB hI hs hv _hi hv' _hi' hSP hSP' hg hu hu' hx hWb hB hIW f1 f2 hl1 hl2 hfl hnP ih hfs0 hus0 hui0 hvs0 hvi0 hg0 hnu0 hku0 hwu0 hnv0 hkv0 hwv0 eeu0 eev0 IH0 oku0 okv0 hgp0
  go_enter Tryz.func49, Tryz.ntmps49
  go_wp2_with fail
  rw [← hW, ← hbf]
  clear hW hbf
  go_wp2_with fail
  go_region_held3 (fun x : World => x.cell? ⟨bf, 2, none⟩ = some (.slice (some ⟨fb, fo, none⟩) ft.len cap) ∧ x.cell? ⟨bf + 1, 0, none⟩ = some (.int .i64 0) ∧ x.cell? ⟨bf + 1, 1, none⟩ = some (.slice (some ⟨ub, uo, none⟩) t.len cap1) ∧ x.cell? ⟨bf + 2, 0, none⟩ = some (.int .i64 0) ∧ x.cell? ⟨bf + 2, 1, none⟩ = some (.slice (some ⟨vb, vo, none⟩) t'.len cap2) ∧ x.cell? ⟨bf + 3, 0, none⟩ = some (.func (.func g) #[] lb) ∧ x.cell? ⟨fb, fo, none⟩ = some (.int .i64 g0.k) ∧ x.cell? ⟨fb, fo + 1, none⟩ = some (.int .i64 g0.n) ∧ x.cell? ⟨fb, fo + 2, none⟩ = some (.slice fa0 g0.t.len fc0) ∧ x.cell? ⟨ub, uo, none⟩ = some (.int .i64 nu0) ∧ x.cell? ⟨ub, uo + 1, none⟩ = some (.slice ua0 ku0.len uc0) ∧ x.cell? ⟨ub, uo + 2, none⟩ = some (.slice uw0 wu0.length ud0) ∧ x.cell? ⟨vb, vo, none⟩ = some (.int .i64 nv0) ∧ x.cell? ⟨vb, vo + 1, none⟩ = some (.slice va0 kv0.len vc0) ∧ x.cell? ⟨vb, vo + 2, none⟩ = some (.slice vw0 wv0.length vd0)) (first | exact ⟨b2, b3, b4, b6, b7, b9, f00, f01, f02, u00, u01, u02, v00, v01, v02⟩ | fail) (first | (go_at_call 49; refine (HCL0.out _ ((Kept.refl _ _).drewN) (HA.out.drewN HIW.out)).mono ?_; rintro e w2 ⟨rfl, hI2, hk2⟩; replace b2 := hk2.cell HNP.out.1 b2; replace b3 := hk2.cell HNP.out.2.1 b3; replace b4 := hk2.cell HNP.out.2.1 b4; replace b6 := hk2.cell HNP.out.2.2.1 b6; replace b7 := hk2.cell HNP.out.2.2.1 b7; replace b9 := hk2.cell HNP.out.2.2.2 b9; replace f00 := hk2.cell HNQ.out.1 f00; replace f01 := hk2.cell HNQ.out.1 f01; replace f02 := hk2.cell HNQ.out.1 f02; replace u00 := hk2.cell HNQ.out.2.1 u00; replace u01 := hk2.cell HNQ.out.2.1 u01; replace u02 := hk2.cell HNQ.out.2.1 u02; replace v00 := hk2.cell HNQ.out.2.2 v00; replace v01 := hk2.cell HNQ.out.2.2 v01; replace v02 := hk2.cell HNQ.out.2.2 v02; have HI2 := Lib.hid hI2; have HK2 := Lib.hid hk2; clear hI2 hk2) | fail)
  go_wp2_with fail
  go_ret
  exact ⟨by rw [← HF.out]; rfl, HI2.out, ((Kept.ofBelow HWB.out).drewN).trans HK2.out⟩

set_option maxRecDepth 100000 in
set_option maxHeartbeats 6400000 in
theorem rel31_any {t : V} (ih : t.Elems RelOk) {B : Nat} {P : Nat → Prop} {I : World → Prop} {nn mm : Nat} {rel : Nat → Nat → Bool} {g : Nat} {lb : Array Value} {RB : F → Int × V × List Int → Int × V × List Int → Bool} {S : Nat → Nat → Prop} {S' : Nat → Prop}
    {fn : Int} {ft : T} {n' : Int} {t' : V} {ws ws' : List Int} {a a1 a2 c1 c2 : Option Addr} {cap cap1 cap2 cp1 cp2 : Nat} {w : World}
    (hA : Asks B P I nn mm rel g lb) (hRB : ∀ f u v, RB f u v = true ↔ relV (tells rel) f u v) (hI : I w) (hs : Sl S w a ft) (hv : Vl S' w a1 t) (_hi : Ints S' w c1 ws) (hv' : Vl S' w a2 t') (_hi' : Ints S' w c2 ws') (hSP : ∀ b o, S b o → ¬ P b) (hSP' : ∀ b, S' b → ¬ P b)
    (hg : F.good ⟨3, fn, ft⟩ = true) (hu : okV nodeOk nn ⟨3, fn, ft⟩ 1 t ws = true) (hu' : okV nodeOk mm ⟨3, fn, ft⟩ n' t' ws' = true) :
    Calls Tryz.prog 49 #[F.val ⟨3, fn, ft⟩ a cap, Vv 1 a1 t.len cap1 c1 ws.length cp1, Vv n' a2 t'.len cap2 c2 ws'.length cp2, .func (.func g) #[] lb] w fun e w' => e = .returned (.bool (RB ⟨3, fn, ft⟩ (1, t, ws) (n', t', ws'))) ∧ I w' ∧ Kept P w w' := by
  obtain ⟨W, hW⟩ : ∃ W : World, W = (((w.alloc (Obj.cells #[.int .i64 3, .int .i64 fn, .slice a ft.len cap] 24)).alloc (Obj.cells #[.int .i64 1, .slice a1 t.len cap1, .slice c1 ws.length cp1] 28)).alloc (Obj.cells #[.int .i64 n', .slice a2 t'.len cap2, .slice c2 ws'.length cp2] 28)).alloc (Obj.cells #[.func (.func g) #[] lb] 80) := ⟨_, rfl⟩
  have hx : Boxes w.heap.size ⟨3, fn, ft⟩ 1 n' t t' ws ws' a a1 a2 c1 c2 cap cap1 cap2 cp1 cp2 g lb W := boxes_made w hW
  have hWb : Below w.heap.size w W := by rw [hW]; exact (((Below.refl _ _).alloc (Nat.le_refl _) _).alloc (by simp) _).alloc (by simp; omega) _ |>.alloc (by simp; omega) _
  have hB := hA.lt w hI
  have hIW : I W := hA.same _ _ hI (hWb.mono hB)
  have f1 := okV_fields hu
  have f2 := okV_fields hu'
  have hfl : ft.len = 2 := by
    have := (F.good_len hg).1
    simp only [arityOf] at this
    omega
  have hl1 : t.len = 1 := by unfold vFields argsOf at f1; simp at f1; omega
  have hl2 : t'.len = 1 := by unfold vFields argsOf at f2; simp at f2; omega
  obtain ⟨fb, fo, fa1, fc1, rfl, hfb, f10, f11, f12, hfs1⟩ := (hs.below hWb).at (i := 1) (by first | omega | (simp only; omega))
  simp only [Nat.mul_one, Nat.add_assoc, Nat.reduceAdd] at f10 f11 f12
  obtain ⟨g1, hg1⟩ : ∃ g1 : F, g1 = ft.get 1 := ⟨_, rfl⟩
  rw [← hg1] at f10 f11 f12 hfs1
  obtain ⟨ub, uo, ua0, uc0, uw0, ud0, rfl, hub, u00, u01, u02, hus0, hui0⟩ := (hv.below hWb).el (i := 0) (by omega)
  simp only [Nat.zero_mul, Nat.add_zero] at u00 u01 u02
  obtain ⟨nu0, hnu0⟩ : ∃ x, x = (t.el 0).1 := ⟨_, rfl⟩
  obtain ⟨ku0, hku0⟩ : ∃ x, x = (t.el 0).2.1 := ⟨_, rfl⟩
  obtain ⟨wu0, hwu0⟩ : ∃ x, x = (t.el 0).2.2 := ⟨_, rfl⟩
  have eeu0 : t.el 0 = (nu0, ku0, wu0) := by rw [hnu0, hku0, hwu0]
  rw [← hnu0] at u00
  rw [← hku0] at u01 hus0
  rw [← hwu0] at u02 hui0
  obtain ⟨vb, vo, va0, vc0, vw0, vd0, rfl, hvb, v00, v01, v02, hvs0, hvi0⟩ := (hv'.below hWb).el (i := 0) (by omega)
  simp only [Nat.zero_mul, Nat.add_zero] at v00 v01 v02
  obtain ⟨nv0, hnv0⟩ : ∃ x, x = (t'.el 0).1 := ⟨_, rfl⟩
  obtain ⟨kv0, hkv0⟩ : ∃ x, x = (t'.el 0).2.1 := ⟨_, rfl⟩
  obtain ⟨wv0, hwv0⟩ : ∃ x, x = (t'.el 0).2.2 := ⟨_, rfl⟩
  have eev0 : t'.el 0 = (nv0, kv0, wv0) := by rw [hnv0, hkv0, hwv0]
  rw [← hnv0] at v00
  rw [← hkv0] at v01 hvs0
  rw [← hwv0] at v02 hvi0
  have HREL := Lib.hid (show relV (tells rel) ⟨3, fn, ft⟩ (1, t, ws) (n', t', ws') ↔ 1 = n' ∧ RB g1 (nu0, ku0, wu0) (nv0, kv0, wv0) = true by
    have h2 : relV (tells rel) ⟨3, fn, ft⟩ (1, t, ws) (n', t', ws') = (1 = n' ∧ t.relE (tells rel) (fun _ => ft.get 1) 0 (t'.el 0)) := by unfold relV nodeRel; simp
    rw [h2, relE_el (fun _ => ft.get 1) (t'.el 0) (by omega), ← hRB, eeu0, eev0, hg1])
  have HRB := Lib.hid (hRB ⟨3, fn, ft⟩ (1, t, ws) (n', t', ws'))
  have hp1 : 0 < t.len := by omega
  have hp2 : 0 < t'.len := by omega
  have hp3 : 1 < ft.len := by omega
  have hp5 : (1 : Int) < (ft.len : Int) := by omega
  have hp4 : 0 < ft.len := by omega
  obtain ⟨b0, b1, b2⟩ := cells_of hx.f
  obtain ⟨b3, b4, b5⟩ := cells_of hx.u
  obtain ⟨b6, b7, b8⟩ := cells_of hx.v
  have b9 := cell_of1 hx.i
  simp only at b0 b1 b2
  obtain ⟨bf, hbf⟩ : ∃ bf, bf = w.heap.size := ⟨_, rfl⟩
  rw [← hbf] at b0 b1 b2 b3 b4 b5 b6 b7 b8 b9
  have hnP : ∀ k, bf ≤ k → ¬ P k := fun k hk hp => by have := hA.pb k hp; omega
  have HNP := Lib.hid (show ¬ P bf ∧ ¬ P (bf + 1) ∧ ¬ P (bf + 2) ∧ ¬ P (bf + 3) from ⟨hnP _ (by omega), hnP _ (by omega), hnP _ (by omega), hnP _ (by omega)⟩)
  have HNQ := Lib.hid (show ¬ P fb ∧ ¬ P ub ∧ ¬ P vb from ⟨hSP _ _ hfb, hSP' _ hub, hSP' _ hvb⟩)
  have HWB := Lib.hid hWb
  have HA := Lib.hid hA
  have HIW := Lib.hid hIW
  by_cases hnn : ((1 : Int)) = n'
  rotate_left
  · have HF := Lib.hid (show RB ⟨3, fn, ft⟩ (1, t, ws) (n', t', ws') = false by
      cases hq : RB ⟨3, fn, ft⟩ (1, t, ws) (n', t', ws')
      · rfl
      · exact absurd ((HREL.out.1 (HRB.out.1 hq)).1) hnn)
    have hnb : (((1 : Int)) == n') = false := by simpa using hnn
    have HNN := Lib.hid hnn
    clear hnn
    clear hA hRB hI hs hv _hi hv' _hi' hSP hSP' hg hu hu' hx hWb hB hIW f1 f2 hl1 hl2 hfl hnP ih hfs1 hus0 hui0 hvs0 hvi0 hg1 hnu0 hku0 hwu0 hnv0 hkv0 hwv0 eeu0 eev0
    go_enter Tryz.func49, Tryz.ntmps49
    go_wp2_with fail
    rw [← hW, ← hbf]
    clear hW hbf
    go_wp2_with fail
    go_quiet (fail)
    go_wp2_with fail
    go_ret
    exact ⟨by rw [HF.out]; rfl, HA.out.drewN HIW.out, (Kept.ofBelow HWB.out).drewN⟩
  subst hnn
  have IH0 : RelOk ku0 := by
    obtain ⟨n1, k1, ws1, r1, hd, _⟩ := V.drop_lt (t := t) (i := 0) (by omega)
    have h := ih 0 n1 k1 ws1 r1 hd
    rw [hku0, V.el_drop hd]
    exact h
  have oku0 : okV nodeOk nn g1 nu0 ku0 wu0 = true := by
    have h := ok_el hu (i := 0) (by omega)
    rw [hnu0, hku0, hwu0, hg1]
    simpa [F.part] using h
  have okv0 : okV nodeOk mm g1 nv0 kv0 wv0 = true := by
    have h := ok_el hu' (i := 0) (by omega)
    rw [hnv0, hkv0, hwv0, hg1]
    simpa [F.part] using h
  have hgp0 : g1.good = true := by
    have h := good_part hg (okV_fields hu) (i := 0) (by omega)
    rw [hg1]
    simpa [F.part] using h
  have HCL0 := Lib.hid (fun y (hk : Kept P W y) (hIy : I y) => IH0 B P I nn mm rel g lb RB S S' g1 nu0 nv0 kv0 wu0 wv0 fa1 ua0 va0 uw0 vw0 fc1 uc0 vc0 ud0 vd0 y hA hRB hIy (hfs1.keptP hk hSP) (hus0.keptP hk hSP') (hui0.keptP hk hSP') (hvs0.keptP hk hSP') (hvi0.keptP hk hSP') hSP hSP' hgp0 oku0 okv0)
  have HF := Lib.hid (show RB g1 (nu0, ku0, wu0) (nv0, kv0, wv0) = RB ⟨3, fn, ft⟩ (1, t, ws) (1, t', ws') by
    have h1 := HRB.out.trans HREL.out
    exact Bool.eq_iff_iff.2 (h1.trans ⟨fun h => h.2, fun h => ⟨rfl, h⟩⟩).symm)
  clear hA hRB hI hs hv _hi hv' _hi' hSP hSP' hg hu hu' hx hWb hB hIW f1 f2 hl1 hl2 hfl hnP ih hfs1 hus0 hui0 hvs0 hvi0 hg1 hnu0 hku0 hwu0 hnv0 hkv0 hwv0 eeu0 eev0 IH0 oku0 okv0 hgp0
  go_enter Tryz.func49, Tryz.ntmps49
  go_wp2_with fail
  rw [← hW, ← hbf]
  clear hW hbf
  go_wp2_with fail
  go_region_held3 (fun x : World => x.cell? ⟨bf, 2, none⟩ = some (.slice (some ⟨fb, fo, none⟩) ft.len cap) ∧ x.cell? ⟨bf + 1, 0, none⟩ = some (.int .i64 1) ∧ x.cell? ⟨bf + 1, 1, none⟩ = some (.slice (some ⟨ub, uo, none⟩) t.len cap1) ∧ x.cell? ⟨bf + 2, 0, none⟩ = some (.int .i64 1) ∧ x.cell? ⟨bf + 2, 1, none⟩ = some (.slice (some ⟨vb, vo, none⟩) t'.len cap2) ∧ x.cell? ⟨bf + 3, 0, none⟩ = some (.func (.func g) #[] lb) ∧ x.cell? ⟨fb, fo + 3, none⟩ = some (.int .i64 g1.k) ∧ x.cell? ⟨fb, fo + 4, none⟩ = some (.int .i64 g1.n) ∧ x.cell? ⟨fb, fo + 5, none⟩ = some (.slice fa1 g1.t.len fc1) ∧ x.cell? ⟨ub, uo, none⟩ = some (.int .i64 nu0) ∧ x.cell? ⟨ub, uo + 1, none⟩ = some (.slice ua0 ku0.len uc0) ∧ x.cell? ⟨ub, uo + 2, none⟩ = some (.slice uw0 wu0.length ud0) ∧ x.cell? ⟨vb, vo, none⟩ = some (.int .i64 nv0) ∧ x.cell? ⟨vb, vo + 1, none⟩ = some (.slice va0 kv0.len vc0) ∧ x.cell? ⟨vb, vo + 2, none⟩ = some (.slice vw0 wv0.length vd0)) (first | exact ⟨b2, b3, b4, b6, b7, b9, f10, f11, f12, u00, u01, u02, v00, v01, v02⟩ | fail) (first | (go_at_call 49; refine (HCL0.out _ ((Kept.refl _ _).drewN) (HA.out.drewN HIW.out)).mono ?_; rintro e w2 ⟨rfl, hI2, hk2⟩; replace b2 := hk2.cell HNP.out.1 b2; replace b3 := hk2.cell HNP.out.2.1 b3; replace b4 := hk2.cell HNP.out.2.1 b4; replace b6 := hk2.cell HNP.out.2.2.1 b6; replace b7 := hk2.cell HNP.out.2.2.1 b7; replace b9 := hk2.cell HNP.out.2.2.2 b9; replace f10 := hk2.cell HNQ.out.1 f10; replace f11 := hk2.cell HNQ.out.1 f11; replace f12 := hk2.cell HNQ.out.1 f12; replace u00 := hk2.cell HNQ.out.2.1 u00; replace u01 := hk2.cell HNQ.out.2.1 u01; replace u02 := hk2.cell HNQ.out.2.1 u02; replace v00 := hk2.cell HNQ.out.2.2 v00; replace v01 := hk2.cell HNQ.out.2.2 v01; replace v02 := hk2.cell HNQ.out.2.2 v02; have HI2 := Lib.hid hI2; have HK2 := Lib.hid hk2; clear hI2 hk2) | fail)
  go_wp2_with fail
  go_ret
  exact ⟨by rw [← HF.out]; rfl, HI2.out, ((Kept.ofBelow HWB.out).drewN).trans HK2.out⟩

end Go.Proofs.YtfgpjfgejhahfaaGreatDoor

namespace Go.Proofs.YtfgpjfgejhahfaaGreatDoor
open Go Go.RowKit

theorem kinds_of {f : F} (hg : f.good = true) : f.k = 0 ∨ f.k = 1 ∨ f.k = 2 ∨ f.k = 3 ∨ f.k = 4 ∨ f.k = 5 ∨ f.k = 6 ∨ f.k = 7 := by
  have h := (F.good_len hg).1
  unfold arityOf at h
  split at h
  · omega
  · split at h
    · omega
    · split at h <;> omega
theorem elems_nil (Q : V → Prop) : V.Elems Q .nil := fun i n k ws r h => by cases i <;> simp [V.drop] at h
/-- A value without elements. -/
theorem relOk_nil : RelOk .nil := by
  intro B P I nn mm rel g lb RB S S' f n n' t' ws ws' a a1 a2 c1 c2 cap cap1 cap2 cp1 cp2 w hA hRB hI hs hv hi hv' hi' hSP hSP' hg hu hu'
  obtain ⟨k, fn, ft⟩ := f
  have hl := okV_fields hu
  rcases kinds_of hg with h | h | h | h | h | h | h | h <;> simp only at h <;> subst h
  · exact rel0_any hA hRB hI hs hv hi hv' hi' hSP hSP' hg hu hu'
  · exact rel1_any hA hRB hI hs hv hi hv' hi' hSP hSP' hg hu hu'
  · unfold vFields argsOf at hl; simp [V.len] at hl
  · unfold vFields argsOf at hl; simp [V.len] at hl
  · have := (F.good_len hg).2.1
    unfold vFields argsOf at hl
    simp [V.len] at hl
    simp [leastOf, mostOf] at this
    omega
  · exact rel5_any (elems_nil _) hA hRB hI hs hv hi hv' hi' hSP hSP' hg hu hu'
  · exact rel6_any (elems_nil _) hA hRB hI hs hv hi hv' hi' hSP hSP' hg hu hu'
  · exact rel7_any (elems_nil _) hA hRB hI hs hv hi hv' hi' hSP hSP' hg hu hu'
/-- Values whose elements have none. -/
def V.flat (t : V) : Prop := ∀ i n k ws r, t.drop i = .cons n k ws r → k = .nil
theorem relOk_flat {t : V} (h : t.flat) : V.Elems RelOk t := fun i n k ws r hd => by rw [h i n k ws r hd]; exact relOk_nil
end Go.Proofs.YtfgpjfgejhahfaaGreatDoor
