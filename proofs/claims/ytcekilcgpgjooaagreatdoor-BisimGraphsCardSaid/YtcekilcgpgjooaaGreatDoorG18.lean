/- Proved here: contracts of the walk to BisimGraphs: the reference's Is on values, given its Merged; each under the conditions that its own statement names. -/
import Derived.Test.YtcekilcgpgjooaaGreatDoorG17
set_option maxRecDepth 100000
set_option maxHeartbeats 6400000
namespace Go.Proofs.YtcekilcgpgjooaaGreatDoor
open Go.RowKit
open Go.Lib (hid)
def wideL : V → F → Int → Nat → Bool
 | .nil, _, _, _ => false
 | .cons n kids _ rest, f, pn, i => ((coll (f.part pn i).k && decide (100 < kids.len)) || wideL kids (f.part pn i) n 0) || wideL rest f pn (i + 1)
def wideV (f : F) (n : Int) (kids : V) : Bool := (coll f.k && decide (100 < kids.len)) || wideL kids f n 0
theorem wide_step {t : V} {j : Nat} {n1 : Int} {k1 : V} {ws1 : List Int} {rest : V} {f : F} {pn : Int} (h : t.drop j = .cons n1 k1 ws1 rest) (h' : t.drop (j + 1) = rest) :
    wideL (t.drop j) f pn j = (wideV (f.part pn j) n1 k1 || wideL (t.drop (j + 1)) f pn (j + 1)) := by
 rw [h, h']; rfl
theorem good_at2 {f : F} (hg : f.good = true) {n : Int} {len : Nat} (hf : partsOk f n len = true) {i : Nat} (hi : i < len) : f.at n i < f.t.len := by
 have hk := F.good_k hg
 unfold partsOk at hf
 unfold F.at
 by_cases k2 : f.k = 2
 ·have := F.good_2 hg (Or.inl k2)
  rw [if_neg (by omega), if_pos k2] at hf
  have := of_decide_eq_true hf
  rw [if_pos k2]; omega
 by_cases k3 : f.k = 3
 ·have := F.good_2 hg (Or.inr k3)
  rw [if_neg (by omega), if_neg k2, if_pos k3] at hf
  simp only [Bool.and_eq_true, decide_eq_true_eq] at hf
  rw [if_neg k2, if_pos k3]; omega
 by_cases k01 : f.k = 0 ∨ f.k = 1
 ·rw [if_pos k01] at hf
  have := of_decide_eq_true hf
  omega
 rw [if_neg k2, if_neg k3]
 have := F.good_1 hg (by omega)
 omega
theorem good_part2 {f : F} (hg : f.good = true) {n : Int} {len : Nat} (hf : partsOk f n len = true) {i : Nat} (hi : i < len) : (f.part n i).good = true := by
 rw [F.part_at]
 refine T.allOk_get _ _ ?_ (good_at2 hg hf hi)
 unfold F.good at hg
 simp only [Bool.and_eq_true] at hg
 exact hg.2
def shapeL : V → F → Int → Nat → Bool
 | .nil, _, _, _ => true
 | .cons n kids _ rest, f, pn, i => (partsOk (f.part pn i) n kids.len && shapeL kids (f.part pn i) n 0) && shapeL rest f pn (i + 1)
def shapeV (f : F) (n : Int) (kids : V) : Bool := partsOk f n kids.len && shapeL kids f n 0
theorem shape_step {t : V} {j : Nat} {n1 : Int} {k1 : V} {ws1 : List Int} {rest : V} {f : F} {pn : Int} (h : t.drop j = .cons n1 k1 ws1 rest) (h' : t.drop (j + 1) = rest) :
    shapeL (t.drop j) f pn j = (shapeV (f.part pn j) n1 k1 && shapeL (t.drop (j + 1)) f pn (j + 1)) := by
 rw [h, h']; rfl
def WideOk (t : V) : Prop := ∀ (S : Nat → Nat → Prop) (S' : Nat → Prop) (f : F) (a a' c : Option Addr) (cap cap' cp : Nat) (n : Int) (lw : Nat) (w : World), Sl S w a f.t → f.t.len ≤ cap → Vl S' w a' t → f.good = true → t.count ≤ 1000000 → shapeV f n t = true →
 Calls Tryz.prog 124 #[f.val a cap, Vv n a' t.len cap' c lw cp] w fun e w' => e = .returned (.bool (wideV f n t)) ∧ Below w.heap.size w w'
theorem wide_any : ∀ t : V, WideOk t := by
 refine V.ind ?_
 intro t ih S S' f a a' c cap cap' cp n lw w hs hc hv hg hct hsh
 obtain ⟨W, hW⟩ : ∃ W : World, W = (w.alloc (Obj.cells #[.int .i64 f.k, .int .i64 f.n, Value.slice a f.t.len cap] 24)).alloc (Obj.cells #[.int .i64 n, Value.slice a' t.len cap', Value.slice c lw cp] 58) := ⟨_, rfl⟩
 have hWb : Below w.heap.size w W := by rw [hW]; exact ba2 _ _ _
 have hWs : W.heap.size = w.heap.size + 2 := by rw [hW]; simp
 have k0 : W.heap[w.heap.size]? = some (Obj.cells #[.int .i64 f.k, .int .i64 f.n, Value.slice a f.t.len cap] 24 (0, 0)) := by rw [hW]; exact heap_old2 _ _ _
 have k1 : W.heap[w.heap.size + 1]? = some (Obj.cells #[.int .i64 n, Value.slice a' t.len cap', Value.slice c lw cp] 58 (0, 0)) := by rw [hW]; exact heap_new2 _ _ _
 have HE := hid (fun x (hx : Below W.heap.size W x) => And.intro (cells_of (show x.heap[w.heap.size]? = _ by rw [hx.block _ (by omega)]; exact k0)) (cells_of (show x.heap[w.heap.size + 1]? = _ by rw [hx.block _ (by omega)]; exact k1)))
 have hsW := hs.below hWb
 have hvW := hv.below hWb
 have hlen := hv.1
 have hlc := V.len_count t
 have IH := hid ih
 have hsf : partsOk f n t.len = true ∧ shapeL t f n 0 = true := by unfold shapeV at hsh; simpa using hsh
 obtain ⟨r, hr⟩ : ∃ r, r = wideV f n t := ⟨_, rfl⟩
 rw [← hr]
 unfold wideV at hr
 have HR := hid hr
 have HSF := hid hsf
 clear hr ih hs hv k0 k1 hsf hsh
 obtain ⟨⟨c0, c1, c2⟩, e0, e1, e2⟩ := HE.out _ (Below.refl _ _)
 go_enter Tryz.func124, Tryz.ntmps124
 go_wp2_with fail
 rw [← hW]
 clear hW
 refine (sets_any f.k W).mono ?_
 rintro e w' ⟨rfl, rfl⟩
 have main : ∀ hh : (coll f.k && decide (100 < t.len)) = false, True := fun _ => trivial
 by_cases hcw : coll f.k = true ∧ 100 < t.len
 ·have HF := hid (show r = true by rw [HR.out, hcw.1, decide_eq_true hcw.2]; rfl)
  have h100 : (100 : Int) < t.len := by omega
  rw [hcw.1]
  clear hcw main
  go_wp2_with fail
  go_ret
  exact ⟨by rw [HF.out]; rfl, hWb⟩
 have HR2 := hid (show r = wideL t f n 0 by
  rw [HR.out]
  cases h : coll f.k
  ·rfl
  ·rw [decide_eq_false (fun hh => hcw ⟨h, hh⟩)]; rfl)
 clear main
 have hpo : partsOk f n t.len = true := HSF.out.1
 have HPO := hid hpo
 have HCW := hid hcw
 clear hpo hcw
 cases hck : coll f.k
 rotate_left
 ·have h100 : (t.len : Int) ≤ 100 := by
   have := HCW.out
   by_cases h : 100 < t.len
   ·exact absurd ⟨hck, h⟩ this
   ·omega
  have h100' : decide (100 < t.len) = false := by simp; omega
  clear hck
  go_wp2_with fail
  refine (parts_any S f a a' c cap cap' cp n t.len lw W hsW hc hg (by omega)).mono ?_
  rintro e w1 ⟨pt, pa, pc, rfl, hps, hb1, hpg⟩
  have HPG := hid hpg
  have HPS := hid hps
  have hs1 := hb1.size
  clear hpg hps c0 c1 c2 e0 e1 e2
  obtain ⟨⟨c0, c1, c2⟩, e0, e1, e2⟩ := HE.out _ hb1
  go_wp2_with fail
  go_loopw [27] (fun i wr => ∃ j : Nat, j ≤ t.len ∧ i = .int .i64 j ∧ wideL (t.drop j) f n j = wideL t f n 0 ∧ shapeL (t.drop j) f n j = true ∧ Below w1.heap.size w1 wr) (fun i _ => t.len - (intOf i).toNat)
  case atStart => exact ⟨0, Nat.zero_le _, rfl, by simp, by simpa using HSF.out.2, Below.refl _ _⟩
  case round =>
   obtain ⟨j, hj, rfl, hwj, hsj, hb⟩ := hrel
   have HWJ := hid hwj
   have HSJ := hid hsj
   clear hwj hsj
   have hbW := hb1.trans (hb.mono hs1)
   by_cases hlt : j < t.len
   ·obtain ⟨b, o, rfl, hat⟩ := hvW.addr hlt
    obtain ⟨n1, k1, ws1, r1, hd, hd1⟩ := V.drop_lt hlt
    obtain ⟨d0, ⟨a1, cap1, d1, hv1⟩, ⟨c1', cp1, d2, hi1⟩⟩ := hat.get hd
    replace d0 := cell_below hbW d0
    replace d1 := cell_below hbW d1
    replace d2 := cell_below hbW d2
    have hpl := (HPG.out HPO.out).1
    have hpj : j < pt.len := by omega
    clear hpl
    obtain ⟨pb, po, rfl, hpat⟩ := HPS.out.addr hpj
    obtain ⟨gk, gn, gt, grest, hgd, _⟩ := T.drop_lt hpj
    obtain ⟨_, p0, p1, ga, gcap, p2, hgs, hgc⟩ := hpat.getc hgd
    have hgg : f.part n j = ⟨gk, gn, gt⟩ := by rw [← (HPG.out HPO.out).2 j hlt]; exact T.get_drop _ _ _ _ _ _ hgd
    have hb3j := Nat.mul_comm 3 j
    rw [hb3j] at p0 p1 p2
    clear hb3j
    have hgp := good_part2 hg HSF.out.1 hlt
    rw [hgg] at hgp
    have hkc := count_le t j
    have hkc2 := count_step hd hd1
    have hst := wide_step (f := f) (pn := n) hd hd1
    have hss := shape_step (f := f) (pn := n) hd hd1
    rw [hgg] at hst hss
    have hss2 : shapeV ⟨gk, gn, gt⟩ n1 k1 = true ∧ shapeL (t.drop (j + 1)) f n (j + 1) = true := by
     have := HSJ.out
     rw [hss] at this
     simpa using this
    obtain ⟨X, hX⟩ : ∃ X : World, X = wr.alloc (Obj.cells #[.int .i64 n1, Value.slice a1 k1.len cap1, Value.slice c1' ws1.length cp1] 58) := ⟨_, rfl⟩
    have hXb : Below wr.heap.size wr X := by rw [hX]; exact ba _ _
    have hXx : X.heap[wr.heap.size]? = some (Obj.cells #[.int .i64 n1, Value.slice a1 k1.len cap1, Value.slice c1' ws1.length cp1] 58 (0, 0)) := by rw [hX]; exact heap_new _ _
    obtain ⟨y0, y1, y2⟩ := cells_of hXx
    obtain ⟨rr, hrr⟩ : ∃ rr, rr = wideV ⟨gk, gn, gt⟩ n1 k1 := ⟨_, rfl⟩
    have HI := hid (fun x (hx : Below X.heap.size X x) => IH.out j n1 k1 ws1 r1 hd (fun b o => S b o ∨ W.heap.size ≤ b) S' ⟨gk, gn, gt⟩ ga a1 c1' gcap cap1 cp1 n1 ws1.length x (((hgs.below hb).below hXb).below hx) hgc (((hv1.below hbW).below hXb).below hx) hgp (by omega) hss2.1)
    rw [← hrr] at HI hst
    have HST := hid hst
    have HS2 := hid hss2.2
    have hp0 := cell_below hXb (cell_below hb p0)
    have hp1 := cell_below hXb (cell_below hb p1)
    have hp2 := cell_below hXb (cell_below hb p2)
    have hbd : Below X.heap.size X X.drew := (Below.refl _ _).drew
    have hbX := hb.trans (hXb.mono hb.size)
    clear hrr hst hd hgg hd1 hgs hv1 hi1 hat hpat hss hss2 hkc hkc2
    go_wp2_with fail
    rw [← hX]
    clear hX
    go_region_held3 (fun x : World => x.cell? ⟨pb, po + j * 3, none⟩ = some (.int .i64 gk) ∧ x.cell? ⟨pb, po + j * 3 + 1, none⟩ = some (.int .i64 gn) ∧ x.cell? ⟨pb, po + j * 3 + 2, none⟩ = some (.slice ga gt.len gcap) ∧ x.cell? ⟨wr.heap.size, 0, none⟩ = some (.int .i64 n1) ∧ x.cell? ⟨wr.heap.size, 1, none⟩ = some (.slice a1 k1.len cap1) ∧ x.cell? ⟨wr.heap.size, 2, none⟩ = some (.slice c1' ws1.length cp1)) (first | exact ⟨hp0, hp1, hp2, y0, y1, y2⟩ | exact ⟨cell_below hby hp0, cell_below hby hp1, cell_below hby hp2, cell_below hby y0, cell_below hby y1, cell_below hby y2⟩) (first | (go_at_call 124; refine (HI.out _ hbd).mono ?_; rintro e wy ⟨rfl, hby⟩))
    have hbX2 := hbX.trans ((hbd.trans (hby.mono hbd.size)).mono hbX.size)
    have hbf := hb1.trans (hbX2.mono hs1)
    cases hrb : rr
    ·have HF := hid (show wideL (t.drop (j + 1)) f n (j + 1) = wideL t f n 0 by rw [← HWJ.out, HST.out, hrb]; rfl)
     clear hrb
     go_wp2_with fail
     go_roundw
     case rel => exact ⟨j + 1, by omega, by go_num, HF.out, HS2.out, hbX2⟩
     case measure => simp [intOf]; omega
    ·have HF := hid (show r = true by rw [HR2.out, ← HWJ.out, HST.out, hrb]; rfl)
     clear hrb
     go_wp2_with fail
     go_ret
     exact ⟨by rw [HF.out]; rfl, hWb.trans (hbf.mono hWb.size)⟩
   ·have HF := hid (show r = false by rw [HR2.out, ← HWJ.out, show j = t.len by omega, V.drop_all]; rfl)
    go_wp2_with fail
    go_ret
    exact ⟨by rw [HF.out]; rfl, hWb.trans (hbW.mono hWb.size)⟩
 ·clear hck
  go_wp2_with fail
  refine (parts_any S f a a' c cap cap' cp n t.len lw W hsW hc hg (by omega)).mono ?_
  rintro e w1 ⟨pt, pa, pc, rfl, hps, hb1, hpg⟩
  have HPG := hid hpg
  have HPS := hid hps
  have hs1 := hb1.size
  clear hpg hps c0 c1 c2 e0 e1 e2
  obtain ⟨⟨c0, c1, c2⟩, e0, e1, e2⟩ := HE.out _ hb1
  go_wp2_with fail
  go_loopw [27] (fun i wr => ∃ j : Nat, j ≤ t.len ∧ i = .int .i64 j ∧ wideL (t.drop j) f n j = wideL t f n 0 ∧ shapeL (t.drop j) f n j = true ∧ Below w1.heap.size w1 wr) (fun i _ => t.len - (intOf i).toNat)
  case atStart => exact ⟨0, Nat.zero_le _, rfl, by simp, by simpa using HSF.out.2, Below.refl _ _⟩
  case round =>
   obtain ⟨j, hj, rfl, hwj, hsj, hb⟩ := hrel
   have HWJ := hid hwj
   have HSJ := hid hsj
   clear hwj hsj
   have hbW := hb1.trans (hb.mono hs1)
   by_cases hlt : j < t.len
   ·obtain ⟨b, o, rfl, hat⟩ := hvW.addr hlt
    obtain ⟨n1, k1, ws1, r1, hd, hd1⟩ := V.drop_lt hlt
    obtain ⟨d0, ⟨a1, cap1, d1, hv1⟩, ⟨c1', cp1, d2, hi1⟩⟩ := hat.get hd
    replace d0 := cell_below hbW d0
    replace d1 := cell_below hbW d1
    replace d2 := cell_below hbW d2
    have hpl := (HPG.out HPO.out).1
    have hpj : j < pt.len := by omega
    clear hpl
    obtain ⟨pb, po, rfl, hpat⟩ := HPS.out.addr hpj
    obtain ⟨gk, gn, gt, grest, hgd, _⟩ := T.drop_lt hpj
    obtain ⟨_, p0, p1, ga, gcap, p2, hgs, hgc⟩ := hpat.getc hgd
    have hgg : f.part n j = ⟨gk, gn, gt⟩ := by rw [← (HPG.out HPO.out).2 j hlt]; exact T.get_drop _ _ _ _ _ _ hgd
    have hb3j := Nat.mul_comm 3 j
    rw [hb3j] at p0 p1 p2
    clear hb3j
    have hgp := good_part2 hg HSF.out.1 hlt
    rw [hgg] at hgp
    have hkc := count_le t j
    have hkc2 := count_step hd hd1
    have hst := wide_step (f := f) (pn := n) hd hd1
    have hss := shape_step (f := f) (pn := n) hd hd1
    rw [hgg] at hst hss
    have hss2 : shapeV ⟨gk, gn, gt⟩ n1 k1 = true ∧ shapeL (t.drop (j + 1)) f n (j + 1) = true := by
     have := HSJ.out
     rw [hss] at this
     simpa using this
    obtain ⟨X, hX⟩ : ∃ X : World, X = wr.alloc (Obj.cells #[.int .i64 n1, Value.slice a1 k1.len cap1, Value.slice c1' ws1.length cp1] 58) := ⟨_, rfl⟩
    have hXb : Below wr.heap.size wr X := by rw [hX]; exact ba _ _
    have hXx : X.heap[wr.heap.size]? = some (Obj.cells #[.int .i64 n1, Value.slice a1 k1.len cap1, Value.slice c1' ws1.length cp1] 58 (0, 0)) := by rw [hX]; exact heap_new _ _
    obtain ⟨y0, y1, y2⟩ := cells_of hXx
    obtain ⟨rr, hrr⟩ : ∃ rr, rr = wideV ⟨gk, gn, gt⟩ n1 k1 := ⟨_, rfl⟩
    have HI := hid (fun x (hx : Below X.heap.size X x) => IH.out j n1 k1 ws1 r1 hd (fun b o => S b o ∨ W.heap.size ≤ b) S' ⟨gk, gn, gt⟩ ga a1 c1' gcap cap1 cp1 n1 ws1.length x (((hgs.below hb).below hXb).below hx) hgc (((hv1.below hbW).below hXb).below hx) hgp (by omega) hss2.1)
    rw [← hrr] at HI hst
    have HST := hid hst
    have HS2 := hid hss2.2
    have hp0 := cell_below hXb (cell_below hb p0)
    have hp1 := cell_below hXb (cell_below hb p1)
    have hp2 := cell_below hXb (cell_below hb p2)
    have hbd : Below X.heap.size X X.drew := (Below.refl _ _).drew
    have hbX := hb.trans (hXb.mono hb.size)
    clear hrr hst hd hgg hd1 hgs hv1 hi1 hat hpat hss hss2 hkc hkc2
    go_wp2_with fail
    rw [← hX]
    clear hX
    go_region_held3 (fun x : World => x.cell? ⟨pb, po + j * 3, none⟩ = some (.int .i64 gk) ∧ x.cell? ⟨pb, po + j * 3 + 1, none⟩ = some (.int .i64 gn) ∧ x.cell? ⟨pb, po + j * 3 + 2, none⟩ = some (.slice ga gt.len gcap) ∧ x.cell? ⟨wr.heap.size, 0, none⟩ = some (.int .i64 n1) ∧ x.cell? ⟨wr.heap.size, 1, none⟩ = some (.slice a1 k1.len cap1) ∧ x.cell? ⟨wr.heap.size, 2, none⟩ = some (.slice c1' ws1.length cp1)) (first | exact ⟨hp0, hp1, hp2, y0, y1, y2⟩ | exact ⟨cell_below hby hp0, cell_below hby hp1, cell_below hby hp2, cell_below hby y0, cell_below hby y1, cell_below hby y2⟩) (first | (go_at_call 124; refine (HI.out _ hbd).mono ?_; rintro e wy ⟨rfl, hby⟩))
    have hbX2 := hbX.trans ((hbd.trans (hby.mono hbd.size)).mono hbX.size)
    have hbf := hb1.trans (hbX2.mono hs1)
    cases hrb : rr
    ·have HF := hid (show wideL (t.drop (j + 1)) f n (j + 1) = wideL t f n 0 by rw [← HWJ.out, HST.out, hrb]; rfl)
     clear hrb
     go_wp2_with fail
     go_roundw
     case rel => exact ⟨j + 1, by omega, by go_num, HF.out, HS2.out, hbX2⟩
     case measure => simp [intOf]; omega
    ·have HF := hid (show r = true by rw [HR2.out, ← HWJ.out, HST.out, hrb]; rfl)
     clear hrb
     go_wp2_with fail
     go_ret
     exact ⟨by rw [HF.out]; rfl, hWb.trans (hbf.mono hWb.size)⟩
   ·have HF := hid (show r = false by rw [HR2.out, ← HWJ.out, show j = t.len by omega, V.drop_all]; rfl)
    go_wp2_with fail
    go_ret
    exact ⟨by rw [HF.out]; rfl, hWb.trans (hbW.mono hWb.size)⟩
end Go.Proofs.YtcekilcgpgjooaaGreatDoor
namespace Go.Proofs.YtcekilcgpgjooaaGreatDoor
open Go.RowKit
def fldL (m : Int) : V → F → Int → Nat → Bool
 | .nil, _, _, _ => true
 | .cons n kids ws rest, f, pn, i => (rFields (f.part pn i) m n kids.len ws && fldL m kids (f.part pn i) n 0) && fldL m rest f pn (i + 1)
theorem nrmL_some (m : Int) : ∀ (t : V) (f : F) (pn : Int) (i : Nat), (nrmL m t f pn i).isSome = fldL m t f pn i := by
 intro t
 induction t with
 | nil => intro f pn i; rfl
 | cons n k ws r ihk ihr =>
  intro f pn i
  simp only [nrmL, fldL]
  rw [← ihk, ← ihr]
  by_cases h : rFields (f.part pn i) m n k.len ws = true
  ·rw [if_pos h, h]
   cases nrmL m k (f.part pn i) n 0 with
   | none => rfl
   | some ks => simp
  ·rw [if_neg h]
   simp only [Bool.not_eq_true] at h
   rw [h]; rfl
def nodeS (f : F) (kids : V) (ws : List Int) : Bool := !coll f.k || (kids.inc && (decide (f.k ≠ 7) || decide (gcdL 0 ws = 1)))
def srtL : V → F → Int → Nat → Bool
 | .nil, _, _, _ => true
 | .cons n kids ws rest, f, pn, i => (nodeS (f.part pn i) kids ws && srtL kids (f.part pn i) n 0) && srtL rest f pn (i + 1)
theorem part_coll {f : F} (h : coll f.k = true) (n : Int) (i : Nat) : f.part n i = f.t.get 0 := by
 have := of_decide_eq_true h
 unfold F.part; rw [if_neg (by omega), if_neg (by omega)]
theorem srt_coll {f : F} (h : coll f.k = true) (pn : Int) : ∀ (t : V) (i : Nat), srtL t f pn i = true ↔ t.all (fun n k ws => nodeS (f.t.get 0) k ws = true ∧ srtL k (f.t.get 0) n 0 = true) := by
 intro t
 induction t with
 | nil => intro i; simp [srtL, V.all]
 | cons n k ws r _ ih => intro i; simp only [srtL, V.all, part_coll h, Bool.and_eq_true]; rw [ih]
theorem shape_coll {f : F} (h : coll f.k = true) (pn : Int) : ∀ (t : V) (i : Nat), shapeL t f pn i = true ↔ t.all (fun n k _ => partsOk (f.t.get 0) n k.len = true ∧ shapeL k (f.t.get 0) n 0 = true) := by
 intro t
 induction t with
 | nil => intro i; simp [shapeL, V.all]
 | cons n k ws r _ ih => intro i; simp only [shapeL, V.all, part_coll h, Bool.and_eq_true]; rw [ih]
theorem partsOk_coll {f : F} (h : coll f.k = true) (n : Int) (len : Nat) : partsOk f n len = true := by
 have := of_decide_eq_true h
 unfold partsOk; rw [if_neg (by omega), if_neg (by omega), if_neg (by omega), if_neg (by omega)]
theorem fin_good {f : F} {m n : Int} {k ks : V} {ws : List Int} (hr : rFields f m n k.len ws = true) (hl : ks.len = k.len) (h1 : srtL ks f n 0 = true) (h2 : shapeL ks f n 0 = true) :
    nodeS f (fin f ks ws).1 (fin f ks ws).2 = true ∧ srtL (fin f ks ws).1 f n 0 = true ∧ partsOk f n (fin f ks ws).1.len = true ∧ shapeL (fin f ks ws).1 f n 0 = true := by
 unfold rFields at hr
 simp only [Bool.and_eq_true] at hr
 unfold fin
 by_cases hc : coll f.k = true
 ·rw [if_pos hc]
  refine ⟨?_, (srt_coll hc n _ 0).2 (mrg_all ((srt_coll hc n _ 0).1 h1)), partsOk_coll hc _ _, (shape_coll hc n _ 0).2 (mrg_all ((shape_coll hc n _ 0).1 h2))⟩
  unfold nodeS
  rw [hc, mrg_inc]
  by_cases h7 : f.k = 7
  ·rw [h7]
   have := mrg_gcd (t := ks) (wl := ws) (by rw [hl, ← h7]; exact hr.2.2)
   simp [this]
  ·simp [h7]
 ·rw [if_neg hc]
  simp only [Bool.not_eq_true] at hc
  exact ⟨by unfold nodeS; rw [hc]; rfl, h1, by rw [hl]; exact hr.1, h2⟩
theorem nrmL_good (m : Int) : ∀ (t : V) (f : F) (pn : Int) (i : Nat) (ks : V), nrmL m t f pn i = some ks → srtL ks f pn i = true ∧ shapeL ks f pn i = true := by
 intro t
 induction t with
 | nil => intro f pn i ks h; simp only [nrmL, Option.some.injEq] at h; subst h; exact ⟨rfl, rfl⟩
 | cons n k ws r ihk ihr =>
  intro f pn i ks h
  simp only [nrmL] at h
  by_cases hr : rFields (f.part pn i) m n k.len ws = true
  ·rw [if_pos hr] at h
   cases h1 : nrmL m k (f.part pn i) n 0 with
   | none => rw [h1] at h; cases h
   | some k0 =>
    rw [h1] at h
    cases h2 : nrmL m r f pn (i + 1) with
    | none => simp [h2] at h
    | some rs =>
     simp [h2] at h
     subst h
     obtain ⟨a1, a2⟩ := ihk _ _ _ _ h1
     obtain ⟨b1, b2⟩ := ihr _ _ _ _ h2
     obtain ⟨c1, c2, c3, c4⟩ := fin_good hr (nrmL_len h1) a1 a2
     exact ⟨by simp only [srtL]; rw [c1, c2, b1]; rfl, by simp only [shapeL]; rw [c3, c4, b2]; rfl⟩
  ·rw [if_neg hr] at h; cases h
theorem nrm_good {m n : Int} {f : F} {t : V} {ws : List Int} {p : V × List Int} (h : nrm m f n t ws = some p) : nodeS f p.1 p.2 = true ∧ srtL p.1 f n 0 = true ∧ shapeV f n p.1 = true := by
 unfold nrm at h
 by_cases hr : rFields f m n t.len ws = true
 ·rw [if_pos hr] at h
  cases h1 : nrmL m t f n 0 with
  | none => rw [h1] at h; cases h
  | some ks =>
   rw [h1] at h
   simp only [Option.map_some, Option.some.injEq] at h
   subst h
   obtain ⟨a1, a2⟩ := nrmL_good m t f n 0 ks h1
   obtain ⟨c1, c2, c3, c4⟩ := fin_good hr (nrmL_len h1) a1 a2
   exact ⟨c1, c2, by unfold shapeV; rw [c3, c4]; rfl⟩
 ·rw [if_neg hr] at h; cases h
theorem nodeOk_split (f : F) (kids : V) (ws : List Int) : nodeOk f kids ws = (nodeS f kids ws && !(coll f.k && decide (100 < kids.len))) := by
 unfold nodeOk nodeS
 have : decide (kids.len ≤ 100) = !decide (100 < kids.len) := by
  by_cases h : 100 < kids.len
  ·rw [decide_eq_true h, decide_eq_false (by omega)]; rfl
  ·rw [decide_eq_false h, decide_eq_true (by omega)]; rfl
 rw [this]
 cases coll f.k <;> cases kids.inc <;> cases decide (100 < kids.len) <;> simp
theorem rFields_parts {f : F} {m n : Int} {len : Nat} {ws : List Int} (h : rFields f m n len ws = true) : partsOk f n len = true := by
 unfold rFields at h; simp only [Bool.and_eq_true] at h; exact h.1
theorem okL_split (m : Int) : ∀ (t : V) (f : F) (pn : Int) (i : Nat), (∀ j, i ≤ j → j < i + t.len → (f.part pn j).good = true) → okL nodeOk m t f pn i = (fldL m t f pn i && (srtL t f pn i && !wideL t f pn i)) := by
 intro t
 induction t with
 | nil => intro f pn i _; rfl
 | cons n k ws r ihk ihr =>
  intro f pn i hg
  have hgi := hg i (Nat.le_refl _) (by simp [V.len])
  simp only [okL, fldL, srtL, wideL]
  rw [← rFields_eq hgi, ihr f pn (i + 1) (fun j h1 h2 => hg j (by omega) (by simp only [V.len]; omega)), nodeOk_split]
  cases hr : rFields (f.part pn i) m n k.len ws with
  | false => simp
  | true =>
   rw [ihk (f.part pn i) n 0 (fun j _ h2 => good_part2 hgi (rFields_parts hr) (by omega))]
   generalize fldL m k (f.part pn i) n 0 = a1
   generalize srtL k (f.part pn i) n 0 = a2
   generalize wideL k (f.part pn i) n 0 = a3
   generalize nodeS (f.part pn i) k ws = a4
   generalize (coll (f.part pn i).k && decide (100 < k.len)) = a5
   generalize fldL m r f pn (i + 1) = a6
   generalize srtL r f pn (i + 1) = a7
   generalize wideL r f pn (i + 1) = a8
   cases a1 <;> cases a2 <;> cases a3 <;> cases a4 <;> cases a5 <;> cases a6 <;> cases a7 <;> cases a8 <;> rfl
theorem fin_id {f : F} {m n : Int} {k : V} {ws : List Int} (hr : rFields f m n k.len ws = true) (hn : nodeS f k ws = true) : fin f k ws = (k, ws) := by
 unfold rFields at hr
 simp only [Bool.and_eq_true] at hr
 unfold fin
 by_cases hc : coll f.k = true
 ·rw [if_pos hc]
  unfold nodeS at hn
  rw [hc] at hn
  simp only [Bool.not_true, Bool.false_or, Bool.and_eq_true, Bool.or_eq_true, decide_eq_true_eq] at hn
  exact mrg_id hn.1 hr.2.2 (fun h => hn.2.resolve_left (fun h' => h' h))
 ·rw [if_neg hc]
theorem nrmL_id (m : Int) : ∀ (t : V) (f : F) (pn : Int) (i : Nat), fldL m t f pn i = true → srtL t f pn i = true → nrmL m t f pn i = some t := by
 intro t
 induction t with
 | nil => intro f pn i _ _; rfl
 | cons n k ws r ihk ihr =>
  intro f pn i h1 h2
  simp only [fldL, srtL, Bool.and_eq_true] at h1 h2
  simp only [nrmL]
  rw [if_pos h1.1.1, ihk _ _ _ h1.1.2 h2.1.2, ihr _ _ _ h1.2 h2.2]
  simp [fin_id h1.1.1 h2.1.1]
theorem insK_count (n : Int) (k : V) (ws : List Int) : ∀ acc : V, (insK n k ws acc).count ≤ 1 + k.count + acc.count := by
 intro acc
 induction acc with
 | nil => simp [insK, V.count]
 | cons n' k' ws' r _ ih =>
  simp only [insK]
  split
  ·simp [V.count]
  ·split
   ·simp only [V.count]; omega
   ·simp only [V.count]; omega
theorem mrgA_count (wt : Bool) : ∀ (t : V) (wl : List Int) (acc : V) (aw : List Int), (mrgA wt t wl acc aw).1.count ≤ t.count + acc.count := by
 intro t
 induction t with
 | nil => intro wl acc aw; simp [mrgA, V.count]
 | cons n k ws r _ ih =>
  intro wl acc aw
  simp only [mrgA]
  have h1 := ih wl.tail (insK n k ws acc) (if wt = true then insW n k ws (wl.headD 0) acc aw else aw)
  have h2 := insK_count n k ws acc
  simp only [V.count]
  omega
theorem fin_count (f : F) (ks : V) (ws : List Int) : (fin f ks ws).1.count ≤ ks.count := by
 unfold fin
 split
 ·exact Nat.le_trans (mrgA_count _ _ _ _ _) (by simp [V.count])
 ·exact Nat.le_refl _
theorem nrmL_count (m : Int) : ∀ (t : V) (f : F) (pn : Int) (i : Nat) (ks : V), nrmL m t f pn i = some ks → ks.count ≤ t.count := by
 intro t
 induction t with
 | nil => intro f pn i ks h; simp only [nrmL, Option.some.injEq] at h; subst h; simp [V.count]
 | cons n k ws r ihk ihr =>
  intro f pn i ks h
  simp only [nrmL] at h
  by_cases hr : rFields (f.part pn i) m n k.len ws = true
  ·rw [if_pos hr] at h
   cases h1 : nrmL m k (f.part pn i) n 0 with
   | none => rw [h1] at h; cases h
   | some k0 =>
    rw [h1] at h
    cases h2 : nrmL m r f pn (i + 1) with
    | none => simp [h2] at h
    | some rs =>
     simp [h2] at h
     subst h
     have := fin_count (f.part pn i) k0 ws
     have := ihk _ _ _ _ h1
     have := ihr _ _ _ _ h2
     simp only [V.count]; omega
  ·rw [if_neg hr] at h; cases h
theorem nrm_count {m n : Int} {f : F} {t : V} {ws : List Int} {p : V × List Int} (h : nrm m f n t ws = some p) : p.1.count ≤ t.count := by
 unfold nrm at h
 split at h
 ·cases h1 : nrmL m t f n 0 with
  | none => rw [h1] at h; cases h
  | some ks =>
   rw [h1] at h
   simp only [Option.map_some, Option.some.injEq] at h
   subst h
   exact Nat.le_trans (fin_count _ _ _) (nrmL_count m t f n 0 ks h1)
 ·cases h
def isV (f : F) (m n : Int) (t : V) (ws : List Int) : Bool := decide (1 + (t.count : Int) ≤ 2000) && (match nrm m f n t ws with
 | none => false
 | some p => !wideV f n p.1 && decide (p.1 = t ∧ p.2 = ws))
theorem isV_eq {f : F} (hg : f.good = true) (m n : Int) (t : V) (ws : List Int) : isV f m n t ws = vValid f m n t ws := by
 unfold isV vValid okV
 rw [Bool.and_comm]
 congr 1
 rw [← rFields_eq hg, nodeOk_split, Bool.eq_iff_iff]
 constructor
 ·intro h
  cases hn : nrm m f n t ws with
  | none => rw [hn] at h; cases h
  | some p =>
   rw [hn] at h
   simp only [Bool.and_eq_true, Bool.not_eq_true', decide_eq_true_eq] at h
   obtain ⟨hw, hp1, hp2⟩ := h
   obtain ⟨g1, g2, _⟩ := nrm_good hn
   rw [hp1, hp2] at g1
   rw [hp1] at g2 hw
   unfold nrm at hn
   by_cases hr : rFields f m n t.len ws = true
   ·rw [if_pos hr] at hn
    have hs := nrmL_some m t f n 0
    cases h1 : nrmL m t f n 0 with
    | none => rw [h1] at hn; cases hn
    | some ks =>
     rw [h1] at hs
     unfold wideV at hw
     simp only [Bool.or_eq_false_iff] at hw
     rw [hr, g1, okL_split m t f n 0 (fun j _ h2 => good_part2 hg (rFields_parts hr) (by omega)), ← hs, g2, hw.1, hw.2]
     rfl
   ·rw [if_neg hr] at hn; cases hn
 ·intro h
  simp only [Bool.and_eq_true] at h
  obtain ⟨hr, ho, hn1, hn2⟩ := h
  rw [okL_split m t f n 0 (fun j _ h2 => good_part2 hg (rFields_parts hr) (by omega))] at ho
  simp only [Bool.and_eq_true] at ho
  have hn : nrm m f n t ws = some (t, ws) := by
   unfold nrm
   rw [if_pos hr, nrmL_id m t f n 0 ho.1 ho.2.1]
   simp [fin_id hr hn1]
  rw [hn]
  simp only [Bool.not_eq_true'] at hn2 ho
  show (!(coll f.k && decide (100 < t.len) || wideL t f n 0) && decide (t = t ∧ ws = ws)) = true
  rw [hn2, ho.2.2]
  simp
end Go.Proofs.YtcekilcgpgjooaaGreatDoor
namespace Go.Proofs.YtcekilcgpgjooaaGreatDoor
open Go.RowKit
open Go.Lib (hid)
theorem vsame_any (t u : V) (S S' : Nat → Prop) (n n' : Int) (ws ws' : List Int) (a a' c c' : Option Addr) (cap cap' cp cp' : Nat) (w : World) (hs : Vl S w a t) (hu : Vl S' w a' u) (hi : Ints S w c ws) (hi' : Ints S' w c' ws') :
    Calls Tryz.prog 91 #[Vv n a t.len cap c ws.length cp, Vv n' a' u.len cap' c' ws'.length cp'] w fun e w' => e = .returned (.bool (decide (n = n' ∧ t = u ∧ ws = ws'))) ∧ Below w.heap.size w w' := by
 have hWb : Below w.heap.size w ((w.alloc (Obj.cells #[.int .i64 n, Value.slice a t.len cap, Value.slice c ws.length cp] 58)).alloc (Obj.cells #[.int .i64 n', Value.slice a' u.len cap', Value.slice c' ws'.length cp'] 58)) := ba2 _ _ _
 have HC := hid (cmpRef_any t u S S' n n' ws ws' a a' c c' cap cap' cp cp' _ (hs.below hWb) (hu.below hWb) (hi.below hWb) (hi'.below hWb))
 have hz := cmp1_zero (n := n) (n' := n') (k := t) (k' := u) (ws := ws) (ws' := ws')
 unfold cmp1 at hz
 obtain ⟨r, hr⟩ : ∃ r, r = or3 (cmpI n n') (t.cmp u) (cmpL ws ws') := ⟨_, rfl⟩
 rw [← hr] at HC hz
 have HZ := hid hz
 clear hr hz hs hu hi hi'
 go_enter Tryz.func91, Tryz.ntmps91
 go_wp2_with fail
 refine HC.out.mono ?_
 rintro e w' ⟨rfl, hb⟩
 go_wp2_with fail
 go_ret
 refine ⟨?_, hWb.trans (hb.mono hWb.size)⟩
 show Ending.returned (Value.bool (r == 0)) = _
 congr 2
 rw [Bool.eq_iff_iff]
 simp [HZ.out]
def nfR (f : F) (m n : Int) (t : V) (ws : List Int) : Option (V × List Int) × Int :=
 if 1 + (t.count : Int) ≤ 2000 then
  match nrm m f n t ws with
  | none => (none, 20)
  | some p => if wideV f n p.1 = true then (none, 2) else (some p, 0)
 else (none, 20)
def NfPost (r : Option (V × List Int) × Int) (n : Int) (w : World) (e : Ending) (w' : World) : Prop :=
 Below w.heap.size w w' ∧ match r.1 with
 | none => e = .returned (.tuple #[.agg #[.int .i64 0, .slice none 0 0, .slice none 0 0], .int .i64 r.2])
 | some p => ∃ a c cap cp, e = .returned (.tuple #[Vv n a p.1.len cap c p.2.length cp, .int .i64 r.2]) ∧ Vl (fun b => w.heap.size ≤ b) w' a p.1 ∧ Ints (fun b => w.heap.size ≤ b) w' c p.2
theorem nf_any (HM : MergedOk) (S : Nat → Nat → Prop) (S' : Nat → Prop) (f : F) (a a' c : Option Addr) (cap cap' cp : Nat) (n m : Int) (t : V) (ws : List Int) (w : World) (hs : Sl S w a f.t) (hc : f.t.len ≤ cap) (hv : Vl S' w a' t) (hi : Ints S' w c ws) (hg : f.good = true) (hm0 : -1000 ≤ m) (hm1 : m ≤ 1000) :
    Calls Tryz.prog 90 #[f.val a cap, .int .i64 m, Vv n a' t.len cap' c ws.length cp] w (NfPost (nfR f m n t ws) n w) := by
 obtain ⟨W, hW⟩ : ∃ W : World, W = ((w.alloc (Obj.cells #[.int .i64 f.k, .int .i64 f.n, Value.slice a f.t.len cap] 24)).alloc (Obj.cells #[.int .i64 n, Value.slice a' t.len cap', Value.slice c ws.length cp] 58)).alloc (Obj.cells #[.int .i64 0, Value.slice none 0 0, Value.slice none 0 0] 58) := ⟨_, rfl⟩
 have hWb : Below w.heap.size w W := by rw [hW]; exact (ba2 _ _ _).alloc (by simp; omega) _
 have hWs : W.heap.size = w.heap.size + 3 := by rw [hW]; simp
 have g0 : W.heap[w.heap.size]? = some (Obj.cells #[.int .i64 f.k, .int .i64 f.n, Value.slice a f.t.len cap] 24 (0, 0)) := by rw [hW, Below.heap_alloc _ _ _ (by simp; omega)]; exact heap_old2 _ _ _
 have g1 : W.heap[w.heap.size + 1]? = some (Obj.cells #[.int .i64 n, Value.slice a' t.len cap', Value.slice c ws.length cp] 58 (0, 0)) := by rw [hW, Below.heap_alloc _ _ _ (by simp)]; exact heap_new2 _ _ _
 have g2 : W.heap[w.heap.size + 2]? = some (Obj.cells #[.int .i64 0, Value.slice none 0 0, Value.slice none 0 0] 58 (0, 0)) := by rw [hW]; exact look_new (by simp) rfl
 have HE := hid (fun x (hx : Below W.heap.size W x) => And.intro (cells_of (show x.heap[w.heap.size]? = _ by rw [hx.block _ (by omega)]; exact g0)) (cells_of (show x.heap[w.heap.size + 1]? = _ by rw [hx.block _ (by omega)]; exact g1)))
 have HR := hid (fun x (hx : Below W.heap.size W x) => (show x.heap[w.heap.size + 2]? = some (Obj.cells #[.int .i64 0, Value.slice none 0 0, Value.slice none 0 0] 58 (0, 0)) by rw [hx.block _ (by omega)]; exact g2))
 have hsW := hs.below hWb
 have hvW := hv.below hWb
 have hiW := hi.below hWb
 have hvn := vlft_nodes t 2000 (by omega)
 have HVN := hid hvn
 obtain ⟨r, hr⟩ : ∃ r, r = nfR f m n t ws := ⟨_, rfl⟩
 rw [← hr]
 unfold nfR at hr
 have HRR := hid hr
 clear hr hs hv hi g0 g1 g2 hvn
 obtain ⟨⟨c0, c1, c2⟩, e0, e1, e2⟩ := HE.out _ (Below.refl _ _)
 go_enter Tryz.func90, Tryz.ntmps90
 go_wp2_with fail
 rw [← hW]
 clear hW
 refine (vleft_any S' t n a' c cap' ws.length cp 2001 W hvW (by omega) (by omega)).mono ?_
 rintro e w1 ⟨rfl, hb1⟩
 rw [show (2001 : Int) - 1 = 2000 by omega]
 clear c0 c1 c2 e0 e1 e2
 obtain ⟨⟨c0, c1, c2⟩, e0, e1, e2⟩ := HE.out _ hb1
 by_cases hcc : 1 + (t.count : Int) ≤ 2000
 rotate_left
 ·have hp : (max (vlft t 2000) 0 == 0) = true := by rw [HVN.out]; simp; omega
  have HF := hid (show r = (none, 20) by rw [HRR.out, if_neg hcc])
  obtain ⟨r0, r1, r2⟩ := cells_of (HR.out _ hb1)
  have rz : ∀ i, w1.frozen? ⟨w.heap.size + 2, i, none⟩ = false := fun i => frozen_of (HR.out _ hb1)
  clear hcc
  go_wp2_with fail
  obtain ⟨z0, z1, z2⟩ := cells_of (store3 (x0 := .int .i64 0) (x1 := .slice none 0 0) (x2 := .slice none 0 0) (HR.out _ hb1) rfl)
  refine bodyPost_ret (v := .tuple #[.agg #[.int .i64 0, .slice none 0 0, .slice none 0 0], .int .i64 20]) (by simp [results, Tryz.results90, go_sem, z0, z1, z2]) rfl ?_
  rw [HF.out]
  exact ⟨(((hWb.trans (hb1.mono hWb.size)).setCell (by simp; omega) _).setCell (by simp; omega) _).setCell (by simp; omega) _, rfl⟩
 have hp : (max (vlft t 2000) 0 == 0) = false := by rw [HVN.out]; simp; omega
 have hct : t.count ≤ 100000 := by omega
 have HR2 := hid (show r = (match nrm m f n t ws with | none => (none, 20) | some p => if wideV f n p.1 = true then (none, 2) else (some p, 0)) by rw [HRR.out, if_pos hcc])
 clear hcc
 go_wp2_with fail
 refine (norm_any HM t S S' f a a' c cap cap' cp n m ws w1 (hsW.below hb1) hc (hvW.below hb1) (hiW.below hb1) hg hm0 hm1 hct).mono ?_
 rintro e w2 ⟨hb2, hpost⟩
 have hb12 := hb1.trans (hb2.mono hb1.size)
 have hs1 := hb1.size
 have hs2 := hb2.size
 clear c0 c1 c2 e0 e1 e2
 obtain ⟨⟨c0, c1, c2⟩, e0, e1, e2⟩ := HE.out _ hb12
 cases hn : nrm m f n t ws with
 | none =>
  rw [hn] at hpost
  obtain rfl := hpost
  have HF := hid (show r = (none, 20) by rw [HR2.out, hn])
  obtain ⟨r0, r1, r2⟩ := cells_of (HR.out _ hb12)
  have rz : ∀ i, w2.frozen? ⟨w.heap.size + 2, i, none⟩ = false := fun i => frozen_of (HR.out _ hb12)
  have hlz : w.heap.size + 1 + 1 < w2.heap.size := by omega
  clear hn
  go_wp2_with fail
  obtain ⟨z0, z1, z2⟩ := cells_of (look_old (o := Obj.cells #[.int .i64 0, Value.slice none 0 0, Value.slice none 0 0] 58) (store3 (x0 := .int .i64 0) (x1 := .slice none 0 0) (x2 := .slice none 0 0) (HR.out _ hb12) rfl))
  refine bodyPost_ret (v := .tuple #[.agg #[.int .i64 0, .slice none 0 0, .slice none 0 0], .int .i64 20]) (by simp [results, Tryz.results90, go_sem, z0, z1, z2]) rfl ?_
  rw [HF.out]
  have hbB := (((hWb.trans (hb12.mono hWb.size)).setCell (p := ⟨w.heap.size + 2, 0, none⟩) (by simp) (.int .i64 0)).setCell (p := ⟨w.heap.size + 2, 1, none⟩) (by simp) (.slice none 0 0)).setCell (p := ⟨w.heap.size + 2, 2, none⟩) (by simp) (.slice none 0 0)
  exact ⟨hbB.alloc hbB.size _, rfl⟩
 | some p =>
  rw [hn] at hpost
  obtain ⟨a5, c5, cap5, cp5, rfl, hv5, hi5⟩ := hpost
  have hlz : w.heap.size + 1 + 1 < w2.heap.size := by omega
  have hl0 : w.heap.size < w2.heap.size := by omega
  have hl1 : w.heap.size + 1 < w2.heap.size := by omega
  obtain ⟨r0, r1, r2⟩ := cells_of (HR.out _ hb12)
  have rz : ∀ i, w2.frozen? ⟨w.heap.size + 2, i, none⟩ = false := fun i => frozen_of (HR.out _ hb12)
  have hpc : p.1.count ≤ 1000000 := by have := nrm_count hn; omega
  have hsh := (nrm_good hn).2.2
  have HR3 := hid (show r = (if wideV f n p.1 = true then (none, 2) else (some p, 0)) by rw [HR2.out, hn])
  obtain ⟨X, hX⟩ : ∃ X : World, X = w2.alloc (Obj.cells #[.int .i64 n, Value.slice a5 p.1.len cap5, Value.slice c5 p.2.length cp5] 58) := ⟨_, rfl⟩
  have hXb : Below w2.heap.size w2 X := by rw [hX]; exact ba _ _
  have hXx : X.heap[w2.heap.size]? = some (Obj.cells #[.int .i64 n, Value.slice a5 p.1.len cap5, Value.slice c5 p.2.length cp5] 58 (0, 0)) := by rw [hX]; exact heap_new _ _
  obtain ⟨y0, y1, y2⟩ := cells_of hXx
  have hbX := hb12.trans (hXb.mono hb12.size)
  have hc0 := cell_below hXb c0
  have hc1 := cell_below hXb c1
  have hc2 := cell_below hXb c2
  have hv6 := hv5.below hXb
  have hi6 := hi5.below hXb
  clear hn
  go_wp2_with fail
  rw [← hX]
  clear hX
  refine (wide_any p.1 S (fun b => w1.heap.size ≤ b) f a a5 c5 cap cap5 cp5 n p.2.length X (hsW.below hbX) hc hv6 hg hpc hsh).mono ?_
  rintro e w3 ⟨rfl, hb3⟩
  have hb13 := hbX.trans (hb3.mono hbX.size)
  obtain ⟨t0, t1, t2⟩ := cells_of (HR.out _ hb13)
  have tz : ∀ i, w3.frozen? ⟨w.heap.size + 2, i, none⟩ = false := fun i => frozen_of (HR.out _ hb13)
  have x0 := cell_below hb3 y0
  have x1 := cell_below hb3 y1
  have x2 := cell_below hb3 y2
  have hv7 := hv6.below hb3
  have hi7 := hi6.below hb3
  clear c0 c1 c2 e0 e1 e2 r0 r1 r2 rz y0 y1 y2 hc0 hc1 hc2
  cases hw : wideV f n p.1
  ·have HF := hid (show r = (some p, 0) by rw [HR3.out, hw]; rfl)
   clear hw
   go_wp2_with fail
   obtain ⟨z0, z1, z2⟩ := cells_of (store3 (x0 := .int .i64 n) (x1 := .slice a5 p.1.len cap5) (x2 := .slice c5 p.2.length cp5) (HR.out _ hb13) rfl)
   refine bodyPost_ret (v := .tuple #[Vv n a5 p.1.len cap5 c5 p.2.length cp5, .int .i64 0]) (by simp [results, Tryz.results90, go_sem, z0, z1, z2]) rfl ?_
   rw [HF.out]
   exact ⟨(((hWb.trans (hb13.mono hWb.size)).setCell (by simp; omega) _).setCell (by simp; omega) _).setCell (by simp; omega) _, a5, c5, cap5, cp5, rfl, hv7.mono (fun b h => by omega) (fun b h _ => store3_far (by omega)), hi7.mono (fun b h => by omega) (fun b h _ => store3_far (by omega))⟩
  ·have HF := hid (show r = (none, 2) by rw [HR3.out, hw]; rfl)
   clear hw
   go_wp2_with fail
   obtain ⟨z0, z1, z2⟩ := cells_of (store3 (x0 := .int .i64 0) (x1 := .slice none 0 0) (x2 := .slice none 0 0) (HR.out _ hb13) rfl)
   refine bodyPost_ret (v := .tuple #[.agg #[.int .i64 0, .slice none 0 0, .slice none 0 0], .int .i64 2]) (by simp [results, Tryz.results90, go_sem, z0, z1, z2]) rfl ?_
   rw [HF.out]
   exact ⟨(((hWb.trans (hb13.mono hWb.size)).setCell (by simp; omega) _).setCell (by simp; omega) _).setCell (by simp; omega) _, rfl⟩
theorem isV_nf (f : F) (m n : Int) (t : V) (ws : List Int) : isV f m n t ws = (match (nfR f m n t ws).1 with | none => false | some p => decide (p.1 = t ∧ p.2 = ws)) := by
 unfold isV nfR
 by_cases h : 1 + (t.count : Int) ≤ 2000
 ·rw [decide_eq_true h, if_pos h]
  cases nrm m f n t ws with
  | none => rfl
  | some p =>
   cases hw : wideV f n p.1 <;> simp [hw]
 ·rw [decide_eq_false h, if_neg h]; rfl
theorem nfR_err (f : F) (m n : Int) (t : V) (ws : List Int) : ((nfR f m n t ws).1 = none → (nfR f m n t ws).2 ≠ 0) ∧ ((nfR f m n t ws).1 ≠ none → (nfR f m n t ws).2 = 0) := by
 unfold nfR
 split
 ·cases nrm m f n t ws with
  | none => simp
  | some p =>
   cases hw : wideV f n p.1 <;> simp [hw]
 ·simp
theorem vis_any (HM : MergedOk) (S : Nat → Nat → Prop) (S' : Nat → Prop) (f : F) (a a' c : Option Addr) (cap cap' cp : Nat) (n m : Int) (t : V) (ws : List Int) (w : World) (hs : Sl S w a f.t) (hc : f.t.len ≤ cap) (hv : Vl S' w a' t) (hi : Ints S' w c ws) (hg : f.good = true) (hm0 : -1000 ≤ m) (hm1 : m ≤ 1000) :
    Calls Tryz.prog 53 #[f.val a cap, .int .i64 m, Vv n a' t.len cap' c ws.length cp] w fun e w' => e = .returned (.bool (vValid f m n t ws)) ∧ Below w.heap.size w w' := by
 rw [← isV_eq hg, isV_nf]
 obtain ⟨W, hW⟩ : ∃ W : World, W = (w.alloc (Obj.cells #[.int .i64 f.k, .int .i64 f.n, Value.slice a f.t.len cap] 24)).alloc (Obj.cells #[.int .i64 n, Value.slice a' t.len cap', Value.slice c ws.length cp] 58) := ⟨_, rfl⟩
 have hWb : Below w.heap.size w W := by rw [hW]; exact ba2 _ _ _
 have hWs : W.heap.size = w.heap.size + 2 := by rw [hW]; simp
 have e0 : W.cell? ⟨w.heap.size + 1, 0, none⟩ = some (.int .i64 n) := by rw [hW]; simp
 have e1 : W.cell? ⟨w.heap.size + 1, 1, none⟩ = some (.slice a' t.len cap') := by rw [hW]; simp
 have e2 : W.cell? ⟨w.heap.size + 1, 2, none⟩ = some (.slice c ws.length cp) := by rw [hW]; simp
 have hvW := hv.below hWb
 have hiW := hi.below hWb
 have HN := hid (nf_any HM S S' f a a' c cap cap' cp n m t ws W (hs.below hWb) hc hvW hiW hg hm0 hm1)
 have he := nfR_err f m n t ws
 obtain ⟨r, hr⟩ : ∃ r, r = nfR f m n t ws := ⟨_, rfl⟩
 rw [← hr] at HN he ⊢
 obtain ⟨bb, hbb⟩ : ∃ bb : Bool, bb = (match r.1 with | none => false | some p => decide (p.1 = t ∧ p.2 = ws)) := ⟨_, rfl⟩
 rw [← hbb]
 have HBB := hid hbb
 have HE := hid he
 clear hr hs hv hi he hbb
 go_enter Tryz.func53, Tryz.ntmps53
 go_wp2_with fail
 rw [← hW]
 clear hW
 refine HN.out.mono ?_
 rintro e w1 ⟨hb1, hp⟩
 have hbw := hWb.trans (hb1.mono hWb.size)
 have hs1 := hb1.size
 replace e0 := cell_below hb1 e0
 replace e1 := cell_below hb1 e1
 replace e2 := cell_below hb1 e2
 have hl1 : w.heap.size + 1 < w1.heap.size := by omega
 clear hWs
 cases hrc : r.1 with
 | none =>
  rw [hrc] at hp
  obtain rfl := hp
  have hz : (r.2 == 0) = false := by simpa using HE.out.1 hrc
  have HF := hid (show bb = false by rw [HBB.out, hrc])
  clear hrc HN
  go_wp2_with fail
  go_ret
  exact ⟨by rw [HF.out]; rfl, hbw.alloc hbw.size _⟩
 | some p =>
  rw [hrc] at hp
  obtain ⟨a5, c5, cap5, cp5, rfl, hv5, hi5⟩ := hp
  have hz : (r.2 == 0) = true := by simpa using HE.out.2 (by rw [hrc]; simp)
  have HF := hid (show bb = decide (p.1 = t ∧ p.2 = ws) by rw [HBB.out, hrc])
  have hb2 : Below w1.heap.size w1 (w1.alloc (Obj.cells #[.int .i64 n, Value.slice a5 p.1.len cap5, Value.slice c5 p.2.length cp5] 58)) := ba _ _
  have HS := hid (vsame_any p.1 t (fun b => W.heap.size ≤ b) S' n n p.2 ws a5 a' c5 c cap5 cap' cp5 cp _ (hv5.below hb2) ((hvW.below hb1).below hb2) (hi5.below hb2) ((hiW.below hb1).below hb2))
  have HB2 := hid (hbw.trans (hb2.mono hbw.size))
  clear hrc HN hb2 hv5 hi5 hvW hiW hb1
  go_wp2_with fail
  refine HS.out.mono ?_
  rintro e w3 ⟨rfl, hb3⟩
  go_wp2_with fail
  go_ret
  refine ⟨?_, HB2.out.trans (hb3.mono HB2.out.size)⟩
  rw [HF.out]
  show Ending.returned (Value.bool (decide (p.1 = t) && decide (p.2 = ws))) = Ending.returned (.bool (decide (p.1 = t ∧ p.2 = ws)))
  simp
end Go.Proofs.YtcekilcgpgjooaaGreatDoor
