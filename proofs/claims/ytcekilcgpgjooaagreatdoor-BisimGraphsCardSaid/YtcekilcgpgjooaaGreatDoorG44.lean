/- Proved here: contracts of the walk to BisimGraphs: value.Map, and the images of a system; each under the conditions that its own statement names. -/
import Derived.Test.YtcekilcgpgjooaaGreatDoorG36
import Derived.Test.YtcekilcgpgjooaaGreatDoorG43
import Derived.Maps.AppendAt
set_option maxRecDepth 100000
set_option maxHeartbeats 6400000
namespace Go.Proofs.YtcekilcgpgjooaaGreatDoor
open Go Go.RowKit
open Go.Lib (hid)
theorem image_any (S : Nat → Nat → Prop) (S' : Nat → Prop) (f : F) (n : Int) (t : V) (ws : List Int) (a a' c : Option Addr) (cap cap' cp g : Nat) (lb : Array Value) (m : Int) (h : Int → Int) (w : World)
    (hto : ToOk g lb m h w) (hs : Sl S w a f.t) (hv : Vl S' w a' t) (hi : Ints S' w c ws) (hg : f.good = true) (hok : okV nodeOk m f n t ws = true) :
    Calls Tryz.prog 117 #[f.val a cap, Vv n a' t.len cap' c ws.length cp, .func (.func g) #[] lb] w (ImgPost (mapE h f (n, t, ws)) w) := by
 obtain ⟨k, hk⟩ : ∃ k, k = f.k := ⟨_, rfl⟩
 have hfv : f.val a cap = .agg #[.int .i64 k, .int .i64 f.n, .slice a f.t.len cap] := by rw [hk]
 rw [hfv]
 have HIM := hid (fun z (hz : Below w.heap.size w z) tb vb (h1 : z.cell? ⟨tb, 0, none⟩ = some (.func (.func g) #[] lb)) (h2 : z.cell? ⟨vb, 0, none⟩ = some (visFn tb vb)) => img_any t S S' f n ws a a' c cap cap' cp tb vb g lb m h z (hto.below hz) h1 h2 (hs.below hz) (hv.below hz) (hi.below hz) hg hok)
 rw [hfv] at HIM
 obtain ⟨R, hR⟩ : ∃ R, R = mapE h f (n, t, ws) := ⟨_, rfl⟩
 rw [← hR] at HIM ⊢
 have hlen := hv.1
 have hlw := hi.1
 obtain ⟨N, hN⟩ : ∃ N, N = t.len := ⟨_, rfl⟩
 obtain ⟨nw, hnw⟩ : ∃ nw, nw = ws.length := ⟨_, rfl⟩
 rw [← hN] at HIM hlen ⊢
 rw [← hnw] at HIM hlw ⊢
 clear hto hs hv hi hg hok hk hfv hR hN hnw
 obtain ⟨B, hB⟩ : ∃ B, B = w.heap.size := ⟨_, rfl⟩
 obtain ⟨W, hW⟩ : ∃ W : World, W = ((((w.alloc (Obj.cells #[.int .i64 k, .int .i64 f.n, .slice a f.t.len cap] 24)).alloc (Obj.cells #[.int .i64 n, .slice a' N cap', .slice c nw cp] 58)).alloc (Obj.cells #[.func (.func g) #[] lb] 154)).alloc (Obj.cells #[.int .i64 0, .slice none 0 0, .slice none 0 0] 58)).alloc (Obj.cells #[visFn (B + 1 + 1) (B + 1 + 1 + 1 + 1)] 180) := ⟨_, rfl⟩
 have hWb : Below w.heap.size w W := by rw [hW]; exact (((ba2 _ _ _).alloc (by simp; omega) _).alloc (by simp; omega) _).alloc (by simp; omega) _
 have g0 : W.heap[B]? = some (Obj.cells #[.int .i64 k, .int .i64 f.n, .slice a f.t.len cap] 24 (0, 0)) := by
  rw [hW, hB, Below.heap_alloc _ _ _ (by simp <;> omega), Below.heap_alloc _ _ _ (by simp <;> omega), Below.heap_alloc _ _ _ (by simp <;> omega)]; exact heap_old2 _ _ _
 have g1 : W.heap[B + 1]? = some (Obj.cells #[.int .i64 n, .slice a' N cap', .slice c nw cp] 58 (0, 0)) := by
  rw [hW, hB, Below.heap_alloc _ _ _ (by simp <;> omega), Below.heap_alloc _ _ _ (by simp <;> omega), Below.heap_alloc _ _ _ (by simp <;> omega)]; exact heap_new2 _ _ _
 have g2 : W.heap[B + 1 + 1]? = some (Obj.cells #[.func (.func g) #[] lb] 154 (0, 0)) := by
  rw [hW, hB, Below.heap_alloc _ _ _ (by simp <;> omega), Below.heap_alloc _ _ _ (by simp <;> omega)]; exact look_new (by simp) rfl
 have g3 : W.heap[B + 1 + 1 + 1]? = some (Obj.cells #[.int .i64 0, .slice none 0 0, .slice none 0 0] 58 (0, 0)) := by
  rw [hW, hB, Below.heap_alloc _ _ _ (by simp <;> omega)]; exact look_new (by simp) rfl
 have g4 : W.cell? ⟨B + 1 + 1 + 1 + 1, 0, none⟩ = some (visFn (B + 1 + 1) (B + 1 + 1 + 1 + 1)) := by
  have : W.heap[B + 1 + 1 + 1 + 1]? = some (Obj.cells #[visFn (B + 1 + 1) (B + 1 + 1 + 1 + 1)] 180 (0, 0)) := by rw [hW]; exact look_new (by rw [hB]; simp) rfl
  simp [World.cell?, this]
 have h2 : W.cell? ⟨B + 1 + 1, 0, none⟩ = some (.func (.func g) #[] lb) := by simp [World.cell?, g2]
 obtain ⟨c0, c1, c2⟩ := cells_of g0
 obtain ⟨e0, e1, e2⟩ := cells_of g1
 have HC := hid (HIM.out W hWb (B + 1 + 1) (B + 1 + 1 + 1 + 1) h2 g4)
 have HG3 := hid g3
 have HWB := hid hWb
 have HB := hid hB
 clear g0 g1 g2 g3 hWb h2
 go_enter Tryz.func117, Tryz.ntmps117
 go_upto_region 3 with (fail)
 rw [← hB, ← hW]
 clear hB hW
 go_wp2_with fail
 refine HC.out.mono ?_
 rintro e w1 ⟨ra, rc, rcap, rcp, rfl, hrv, hri, hb1⟩
 have hr1 := (hb1.block _ (heap_lt HG3.out)).trans HG3.out
 obtain ⟨r0, r1, r2⟩ := cells_of hr1
 have rz : ∀ i, w1.frozen? ⟨B + 1 + 1 + 1, i, none⟩ = false := fun i => frozen_of hr1
 have HR1 := hid hr1
 have HRV := hid hrv
 have HRI := hid hri
 have HB1 := hid hb1
 clear c0 c1 c2 e0 e1 e2 g4 hr1 hrv hri hb1
 go_wp2_with fail
 obtain ⟨z0, z1, z2⟩ := cells_of (store3 (x0 := .int .i64 R.1) (x1 := .slice ra R.2.1.len rcap) (x2 := .slice rc R.2.2.length rcp) HR1.out rfl)
 refine bodyPost_ret (v := Vv R.1 ra R.2.1.len rcap rc R.2.2.length rcp) (by simp [results, Tryz.results117, go_sem, z0, z1, z2]) rfl ?_
 have hk3 : Kept (fun b => b = B + 1 + 1 + 1) w1 (((w1.setCell ⟨B + 1 + 1 + 1, 0, none⟩ (.int .i64 R.1)).setCell ⟨B + 1 + 1 + 1, 1, none⟩ (.slice ra R.2.1.len rcap)).setCell ⟨B + 1 + 1 + 1, 2, none⟩ (.slice rc R.2.2.length rcp)) := (((Kept.refl (fun b => b = B + 1 + 1 + 1) w1).set (p := ⟨B + 1 + 1 + 1, 0, none⟩) (Or.inl rfl) _).set (p := ⟨B + 1 + 1 + 1, 1, none⟩) (Or.inl rfl) _).set (p := ⟨B + 1 + 1 + 1, 2, none⟩) (Or.inl rfl) _
 have hbe : B = w.heap.size := HB.out
 have hgl := heap_lt HG3.out
 have hws := HWB.out.size
 have hbw := HWB.out.trans (HB1.out.mono HWB.out.size)
 refine ⟨ra, rc, rcap, rcp, rfl, ?_, ?_, hbw.trans (hk3.toBelow hbw.size (fun b hb e => by omega))⟩
 ·exact (HRV.out.keptP hk3 (fun b h e => by omega)).weaken (fun b h => by omega)
 ·exact (HRI.out.keptP hk3 (fun b h e => by omega)).weaken (fun b h => by omega)
def VMapPost (r : Int × V × List Int) (w : World) (e : Ending) (w' : World) : Prop := ∃ a c cap cp, e = .returned (.tuple #[Vv r.1 a r.2.1.len cap c r.2.2.length cp, .int .i64 0]) ∧ Vl (fun b => w.heap.size ≤ b) w' a r.2.1 ∧ Ints (fun b => w.heap.size ≤ b) w' c r.2.2 ∧ Below w.heap.size w w'
theorem vmap_any (S : Nat → Nat → Prop) (S' S2 : Nat → Prop) (f : F) (n : Int) (t : V) (ws tl : List Int) (a a' c ta : Option Addr) (cap cap' cp tcap : Nat) (m : Nat) (w : World)
    (hs : Sl S w a f.t) (hv : Vl S' w a' t) (hi : Ints S' w c ws) (hk : Kinds w) (hti : Ints S2 w ta tl) (hvf : vFault f m n t ws = 0) (hg : f.good = true) (hok : okV nodeOk m f n t ws = true) (hm : tl.length = m) (hall : tl.all (fun x => decide (0 ≤ x ∧ x < 100)) = true) :
    Calls Tryz.prog 82 #[f.val a cap, .int .i64 (m : Int), Vv n a' t.len cap' c ws.length cp, .slice ta tl.length tcap] w (VMapPost (mapE (fun x => tl.getD x.toNat 0) f (n, t, ws)) w) := by
 obtain ⟨k, hkk⟩ : ∃ k, k = f.k := ⟨_, rfl⟩
 have hfv : f.val a cap = .agg #[.int .i64 k, .int .i64 f.n, .slice a f.t.len cap] := by rw [hkk]
 rw [hfv]
 have HCK := hid (fun z (hz : Below w.heap.size w z) => vcheck_any S S' f a a' c cap cap' cp n m t ws z (hs.below hz) (hv.below hz) (hi.below hz) (hk.below hz))
 have HALL := hid (fun z (hz : Below w.heap.size w z) => allI_any S2 ta tcap tl 115 #[] (fun x => decide (0 ≤ x ∧ x < 100)) z (hti.below hz) (map1_ok z))
 have HIM := hid (fun z (hz : Below w.heap.size w z) tb (htb : z.cell? ⟨tb, 0, none⟩ = some (.slice ta tl.length tcap)) => image_any S S' f n t ws a a' c cap cap' cp 118 #[.pointer (some ⟨tb, 0, none⟩)] m (fun x => tl.getD x.toNat 0) z (by
  have := map2_ok S2 tb tcap ta tl z (hti.below hz) htb
  rwa [hm] at this) (hs.below hz) (hv.below hz) (hi.below hz) hg hok)
 rw [hfv, hvf] at HCK
 rw [hall, hm] at HALL
 rw [hfv, hm] at HIM
 obtain ⟨R, hR⟩ : ∃ R, R = mapE (fun x => tl.getD x.toNat 0) f (n, t, ws) := ⟨_, rfl⟩
 rw [← hR] at HIM ⊢
 have hlen := hv.1
 have hlw := hi.1
 have hlt := hti.1
 rw [hm] at hlt ⊢
 obtain ⟨N, hN⟩ : ∃ N, N = t.len := ⟨_, rfl⟩
 obtain ⟨nw, hnw⟩ : ∃ nw, nw = ws.length := ⟨_, rfl⟩
 rw [← hN] at HIM HCK hlen ⊢
 rw [← hnw] at HIM HCK hlw ⊢
 clear hs hv hi hk hti hvf hg hok hkk hfv hR hN hnw hall hm
 obtain ⟨B, hB⟩ : ∃ B, B = w.heap.size := ⟨_, rfl⟩
 obtain ⟨W, hW⟩ : ∃ W : World, W = (((w.alloc (Obj.cells #[.int .i64 k, .int .i64 f.n, .slice a f.t.len cap] 24)).alloc (Obj.cells #[.int .i64 n, .slice a' N cap', .slice c nw cp] 58)).alloc (Obj.cells #[.slice ta m tcap] 45)).alloc (Obj.cells #[.int .i64 0, .slice none 0 0, .slice none 0 0] 58) := ⟨_, rfl⟩
 have hWb : Below w.heap.size w W := by rw [hW]; exact ((ba2 _ _ _).alloc (by simp; omega) _).alloc (by simp; omega) _
 have g0 : W.heap[B]? = some (Obj.cells #[.int .i64 k, .int .i64 f.n, .slice a f.t.len cap] 24 (0, 0)) := by
  rw [hW, hB, Below.heap_alloc _ _ _ (by simp <;> omega), Below.heap_alloc _ _ _ (by simp <;> omega)]; exact heap_old2 _ _ _
 have g1 : W.heap[B + 1]? = some (Obj.cells #[.int .i64 n, .slice a' N cap', .slice c nw cp] 58 (0, 0)) := by
  rw [hW, hB, Below.heap_alloc _ _ _ (by simp <;> omega), Below.heap_alloc _ _ _ (by simp <;> omega)]; exact heap_new2 _ _ _
 have g2 : W.heap[B + 1 + 1]? = some (Obj.cells #[.slice ta m tcap] 45 (0, 0)) := by
  rw [hW, hB, Below.heap_alloc _ _ _ (by simp <;> omega)]; exact look_new (by simp) rfl
 have g3 : W.heap[B + 1 + 1 + 1]? = some (Obj.cells #[.int .i64 0, .slice none 0 0, .slice none 0 0] 58 (0, 0)) := by
  rw [hW, hB]; exact look_new (by simp) rfl
 have HF := hid (fun z (hz : Below W.heap.size W z) => (show (_ ∧ _ ∧ _) ∧ (_ ∧ _ ∧ _) ∧ z.cell? ⟨B + 1 + 1, 0, none⟩ = some (.slice ta m tcap) ∧ z.heap[B + 1 + 1 + 1]? = _ from
  ⟨cells_of ((hz.block _ (heap_lt g0)).trans g0), cells_of ((hz.block _ (heap_lt g1)).trans g1), (by simp [World.cell?, (hz.block _ (heap_lt g2)).trans g2]), (hz.block _ (heap_lt g3)).trans g3⟩))
 obtain ⟨⟨c0, c1, c2⟩, ⟨e0, e1, e2⟩, t0, hr⟩ := HF.out _ (Below.refl _ _)
 have HWB := hid hWb
 have HB := hid hB
 have HG3 := hid g3
 clear g0 g1 g2 g3 hWb hr
 go_enter Tryz.func82, Tryz.ntmps82
 go_upto_region 1 with (fail)
 rw [← hB, ← hW]
 clear hB hW
 go_wp2_with fail
 refine (HCK.out _ HWB.out).mono ?_
 rintro e w1 ⟨rfl, hb1⟩
 have HB1 := hid hb1
 clear c0 c1 c2 e0 e1 e2 t0
 obtain ⟨⟨c0, c1, c2⟩, ⟨e0, e1, e2⟩, t0, hr⟩ := HF.out _ hb1
 clear hb1 hr
 go_wp2_with fail
 refine (HALL.out _ (HWB.out.trans (HB1.out.mono HWB.out.size))).mono ?_
 rintro e w2 ⟨rfl, hb2⟩
 have HB2 := hid (HB1.out.trans (hb2.mono HB1.out.size))
 clear c0 c1 c2 e0 e1 e2 t0 hb2
 obtain ⟨⟨c0, c1, c2⟩, ⟨e0, e1, e2⟩, t0, hr⟩ := HF.out _ HB2.out
 have HC := hid (HIM.out w2 (HWB.out.trans (HB2.out.mono HWB.out.size)) (B + 1 + 1) t0)
 clear hr
 go_wp2_with fail
 refine HC.out.mono ?_
 rintro e w3 ⟨ra, rc, rcap, rcp, rfl, hrv, hri, hb3⟩
 have HB3 := hid (HB2.out.trans (hb3.mono HB2.out.size))
 have HRV := hid hrv
 have HRI := hid hri
 clear c0 c1 c2 e0 e1 e2 t0 hb3 hrv hri
 obtain ⟨⟨c0, c1, c2⟩, ⟨e0, e1, e2⟩, t0, hr⟩ := HF.out _ HB3.out
 obtain ⟨r0, r1, r2⟩ := cells_of hr
 have rz : ∀ i, w3.frozen? ⟨B + 1 + 1 + 1, i, none⟩ = false := fun i => frozen_of hr
 have HR3 := hid hr
 clear hr c0 c1 c2 e0 e1 e2 t0
 go_wp2_with fail
 obtain ⟨z0, z1, z2⟩ := cells_of (store3 (x0 := .int .i64 R.1) (x1 := .slice ra R.2.1.len rcap) (x2 := .slice rc R.2.2.length rcp) HR3.out rfl)
 refine bodyPost_ret (v := .tuple #[Vv R.1 ra R.2.1.len rcap rc R.2.2.length rcp, .int .i64 0]) (by simp [results, Tryz.results82, go_sem, z0, z1, z2]) rfl ?_
 have hk3 : Kept (fun b => b = B + 1 + 1 + 1) w3 (((w3.setCell ⟨B + 1 + 1 + 1, 0, none⟩ (.int .i64 R.1)).setCell ⟨B + 1 + 1 + 1, 1, none⟩ (.slice ra R.2.1.len rcap)).setCell ⟨B + 1 + 1 + 1, 2, none⟩ (.slice rc R.2.2.length rcp)) := (((Kept.refl (fun b => b = B + 1 + 1 + 1) w3).set (p := ⟨B + 1 + 1 + 1, 0, none⟩) (Or.inl rfl) _).set (p := ⟨B + 1 + 1 + 1, 1, none⟩) (Or.inl rfl) _).set (p := ⟨B + 1 + 1 + 1, 2, none⟩) (Or.inl rfl) _
 have hbe : B = w.heap.size := HB.out
 have hgl := heap_lt HG3.out
 have hs2 := HB2.out.size
 have hbw := HWB.out.trans (HB3.out.mono HWB.out.size)
 refine ⟨ra, rc, rcap, rcp, rfl, ?_, ?_, hbw.trans (hk3.toBelow hbw.size (fun b hb e => by omega))⟩
 ·exact (HRV.out.keptP hk3 (fun b h e => by omega)).weaken (fun b h => by omega)
 ·exact (HRI.out.keptP hk3 (fun b h e => by omega)).weaken (fun b h => by omega)
abbrev toH (tl : List Int) : Int → Int := fun x => tl.getD x.toNat 0
theorem mapC_step (h : Int → Int) {t : V} {j : Nat} {n1 : Int} {k1 : V} {ws1 : List Int} {r1 : V} (f : F) (hd : t.drop j = .cons n1 k1 ws1 r1) (hd1 : t.drop (j + 1) = r1) :
    (t.drop j).mapL h (fun _ => f) = .cons (mapE h f (n1, k1, ws1)).1 (mapE h f (n1, k1, ws1)).2.1 (mapE h f (n1, k1, ws1)).2.2 ((t.drop (j + 1)).mapL h (fun _ => f)) := by
 rw [hd, hd1]
 simp only [V.mapL, mapE]
theorem sys_vf {f : F} {t : V} (h : sysOk f t = true) {i : Nat} (hi : i < t.len) : vFault f t.len (t.el i).1 (t.el i).2.1 (t.el i).2.2 = 0 := by
 obtain ⟨hg, hl, _⟩ := sys_parts h
 have h1 := h
 unfold sysOk at h1
 simp only [Bool.and_eq_true, decide_eq_true_eq] at h1
 have hv := sysL_get h1.2.2.1 hi
 have hst : stFault f t.len = 0 := by unfold stFault; rw [if_pos h1.1, if_pos (by omega)]
 unfold vFault
 rw [hst, if_neg (by omega), if_pos hv]
theorem images_any (S : Nat → Nat → Prop) (S' S2 : Nat → Prop) (f : F) (a na ta : Option Addr) (cap ncap tcap : Nat) (t : V) (tl : List Int) (w : World) (hs : Sl S w a f.t) (hv : Vl S' w na t) (hk : Kinds w) (hti : Ints S2 w ta tl) (hok : sysOk f t = true) (hm : tl.length = t.len) (hall : tl.all (fun x => decide (0 ≤ x ∧ x < 100)) = true) :
    Calls Tryz.prog 44 #[Sv f a cap na t.len ncap, .slice ta tl.length tcap] w fun e w' => ∃ ra rcap, e = .returned (.slice ra t.len rcap) ∧ Vl (fun b => w.heap.size ≤ b) w' ra (t.mapL (toH tl) (fun _ => f)) ∧ Below w.heap.size w w' := by
 obtain ⟨i1, hi1, hv0, hv1, hv2⟩ := info_parts infoV
 obtain ⟨k, hkk⟩ : ∃ k, k = f.k := ⟨_, rfl⟩
 have hfv : Sv f a cap na t.len ncap = .agg #[.int .i64 k, .int .i64 f.n, .slice a f.t.len cap, .slice na t.len ncap] := by rw [hkk]
 have hfv2 : f.val a cap = .agg #[.int .i64 k, .int .i64 f.n, .slice a f.t.len cap] := by rw [hkk]
 rw [hfv]
 have hsp := sys_parts hok
 have HVM := hid (fun z (hz : Below w.heap.size w z) j (hj : j < t.len) a' c cap' cp (h1 : Vl S' w a' (t.el j).2.1) (h2 : Ints S' w c (t.el j).2.2) => vmap_any S S' S2 f (t.el j).1 (t.el j).2.1 (t.el j).2.2 tl a a' c ta cap cap' cp tcap t.len z (hs.below hz) (h1.below hz) (h2.below hz) (hk.below hz) (hti.below hz) (sys_vf hok hj) hsp.1 (hsp.2.2 j hj) hm hall)
 rw [hfv2, hm] at HVM
 have hN100 := hsp.2.1
 obtain ⟨W, hW⟩ : ∃ W : World, W = w.alloc (Obj.cells #[.int .i64 k, .int .i64 f.n, .slice a f.t.len cap, .slice na t.len ncap] 27) := ⟨_, rfl⟩
 have hWb : Below w.heap.size w W := by rw [hW]; exact ba _ _
 obtain ⟨B, hB⟩ : ∃ B, B = w.heap.size := ⟨_, rfl⟩
 have g0 : W.heap[B]? = some (Obj.cells #[.int .i64 k, .int .i64 f.n, .slice a f.t.len cap, .slice na t.len ncap] 27 (0, 0)) := by rw [hW, hB]; exact heap_new _ _
 have HV := hid hv
 have HG0 := hid g0
 have HWB := hid hWb
 have HB := hid hB
 have hlen := hv.1
 have hlt := hti.1
 rw [hm] at hlt ⊢
 obtain ⟨N, hN⟩ : ∃ N, N = t.len := ⟨_, rfl⟩
 rw [← hN] at HVM hlen hlt HG0 hN100 ⊢
 have HN := hid hN
 obtain ⟨c0, c1, c2, c3⟩ := cells4' g0
 rw [← hN] at c3
 rw [← hN] at hW
 clear hs hv hk hti hok hsp hkk hfv hfv2 hWb g0 hN hm hall
 go_enter Tryz.func44, Tryz.ntmps44
 go_upto_region 1 with (fail)
 rw [← hW, ← hB]
 clear hW hB
 go_wp2_with fail
 go_loopw [5, 7, 8, 9, 13] (fun z _ _ _ i wr => ∃ (j : Nat) (va : Value) (xs : List Value) (ks : V), j ≤ N ∧ va = z ∧ i = .int .i64 j ∧ wr.ownsRow W.heap.size 58 3 va j xs ∧ ks.Row (fun b => W.heap.size ≤ b ∧ some b ≠ va.ownBlock) wr xs ∧ ks.len = j ∧ t.mapL (toH tl) (fun _ => f) = ks.app ((t.drop j).mapL (toH tl) (fun _ => f)) ∧ Below W.heap.size W wr) (fun _ _ _ _ i _ => N - (intOf i).toNat)
 case atStart => exact ⟨0, _, [], .nil, Nat.zero_le _, rfl, rfl, World.ownsRow_nil _ _ _ _, rfl, rfl, by simp [V.app], Below.refl _ _⟩
 case round =>
  obtain ⟨j, va, xs, ks, hj, rfl, rfl, hown, hrow, hkl, hmp, hb⟩ := hrel
  have HO := hid hown
  have HROW := hid hrow
  have HKL := hid hkl
  have HMP := hid hmp
  have HBB := hid hb
  clear hown hrow hkl hmp c0 c1 c2 c3
  by_cases hlt2 : j < N
  ·have hjt : j < t.len := by rw [← HN.out]; exact hlt2
   obtain ⟨b, o, rfl, hat⟩ := HV.out.addr hjt
   obtain ⟨n1, k1, ws1, r1, hd, hd1⟩ := V.drop_lt hjt
   obtain ⟨d0, ⟨a1, cap1, d1, hv1'⟩, ⟨c1', cp1, d2, hi1'⟩⟩ := hat.get hd
   have hbw : Below w.heap.size w wr := HWB.out.trans (hb.mono HWB.out.size)
   replace d0 := cell_below hbw d0
   replace d1 := cell_below hbw d1
   replace d2 := cell_below hbw d2
   have HMS := hid (mapC_step (toH tl) f hd hd1)
   have hvm := fun z hz => HVM.out z hz j hlt2 a1 c1' cap1 cp1 (by rw [V.el_drop hd]; exact hv1') (by rw [V.el_drop hd]; exact hi1')
   rw [V.el_drop hd] at hvm
   obtain ⟨X, hX⟩ : ∃ X : World, X = wr.alloc (Obj.cells #[.int .i64 n1, .slice a1 k1.len cap1, .slice c1' ws1.length cp1] 58) := ⟨_, rfl⟩
   obtain ⟨xb, hxb⟩ : ∃ xb, xb = wr.heap.size := ⟨_, rfl⟩
   have hXb : X.heap[xb]? = some (Obj.cells #[.int .i64 n1, .slice a1 k1.len cap1, .slice c1' ws1.length cp1] 58 (0, 0)) := by rw [hX, hxb]; exact heap_new _ _
   have hwX : Below wr.heap.size wr X := by rw [hX]; exact ba _ _
   have HXW := hid (hb.trans (hwX.mono hb.size))
   have HVX := hid (hvm X (hbw.trans (hwX.mono hbw.size)))
   have HOX := hid (row_below HO.out hwX)
   have HRX := hid (V.Row.mono (S := fun b => W.heap.size ≤ b ∧ some b ≠ va.ownBlock) (S' := fun b => W.heap.size ≤ b ∧ some b ≠ va.ownBlock) (w := wr) (w' := X) (fun _ _ hv => hv.below hwX) (fun _ _ hv => hv.below hwX) HROW.out)
   obtain ⟨x0, x1, x2⟩ := cells_of hXb
   obtain ⟨c0, c1, c2, c3⟩ := cells4' ((HXW.out.block _ (heap_lt HG0.out)).trans HG0.out)
   obtain ⟨r, hr⟩ : ∃ r, r = mapE (toH tl) f (n1, k1, ws1) := ⟨_, rfl⟩
   rw [show mapE (fun x => tl.getD x.toNat 0) f (n1, k1, ws1) = r from hr.symm] at HVX
   rw [← hr] at HMS
   have hsX := HXW.out.size
   have hjn : j ≤ 100 := by omega
   clear hat hd hd1 hv1' hi1' hbw hvm hb hXb hwX hr
   go_upto_region 5 with (fail)
   rw [← hX, ← hxb]
   clear hX hxb d0 d1 d2
   go_upto_region 6 with (go_at_call 82; refine HVX.out.mono ?_; rintro e w2 ⟨ra, rc, rcap, rcp, rfl, hrv, hri, hb2⟩; have HB2 := hid hb2; have HRV := hid hrv; have HRI := hid hri; clear hb2 hrv hri)
   have hs2 := HB2.out.size
   have HOW := hid (row_below HOX.out HB2.out)
   go_wp2_with (at_builtin; refine wpList_append_own_at _ rfl _ _ 25 rfl W.heap.size 58 i1 (.agg #[.int .i64 0, .slice none 0 0, .slice none 0 0]) 3 56 Tryz.underlying25 hi1 hv0 hv1 hv2 rfl (by decide) _ _ _ rfl ((HOW.out.alloc _).alloc _) ⟨w2.heap.size + 1, 0, none⟩ 1 1 [.int .i64 r.1, .slice ra r.2.1.len rcap, .slice rc r.2.2.length rcp] rfl rfl (fun j u hu => World.news_of_block (heap_new2 _ _ _) j u hu) (by intro z hz; simp at hz; rcases hz with rfl | rfl | rfl <;> rfl) (by unfold maxLen; omega) (by omega) (by simp; omega) ?_; intro v' w3 hown' hgrow _ hat; have HO3 := hid hown'; have HGR3 := hid (show ((w2.alloc (Obj.cells #[.int .i64 r.1, .slice ra r.2.1.len rcap, .slice rc r.2.2.length rcp] 58)).alloc (Obj.cells #[.int .i64 r.1, .slice ra r.2.1.len rcap, .slice rc r.2.2.length rcp] 58)).grownBy w3 va.ownBlock from hgrow); have HAT := hid (show v'.ownBlock = va.ownBlock ∨ v'.ownBlock = some ((w2.alloc (Obj.cells #[.int .i64 r.1, .slice ra r.2.1.len rcap, .slice rc r.2.2.length rcp] 58)).alloc (Obj.cells #[.int .i64 r.1, .slice ra r.2.1.len rcap, .slice rc r.2.2.length rcp] 58)).heap.size from hat); clear hown' hgrow hat)
   go_roundw
   case rel =>
    have hvl : ∀ q, va.ownBlock = some q → W.heap.size ≤ q ∧ q < X.heap.size := fun q hq => HOX.out.lt q hq
    have hal := ((Below.refl w2.heap.size w2).alloc (Nat.le_refl _) (Obj.cells #[.int .i64 r.1, .slice ra r.2.1.len rcap, .slice rc r.2.2.length rcp] 58)).alloc (by simp) (Obj.cells #[.int .i64 r.1, .slice ra r.2.1.len rcap, .slice rc r.2.2.length rcp] 58)
    have hnew : ∀ b, b < w2.heap.size → some b ≠ va.ownBlock → some b ≠ v'.ownBlock := by
     intro b hb hne e
     rcases HAT.out with h | h
     ·exact hne (e.trans h)
     ·rw [h] at e; have := Option.some.inj e; simp at this; omega
    have hst : ∀ (P : Nat → Prop) (a : Option Addr) (u : V), Vl P w2 a u → (∀ b, P b → W.heap.size ≤ b ∧ some b ≠ va.ownBlock) → Vl (fun b => W.heap.size ≤ b ∧ some b ≠ v'.ownBlock) w3 a u := fun P a u h hP => (h.lt.below hal).grown HGR3.out (fun b hb _ => ⟨⟨(hP b hb.1).1, hnew b hb.2 (hP b hb.1).2⟩, (hP b hb.1).2⟩)
    have hsi : ∀ (P : Nat → Prop) (a : Option Addr) (u : List Int), Ints P w2 a u → (∀ b, P b → W.heap.size ≤ b ∧ some b ≠ va.ownBlock) → Ints (fun b => W.heap.size ≤ b ∧ some b ≠ v'.ownBlock) w3 a u := fun P a u h hP => (h.lt.below hal).grown HGR3.out (fun b hb _ => ⟨⟨(hP b hb.1).1, hnew b hb.2 (hP b hb.1).2⟩, (hP b hb.1).2⟩)
    have hPn : ∀ b, X.heap.size ≤ b → W.heap.size ≤ b ∧ some b ≠ va.ownBlock := fun b h => ⟨by omega, fun e => by have := (hvl b e.symm).2; omega⟩
    refine ⟨j + 1, v', _, ks.app (.cons r.1 r.2.1 r.2.2 .nil), by omega, rfl, by go_num, HO3.out, V.Row.app (V.Row.mono (fun a u h => hst _ a u (h.below HB2.out) (fun b h => h)) (fun a u h => hsi _ a u (h.below HB2.out) (fun b h => h)) HRX.out) (show (V.cons r.1 r.2.1 r.2.2 .nil).Row (fun b => W.heap.size ≤ b ∧ some b ≠ v'.ownBlock) w3 [.int .i64 r.1, .slice ra r.2.1.len rcap, .slice rc r.2.2.length rcp] from ⟨ra, rcap, rc, rcp, [], rfl, hst _ _ _ HRV.out hPn, hsi _ _ _ HRI.out hPn, rfl⟩), by rw [V.app_len, HKL.out]; rfl, ?_, ?_⟩
    ·rw [HMP.out, HMS.out, V.app_assoc]
     rfl
    ·exact ((((HXW.out.trans (HB2.out.mono HXW.out.size)).alloc (by omega) _).alloc (by simp; omega) _).grown HGR3.out (by simp; omega) (fun q hq => (hvl q hq).1))
   case measure => simp [intOf]; omega
  ·obtain rfl : j = N := by omega
   have hks : t.mapL (toH tl) (fun _ => f) = ks := by
    rw [HMP.out, HN.out, V.drop_all]
    simp only [V.mapL, V.app_nil]
   obtain ⟨va1, vcap, hve, hvl⟩ := vl_of_row (S := fun b => W.heap.size ≤ b ∧ some b ≠ va.ownBlock) (S' := fun b => w.heap.size ≤ b) (t := ks) (by rw [HKL.out]; omega) (by rw [HKL.out]; exact HO.out) HROW.out (fun q hq => by have := HWB.out.size; omega) (fun q _ hq => by have := HWB.out.size; omega)
   rw [HKL.out] at hve
   subst hve
   have HVL := hid hvl
   have HKS := hid hks
   clear hks hvl hb
   go_wp2_with fail
   go_ret
   exact ⟨va1, ⟨vcap, rfl⟩, by rw [HKS.out]; exact HVL.out, HWB.out.trans (HBB.out.mono HWB.out.size)⟩
end Go.Proofs.YtcekilcgpgjooaaGreatDoor
