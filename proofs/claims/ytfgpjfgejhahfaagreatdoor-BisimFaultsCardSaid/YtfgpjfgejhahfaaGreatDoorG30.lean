/- Proved here: contracts of the walk to BisimFaults: the reference's Related at the kinds of one or more parts; each under the conditions that its own statement names. -/
import Derived.Test.YtfgpjfgejhahfaaGreatDoorG29
set_option maxRecDepth 100000
set_option maxHeartbeats 6400000
namespace Go.Proofs.YtfgpjfgejhahfaaGreatDoor
open Go Go.RowKit
open Go.Lib (hid)
structure Box3 (bf : Nat) (f : F) (n n' : Int) (t t' : V) (ws ws' : List Int) (a a1 a2 c1 c2 : Option Addr) (cap cap1 cap2 cp1 cp2 : Nat) (W : World) : Prop where
 f : W.heap[bf]? = some (Obj.cells #[.int .i64 f.k, .int .i64 f.n, .slice a f.t.len cap] 24 (0, 0))
 u : W.heap[bf + 1]? = some (Obj.cells #[.int .i64 n, .slice a1 t.len cap1, .slice c1 ws.length cp1] 28 (0, 0))
 v : W.heap[bf + 2]? = some (Obj.cells #[.int .i64 n', .slice a2 t'.len cap2, .slice c2 ws'.length cp2] 28 (0, 0))
theorem box3_made (w : World) {f : F} {n n' : Int} {t t' : V} {ws ws' : List Int} {a a1 a2 c1 c2 : Option Addr} {cap cap1 cap2 cp1 cp2 : Nat} {W : World}
    (hW : W = ((w.alloc (Obj.cells #[.int .i64 f.k, .int .i64 f.n, .slice a f.t.len cap] 24)).alloc (Obj.cells #[.int .i64 n, .slice a1 t.len cap1, .slice c1 ws.length cp1] 28)).alloc (Obj.cells #[.int .i64 n', .slice a2 t'.len cap2, .slice c2 ws'.length cp2] 28)) :
    Box3 w.heap.size f n n' t t' ws ws' a a1 a2 c1 c2 cap cap1 cap2 cp1 cp2 W ∧ Below w.heap.size w W := by
 have h := four_get w (Obj.cells #[.int .i64 f.k, .int .i64 f.n, .slice a f.t.len cap] 24) (Obj.cells #[.int .i64 n, .slice a1 t.len cap1, .slice c1 ws.length cp1] 28) (Obj.cells #[.int .i64 n', .slice a2 t'.len cap2, .slice c2 ws'.length cp2] 28) (Obj.cells #[] 28)
 rw [← hW] at h
 have hs : W.heap.size = w.heap.size + 3 := by rw [hW]; simp
 refine ⟨⟨?_, ?_, ?_⟩, by rw [hW]; exact (ba2 _ _ _).alloc (by simp; omega) _⟩
 ·rw [← h.1]; exact (Below.heap_alloc _ _ _ (by omega)).symm
 ·rw [← h.2.1]; exact (Below.heap_alloc _ _ _ (by omega)).symm
 ·rw [← h.2.2.1]; exact (Below.heap_alloc _ _ _ (by omega)).symm
def RelR (t : V) : Prop := ∀ (nn mm : Nat) (rel : Nat → Nat → Bool) (r : List (Int × Int)) (RB : F → Int × V × List Int → Int × V × List Int → Bool) (S : Nat → Nat → Prop) (S' Sr : Nat → Prop)
 (f : F) (n n' : Int) (t' : V) (ws ws' : List Int) (a a1 a2 c1 c2 ar : Option Addr) (cap cap1 cap2 cp1 cp2 capr : Nat) (w : World),
 (∀ x y : Nat, rel x y = decide (((x : Int), (y : Int)) ∈ r)) → (∀ f u v, RB f u v = true ↔ relV (tells rel) f u v) → Sl S w a f.t → Vl S' w a1 t → Ints S' w c1 ws → Vl S' w a2 t' → Ints S' w c2 ws' → Prs Sr w ar r →
 f.t.len ≤ cap → f.good = true → okV nodeOk nn f n t ws = true → okV nodeOk mm f n' t' ws' = true →
 Calls Tryz.prog 16 #[f.val a cap, Vv n a1 t.len cap1 c1 ws.length cp1, Vv n' a2 t'.len cap2 c2 ws'.length cp2, .slice ar r.length capr] w fun e w' => e = .returned (.bool (RB f (n, t, ws) (n', t', ws'))) ∧ Below w.heap.size w w'
theorem relR0_any {t : V} {nn mm : Nat} {rel : Nat → Nat → Bool} {r : List (Int × Int)} {RB : F → Int × V × List Int → Int × V × List Int → Bool} {Sr : Nat → Prop}
    {fn : Int} {ft : T} {n n' : Int} {t' : V} {ws ws' : List Int} {a a1 a2 c1 c2 ar : Option Addr} {cap cap1 cap2 cp1 cp2 capr : Nat} {w : World}
    (hrel : ∀ x y : Nat, rel x y = decide (((x : Int), (y : Int)) ∈ r)) (hRB : ∀ f u v, RB f u v = true ↔ relV (tells rel) f u v) (hr : Prs Sr w ar r)
    (hu : okV nodeOk nn ⟨0, fn, ft⟩ n t ws = true) (hu' : okV nodeOk mm ⟨0, fn, ft⟩ n' t' ws' = true) :
    Calls Tryz.prog 16 #[F.val ⟨0, fn, ft⟩ a cap, Vv n a1 t.len cap1 c1 ws.length cp1, Vv n' a2 t'.len cap2 c2 ws'.length cp2, .slice ar r.length capr] w fun e w' => e = .returned (.bool (RB ⟨0, fn, ft⟩ (n, t, ws) (n', t', ws'))) ∧ Below w.heap.size w w' := by
 obtain ⟨W, hW⟩ : ∃ W : World, W = ((w.alloc (Obj.cells #[.int .i64 0, .int .i64 fn, .slice a ft.len cap] 24)).alloc (Obj.cells #[.int .i64 n, .slice a1 t.len cap1, .slice c1 ws.length cp1] 28)).alloc (Obj.cells #[.int .i64 n', .slice a2 t'.len cap2, .slice c2 ws'.length cp2] 28) := ⟨_, rfl⟩
 obtain ⟨hx, hWb⟩ := box3_made (f := ⟨0, fn, ft⟩) w hW
 have f1 := okV_fields hu
 have f2 := okV_fields hu'
 have hn : 0 ≤ n ∧ n < nn := by unfold vFields numbersOf at f1; simp at f1; omega
 have hn' : 0 ≤ n' ∧ n' < mm := by unfold vFields numbersOf at f2; simp at f2; omega
 have hcall := hasP_any Sr ar capr r (n, n') W (hr.below hWb)
 simp only [Pv] at hcall
 have HRE := hid (show decide ((n, n') ∈ r) = RB ⟨0, fn, ft⟩ (n, t, ws) (n', t', ws') by
  have h1 := hRB ⟨0, fn, ft⟩ (n, t, ws) (n', t', ws')
  have h2 : relV (tells rel) ⟨0, fn, ft⟩ (n, t, ws) (n', t', ws') = (decide ((n, n') ∈ r) = true) := by
   have e1 : ((n.toNat : Nat) : Int) = n := by omega
   have e2 : ((n'.toNat : Nat) : Int) = n' := by omega
   unfold relV nodeRel tells; simp [hrel, e1, e2]
  rw [h2] at h1
  exact (Bool.eq_iff_iff.2 h1).symm)
 obtain ⟨b0, b1, b2⟩ := cells_of hx.f
 obtain ⟨b3, b4, b5⟩ := cells_of hx.u
 obtain ⟨b6, b7, b8⟩ := cells_of hx.v
 simp only at b0 b1 b2
 obtain ⟨bf, hbf⟩ : ∃ bf, bf = w.heap.size := ⟨_, rfl⟩
 rw [← hbf] at b0 b1 b2 b3 b4 b5 b6 b7 b8
 have HWB := hid hWb
 clear hrel hRB hr hu hu' hx hWb f1 f2 hn hn'
 go_enter Tryz.func16, Tryz.ntmps16
 go_wp2_with fail
 rw [← hW, ← hbf]
 clear hW hbf
 go_wp2_with fail
 refine hcall.mono ?_
 rintro e w2 ⟨rfl, hb2⟩
 go_wp2_with fail
 go_ret
 exact ⟨by rw [← HRE.out]; rfl, HWB.out.trans (hb2.mono HWB.out.size)⟩
theorem relNon {P : Int → Int → Prop} {f : F} {m m' n n' : Int} {t t' : V} {ws ws' : List Int} (hg : f.good = true) (hk : f.k = 1 ∨ f.k = 2 ∨ f.k = 3 ∨ f.k = 4) (hu : okV nodeOk m f n t ws = true) (hu' : okV nodeOk m' f n' t' ws' = true) :
    (relV P f (n, t, ws) (n', t', ws') ↔ n = n' ∧ ∀ i, i < t.len → relV P (f.part n i) (t.el i) (t'.el i)) ∧ t'.len = t.len := by
 have h1 := okV_fields hu
 have h2 := okV_fields hu'
 unfold vFields at h1 h2
 simp only [Bool.and_eq_true, decide_eq_true_eq] at h1 h2
 have h3 : (t'.len : Int) = t.len := by
  rw [h1.1.2.2, h2.1.2.2]
  unfold argsOf
  rcases hk with h | h | h | h <;> rw [h] <;> simp
 have hgl := (F.good_len hg).1
 refine ⟨?_, by omega⟩
 have ha := h1.1
 have hb := h2.1
 unfold numbersOf argsOf at ha hb
 rcases hk with h | h | h | h
 ·rw [h] at ha hb
  simp at ha hb
  unfold relV nodeRel
  rw [if_neg (by omega), if_pos h]
  simp only
  constructor
  ·intro e; exact ⟨e, fun i hi => by omega⟩
  ·intro e; exact e.1
 ·rw [h] at ha hb
  simp at ha hb
  unfold relV nodeRel
  rw [if_neg (by omega), if_neg (by omega), if_pos h]
  simp only
  rw [relE_el _ _ (by omega), relE_el _ _ (by omega)]
  have e0 : f.part n 0 = f.t.get 0 := by unfold F.part; rw [if_pos h]
  have e1 : f.part n 1 = f.t.get 1 := by unfold F.part; rw [if_pos h]
  constructor
  ·rintro ⟨x, y⟩
   refine ⟨by omega, fun i hi => ?_⟩
   rcases (show i = 0 ∨ i = 1 by omega) with rfl | rfl
   ·rw [e0]; exact x
   ·rw [e1]; exact y
  ·rintro ⟨_, x⟩
   exact ⟨by rw [← e0]; exact x 0 (by omega), by rw [← e1]; exact x 1 (by omega)⟩
 ·rw [h] at ha hb
  simp at ha hb
  unfold relV nodeRel
  rw [if_neg (by omega), if_neg (by omega), if_neg (by omega), if_pos h]
  simp only
  rw [relE_el _ _ (by omega)]
  have e0 : f.part n 0 = f.t.get n.toNat := by unfold F.part; rw [if_neg (by omega), if_pos h]
  constructor
  ·rintro ⟨x, y⟩
   refine ⟨x, fun i hi => ?_⟩
   have : i = 0 := by omega
   subst this
   rw [e0]; exact y
  ·rintro ⟨x, y⟩
   exact ⟨x, by rw [← e0]; exact y 0 (by omega)⟩
 ·rw [h] at ha hb
  simp at ha hb
  unfold relV nodeRel
  rw [if_neg (by omega), if_neg (by omega), if_neg (by omega), if_neg (by omega), if_pos h]
  simp only
  have e0 : ∀ i, f.part n i = f.t.get 0 := fun i => by unfold F.part; rw [if_neg (by omega), if_neg (by omega)]
  constructor
  ·intro x
   refine ⟨by omega, fun i hi => ?_⟩
   rw [e0]
   exact (relE_el (fun _ => f.t.get 0) _ hi).1 (x i (by omega))
  ·rintro ⟨_, x⟩ i hi
   refine (relE_el (fun _ => f.t.get 0) _ (by omega)).2 ?_
   have := x i (by omega)
   rwa [e0] at this
theorem partsOk_of {f : F} {m n : Int} {t : V} {ws : List Int} (hk : f.k = 1 ∨ f.k = 2 ∨ f.k = 3 ∨ f.k = 4) (hu : okV nodeOk m f n t ws = true) : partsOk f n t.len = true := by
 have h1 := okV_fields hu
 unfold vFields numbersOf argsOf at h1
 simp only [Bool.and_eq_true, decide_eq_true_eq] at h1
 have ha := h1.1
 unfold partsOk
 rcases hk with h | h | h | h <;> rw [h] at ha <;> simp at ha <;> simp [h] <;> omega
theorem relRn_any {t : V} (ih : t.Elems RelR) {nn mm : Nat} {rel : Nat → Nat → Bool} {r : List (Int × Int)} {RB : F → Int × V × List Int → Int × V × List Int → Bool} {S : Nat → Nat → Prop} {S' Sr : Nat → Prop}
    {f : F} {n n' : Int} {t' : V} {ws ws' : List Int} {a a1 a2 c1 c2 ar : Option Addr} {cap cap1 cap2 cp1 cp2 capr : Nat} {w : World}
    (hrel : ∀ x y : Nat, rel x y = decide (((x : Int), (y : Int)) ∈ r)) (hRB : ∀ f u v, RB f u v = true ↔ relV (tells rel) f u v) (hs : Sl S w a f.t) (hv : Vl S' w a1 t) (hv' : Vl S' w a2 t') (hr : Prs Sr w ar r)
    (hc : f.t.len ≤ cap) (hg : f.good = true) (hk : f.k = 1 ∨ f.k = 2 ∨ f.k = 3 ∨ f.k = 4) (hu : okV nodeOk nn f n t ws = true) (hu' : okV nodeOk mm f n' t' ws' = true) :
    Calls Tryz.prog 16 #[f.val a cap, Vv n a1 t.len cap1 c1 ws.length cp1, Vv n' a2 t'.len cap2 c2 ws'.length cp2, .slice ar r.length capr] w fun e w' => e = .returned (.bool (RB f (n, t, ws) (n', t', ws'))) ∧ Below w.heap.size w w' := by
 obtain ⟨W, hW⟩ : ∃ W : World, W = ((w.alloc (Obj.cells #[.int .i64 f.k, .int .i64 f.n, .slice a f.t.len cap] 24)).alloc (Obj.cells #[.int .i64 n, .slice a1 t.len cap1, .slice c1 ws.length cp1] 28)).alloc (Obj.cells #[.int .i64 n', .slice a2 t'.len cap2, .slice c2 ws'.length cp2] 28) := ⟨_, rfl⟩
 obtain ⟨hx, hWb⟩ := box3_made w hW
 have hk0 : ¬ f.k = 0 := by omega
 have hcoll : coll f.k = false := by unfold coll; rw [decide_eq_false (by omega)]
 obtain ⟨hR1, hR2⟩ := relNon (P := tells rel) hg hk hu hu'
 have hL : t.len ≤ 1000000 := by
  have h1 := okV_fields hu
  have h2 := F.good_n hg
  unfold vFields numbersOf argsOf at h1
  simp only [Bool.and_eq_true, decide_eq_true_eq] at h1
  have ha := h1.1
  rcases hk with h | h | h | h <;> rw [h] at ha <;> simp at ha <;> omega
 have HBX := hid (fun x (hb : Below W.heap.size W x) => And.intro (cells_of ((hb.block _ (heap_lt hx.f)).trans hx.f)) (And.intro (cells_of ((hb.block _ (heap_lt hx.u)).trans hx.u)) (cells_of ((hb.block _ (heap_lt hx.v)).trans hx.v))))
 obtain ⟨⟨b0, b1, b2⟩, ⟨b3, b4, b5⟩, b6, b7, b8⟩ := HBX.out W (Below.refl _ _)
 obtain ⟨bf, hbf⟩ : ∃ bf, bf = w.heap.size := ⟨_, rfl⟩
 rw [← hbf] at b0 b1 b2 b3 b4 b5 b6 b7 b8 HBX
 have HWB := hid hWb
 have HSl := hid (hs.below hWb)
 have HV := hid (hv.below hWb)
 have HV2 := hid (hv'.below hWb)
 have HP := hid (hr.below hWb)
 have HRE := hid hrel
 have HRB := hid hRB
 have HR1 := hid ((hRB f (n, t, ws) (n', t', ws')).trans hR1)
 have HU := hid (And.intro hu hu')
 have HG := hid (And.intro hc (And.intro hg hk))
 have IH := hid ih
 obtain ⟨R, hR⟩ : ∃ R, R = RB f (n, t, ws) (n', t', ws') := ⟨_, rfl⟩
 rw [← hR] at HR1 ⊢
 obtain ⟨N, hN⟩ : ∃ N, N = t.len := ⟨_, rfl⟩
 have HN := hid hN
 rw [hR2, ← hN]
 rw [hR2] at b7 HBX hW
 rw [← hN] at b4 b7 HBX hL hW
 have HN2 := hid (hR2.trans hN.symm)
 clear hrel hRB hs hv hv' hr hc hg hu hu' hx hWb hR hR1 hk ih hN hR2
 go_enter Tryz.func16, Tryz.ntmps16
 go_wp2_with fail
 rw [← hW, ← hbf]
 clear hW hbf
 refine (sets_any f.k W).mono ?_
 rintro e w' ⟨rfl, rfl⟩
 rw [hcoll]
 by_cases hnn : n = n'
 rotate_left
 ·go_wp2_with fail
  go_ret
  refine ⟨?_, HWB.out⟩
  cases R
  ·rfl
  ·exact absurd (HR1.out.1 rfl).1 hnn
 ·subst hnn
  go_wp2_with fail
  refine (parts_any S f a a1 c1 cap cap1 cp1 n N ws.length W HSl.out HG.out.1 HG.out.2.1 hL).mono ?_
  rintro e w2 ⟨pt, pa, pcap, hy⟩
  obtain ⟨he, hsl, hb2, hget⟩ := hy
  subst he
  have hpo := partsOk_of HG.out.2.2 HU.out.1
  rw [← HN.out] at hpo
  rw [hpo]
  obtain ⟨hpl, hpg⟩ := hget hpo
  have HPT := hid (And.intro hsl hpg)
  have HB2 := hid hb2
  have HNN := hid hpl
  obtain ⟨⟨b0, b1, b2⟩, ⟨b3, b4, b5⟩, b6, b7, b8⟩ := HBX.out w2 hb2
  rw [hpl]
  clear hsl hpg hpo hb2 hget
  go_wp2_with fail
  clear b0 b1 b2 b3 b4 b5 b6 b7 b8
  have HALLX := hid (fun x (hx : Below w2.heap.size w2 x) => HBX.out x (HB2.out.trans (hx.mono HB2.out.size)))
  go_loopw [46] (fun i wr => ∃ j : Nat, j ≤ N ∧ i = .int .i64 j ∧ (∀ x, x < j → RB (f.part n x) (t.el x) (t'.el x) = true) ∧ Below w2.heap.size w2 wr) (fun i _ => N - (intOf i).toNat)
  case atStart => exact ⟨0, Nat.zero_le _, rfl, fun x h => by omega, Below.refl _ _⟩
  case round =>
   obtain ⟨j, hj, rfl, hall, hb⟩ := hrel
   have HAL := hid hall
   have HB := hid hb
   by_cases hlt : j < N
   ·obtain ⟨pb, po, rfl, hpat⟩ := HPT.out.1.addr (i := j) (by rw [HNN.out]; exact hlt)
    obtain ⟨gk, gn, gt, grest, hgd, _⟩ := T.drop_lt (t := pt) (i := j) (by rw [HNN.out]; exact hlt)
    obtain ⟨_, p0, p1, ga, gcap, p2, hgs, hgc⟩ := hpat.getc hgd
    have hgg : f.part n j = ⟨gk, gn, gt⟩ := by rw [← HPT.out.2 j hlt]; exact T.get_drop _ _ _ _ _ _ hgd
    have hb3j := Nat.mul_comm 3 j
    rw [hb3j] at p0 p1 p2
    obtain ⟨ub, uo, ua, uc, uw, ud, rfl, _, u0, u1, u2, hus, hui⟩ := HV.out.el (i := j) (by rw [← HN.out]; exact hlt)
    obtain ⟨vb, vo, va, vc, vw, vd, rfl, _, v0, v1, v2, hvs, hvi⟩ := HV2.out.el (i := j) (by rw [HN2.out]; exact hlt)
    have ok1 := ok_el HU.out.1 (i := j) (by rw [← HN.out]; exact hlt)
    have ok2 := ok_el HU.out.2 (i := j) (by rw [HN2.out]; exact hlt)
    have hgp := good_part HG.out.2.1 (okV_fields HU.out.1) (i := j) (by rw [← HN.out]; exact hlt)
    have IHj : RelR (t.el j).2.1 := by
     obtain ⟨n1, k1, ws1, r1, hd, _⟩ := V.drop_lt (t := t) (i := j) (by rw [← HN.out]; exact hlt)
     have h := IH.out j n1 k1 ws1 r1 hd
     rw [V.el_drop hd]
     exact h
    obtain ⟨q, hq⟩ : ∃ q, q = RB (f.part n j) (t.el j) (t'.el j) := ⟨_, rfl⟩
    have HQ := hid hq
    rw [hgg] at ok1 ok2 hgp hq
    obtain ⟨⟨n1, t1, w1'⟩, ht1⟩ : ∃ z, z = t.el j := ⟨_, rfl⟩
    obtain ⟨⟨n2, t2, w2'⟩, ht2⟩ : ∃ z, z = t'.el j := ⟨_, rfl⟩
    rw [← ht1] at u0 u1 u2 hus hui ok1 IHj hq
    rw [← ht2] at v0 v1 v2 hvs hvi ok2 hq
    simp only at u0 u1 u2 hus hui v0 v1 v2 hvs hvi ok1 ok2 IHj
    have hfar : ∀ x, Below w2.heap.size w2 x → Below W.heap.size W x := fun x hx => HB2.out.trans (hx.mono HB2.out.size)
    have keep : ∀ {b o : Nat} {v : Value} (x : World), Below w2.heap.size w2 x → w2.cell? ⟨b, o, none⟩ = some v → x.cell? ⟨b, o, none⟩ = some v := fun x hx h => by
     rw [World.cell?_of_block (w := w2) (a := ⟨_, _, none⟩) (hx.block _ (lt_of_cell h))]; exact h
    have keepW : ∀ {b o : Nat} {v : Value} (x : World), Below w2.heap.size w2 x → W.cell? ⟨b, o, none⟩ = some v → x.cell? ⟨b, o, none⟩ = some v := fun x hx h => by
     rw [World.cell?_of_block (w := W) (a := ⟨_, _, none⟩) ((hfar x hx).block _ (lt_of_cell h))]; exact h
    have HCL := hid (fun x (hx : Below w2.heap.size w2 x) => IHj nn mm rel r RB _ S' Sr ⟨gk, gn, gt⟩ n1 n2 t2 w1' w2' ga ua va uw vw ar gcap uc vc ud vd capr x HRE.out HRB.out (hgs.below hx) (hus.below (hfar x hx)) (hui.below (hfar x hx)) (hvs.below (hfar x hx)) (hvi.below (hfar x hx)) (HP.out.below (hfar x hx)) hgc hgp ok1 ok2)
    rw [← hq] at HCL
    have HFX := hid (fun x (hx : Below w2.heap.size w2 x) => And.intro (HALLX.out x hx) (And.intro (And.intro (keep x hx p0) (And.intro (keep x hx p1) (keep x hx p2))) (And.intro (And.intro (keepW x hx u0) (And.intro (keepW x hx u1) (keepW x hx u2))) (And.intro (keepW x hx v0) (And.intro (keepW x hx v1) (keepW x hx v2))))))
    clear hall hb hgg hgs hus hui hvs hvi ok1 ok2 IHj ht1 ht2 hgp hpat hgd keep keepW hfar p0 p1 p2 u0 u1 u2 v0 v1 v2 hq hb3j
    go_wp2_with fail
    refine wp_region_plan (by rfl) (fun x => Below w2.heap.size w2 x) [some (.slice (some ⟨pb, po, none⟩) N pcap), some (.int .i64 (j : Int)), some (.pointer (some ⟨pb, po + j * 3, none⟩)), some (F.val ⟨gk, gn, gt⟩ ga gcap), some (.pointer (some ⟨bf + 1, 1, none⟩)), some (.slice (some ⟨ub, uo, none⟩) N cap1), some (.int .i64 (j : Int)), some (.pointer (some ⟨ub, uo + j * 3, none⟩)), some (Vv n1 ua t1.len uc uw w1'.length ud), some (.pointer (some ⟨bf + 1 + 1, 1, none⟩)), some (.slice (some ⟨vb, vo, none⟩) N cap2), some (.int .i64 (j : Int)), some (.pointer (some ⟨vb, vo + j * 3, none⟩)), some (Vv n2 va t2.len vc vw w2'.length vd), some (.slice ar r.length capr), some (.bool q), some (.bool (!q))] ?aF ?haF _ rfl (by kernel_rfl) HB.out.drew ?hall ?hend
    case haF => (simp only [layAll, Act.put, Option.getD_some, List.setIfInBounds_toArray, List.set_cons_zero, List.set_cons_succ]; rfl)
    case hall =>
     repeat (first | (refine Steps.cons (v := none) rfl ?_) | (refine Steps.cons ⟨rfl, fun K x hS hK => ?_⟩ ?_; rotate_left))
     ·exact Steps.nil
     all_goals
      obtain ⟨⟨⟨a0, a1', a2'⟩, ⟨a3, a4, a5⟩, a6, a7, a8⟩, ⟨p0, p1, p2⟩, ⟨u0, u1, u2⟩, v0, v1, v2⟩ := HFX.out x hS
      first
      | (go_simp; exact hK _ hS)
      | (go_simp; refine callAt (args' := #[F.val ⟨gk, gn, gt⟩ ga gcap, Vv n1 ua t1.len uc uw w1'.length ud, Vv n2 va t2.len vc vw w2'.length vd, .slice ar r.length capr]) rfl ?_; refine (HCL.out x hS).mono ?_; rintro e w3 ⟨rfl, hb3⟩; exact hK _ (hS.trans (hb3.mono hS.size)))
    case hend =>
     intro x hx
     have HX := hid hx
     clear hx
     cases q
     ·go_wp2_with fail
      go_ret
      refine ⟨?_, HWB.out.trans ((HB2.out.trans (HX.out.mono HB2.out.size)).mono HWB.out.size)⟩
      cases R
      ·rfl
      ·have h1 := (HR1.out.1 rfl).2 j (by rw [← HN.out]; exact hlt)
       have h2 := (HRB.out _ _ _).2 h1
       rw [← HQ.out] at h2; cases h2
     ·go_wp2_with fail
      go_roundw
      case rel =>
       refine ⟨j + 1, by omega, by go_num, fun y hy => ?_, HX.out⟩
       by_cases e : y = j
       ·subst e; exact HQ.out.symm
       ·exact HAL.out y (by omega)
      case measure => simp [intOf]; omega
   ·obtain rfl : j = N := by omega
    clear hall hb
    go_wp2_with fail
    go_ret
    refine ⟨?_, HWB.out.trans ((HB2.out.trans (HB.out.mono HB2.out.size)).mono HWB.out.size)⟩
    have h : R = true := HR1.out.2 ⟨by first | trivial | rfl, fun x hx => (HRB.out _ _ _).1 (HAL.out x (by rw [HN.out]; exact hx))⟩
    rw [h]; rfl
end Go.Proofs.YtfgpjfgejhahfaaGreatDoor
