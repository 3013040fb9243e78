/- Proved here: contracts of the walk to BisimGraphs: value.Check; each under the conditions that its own statement names. -/
import Derived.Test.YtcekilcgpgjooaaGreatDoorG12
import Derived.Test.YtcekilcgpgjooaaGreatDoorG13
import Derived.Laws.EntriesVeiled
set_option maxRecDepth 100000
set_option maxHeartbeats 6400000
namespace Go.Proofs.YtcekilcgpgjooaaGreatDoor
open Go.RowKit
theorem Vl.othB {P : Nat} {S : Nat → Prop} {w w' : World} {a : Option Addr} {t : V} (h : Vl S w a t) (hS : ∀ b, S b → b ≠ P) (ho : Oth P w w') : Vl S w' a t :=
 h.mono (fun _ h => h) (fun b hb hlt => ho.block b hlt (hS b hb))
theorem Ints.othB {P : Nat} {S : Nat → Prop} {w w' : World} {a : Option Addr} {ws : List Int} (h : Ints S w a ws) (hS : ∀ b, S b → b ≠ P) (ho : Oth P w w') : Ints S w' a ws :=
 h.mono (fun _ h => h) (fun b hb hlt => ho.block b hlt (hS b hb))
structure Vis where
 bn : Nat
 bm : Nat
 bv : Nat
 bo : Nat
 og : Nat
abbrev Vis.ptr (b : Nat) : Value := .pointer (some ⟨b, 0, none⟩)
abbrev Vis.fn (y : Vis) : Value := .func (.func 126) #[] #[Vis.ptr y.bn, Vis.ptr y.bm, Vis.ptr y.bv, Vis.ptr y.bo]
structure Vis.In (y : Vis) (w : World) (m q : Int) : Prop where
 hn : w.heap[y.bn]? = some (Obj.cells #[.int .i64 q] 3 (0, 0))
 hm : w.heap[y.bm]? = some (Obj.cells #[.int .i64 m] 3 (0, 0))
 hv : w.heap[y.bv]? = some (Obj.cells #[y.fn] 131 (0, 0))
 ho : w.heap[y.bo]? = some (Obj.cells #[.func (.func y.og) #[] #[]] 131 (0, 0))
 nm : y.bm ≠ y.bn
 nv : y.bv ≠ y.bn
 no : y.bo ≠ y.bn
theorem Vis.In.oth {y : Vis} {w w' : World} {m q q' : Int} (h : y.In w m q) (ho : Oth y.bn w w') (hn : w'.heap[y.bn]? = some (Obj.cells #[.int .i64 q'] 3 (0, 0))) : y.In w' m q' :=
 ⟨hn, by rw [ho.block _ (heap_lt h.hm) h.nm]; exact h.hm, by rw [ho.block _ (heap_lt h.hv) h.nv]; exact h.hv, by rw [ho.block _ (heap_lt h.ho) h.no]; exact h.ho, h.nm, h.nv, h.no⟩
theorem Vis.In.below {y : Vis} {w w' : World} {m q : Int} (h : y.In w m q) (hb : Below w.heap.size w w') : y.In w' m q :=
 h.oth (oth_of_below hb) (by rw [hb.block _ (heap_lt h.hn)]; exact h.hn)
theorem Vis.In.set {y : Vis} {w : World} {m q q' : Int} (h : y.In w m q) : y.In (w.setCell ⟨y.bn, 0, none⟩ (.int .i64 q')) m q' :=
 h.oth ((Oth.refl _ _).set _ _) (by simp only [World.setCell, Array.getElem?_modify, if_true, h.hn, Option.map_some]; simp)
theorem one_cell {u : World} {b : Nat} {x : Value} {t : TypeId} {fz : Nat × Nat} (h : u.heap[b]? = some (.cells #[x] t fz)) : u.cell? ⟨b, 0, none⟩ = some x := by
 simp [World.cell?, h]
structure VisYes (y : Vis) (w : World) (q : Int) (r : Bool) (c : Nat) (e : Ending) (w' : World) (q' : Int) : Prop where
 e : e = .returned (.bool r)
 hn : w'.heap[y.bn]? = some (Obj.cells #[.int .i64 q'] 3 (0, 0))
 oth : Oth y.bn w w'
 cnt : r = true → q' = q - c
 le : 0 ≤ q' ∧ q' ≤ q
def VisPost (y : Vis) (w : World) (q : Int) (r : Bool) (c : Nat) (e : Ending) (w' : World) : Prop := ∃ q', VisYes y w q r c e w' q'
theorem okL_step {sp : F → V → List Int → Bool} {m : Int} {t : V} {j : Nat} {n1 : Int} {k1 : V} {ws1 : List Int} {rest : V} {f : F} {pn : Int} (h : t.drop j = .cons n1 k1 ws1 rest) (h' : t.drop (j + 1) = rest) :
    okL sp m (t.drop j) f pn j = (okV sp m (f.part pn j) n1 k1 ws1 && okL sp m (t.drop (j + 1)) f pn (j + 1)) := by
 rw [h, h']; rfl
theorem count_step {t : V} {j : Nat} {n1 : Int} {k1 : V} {ws1 : List Int} {rest : V} (h : t.drop j = .cons n1 k1 ws1 rest) (h' : t.drop (j + 1) = rest) :
    (t.drop j).count = 1 + k1.count + (t.drop (j + 1)).count := by
 rw [h, h']; rfl
theorem count_le (t : V) : ∀ j, (t.drop j).count ≤ t.count := by
 induction t with
 | nil => intro i; cases i <;> simp [V.drop]
 | cons n k ws rest _ ihr => intro i; cases i with
  | zero => simp
  | succ i => have := ihr i; simp only [V.drop, V.count]; omega
end Go.Proofs.YtcekilcgpgjooaaGreatDoor
namespace Go.Proofs.YtcekilcgpgjooaaGreatDoor
open Go.RowKit
open Go.Lib (hid)
def VisOkN (t : V) : Prop := ∀ (y : Vis) (S : Nat → Nat → Prop) (S' : Nat → Prop) (f : F) (a a' c : Option Addr) (cap cap' cp : Nat) (n : Int) (ws : List Int) (m q : Int) (w : World), y.og = 94 → Sl S w a f.t → Vl S' w a' t → Ints S' w c ws → (∀ b o, S b o → b ≠ y.bn) → (∀ b, S' b → b ≠ y.bn) → f.good = true → 0 ≤ q → q ≤ 2000 → y.In w m q →
 Calls Tryz.prog 126 #[f.val a cap, Vv n a' t.len cap' c ws.length cp, Vis.ptr y.bn, Vis.ptr y.bm, Vis.ptr y.bv, Vis.ptr y.bo] w (VisPost y w q (okV nodeOk m f n t ws && decide (1 + (t.count : Int) ≤ q)) (1 + t.count))
theorem visN_any : ∀ t : V, VisOkN t := by
 refine V.ind ?_
 intro t ih y S S' f a a' c cap cap' cp n ws m q w hog hs hv hi hS hS' hg hq0 hq1 hy
 obtain ⟨W, hW⟩ : ∃ W : World, W = (w.alloc (Obj.cells #[.int .i64 f.k, .int .i64 f.n, Value.slice a f.t.len cap] 24)).alloc (Obj.cells #[.int .i64 n, Value.slice a' t.len cap', Value.slice c ws.length cp] 58) := ⟨_, rfl⟩
 have hWb : Below w.heap.size w W := by rw [hW]; exact ba2 _ _ _
 have hWs : W.heap.size = w.heap.size + 2 := by rw [hW]; simp
 have hnlt := heap_lt hy.hn
 have k0 : W.heap[w.heap.size]? = some (Obj.cells #[.int .i64 f.k, .int .i64 f.n, Value.slice a f.t.len cap] 24 (0, 0)) := by rw [hW]; exact heap_old2 _ _ _
 have k1 : W.heap[w.heap.size + 1]? = some (Obj.cells #[.int .i64 n, Value.slice a' t.len cap', Value.slice c ws.length cp] 58 (0, 0)) := by rw [hW]; exact heap_new2 _ _ _
 have HE := hid (fun x (hx : Oth y.bn W x) => And.intro (cells_of (show x.heap[w.heap.size]? = _ by rw [hx.block _ (by omega) (by omega)]; exact k0)) (cells_of (show x.heap[w.heap.size + 1]? = _ by rw [hx.block _ (by omega) (by omega)]; exact k1)))
 have hyW := hy.below hWb
 have hsW := hs.below hWb
 have hvW := hv.below hWb
 have hiW := hi.below hWb
 have hlen := hv.1
 have IH := hid ih
 have hrd : okV nodeOk m f n t ws = (vFields f m n t.len ws && (okL nodeOk m t f n 0 && nodeOk f t ws)) := rfl
 obtain ⟨r, hr⟩ : ∃ r, r = (okV nodeOk m f n t ws && decide (1 + (t.count : Int) ≤ q)) := ⟨_, rfl⟩
 rw [← hr]
 rw [hrd] at hr
 have HR := hid hr
 have HOG := hid hog
 have HWO := hid (oth_of_below (pb := y.bn) hWb)
 clear hr hrd ih hs hv hi k0 k1 hog
 obtain ⟨⟨c0, c1, c2⟩, e0, e1, e2⟩ := HE.out _ (Oth.refl _ _)
 have hn0 := one_cell hyW.hn
 have hm0 := one_cell hyW.hm
 have hn0w := hn0
 have hm0w := hm0
 rw [hW] at hn0w hm0w
 by_cases hq : q = 0
 ·have hqq : (q == 0) = true := by simp [hq]
  have HF := hid (show r = false by rw [HR.out, hq]; simp; omega)
  have HN := hid hyW.hn
  clear hq
  go_enter Tryz.func126, Tryz.ntmps126
  go_wp2_with fail
  rw [← hW]
  clear hW hn0w hm0w
  go_ret
  exact ⟨q, by rw [HF.out]; rfl, HN.out, HWO.out, (fun h => by rw [HF.out] at h; cases h), hq0, Int.le_refl _⟩
 have hqq : (q == 0) = false := by simpa using hq
 have hqp : 1 ≤ q := by omega
 clear hq
 have HC := hid (vfields_any S S' f m a a' c cap cap' cp n t ws W hsW hvW hiW)
 go_enter Tryz.func126, Tryz.ntmps126
 go_wp2_with fail
 rw [← hW]
 clear hW hn0w hm0w
 refine HC.out.mono ?_
 rintro e w1 ⟨rfl, hb1⟩
 have ho1 : Oth y.bn W w1 := oth_of_below hb1
 have hy1 := hyW.below hb1
 cases hf : vFields f m n t.len ws
 ·have HF := hid (show r = false by rw [HR.out, hf]; rfl)
  have HN := hid hy1.hn
  clear hf hy1 hyW hn0 hm0 c0 c1 c2 e0 e1 e2 HC
  go_wp2_with fail
  go_ret
  exact ⟨q, by rw [HF.out]; rfl, HN.out, HWO.out.trans ho1, (fun h => by rw [HF.out] at h; cases h), hq0, Int.le_refl _⟩
 have HR2 := hid (show r = ((okL nodeOk m t f n 0 && nodeOk f t ws) && decide (1 + (t.count : Int) ≤ q)) by rw [HR.out, hf]; rfl)
 have HFI := hid hf
 clear hf HR HC hn0 hm0 c0 c1 c2 e0 e1 e2
 obtain ⟨⟨c0, c1, c2⟩, e0, e1, e2⟩ := HE.out _ ho1
 have hn1 := one_cell hy1.hn
 have hnf := frozen_of (o := 0) hy1.hn
 go_wp2_with fail
 obtain ⟨W3, hW3⟩ : ∃ W3, W3 = w1.setCell ⟨y.bn, 0, none⟩ (.int .i64 (q - 1)) := ⟨_, rfl⟩
 have hy3 : y.In W3 m (q - 1) := by rw [hW3]; exact hy1.set
 have ho3 : Oth y.bn W W3 := by rw [hW3]; exact ho1.set _ _
 rw [← hW3]
 clear hW3 hnf hn1 hy1 ho1 hb1 hyW c0 c1 c2 e0 e1 e2
 have hs3 := hsW.othP hS ho3
 have hv3 := hvW.othB hS' ho3
 have hi3 := hiW.othB hS' ho3
 have HY3 := hid hy3
 have hnl := heap_lt hy3.hn
 have hWl := ho3.size
 clear hsW hvW hiW hy3
 go_loopw [25] (fun i wr => ∃ j : Nat, ∃ q1 : Int, j ≤ t.len ∧ i = .int .i64 j ∧ 0 ≤ q1 ∧ q1 ≤ q - 1 ∧ y.In wr m q1 ∧ okL nodeOk m (t.drop j) f n j = okL nodeOk m t f n 0 ∧ q1 + t.count = q - 1 + (t.drop j).count ∧ Oth y.bn W3 wr) (fun i _ => t.len - (intOf i).toNat)
 case atStart => exact ⟨0, q - 1, Nat.zero_le _, rfl, by omega, Int.le_refl _, HY3.out, by simp, by simp, Oth.refl _ _⟩
 case round =>
  obtain ⟨j, q1, hj, rfl, hq10, hq11, hyr, hokr, hcnt, hor⟩ := hrel
  have HOK := hid hokr
  have HCN := hid hcnt
  have HYR := hid hyr
  have hoW := ho3.trans hor
  obtain ⟨⟨c0, c1, c2⟩, e0, e1, e2⟩ := HE.out _ hoW
  clear hokr hcnt hyr
  have hWr := hor.size
  have hrl := heap_lt HYR.out.hn
  by_cases hlt : j < t.len
  ·obtain ⟨b, o, rfl, hat⟩ := hv3.addr hlt
   obtain ⟨n1, k1, ws1, r1, hd, hd1⟩ := V.drop_lt hlt
   obtain ⟨d0, ⟨a1, cap1, d1, hv1⟩, ⟨c1', cp1, d2, hi1⟩⟩ := hat.get hd
   have hSb : b ≠ y.bn := by
    have := hat.drop j
    rw [hd] at this
    exact hS' _ this.1
   replace d0 := hor.cell hSb d0
   replace d1 := hor.cell hSb d1
   replace d2 := hor.cell hSb d2
   have HV1 := hid (hv1.othB hS' hor)
   have HI1 := hid (hi1.othB hS' hor)
   have HS1 := hid (hs3.othP hS hor)
   have hstep := okL_step (sp := nodeOk) (m := m) (f := f) (pn := n) hd hd1
   have hcs := count_step hd hd1
   have hga := good_at hg HFI.out hlt
   have hgp := good_part hg HFI.out hlt
   have hn0 : f.k = 3 → 0 ≤ n := fun _ => by have := HFI.out; unfold vFields at this; simp only [Bool.and_eq_true, decide_eq_true_eq] at this; exact this.1.1
   have HST := hid hstep
   have HCS := hid hcs
   have HD := hid hd
   clear hv1 hi1 hstep hcs hd hd1 hat
   obtain ⟨X, hX⟩ : ∃ X : World, X = wr.alloc (Obj.cells #[.int .i64 n1, Value.slice a1 k1.len cap1, Value.slice c1' ws1.length cp1] 58) := ⟨_, rfl⟩
   have hXb : Below wr.heap.size wr X := by rw [hX]; exact ba _ _
   have hXs : X.heap.size = wr.heap.size + 1 := by rw [hX]; simp
   have kx : X.heap[wr.heap.size]? = some (Obj.cells #[.int .i64 n1, Value.slice a1 k1.len cap1, Value.slice c1' ws1.length cp1] 58 (0, 0)) := by rw [hX]; exact heap_new _ _
   have hyX := HYR.out.below hXb
   have hvX := one_cell hyX.hv
   have HZ := hid (fun x (hx : Oth y.bn X x) => And.intro (hx.cell hyX.nv hvX) (And.intro (HE.out _ ((hoW.below hXb).trans hx)) (cells_of (show x.heap[wr.heap.size]? = _ by rw [hx.block _ (by omega) (by omega)]; exact kx))))
   have HP := hid (fun x (hx : Oth y.bn X x) => part_any S f j a (some ⟨b, o, none⟩) c cap cap' cp n t.len ws.length x ((HS1.out.below hXb).othP hS hx) hga hn0)
   have HI := hid (fun x2 a2 cap2 (hb2 : Below X.heap.size X x2) (hs2 : Sl S x2 a2 (f.part n j).t) => IH.out j n1 k1 ws1 r1 HD.out y S S' (f.part n j) a2 a1 c1' cap2 cap1 cp1 n1 ws1 m q1 x2 HOG.out hs2 ((HV1.out.below hXb).below hb2) ((HI1.out.below hXb).below hb2) hS hS' hgp hq10 (by omega) (hyX.below hb2))
   obtain ⟨g, hgd⟩ : ∃ g, g = f.part n j := ⟨_, rfl⟩
   rw [← hgd] at HP HI
   obtain ⟨s1, hs1⟩ : ∃ s1, s1 = (okV nodeOk m g n1 k1 ws1 && decide (1 + (k1.count : Int) ≤ q1)) := ⟨_, rfl⟩
   rw [← hs1] at HI
   rw [← hgd] at HST
   have HS2 := hid hs1
   obtain ⟨vx, ⟨⟨c0, c1, c2⟩, e0, e1, e2⟩, x0, x1, x2⟩ := HZ.out _ (Oth.refl _ _)
   have hbd : Below X.heap.size X X.drew := (Below.refl _ _).drew
   clear hgp hga hgd hs1
   go_wp2_with fail
   rw [← hX]
   clear hX
   go_region_held3 (fun x : World => x.cell? ⟨y.bv, 0, none⟩ = some y.fn ∧ x.cell? ⟨w.heap.size, 0, none⟩ = some (.int .i64 f.k) ∧ x.cell? ⟨w.heap.size, 1, none⟩ = some (.int .i64 f.n) ∧ x.cell? ⟨w.heap.size, 2, none⟩ = some (.slice a f.t.len cap) ∧ x.cell? ⟨w.heap.size + 1, 0, none⟩ = some (.int .i64 n) ∧ x.cell? ⟨w.heap.size + 1, 1, none⟩ = some (.slice (some ⟨b, o, none⟩) t.len cap') ∧ x.cell? ⟨w.heap.size + 1, 2, none⟩ = some (.slice c ws.length cp) ∧ x.cell? ⟨wr.heap.size, 0, none⟩ = some (.int .i64 n1) ∧ x.cell? ⟨wr.heap.size, 1, none⟩ = some (.slice a1 k1.len cap1) ∧ x.cell? ⟨wr.heap.size, 2, none⟩ = some (.slice c1' ws1.length cp1)) (first | exact ⟨vx, c0, c1, c2, e0, e1, e2, x0, x1, x2⟩) (first | (go_at_call 128; refine (HP.out _ (oth_of_below hbd)).mono ?_; rintro e wx ⟨a2, cap2, rfl, hsl, hbx⟩; have hbz := hbd.trans (hbx.mono hbd.size); obtain ⟨vx, ⟨⟨c0, c1, c2⟩, e0, e1, e2⟩, x0, x1, x2⟩ := HZ.out _ (oth_of_below hbz)) | (go_at_call 126; refine (HI.out _ _ _ hbz hsl).mono ?_; rintro e wy ⟨q2, rfl, hn2, ho2, hc2, hl2⟩; have hoz := (oth_of_below hbz).trans ho2; obtain ⟨vx, ⟨⟨c0, c1, c2⟩, e0, e1, e2⟩, x0, x1, x2⟩ := HZ.out _ hoz))
   have HN2 := hid hn2
   clear hn2 x0 x1 x2 c0 c1 c2 e0 e1 e2 vx
   cases hsb : s1
   ·have HF := hid (show r = false by
     rw [HR2.out, ← HOK.out, HST.out]
     have h := HS2.out
     have h1 := HCN.out
     have h2 := HCS.out
     rw [hsb] at h
     cases hk : okV nodeOk m g n1 k1 ws1 with
     | false => rfl
     | true =>
      rw [hk] at h
      have h3 : ¬ (1 + (k1.count : Int) ≤ q1) := by simpa using h.symm
      have h4 : ¬ (1 + (t.count : Int) ≤ q) := by omega
      rw [decide_eq_false h4]; simp)
    clear hsb hc2
    go_wp2_with fail
    go_ret
    exact ⟨q2, by rw [HF.out]; rfl, HN2.out, HWO.out.trans ((hoW.below hXb).trans hoz), (fun h => by rw [HF.out] at h; cases h), hl2.1, by omega⟩
   ·have HF := hid (show q2 = q1 - ((1 + k1.count : Nat) : Int) from hc2 hsb)
    have HG := hid (show okL nodeOk m (t.drop (j + 1)) f n (j + 1) = okL nodeOk m t f n 0 by
     rw [← HOK.out, HST.out]
     have h := HS2.out
     rw [hsb] at h
     have h5 : okV nodeOk m g n1 k1 ws1 = true := by
      cases hk : okV nodeOk m g n1 k1 ws1 with
      | true => rfl
      | false => rw [hk] at h; simp at h
     rw [h5]; simp)
    clear hsb hc2
    go_wp2_with fail
    go_roundw
    case rel => exact ⟨j + 1, q2, by omega, by go_num, hl2.1, by omega, hyX.oth hoz HN2.out, HG.out, by have := HF.out; have := HCN.out; have := HCS.out; omega, (hor.below hXb).trans hoz⟩
    case measure => simp [intOf]; omega
  ·have hjl : j = t.len := by omega
   have hq2 : q1 = q - ((1 + t.count : Nat) : Int) := by
    have h := HCN.out
    rw [hjl, V.drop_all] at h
    simp only [V.count] at h
    omega
   have HF := hid (show r = nodeOk f t ws by
    rw [HR2.out, ← HOK.out, hjl, V.drop_all]
    rw [decide_eq_true (show 1 + (t.count : Int) ≤ q by omega)]
    simp [okL])
   have HQ2 := hid hq2
   have HW2 := hid (weighs_bd (k := f.k) (len := t.len) (ws := ws) (by have := HFI.out; unfold vFields at this; simp only [Bool.and_eq_true] at this; exact this.2))
   have ho0 := one_cell HYR.out.ho
   rw [HOG.out] at ho0
   clear hq2 hjl
   go_wp2_with fail
   refine (isNormal_any S S' f a a' c cap cap' cp n t ws wr (hs3.othP hS hor) (hv3.othB hS' hor) (hi3.othB hS' hor) HW2.out).mono ?_
   rintro e w9 ⟨rfl, hb9⟩
   have hy9 := HYR.out.below hb9
   have HN9 := hid hy9.hn
   clear hy9
   go_wp2_with fail
   go_ret
   exact ⟨q1, by rw [HF.out]; rfl, HN9.out, HWO.out.trans (hoW.below hb9), (fun _ => HQ2.out), hq10, by omega⟩
theorem V.At.lt {S : Nat → Prop} {w : World} {t : V} : ∀ {b o : Nat}, t.At S w b o → t.At (fun b => S b ∧ b < w.heap.size) w b o := by
 induction t with
 | nil => intro b o _; trivial
 | cons n kids ws rest ihk ihr =>
  intro b o ⟨h1, h2, ⟨a, cap, h4, h5, h6⟩, ⟨a', cap', h7, h8⟩, h9⟩
  refine ⟨⟨h1, lt_of_cell h2⟩, h2, ⟨a, cap, h4, h5, ?_⟩, ⟨a', cap', h7, h8.1, ?_⟩, ihr h9⟩
  ·cases a with
   | none => exact h6
   | some p => exact ⟨h6.1, ihk h6.2⟩
  ·rcases h8.2 with h | ⟨b', o', h, hb, hc⟩
   ·exact Or.inl h
   ·by_cases hw : ws = []
    ·exact Or.inl hw
    ·have : 0 < ws.length := List.length_pos_iff.2 hw
     exact Or.inr ⟨b', o', h, ⟨hb, lt_of_cell (hc 0 ws[0] (List.getElem?_eq_getElem this))⟩, hc⟩
theorem Vl.lt {S : Nat → Prop} {w : World} {a : Option Addr} {t : V} (h : Vl S w a t) : Vl (fun b => S b ∧ b < w.heap.size) w a t := by
 refine ⟨h.1, ?_⟩
 have h2 := h.2
 cases a with
 | none => exact h2
 | some p => exact ⟨h2.1, h2.2.lt⟩
theorem Ints.lt {S : Nat → Prop} {w : World} {a : Option Addr} {ws : List Int} (h : Ints S w a ws) : Ints (fun b => S b ∧ b < w.heap.size) w a ws := by
 refine ⟨h.1, ?_⟩
 rcases h.2 with h | ⟨b', o', h, hb, hc⟩
 ·exact Or.inl h
 ·by_cases hw : ws = []
  ·exact Or.inl hw
  ·have : 0 < ws.length := List.length_pos_iff.2 hw
   exact Or.inr ⟨b', o', h, ⟨hb, lt_of_cell (hc 0 ws[0] (List.getElem?_eq_getElem this))⟩, hc⟩
theorem look_new {w : World} {k : Nat} {o o' : Obj} (h : k = w.heap.size) (ho : o = o') : (w.alloc o).heap[k]? = some o' := by subst h ho; exact heap_new _ _
theorem look_old {w : World} {k : Nat} {o o' : Obj} (h : w.heap[k]? = some o') : (w.alloc o).heap[k]? = some o' := by rw [Below.heap_alloc _ _ _ (heap_lt h)]; exact h
theorem fitsN_any (S : Nat → Nat → Prop) (S' : Nat → Prop) (f : F) (a a' c : Option Addr) (cap cap' cp : Nat) (n m : Int) (t : V) (ws : List Int) (w : World) (hs : Sl S w a f.t) (hv : Vl S' w a' t) (hi : Ints S' w c ws) (hg : f.good = true) :
    Calls Tryz.prog 93 #[f.val a cap, .int .i64 m, Vv n a' t.len cap' c ws.length cp, .func (.func 94) #[] #[]] w fun e w' => e = .returned (.bool (okV nodeOk m f n t ws && decide (1 + (t.count : Int) ≤ 2000))) ∧ Below w.heap.size w w' := by
 have HS := hid hs.lt
 have HV := hid hv.lt
 have HI := hid hi.lt
 clear hs hv hi
 go_enter Tryz.func93, Tryz.ntmps93
 go_wp2_with fail
 have key : ∀ W : World, Below w.heap.size w W → Vis.In ⟨w.heap.size + 4, w.heap.size + 1, w.heap.size + 5, w.heap.size + 3, 94⟩ W m 2000 → Calls Tryz.prog 126 #[f.val a cap, Vv n a' t.len cap' c ws.length cp, Vis.ptr (w.heap.size + 4), Vis.ptr (w.heap.size + 1), Vis.ptr (w.heap.size + 5), Vis.ptr (w.heap.size + 3)] W fun e w' => e = .returned (.bool (okV nodeOk m f n t ws && decide (1 + (t.count : Int) ≤ 2000))) ∧ Below w.heap.size w w' := by
  intro W hb hy
  refine (visN_any t _ _ _ f a a' c cap cap' cp n ws m 2000 W rfl (HS.out.below hb) (HV.out.below hb) (HI.out.below hb) (fun b o h => by have := h.2; show b ≠ w.heap.size + 4; omega) (fun b h => by have := h.2; show b ≠ w.heap.size + 4; omega) hg (by omega) (by omega) hy).mono ?_
  rintro e w' ⟨q', h⟩
  exact ⟨h.e, hb.trans ⟨h.oth.os, h.oth.tape, h.oth.output, h.oth.size, fun k hk => h.oth.block k (by have := hb.size; omega) (by show k ≠ w.heap.size + 4; omega)⟩⟩
 refine (key _ ?_ ?_).mono ?_
 ·exact ((((ba2 _ _ _).alloc (by simp; omega) _).alloc (by simp; omega) _).alloc (by simp; omega) _).alloc (by simp; omega) _
 ·exact ⟨look_old (look_new (by simp) rfl), look_old (look_old (look_old (look_old (look_new (by simp) rfl)))), look_new (by simp) rfl, look_old (look_old (look_new (by simp) rfl)), by show _ + 1 ≠ _ + 4; omega, by show _ + 5 ≠ _ + 4; omega, by show _ + 3 ≠ _ + 4; omega⟩
 ·rintro e w' ⟨rfl, hb⟩
  go_wp2_with fail
  go_ret
  exact ⟨rfl, hb⟩
def stFault (f : F) (m : Int) : Int := if valid f.k f.n f.t = true then (if 0 ≤ m ∧ m ≤ 100 then 0 else 1) else 10
def vValid (f : F) (m n : Int) (t : V) (ws : List Int) : Bool := okV nodeOk m f n t ws && decide (1 + (t.count : Int) ≤ 2000)
def vFault (f : F) (m n : Int) (t : V) (ws : List Int) : Int := if stFault f m ≠ 0 then stFault f m else if vValid f m n t ws = true then 0 else 20
theorem valid_good {f : F} (h : valid f.k f.n f.t = true) : f.good = true := by
 unfold valid at h
 unfold F.good
 simp only [Bool.and_eq_true] at h ⊢
 exact h.2.2
theorem stFault_good {f : F} {m : Int} (h : stFault f m = 0) : f.good = true := by
 unfold stFault at h
 by_cases hv : valid f.k f.n f.t = true
 ·exact valid_good hv
 ·rw [if_neg hv] at h; omega
theorem states_any (S : Nat → Nat → Prop) (f : F) (a : Option Addr) (cap : Nat) (m : Int) (w : World) (hs : Sl S w a f.t) (hk : Kinds w) :
    Calls Tryz.prog 92 #[f.val a cap, .int .i64 m] w fun e w' => e = .returned (.int .i64 (stFault f m)) ∧ Below w.heap.size w w' := by
 have hb1 : Below w.heap.size w (w.alloc (Obj.cells #[.int .i64 f.k, .int .i64 f.n, Value.slice a f.t.len cap] 24)) := ba _ _
 go_enter Tryz.func92, Tryz.ntmps92
 go_wp2_with fail
 refine (check_any S f.t f.k f.n a cap _ (hs.below hb1) (hk.below hb1)).mono ?_
 rintro e w1 ⟨rfl, hb⟩
 have hbw := hb1.trans (hb.mono hb1.size)
 clear hs hk hb1 hb
 by_cases hv : valid f.k f.n f.t = true
 ·rw [show faultOf f.k f.n f.t = 0 by unfold faultOf; rw [if_pos hv]]
  by_cases h0 : 0 ≤ m
  ·by_cases h1 : m ≤ 100
   ·have HR := hid (show stFault f m = 0 by unfold stFault; rw [if_pos hv, if_pos ⟨h0, h1⟩])
    clear hv
    go_wp2_with fail
    go_ret
    exact ⟨by rw [HR.out]; rfl, hbw⟩
   ·have HR := hid (show stFault f m = 1 by unfold stFault; rw [if_pos hv, if_neg (by omega)])
    have h1' : 100 < m := by omega
    clear hv
    go_wp2_with fail
    go_ret
    exact ⟨by rw [HR.out]; rfl, hbw⟩
  ·have HR := hid (show stFault f m = 1 by unfold stFault; rw [if_pos hv, if_neg (by omega)])
   have h1' : m < 0 := by omega
   clear hv
   go_wp2_with fail
   go_ret
   exact ⟨by rw [HR.out]; rfl, hbw⟩
 ·rw [show faultOf f.k f.n f.t = 10 by unfold faultOf; rw [if_neg hv]]
  have HR := hid (show stFault f m = 10 by unfold stFault; rw [if_neg hv])
  clear hv
  go_wp2_with fail
  go_ret
  exact ⟨by rw [HR.out]; rfl, hbw⟩
theorem vcheck_any (S : Nat → Nat → Prop) (S' : Nat → Prop) (f : F) (a a' c : Option Addr) (cap cap' cp : Nat) (n m : Int) (t : V) (ws : List Int) (w : World) (hs : Sl S w a f.t) (hv : Vl S' w a' t) (hi : Ints S' w c ws) (hk : Kinds w) :
    Calls Tryz.prog 54 #[f.val a cap, .int .i64 m, Vv n a' t.len cap' c ws.length cp] w fun e w' => e = .returned (.int .i64 (vFault f m n t ws)) ∧ Below w.heap.size w w' := by
 obtain ⟨W, hW⟩ : ∃ W : World, W = (w.alloc (Obj.cells #[.int .i64 f.k, .int .i64 f.n, Value.slice a f.t.len cap] 24)).alloc (Obj.cells #[.int .i64 n, Value.slice a' t.len cap', Value.slice c ws.length cp] 58) := ⟨_, rfl⟩
 have hWb : Below w.heap.size w W := by rw [hW]; exact ba2 _ _ _
 have c0 : W.cell? ⟨w.heap.size, 0, none⟩ = some (.int .i64 f.k) := by rw [hW]; simp
 have c1 : W.cell? ⟨w.heap.size, 1, none⟩ = some (.int .i64 f.n) := by rw [hW]; simp
 have c2 : W.cell? ⟨w.heap.size, 2, none⟩ = some (.slice a f.t.len cap) := by rw [hW]; simp
 have e0 : W.cell? ⟨w.heap.size + 1, 0, none⟩ = some (.int .i64 n) := by rw [hW]; simp
 have e1 : W.cell? ⟨w.heap.size + 1, 1, none⟩ = some (.slice a' t.len cap') := by rw [hW]; simp
 have e2 : W.cell? ⟨w.heap.size + 1, 2, none⟩ = some (.slice c ws.length cp) := by rw [hW]; simp
 have hsW := hs.below hWb
 have hvW := hv.below hWb
 have hiW := hi.below hWb
 have hkW := hk.below hWb
 clear hs hv hi hk
 go_enter Tryz.func54, Tryz.ntmps54
 go_wp2_with fail
 rw [← hW]
 clear hW
 refine (states_any S f a cap m W hsW hkW).mono ?_
 rintro e w1 ⟨rfl, hb1⟩
 replace c0 := cell_below hb1 c0
 replace c1 := cell_below hb1 c1
 replace c2 := cell_below hb1 c2
 replace e0 := cell_below hb1 e0
 replace e1 := cell_below hb1 e1
 replace e2 := cell_below hb1 e2
 have hb := hWb.trans (hb1.mono hWb.size)
 by_cases hz : stFault f m = 0
 ·have hg := stFault_good hz
  rw [hz]
  have HZ := hid hz
  clear hz
  go_wp2_with fail
  refine (fitsN_any S S' f a a' c cap cap' cp n m t ws w1 (hsW.below hb1) (hvW.below hb1) (hiW.below hb1) hg).mono ?_
  rintro e w2 ⟨rfl, hb2⟩
  have hbb := hb.trans (hb2.mono hb.size)
  cases hv : (okV nodeOk m f n t ws && decide (1 + (t.count : Int) ≤ 2000))
  ·have HR := hid (show vFault f m n t ws = 20 by unfold vFault vValid; rw [HZ.out, hv]; simp)
   clear hv
   go_wp2_with fail
   go_ret
   exact ⟨by rw [HR.out]; rfl, hbb⟩
  ·have HR := hid (show vFault f m n t ws = 0 by unfold vFault vValid; rw [HZ.out, hv]; simp)
   clear hv
   go_wp2_with fail
   go_ret
   exact ⟨by rw [HR.out]; rfl, hbb⟩
 ·have HR := hid (show vFault f m n t ws = stFault f m by unfold vFault; rw [if_pos hz])
  have hz' : (stFault f m != 0) = true := by simpa using hz
  clear hz
  go_wp2_with fail
  go_ret
  exact ⟨by rw [HR.out]; rfl, hb⟩
end Go.Proofs.YtcekilcgpgjooaaGreatDoor
