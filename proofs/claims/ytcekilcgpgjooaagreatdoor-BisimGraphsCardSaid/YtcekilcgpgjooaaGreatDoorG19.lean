/- Proved here: contracts of the walk to BisimGraphs: systems in memory, and the contracts on them; each under the conditions that its own statement names. -/
import Derived.Test.YtcekilcgpgjooaaGreatDoorG18
set_option maxRecDepth 100000
set_option maxHeartbeats 6400000
namespace Go.Proofs.YtcekilcgpgjooaaGreatDoor
open Go.RowKit
open Go.Lib (hid)
theorem snodes_any (S' : Nat → Prop) : ∀ (t : V) (a : Option Addr) (cap : Nat) (w : World), Vl S' w a t → t.count ≤ 1000000 →
    Calls Tryz.prog 65 #[.slice a t.len cap] w fun e w' => e = .returned (.int .i64 (t.count : Int)) ∧ Below w.heap.size w w' := by
 refine V.ind ?_
 intro t ih a cap w hs hm1
 have hlen := hs.1
 have hlc := V.len_count t
 have IH := hid ih
 clear ih
 go_enter Tryz.func65, Tryz.ntmps65
 go_wp2_with fail
 go_loopw [3, 10] (fun v i wr => ∃ j q : Nat, j ≤ t.len ∧ i = .int .i64 j ∧ v = .int .i64 (q : Int) ∧ q + (t.drop j).count = t.count + (t.len - j) ∧ Below w.heap.size w wr) (fun _ i _ => t.len - (intOf i).toNat)
 case atStart => exact ⟨0, t.len, Nat.zero_le _, rfl, rfl, by simp; omega, Below.refl _ _⟩
 case round =>
  obtain ⟨j, q, hj, rfl, rfl, hq, hb⟩ := hrel
  have hcl := count_le t j
  have HQ := hid hq
  have hqb : (q : Int) ≤ 2000000 := by omega
  clear hq
  by_cases hlt : j < t.len
  ·obtain ⟨b, o, rfl, hat⟩ := hs.addr hlt
   obtain ⟨n1, k1, ws1, r1, hd, hd1⟩ := V.drop_lt hlt
   obtain ⟨d0, ⟨a1, cap1, d1, hv1⟩, ⟨c1, cp1, d2, hi1⟩⟩ := hat.get hd
   replace d0 := cell_below hb d0
   replace d1 := cell_below hb d1
   replace d2 := cell_below hb d2
   have hcs := count_step hd hd1
   have hk1 : (k1.count : Int) ≤ 1000000 := by omega
   have HCS := hid hcs
   have hbx : Below wr.heap.size wr (wr.alloc (Obj.cells #[.int .i64 n1, Value.slice a1 k1.len cap1, Value.slice c1 ws1.length cp1] 58)) := ba _ _
   have HV := hid ((hv1.below hb).below hbx)
   have HB := hid (hb.trans (hbx.mono hb.size))
   have HD := hid hd
   clear hd hd1 hcs hv1 hbx
   go_wp2_with fail
   refine (IH.out _ _ _ _ _ HD.out _ _ _ HV.out (by omega)).mono ?_
   rintro e w' ⟨rfl, hb'⟩
   go_wp2_with fail
   go_roundw
   case rel => exact ⟨j + 1, q + k1.count, by omega, by go_num, by go_num, by have := HQ.out; have := HCS.out; omega, HB.out.trans (hb'.mono HB.out.size)⟩
   case measure => simp [intOf]; omega
  ·have HF := hid (show q = t.count by have := HQ.out; rw [show j = t.len by omega, V.drop_all] at this; simpa [V.count] using this)
   go_wp2_with fail
   go_ret
   exact ⟨by rw [HF.out]; rfl, hb⟩
def sysL (f : F) (m : Int) : V → Bool
 | .nil => true
 | .cons n k ws r => vValid f m n k ws && sysL f m r
def sysOk (f : F) (t : V) : Bool := valid f.k f.n f.t && (decide (t.len ≤ 100) && (sysL f t.len t && decide (t.count ≤ 20000)))
theorem sysL_step {f : F} {m : Int} {t : V} {j : Nat} {n1 : Int} {k1 : V} {ws1 : List Int} {rest : V} (h : t.drop j = .cons n1 k1 ws1 rest) (h' : t.drop (j + 1) = rest) :
    sysL f m (t.drop j) = (vValid f m n1 k1 ws1 && sysL f m (t.drop (j + 1))) := by
 rw [h, h']; rfl
theorem vValid_count {f : F} {m n : Int} {k : V} {ws : List Int} (h : vValid f m n k ws = true) : 1 + k.count ≤ 2000 := by
 unfold vValid at h
 simp only [Bool.and_eq_true, decide_eq_true_eq] at h
 omega
theorem sysL_count {f : F} {m : Int} : ∀ t : V, sysL f m t = true → t.count ≤ 2000 * t.len := by
 intro t
 induction t with
 | nil => intro _; simp [V.count]
 | cons n k ws r _ ih =>
  intro h
  simp only [sysL, Bool.and_eq_true] at h
  have := vValid_count h.1
  have := ih h.2
  simp only [V.count, V.len]; omega
abbrev Sv (f : F) (a : Option Addr) (cap : Nat) (na : Option Addr) (len ncap : Nat) : Value := .agg #[.int .i64 f.k, .int .i64 f.n, .slice a f.t.len cap, .slice na len ncap]
theorem cells4 {u : World} {b : Nat} {x0 x1 x2 x3 : Value} {t : TypeId} {fz : Nat × Nat} (h : u.heap[b]? = some (.cells #[x0, x1, x2, x3] t fz)) :
    u.cell? ⟨b, 0, none⟩ = some x0 ∧ u.cell? ⟨b, 1, none⟩ = some x1 ∧ u.cell? ⟨b, 2, none⟩ = some x2 ∧ u.cell? ⟨b, 3, none⟩ = some x3 := by
 simp [World.cell?, h]
theorem syscheck_any (S : Nat → Nat → Prop) (S' : Nat → Prop) (f : F) (a na : Option Addr) (cap ncap : Nat) (t : V) (w : World) (hs : Sl S w a f.t) (hv : Vl S' w na t) (hk : Kinds w) :
    Calls Tryz.prog 29 #[Sv f a cap na t.len ncap] w fun e w' => e = .returned (.int .i64 (if sysOk f t = true then 0 else 30)) ∧ Below w.heap.size w w' := by
 obtain ⟨W, hW⟩ : ∃ W : World, W = w.alloc (Obj.cells #[.int .i64 f.k, .int .i64 f.n, .slice a f.t.len cap, .slice na t.len ncap] 27) := ⟨_, rfl⟩
 have hWb : Below w.heap.size w W := by rw [hW]; exact ba _ _
 have hWs : W.heap.size = w.heap.size + 1 := by rw [hW]; simp
 have k0 : W.heap[w.heap.size]? = some (Obj.cells #[.int .i64 f.k, .int .i64 f.n, .slice a f.t.len cap, .slice na t.len ncap] 27 (0, 0)) := by rw [hW]; exact heap_new _ _
 have HE := hid (fun x (hx : Below W.heap.size W x) => cells4 (show x.heap[w.heap.size]? = _ by rw [hx.block _ (by omega)]; exact k0))
 have hsW := hs.below hWb
 have hvW := hv.below hWb
 have hkW := hk.below hWb
 have hlen := hv.1
 obtain ⟨r, hr⟩ : ∃ r : Int, r = (if sysOk f t = true then 0 else 30) := ⟨_, rfl⟩
 rw [← hr]
 unfold sysOk at hr
 have HR := hid hr
 clear hr hs hv hk k0 hWs
 obtain ⟨c0, c1, c2, c3⟩ := HE.out _ (Below.refl _ _)
 go_enter Tryz.func29, Tryz.ntmps29
 go_wp2_with fail
 rw [← hW]
 clear hW
 refine (check_any S f.t f.k f.n a cap W hsW hkW).mono ?_
 rintro e w1 ⟨rfl, hb1⟩
 have hs1 := hb1.size
 clear c0 c1 c2 c3
 obtain ⟨c0, c1, c2, c3⟩ := HE.out _ hb1
 by_cases hva : valid f.k f.n f.t = true
 rotate_left
 ·have HF := hid (show r = 30 by rw [HR.out]; simp only [Bool.not_eq_true] at hva; rw [hva]; rfl)
  rw [show faultOf f.k f.n f.t = 10 by unfold faultOf; rw [if_neg hva]]
  clear hva
  go_wp2_with fail
  go_ret
  exact ⟨by rw [HF.out]; rfl, hWb.trans (hb1.mono hWb.size)⟩
 rw [show faultOf f.k f.n f.t = 0 by unfold faultOf; rw [if_pos hva]]
 by_cases hl : t.len ≤ 100
 rotate_left
 ·have HF := hid (show r = 30 by rw [HR.out, decide_eq_false hl]; simp)
  have hl' : (100 : Int) < t.len := by omega
  clear hl hva
  go_wp2_with fail
  go_ret
  exact ⟨by rw [HF.out]; rfl, hWb.trans (hb1.mono hWb.size)⟩
 have HR2 := hid (show r = (if (sysL f t.len t && decide (t.count ≤ 20000)) = true then 0 else 30) by rw [HR.out, hva, decide_eq_true hl]; simp)
 have hst : stFault f t.len = 0 := by unfold stFault; rw [if_pos hva, if_pos (by omega)]
 have HST := hid hst
 have hl' : (t.len : Int) ≤ 100 := by omega
 clear hl hva hst
 go_wp2_with fail
 go_loopw [18] (fun i wr => ∃ j : Nat, j ≤ t.len ∧ i = .int .i64 j ∧ sysL f t.len (t.drop j) = sysL f t.len t ∧ Below W.heap.size W wr) (fun i _ => t.len - (intOf i).toNat)
 case atStart => exact ⟨0, Nat.zero_le _, rfl, by simp, hb1⟩
 case round =>
  obtain ⟨j, hj, rfl, hsj, hb⟩ := hrel
  have HSJ := hid hsj
  clear hsj c0 c1 c2 c3
  obtain ⟨c0, c1, c2, c3⟩ := HE.out _ hb
  by_cases hlt : j < t.len
  ·obtain ⟨b, o, rfl, hat⟩ := hvW.addr hlt
   obtain ⟨n1, k1, ws1, r1, hd, hd1⟩ := V.drop_lt hlt
   obtain ⟨d0, ⟨a1, cap1, d1, hv1⟩, ⟨c1', cp1, d2, hi1⟩⟩ := hat.get hd
   replace d0 := cell_below hb d0
   replace d1 := cell_below hb d1
   replace d2 := cell_below hb d2
   have hst := sysL_step (f := f) (m := t.len) hd hd1
   have hbx : Below wr.heap.size wr (wr.alloc (Obj.cells #[.int .i64 n1, Value.slice a1 k1.len cap1, Value.slice c1' ws1.length cp1] 58)) := ba _ _
   have HB := hid (hb.trans (hbx.mono hb.size))
   have HV := hid (vcheck_any S S' f a a1 c1' cap cap1 cp1 n1 t.len k1 ws1 _ ((hsW.below hb).below hbx) ((hv1.below hb).below hbx) ((hi1.below hb).below hbx) ((hkW.below hb).below hbx))
   have hvf : vFault f t.len n1 k1 ws1 = if vValid f t.len n1 k1 ws1 = true then 0 else 20 := by unfold vFault; rw [HST.out]; simp
   have HVF := hid hvf
   have HS2 := hid hst
   have hl0 : w.heap.size < wr.heap.size := by have := hb.size; have := lt_of_cell c0; omega
   clear hd hd1 hst hv1 hi1 hbx hat hvf
   go_wp2_with fail
   refine HV.out.mono ?_
   rintro e w5 ⟨rfl, hb5⟩
   have hbf := HB.out.trans (hb5.mono HB.out.size)
   rw [HVF.out]
   cases hvv : vValid f t.len n1 k1 ws1
   ·have HF := hid (show r = 30 by rw [HR2.out, ← HSJ.out, HS2.out, hvv]; rfl)
    clear hvv
    go_wp2_with fail
    go_ret
    exact ⟨by rw [HF.out]; rfl, hWb.trans (hbf.mono hWb.size)⟩
   ·have HF := hid (show sysL f t.len (t.drop (j + 1)) = sysL f t.len t by rw [← HSJ.out, HS2.out, hvv]; rfl)
    clear hvv
    go_wp2_with fail
    go_roundw
    case rel => exact ⟨j + 1, by omega, by go_num, HF.out, hbf⟩
    case measure => simp [intOf]; omega
  ·have hsl : sysL f t.len t = true := by rw [← HSJ.out, show j = t.len by omega, V.drop_all]; rfl
   have hct := sysL_count t hsl
   have HR3 := hid (show r = (if t.count ≤ 20000 then 0 else 30) by rw [HR2.out, hsl]; simp)
   clear hsl
   go_wp2_with fail
   refine (snodes_any S' t na ncap wr (hvW.below hb) (by omega)).mono ?_
   rintro e w5 ⟨rfl, hb5⟩
   have hbf := hWb.trans ((hb.trans (hb5.mono hb.size)).mono hWb.size)
   by_cases h2 : t.count ≤ 20000
   ·have HF := hid (show r = 0 by rw [HR3.out, if_pos h2])
    have h2' : (t.count : Int) ≤ 20000 := by omega
    go_wp2_with fail
    go_ret
    exact ⟨by rw [HF.out]; rfl, hbf⟩
   ·have HF := hid (show r = 30 by rw [HR3.out, if_neg h2])
    have h2' : (20000 : Int) < t.count := by omega
    go_wp2_with fail
    go_ret
    exact ⟨by rw [HF.out]; rfl, hbf⟩
def fewL (m : Int) : V → Bool
 | .nil => true
 | .cons _ k ws r => vFew k ws.length m && fewL m r
def sFew (f : F) (t : V) (m : Int) : Bool := decide ((t.len : Int) ≤ m) && (decide (0 < max (lft f.t m) 0) && (fewL m t && decide ((t.count : Int) ≤ m)))
theorem fewL_step {m : Int} {t : V} {j : Nat} {n1 : Int} {k1 : V} {ws1 : List Int} {rest : V} (h : t.drop j = .cons n1 k1 ws1 rest) (h' : t.drop (j + 1) = rest) :
    fewL m (t.drop j) = (vFew k1 ws1.length m && fewL m (t.drop (j + 1))) := by
 rw [h, h']; rfl
theorem vFew_count {k : V} {lw : Nat} {m : Int} (h : vFew k lw m = true) : 1 + (k.count : Int) ≤ m := by
 unfold vFew at h
 simp only [Bool.and_eq_true, decide_eq_true_eq] at h
 exact h.1
theorem sysfew_any (S : Nat → Nat → Prop) (S' : Nat → Prop) (f : F) (a na : Option Addr) (cap ncap : Nat) (t : V) (m : Int) (w : World) (hs : Sl S w a f.t) (hv : Vl S' w na t) (h0 : 0 ≤ m) (h1 : m ≤ 90000) :
    Calls Tryz.prog 19 #[Sv f a cap na t.len ncap, .int .i64 m] w fun e w' => e = .returned (.bool (sFew f t m)) ∧ Below w.heap.size w w' := by
 obtain ⟨W, hW⟩ : ∃ W : World, W = w.alloc (Obj.cells #[.int .i64 f.k, .int .i64 f.n, .slice a f.t.len cap, .slice na t.len ncap] 27) := ⟨_, rfl⟩
 have hWb : Below w.heap.size w W := by rw [hW]; exact ba _ _
 have hWs : W.heap.size = w.heap.size + 1 := by rw [hW]; simp
 have k0 : W.heap[w.heap.size]? = some (Obj.cells #[.int .i64 f.k, .int .i64 f.n, .slice a f.t.len cap, .slice na t.len ncap] 27 (0, 0)) := by rw [hW]; exact heap_new _ _
 have HE := hid (fun x (hx : Below W.heap.size W x) => cells4 (show x.heap[w.heap.size]? = _ by rw [hx.block _ (by omega)]; exact k0))
 have hsW := hs.below hWb
 have hvW := hv.below hWb
 have hlen := hv.1
 obtain ⟨r, hr⟩ : ∃ r : Bool, r = sFew f t m := ⟨_, rfl⟩
 rw [← hr]
 unfold sFew at hr
 have HR := hid hr
 clear hr hs hv k0 hWs
 obtain ⟨c0, c1, c2, c3⟩ := HE.out _ (Below.refl _ _)
 go_enter Tryz.func19, Tryz.ntmps19
 by_cases hl : (t.len : Int) ≤ m
 rotate_left
 ·have HF := hid (show r = false by rw [HR.out, decide_eq_false hl]; simp)
  have hl' : m < (t.len : Int) := by omega
  clear hl
  go_wp2_with fail
  rw [← hW]
  clear hW
  go_ret
  exact ⟨by rw [HF.out]; rfl, hWb⟩
 go_wp2_with fail
 rw [← hW]
 clear hW
 refine (few_any S f.t f.k f.n a cap m W hsW h0 (by omega)).mono ?_
 rintro e w1 ⟨rfl, hb1⟩
 have hs1 := hb1.size
 clear c0 c1 c2 c3
 obtain ⟨c0, c1, c2, c3⟩ := HE.out _ hb1
 obtain ⟨q0, hq0⟩ : ∃ q0 : Bool, q0 = decide (0 < max (lft f.t m) 0) := ⟨_, rfl⟩
 rw [← hq0] at HR
 rw [← hq0]
 clear hq0
 cases q0
 ·have HF := hid (show r = false by rw [HR.out]; simp)
  go_wp2_with fail
  go_ret
  exact ⟨by rw [HF.out]; rfl, hWb.trans (hb1.mono hWb.size)⟩
 have HR2 := hid (show r = (fewL m t && decide ((t.count : Int) ≤ m)) by rw [HR.out, decide_eq_true hl]; simp)
 go_wp2_with fail
 go_loopw [5, 23] (fun s5 i wr => ∃ (j : Nat) (q : Nat), j ≤ t.len ∧ i = .int .i64 j ∧ s5 = .int .i64 (q : Int) ∧ (q : Int) ≤ m ∧ q + (t.drop j).count = t.count ∧ fewL m (t.drop j) = fewL m t ∧ Below W.heap.size W wr) (fun _ i _ => t.len - (intOf i).toNat)
 case atStart => exact ⟨0, 0, Nat.zero_le _, rfl, rfl, h0, by simp, by simp, hb1⟩
 case round =>
  obtain ⟨j, q, hj, rfl, rfl, hq1, hq2, hsj, hb⟩ := hrel
  have HSJ := hid hsj
  have HQ := hid hq2
  have hqi : (q : Int) ≤ 1000000 := by omega
  clear hsj c0 c1 c2 c3 hq2
  obtain ⟨c0, c1, c2, c3⟩ := HE.out _ hb
  by_cases hlt : j < t.len
  ·obtain ⟨b, o, rfl, hat⟩ := hvW.addr hlt
   obtain ⟨n1, k1, ws1, r1, hd, hd1⟩ := V.drop_lt hlt
   obtain ⟨d0, ⟨a1, cap1, d1, hv1⟩, ⟨c1', cp1, d2, hi1⟩⟩ := hat.get hd
   replace d0 := cell_below hb d0
   replace d1 := cell_below hb d1
   replace d2 := cell_below hb d2
   have hst := fewL_step (m := m) hd hd1
   have hcs := count_step hd hd1
   obtain ⟨X, hX⟩ : ∃ X : World, X = wr.alloc (Obj.cells #[.int .i64 n1, Value.slice a1 k1.len cap1, Value.slice c1' ws1.length cp1] 58) := ⟨_, rfl⟩
   have hbx : Below wr.heap.size wr X := by rw [hX]; exact ba _ _
   obtain ⟨y0, y1, y2⟩ := cells_of (show X.heap[wr.heap.size]? = some (Obj.cells #[.int .i64 n1, Value.slice a1 k1.len cap1, Value.slice c1' ws1.length cp1] 58 (0, 0)) by rw [hX]; exact heap_new _ _)
   have hbX := hb.trans (hbx.mono hb.size)
   have hv2 := (hv1.below hb).below hbx
   have HV := hid (vfew_any S' k1 n1 a1 c1' cap1 ws1.length cp1 m X hv2 h0 (by omega))
   have HS2 := hid hst
   have HCS := hid hcs
   have hl0 : w.heap.size < wr.heap.size := lt_of_cell c0
   clear hd hd1 hst hv1 hi1 hat hcs
   go_wp2_with fail
   rw [← hX]
   clear hX
   refine HV.out.mono ?_
   rintro e w5 ⟨rfl, hb5⟩
   have hbf := hbX.trans (hb5.mono hbX.size)
   replace y0 := cell_below hb5 y0
   replace y1 := cell_below hb5 y1
   replace y2 := cell_below hb5 y2
   have hv3 := hv2.below hb5
   cases hvv : vFew k1 ws1.length m
   ·have HF := hid (show r = false by rw [HR2.out, ← HSJ.out, HS2.out, hvv]; rfl)
    clear hvv
    go_wp2_with fail
    go_ret
    exact ⟨by rw [HF.out]; rfl, hWb.trans (hbf.mono hWb.size)⟩
   ·have HF := hid (show fewL m (t.drop (j + 1)) = fewL m t by rw [← HSJ.out, HS2.out, hvv]; rfl)
    have hvc := vFew_count hvv
    clear hvv
    go_wp2_with fail
    refine (nodes_any S' k1 n1 a1 c1' cap1 ws1.length cp1 w5 hv3 (by omega)).mono ?_
    rintro e w6 ⟨rfl, hb6⟩
    have hbg := hbf.trans (hb6.mono hbf.size)
    by_cases hqm : (q : Int) + (1 + k1.count) ≤ m
    ·go_wp2_with fail
     go_roundw
     case rel => exact ⟨j + 1, q + (1 + k1.count), by omega, by go_num, by go_num, by omega, by have := HQ.out; have := HCS.out; omega, HF.out, hbg⟩
     case measure => simp [intOf]; omega
    ·have hqm' : m < (q : Int) + (1 + k1.count) := by omega
     have HF2 := hid (show r = false by
      rw [HR2.out, decide_eq_false (by have := HQ.out; have := HCS.out; omega)]; simp)
     clear hqm
     go_wp2_with fail
     go_ret
     exact ⟨by rw [HF2.out]; rfl, hWb.trans (hbg.mono hWb.size)⟩
  ·have hsl : fewL m t = true := by rw [← HSJ.out, show j = t.len by omega, V.drop_all]; rfl
   have hqe : q = t.count := by have := HQ.out; rw [show j = t.len by omega, V.drop_all] at this; simpa [V.count] using this
   have HF := hid (show r = true by rw [HR2.out, hsl]; simp; omega)
   clear hsl hqe
   go_wp2_with fail
   go_ret
   exact ⟨by rw [HF.out]; rfl, hWb.trans (hb.mono hWb.size)⟩
end Go.Proofs.YtcekilcgpgjooaaGreatDoor
namespace Go.Proofs.YtcekilcgpgjooaaGreatDoor
open Go.RowKit

end Go.Proofs.YtcekilcgpgjooaaGreatDoor
namespace Go.Proofs.YtcekilcgpgjooaaGreatDoor
open Go.RowKit
open Go.Lib (hid)
theorem sysis_any (HM : MergedOk) (S : Nat → Nat → Prop) (S' : Nat → Prop) (f : F) (a na : Option Addr) (cap ncap : Nat) (t : V) (w : World) (hs : Sl S w a f.t) (hc : f.t.len ≤ cap) (hv : Vl S' w na t) :
    Calls Tryz.prog 20 #[Sv f a cap na t.len ncap] w fun e w' => e = .returned (.bool (sysOk f t)) ∧ Below w.heap.size w w' := by
 obtain ⟨W, hW⟩ : ∃ W : World, W = w.alloc (Obj.cells #[.int .i64 f.k, .int .i64 f.n, .slice a f.t.len cap, .slice na t.len ncap] 27) := ⟨_, rfl⟩
 have hWb : Below w.heap.size w W := by rw [hW]; exact ba _ _
 have hWs : W.heap.size = w.heap.size + 1 := by rw [hW]; simp
 have k0 : W.heap[w.heap.size]? = some (Obj.cells #[.int .i64 f.k, .int .i64 f.n, .slice a f.t.len cap, .slice na t.len ncap] 27 (0, 0)) := by rw [hW]; exact heap_new _ _
 have HE := hid (fun x (hx : Below W.heap.size W x) => cells4 (show x.heap[w.heap.size]? = _ by rw [hx.block _ (by omega)]; exact k0))
 have hsW := hs.below hWb
 have hvW := hv.below hWb
 have hlen := hv.1
 obtain ⟨r, hr⟩ : ∃ r : Bool, r = sysOk f t := ⟨_, rfl⟩
 rw [← hr]
 unfold sysOk at hr
 have HR := hid hr
 clear hr hs hv k0 hWs
 obtain ⟨c0, c1, c2, c3⟩ := HE.out _ (Below.refl _ _)
 go_enter Tryz.func20, Tryz.ntmps20
 go_wp2_with fail
 rw [← hW]
 clear hW
 refine (is_any S f.t f.k f.n a cap W hsW).mono ?_
 rintro e w1 ⟨rfl, hb1⟩
 have hs1 := hb1.size
 clear c0 c1 c2 c3
 obtain ⟨c0, c1, c2, c3⟩ := HE.out _ hb1
 cases hva : valid f.k f.n f.t
 ·have HF := hid (show r = false by rw [HR.out, hva]; rfl)
  clear hva
  go_wp2_with fail
  go_ret
  exact ⟨by rw [HF.out]; rfl, hWb.trans (hb1.mono hWb.size)⟩
 by_cases hl : t.len ≤ 100
 rotate_left
 ·have HF := hid (show r = false by rw [HR.out, decide_eq_false hl]; simp)
  have hl' : (100 : Int) < t.len := by omega
  clear hl hva
  go_wp2_with fail
  go_ret
  exact ⟨by rw [HF.out]; rfl, hWb.trans (hb1.mono hWb.size)⟩
 have HR2 := hid (show r = (sysL f t.len t && decide (t.count ≤ 20000)) by rw [HR.out, hva, decide_eq_true hl]; simp)
 have hg := valid_good hva
 have hl' : (t.len : Int) ≤ 100 := by omega
 clear hl hva
 go_wp2_with fail
 go_loopw [3, 19] (fun s3 i wr => ∃ (j : Nat) (q : Nat), j ≤ t.len ∧ i = .int .i64 j ∧ s3 = .int .i64 (q : Int) ∧ q ≤ 2000 * j ∧ q + (t.drop j).count = t.count ∧ sysL f t.len (t.drop j) = sysL f t.len t ∧ Below W.heap.size W wr) (fun _ i _ => t.len - (intOf i).toNat)
 case atStart => exact ⟨0, 0, Nat.zero_le _, rfl, rfl, by omega, by simp, by simp, hb1⟩
 case round =>
  obtain ⟨j, q, hj, rfl, rfl, hq1, hq2, hsj, hb⟩ := hrel
  have HSJ := hid hsj
  have HQ := hid hq2
  have hqi : (q : Int) ≤ 1000000 := by omega
  clear hsj c0 c1 c2 c3 hq2
  obtain ⟨c0, c1, c2, c3⟩ := HE.out _ hb
  by_cases hlt : j < t.len
  ·obtain ⟨b, o, rfl, hat⟩ := hvW.addr hlt
   obtain ⟨n1, k1, ws1, r1, hd, hd1⟩ := V.drop_lt hlt
   obtain ⟨d0, ⟨a1, cap1, d1, hv1⟩, ⟨c1', cp1, d2, hi1⟩⟩ := hat.get hd
   replace d0 := cell_below hb d0
   replace d1 := cell_below hb d1
   replace d2 := cell_below hb d2
   have hst := sysL_step (f := f) (m := t.len) hd hd1
   have hcs := count_step hd hd1
   obtain ⟨X, hX⟩ : ∃ X : World, X = wr.alloc (Obj.cells #[.int .i64 n1, Value.slice a1 k1.len cap1, Value.slice c1' ws1.length cp1] 58) := ⟨_, rfl⟩
   have hbx : Below wr.heap.size wr X := by rw [hX]; exact ba _ _
   obtain ⟨y0, y1, y2⟩ := cells_of (show X.heap[wr.heap.size]? = some (Obj.cells #[.int .i64 n1, Value.slice a1 k1.len cap1, Value.slice c1' ws1.length cp1] 58 (0, 0)) by rw [hX]; exact heap_new _ _)
   have hbX := hb.trans (hbx.mono hb.size)
   have HV := hid (vis_any HM S S' f a a1 c1' cap cap1 cp1 n1 t.len k1 ws1 X (hsW.below hbX) hc ((hv1.below hb).below hbx) ((hi1.below hb).below hbx) hg (by omega) (by omega))
   have hv2 := (hv1.below hb).below hbx
   have HS2 := hid hst
   have HCS := hid hcs
   have hl0 : w.heap.size < wr.heap.size := lt_of_cell c0
   clear hd hd1 hst hv1 hi1 hat hcs
   go_wp2_with fail
   rw [← hX]
   clear hX
   refine HV.out.mono ?_
   rintro e w5 ⟨rfl, hb5⟩
   have hbf := hbX.trans (hb5.mono hbX.size)
   replace y0 := cell_below hb5 y0
   replace y1 := cell_below hb5 y1
   replace y2 := cell_below hb5 y2
   have hv3 := hv2.below hb5
   cases hvv : vValid f t.len n1 k1 ws1
   ·have HF := hid (show r = false by rw [HR2.out, ← HSJ.out, HS2.out, hvv]; rfl)
    clear hvv
    go_wp2_with fail
    go_ret
    exact ⟨by rw [HF.out]; rfl, hWb.trans (hbf.mono hWb.size)⟩
   ·have HF := hid (show sysL f t.len (t.drop (j + 1)) = sysL f t.len t by rw [← HSJ.out, HS2.out, hvv]; rfl)
    have hvc := vValid_count hvv
    clear hvv
    go_wp2_with fail
    refine (nodes_any S' k1 n1 a1 c1' cap1 ws1.length cp1 w5 hv3 (by omega)).mono ?_
    rintro e w6 ⟨rfl, hb6⟩
    have hbg := hbf.trans (hb6.mono hbf.size)
    go_wp2_with fail
    go_roundw
    case rel => exact ⟨j + 1, q + (1 + k1.count), by omega, by go_num, by go_num, by omega, by have := HQ.out; have := HCS.out; omega, HF.out, hbg⟩
    case measure => simp [intOf]; omega
  ·have hsl : sysL f t.len t = true := by rw [← HSJ.out, show j = t.len by omega, V.drop_all]; rfl
   have hqe : q = t.count := by have := HQ.out; rw [show j = t.len by omega, V.drop_all] at this; simpa [V.count] using this
   have HF := hid (show r = decide ((q : Int) ≤ 20000) by rw [HR2.out, hsl, hqe]; simp only [Bool.true_and]; exact decide_eq_decide.2 (by omega))
   clear hsl hqe
   go_wp2_with fail
   go_ret
   exact ⟨by rw [HF.out]; rfl, hWb.trans (hb.mono hWb.size)⟩
end Go.Proofs.YtcekilcgpgjooaaGreatDoor
