/- Proved here: contracts of the walk to BisimGraphs: divisor and isNormal; each under the conditions that its own statement names. -/
import Derived.Test.YtcekilcgpgjooaaGreatDoorG11
set_option maxRecDepth 100000
set_option maxHeartbeats 3200000
namespace Go.Proofs.YtcekilcgpgjooaaGreatDoor
open Go.RowKit
open Go.Lib (hid)
theorem coll_any (k fn : Int) (a : Option Addr) (len cap : Nat) (w : World) :
    Calls Tryz.prog 129 #[.agg #[.int .i64 k, .int .i64 fn, .slice a len cap]] w fun e w' => e = .returned (.bool (coll k)) ∧ Below w.heap.size w w' := by
 by_cases h5 : k = 5
 ·subst h5
  go_enter Tryz.func129, Tryz.ntmps129
  go_wp2_with fail
  go_ret
  exact ⟨rfl, ba _ _⟩
 by_cases h6 : k = 6
 ·subst h6
  go_enter Tryz.func129, Tryz.ntmps129
  go_wp2_with fail
  go_ret
  exact ⟨rfl, ba _ _⟩
 by_cases h7 : k = 7
 ·subst h7
  go_enter Tryz.func129, Tryz.ntmps129
  go_wp2_with fail
  go_ret
  exact ⟨rfl, ba _ _⟩
 have HR := hid (show coll k = false by simp [coll, h5, h6, h7])
 have b5 : (k == 5) = false := by simpa using h5
 have b6 : (k == 6) = false := by simpa using h6
 have b7 : (k == 7) = false := by simpa using h7
 clear h5 h6 h7
 go_enter Tryz.func129, Tryz.ntmps129
 go_wp2_with fail
 go_ret
 exact ⟨by rw [HR.out]; rfl, ba _ _⟩
theorem gcd_step (d x : Nat) : Nat.gcd x (d % x) = Nat.gcd d x := by rw [Nat.gcd_comm d x, Nat.gcd_rec x d, Nat.gcd_comm]
theorem gcdL_drop {d : Nat} {ws : List Int} {j : Nat} (h : j < ws.length) : gcdL d (ws.drop j) = gcdL (Nat.gcd d ws[j].toNat) (ws.drop (j + 1)) := by
 rw [List.drop_eq_getElem_cons h]; rfl
theorem gcd_any (S' : Nat → Prop) (c : Option Addr) (cp : Nat) (ws : List Int) (w : World) (hi : Ints S' w c ws) (hp : ∀ x ∈ ws, 0 ≤ x ∧ x ≤ 1048576) :
    Calls Tryz.prog 130 #[.slice c ws.length cp] w fun e w' => e = .returned (.int .i64 (gcdL 0 ws : Nat)) ∧ ∃ n, w' = w.drewN n := by
 have hlw := hi.1
 have HP := hid hp
 clear hp
 go_enter Tryz.func130, Tryz.ntmps130
 go_wp2_with fail
 go_loopw [3, 5, 8] (fun d _ i wr => ∃ j q nq : Nat, j ≤ ws.length ∧ i = .int .i64 j ∧ d = .int .i64 q ∧ q ≤ 1048576 ∧ gcdL q (ws.drop j) = gcdL 0 ws ∧ wr = w.drewN nq) (fun _ _ i _ => ws.length - (intOf i).toNat)
 case atStart => exact ⟨0, 0, 0, Nat.zero_le _, rfl, rfl, by omega, by simp, rfl⟩
 case round =>
  obtain ⟨j, q, nq, hj, rfl, rfl, hq, hg, rfl⟩ := hrel
  have HG := hid hg
  clear hg
  by_cases hlt : j < ws.length
  ·obtain ⟨b, o, rfl, d0⟩ := hi.get hlt
   have hstep := gcdL_drop (d := q) hlt
   have hx2 := HP.out _ (List.getElem_mem hlt)
   obtain ⟨x, hx⟩ : ∃ x : Nat, ws[j] = (x : Int) := ⟨ws[j].toNat, by omega⟩
   rw [hx] at hstep d0 hx2
   rw [Int.toNat_natCast] at hstep
   have HS := hid hstep
   have hxm : x ≤ 1048576 := by omega
   clear hstep hx hx2
   go_wp2_with fail
   obtain ⟨wo, hwo⟩ : ∃ wo : World, wo = w.drewN nq := ⟨_, rfl⟩
   go_loopw [3, 5] (fun d x1 wr => ∃ p y nq : Nat, d = .int .i64 p ∧ x1 = .int .i64 y ∧ p ≤ 1048576 ∧ y ≤ 1048576 ∧ Nat.gcd p y = Nat.gcd q x ∧ wr = w.drewN nq) (fun _ x1 _ => (intOf x1).toNat)
   case atStart => exact ⟨q, x, nq, rfl, rfl, hq, hxm, rfl, rfl⟩
   case round =>
    obtain ⟨p, y, nq, rfl, rfl, hp1, hy1, hgg, rfl⟩ := hrel
    have HG2 := hid hgg
    clear hgg
    by_cases hy : y = 0
    ·subst hy
     have HP0 := hid (show p = Nat.gcd q x by rw [← HG2.out]; simp)
     go_wp2_with fail
     go_roundw
     case rel => exact ⟨j + 1, p, nq, by omega, by go_num, rfl, hp1, by rw [HP0.out, ← HS.out]; exact HG.out, rfl⟩
     case measure => simp [intOf]; omega
    ·have hyn : ((y : Int) != 0) = true := by simp; omega
     have hy0 : (1 : Int) ≤ y := by omega
     have HY := hid hy
     clear hy
     go_wp2_with fail
     go_quiet (fail)
     go_wp2_with fail
     go_roundw
     case rel => exact ⟨y, p % y, _, rfl, by go_num, hy1, by have := Nat.mod_lt p (show 0 < y by omega); omega, by rw [gcd_step]; exact HG2.out, World.drewN_drewN _ _ _⟩
     case measure => simp [intOf]; have := Nat.mod_lt p (show 0 < y by omega); omega
  ·go_wp2_with fail
   go_ret
   exact ⟨by rw [← HG.out, List.drop_of_length_le (by omega)]; rfl, _, rfl⟩
theorem V.inc_step {t : V} {j : Nat} {n n' : Int} {k k' : V} {ws ws' : List Int} {r r' : V} (h : t.drop j = .cons n k ws r) (h' : t.drop (j + 1) = .cons n' k' ws' r') :
    (t.drop j).inc = (decide (or3 (cmpI n n') (k.cmp k') (cmpL ws ws') < 0) && (t.drop (j + 1)).inc) := by
 have e : r = .cons n' k' ws' r' := by
  have := V.drop_lt (t := t) (i := j) (by
   have := t.drop_len j; rw [h] at this; simp only [V.len] at this; omega)
  obtain ⟨_, _, _, r2, h1, h2⟩ := this
  rw [h] at h1
  simp only [V.cons.injEq] at h1
  rw [h1.2.2.2, ← h2, h']
 rw [h, h', e]; rfl
theorem V.inc_end {t : V} {j : Nat} (h : t.len ≤ j + 1) : (t.drop j).inc = true := by
 by_cases hj : j < t.len
 ·obtain ⟨n, k, ws, r, h1, h2⟩ := V.drop_lt hj
  have : r = .nil := by
   have := t.drop_len (j + 1)
   rw [h2] at this
   cases r with
   | nil => rfl
   | cons => simp only [V.len] at this; omega
  rw [h1, this]; rfl
 ·have := t.drop_len j
  cases hd : t.drop j with
  | nil => rfl
  | cons => rw [hd] at this; simp only [V.len] at this; omega
theorem wOk_bd {ws : List Int} : ∀ {q : Int}, wOk q ws = true → ∀ x ∈ ws, 1 ≤ x ∧ x ≤ q := by
 induction ws with
 | nil => intro q _ x hx; simp at hx
 | cons y r ih =>
  intro q h x hx
  unfold wOk at h
  simp only [Bool.and_eq_true, decide_eq_true_eq] at h
  rcases List.mem_cons.1 hx with rfl | hx
  ·exact h.1
  ·have := ih h.2 x hx; omega
theorem weighs_bd {k : Int} {len : Nat} {ws : List Int} (h : weighs k len ws = true) : ∀ x ∈ ws, 0 ≤ x ∧ x ≤ 1048576 := by
 intro x hx
 unfold weighs at h
 split at h
 ·simp only [Bool.and_eq_true] at h
  have := wOk_bd h.1 x hx
  omega
 ·simp only [decide_eq_true_eq, List.length_eq_zero_iff] at h
  rw [h] at hx; simp at hx
theorem isNormal_any (S : Nat → Nat → Prop) (S' : Nat → Prop) (f : F) (a a' c : Option Addr) (cap cap' cp : Nat) (n : Int) (kids : V) (ws : List Int) (w : World) (_hs : Sl S w a f.t) (hv : Vl S' w a' kids) (hi : Ints S' w c ws) (hw : ∀ x ∈ ws, 0 ≤ x ∧ x ≤ 1048576) :
    Calls Tryz.prog 94 #[f.val a cap, Vv n a' kids.len cap' c ws.length cp] w fun e w' => e = .returned (.bool (nodeOk f kids ws)) ∧ Below w.heap.size w w' := by
 obtain ⟨W, hW⟩ : ∃ W : World, W = (w.alloc (Obj.cells #[.int .i64 f.k, .int .i64 f.n, Value.slice a f.t.len cap] 24)).alloc (Obj.cells #[.int .i64 n, Value.slice a' kids.len cap', Value.slice c ws.length cp] 58) := ⟨_, rfl⟩
 have hWb : Below w.heap.size w W := by rw [hW]; exact ba2 _ _ _
 have c0 : W.cell? ⟨w.heap.size, 0, none⟩ = some (.int .i64 f.k) := by rw [hW]; simp
 have c1 : W.cell? ⟨w.heap.size, 1, none⟩ = some (.int .i64 f.n) := by rw [hW]; simp
 have c2 : W.cell? ⟨w.heap.size, 2, none⟩ = some (.slice a f.t.len cap) := by rw [hW]; simp
 have e1 : W.cell? ⟨w.heap.size + 1, 1, none⟩ = some (.slice a' kids.len cap') := by rw [hW]; simp
 have e2 : W.cell? ⟨w.heap.size + 1, 2, none⟩ = some (.slice c ws.length cp) := by rw [hW]; simp
 have HE := hid (fun x (hx : Below W.heap.size W x) => And.intro (cell_below hx c0) (And.intro (cell_below hx e1) (cell_below hx e2)))
 have hvW := hv.below hWb
 have hiW := hi.below hWb
 have hlen := hv.1
 have HW2 := hid hw
 clear hw _hs hv hi
 go_enter Tryz.func94, Tryz.ntmps94
 go_wp2_with fail
 rw [← hW]
 clear hW
 refine (coll_any f.k f.n a f.t.len cap W).mono ?_
 rintro e w1 ⟨rfl, hb1⟩
 cases hc : coll f.k
 ·have HR := hid (show nodeOk f kids ws = true by simp [nodeOk, hc])
  clear hc
  go_wp2_with fail
  go_ret
  exact ⟨by rw [HR.out]; rfl, hWb.trans (hb1.mono hWb.size)⟩
 have HR := hid (show nodeOk f kids ws = (kids.inc && (decide (kids.len ≤ 100) && (decide (f.k ≠ 7) || decide (gcdL 0 ws = 1)))) by simp [nodeOk, hc])
 clear hc c0 c1 c2 e1 e2
 obtain ⟨c0, e1, e2⟩ := HE.out _ hb1
 go_wp2_with fail
 go_loopw [5, 13] (fun _ i wr => ∃ j : Nat, (kids.len = 0 ∧ j = 0 ∨ j < kids.len) ∧ i = .int .i64 j ∧ (kids.drop j).inc = kids.inc ∧ Below W.heap.size W wr) (fun _ i _ => kids.len - (intOf i).toNat)
 case atStart => exact ⟨0, by omega, rfl, by simp, hb1⟩
 case round =>
  obtain ⟨j, hj, rfl, hq, hb⟩ := hrel
  have HQ := hid hq
  clear hq c0 e1 e2
  obtain ⟨c0, e1, e2⟩ := HE.out _ hb
  by_cases hlt : j + 1 < kids.len
  ·have hj0 : j < kids.len := by omega
   obtain ⟨b, o, rfl, hat⟩ := hvW.addr hlt
   obtain ⟨n1, k1, ws1, r1, hd, hd1⟩ := V.drop_lt hj0
   obtain ⟨d0, ⟨a1, cap1, d1, hv1⟩, ⟨c1, cp1, d2, hi1⟩⟩ := hat.get hd
   obtain ⟨n2, k2, ws2, r2, hd', hd1'⟩ := V.drop_lt hlt
   obtain ⟨f0, ⟨a2, cap2, f1, hv2⟩, ⟨c2, cp2, f2, hi2⟩⟩ := hat.get hd'
   replace d0 := cell_below hb d0
   replace d1 := cell_below hb d1
   replace d2 := cell_below hb d2
   replace f0 := cell_below hb f0
   replace f1 := cell_below hb f1
   replace f2 := cell_below hb f2
   have HC := hid (fun x (hx : Below W.heap.size W x) => cmp_any k1 k2 S' S' n1 n2 ws1 ws2 a1 a2 c1 c2 cap1 cap2 cp1 cp2 x (hv1.below hx) (hv2.below hx) (hi1.below hx) (hi2.below hx))
   have hstep := V.inc_step hd hd'
   obtain ⟨r, hr⟩ : ∃ r, r = or3 (cmpI n1 n2) (k1.cmp k2) (cmpL ws1 ws2) := ⟨_, rfl⟩
   simp only [← hr] at HC hstep
   have HS := hid hstep
   have hbd : Below W.heap.size W wr.drew := hb.drew
   clear hr hd hd1 hd' hd1' hstep
   go_wp2_with fail
   have q2 : (0 : Int) ≤ (j : Int) + 1 := by omega
   have q4 : (j : Int) + 1 < kids.len := by omega
   have q3 : ((j : Int) + 1).toNat = j + 1 := by omega
   have q1 : IntKind.i64.wrap ((j : Int) + 1) = (j : Int) + 1 := IntWalk.i64_in _ (by omega)
   go_region_held3 (fun x : World => x.cell? ⟨w.heap.size + 1, 1, none⟩ = some (.slice (some ⟨b, o, none⟩) kids.len cap') ∧ x.cell? ⟨b, o + j * 3, none⟩ = some (.int .i64 n1) ∧ x.cell? ⟨b, o + j * 3 + 1, none⟩ = some (.slice a1 k1.len cap1) ∧ x.cell? ⟨b, o + j * 3 + 2, none⟩ = some (.slice c1 ws1.length cp1) ∧ x.cell? ⟨b, o + (j + 1) * 3, none⟩ = some (.int .i64 n2) ∧ x.cell? ⟨b, o + (j + 1) * 3 + 1, none⟩ = some (.slice a2 k2.len cap2) ∧ x.cell? ⟨b, o + (j + 1) * 3 + 2, none⟩ = some (.slice c2 ws2.length cp2)) (first | exact ⟨e1, d0, d1, d2, f0, f1, f2⟩) (first | (go_at_call 83; refine (HC.out _ hbd).mono ?_; rintro e wx ⟨rfl, hbx⟩; have hbz := hbd.trans (hbx.mono hbd.size); have d0 := cell_below hbx d0; have d1 := cell_below hbx d1; have d2 := cell_below hbx d2; have f0 := cell_below hbx f0; have f1 := cell_below hbx f1; have f2 := cell_below hbx f2; have e1 := cell_below hbx e1))
   clear q1 q2 q3 q4
   by_cases hz : 0 ≤ r
   ·have HF := hid (show kids.inc = false by rw [← HQ.out, HS.out]; simp; omega)
    go_wp2_with fail
    go_ret
    exact ⟨by rw [HR.out, HF.out]; rfl, hWb.trans (hbz.mono hWb.size)⟩
   ·have hz' : r < 0 := by omega
    have HF := hid (show (kids.drop (j + 1)).inc = kids.inc by rw [← HQ.out, HS.out]; simp [hz'])
    clear hz
    go_wp2_with fail
    go_roundw
    case rel => exact ⟨j + 1, by omega, by go_num, HF.out, hbz⟩
    case measure => simp [intOf]; omega
  ·have HI := hid (show kids.inc = true by rw [← HQ.out]; exact V.inc_end (by omega))
   have hbw := hWb.trans (hb.mono hWb.size)
   by_cases h1 : kids.len ≤ 100
   ·by_cases h7 : f.k = 7
    ·have hk7 : (f.k != 7) = false := by simp [h7]
     have HX := hid (show nodeOk f kids ws = decide (gcdL 0 ws = 1) by rw [HR.out, HI.out]; simp [h1, h7])
     clear h7
     go_wp2_with fail
     refine (gcd_any S' c cp ws _ (hiW.below hb) HW2.out).mono ?_
     rintro e w2 ⟨rfl, n2, rfl⟩
     go_wp2_with fail
     go_ret
     exact ⟨by rw [HX.out]; exact eqn_len _ 1, hbw.trans below_drewN⟩
    ·have hk7 : (f.k != 7) = true := by simpa using h7
     have HX := hid (show nodeOk f kids ws = true by rw [HR.out, HI.out]; simp [h1, h7])
     clear h7
     go_wp2_with fail
     go_ret
     exact ⟨by rw [HX.out]; rfl, hbw⟩
   ·have HX := hid (show nodeOk f kids ws = false by rw [HR.out, HI.out]; simp [h1])
    have h1' : 100 < kids.len := by omega
    go_wp2_with fail
    go_ret
    exact ⟨by rw [HX.out]; rfl, hbw⟩
end Go.Proofs.YtcekilcgpgjooaaGreatDoor
