/- Proved here: contracts of the walk to BisimGraphs: checks and lists of states; each under the conditions that its own statement names. -/
import Derived.Test.YtcekilcgpgjooaaGreatDoorG44
set_option maxRecDepth 100000
set_option maxHeartbeats 3200000
namespace Go.Proofs.YtcekilcgpgjooaaGreatDoor
open Go Go.RowKit
open Go.Lib (hid)
theorem sboth_any (S S2 : Nat → Nat → Prop) (S' S2' : Nat → Prop) (f g : F) (a na a2 na2 : Option Addr) (cap ncap cap2 ncap2 : Nat) (t u : V) (w : World) (hs : Sl S w a f.t) (hv : Vl S' w na t) (hs2 : Sl S2 w a2 g.t) (hv2 : Vl S2' w na2 u) (hk : Kinds w) :
    Calls Tryz.prog 42 #[Sv f a cap na t.len ncap, Sv g a2 cap2 na2 u.len ncap2] w fun e w' => e = .returned (.int .i64 (bothE f t g u)) ∧ Below w.heap.size w w' := by
 obtain ⟨W, hW⟩ : ∃ W : World, W = (w.alloc (Obj.cells #[.int .i64 f.k, .int .i64 f.n, .slice a f.t.len cap, .slice na t.len ncap] 27)).alloc (Obj.cells #[.int .i64 g.k, .int .i64 g.n, .slice a2 g.t.len cap2, .slice na2 u.len ncap2] 27) := ⟨_, rfl⟩
 have hWb : Below w.heap.size w W := by rw [hW]; exact ba2 _ _ _
 have k0 : W.heap[w.heap.size]? = some (Obj.cells #[.int .i64 f.k, .int .i64 f.n, .slice a f.t.len cap, .slice na t.len ncap] 27 (0, 0)) := by rw [hW]; exact heap_old2 _ _ _
 have k1 : W.heap[w.heap.size + 1]? = some (Obj.cells #[.int .i64 g.k, .int .i64 g.n, .slice a2 g.t.len cap2, .slice na2 u.len ncap2] 27 (0, 0)) := by rw [hW]; exact heap_new2 _ _ _
 obtain ⟨bs, hbs⟩ : ∃ bs, bs = w.heap.size := ⟨_, rfl⟩
 rw [← hbs] at k0 k1
 have HE := hid (fun x (hx : Below W.heap.size W x) => And.intro (cells4 ((hx.block _ (heap_lt k0)).trans k0)) (cells4 ((hx.block _ (heap_lt k1)).trans k1)))
 have HWB := hid hWb
 have HC1 := hid (fun x (hx : Below W.heap.size W x) => syscheck_any S S' f a na cap ncap t x ((hs.below hWb).below hx) ((hv.below hWb).below hx) ((hk.below hWb).below hx))
 have HC2 := hid (fun x (hx : Below W.heap.size W x) => syscheck_any S2 S2' g a2 na2 cap2 ncap2 u x ((hs2.below hWb).below hx) ((hv2.below hWb).below hx) ((hk.below hWb).below hx))
 have HSM := hid (fun x (hx : Below W.heap.size W x) => fsame_any f.t g.t S S2 f.k f.n g.k g.n a a2 cap cap2 x ((hs.below hWb).below hx) ((hs2.below hWb).below hx))
 obtain ⟨n1, hn1⟩ : ∃ n1, n1 = t.len := ⟨_, rfl⟩
 obtain ⟨n2, hn2⟩ : ∃ n2, n2 = u.len := ⟨_, rfl⟩
 obtain ⟨m1, hm1⟩ : ∃ m1, m1 = f.t.len := ⟨_, rfl⟩
 obtain ⟨m2, hm2⟩ : ∃ m2, m2 = g.t.len := ⟨_, rfl⟩
 obtain ⟨E, hE⟩ : ∃ E, E = bothE f t g u := ⟨_, rfl⟩
 have HEE := hid hE
 unfold bothE at hE
 have HF := hid hE
 obtain ⟨sm, hsm⟩ : ∃ sm, sm = decide (f.k = g.k ∧ f.n = g.n ∧ f.t = g.t) := ⟨_, rfl⟩
 rw [← hsm] at HSM
 have HS2 := hid hsm
 rw [← HEE.out]
 obtain ⟨⟨c0, c1, c2, c3⟩, d0, d1, d2, d3⟩ := HE.out _ (Below.refl _ _)
 clear hs hv hs2 hv2 hk k0 k1 hWb hE hsm HEE
 by_cases h1 : sysOk f t = true
 rotate_left
 ·have HE2 := hid (show E = 30 by rw [HF.out, if_neg (fun h => h1 h.1)])
  have HCA := hid (show Calls Tryz.prog 29 #[Sv f a cap na t.len ncap] W (fun e w' => e = .returned (.int .i64 30) ∧ Below W.heap.size W w') by have h := HC1.out _ (Below.refl _ _); rw [if_neg h1] at h; exact h)
  clear h1 HC1 HC2
  go_enter Tryz.func42, Tryz.ntmps42
  go_wp2_with fail
  rw [← hW, ← hbs]
  clear hW hbs
  refine HCA.out.mono ?_
  rintro e w1 ⟨rfl, hb1⟩
  have HB1 := hid hb1
  clear hb1
  go_wp2_with fail
  go_ret
  exact ⟨by rw [HE2.out]; rfl, HWB.out.trans (HB1.out.mono HWB.out.size)⟩
 ·have HCA := hid (show Calls Tryz.prog 29 #[Sv f a cap na t.len ncap] W (fun e w' => e = .returned (.int .i64 0) ∧ Below W.heap.size W w') by have h := HC1.out _ (Below.refl _ _); rw [if_pos h1] at h; exact h)
  by_cases h2 : sysOk g u = true
  rotate_left
  ·have HE2 := hid (show E = 30 by rw [HF.out, if_neg (fun h => h2 h.2)])
   have HCB := hid (fun x (hx : Below W.heap.size W x) => (show Calls Tryz.prog 29 #[Sv g a2 cap2 na2 u.len ncap2] x (fun e w' => e = .returned (.int .i64 30) ∧ Below x.heap.size x w') by have h := HC2.out _ hx; rw [if_neg h2] at h; exact h))
   clear h1 h2 HC1 HC2
   go_enter Tryz.func42, Tryz.ntmps42
   go_wp2_with fail
   rw [← hW, ← hbs]
   clear hW hbs
   refine HCA.out.mono ?_
   rintro e w1 ⟨rfl, hb1⟩
   have HB1 := hid hb1
   clear c0 c1 c2 c3 d0 d1 d2 d3
   obtain ⟨⟨c0, c1, c2, c3⟩, d0, d1, d2, d3⟩ := HE.out _ hb1
   clear hb1
   go_wp2_with fail
   refine (HCB.out _ HB1.out).mono ?_
   rintro e w2 ⟨rfl, hb2⟩
   have HB2 := hid (HB1.out.trans (hb2.mono HB1.out.size))
   clear hb2
   go_wp2_with fail
   go_ret
   exact ⟨by rw [HE2.out]; rfl, HWB.out.trans (HB2.out.mono HWB.out.size)⟩
  ·have HCB := hid (fun x (hx : Below W.heap.size W x) => (show Calls Tryz.prog 29 #[Sv g a2 cap2 na2 u.len ncap2] x (fun e w' => e = .returned (.int .i64 0) ∧ Below x.heap.size x w') by have h := HC2.out _ hx; rw [if_pos h2] at h; exact h))
   have HE2 := hid (show E = if sm = true then 0 else 1 by rw [HF.out, if_pos ⟨h1, h2⟩, HS2.out]; simp)
   clear h1 h2 HC1 HC2
   go_enter Tryz.func42, Tryz.ntmps42
   go_wp2_with fail
   rw [← hW, ← hbs]
   clear hW hbs
   refine HCA.out.mono ?_
   rintro e w1 ⟨rfl, hb1⟩
   have HB1 := hid hb1
   clear c0 c1 c2 c3 d0 d1 d2 d3
   obtain ⟨⟨c0, c1, c2, c3⟩, d0, d1, d2, d3⟩ := HE.out _ hb1
   clear hb1
   go_wp2_with fail
   refine (HCB.out _ HB1.out).mono ?_
   rintro e w2 ⟨rfl, hb2⟩
   have HB2 := hid (HB1.out.trans (hb2.mono HB1.out.size))
   clear c0 c1 c2 c3 d0 d1 d2 d3 hb2
   obtain ⟨⟨c0, c1, c2, c3⟩, d0, d1, d2, d3⟩ := HE.out _ HB2.out
   go_wp2_with fail
   refine (HSM.out _ HB2.out).mono ?_
   rintro e w3 ⟨rfl, hb3⟩
   have HB3 := hid (HWB.out.trans ((HB2.out.trans (hb3.mono HB2.out.size)).mono HWB.out.size))
   clear hb3 c0 c1 c2 c3 d0 d1 d2 d3
   cases sm with
   | true =>
    go_wp2_with fail
    go_ret
    exact ⟨by rw [HE2.out]; rfl, HB3.out⟩
   | false =>
    go_wp2_with fail
    go_ret
    exact ⟨by rw [HE2.out]; rfl, HB3.out⟩
theorem svalue_any (n n' : Int) (k k' : V) (ws ws' : List Int) (S S' : Nat → Prop) (a a' c c' : Option Addr) (cap cap' cp cp' : Nat) (w : World) (hx : Vl S w a k) (hx2 : Ints S w c ws) (hy : Vl S' w a' k') (hy2 : Ints S' w c' ws') :
    Calls Tryz.prog 45 #[Vv n a k.len cap c ws.length cp, Vv n' a' k'.len cap' c' ws'.length cp'] w fun e w' => e = .returned (.bool (decide ((n, k, ws) = (n', k', ws')))) ∧ Below w.heap.size w w' := by
 obtain ⟨W, hW⟩ : ∃ W : World, W = (w.alloc (Obj.cells #[.int .i64 n, .slice a k.len cap, .slice c ws.length cp] 58)).alloc (Obj.cells #[.int .i64 n', .slice a' k'.len cap', .slice c' ws'.length cp'] 58) := ⟨_, rfl⟩
 have hWb : Below w.heap.size w W := by rw [hW]; exact ba2 _ _ _
 have k0 : W.heap[w.heap.size]? = some (.cells #[.int .i64 n, .slice a k.len cap, .slice c ws.length cp] 58 (0, 0)) := by rw [hW]; exact heap_old2 _ _ _
 have k1 : W.heap[w.heap.size + 1]? = some (.cells #[.int .i64 n', .slice a' k'.len cap', .slice c' ws'.length cp'] 58 (0, 0)) := by rw [hW]; exact heap_new2 _ _ _
 have HC := hid (cmp_any k k' S S' n n' ws ws' a a' c c' cap cap' cp cp' W (hx.below hWb) (hy.below hWb) (hx2.below hWb) (hy2.below hWb))
 obtain ⟨r, hr⟩ : ∃ r, r = or3 (cmpI n n') (k.cmp k') (cmpL ws ws') := ⟨_, rfl⟩
 rw [← hr] at HC
 have HR := hid (show (r == 0) = decide ((n, k, ws) = (n', k', ws')) by
  rw [Bool.eq_iff_iff, beq_iff_eq, decide_eq_true_eq, hr]
  exact cmp1_eq)
 obtain ⟨q, hq⟩ : ∃ q, q = decide ((n, k, ws) = (n', k', ws')) := ⟨_, rfl⟩
 rw [← hq] at HR ⊢
 obtain ⟨c0, c1, c2⟩ := cells_of k0
 obtain ⟨e0, e1, e2⟩ := cells_of k1
 have HWB := hid hWb
 clear hr hq hx hx2 hy hy2 hWb k0 k1
 go_enter Tryz.func45, Tryz.ntmps45
 go_upto_region 1 with (fail)
 rw [← hW]
 clear hW
 go_wp2_with fail
 refine HC.out.mono ?_
 rintro e w1 ⟨rfl, hb1⟩
 go_wp2_with fail
 go_ret
 exact ⟨by rw [← HR.out]; rfl, HWB.out.trans (hb1.mono HWB.out.size)⟩
def aft : List Int → Int
 | [] => 0
 | y :: r => max (y + 1) (aft r)
theorem aft_nonneg : ∀ l, 0 ≤ aft l
 | [] => Int.le_refl _
 | y :: r => by have := aft_nonneg r; simp only [aft]; omega
theorem aft_gt {l : List Int} : ∀ y ∈ l, y < aft l := by
 induction l with
 | nil => intro y hy; simp at hy
 | cons x r ih =>
  intro y hy
  simp only [aft]
  rcases List.mem_cons.1 hy with rfl | hy
  ·omega
  ·have := ih y hy; omega
theorem aft_le {l : List Int} {m : Int} (hm : 0 ≤ m) (h : ∀ y ∈ l, y < m) : aft l ≤ m := by
 induction l with
 | nil => exact hm
 | cons x r ih =>
  have := ih (fun y hy => h y (List.mem_cons_of_mem _ hy))
  have := h x (List.mem_cons_self ..)
  simp only [aft]; omega
theorem aft_snoc (l : List Int) (y : Int) : aft (l ++ [y]) = max (aft l) (y + 1) := by
 induction l with
 | nil => simp [aft]; omega
 | cons x r ih => simp only [List.cons_append, aft, ih]; omega
theorem after_any (S : Nat → Prop) (a : Option Addr) (cap : Nat) (l : List Int) (w : World) (hi : Ints S w a l) (hl : ∀ y ∈ l, 0 ≤ y ∧ y < 100) :
    Calls Tryz.prog 48 #[.slice a l.length cap] w fun e w' => e = .returned (.int .i64 (aft l)) ∧ Below w.heap.size w w' := by
 obtain ⟨N, hN⟩ : ∃ N, N = l.length := ⟨_, rfl⟩
 have hlen := hi.1
 rw [← hN] at hlen ⊢
 have HN := hid hN
 have HI := hid hi
 have HL := hid hl
 clear hN hi hl
 go_enter Tryz.func48, Tryz.ntmps48
 go_wp2_with fail
 go_loopw [3, 5, 8] (fun z _ i wr => ∃ (j : Nat) (q : Int), j ≤ N ∧ i = .int .i64 j ∧ z = .int .i64 q ∧ q = aft (l.take j) ∧ Below w.heap.size w wr) (fun _ _ i _ => N - (intOf i).toNat)
 case atStart => exact ⟨0, 0, Nat.zero_le _, rfl, rfl, rfl, Below.refl _ _⟩
 case round =>
  obtain ⟨j, q, hj, rfl, rfl, hq, hb⟩ := hrel
  have HB := hid hb
  have HQ := hid hq
  by_cases hlt : j < N
  ·have hjl : j < l.length := by rw [← HN.out]; exact hlt
   obtain ⟨b, o, rfl, d0⟩ := HI.out.get hjl
   replace d0 := cell_below hb d0
   obtain ⟨x, hx⟩ : ∃ x, x = l[j] := ⟨_, rfl⟩
   have hxb := HL.out l[j] (List.getElem_mem hjl)
   rw [← hx] at d0 hxb
   have HST := hid (show aft (l.take (j + 1)) = max q (x + 1) by rw [List.take_succ_eq_append_getElem hjl, aft_snoc, ← hx, hq])
   have hq0 : 0 ≤ q := by rw [hq]; exact aft_nonneg _
   have hq1 : q ≤ 100 := by
    rw [hq]
    exact aft_le (by omega) (fun y hy => (HL.out y (List.mem_of_mem_take hy)).2)
   clear hb hx hq
   go_wp2_with fail
   go_roundw
   case rel => exact ⟨j + 1, max q (x + 1), by omega, by go_num, rfl, HST.out.symm, HB.out⟩
   case measure => simp [intOf]; omega
  ·obtain rfl : j = N := by omega
   have HA := hid (show q = aft l by rw [hq, HN.out, List.take_length])
   clear hb hq
   go_wp2_with fail
   go_ret
   exact ⟨by rw [← HA.out]; rfl, HB.out⟩
theorem indexI_any (S : Nat → Prop) (a : Option Addr) (cap : Nat) (l : List Int) (x : Int) (w : World) (hi : Ints S w a l) :
    Calls Tryz.prog 34 #[.slice a l.length cap, .int .i64 x] w fun e w' => ∃ r : Int, e = .returned (.int .i64 r) ∧ decide (0 ≤ r) = decide (x ∈ l) ∧ Below w.heap.size w w' := by
 obtain ⟨N, hN⟩ : ∃ N, N = l.length := ⟨_, rfl⟩
 have hlen := hi.1
 rw [← hN] at hlen ⊢
 have HN := hid hN
 have HI := hid hi
 clear hN hi
 go_enter Tryz.func34, Tryz.ntmps34
 go_wp2_with fail
 go_loopw [5, 8] (fun _ i wr => ∃ j : Nat, j ≤ N ∧ i = .int .i64 j ∧ (∀ y ∈ l.take j, y ≠ x) ∧ Below w.heap.size w wr) (fun _ i _ => N - (intOf i).toNat)
 case atStart => exact ⟨0, Nat.zero_le _, rfl, by simp, Below.refl _ _⟩
 case round =>
  obtain ⟨j, hj, rfl, hno, hb⟩ := hrel
  have HNO := hid hno
  have HB := hid hb
  clear hno
  by_cases hlt : j < N
  ·have hjl : j < l.length := by rw [← HN.out]; exact hlt
   obtain ⟨b, o, rfl, d0⟩ := HI.out.get hjl
   replace d0 := cell_below hb d0
   obtain ⟨y, hy⟩ : ∃ y, y = l[j] := ⟨_, rfl⟩
   rw [← hy] at d0
   by_cases hxy : x = y
   ·have HA := hid (show x ∈ l by rw [hxy, hy]; exact List.getElem_mem hjl)
    have hxy' : (x == y) = true := by simpa using hxy
    clear hb hy hxy
    go_wp2_with fail
    go_ret
    exact ⟨(j : Int), rfl, by rw [decide_eq_true HA.out]; simp, HB.out⟩
   ·have hxy' : (x == y) = false := by simpa using hxy
    have HS := hid (show ∀ z ∈ l.take (j + 1), z ≠ x by
     intro z hz
     rw [List.take_succ_eq_append_getElem hjl, List.mem_append, List.mem_singleton] at hz
     rcases hz with hz | hz
     ·exact HNO.out z hz
     ·rw [hz, ← hy]; exact fun e => hxy e.symm)
    clear hb hy hxy
    go_wp2_with fail
    go_roundw
    case rel => exact ⟨j + 1, by omega, by go_num, HS.out, HB.out⟩
    case measure => simp [intOf]; omega
  ·obtain rfl : j = N := by omega
   have HA := hid (show ¬ x ∈ l by
    intro h
    have h1 := HNO.out x (by rw [HN.out, List.take_length]; exact h)
    exact h1 rfl)
   clear hb
   go_wp2_with fail
   go_ret
   exact ⟨-1, rfl, by rw [decide_eq_false HA.out]; rfl, HB.out⟩
theorem containsI_any (S : Nat → Prop) (a : Option Addr) (cap : Nat) (l : List Int) (x : Int) (w : World) (hi : Ints S w a l) :
    Calls Tryz.prog 84 #[.slice a l.length cap, .int .i64 x] w fun e w' => e = .returned (.bool (decide (x ∈ l))) ∧ Below w.heap.size w w' := by
 have HC := hid (indexI_any S a cap l x w hi)
 obtain ⟨q, hq⟩ : ∃ q, q = decide (x ∈ l) := ⟨_, rfl⟩
 rw [← hq] at HC ⊢
 clear hi hq
 go_enter Tryz.func84, Tryz.ntmps84
 go_wp2_with fail
 refine HC.out.mono ?_
 rintro e w1 ⟨r, rfl, hr, hb⟩
 have HR := hid hr
 clear hr
 go_wp2_with fail
 go_ret
 exact ⟨by rw [← HR.out]; rfl, hb⟩
theorem hasNoGap_any (S : Nat → Prop) (a : Option Addr) (cap : Nat) (l : List Int) (w : World) (hi : Ints S w a l) (hl : ∀ y ∈ l, 0 ≤ y ∧ y < 100) :
    Calls Tryz.prog 46 #[.slice a l.length cap] w fun e w' => ∃ b : Bool, e = .returned (.bool b) ∧ (b = true ↔ ∀ y : Nat, (y : Int) < aft l → (y : Int) ∈ l) ∧ Below w.heap.size w w' := by
 have HA := hid (after_any S a cap l w hi hl)
 have HC := hid (fun z (hz : Below w.heap.size w z) x => containsI_any S a cap l x z (hi.below hz))
 obtain ⟨m, hm⟩ : ∃ m : Nat, aft l = (m : Int) := ⟨(aft l).toNat, by have := aft_nonneg l; omega⟩
 have hm100 : m ≤ 100 := by have := aft_le (l := l) (m := 100) (by omega) (fun y hy => (hl y hy).2); omega
 have HM := hid hm
 rw [hm] at HA
 obtain ⟨N, hN⟩ : ∃ N, N = l.length := ⟨_, rfl⟩
 have hlen := hi.1
 rw [← hN] at hlen HA HC ⊢
 clear hi hl hm hN
 go_enter Tryz.func46, Tryz.ntmps46
 go_wp2_with fail
 refine HA.out.mono ?_
 rintro e w1 ⟨rfl, hb1⟩
 have HB1 := hid hb1
 clear hb1
 go_wp2_with fail
 go_loopw [3, 6] (fun _ i wr => ∃ j : Nat, j ≤ m ∧ i = .int .i64 j ∧ (∀ y : Nat, y < j → (y : Int) ∈ l) ∧ Below w.heap.size w wr) (fun _ i _ => m - (intOf i).toNat)
 case atStart => exact ⟨0, Nat.zero_le _, rfl, fun y h => absurd h (by omega), HB1.out⟩
 case round =>
  obtain ⟨j, hj, rfl, hno, hb⟩ := hrel
  have HNO := hid hno
  have HB := hid hb
  clear hno
  by_cases hlt : j < m
  ·have HCC := hid (HC.out wr hb (j : Int))
   obtain ⟨q, hq⟩ : ∃ q, q = decide ((j : Int) ∈ l) := ⟨_, rfl⟩
   rw [← hq] at HCC
   have HQ := hid hq
   clear hb hq
   go_wp2_with fail
   refine HCC.out.mono ?_
   rintro e w2 ⟨rfl, hb2⟩
   have HB2 := hid (HB.out.trans (hb2.mono HB.out.size))
   clear hb2
   cases q with
   | true =>
    have hin := of_decide_eq_true HQ.out.symm
    have HS := hid (show ∀ y : Nat, y < j + 1 → (y : Int) ∈ l by
     intro y hy
     by_cases hyj : y = j
     ·subst hyj; exact hin
     ·exact HNO.out y (by omega))
    clear hin
    go_wp2_with fail
    go_roundw
    case rel => exact ⟨j + 1, by omega, by go_num, HS.out, HB2.out⟩
    case measure => simp [intOf]; omega
   | false =>
    have HN2 := hid (of_decide_eq_false HQ.out.symm)
    go_wp2_with fail
    go_ret
    exact ⟨false, rfl, ⟨(fun h => by cases h), fun h => absurd (h j (by rw [HM.out]; omega)) HN2.out⟩, HB2.out⟩
  ·obtain rfl : j = m := by omega
   clear hb
   go_wp2_with fail
   go_ret
   exact ⟨true, rfl, ⟨(fun _ y hy => HNO.out y (by have := HM.out; omega)), fun _ => rfl⟩, HB.out⟩
theorem statesR_any (S : Nat → Prop) (f : F) (a na la : Option Addr) (cap ncap lcap n : Nat) (l : List Int) (w : World) (hi : Ints S w la l) :
    Calls Tryz.prog 16 #[Sv f a cap na n ncap, .slice la l.length lcap] w fun e w' => e = .returned (.bool (l.all (fun x => decide (0 ≤ x ∧ x < n)))) ∧ Below w.heap.size w w' := by
 obtain ⟨W, hW⟩ : ∃ W : World, W = w.alloc (Obj.cells #[.int .i64 f.k, .int .i64 f.n, .slice a f.t.len cap, .slice na n ncap] 27) := ⟨_, rfl⟩
 have hWb : Below w.heap.size w W := by rw [hW]; exact ba _ _
 obtain ⟨B, hB⟩ : ∃ B, B = w.heap.size := ⟨_, rfl⟩
 have g0 : W.heap[B]? = some (Obj.cells #[.int .i64 f.k, .int .i64 f.n, .slice a f.t.len cap, .slice na n ncap] 27 (0, 0)) := by rw [hW, hB]; exact heap_new _ _
 have HG0 := hid g0
 have HWB := hid hWb
 obtain ⟨N, hN⟩ : ∃ N, N = l.length := ⟨_, rfl⟩
 have hlen := hi.1
 rw [← hN] at hlen ⊢
 have HN := hid hN
 have HI := hid hi
 obtain ⟨r, hr⟩ : ∃ r, r = l.all (fun x => decide (0 ≤ x ∧ x < n)) := ⟨_, rfl⟩
 rw [← hr]
 have HR := hid hr
 clear hi hWb g0 hN hr
 go_enter Tryz.func16, Tryz.ntmps16
 go_upto_region 1 with (fail)
 rw [← hW, ← hB]
 clear hW hB
 go_wp2_with fail
 go_loopw [6, 9] (fun _ i wr => ∃ j : Nat, j ≤ N ∧ i = .int .i64 j ∧ ((l.take j).all (fun x => decide (0 ≤ x ∧ x < n)) = true) ∧ Below W.heap.size W wr) (fun _ i _ => N - (intOf i).toNat)
 case atStart => exact ⟨0, Nat.zero_le _, rfl, by simp, Below.refl _ _⟩
 case round =>
  obtain ⟨j, hj, rfl, hno, hb⟩ := hrel
  have HNO := hid hno
  have HB := hid (HWB.out.trans (hb.mono HWB.out.size))
  have HBW := hid hb
  clear hno
  by_cases hlt : j < N
  ·have hjl : j < l.length := by rw [← HN.out]; exact hlt
   obtain ⟨b, o, rfl, d0⟩ := HI.out.get hjl
   replace d0 := cell_below HB.out d0
   obtain ⟨x, hx⟩ : ∃ x, x = l[j] := ⟨_, rfl⟩
   rw [← hx] at d0
   obtain ⟨c0, c1, c2, c3⟩ := cells4' ((hb.block _ (heap_lt HG0.out)).trans HG0.out)
   have HST := hid (show (l.take (j + 1)).all (fun x => decide (0 ≤ x ∧ x < n)) = decide (0 ≤ x ∧ x < n) by rw [List.take_succ_eq_append_getElem hjl, List.all_append, HNO.out, ← hx]; simp)
   have HFL := hid (show ¬ (0 ≤ x ∧ x < n) → r = false by
    intro h
    rw [HR.out, Bool.eq_false_iff]
    intro h2
    rw [List.all_eq_true] at h2
    exact h (of_decide_eq_true (h2 x (by rw [hx]; exact List.getElem_mem hjl))))
   clear hb hx
   by_cases h0 : x < 0
   ·have h0' : decide (x < (0 : Int)) = true := decide_eq_true h0
    have HF := hid (HFL.out (by omega))
    clear h0
    go_wp2_with fail
    go_ret
    exact ⟨by rw [HF.out]; rfl, HB.out⟩
   ·have h0' : decide (x < (0 : Int)) = false := decide_eq_false h0
    by_cases h1 : (n : Int) ≤ x
    ·have h1' : decide ((n : Int) ≤ x) = true := decide_eq_true h1
     have HF := hid (HFL.out (by omega))
     clear h0 h1
     go_wp2_with fail
     go_ret
     exact ⟨by rw [HF.out]; rfl, HB.out⟩
    ·have h1' : decide ((n : Int) ≤ x) = false := decide_eq_false h1
     have HS := hid (show (l.take (j + 1)).all (fun x => decide (0 ≤ x ∧ x < n)) = true by rw [HST.out]; exact decide_eq_true (by omega))
     clear h0 h1
     go_wp2_with fail
     go_roundw
     case rel => exact ⟨j + 1, by omega, by go_num, HS.out, HBW.out⟩
     case measure => simp [intOf]; omega
  ·obtain rfl : j = N := by omega
   have HF := hid (show r = true by have := HNO.out; rw [HN.out, List.take_length] at this; rw [HR.out]; exact this)
   clear hb
   go_wp2_with fail
   go_ret
   exact ⟨by rw [HF.out]; rfl, HB.out⟩
end Go.Proofs.YtcekilcgpgjooaaGreatDoor
