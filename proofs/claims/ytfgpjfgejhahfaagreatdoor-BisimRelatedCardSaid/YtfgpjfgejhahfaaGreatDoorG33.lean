/-
  Proved here: contracts of the walk to BisimRelated: remembered answers, and covers; each under the conditions that its own statement names.
-/
import Derived.Test.YtfgpjfgejhahfaaGreatDoorG32
namespace Go.Proofs.YtfgpjfgejhahfaaGreatDoor
open Go Go.RowKit

theorem Tryz.cells92 : Tryz.prog.cellsOf 92 = 1 := by kernel_rfl

/-- Where what is remembered lies. -/
structure Rem where
  n : Nat
  m : Nat
  bm : Nat
  bk : Nat
  bd : Nat
  ba : Nat
  kb : Nat
  ab : Nat
def Rem.lb (y : Rem) : Array Value := #[.pointer (some ⟨y.bm, 0, none⟩), .pointer (some ⟨y.bk, 0, none⟩), .pointer (some ⟨y.bd, 0, none⟩), .pointer (some ⟨y.ba, 0, none⟩)]
structure RemIn (y : Rem) (g : Nat) (lb : Array Value) (rel : Nat → Nat → Bool) (w : World) (kn an : Nat → Bool) : Prop where
  m : w.heap[y.bm]? = some (Obj.cells #[.int .i64 (y.m : Int)] 3 (0, 0))
  k : w.heap[y.bk]? = some (Obj.cells #[.slice (some ⟨y.kb, 0, none⟩) (y.n * y.m) (y.n * y.m)] 92 (0, 0))
  d : w.heap[y.bd]? = some (Obj.cells #[.func (.func g) #[] lb] 80 (0, 0))
  a : w.heap[y.ba]? = some (Obj.cells #[.slice (some ⟨y.ab, 0, none⟩) (y.n * y.m) (y.n * y.m)] 92 (0, 0))
  rk : w.rowIs y.kb 4 (y.n * y.m) (fun i => .bool (kn i))
  ra : w.rowIs y.ab 4 (y.n * y.m) (fun i => .bool (an i))
  ok : ∀ a b, a < y.n → b < y.m → kn (a * y.m + b) = true → an (a * y.m + b) = rel a b
/-- The blocks are new (from B0 on, below B1), and different. -/
structure RemOk (y : Rem) (B0 B1 : Nat) : Prop where
  n : y.n ≤ 1000
  m : y.m ≤ 1000
  lo : B0 ≤ y.bm ∧ B0 ≤ y.bk ∧ B0 ≤ y.bd ∧ B0 ≤ y.ba ∧ B0 ≤ y.kb ∧ B0 ≤ y.ab
  hi : y.bm < B1 ∧ y.bk < B1 ∧ y.bd < B1 ∧ y.ba < B1 ∧ y.kb < B1 ∧ y.ab < B1
  ne : y.kb ≠ y.ab ∧ y.kb ≠ y.bm ∧ y.kb ≠ y.bk ∧ y.kb ≠ y.bd ∧ y.kb ≠ y.ba ∧ y.ab ≠ y.bm ∧ y.ab ≠ y.bk ∧ y.ab ≠ y.bd ∧ y.ab ≠ y.ba
def RemI (y : Rem) (g : Nat) (lb : Array Value) (rel : Nat → Nat → Bool) (I0 : World → Prop) (B1 : Nat) (w : World) : Prop := I0 w ∧ B1 ≤ w.heap.size ∧ ∃ kn an, RemIn y g lb rel w kn an
def RemP (y : Rem) (P0 : Nat → Prop) : Nat → Prop := fun k => P0 k ∨ k = y.kb ∨ k = y.ab

theorem RemIn.same {y : Rem} {B0 B1 : Nat} {g : Nat} {lb : Array Value} {rel : Nat → Nat → Bool} {w w' : World} {kn an : Nat → Bool} (h : RemIn y g lb rel w kn an) (hy : RemOk y B0 B1) (hk : ∀ k, B0 ≤ k → k < B1 → w'.heap[k]? = w.heap[k]?) : RemIn y g lb rel w' kn an := by
  obtain ⟨l1, l2, l3, l4, l5, l6⟩ := hy.lo
  obtain ⟨h1, h2, h3, h4, h5, h6⟩ := hy.hi
  exact ⟨by rw [hk _ l1 h1]; exact h.m, by rw [hk _ l2 h2]; exact h.k, by rw [hk _ l3 h3]; exact h.d, by rw [hk _ l4 h4]; exact h.a, h.rk.of_block (hk _ l5 h5), h.ra.of_block (hk _ l6 h6), h.ok⟩
theorem rowB_set {w : World} {b n : Nat} {t : TypeId} {f : Nat → Bool} (h : w.rowIs b t n (fun i => .bool (f i))) (i : Nat) (x : Bool) :
    (w.setCell ⟨b, i, none⟩ (.bool x)).rowIs b t n (fun j => .bool (if j = i then x else f j)) :=
  (h.set i (.bool x)).congr (fun j _ => by by_cases e : j = i <;> simp [e])
/-- An answer is remembered. -/
theorem RemIn.learn {y : Rem} {B0 B1 : Nat} {g : Nat} {lb : Array Value} {rel : Nat → Nat → Bool} {w : World} {kn an : Nat → Bool} (h : RemIn y g lb rel w kn an) (hy : RemOk y B0 B1) {a b : Nat} (ha : a < y.n) (hb : b < y.m) :
    RemIn y g lb rel ((w.setCell ⟨y.ab, a * y.m + b, none⟩ (.bool (rel a b))).setCell ⟨y.kb, a * y.m + b, none⟩ (.bool true)) (fun j => if j = a * y.m + b then true else kn j) (fun j => if j = a * y.m + b then rel a b else an j) := by
  obtain ⟨n1, n2, n3, n4, n5, n6, n7, n8, n9⟩ := hy.ne
  refine ⟨lkSet (Ne.symm n2) (lkSet (Ne.symm n6) h.m), lkSet (Ne.symm n3) (lkSet (Ne.symm n7) h.k), lkSet (Ne.symm n4) (lkSet (Ne.symm n8) h.d), lkSet (Ne.symm n5) (lkSet (Ne.symm n9) h.a),
    rowB_set (h.rk.setOther (by simpa using n1) _) _ _, (rowB_set h.ra _ _).setOther (by simpa using Ne.symm n1) _, fun a' b' ha' hb' hk => ?_⟩
  by_cases e : a' * y.m + b' = a * y.m + b
  · have hm : 0 < y.m := by omega
    have e1 : a' = a := by
      have h1 : (a' * y.m + b') / y.m = a' := by rw [Nat.add_comm, Nat.add_mul_div_right _ _ hm, Nat.div_eq_of_lt hb']; omega
      have h2 : (a * y.m + b) / y.m = a := by rw [Nat.add_comm, Nat.add_mul_div_right _ _ hm, Nat.div_eq_of_lt hb]; omega
      rw [← h1, ← h2, e]
    subst e1
    have e2 : b' = b := by omega
    subst e2
    simp
  · simp only [if_neg e] at hk ⊢
    exact h.ok a' b' ha' hb' hk

theorem lkCell {u : World} {b o c i : Nat} {v x : Value} (hk : b ≠ c) (h : u.cell? ⟨b, o, none⟩ = some x) : (u.setCell ⟨c, i, none⟩ v).cell? ⟨b, o, none⟩ = some x := by
  unfold World.cell? at h ⊢
  simp only at h ⊢
  rw [Below.heap_setCell _ _ _ _ (by simpa using hk)]; exact h

theorem idx_lt {a b n m : Nat} (ha : a < n) (hb : b < m) : a * m + b < n * m := by
  have h1 : (a + 1) * m ≤ n * m := Nat.mul_le_mul_right m ha
  rw [Nat.add_mul] at h1
  omega

set_option maxRecDepth 100000 in
set_option maxHeartbeats 3200000 in
theorem rem_call {B0 B1 : Nat} {P0 : Nat → Prop} {I0 : World → Prop} {rel : Nat → Nat → Bool} {g : Nat} {lb : Array Value} (y : Rem) (hA : Asks B0 P0 I0 y.n y.m rel g lb) (hy : RemOk y B0 B1) (a b : Nat) (w : World) (ha : a < y.n) (hb : b < y.m) (hI : RemI y g lb rel I0 B1 w) :
    Calls Tryz.prog 141 (#[.int .i64 (a : Int), .int .i64 (b : Int)] ++ y.lb) w fun e w' => e = .returned (.bool (rel a b)) ∧ RemI y g lb rel I0 B1 w' ∧ Kept (RemP y P0) w w' := by
  obtain ⟨hI0, hB1, kn, an, hr⟩ := hI
  have eg := hA.eg
  have HA := Lib.hid hA
  have HY := Lib.hid hy
  have HI0 := Lib.hid hI0
  have HR := Lib.hid hr
  have HB1 := Lib.hid hB1
  have hlt := idx_lt ha hb
  have hnm : y.n * y.m ≤ 1000000 := Nat.mul_le_mul hy.n hy.m
  obtain ⟨n, m, bm, bk, bd, ba, kb, ab⟩ := y
  simp only [Rem.lb]
  simp only at ha hb hlt hnm
  have hmb : m ≤ 1000 := hy.m
  have hab : a ≤ 1000 := by have := hy.n; simp only at this; omega
  obtain ⟨q, hq⟩ : ∃ q, q = a * m := ⟨_, rfl⟩
  obtain ⟨N, hN⟩ : ∃ N, N = n * m := ⟨_, rfl⟩
  have hqb : q ≤ 1000000 := by rw [hq]; exact Nat.mul_le_mul hab hmb
  have hmul : wrap64 ((a : Int) * (m : Int)) = (q : Int) := by
    rw [hq, ← Int.natCast_mul]
    exact IntWalk.wrap64_in _ ⟨by omega, by rw [← hq]; omega⟩
  have z0 := cell_of1 hr.m
  have z1 := cell_of1 hr.k
  have z2 := cell_of1 hr.d
  have z3 := cell_of1 hr.a
  have hi : q + b < N := by rw [hq, hN]; exact hlt
  have r0 := hr.rk.cell (i := q + b) (by simp only; rw [← hN]; exact hi)
  have r1 := hr.ra.cell (i := q + b) (by simp only; rw [← hN]; exact hi)
  simp only at z0 z1 z2 z3 r0 r1
  rw [← hN] at z1 z3
  have HOKR := Lib.hid hr.ok
  have HQ := Lib.hid hq
  have HNN := Lib.hid hN
  clear hA hy hI0 hB1 hr hq hN hlt hnm
  have hnn : N ≤ 1000000 := by rw [HNN.out]; exact Nat.mul_le_mul HY.out.n HY.out.m
  cases hk : kn (q + b)
  rotate_left
  · have HV := Lib.hid (show an (q + b) = rel a b by rw [HQ.out]; exact HOKR.out a b ha hb (by rw [← HQ.out]; exact hk))
    rw [hk] at r0
    rw [HV.out] at r1
    clear hk
    go_enter Tryz.func141, Tryz.ntmps141
    go_wp2_with fail
    go_ret
    exact ⟨rfl, ⟨HI0.out, HB1.out, kn, an, HR.out⟩, Kept.refl _ _⟩
  · rw [hk] at r0
    clear hk
    go_enter Tryz.func141, Tryz.ntmps141
    go_wp2_with fail
    have HCL := Lib.hid (fun x (hi : I0 x) => HA.out.call a b x ha hb hi)
    have HD := Lib.hid (show I0 w.drew from HA.out.drew HI0.out)
    have o := HY.out.ne
    simp only at o
    obtain ⟨o1, o2, o3, o4, o5, o6, o7, o8, o9⟩ := o
    have HRS := Lib.hid (fun x y2 (h : RemIn ⟨n, m, bm, bk, bd, ba, kb, ab⟩ g lb rel x kn an) (hs : B1 ≤ x.heap.size) (hk : Kept P0 x y2) => h.same HY.out (fun k h1 h2 => hk.block k (by omega) (fun hp => by have := HA.out.pb k hp; omega)))
    have HRD := Lib.hid (fun k => (⟨HR.out.m, HR.out.k, HR.out.d, HR.out.a, HR.out.rk, HR.out.ra, HR.out.ok⟩ : RemIn ⟨n, m, bm, bk, bd, ba, kb, ab⟩ g lb rel (w.drewN k) kn an))
    clear z0 z1 r1
    have e1 : (0 : Int) ≤ (q : Int) + (b : Int) := by omega
    have e2 : (q : Int) + (b : Int) < (N : Int) := by omega
    have e3 : ((q : Int) + (b : Int)).toNat = q + b := by omega
    go_region_held3 (fun x : World => x.cell? ⟨ba, 0, none⟩ = some (.slice (some ⟨ab, 0, none⟩) N N) ∧ x.cell? ⟨bd, 0, none⟩ = some (.func (.func g) #[] lb)) (first | exact ⟨z3, z2⟩ | exact ⟨x3, x2⟩ | exact ⟨lkCell (Ne.symm o9) x3, lkCell (Ne.symm o8) x2⟩ | fail) (first | (go_at_fn g; refine (HCL.out _ (HA.out.drewN HI0.out)).mono ?_; rintro e w2 ⟨rfl, hI2, hk2⟩; have HR2 := Lib.hid (HRS.out _ _ (HRD.out _) HB1.out hk2); have HI2 := Lib.hid hI2; have HK2 := Lib.hid hk2; have HZ2 := Lib.hid hk2.size; clear hI2 hk2; have x3 := cell_of1 HR2.out.a; have x2 := cell_of1 HR2.out.d; have x4 := HR2.out.ra.cell (i := q + b) (by simp only; rw [← HNN.out]; exact hi); have x5 := HR2.out.ra.frozen (q + b); obtain ⟨cur, hcur, hcs, hcc⟩ := HR2.out.ra; simp only at x3 x2 x4 x5 hcur; rw [← HNN.out] at x3; clear hcs hcc))
    have x1 := cell_of1 HR2.out.k
    have x6 := HR2.out.rk.cell (i := q + b) (by simp only; rw [← HNN.out]; exact hi)
    have x7 := HR2.out.rk.frozen (q + b)
    simp only at x1 x6 x7
    rw [← HNN.out] at x1
    have HLE := Lib.hid (HR2.out.learn HY.out ha hb)
    have HIE := Lib.hid (show I0 ((w2.setCell ⟨ab, q + b, none⟩ (.bool (rel a b))).setCell ⟨kb, q + b, none⟩ (.bool true)) from HA.out.set (HA.out.set HI2.out (HY.out.lo.2.2.2.2.2) _) (HY.out.lo.2.2.2.2.1) _)
    have HKE := Lib.hid (show Kept (RemP ⟨n, m, bm, bk, bd, ba, kb, ab⟩ P0) w ((w2.setCell ⟨ab, q + b, none⟩ (.bool (rel a b))).setCell ⟨kb, q + b, none⟩ (.bool true)) from
      Kept.set (P := RemP ⟨n, m, bm, bk, bd, ba, kb, ab⟩ P0) (Kept.set (P := RemP ⟨n, m, bm, bk, bd, ba, kb, ab⟩ P0) (Kept.trans (P := RemP ⟨n, m, bm, bk, bd, ba, kb, ab⟩ P0) (Kept.drewN (Kept.refl _ w)) (HK2.out.mono (fun k _ h => Or.inl h))) (p := ⟨ab, q + b, none⟩) (Or.inl (Or.inr (Or.inr rfl))) _) (p := ⟨kb, q + b, none⟩) (Or.inl (Or.inr (Or.inl rfl))) _)
    have HSE := Lib.hid (show B1 ≤ ((w2.setCell ⟨ab, q + b, none⟩ (.bool (rel a b))).setCell ⟨kb, q + b, none⟩ (.bool true)).heap.size from by
      have h1 : w.heap.size ≤ w2.heap.size := HZ2.out
      have h2 := HB1.out
      simp only [World.setCell, Array.size_modify]
      omega)
    rw [← HQ.out] at HLE
    go_wp2_with fail
    go_ret
    exact ⟨rfl, ⟨HIE.out, HSE.out, _, _, HLE.out⟩, HKE.out⟩

set_option maxRecDepth 100000 in
set_option maxHeartbeats 6400000 in
theorem remembered_any {B0 : Nat} {P0 : Nat → Prop} {I0 : World → Prop} {rel : Nat → Nat → Bool} {g n m : Nat} {lb : Array Value} (hA : Asks B0 P0 I0 n m rel g lb) (hn : n ≤ 1000) (hm : m ≤ 1000) (w : World) (hI : I0 w) :
    Calls Tryz.prog 94 #[.int .i64 (n : Int), .int .i64 (m : Int), .func (.func g) #[] lb] w fun e w' => ∃ (lb' : Array Value) (P1 : Nat → Prop) (I1 : World → Prop), e = .returned (.func (.func 141) #[] lb') ∧
      Asks w'.heap.size P1 I1 n m rel 141 lb' ∧ I1 w' ∧ Below w.heap.size w w' ∧ (∀ k, P1 k → P0 k ∨ w.heap.size ≤ k) ∧ (∀ x, I1 x → I0 x) := by
  have HA := Lib.hid hA
  have HI := Lib.hid hI
  have hB := hA.lt w hI
  obtain ⟨N, hN⟩ : ∃ N, N = n * m := ⟨_, rfl⟩
  have hnn : N ≤ 1000000 := by rw [hN]; exact Nat.mul_le_mul hn hm
  have hmul : wrap64 ((n : Int) * (m : Int)) = (N : Int) := by
    rw [hN, ← Int.natCast_mul]
    exact IntWalk.wrap64_in _ ⟨by omega, by rw [← hN]; omega⟩
  have hmk := run_make_row' (P := Tryz.prog) 92 4 (.bool false) 1 Tryz.underlying92 infoBl rfl .i64 .i64 N (by omega) (by omega)
  have HNN := Lib.hid hN
  clear hA hI hN
  obtain ⟨W, hW⟩ : ∃ W : World, W = (w.alloc (Obj.cells #[.int .i64 (m : Int)] 3)).alloc (Obj.cells #[.func (.func g) #[] lb] 80) := ⟨_, rfl⟩
  have hWs : W.heap.size = w.heap.size + 2 := by rw [hW]; simp
  have HWb := Lib.hid (show Below w.heap.size w W by rw [hW]; exact ((Below.refl _ _).alloc (Nat.le_refl _) _).alloc (by simp) _)
  have HWm := Lib.hid (show W.heap[w.heap.size]? = some (Obj.cells #[.int .i64 (m : Int)] 3 (0, 0)) by rw [hW]; exact heap_old2 _ _ _)
  have HWd := Lib.hid (show W.heap[w.heap.size + 1]? = some (Obj.cells #[.func (.func g) #[] lb] 80 (0, 0)) by rw [hW]; exact heap_new2 _ _ _)
  obtain ⟨bm, hbm⟩ : ∃ bm, bm = w.heap.size := ⟨_, rfl⟩
  have z0 : W.cell? ⟨bm, 0, none⟩ = some (.int .i64 (m : Int)) := by rw [hbm]; exact cell_of1 HWm.out
  have l0 : bm < W.heap.size := by omega
  have l1 : bm < W.heap.size + 1 := by omega
  have l2 : bm < W.heap.size + 1 + 1 := by omega
  have l3 : bm < W.heap.size + 1 + 1 + 1 := by omega
  have HWS := Lib.hid hWs
  go_enter Tryz.func94, Tryz.ntmps94
  go_wp2_with fail
  rw [← hW, ← hbm]
  have HBM := Lib.hid hbm
  clear hW hWs hbm
  go_cut [7, 8, 12, 16] from 9 to 16 (fun s7 s8 s12 s16 wx => ∃ bk ba kb ab : Nat, s7 = .pointer (some ⟨bk, 0, none⟩) ∧ s8 = .pointer (some ⟨ba, 0, none⟩) ∧ s12 = .slice (some ⟨kb, 0, none⟩) N N ∧ s16 = .slice (some ⟨ab, 0, none⟩) N N ∧ wx.heap[bk]? = some (Obj.cells #[.slice (some ⟨kb, 0, none⟩) N N] 92 (0, 0)) ∧ wx.heap[ba]? = some (Obj.cells #[.slice (some ⟨ab, 0, none⟩) N N] 92 (0, 0)) ∧
    wx.heap[kb]? = some (Obj.cells (madeCells #[.bool false] N) 4 (0, 0)) ∧ wx.heap[ab]? = some (Obj.cells (madeCells #[.bool false] N) 4 (0, 0)) ∧ (W.heap.size ≤ bk ∧ W.heap.size ≤ ba ∧ W.heap.size ≤ kb ∧ W.heap.size ≤ ab) ∧ (kb ≠ ab ∧ kb ≠ bk ∧ kb ≠ ba ∧ ab ≠ bk ∧ ab ≠ ba) ∧ Below W.heap.size W wx)
  case first =>
    go_region
    all_goals (go_wp2_with fail; go_meet; exact ⟨_, _, _, _, rfl, rfl, rfl, rfl, (by first | exact (four_get W _ _ _ _).1 | exact (four_get W _ _ _ _).2.1 | exact (four_get W _ _ _ _).2.2.1 | exact (four_get W _ _ _ _).2.2.2), (by first | exact (four_get W _ _ _ _).1 | exact (four_get W _ _ _ _).2.1 | exact (four_get W _ _ _ _).2.2.1 | exact (four_get W _ _ _ _).2.2.2), (by first | exact (four_get W _ _ _ _).1 | exact (four_get W _ _ _ _).2.1 | exact (four_get W _ _ _ _).2.2.1 | exact (four_get W _ _ _ _).2.2.2), (by first | exact (four_get W _ _ _ _).1 | exact (four_get W _ _ _ _).2.1 | exact (four_get W _ _ _ _).2.2.1 | exact (four_get W _ _ _ _).2.2.2), ⟨by omega, by omega, by omega, by omega⟩, ⟨by omega, by omega, by omega, by omega, by omega⟩, four_below _ _ _ _ _⟩)
  case rest =>
    obtain ⟨bk, ba, kb, ab, rfl, rfl, rfl, rfl, q1, q2, q3, q4, q5, q6, hb⟩ := hcut
    have Q1 := Lib.hid q1
    have Q2 := Lib.hid q2
    have Q3 := Lib.hid q3
    have Q4 := Lib.hid q4
    have Q5 := Lib.hid q5
    have Q6 := Lib.hid q6
    have HB := Lib.hid hb
    clear q1 q2 q3 q4 q5 q6 hb z0 l0 l1 l2 l3 hmk hmul
    go_wp2_with fail
    go_ret
    have hws := HWS.out
    have hbs := HB.out.size
    have hbm := HBM.out
    have h1 := heap_lt Q1.out
    have h2 := heap_lt Q2.out
    have h3 := heap_lt Q3.out
    have h4 := heap_lt Q4.out
    have h5 := Q5.out
    have h6 := Q6.out
    have hwc : Below w.heap.size w wc := HWb.out.trans (HB.out.mono (by omega))
    have hok : RemOk ⟨n, m, bm, bk, bm + 1, ba, kb, ab⟩ B0 wc.heap.size := ⟨hn, hm, ⟨by simp only; omega, by simp only; omega, by simp only; omega, by simp only; omega, by simp only; omega, by simp only; omega⟩,
      ⟨by simp only; omega, h1, by simp only; omega, h2, h3, h4⟩, ⟨h6.1, by simp only; omega, h6.2.1, by simp only; omega, h6.2.2.1, by simp only; omega, h6.2.2.2.1, by simp only; omega, h6.2.2.2.2⟩⟩
    have hin : RemIn ⟨n, m, bm, bk, bm + 1, ba, kb, ab⟩ g lb rel wc (fun _ => false) (fun _ => false) :=
      ⟨by simp only; rw [HB.out.block _ (by omega), hbm]; exact HWm.out, by simp only; rw [← HNN.out]; exact Q1.out, by simp only; rw [HB.out.block _ (by omega), hbm]; exact HWd.out, by simp only; rw [← HNN.out]; exact Q2.out,
        by simp only; rw [← HNN.out]; exact row_of_made Q3.out, by simp only; rw [← HNN.out]; exact row_of_made Q4.out, fun a b _ _ h => by cases h⟩
    refine ⟨Rem.lb ⟨n, m, bm, bk, bm + 1, ba, kb, ab⟩, RemP ⟨n, m, bm, bk, bm + 1, ba, kb, ab⟩ P0, RemI ⟨n, m, bm, bk, bm + 1, ba, kb, ab⟩ g lb rel I0 wc.heap.size, rfl, ?_, ?_, hwc, ?_, fun x h => h.1⟩
    · refine ⟨enters_of Tryz.func141 (by kernel_rfl) rfl, ?_, fun x h => h.2.1, ?_, fun a b x ha hb' hi => rem_call ⟨n, m, bm, bk, bm + 1, ba, kb, ab⟩ HA.out hok a b x ha hb' hi⟩
      · intro k hk
        rcases hk with hk | hk | hk
        · have := HA.out.pb k hk; have := hwc.size; omega
        · rw [hk]; exact h3
        · rw [hk]; exact h4
      · intro x x' ⟨hi, hs, kn, an, hr⟩ hbx
        have hsx := hbx.size
        exact ⟨HA.out.same _ _ hi (hbx.mono (by have := hwc.size; omega)), by omega, kn, an, hr.same hok (fun k _ hk => hbx.block k hk)⟩
    · exact ⟨HA.out.same _ _ HI.out (hwc.mono hB), Nat.le_refl _, _, _, hin⟩
    · intro k hk
      rcases hk with hk | hk | hk
      · exact Or.inl hk
      · right; rw [hk]; simp only; omega
      · right; rw [hk]; simp only; omega
end Go.Proofs.YtfgpjfgejhahfaaGreatDoor

namespace Go.Proofs.YtfgpjfgejhahfaaGreatDoor
open Go Go.RowKit

set_option maxRecDepth 100000 in
set_option maxHeartbeats 1600000 in
theorem same_any {B : Nat} {P : Nat → Prop} {I : World → Prop} {rel : Nat → Nat → Bool} {g n m : Nat} {lb : Array Value} (k : Nat) (hA : Asks B P I n m rel g lb) (hkn : k ≤ n) (hkm : k ≤ m) (hn : n ≤ 1000) (w : World) (hI : I w) :
    Calls Tryz.prog 96 #[.int .i64 (k : Int), .func (.func g) #[] lb] w fun e w' => ∃ r : Bool, e = .returned (.bool r) ∧ (r = true ↔ ∀ a, a < k → rel a a = true) ∧ I w' ∧ Kept P w w' := by
  have eg := hA.eg
  have HA := Lib.hid hA
  have HI := Lib.hid hI
  clear hA hI
  go_enter Tryz.func96, Tryz.ntmps96
  go_wp2_with fail
  go_loopw [7] (fun i wr => ∃ a : Nat, a ≤ k ∧ i = .int .i64 a ∧ (∀ x, x < a → rel x x = true) ∧ I wr ∧ Kept P w wr) (fun i _ => k - (intOf i).toNat)
  case atStart => exact ⟨0, Nat.zero_le _, rfl, fun x h => by omega, HI.out, Kept.refl _ _⟩
  case round =>
    obtain ⟨a, hak, rfl, hall, hI1, hk1⟩ := hrel
    have HALL := Lib.hid hall
    have HI1 := Lib.hid hI1
    have HK1 := Lib.hid hk1
    clear hall hI1 hk1
    by_cases hlt : a < k
    · have hcall := HA.out.call a a wr (by omega) (by omega) HI1.out
      cases hr : rel a a
      · rw [hr] at hcall
        have HR := Lib.hid hr
        clear hr
        go_wp2_with (go_at_fn g; refine hcall.mono ?_; rintro e w2 ⟨rfl, hI2, hk2⟩)
        go_ret
        exact ⟨false, rfl, ⟨(fun h => by cases h), fun h => by have := h a hlt; rw [HR.out] at this; cases this⟩, hI2, HK1.out.trans hk2⟩
      · rw [hr] at hcall
        have HR := Lib.hid hr
        clear hr
        go_wp2_with (go_at_fn g; refine hcall.mono ?_; rintro e w2 ⟨rfl, hI2, hk2⟩)
        go_roundw
        case rel =>
          refine ⟨a + 1, by omega, by go_num, fun x hx => ?_, hI2, HK1.out.trans hk2⟩
          by_cases e : x = a
          · subst e; exact HR.out
          · exact HALL.out x (by omega)
        case measure => simp [intOf]; omega
    · go_wp2_with fail
      go_ret
      exact ⟨true, rfl, ⟨fun _ x hx => HALL.out x (by omega), fun _ => rfl⟩, HI1.out, HK1.out⟩

set_option maxRecDepth 100000 in
set_option maxHeartbeats 3200000 in
theorem cover_any {B : Nat} {P : Nat → Prop} {I : World → Prop} {rel : Nat → Nat → Bool} {g n m : Nat} {lb : Array Value} (hA : Asks B P I n m rel g lb) (hn : n ≤ 1000) (hm : m ≤ 1000) (w : World) (hI : I w) :
    Calls Tryz.prog 97 #[.int .i64 (n : Int), .int .i64 (m : Int), .func (.func g) #[] lb] w fun e w' => ∃ r : Bool, e = .returned (.bool r) ∧
      (r = true ↔ (∀ a, a < n → ∃ b, b < m ∧ rel a b = true) ∧ ∀ b, b < m → ∃ a, a < n ∧ rel a b = true) ∧ I w' ∧ Kept (Qk P B) w w' := by
  have eg := hA.eg
  have HA := Lib.hid hA
  have HI := Lib.hid hI
  have hB := hA.lt w hI
  have hmk := run_make_row' (P := Tryz.prog) 92 4 (.bool false) 1 Tryz.underlying92 infoBl rfl .i64 .i64 m (by omega) (by omega)
  obtain ⟨W, hW⟩ : ∃ W : World, W = w.alloc (Obj.cells (madeCells #[Value.bool false] m) 4) := ⟨_, rfl⟩
  obtain ⟨cb, hcb⟩ : ∃ cb, cb = w.heap.size := ⟨_, rfl⟩
  have HWR := Lib.hid (show W.rowIs cb 4 m (fun _ => .bool false) by rw [hW, hcb]; exact World.rowIs_made _ _ _ _)
  have HWI := Lib.hid (show I W by rw [hW]; exact hA.same _ _ hI ((Below.refl _ _).alloc hB _))
  have HWK := Lib.hid (show Kept (Qk P B) w W by rw [hW]; exact (Kept.refl _ _).alloc _)
  have hBc : B ≤ cb := by omega
  clear hA hI
  go_enter Tryz.func97, Tryz.ntmps97
  go_wp2_with fail
  rw [← hW, ← hcb]
  clear hW hcb hmk hB
  go_loopw [15] (fun i wr => ∃ (a : Nat) (cv : Nat → Bool), a ≤ n ∧ i = .int .i64 a ∧ wr.rowIs cb 4 m (fun j => .bool (cv j)) ∧ (∀ x, x < a → ∃ b, b < m ∧ rel x b = true) ∧ (∀ b, b < m → cv b = true → ∃ x, x < n ∧ rel x b = true) ∧ I wr ∧ Kept (Qk P B) w wr) (fun i _ => n - (intOf i).toNat)
  case atStart => exact ⟨0, fun _ => false, Nat.zero_le _, rfl, HWR.out, fun x h => by omega, fun b _ h => (by cases h), HWI.out, HWK.out⟩
  case round =>
    obtain ⟨a, cv, han, rfl, hrow, hall, hcv, hI1, hk1⟩ := hrel
    have HROW := Lib.hid hrow
    have HALL := Lib.hid hall
    have HCV := Lib.hid hcv
    have HI1 := Lib.hid hI1
    have HK1 := Lib.hid hk1
    clear hrow hall hcv hI1 hk1 HWR HWI HWK
    by_cases hlt : a < n
    · go_wp2_with fail
      obtain ⟨wx, hwx⟩ : ∃ wx, wx = wr := ⟨_, rfl⟩
      rw [← hwx]
      rw [← hwx] at HROW HI1 HK1
      clear hwx
      go_loopw [9] (fun j wr => ∃ b : Nat, b ≤ m ∧ j = .int .i64 b ∧ wr.rowIs cb 4 m (fun j => .bool (cv j)) ∧ (∀ y, y < b → rel a y = false) ∧ I wr ∧ Kept (Qk P B) w wr) (fun j _ => m - (intOf j).toNat)
      case atStart => exact ⟨0, Nat.zero_le _, rfl, HROW.out, fun y h => by omega, HI1.out, HK1.out⟩
      case round =>
        obtain ⟨b, hbm, rfl, hrow2, hno, hI2, hk2⟩ := hrel
        have HROW2 := Lib.hid hrow2
        have HNO := Lib.hid hno
        have HI2 := Lib.hid hI2
        have HK2 := Lib.hid hk2
        clear hrow2 hno hI2 hk2 HROW HI1 HK1
        by_cases hbl : b < m
        · have hcall := HA.out.call a b wr hlt hbl HI2.out
          cases hr : rel a b
          · rw [hr] at hcall
            have HR := Lib.hid hr
            clear hr
            go_wp2_with (go_at_fn g; refine hcall.mono ?_; rintro e w3 ⟨rfl, hI3, hk3⟩)
            go_roundw
            case rel =>
              refine ⟨b + 1, by omega, by go_num, hk3.rowIs (fun hp => by have := HA.out.pb _ hp; omega) HROW2.out, fun y hy => ?_, hI3, HK2.out.trans (hk3.mono (fun k _ h => Or.inl h))⟩
              by_cases e : y = b
              · subst e; exact HR.out
              · exact HNO.out y (by omega)
            case measure => simp [intOf]; omega
          · rw [hr] at hcall
            have HR := Lib.hid hr
            clear hr
            have hbne : ¬ b = m := by omega
            go_wp2_with (go_at_fn g; refine hcall.mono ?_; rintro e w3 ⟨rfl, hI3, hk3⟩; have hrow3 := hk3.rowIs (fun hp => by have := HA.out.pb _ hp; omega) HROW2.out; have x0 := hrow3.cell hbl; have x1 := hrow3.frozen b; have HROW3 := Lib.hid hrow3; have HI3 := Lib.hid hI3; have HK3 := Lib.hid hk3; clear hrow3 hI3 hk3)
            go_roundw
            case rel =>
              refine ⟨a + 1, fun j => if j = b then true else cv j, by omega, by go_num, rowB_set HROW3.out b true, fun x hx => ?_, fun y hy h => ?_, HA.out.set HI3.out hBc _, (HK2.out.trans (HK3.out.mono (fun k _ h => Or.inl h))).set (Or.inl (Or.inr hBc)) _⟩
              · by_cases e : x = a
                · subst e; exact ⟨b, hbl, HR.out⟩
                · exact HALL.out x (by omega)
              · by_cases e : y = b
                · subst e; exact ⟨a, hlt, HR.out⟩
                · simp only [if_neg e] at h; exact HCV.out y hy h
            case measure => simp [intOf]; omega
        · have hbe : b = m := by omega
          subst hbe
          go_wp2_with fail
          go_ret
          exact ⟨false, rfl, ⟨(fun h => by cases h), fun h => by obtain ⟨y, hy, h1⟩ := h.1 a hlt; rw [HNO.out y hy] at h1; cases h1⟩, HI2.out, HK2.out⟩
    · have HALL2 := Lib.hid (show ∀ x, x < n → ∃ b, b < m ∧ rel x b = true from fun x hx => HALL.out x (by omega))
      go_wp2_with fail
      obtain ⟨wx, hwx⟩ : ∃ wx, wx = wr := ⟨_, rfl⟩
      rw [← hwx]
      rw [← hwx] at HROW HI1 HK1
      clear hwx
      go_loopw [38] (fun i wr => ∃ (b : Nat) (cv : Nat → Bool), b ≤ m ∧ i = .int .i64 b ∧ wr.rowIs cb 4 m (fun j => .bool (cv j)) ∧ (∀ y, y < b → ∃ x, x < n ∧ rel x y = true) ∧ (∀ y, y < m → cv y = true → ∃ x, x < n ∧ rel x y = true) ∧ I wr ∧ Kept (Qk P B) w wr) (fun i _ => m - (intOf i).toNat)
      case atStart => exact ⟨0, cv, Nat.zero_le _, rfl, HROW.out, fun x h => by omega, HCV.out, HI1.out, HK1.out⟩
      case round =>
        obtain ⟨b, cv1, hbm, rfl, hrow2, hdone, hcv2, hI2, hk2⟩ := hrel
        have HROW2 := Lib.hid hrow2
        have HDN := Lib.hid hdone
        have HCV2 := Lib.hid hcv2
        have HI2 := Lib.hid hI2
        have HK2 := Lib.hid hk2
        clear hrow2 hdone hcv2 hI2 hk2 HROW HI1 HK1 HCV
        by_cases hbl : b < m
        · go_wp2_with fail
          obtain ⟨wy, hwy⟩ : ∃ wy, wy = wr := ⟨_, rfl⟩
          rw [← hwy]
          rw [← hwy] at HROW2 HI2 HK2
          clear hwy
          go_loopw [11] (fun j wr => ∃ (a : Nat) (cv : Nat → Bool), a ≤ n ∧ j = .int .i64 a ∧ wr.rowIs cb 4 m (fun j => .bool (cv j)) ∧ (cv b = false → ∀ x, x < a → rel x b = false) ∧ (∀ y, y < m → cv y = true → ∃ x, x < n ∧ rel x y = true) ∧ I wr ∧ Kept (Qk P B) w wr) (fun j _ => n - (intOf j).toNat)
          case atStart => exact ⟨0, cv1, Nat.zero_le _, rfl, HROW2.out, fun _ x h => by omega, HCV2.out, HI2.out, HK2.out⟩
          case round =>
            obtain ⟨a, cv3, han, rfl, hrow3, hno, hcv3, hI3, hk3⟩ := hrel
            have x0 := hrow3.cell hbl
            have HROW3 := Lib.hid hrow3
            have HNO := Lib.hid hno
            have HCV3 := Lib.hid hcv3
            have HI3 := Lib.hid hI3
            have HK3 := Lib.hid hk3
            clear hrow3 hno hcv3 hI3 hk3 HROW2 HI2 HK2
            try simp only at x0
            cases hcb : cv3 b
            rotate_left
            · rw [hcb] at x0
              have HC := Lib.hid hcb
              clear hcb
              go_wp2_with fail
              go_roundw
              case rel =>
                refine ⟨b + 1, cv3, by omega, by go_num, HROW3.out, fun y hy => ?_, HCV3.out, HI3.out, HK3.out⟩
                by_cases e : y = b
                · subst e; exact HCV3.out y hbl HC.out
                · exact HDN.out y (by omega)
              case measure => simp [intOf]; omega
            · rw [hcb] at x0
              have HC := Lib.hid hcb
              clear hcb
              by_cases ha : a < n
              · have hane : ¬ a = n := by omega
                have HCL := Lib.hid (HA.out.call a b wr ha hbl HI3.out)
                go_wp2_with (go_at_fn g; refine HCL.out.mono ?_; rintro e w4 ⟨rfl, hI4, hk4⟩; have hrow4 := hk4.rowIs (fun hp => by have := HA.out.pb _ hp; omega) HROW3.out; have y0 := hrow4.cell hbl; have y1 := hrow4.frozen b; have HROW4 := Lib.hid hrow4; have HI4 := Lib.hid hI4; have HK4 := Lib.hid hk4; clear hrow4 hI4 hk4)
                go_roundw
                case rel =>
                  refine ⟨a + 1, fun j => if j = b then rel a b else cv3 j, by omega, by go_num, rowB_set HROW4.out b (rel a b), fun h x hx => ?_, fun y hy h => ?_, HA.out.set HI4.out hBc _, (HK3.out.trans (HK4.out.mono (fun k _ h => Or.inl h))).set (Or.inl (Or.inr hBc)) _⟩
                  · simp only [if_true] at h
                    by_cases e : x = a
                    · subst e; exact h
                    · exact HNO.out HC.out x (by omega)
                  · by_cases e : y = b
                    · subst e; simp only [if_true] at h; exact ⟨a, ha, h⟩
                    · simp only [if_neg e] at h; exact HCV3.out y hy h
                case measure => simp [intOf]; omega
              · have hae : a = n := by omega
                subst hae
                go_wp2_with fail
                go_ret
                exact ⟨false, rfl, ⟨(fun h => by cases h), fun h => by obtain ⟨x, hx, h1⟩ := h.2 b hbl; rw [HNO.out HC.out x hx] at h1; cases h1⟩, HI3.out, HK3.out⟩
        · go_wp2_with fail
          go_ret
          exact ⟨true, rfl, ⟨fun _ => ⟨HALL2.out, fun y hy => HDN.out y (by omega)⟩, fun _ => rfl⟩, HI2.out, HK2.out⟩
end Go.Proofs.YtfgpjfgejhahfaaGreatDoor
