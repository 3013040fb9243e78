/- Proved here: contracts of the walk to BisimFaults: largestWithin, shared parts, and its own call; each under the conditions that its own statement names. -/
import Derived.Test.YtfgpjfgejhahfaaGreatDoorG44
set_option maxRecDepth 100000
set_option maxHeartbeats 3200000
namespace Go.Proofs.YtfgpjfgejhahfaaGreatDoor
open Go Go.RowKit Go.Maps
open Go.Lib (hid)
structure LwM (r : List (Int × Int)) (N q mb va vr vu rb ub : Nat) (ug : Nat → Nat) (R : Nat → Bool) (w : World) : Prop where
 map : MapP w mb N (atL r N)
 at_ : w.heap[va]? = some (Obj.cells #[.map (some mb)] 140 (0, 0))
 rem : w.heap[vr]? = some (Obj.cells #[.slice (some ⟨rb, 0, none⟩) q q] 143 (0, 0))
 gone : Mk w rb q R
 usr : w.heap[vu]? = some (Obj.cells #[.slice (some ⟨ub, 0, none⟩) N N] 141 (0, 0))
 row : w.rowIs ub 143 N (fun j => .slice (some ⟨ug j, 0, none⟩) q q)
 sets : ∀ j, j < N → ∃ U, Mk w (ug j) q U
def UsP (N : Nat) (ug : Nat → Nat) : Nat → Prop := fun k => ∃ j, j < N ∧ k = ug j
structure Apart (N mb va vr vu rb ub : Nat) (ug : Nat → Nat) : Prop where
 n1 : ¬ UsP N ug mb
 n2 : ¬ UsP N ug va
 n3 : ¬ UsP N ug vr
 n4 : ¬ UsP N ug vu
 n5 : ¬ UsP N ug rb
 n6 : ¬ UsP N ug ub
theorem LwM.keptU {r : List (Int × Int)} {N q mb va vr vu rb ub : Nat} {ug : Nat → Nat} {R : Nat → Bool} {w w' : World} (h : LwM r N q mb va vr vu rb ub ug R w) (ha : Apart N mb va vr vu rb ub ug) (hk : Kept (UsP N ug) w w')
    (hs : ∀ j, j < N → ∃ U, Mk w' (ug j) q U) : LwM r N q mb va vr vu rb ub ug R w' :=
 ⟨h.map.same (hk.block _ h.map.lt ha.n1), hk.heap ha.n2 h.at_, hk.heap ha.n3 h.rem, h.gone.same (hk.block _ h.gone.lt ha.n5), hk.heap ha.n4 h.usr, hk.rowIs ha.n6 h.row, hs⟩
theorem LwM.same {r : List (Int × Int)} {N q mb va vr vu rb ub : Nat} {ug : Nat → Nat} {R : Nat → Bool} {w w' : World} (h : LwM r N q mb va vr vu rb ub ug R w) (hk : Below w.heap.size w w') : LwM r N q mb va vr vu rb ub ug R w' :=
 ⟨h.map.same (hk.block _ h.map.lt), (hk.block _ (heap_lt h.at_)).trans h.at_, (hk.block _ (heap_lt h.rem)).trans h.rem, h.gone.same (hk.block _ h.gone.lt), (hk.block _ (heap_lt h.usr)).trans h.usr, h.row.of_block (hk.block _ h.row.lt),
  fun j hj => by obtain ⟨U, hU⟩ := h.sets j hj; exact ⟨U, hU.same (hk.block _ hU.lt)⟩⟩
theorem LwM.lt {r : List (Int × Int)} {N q mb va vr vu rb ub : Nat} {ug : Nat → Nat} {R : Nat → Bool} {w : World} (h : LwM r N q mb va vr vu rb ub ug R w) : mb < w.heap.size ∧ va < w.heap.size ∧ vr < w.heap.size ∧ rb < w.heap.size ∧ vu < w.heap.size ∧ ub < w.heap.size ∧ ∀ k, UsP N ug k → k < w.heap.size :=
 ⟨h.map.lt, heap_lt h.at_, heap_lt h.rem, h.gone.lt, heap_lt h.usr, h.row.lt, fun k hk => by obtain ⟨j, hj, rfl⟩ := hk; obtain ⟨U, hU⟩ := h.sets j hj; exact hU.lt⟩
def leftR (r : List (Int × Int)) (N : Nat) (R : Nat → Bool) (x y : Nat) : Bool := match atL r N x y with
 | some j => !R j
 | none => false
def LwI (r : List (Int × Int)) (N q mb va vr vu rb ub vi i : Nat) (ug : Nat → Nat) (R : Nat → Bool) (B : Nat) (w : World) : Prop :=
 LwM r N q mb va vr vu rb ub ug R w ∧ w.heap[vi]? = some (Obj.cells #[.int .i64 (i : Int)] 3 (0, 0)) ∧ B ≤ w.heap.size
theorem pair_call (r : List (Int × Int)) (N q mb va vr vu rb ub vi i : Nat) (ug : Nat → Nat) (R : Nat → Bool) (x y : Nat) (w : World) (hx : x ≤ 1000000) (hy : y ≤ 1000000) (hm : LwM r N q mb va vr vu rb ub ug R w) (ha : Apart N mb va vr vu rb ub ug)
    (hi : w.heap[vi]? = some (Obj.cells #[.int .i64 (i : Int)] 3 (0, 0))) (hvi : ¬ UsP N ug vi) (hiN : i < N) (hNq : N ≤ 64 * q) (hq : q ≤ 10000) :
    Calls Tryz.prog 111 #[.int .i64 (x : Int), .int .i64 (y : Int), .pointer (some ⟨va, 0, none⟩), .pointer (some ⟨vr, 0, none⟩), .pointer (some ⟨vu, 0, none⟩), .pointer (some ⟨vi, 0, none⟩)] w fun e w' => e = .returned (.bool (leftR r N R x y)) ∧ LwM r N q mb va vr vu rb ub ug R w' ∧ Kept (UsP N ug) w w' := by
 have z0 := cell_of1 hm.at_
 have z1 := cell_of1 hm.rem
 have z2 := cell_of1 hm.usr
 have z3 := cell_of1 hi
 have hlk := hm.map.look (x := (x : Int)) (y := (y : Int)) (WalkArith.wf_i64 (by omega)) (WalkArith.wf_i64 (by omega))
 have HM := hid hm
 have HA := hid ha
 have HI := hid hi
 have HVI := hid hvi
 clear hm ha hi hvi
 cases hL : atL r N x y with
 | none =>
  have HR := hid (show leftR r N R x y = false by unfold leftR; rw [hL])
  rw [hL] at hlk
  simp only [Option.getD_none, Option.isSome_none] at hlk
  clear hL
  go_enter Tryz.func111, Tryz.ntmps111
  go_wp2_with fail
  go_ret
  exact ⟨by rw [HR.out]; rfl, HM.out, Kept.refl _ _⟩
 | some j =>
  have HR := hid (show leftR r N R x y = !R j by unfold leftR; rw [hL])
  have hjN := (atL_some hL).1
  rw [hL] at hlk
  simp only [Option.getD_some, Option.isSome_some] at hlk
  have HH := hid (has_any rb q q R j w HM.out.gone (by omega) (by omega))
  clear hL
  cases hRj : R j with
  | true =>
   have HRJ := hid hRj
   rw [hRj] at HH
   clear hRj
   go_enter Tryz.func111, Tryz.ntmps111
   go_wp2_with fail
   refine HH.out.mono ?_
   rintro e w2 ⟨rfl, hb2⟩
   have HB2 := hid hb2
   clear hb2
   go_wp2_with fail
   go_ret
   exact ⟨by rw [HR.out, HRJ.out]; rfl, HM.out.same HB2.out, Kept.ofBelow HB2.out⟩
  | false =>
   have HRJ := hid hRj
   rw [hRj] at HH
   clear hRj
   go_enter Tryz.func111, Tryz.ntmps111
   go_wp2_with fail
   refine HH.out.mono ?_
   rintro e w2 ⟨rfl, hb2⟩
   have HB2 := hid hb2
   have HM2 := hid (HM.out.same hb2)
   have HI2 := hid ((hb2.block _ (heap_lt HI.out)).trans HI.out)
   clear hb2
   clear z0 z1 z2 z3 hlk
   go_wp2_with fail
   refine wp_region_plan (by rfl) (fun x : World => LwM r N q mb va vr vu rb ub ug R x ∧ Kept (UsP N ug) w2 x) [some (.slice (some ⟨ub, 0, none⟩) N N), some (.int .i64 (j : Int)), some (.pointer (some ⟨ub, j, none⟩)), some (.slice (some ⟨ug j, 0, none⟩) q q), some (.int .i64 (i : Int)), some undef] ?aF ?haF _ rfl (by kernel_rfl) ⟨HM2.out.same ((Below.refl _ _).drew), (Kept.refl _ _).drew⟩ ?hall ?hend
   case haF => (simp only [layAll, Act.put, Option.getD_some, List.setIfInBounds_toArray, List.set_cons_zero, List.set_cons_succ]; rfl)
   case hall =>
    repeat (first | (refine Steps.cons (v := none) rfl ?_) | (refine Steps.cons ⟨rfl, fun K x hS hK => ?_⟩ ?_; rotate_left))
    ·exact Steps.nil
    all_goals
     have hu0 := cell_of1 hS.1.usr
     have hu1 := hS.1.row.cell hjN
     have hi0 := hS.2.cell HVI.out (cell_of1 HI2.out)
     first
     | (go_simp; exact hK _ hS)
     | (go_simp
        obtain ⟨U, hU⟩ := hS.1.sets j hjN
        refine (add_any (ug j) q q U i x hU (by omega) (by omega)).mono ?_
        rintro e w3 ⟨rfl, hmk, hkk⟩
        have hkP : Kept (UsP N ug) x w3 := hkk.mono (fun k _ hk => ⟨j, hjN, hk⟩)
        exact hK _ ⟨hS.1.keptU HA.out hkP (fun j' hj' => by
         by_cases e : ug j' = ug j
         ·rw [e]; exact ⟨_, hmk⟩
         ·obtain ⟨U', hU'⟩ := hS.1.sets j' hj'
          exact ⟨U', hU'.same (hkk.block _ hU'.lt e)⟩), hS.2.trans hkP⟩)
   case hend =>
    intro w4 hw4
    have HW4 := hid hw4
    clear hw4
    go_wp2_with fail
    go_ret
    exact ⟨by rw [HR.out, HRJ.out]; rfl, HW4.out.1, (Kept.ofBelow HB2.out).trans HW4.out.2⟩
end Go.Proofs.YtfgpjfgejhahfaaGreatDoor
namespace Go.Proofs.YtfgpjfgejhahfaaGreatDoor
open Go Go.RowKit Go.Maps
theorem lw_asks {r : List (Int × Int)} {N q mb va vr vu rb ub vi i n m B : Nat} {ug : Nat → Nat} {R : Nat → Bool} (ha : Apart N mb va vr vu rb ub ug) (hvi : ¬ UsP N ug vi) (hB : mb < B ∧ va < B ∧ vr < B ∧ vu < B ∧ rb < B ∧ ub < B ∧ vi < B) (hU : ∀ k, UsP N ug k → k < B)
    (hiN : i < N) (hNq : N ≤ 64 * q) (hq : q ≤ 10000) (hn : n ≤ 1000000) (hm : m ≤ 1000000) :
    Asks B (UsP N ug) (LwI r N q mb va vr vu rb ub vi i ug R B) n m (leftR r N R) 111 #[.pointer (some ⟨va, 0, none⟩), .pointer (some ⟨vr, 0, none⟩), .pointer (some ⟨vu, 0, none⟩), .pointer (some ⟨vi, 0, none⟩)] := by
 refine ⟨enters_of Tryz.func111 (by kernel_rfl) rfl, hU, fun w h => h.2.2, fun w w' h hb => ?_, fun x y w hx hy h => ?_⟩
 ·have h2 := hb.size
  have h3 := h.2.2
  obtain ⟨b1, b2, b3, b4, b5, b6, b7⟩ := hB
  refine ⟨⟨h.1.map.same (hb.block _ b1), (hb.block _ b2).trans h.1.at_, (hb.block _ b3).trans h.1.rem, h.1.gone.same (hb.block _ b5), (hb.block _ b4).trans h.1.usr, h.1.row.of_block (hb.block _ b6), fun j hj => ?_⟩, (hb.block _ b7).trans h.2.1, by omega⟩
  obtain ⟨U, hU'⟩ := h.1.sets j hj
  exact ⟨U, hU'.same (hb.block _ (hU _ ⟨j, hj, rfl⟩))⟩
 ·refine (pair_call r N q mb va vr vu rb ub vi i ug R x y w (by omega) (by omega) h.1 ha h.2.1 hvi hiN hNq hq).mono ?_
  rintro e w' ⟨rfl, h2, h3⟩
  exact ⟨rfl, ⟨h2, h3.heap hvi h.2.1, Nat.le_trans h.2.2 h3.size⟩, h3⟩
def bitAt (w : World) (b j : Nat) : Bool := match w.cell? ⟨b, j / 64, none⟩ with
 | some (.int _ x) => x.toNat.testBit (j % 64)
 | _ => false
theorem Mk.bit {w : World} {b n : Nat} {M : Nat → Bool} (h : Mk w b n M) {j : Nat} (hj : j < 64 * n) : bitAt w b j = M j := by
 obtain ⟨X, hr, _, hM⟩ := h
 unfold bitAt
 rw [hr.cell (show j / 64 < n by omega)]
 simp only [Int.toNat_natCast]
 rw [hM (j / 64) (j % 64) (by omega) (by omega), show 64 * (j / 64) + j % 64 = j by omega]
def gaps (w : World) (b : Nat) : Nat → Nat
 | 0 => 0
 | k + 1 => gaps w b k + (if bitAt w b k then 0 else 1)
def gapsM (M : Nat → Bool) : Nat → Nat
 | 0 => 0
 | k + 1 => gapsM M k + (if M k then 0 else 1)
theorem Mk.gaps {w : World} {b n : Nat} {M : Nat → Bool} (h : Mk w b n M) : ∀ {k : Nat}, k ≤ 64 * n → gaps w b k = gapsM M k
 | 0, _ => rfl
 | k + 1, hk => by
  have ih := Mk.gaps h (k := k) (by omega)
  have hb := h.bit (j := k) (by omega)
  show Go.Proofs.YtfgpjfgejhahfaaGreatDoor.gaps w b k + _ = gapsM M k + _
  rw [ih, hb]
theorem gapsM_le {M M' : Nat → Bool} : ∀ {k : Nat}, (∀ i, i < k → M i = true → M' i = true) → gapsM M' k ≤ gapsM M k
 | 0, _ => Nat.le_refl _
 | k + 1, h => by
  have ih := gapsM_le (k := k) (fun i hi => h i (by omega))
  have hk := h k (by omega)
  unfold gapsM
  cases hM : M k
  ·cases M' k <;> simp <;> omega
  ·rw [hk hM]; simp; exact ih
theorem gapsM_lt {M M' : Nat → Bool} {j : Nat} : ∀ {k : Nat}, (∀ i, i < k → M i = true → M' i = true) → j < k → M j = false → M' j = true → gapsM M' k < gapsM M k
 | 0, _, hj, _, _ => by omega
 | k + 1, h, hj, h1, h2 => by
  have hk := h k (by omega)
  unfold gapsM
  by_cases e : j = k
  ·subst e
   have ih := gapsM_le (k := j) (fun i hi => h i (by omega))
   rw [h1, h2]; simp; omega
  ·have ih := gapsM_lt (k := k) (fun i hi => h i (by omega)) (by omega) h1 h2
   cases hM : M k
   ·cases M' k <;> simp <;> omega
   ·rw [hk hM]; simp; exact ih
def lwMeasure (rb N : Nat) (z : Value) (w : World) : Nat := match z with
 | .slice _ m _ => if m = 0 then 0 else 1 + gaps w rb N
 | _ => 0
theorem infoMk : (Tryz.prog.info? 143).map (fun i => (i.zero, i.size, i.bytes)) = some (some (.slice none 0 0), 1, 24) := by kernel_rfl
theorem Kept.ofGrown {w w' : World} {row : Option Nat} (h : w.grownBy w' row) : Kept (fun b => some b = row) w w' := ⟨h.os, h.tape, h.output, h.size, fun k hk hn => h.block k hk hn⟩
structure LwP (r : List (Int × Int)) (N q mb va vu ub : Nat) (ug : Nat → Nat) (k : Nat) (w : World) : Prop where
 map : MapP w mb k (atL r k)
 at_ : w.heap[va]? = some (Obj.cells #[.map (some mb)] 140 (0, 0))
 usr : w.heap[vu]? = some (Obj.cells #[.slice (some ⟨ub, 0, none⟩) N N] 141 (0, 0))
 row : w.rowIs ub 143 N (fun j => if j < k then .slice (some ⟨ug j, 0, none⟩) q q else .slice none 0 0)
 sets : ∀ j, j < k → ∃ U, Mk w (ug j) q U
theorem LwP.kept {r : List (Int × Int)} {N q mb va vu ub : Nat} {ug : Nat → Nat} {k : Nat} {w w' : World} {Q : Nat → Prop} (h : LwP r N q mb va vu ub ug k w) (hk : Kept Q w w') (h1 : ¬ Q mb) (h2 : ¬ Q va) (h3 : ¬ Q vu) (h4 : ¬ Q ub) (h5 : ∀ j, j < k → ¬ Q (ug j)) : LwP r N q mb va vu ub ug k w' :=
 ⟨h.map.same (hk.block _ h.map.lt h1), hk.heap h2 h.at_, hk.heap h3 h.usr, hk.rowIs h4 h.row, fun j hj => by obtain ⟨U, hU⟩ := h.sets j hj; exact ⟨U, hU.same (hk.block _ hU.lt (h5 j hj))⟩⟩
theorem Mk.obj {w : World} {b n : Nat} {M : Nat → Bool} (h : Mk w b n M) : ∃ c, w.heap[b]? = some (.cells c 171 (0, 0)) := by
 obtain ⟨X, ⟨c, hb, _⟩, _⟩ := h
 exact ⟨c, hb⟩
theorem LwP.step {r : List (Int × Int)} {N q mb va vu ub nb : Nat} {ug : Nat → Nat} {k : Nat} {X w1 w2 w3 : World} (h : LwP r N q mb va vu ub ug k X) (hg : X.grownBy w1 (some mb)) (hm : MapP w1 mb (k + 1) (atL r (k + 1))) (hb : Below w1.heap.size w1 w2) (hmk : Mk w2 nb q (fun _ => false)) (hnb : nb = w1.heap.size)
    (h3 : w3 = w2.setCell ⟨ub, k, none⟩ (.slice (some ⟨nb, 0, none⟩) q q)) (hlt : k < N) (n1 : va ≠ mb) (n2 : vu ≠ mb) (n3 : ub ≠ mb) (n4 : va ≠ ub) (n5 : vu ≠ ub) (hl : ub < X.heap.size) (h5 : ∀ j, j < k → ug j ≠ mb ∧ ug j ≠ ub) : LwP r N q mb va vu ub (fun j => if j = k then nb else ug j) (k + 1) w3 := by
 have hX := (Kept.ofGrown hg).trans (Kept.ofBelow hb)
 have hs1 := hg.size
 have hs2 := hb.size
 have hX2 : Kept (fun b => some b = some mb) X w2 := hX
 have hset : ∀ b, b ≠ ub → w3.heap[b]? = w2.heap[b]? := fun b hbn => by rw [h3]; exact Below.heap_setCell _ _ _ _ (fun e => hbn e)
 refine ⟨?_, ?_, ?_, ?_, ?_⟩
 ·have : mb < w1.heap.size := hm.lt
  exact hm.same (by rw [hset mb (Ne.symm n3)]; exact hb.block _ this)
 ·rw [hset va n4]; exact hX2.heap (by simpa using n1) h.at_
 ·rw [hset vu n5]; exact hX2.heap (by simpa using n2) h.usr
 ·have hr := (hX2.rowIs (by simpa using n3) h.row).set k (.slice (some ⟨nb, 0, none⟩) q q)
  rw [← h3] at hr
  refine hr.congr fun j hj => ?_
  by_cases e : j = k
  ·subst e; simp
  ·simp only [e, if_false]
   by_cases e2 : j < k
   ·simp [e2, show j < k + 1 by omega]
   ·simp [e2, show ¬ j < k + 1 by omega]
 ·intro j hj
  by_cases e : j = k
  ·subst e
   simp only [if_true]
   exact ⟨_, hmk.same (hset nb (by omega))⟩
  ·have hjk : j < k := by omega
   simp only [e, if_false]
   obtain ⟨U, hU⟩ := h.sets j hjk
   obtain ⟨e1, e2⟩ := h5 j hjk
   exact ⟨U, hU.same (by rw [hset _ e2]; exact hX2.block _ hU.lt (by simpa using e1))⟩
theorem LwM.kept {r : List (Int × Int)} {N q mb va vr vu rb ub : Nat} {ug : Nat → Nat} {R : Nat → Bool} {w w' : World} {Q : Nat → Prop} (h : LwM r N q mb va vr vu rb ub ug R w) (hk : Kept Q w w') (h1 : ¬ Q mb) (h2 : ¬ Q va) (h3 : ¬ Q vr) (h4 : ¬ Q vu) (h5 : ¬ Q rb) (h6 : ¬ Q ub) (h7 : ∀ b, UsP N ug b → ¬ Q b) : LwM r N q mb va vr vu rb ub ug R w' :=
 ⟨h.map.same (hk.block _ h.map.lt h1), hk.heap h2 h.at_, hk.heap h3 h.rem, h.gone.same (hk.block _ h.gone.lt h5), hk.heap h4 h.usr, hk.rowIs h6 h.row, fun j hj => by obtain ⟨U, hU⟩ := h.sets j hj; exact ⟨U, hU.same (hk.block _ hU.lt (h7 _ ⟨j, hj, rfl⟩))⟩⟩
theorem LwM.added {r : List (Int × Int)} {N q mb va vr vu rb ub : Nat} {ug : Nat → Nat} {R R2 : Nat → Bool} {w w' : World} (h : LwM r N q mb va vr vu rb ub ug R w) (hk : Kept (fun b => b = rb) w w') (hm : Mk w' rb q R2) (h1 : mb ≠ rb) (h2 : va ≠ rb) (h3 : vr ≠ rb) (h4 : vu ≠ rb) (h6 : ub ≠ rb) (h7 : ∀ b, UsP N ug b → b ≠ rb) : LwM r N q mb va vr vu rb ub ug R2 w' :=
 ⟨h.map.same (hk.block _ h.map.lt h1), hk.heap h2 h.at_, hk.heap h3 h.rem, hm, hk.heap h4 h.usr, hk.rowIs h6 h.row, fun j hj => by obtain ⟨U, hU⟩ := h.sets j hj; exact ⟨U, hU.same (hk.block _ hU.lt (h7 _ ⟨j, hj, rfl⟩))⟩⟩
def Came (N : Nat) (R R' A : Nat → Bool) (T : List Nat) : Prop :=
 (∀ j, j < N → R j = true → R' j = true) ∧ (∀ j, j < N → R' j = true → R j = true ∨ j ∈ T) ∧ ((∃ j, j < N ∧ R j = false ∧ R' j = true) ∨ ∀ j, A j = false)
def Waits (N : Nat) (R : Nat → Bool) (M : List Nat) : Prop := M.Pairwise (· < ·) ∧ ∀ j ∈ M, j < N ∧ R j = false
end Go.Proofs.YtfgpjfgejhahfaaGreatDoor
namespace Go.Proofs.YtfgpjfgejhahfaaGreatDoor
open Go Go.RowKit
open Go.Lib (hid)
theorem is_sys_any (S S2 : Nat → Nat → Prop) (S' S2' S3 : Nat → Prop) (f g : F) (a na a2 na2 ar : Option Addr) (cap ncap cap2 ncap2 cr : Nat) (t u : V) (r : List (Int × Int)) (w : World) (hs : Sl S w a f.t) (hv : Vl S' w na t) (hs2 : Sl S2 w a2 g.t) (hv2 : Vl S2' w na2 u) (hk : Kinds w) (hr : Prs S3 w ar r) (hN : r.length ≤ 1000000)
    (RB : F → Int × V × List Int → Int × V × List Int → Bool) (hRB : ∀ f u v, RB f u v = true ↔ relV (tells (fun x y => decide (((x : Int), (y : Int)) ∈ r))) f u v) :
    Calls Tryz.prog 18 #[Sv f a cap na t.len ncap, Sv g a2 cap2 na2 u.len ncap2, .slice ar r.length cr] w fun e w' => e = .returned (.tuple #[.bool (decide (relE' f t g u r = 0) && decide ((fltL RB f t g u r).length = 0)), .int .i64 (relE' f t g u r)]) ∧ Below w.heap.size w w' := by
 obtain ⟨W, hW⟩ : ∃ W : World, W = (w.alloc (Obj.cells #[.int .i64 f.k, .int .i64 f.n, .slice a f.t.len cap, .slice na t.len ncap] 42)).alloc (Obj.cells #[.int .i64 g.k, .int .i64 g.n, .slice a2 g.t.len cap2, .slice na2 u.len ncap2] 42) := ⟨_, rfl⟩
 have hWb : Below w.heap.size w W := by rw [hW]; exact ba2 _ _ _
 have k0 : W.heap[w.heap.size]? = some (Obj.cells #[.int .i64 f.k, .int .i64 f.n, .slice a f.t.len cap, .slice na t.len ncap] 42 (0, 0)) := by rw [hW]; exact heap_old2 _ _ _
 have k1 : W.heap[w.heap.size + 1]? = some (Obj.cells #[.int .i64 g.k, .int .i64 g.n, .slice a2 g.t.len cap2, .slice na2 u.len ncap2] 42 (0, 0)) := by rw [hW]; exact heap_new2 _ _ _
 obtain ⟨bs, hbs⟩ : ∃ bs, bs = w.heap.size := ⟨_, rfl⟩
 rw [← hbs] at k0 k1
 obtain ⟨c0, c1, c2, c3⟩ := cells4 k0
 obtain ⟨d0, d1, d2, d3⟩ := cells4 k1
 have HWB := hid hWb
 have HF := hid (flt_any S S2 S' S2' S3 f g a na a2 na2 ar cap ncap cap2 ncap2 cr t u r W (hs.below hWb) (hv.below hWb) (hs2.below hWb) (hv2.below hWb) (hk.below hWb) (hr.below hWb) hN RB hRB)
 obtain ⟨E, hE⟩ : ∃ E, E = relE' f t g u r := ⟨_, rfl⟩
 obtain ⟨L, hL⟩ : ∃ L, L = fltL RB f t g u r := ⟨_, rfl⟩
 rw [← hE, ← hL] at HF ⊢
 obtain ⟨N, hNN⟩ : ∃ N, N = r.length := ⟨_, rfl⟩
 rw [← hNN] at HF ⊢
 have hl1 := hv.1
 have hl2 := hv2.1
 obtain ⟨n, hn⟩ : ∃ n, n = L.length := ⟨_, rfl⟩
 rw [← hn] at HF ⊢
 clear hs hv hs2 hv2 hk hr k0 k1 hWb hE hL hNN hn
 go_enter Tryz.func18, Tryz.ntmps18
 go_wp2_with fail
 rw [← hW, ← hbs]
 clear hW hbs
 refine HF.out.mono ?_
 rintro e w1 ⟨v, rfl, hown, hb1⟩
 have HB1 := hid (HWB.out.trans (hb1.mono HWB.out.size))
 obtain ⟨al, cl, rfl⟩ : ∃ al cl, v = .slice al n cl := by
  rcases hown.2 with ⟨h, h2⟩ | ⟨g, c, cur, h, _⟩
  ·exact ⟨none, 0, by rw [h, h2]⟩
  ·exact ⟨_, _, h⟩
 clear hown hb1 c0 c1 c2 c3 d0 d1 d2 d3
 by_cases h0 : E = 0
 ·subst h0
  by_cases h1 : n = 0
  ·subst h1
   go_wp2_with fail
   go_ret2
   exact ⟨rfl, HB1.out⟩
  ·have h2 : ((n : Int) == 0) = false := by simp; omega
   have HN1 := hid h1
   clear h1
   go_wp2_with fail
   go_ret2
   exact ⟨by simp [HN1.out], HB1.out⟩
 ·have h2 : (E == 0) = false := by simpa using h0
  have HN1 := hid h0
  clear h0
  go_wp2_with fail
  go_ret2
  exact ⟨by simp [HN1.out], HB1.out⟩
end Go.Proofs.YtfgpjfgejhahfaaGreatDoor
namespace Go.Proofs.YtfgpjfgejhahfaaGreatDoor
open Go Go.RowKit

end Go.Proofs.YtfgpjfgejhahfaaGreatDoor
namespace Go.Proofs.YtfgpjfgejhahfaaGreatDoor
open Go Go.RowKit Go.Maps
open Go.Lib (hid)
theorem bitAt_same {w w' : World} {b j : Nat} (h : w'.heap[b]? = w.heap[b]?) : bitAt w' b j = bitAt w b j := by
 unfold bitAt
 rw [World.cell?_of_block (w := w) (a := ⟨b, j / 64, none⟩) h]
def Bm (N q : Nat) (ug : Nat → Nat) (w w' : World) : Prop := ∀ j i, j < N → i < 64 * q → bitAt w (ug j) i = true → bitAt w' (ug j) i = true
theorem Bm.refl (N q : Nat) (ug : Nat → Nat) (w : World) : Bm N q ug w w := fun _ _ _ _ h => h
theorem Bm.trans {N q : Nat} {ug : Nat → Nat} {w1 w2 w3 : World} (h : Bm N q ug w1 w2) (k : Bm N q ug w2 w3) : Bm N q ug w1 w3 := fun j i hj hi hb => k j i hj hi (h j i hj hi hb)
theorem Bm.below {r : List (Int × Int)} {N q mb va vr vu rb ub : Nat} {ug : Nat → Nat} {R : Nat → Bool} {w w' : World} (h : LwM r N q mb va vr vu rb ub ug R w) (hb : Below w.heap.size w w') : Bm N q ug w w' := fun j i hj _ hx => by
 obtain ⟨U, hU⟩ := h.sets j hj
 rw [bitAt_same (hb.block _ hU.lt)]; exact hx
theorem Bm.kept {r : List (Int × Int)} {N q mb va vr vu rb ub : Nat} {ug : Nat → Nat} {R : Nat → Bool} {w w' : World} {Q : Nat → Prop} (h : LwM r N q mb va vr vu rb ub ug R w) (hk : Kept Q w w') (hQ : ∀ b, UsP N ug b → ¬ Q b) : Bm N q ug w w' := fun j i hj _ hx => by
 obtain ⟨U, hU⟩ := h.sets j hj
 rw [bitAt_same (hk.block _ hU.lt (hQ _ ⟨j, hj, rfl⟩))]; exact hx
theorem pair_callT (r : List (Int × Int)) (N q mb va vr vu rb ub vi i : Nat) (ug : Nat → Nat) (R : Nat → Bool) (x y : Nat) (w : World) (hx : x ≤ 1000000) (hy : y ≤ 1000000) (hm : LwM r N q mb va vr vu rb ub ug R w) (ha : Apart N mb va vr vu rb ub ug)
    (hi : w.heap[vi]? = some (Obj.cells #[.int .i64 (i : Int)] 3 (0, 0))) (hvi : ¬ UsP N ug vi) (hiN : i < N) (hNq : N ≤ 64 * q) (hq : q ≤ 10000) :
    Calls Tryz.prog 111 #[.int .i64 (x : Int), .int .i64 (y : Int), .pointer (some ⟨va, 0, none⟩), .pointer (some ⟨vr, 0, none⟩), .pointer (some ⟨vu, 0, none⟩), .pointer (some ⟨vi, 0, none⟩)] w fun e w' => e = .returned (.bool (leftR r N R x y)) ∧ LwM r N q mb va vr vu rb ub ug R w' ∧ Kept (UsP N ug) w w' ∧ Bm N q ug w w' ∧ (leftR r N R x y = true → ∃ j, atL r N (x : Int) (y : Int) = some j ∧ R j = false ∧ bitAt w' (ug j) i = true) := by
 have z0 := cell_of1 hm.at_
 have z1 := cell_of1 hm.rem
 have z2 := cell_of1 hm.usr
 have z3 := cell_of1 hi
 have hlk := hm.map.look (x := (x : Int)) (y := (y : Int)) (WalkArith.wf_i64 (by omega)) (WalkArith.wf_i64 (by omega))
 have HM := hid hm
 have HA := hid ha
 have HI := hid hi
 have HVI := hid hvi
 clear hm ha hi hvi
 cases hL : atL r N x y with
 | none =>
  have HR := hid (show leftR r N R x y = false by unfold leftR; rw [hL])
  rw [hL] at hlk
  simp only [Option.getD_none, Option.isSome_none] at hlk
  clear hL
  go_enter Tryz.func111, Tryz.ntmps111
  go_wp2_with fail
  go_ret
  exact ⟨by rw [HR.out]; rfl, HM.out, Kept.refl _ _, Bm.refl _ _ _ _, fun h => by rw [HR.out] at h; cases h⟩
 | some j =>
  have HR := hid (show leftR r N R x y = !R j by unfold leftR; rw [hL])
  have HAL := hid hL
  have hjN := (atL_some hL).1
  rw [hL] at hlk
  simp only [Option.getD_some, Option.isSome_some] at hlk
  have HH := hid (has_any rb q q R j w HM.out.gone (by omega) (by omega))
  clear hL
  cases hRj : R j with
  | true =>
   have HRJ := hid hRj
   rw [hRj] at HH
   clear hRj
   go_enter Tryz.func111, Tryz.ntmps111
   go_wp2_with fail
   refine HH.out.mono ?_
   rintro e w2 ⟨rfl, hb2⟩
   have HB2 := hid hb2
   clear hb2
   go_wp2_with fail
   go_ret
   exact ⟨by rw [HR.out, HRJ.out]; rfl, HM.out.same HB2.out, Kept.ofBelow HB2.out, Bm.below HM.out HB2.out, fun h => by rw [HR.out, HRJ.out] at h; cases h⟩
  | false =>
   have HRJ := hid hRj
   rw [hRj] at HH
   clear hRj
   go_enter Tryz.func111, Tryz.ntmps111
   go_wp2_with fail
   refine HH.out.mono ?_
   rintro e w2 ⟨rfl, hb2⟩
   have HB2 := hid hb2
   have HM2 := hid (HM.out.same hb2)
   have HI2 := hid ((hb2.block _ (heap_lt HI.out)).trans HI.out)
   clear hb2
   clear z0 z1 z2 z3 hlk
   go_wp2_with fail
   refine wp_region_planL (by rfl) (fun (L : Nat → Bool) (x : World) => LwM r N q mb va vr vu rb ub ug R x ∧ Kept (UsP N ug) w2 x ∧ Bm N q ug w2 x ∧ (L 5 = true → bitAt x (ug j) i = true)) [some (.slice (some ⟨ub, 0, none⟩) N N), some (.int .i64 (j : Int)), some (.pointer (some ⟨ub, j, none⟩)), some (.slice (some ⟨ug j, 0, none⟩) q q), some (.int .i64 (i : Int)), some undef] ?aF ?haF _ rfl (by kernel_rfl) ⟨HM2.out.same ((Below.refl _ _).drew), (Kept.refl _ _).drew, Bm.below HM2.out ((Below.refl _ _).drew), fun h => (by cases h)⟩ ?hall ?hend
   case haF => (simp only [layAll, Act.put, Option.getD_some, List.setIfInBounds_toArray, List.set_cons_zero, List.set_cons_succ]; rfl)
   case hall =>
    repeat (first | (refine StepsL.cons ⟨rfl, fun K L x hL hS hK => ?_⟩ ?_; rotate_left))
    ·exact StepsL.nil
    all_goals
     obtain ⟨hS1, hS2, hS3, hS4⟩ := hS
     have hu0 := cell_of1 hS1.usr
     have hu1 := hS1.row.cell hjN
     have hi0 := hS2.cell HVI.out (cell_of1 HI2.out)
     first
     | (go_simp; exact hK _ ⟨hS1, hS2, hS3, hS4⟩)
     | (go_simp
        obtain ⟨U, hU⟩ := hS1.sets j hjN
        refine (add_any (ug j) q q U i x hU (by omega) (by omega)).mono ?_
        rintro e w3 ⟨rfl, hmk, hkk⟩
        have hkP : Kept (UsP N ug) x w3 := hkk.mono (fun k _ hk => ⟨j, hjN, hk⟩)
        have hbit : ∀ j' i', j' < N → i' < 64 * q → bitAt x (ug j') i' = true → bitAt w3 (ug j') i' = true := by
         intro j' i' hj' hi' hb
         by_cases e : ug j' = ug j
         ·rw [e] at hb ⊢
          rw [hmk.bit hi']
          rw [hU.bit hi'] at hb
          simp [hb]
         ·obtain ⟨U', hU'⟩ := hS1.sets j' hj'
          rw [bitAt_same (hkk.block _ hU'.lt e)]; exact hb
        exact hK _ ⟨hS1.keptU HA.out hkP (fun j' hj' => by
         by_cases e : ug j' = ug j
         ·rw [e]; exact ⟨_, hmk⟩
         ·obtain ⟨U', hU'⟩ := hS1.sets j' hj'
          exact ⟨U', hU'.same (hkk.block _ hU'.lt e)⟩), hS2.trans hkP, fun j' i' hj' hi' hb => hbit j' i' hj' hi' (hS3 j' i' hj' hi' hb), fun _ => by rw [hmk.bit (by omega)]; simp⟩)
   case hend =>
    intro L w4 hLL hw4
    have HW4 := hid (show LwM r N q mb va vr vu rb ub ug R w4 ∧ Kept (UsP N ug) w2 w4 ∧ Bm N q ug w2 w4 ∧ bitAt w4 (ug j) i = true from ⟨hw4.1, hw4.2.1, hw4.2.2.1, hw4.2.2.2 (hLL 5 (by decide))⟩)
    clear hw4 hLL
    go_wp2_with fail
    go_ret
    exact ⟨by rw [HR.out, HRJ.out]; rfl, HW4.out.1, (Kept.ofBelow HB2.out).trans HW4.out.2.1, (Bm.below HM.out HB2.out).trans HW4.out.2.2.1, fun _ => ⟨j, by first | exact HAL.out | rfl, HRJ.out, HW4.out.2.2.2⟩⟩
def LwT (r : List (Int × Int)) (N q mb va vr vu rb ub vi i : Nat) (ug : Nat → Nat) (R : Nat → Bool) (B : Nat) (w0 : World) (X : Nat → Nat → Bool) (w : World) : Prop :=
 LwI r N q mb va vr vu rb ub vi i ug R B w ∧ Bm N q ug w0 w ∧ ∀ a b, X a b = true → ∃ j, atL r N (a : Int) (b : Int) = some j ∧ R j = false ∧ bitAt w (ug j) i = true
theorem lw_asksT {r : List (Int × Int)} {N q mb va vr vu rb ub vi i n m B : Nat} {ug : Nat → Nat} {R : Nat → Bool} {w0 : World} (ha : Apart N mb va vr vu rb ub ug) (hvi : ¬ UsP N ug vi) (hB : mb < B ∧ va < B ∧ vr < B ∧ vu < B ∧ rb < B ∧ ub < B ∧ vi < B) (hU : ∀ k, UsP N ug k → k < B)
    (hiN : i < N) (hNq : N ≤ 64 * q) (hq : q ≤ 10000) (hn : n ≤ 1000000) (hm : m ≤ 1000000) :
    AsksT B (UsP N ug) (LwT r N q mb va vr vu rb ub vi i ug R B w0) n m (leftR r N R) 111 #[.pointer (some ⟨va, 0, none⟩), .pointer (some ⟨vr, 0, none⟩), .pointer (some ⟨vu, 0, none⟩), .pointer (some ⟨vi, 0, none⟩)] := by
 have hA := lw_asks (r := r) (R := R) (n := n) (m := m) ha hvi hB hU hiN hNq hq hn hm
 refine ⟨hA.eg, hA.pb, fun X w h => hA.lt w h.1, fun X w w' h hb => ?_, fun X Y w hs h => ⟨h.1, h.2.1, fun a b hx => h.2.2 a b (hs a b hx)⟩, fun X w h a b hx => ?_, fun X x y w hx hy h => ?_⟩
 ·have hbit : ∀ j i', j < N → bitAt w' (ug j) i' = bitAt w (ug j) i' := fun j i' hj => bitAt_same (hb.block _ (hU _ ⟨j, hj, rfl⟩))
  refine ⟨hA.same w w' h.1 hb, fun j i' hj hi' hx => by rw [hbit j i' hj]; exact h.2.1 j i' hj hi' hx, fun a b hx => ?_⟩
  obtain ⟨j, h1, h2, h3⟩ := h.2.2 a b hx
  exact ⟨j, h1, h2, by rw [hbit j i (atL_some h1).1]; exact h3⟩
 ·obtain ⟨j, h1, h2, _⟩ := h.2.2 a b hx
  unfold leftR
  rw [h1]
  simp [h2]
 ·refine (pair_callT r N q mb va vr vu rb ub vi i ug R x y w (by omega) (by omega) h.1.1 ha h.1.2.1 hvi hiN hNq hq).mono ?_
  rintro e w' ⟨rfl, h2, h3, h4, h5⟩
  refine ⟨rfl, ⟨fun a b => X a b || (decide (a = x ∧ b = y) && leftR r N R x y), fun a b h => by simp [h], fun h => by simp [h], ⟨h2, h3.heap hvi h.1.2.1, Nat.le_trans h.1.2.2 h3.size⟩, h.2.1.trans h4, fun a b hx => ?_⟩, h3⟩
  simp only [Bool.or_eq_true, Bool.and_eq_true, decide_eq_true_eq] at hx
  rcases hx with hx | ⟨⟨rfl, rfl⟩, hx⟩
  ·obtain ⟨j, j1, j2, j3⟩ := h.2.2 a b hx
   exact ⟨j, j1, j2, h4 j i (atL_some j1).1 (by omega) j3⟩
  ·exact h5 hx
end Go.Proofs.YtfgpjfgejhahfaaGreatDoor
namespace Go.Proofs.YtfgpjfgejhahfaaGreatDoor
open Go Go.RowKit Go.Maps
def Rest (r : List (Int × Int)) (N : Nat) (Phi : Nat → (Nat → Nat → Bool) → Prop) (R : Nat → Bool) (us : Nat → Nat → Bool) (i : Nat) : Prop :=
 ∃ X, Phi i X ∧ ∀ a b, X a b = true → ∃ j, atL r N (a : Int) (b : Int) = some j ∧ R j = false ∧ us j i = true
def LwGood (r : List (Int × Int)) (N : Nat) (Phi : Nat → (Nat → Nat → Bool) → Prop) (R : Nat → Bool) : Prop :=
 ∀ G : Nat → Bool, (∀ i, i < N → G i = true → Phi i (leftR r N (fun j => !G j))) → ∀ i, i < N → G i = true → R i = false
def LwInv (r : List (Int × Int)) (N : Nat) (Phi : Nat → (Nat → Nat → Bool) → Prop) (R : Nat → Bool) (us : Nat → Nat → Bool) (A : Nat → Bool) (T : List Nat) : Prop :=
 ∀ i, i < N → R i = false → i ∈ T ∨ A i = true ∨ Rest r N Phi R us i
abbrev usOf (w : World) (ug : Nat → Nat) : Nat → Nat → Bool := fun j i => bitAt w (ug j) i
theorem Rest.mono {r : List (Int × Int)} {N : Nat} {Phi : Nat → (Nat → Nat → Bool) → Prop} {R : Nat → Bool} {us us' : Nat → Nat → Bool} {i : Nat} (h : Rest r N Phi R us i) (hm : ∀ j, j < N → us j i = true → us' j i = true) : Rest r N Phi R us' i := by
 obtain ⟨X, h1, h2⟩ := h
 exact ⟨X, h1, fun a b hx => let ⟨j, j1, j2, j3⟩ := h2 a b hx; ⟨j, j1, j2, hm j (atL_some j1).1 j3⟩⟩
theorem LwInv.mono {r : List (Int × Int)} {N : Nat} {Phi : Nat → (Nat → Nat → Bool) → Prop} {R A : Nat → Bool} {us us' : Nat → Nat → Bool} {T : List Nat} (h : LwInv r N Phi R us A T) (hm : ∀ j i, j < N → i < N → us j i = true → us' j i = true) : LwInv r N Phi R us' A T := by
 intro i hi hR
 rcases h i hi hR with h | h | h
 ·exact .inl h
 ·exact .inr (.inl h)
 ·exact .inr (.inr (h.mono fun j hj => hm j i hj hi))
theorem LwInv.pass {r : List (Int × Int)} {N : Nat} {Phi : Nat → (Nat → Nat → Bool) → Prop} {R A : Nat → Bool} {us : Nat → Nat → Bool} {j : Nat} {T : List Nat} (h : LwInv r N Phi R us A (j :: T)) (hj : Rest r N Phi R us j) : LwInv r N Phi R us A T := by
 intro i hi hR
 rcases h i hi hR with h | h
 ·rcases List.mem_cons.1 h with e | e
  ·subst e; exact .inr (.inr hj)
  ·exact .inl e
 ·exact .inr h
theorem LwInv.drop {r : List (Int × Int)} {N : Nat} {Phi : Nat → (Nat → Nat → Bool) → Prop} {R A U : Nat → Bool} {us : Nat → Nat → Bool} {j : Nat} {T : List Nat} (h : LwInv r N Phi R us A (j :: T)) (hU : ∀ i, i < N → us j i = true → U i = true) :
    LwInv r N Phi (fun z => decide (z = j) || R z) us (fun z => A z || U z) T := by
 intro i hi hR
 simp only [Bool.or_eq_false_iff, decide_eq_false_iff_not] at hR
 rcases h i hi hR.2 with h | h | ⟨X, h1, h2⟩
 ·rcases List.mem_cons.1 h with e | e
  ·exact absurd e hR.1
  ·exact .inl e
 ·exact .inr (.inl (by simp [h]))
 ·by_cases hx : ∃ a b, X a b = true ∧ atL r N (a : Int) (b : Int) = some j
  ·obtain ⟨a, b, ha, hb⟩ := hx
   obtain ⟨j', j1, _, j3⟩ := h2 a b ha
   rw [hb] at j1
   obtain rfl := Option.some.inj j1
   exact .inr (.inl (by simp [hU i hi j3]))
  ·refine .inr (.inr ⟨X, h1, fun a b ha => ?_⟩)
   obtain ⟨j', j1, j2, j3⟩ := h2 a b ha
   have hne : j' ≠ j := fun e => hx ⟨a, b, ha, by rw [j1, e]⟩
   exact ⟨j', j1, by simp [hne, j2], j3⟩
theorem LwInv.next {r : List (Int × Int)} {N : Nat} {Phi : Nat → (Nat → Nat → Bool) → Prop} {R A : Nat → Bool} {us : Nat → Nat → Bool} {M : List Nat} (h : LwInv r N Phi R us A []) (hM : ∀ i, i < N → A i = true → R i = false → i ∈ M) : LwInv r N Phi R us (fun _ => false) M := by
 intro i hi hR
 rcases h i hi hR with h | h | h
 ·cases h
 ·exact .inl (hM i hi h hR)
 ·exact .inr (.inr h)
theorem LwInv.done {r : List (Int × Int)} {N : Nat} {Phi : Nat → (Nat → Nat → Bool) → Prop} (hPhi : ∀ i X Y, Sub X Y → Phi i X → Phi i Y) {R : Nat → Bool} {us : Nat → Nat → Bool} (h : LwInv r N Phi R us (fun _ => false) []) : ∀ i, i < N → R i = false → Phi i (leftR r N R) := by
 intro i hi hR
 rcases h i hi hR with h | h | ⟨X, h1, h2⟩
 ·cases h
 ·cases h
 ·refine hPhi i X _ (fun a b ha => ?_) h1
  obtain ⟨j, j1, j2, _⟩ := h2 a b ha
  unfold leftR
  rw [j1]
  simp [j2]
theorem LwInv.start {r : List (Int × Int)} {N : Nat} {Phi : Nat → (Nat → Nat → Bool) → Prop} {R : Nat → Bool} {us : Nat → Nat → Bool} : LwInv r N Phi R us (fun _ => false) (List.range N) := fun _ hi _ => .inl (List.mem_range.2 hi)
theorem LwGood.start {r : List (Int × Int)} {N : Nat} {Phi : Nat → (Nat → Nat → Bool) → Prop} : LwGood r N Phi (fun _ => false) := fun _ _ _ _ _ => rfl
theorem LwGood.drop {r : List (Int × Int)} {N : Nat} {Phi : Nat → (Nat → Nat → Bool) → Prop} (hPhi : ∀ i X Y, Sub X Y → Phi i X → Phi i Y) {R : Nat → Bool} {j : Nat} (h : LwGood r N Phi R) (hj : j < N) (hn : ¬ Phi j (leftR r N R)) : LwGood r N Phi (fun z => decide (z = j) || R z) := by
 intro G hG i hi hGi
 have hR := h G hG
 have hsub : Sub (leftR r N (fun j => !G j)) (leftR r N R) := by
  intro a b hx
  unfold leftR at hx ⊢
  cases hL : atL r N (a : Int) (b : Int) with
  | none => rw [hL] at hx; cases hx
  | some k =>
   rw [hL] at hx
   simp only [Bool.not_not] at hx
   simp [hR k (atL_some hL).1 hx]
 have hne : i ≠ j := fun e => by
  subst e
  exact hn (hPhi i _ _ hsub (hG i hi hGi))
 simp [hne, hR i hi hGi]
def phiR (f : F) (t u : V) (r : List (Int × Int)) (i : Nat) (X : Nat → Nat → Bool) : Prop := ∃ x y : Nat, r[i]? = some ((x : Int), (y : Int)) ∧ relV (tells X) f (t.el x) (u.el y)
theorem phiR_mono {f : F} {t u : V} {r : List (Int × Int)} : ∀ i X Y, Sub X Y → phiR f t u r i X → phiR f t u r i Y := fun _ _ _ hs ⟨x, y, h1, h2⟩ => ⟨x, y, h1, relV_mono (tells_mono hs) h2⟩
structure Grt (r : List (Int × Int)) (N : Nat) (Phi : Nat → (Nat → Nat → Bool) → Prop) (R : Nat → Bool) : Prop where
 fix : ∀ i, i < N → R i = false → Phi i (leftR r N R)
 most : LwGood r N Phi R
end Go.Proofs.YtfgpjfgejhahfaaGreatDoor
