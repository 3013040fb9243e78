/-
  Proved here: contracts of the walk to BisimOwn: what largestWithin lays, and the function that it hands to related; each under the conditions that its own statement names.
-/
import Derived.Test.YtfgpjfgejhahfaaGreatDoorG04
import Derived.Test.YtfgpjfgejhahfaaGreatDoorG34
import Derived.Test.YtfgpjfgejhahfaaGreatDoorG37
import Derived.Test.YtfgpjfgejhahfaaGreatDoorG38
import Derived.Maps.OwnSet
namespace Go.Proofs.YtfgpjfgejhahfaaGreatDoor
open Go Go.RowKit Go.Maps

/-- Block b is a map that gives numbers for pairs. -/
def MapP (w : World) (b n : Nat) (L : Int → Int → Option Nat) : Prop :=
  ∃ D : DataW Unit, w.ownsMap Tryz.prog 61 (plainElem Tryz.prog 3) b n D ∧ IsMap D ∧ ∀ x y kl, keyOf Tryz.prog 61 (.agg #[.int .i64 x, .int .i64 y]) = some kl → has D kl = (L x y).isSome ∧ D.atKey kl (.lit (.int .i64 0)) = .lit (.int .i64 (((L x y).getD 0 : Nat) : Int))
theorem MapP.lt {w : World} {b n : Nat} {L : Int → Int → Option Nat} (h : MapP w b n L) : b < w.heap.size := by
  obtain ⟨D, ⟨es, clock, hb, _⟩, _⟩ := h
  exact heap_lt hb
theorem MapP.same {w w' : World} {b n : Nat} {L : Int → Int → Option Nat} (h : MapP w b n L) (hk : w'.heap[b]? = w.heap[b]?) : MapP w' b n L := by
  obtain ⟨D, ⟨es, clock, hb, hr⟩, hD⟩ := h
  exact ⟨D, ⟨es, clock, hk.trans hb, hr⟩, hD⟩
theorem MapP.congr {w : World} {b n : Nat} {L L' : Int → Int → Option Nat} (h : MapP w b n L) (e : ∀ x y, L x y = L' x y) : MapP w b n L' := by
  obtain ⟨D, h1, h2, h3⟩ := h
  exact ⟨D, h1, h2, fun x y kl hkl => by rw [← e x y]; exact h3 x y kl hkl⟩
theorem MapP.made (w : World) : MapP (w.alloc (.map #[] 0)) w.heap.size 0 (fun _ _ => none) :=
  ⟨.map [], World.ownsMap_made _ _ _ _, isMap_empty, fun _ _ _ _ => ⟨rfl, rfl⟩⟩
theorem intZ (w : World) : (zeroValue 3).run Tryz.prog w = .ok (.int .i64 0) w := by kernel_rfl
theorem MapP.look {w : World} {b n : Nat} {L : Int → Int → Option Nat} (h : MapP w b n L) {x y : Int} (hx : (Lit.int .i64 x).wf = true) (hy : (Lit.int .i64 y).wf = true) :
    (Instr.lookup 140 (.map (some b)) (.agg #[.int .i64 x, .int .i64 y]) true).run Tryz.prog w = .ok (.tuple #[.int .i64 (((L x y).getD 0 : Nat) : Int), .bool (L x y).isSome]) w := by
  obtain ⟨D, hown, _, hD⟩ := h
  obtain ⟨kl, hkl⟩ := keyP hx hy
  obtain ⟨v, ps, hrun, hv⟩ := hown.look_ok lawP Tryz.underlying140 (intZ w) (plainElem_int Tryz.underlying3 (by decide)) hkl
  obtain ⟨c, rfl, hc, _⟩ := plainElem_int_inv Tryz.underlying3 hv
  simp only [Prod.mk.injEq] at hc
  obtain ⟨h0, h1⟩ := hD x y kl hkl
  rw [hc.1] at h1
  simp only [DataW.lit.injEq, Lit.int.injEq, true_and] at h1
  rw [hrun, h0, h1]
set_option maxRecDepth 100000 in
theorem MapP.put {w' : World} {b n i : Nat} {L : Int → Int → Option Nat} {D : DataW Unit} {x y : Int} {kl : Lit} (hkl : keyOf Tryz.prog 61 (.agg #[.int .i64 x, .int .i64 y]) = some kl) (hm : IsMap D)
    (hD : ∀ x y kl, keyOf Tryz.prog 61 (.agg #[.int .i64 x, .int .i64 y]) = some kl → has D kl = (L x y).isSome ∧ D.atKey kl (.lit (.int .i64 0)) = .lit (.int .i64 (((L x y).getD 0 : Nat) : Int)))
    (hown : w'.ownsMap Tryz.prog 61 (plainElem Tryz.prog 3) b (n + 1) (D.put kl (.lit (.int .i64 (i : Int))))) : MapP w' b (n + 1) (fun x' y' => if x' = x ∧ y' = y then some i else L x' y') := by
  refine ⟨_, hown, hm.put _ _, fun x' y' kl' hkl' => ?_⟩
  by_cases e : x' = x ∧ y' = y
  · obtain ⟨rfl, rfl⟩ := e
    rw [hkl] at hkl'
    injection hkl' with hkl'
    subst hkl'
    rw [atKey_put_same hm (lawP.key hkl), has_put_same hm (lawP.key hkl)]
    simp
  · have hne : kl' ≠ kl := fun h => by
      subst h
      have := lawP.inj hkl' hkl
      simp only [Value.agg.injEq, Array.mk.injEq, List.cons.injEq, Value.int.injEq, true_and, and_true] at this
      exact e this
    rw [atKey_put_other hne, has_put_other hne]
    simp only [if_neg e]
    exact hD x' y' kl' hkl'

/-- The last place before k at which the pair stands. -/
def atL (r : List (Int × Int)) : Nat → Int → Int → Option Nat
  | 0 => fun _ _ => none
  | k + 1 => fun x y => if r[k]? = some (x, y) then some k else atL r k x y
theorem atL_some {r : List (Int × Int)} {x y : Int} {j : Nat} : ∀ {k}, atL r k x y = some j → j < k ∧ r[j]? = some (x, y)
  | 0, h => by simp [atL] at h
  | k + 1, h => by
    unfold atL at h
    split at h
    · rename_i hk
      simp only [Option.some.injEq] at h
      subst h
      exact ⟨by omega, hk⟩
    · obtain ⟨h1, h2⟩ := atL_some h
      exact ⟨by omega, h2⟩
theorem atL_none {r : List (Int × Int)} {x y : Int} : ∀ {k}, atL r k x y = none → ∀ j, j < k → r[j]? ≠ some (x, y)
  | 0, _, j, hj => by omega
  | k + 1, h, j, hj => by
    unfold atL at h
    split at h
    · cases h
    · rename_i hk
      by_cases e : j = k
      · subst e; exact hk
      · exact atL_none h j (by omega)
end Go.Proofs.YtfgpjfgejhahfaaGreatDoor

namespace Go.Proofs.YtfgpjfgejhahfaaGreatDoor
open Go Go.RowKit Go.Maps

theorem Tryz.cells140 : Tryz.prog.cellsOf 140 = 1 := by kernel_rfl
theorem Tryz.cells143 : Tryz.prog.cellsOf 143 = 1 := by kernel_rfl
theorem Tryz.cells141 : Tryz.prog.cellsOf 141 = 1 := by kernel_rfl
theorem Tryz.cells171 : Tryz.prog.cellsOf 171 = 1 := by kernel_rfl

/-- What largestWithin lays ahead of its rounds: the pairs' numbers, the sets of users, and which pairs are removed. -/
structure LwM (r : List (Int × Int)) (N q mb va vr vu rb ub : Nat) (ug : Nat → Nat) (R : Nat → Bool) (w : World) : Prop where
  map : MapP w mb N (atL r N)
  at_ : w.heap[va]? = some (Obj.cells #[.map (some mb)] 140 (0, 0))
  rem : w.heap[vr]? = some (Obj.cells #[.slice (some ⟨rb, 0, none⟩) q q] 143 (0, 0))
  gone : Mk w rb q R
  usr : w.heap[vu]? = some (Obj.cells #[.slice (some ⟨ub, 0, none⟩) N N] 141 (0, 0))
  row : w.rowIs ub 143 N (fun j => .slice (some ⟨ug j, 0, none⟩) q q)
  sets : ∀ j, j < N → ∃ U, Mk w (ug j) q U

/-- The blocks of the users. -/
def UsP (N : Nat) (ug : Nat → Nat) : Nat → Prop := fun k => ∃ j, j < N ∧ k = ug j
/-- The users lie apart from all else. -/
structure Apart (N mb va vr vu rb ub : Nat) (ug : Nat → Nat) : Prop where
  n1 : ¬ UsP N ug mb
  n2 : ¬ UsP N ug va
  n3 : ¬ UsP N ug vr
  n4 : ¬ UsP N ug vu
  n5 : ¬ UsP N ug rb
  n6 : ¬ UsP N ug ub

theorem LwM.keptU {r : List (Int × Int)} {N q mb va vr vu rb ub : Nat} {ug : Nat → Nat} {R : Nat → Bool} {w w' : World} (h : LwM r N q mb va vr vu rb ub ug R w) (ha : Apart N mb va vr vu rb ub ug) (hk : Kept (UsP N ug) w w')
    (hs : ∀ j, j < N → ∃ U, Mk w' (ug j) q U) : LwM r N q mb va vr vu rb ub ug R w' :=
  ⟨h.map.same (hk.block _ h.map.lt ha.n1), hk.heap ha.n2 h.at_, hk.heap ha.n3 h.rem, h.gone.same (hk.block _ h.gone.lt ha.n5), hk.heap ha.n4 h.usr, hk.rowIs ha.n6 h.row, hs⟩
theorem LwM.same {r : List (Int × Int)} {N q mb va vr vu rb ub : Nat} {ug : Nat → Nat} {R : Nat → Bool} {w w' : World} (h : LwM r N q mb va vr vu rb ub ug R w) (hk : Below w.heap.size w w') : LwM r N q mb va vr vu rb ub ug R w' :=
  ⟨h.map.same (hk.block _ h.map.lt), (hk.block _ (heap_lt h.at_)).trans h.at_, (hk.block _ (heap_lt h.rem)).trans h.rem, h.gone.same (hk.block _ h.gone.lt), (hk.block _ (heap_lt h.usr)).trans h.usr, h.row.of_block (hk.block _ h.row.lt),
   fun j hj => by obtain ⟨U, hU⟩ := h.sets j hj; exact ⟨U, hU.same (hk.block _ hU.lt)⟩⟩
theorem LwM.lt {r : List (Int × Int)} {N q mb va vr vu rb ub : Nat} {ug : Nat → Nat} {R : Nat → Bool} {w : World} (h : LwM r N q mb va vr vu rb ub ug R w) : mb < w.heap.size ∧ va < w.heap.size ∧ vr < w.heap.size ∧ rb < w.heap.size ∧ vu < w.heap.size ∧ ub < w.heap.size ∧ ∀ k, UsP N ug k → k < w.heap.size :=
  ⟨h.map.lt, heap_lt h.at_, heap_lt h.rem, h.gone.lt, heap_lt h.usr, h.row.lt, fun k hk => by obtain ⟨j, hj, rfl⟩ := hk; obtain ⟨U, hU⟩ := h.sets j hj; exact hU.lt⟩

/-- Which pairs are still there. -/
def leftR (r : List (Int × Int)) (N : Nat) (R : Nat → Bool) (x y : Nat) : Bool := match atL r N x y with
  | some j => !R j
  | none => false

/-- What the function isPair of largestWithin relies on. -/
def LwI (r : List (Int × Int)) (N q mb va vr vu rb ub vi i : Nat) (ug : Nat → Nat) (R : Nat → Bool) (B : Nat) (w : World) : Prop :=
  LwM r N q mb va vr vu rb ub ug R w ∧ w.heap[vi]? = some (Obj.cells #[.int .i64 (i : Int)] 3 (0, 0)) ∧ B ≤ w.heap.size

set_option maxRecDepth 100000 in
set_option maxHeartbeats 3200000 in
theorem pair_call (r : List (Int × Int)) (N q mb va vr vu rb ub vi i : Nat) (ug : Nat → Nat) (R : Nat → Bool) (x y : Nat) (w : World) (hx : x ≤ 1000000) (hy : y ≤ 1000000) (hm : LwM r N q mb va vr vu rb ub ug R w) (ha : Apart N mb va vr vu rb ub ug)
    (hi : w.heap[vi]? = some (Obj.cells #[.int .i64 (i : Int)] 3 (0, 0))) (hvi : ¬ UsP N ug vi) (hiN : i < N) (hNq : N ≤ 64 * q) (hq : q ≤ 10000) :
    Calls Tryz.prog 111 #[.int .i64 (x : Int), .int .i64 (y : Int), .pointer (some ⟨va, 0, none⟩), .pointer (some ⟨vr, 0, none⟩), .pointer (some ⟨vu, 0, none⟩), .pointer (some ⟨vi, 0, none⟩)] w fun e w' => e = .returned (.bool (leftR r N R x y)) ∧ LwM r N q mb va vr vu rb ub ug R w' ∧ Kept (UsP N ug) w w' := by
  have z0 := cell_of1 hm.at_
  have z1 := cell_of1 hm.rem
  have z2 := cell_of1 hm.usr
  have z3 := cell_of1 hi
  have hlk := hm.map.look (x := (x : Int)) (y := (y : Int)) (WalkArith.wf_i64 (by omega)) (WalkArith.wf_i64 (by omega))
  have HM := Lib.hid hm
  have HA := Lib.hid ha
  have HI := Lib.hid hi
  have HVI := Lib.hid hvi
  clear hm ha hi hvi
  cases hL : atL r N x y with
  | none =>
    have HR := Lib.hid (show leftR r N R x y = false by unfold leftR; rw [hL])
    rw [hL] at hlk
    simp only [Option.getD_none, Option.isSome_none] at hlk
    clear hL
    go_enter Tryz.func111, Tryz.ntmps111
    go_wp2_with fail
    go_ret
    exact ⟨by rw [HR.out]; rfl, HM.out, Kept.refl _ _⟩
  | some j =>
    have HR := Lib.hid (show leftR r N R x y = !R j by unfold leftR; rw [hL])
    have hjN := (atL_some hL).1
    rw [hL] at hlk
    simp only [Option.getD_some, Option.isSome_some] at hlk
    have HH := Lib.hid (has_any rb q q R j w HM.out.gone (by omega) (by omega))
    clear hL
    cases hRj : R j with
    | true =>
      have HRJ := Lib.hid hRj
      rw [hRj] at HH
      clear hRj
      go_enter Tryz.func111, Tryz.ntmps111
      go_wp2_with fail
      refine HH.out.mono ?_
      rintro e w2 ⟨rfl, hb2⟩
      have HB2 := Lib.hid hb2
      clear hb2
      go_wp2_with fail
      go_ret
      exact ⟨by rw [HR.out, HRJ.out]; rfl, HM.out.same HB2.out, Kept.ofBelow HB2.out⟩
    | false =>
      have HRJ := Lib.hid hRj
      rw [hRj] at HH
      clear hRj
      go_enter Tryz.func111, Tryz.ntmps111
      go_wp2_with fail
      refine HH.out.mono ?_
      rintro e w2 ⟨rfl, hb2⟩
      have HB2 := Lib.hid hb2
      have HM2 := Lib.hid (HM.out.same hb2)
      have HI2 := Lib.hid ((hb2.block _ (heap_lt HI.out)).trans HI.out)
      clear hb2
      clear z0 z1 z2 z3 hlk
      go_wp2_with fail
      refine wp_region_plan (by rfl) (fun x : World => LwM r N q mb va vr vu rb ub ug R x ∧ Kept (UsP N ug) w2 x) [some (.slice (some ⟨ub, 0, none⟩) N N), some (.int .i64 (j : Int)), some (.pointer (some ⟨ub, j, none⟩)), some (.slice (some ⟨ug j, 0, none⟩) q q), some (.int .i64 (i : Int)), some undef] ?aF ?haF _ rfl (by kernel_rfl) ⟨HM2.out.same ((Below.refl _ _).drew), (Kept.refl _ _).drew⟩ ?hall ?hend
      case haF => (simp only [layAll, Act.put, Option.getD_some, List.setIfInBounds_toArray, List.set_cons_zero, List.set_cons_succ]; rfl)
      case hall =>
        repeat (first | (refine Steps.cons (v := none) rfl ?_) | (refine Steps.cons ⟨rfl, fun K x hS hK => ?_⟩ ?_; rotate_left))
        · exact Steps.nil
        all_goals
          have hu0 := cell_of1 hS.1.usr
          have hu1 := hS.1.row.cell hjN
          have hi0 := hS.2.cell HVI.out (cell_of1 HI2.out)
          first
          | (go_simp; exact hK _ hS)
          | (go_simp
             obtain ⟨U, hU⟩ := hS.1.sets j hjN
             refine (add_any (ug j) q q U i x hU (by omega) (by omega)).mono ?_
             rintro e w3 ⟨rfl, hmk, hkk⟩
             have hkP : Kept (UsP N ug) x w3 := hkk.mono (fun k _ hk => ⟨j, hjN, hk⟩)
             exact hK _ ⟨hS.1.keptU HA.out hkP (fun j' hj' => by
               by_cases e : ug j' = ug j
               · rw [e]; exact ⟨_, hmk⟩
               · obtain ⟨U', hU'⟩ := hS.1.sets j' hj'
                 exact ⟨U', hU'.same (hkk.block _ hU'.lt e)⟩), hS.2.trans hkP⟩)
      case hend =>
        intro w4 hw4
        have HW4 := Lib.hid hw4
        clear hw4
        go_wp2_with fail
        go_ret
        exact ⟨by rw [HR.out, HRJ.out]; rfl, HW4.out.1, (Kept.ofBelow HB2.out).trans HW4.out.2⟩
end Go.Proofs.YtfgpjfgejhahfaaGreatDoor

namespace Go.Proofs.YtfgpjfgejhahfaaGreatDoor
open Go Go.RowKit Go.Maps

theorem lw_asks {r : List (Int × Int)} {N q mb va vr vu rb ub vi i n m B : Nat} {ug : Nat → Nat} {R : Nat → Bool} (ha : Apart N mb va vr vu rb ub ug) (hvi : ¬ UsP N ug vi) (hB : mb < B ∧ va < B ∧ vr < B ∧ vu < B ∧ rb < B ∧ ub < B ∧ vi < B) (hU : ∀ k, UsP N ug k → k < B)
    (hiN : i < N) (hNq : N ≤ 64 * q) (hq : q ≤ 10000) (hn : n ≤ 1000000) (hm : m ≤ 1000000) :
    Asks B (UsP N ug) (LwI r N q mb va vr vu rb ub vi i ug R B) n m (leftR r N R) 111 #[.pointer (some ⟨va, 0, none⟩), .pointer (some ⟨vr, 0, none⟩), .pointer (some ⟨vu, 0, none⟩), .pointer (some ⟨vi, 0, none⟩)] := by
  refine ⟨enters_of Tryz.func111 (by kernel_rfl) rfl, hU, fun w h => h.2.2, fun w w' h hb => ?_, fun x y w hx hy h => ?_⟩
  · have h2 := hb.size
    have h3 := h.2.2
    obtain ⟨b1, b2, b3, b4, b5, b6, b7⟩ := hB
    refine ⟨⟨h.1.map.same (hb.block _ b1), (hb.block _ b2).trans h.1.at_, (hb.block _ b3).trans h.1.rem, h.1.gone.same (hb.block _ b5), (hb.block _ b4).trans h.1.usr, h.1.row.of_block (hb.block _ b6), fun j hj => ?_⟩, (hb.block _ b7).trans h.2.1, by omega⟩
    obtain ⟨U, hU'⟩ := h.1.sets j hj
    exact ⟨U, hU'.same (hb.block _ (hU _ ⟨j, hj, rfl⟩))⟩
  · refine (pair_call r N q mb va vr vu rb ub vi i ug R x y w (by omega) (by omega) h.1 ha h.2.1 hvi hiN hNq hq).mono ?_
    rintro e w' ⟨rfl, h2, h3⟩
    exact ⟨rfl, ⟨h2, h3.heap hvi h.2.1, Nat.le_trans h.2.2 h3.size⟩, h3⟩

/-- The bit for j in block b, as the memory has it. -/
def bitAt (w : World) (b j : Nat) : Bool := match w.cell? ⟨b, j / 64, none⟩ with
  | some (.int _ x) => x.toNat.testBit (j % 64)
  | _ => false
theorem Mk.bit {w : World} {b n : Nat} {M : Nat → Bool} (h : Mk w b n M) {j : Nat} (hj : j < 64 * n) : bitAt w b j = M j := by
  obtain ⟨X, hr, _, hM⟩ := h
  unfold bitAt
  rw [hr.cell (show j / 64 < n by omega)]
  simp only [Int.toNat_natCast]
  rw [hM (j / 64) (j % 64) (by omega) (by omega), show 64 * (j / 64) + j % 64 = j by omega]
/-- How many numbers below k are not in the set. -/
def gaps (w : World) (b : Nat) : Nat → Nat
  | 0 => 0
  | k + 1 => gaps w b k + (if bitAt w b k then 0 else 1)
def gapsM (M : Nat → Bool) : Nat → Nat
  | 0 => 0
  | k + 1 => gapsM M k + (if M k then 0 else 1)
theorem Mk.gaps {w : World} {b n : Nat} {M : Nat → Bool} (h : Mk w b n M) : ∀ {k : Nat}, k ≤ 64 * n → gaps w b k = gapsM M k
  | 0, _ => rfl
  | k + 1, hk => by
    have ih := Mk.gaps h (k := k) (by omega)
    have hb := h.bit (j := k) (by omega)
    show Go.Proofs.YtfgpjfgejhahfaaGreatDoor.gaps w b k + _ = gapsM M k + _
    rw [ih, hb]
theorem gapsM_le {M M' : Nat → Bool} : ∀ {k : Nat}, (∀ i, i < k → M i = true → M' i = true) → gapsM M' k ≤ gapsM M k
  | 0, _ => Nat.le_refl _
  | k + 1, h => by
    have ih := gapsM_le (k := k) (fun i hi => h i (by omega))
    have hk := h k (by omega)
    unfold gapsM
    cases hM : M k
    · cases M' k <;> simp <;> omega
    · rw [hk hM]; simp; exact ih
theorem gapsM_lt {M M' : Nat → Bool} {j : Nat} : ∀ {k : Nat}, (∀ i, i < k → M i = true → M' i = true) → j < k → M j = false → M' j = true → gapsM M' k < gapsM M k
  | 0, _, hj, _, _ => by omega
  | k + 1, h, hj, h1, h2 => by
    have hk := h k (by omega)
    unfold gapsM
    by_cases e : j = k
    · subst e
      have ih := gapsM_le (k := j) (fun i hi => h i (by omega))
      rw [h1, h2]; simp; omega
    · have ih := gapsM_lt (k := k) (fun i hi => h i (by omega)) (by omega) h1 h2
      cases hM : M k
      · cases M' k <;> simp <;> omega
      · rw [hk hM]; simp; exact ih
/-- What the rounds of largestWithin come down. -/
def lwMeasure (rb N : Nat) (z : Value) (w : World) : Nat := match z with
  | .slice _ m _ => if m = 0 then 0 else 1 + gaps w rb N
  | _ => 0
end Go.Proofs.YtfgpjfgejhahfaaGreatDoor
