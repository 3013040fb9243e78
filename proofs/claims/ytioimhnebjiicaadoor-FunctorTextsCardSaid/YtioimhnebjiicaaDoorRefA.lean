/-
  Proved here: what the small functions of the reference do at each input.
-/
import Derived.Test.YtioimhnebjiicaaDoorProg
import Derived.Test.YtioimhnebjiicaaDoorTree
import Derived.WalkSpells
import Derived.WalkLawsBesides
import Derived.BigQuiet
namespace Go.Proofs.YtioimhnebjiicaaDoor
open Go.RowKit

abbrev Fv (k n : Int) (a : Option Addr) (len cap : Nat) : Value := .agg #[.int .i64 k, .int .i64 n, .slice a len cap]
theorem Tryd.cells24 : Tryd.prog.cellsOf 24 = 3 := by kernel_rfl
theorem Tryd.cells3 : Tryd.prog.cellsOf 3 = 1 := by kernel_rfl
theorem Tryd.cells22 : Tryd.prog.cellsOf 22 = 1 := by kernel_rfl

def lft : T → Int → Int
  | .nil, m => m
  | .cons _ _ kids rest, m => if 0 < m then lft rest (max (lft kids (m - 1)) 0) else m

theorem lft_le (t : T) : ∀ m : Int, 0 ≤ m → lft t m ≤ m := by
  induction t with
  | nil => intro m h; simp [lft]
  | cons k n kids rest ihk ihr =>
    intro m h
    unfold lft
    split
    · have := ihk (m - 1) (by omega)
      have := ihr (max (lft kids (m - 1)) 0) (by omega)
      omega
    · omega

theorem lft_zero (t : T) : lft t 0 = 0 := by
  cases t <;> simp [lft]

set_option maxRecDepth 100000 in
set_option maxHeartbeats 400000 in
theorem left_any (S : Nat → Nat → Prop) : ∀ (t : T) (k n : Int) (a : Option Addr) (cap : Nat) (m : Int) (w : World), Sl S w a t → 0 < m → m ≤ 100000 →
    Calls Tryd.prog 25 #[.agg #[.int .i64 k, .int .i64 n, .slice a t.len cap], .int .i64 m] w fun e w' =>
      e = .returned (.int .i64 (max (lft t (m - 1)) 0)) ∧ Below w.heap.size w w' := by
  refine T.ind ?_
  intro t ih k n a cap m w hs hm0 hm1
  obtain ⟨W, hW⟩ : ∃ W : World, W = w.alloc (Obj.cells #[Value.int IntKind.i64 k, Value.int IntKind.i64 n, Value.slice a t.len cap] 24) := ⟨_, rfl⟩
  have hWb : Below w.heap.size w W := by rw [hW]; exact (Below.refl _ _).alloc (Nat.le_refl _) _
  have c2 : W.cell? ⟨w.heap.size, 2, none⟩ = some (.slice a t.len cap) := by rw [hW]; simp
  have hz : w.heap.size < W.heap.size := by rw [hW]; simp
  have hs' : Sl S W a t := hs.below hWb
  have hlen := hs.1
  go_enter Tryd.func25, Tryd.ntmps25
  go_wp2_with fail
  rw [← hW]
  clear hW
  go_loopw [1, 5] (fun v i wr => ∃ j : Nat, ∃ q : Int, j ≤ t.len ∧ i = .int .i64 j ∧ v = .int .i64 q ∧ q ≤ 100000 ∧ 0 ≤ q ∧ lft (t.drop j) q = lft t (m - 1) ∧ Below W.heap.size W wr) (fun _ i _ => t.len - (intOf i).toNat)
  case atStart => exact ⟨0, _, Nat.zero_le _, rfl, rfl, by omega, by omega, by simp, Below.refl _ _⟩
  case round =>
    obtain ⟨j, q, hj, rfl, rfl, hq, hq0, hl, hb⟩ := hrel
    have HL := Lib.hid hl
    clear hl
    have c2' := cell_below hb c2
    by_cases hlt : j < t.len
    · by_cases hp : 0 < q
      · obtain ⟨b, o, rfl, hat⟩ := hs'.addr hlt
        obtain ⟨k1, n1, kids, rest, hd, hd1⟩ := T.drop_lt hlt
        obtain ⟨_, d0, d1, a1, cap1, d2, hs1⟩ := hat.get hd
        have hb3 := Nat.mul_comm 3 j
        rw [hb3] at d0 d1 d2
        clear hb3
        replace d0 := cell_below hb d0
        replace d1 := cell_below hb d1
        replace d2 := cell_below hb d2
        replace hs1 := hs1.below hb
        have HD := Lib.hid hd
        have HD1 := Lib.hid hd1
        clear hd hd1
        go_wp2_with fail
        refine (ih _ _ _ _ _ HD.out _ _ _ _ _ _ hs1 (by omega) (by omega)).mono ?_
        rintro e w' ⟨rfl, hb'⟩
        go_wp2_with fail
        go_roundw
        case rel => exact ⟨j + 1, _, by omega, by go_num, rfl, by have := lft_le kids (q - 1) (by omega); omega, by omega, by rw [← HL.out, HD1.out, HD.out]; simp [lft, hp], hb.trans (hb'.mono hb.size)⟩
        case measure => simp [intOf]; omega
      · go_wp2_with fail
        go_ret
        have hq' : q = 0 := by omega
        subst hq'
        exact ⟨by rw [← HL.out, lft_zero]; simp, hWb.trans (hb.mono (by omega))⟩
    · go_wp2_with fail
      go_ret
      have hj' : j = t.len := by omega
      subst hj'
      exact ⟨by rw [← HL.out, T.drop_all]; simp [lft]; omega, hWb.trans (hb.mono (by omega))⟩

set_option maxHeartbeats 400000 in
theorem few_any (S : Nat → Nat → Prop) (t : T) (k n : Int) (a : Option Addr) (cap : Nat) (m : Int) (w : World) (hs : Sl S w a t) (h0 : 0 ≤ m) (h1 : m ≤ 99999) :
    Calls Tryd.prog 7 #[.agg #[.int .i64 k, .int .i64 n, .slice a t.len cap], .int .i64 m] w fun e w' =>
      e = .returned (.bool (decide (0 < max (lft t m) 0))) ∧ Below w.heap.size w w' := by
  go_enter Tryd.func7, Tryd.ntmps7
  go_wp2_with fail
  refine (left_any S t _ _ _ _ _ _ ?_ (by omega) (by omega)).mono ?_
  · exact hs.below ((Below.refl _ _).alloc (Nat.le_refl _) _)
  rintro e w' ⟨rfl, hb'⟩
  go_wp2_with fail
  go_ret
  exact ⟨by simp, ((Below.refl _ _).alloc (Nat.le_refl _) _).trans (hb'.mono (by simp))⟩
end Go.Proofs.YtioimhnebjiicaaDoor
