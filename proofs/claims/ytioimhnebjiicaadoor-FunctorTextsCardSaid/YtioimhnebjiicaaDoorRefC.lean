/-
  Proved here: the reference's order of functors, at each two functors.
-/
import Derived.Test.YtioimhnebjiicaaDoorRefB
import Derived.Deep.QuietTactic
import Derived.BigQuiet
namespace Go.Proofs.YtioimhnebjiicaaDoor
open Go.RowKit

theorem below_drewN {B : Nat} {w : World} {n : Nat} : Below B w (w.drewN n) := ⟨rfl, rfl, rfl, Nat.le_refl _, fun _ _ => rfl⟩
theorem quiet_eq {P : Program} {f : FuncId} {args : Array Value} {w : World} {n : Nat} {v : Value}
    (h : Calls P f args (w.drewN n) fun e w' => e = .returned v ∧ w.drewN n = w') : Calls P f args (w.drewN n) fun e w'' => e = .returned v ∧ ∃ m, w'' = w.drewN m :=
  h.mono fun _ _ ⟨he, hm⟩ => ⟨he, n, hm.symm⟩

def leastOf (k : Int) : Int := if 1 < mostOf k then 1 else mostOf k
def fieldsOk (k n : Int) (l : Nat) : Bool := decide ((l : Int) = arityOf k ∧ leastOf k ≤ n ∧ n ≤ mostOf k)
def T.allOk : T → Bool
  | .nil => true
  | .cons k n kids rest => (fieldsOk k n kids.len && kids.allOk) && rest.allOk

set_option maxRecDepth 100000 in
set_option maxHeartbeats 800000 in
theorem shaped_any (S : Nat → Nat → Prop) : ∀ (t : T) (k n : Int) (a : Option Addr) (cap : Nat) (w : World), Sl S w a t →
    Calls Tryd.prog 40 #[.agg #[.int .i64 k, .int .i64 n, .slice a t.len cap]] w fun e w' =>
      e = .returned (.bool (fieldsOk k n t.len && t.allOk)) ∧ Below w.heap.size w w' := by
  refine T.ind ?_
  intro t ih k n a cap w hs
  obtain ⟨W, hW⟩ : ∃ W : World, W = w.alloc (Obj.cells #[Value.int IntKind.i64 k, Value.int IntKind.i64 n, Value.slice a t.len cap] 24) := ⟨_, rfl⟩
  have hWb : Below w.heap.size w W := by rw [hW]; exact (Below.refl _ _).alloc (Nat.le_refl _) _
  have c0 : W.cell? ⟨w.heap.size, 0, none⟩ = some (.int .i64 k) := by rw [hW]; simp
  have c1 : W.cell? ⟨w.heap.size, 1, none⟩ = some (.int .i64 n) := by rw [hW]; simp
  have c2 : W.cell? ⟨w.heap.size, 2, none⟩ = some (.slice a t.len cap) := by rw [hW]; simp
  have hz : w.heap.size < W.heap.size := by rw [hW]; simp
  have hs' : Sl S W a t := hs.below hWb
  have hlen := hs.1
  have hm := mostOf_bd k
  have ha := arityOf_bd k
  go_enter Tryd.func40, Tryd.ntmps40
  go_wp2_with fail
  rw [← hW]
  clear hW
  refine (most_any k W).mono ?_
  rintro e w' ⟨rfl, rfl⟩
  obtain ⟨m, hmk⟩ : ∃ m, m = mostOf k := ⟨_, rfl⟩
  obtain ⟨r, hr⟩ : ∃ r, r = arityOf k := ⟨_, rfl⟩
  have HM := Lib.hid hmk
  have HR := Lib.hid hr
  rw [← hmk] at hm ⊢
  rw [← hr] at ha
  clear hmk hr
  have HA := Lib.hid (show ∀ w, Calls Tryd.prog 67 #[.int .i64 k] w fun e w' => e = .returned (.int .i64 r) ∧ w = w' by rw [HR.out]; exact arity_any k)
  have HB := Lib.hid (show ∀ w, Calls Tryd.prog 66 #[.int .i64 k] w fun e w' => e = .returned (.int .i64 m) ∧ w = w' by rw [HM.out]; exact most_any k)
  obtain ⟨l, hl⟩ : ∃ l, l = leastOf k := ⟨_, rfl⟩
  have HLe := Lib.hid hl
  have hl2 : l = if 1 < m then 1 else m := by rw [hl, HM.out]; rfl
  clear hl
  by_cases hm1 : m < 1
  · have hl3 : l = m := by rw [hl2]; rw [if_neg (by omega)]
    subst hl3
    clear hl2
    go_wp2_with fail
    by_cases h1 : (t.len : Int) = r
    · have h1' : ((t.len : Int) != r) = false := by simpa using h1
      clear h1
      by_cases h2 : n < l
      · have h2' : decide (n < l) = true := by simpa using h2
        go_quiet (first | (go_at_call 67; exact quiet_eq (HA.out _)) | (go_at_call 66; exact quiet_eq (HB.out _)))
        go_wp2_with fail
        go_ret
        have hf : fieldsOk k n t.len = false := by unfold fieldsOk; rw [← HLe.out]; simp; omega
        exact ⟨by rw [hf]; rfl, hWb.trans below_drewN⟩
      · have h2' : decide (n < l) = false := by simpa using h2
        by_cases h3 : l < n
        · have h3' : decide (l < n) = true := by simpa using h3
          go_quiet (first | (go_at_call 67; exact quiet_eq (HA.out _)) | (go_at_call 66; exact quiet_eq (HB.out _)))
          go_wp2_with fail
          go_ret
          have hf : fieldsOk k n t.len = false := by unfold fieldsOk; rw [← HM.out]; simp; omega
          exact ⟨by rw [hf]; rfl, hWb.trans below_drewN⟩
        · have h3' : decide (l < n) = false := by simpa using h3
          go_quiet (first | (go_at_call 67; exact quiet_eq (HA.out _)) | (go_at_call 66; exact quiet_eq (HB.out _)))
          go_wp2_with fail
          have hf : fieldsOk k n t.len = true := by unfold fieldsOk; rw [← HM.out, ← HR.out, ← HLe.out]; simp; simp at h1'; omega
          have HF := Lib.hid hf
          clear hf
          obtain ⟨W2, hW2⟩ : ∃ W2, W2 = W.drewN nq := ⟨_, rfl⟩
          rw [← hW2]
          have hb2 : Below W.heap.size W W2 := by rw [hW2]; exact below_drewN
          have hz2 : W2.heap.size = W.heap.size := by rw [hW2]; rfl
          clear hW2
          replace hWb := hWb.trans (hb2.mono (by omega))
          replace hs' := hs'.below hb2
          go_loopw [34] (fun i wr => ∃ j : Nat, j ≤ t.len ∧ i = .int .i64 j ∧ (t.drop j).allOk = t.allOk ∧ Below W2.heap.size W2 wr) (fun i _ => t.len - (intOf i).toNat)
          case atStart => exact ⟨0, Nat.zero_le _, rfl, by simp, Below.refl _ _⟩
          case round =>
            obtain ⟨j, hj, rfl, hl, hb⟩ := hrel
            have HL := Lib.hid hl
            clear hl
            by_cases hlt : j < t.len
            · obtain ⟨b, o, rfl, hat⟩ := hs'.addr hlt
              obtain ⟨k1, n1, kids, rest, hd, hd1⟩ := T.drop_lt hlt
              obtain ⟨_, d0, d1, a1, cap1, d2, hs1⟩ := hat.get hd
              have hb3 := Nat.mul_comm 3 j
              rw [hb3] at d0 d1 d2
              clear hb3
              replace d0 := cell_below hb d0
              replace d1 := cell_below hb d1
              replace d2 := cell_below hb d2
              replace hs1 := hs1.below hb
              have HD := Lib.hid hd
              have HD1 := Lib.hid hd1
              clear hd hd1
              have hbs := hb.size
              go_wp2_with fail
              refine (ih _ _ _ _ _ HD.out _ _ _ _ _ (hs1.below ((Below.refl _ _).alloc (Nat.le_refl _) _))).mono ?_
              rintro e w' ⟨rfl, hb'⟩
              have hb4 : Below W2.heap.size W2 w' := (hb.alloc hb.size _).trans (hb'.mono (by simp; omega))
              cases hq : (fieldsOk k1 n1 kids.len && kids.allOk)
              · go_wp2_with fail
                go_ret
                exact ⟨by rw [HF.out, ← HL.out, HD.out]; simp only [T.allOk, hq]; rfl, hWb.trans (hb4.mono (by omega))⟩
              · go_wp2_with fail
                go_roundw
                case rel => exact ⟨j + 1, by omega, by go_num, by rw [← HL.out, HD.out, HD1.out]; simp only [T.allOk, hq]; simp, hb4⟩
                case measure => simp [intOf]; omega
            · go_wp2_with fail
              go_ret
              have hj' : j = t.len := by omega
              exact ⟨by rw [HF.out, ← HL.out, hj', T.drop_all]; rfl, hWb.trans (hb.mono (by omega))⟩
    · have h1' : ((t.len : Int) != r) = true := by simpa using h1
      go_quiet (first | (go_at_call 67; exact quiet_eq (HA.out _)) | (go_at_call 66; exact quiet_eq (HB.out _)))
      go_wp2_with fail
      go_ret
      have hf : fieldsOk k n t.len = false := by unfold fieldsOk; rw [← HR.out]; simp [h1]
      exact ⟨by rw [hf]; rfl, hWb.trans below_drewN⟩
  · have hl3 : l = 1 := by rw [hl2]; split <;> omega
    subst hl3
    clear hl2
    go_wp2_with fail
    by_cases h1 : (t.len : Int) = r
    · have h1' : ((t.len : Int) != r) = false := by simpa using h1
      clear h1
      by_cases h2 : n < 1
      · have h2' : decide (n < 1) = true := by simpa using h2
        go_quiet (first | (go_at_call 67; exact quiet_eq (HA.out _)) | (go_at_call 66; exact quiet_eq (HB.out _)))
        go_wp2_with fail
        go_ret
        have hf : fieldsOk k n t.len = false := by unfold fieldsOk; rw [← HLe.out]; simp; omega
        exact ⟨by rw [hf]; rfl, hWb.trans below_drewN⟩
      · have h2' : decide (n < 1) = false := by simpa using h2
        by_cases h3 : m < n
        · have h3' : decide (m < n) = true := by simpa using h3
          go_quiet (first | (go_at_call 67; exact quiet_eq (HA.out _)) | (go_at_call 66; exact quiet_eq (HB.out _)))
          go_wp2_with fail
          go_ret
          have hf : fieldsOk k n t.len = false := by unfold fieldsOk; rw [← HM.out]; simp; omega
          exact ⟨by rw [hf]; rfl, hWb.trans below_drewN⟩
        · have h3' : decide (m < n) = false := by simpa using h3
          go_quiet (first | (go_at_call 67; exact quiet_eq (HA.out _)) | (go_at_call 66; exact quiet_eq (HB.out _)))
          go_wp2_with fail
          have hf : fieldsOk k n t.len = true := by unfold fieldsOk; rw [← HM.out, ← HR.out, ← HLe.out]; simp; simp at h1'; omega
          have HF := Lib.hid hf
          clear hf
          obtain ⟨W2, hW2⟩ : ∃ W2, W2 = W.drewN nq := ⟨_, rfl⟩
          rw [← hW2]
          have hb2 : Below W.heap.size W W2 := by rw [hW2]; exact below_drewN
          have hz2 : W2.heap.size = W.heap.size := by rw [hW2]; rfl
          clear hW2
          replace hWb := hWb.trans (hb2.mono (by omega))
          replace hs' := hs'.below hb2
          go_loopw [34] (fun i wr => ∃ j : Nat, j ≤ t.len ∧ i = .int .i64 j ∧ (t.drop j).allOk = t.allOk ∧ Below W2.heap.size W2 wr) (fun i _ => t.len - (intOf i).toNat)
          case atStart => exact ⟨0, Nat.zero_le _, rfl, by simp, Below.refl _ _⟩
          case round =>
            obtain ⟨j, hj, rfl, hl, hb⟩ := hrel
            have HL := Lib.hid hl
            clear hl
            by_cases hlt : j < t.len
            · obtain ⟨b, o, rfl, hat⟩ := hs'.addr hlt
              obtain ⟨k1, n1, kids, rest, hd, hd1⟩ := T.drop_lt hlt
              obtain ⟨_, d0, d1, a1, cap1, d2, hs1⟩ := hat.get hd
              have hb3 := Nat.mul_comm 3 j
              rw [hb3] at d0 d1 d2
              clear hb3
              replace d0 := cell_below hb d0
              replace d1 := cell_below hb d1
              replace d2 := cell_below hb d2
              replace hs1 := hs1.below hb
              have HD := Lib.hid hd
              have HD1 := Lib.hid hd1
              clear hd hd1
              have hbs := hb.size
              go_wp2_with fail
              refine (ih _ _ _ _ _ HD.out _ _ _ _ _ (hs1.below ((Below.refl _ _).alloc (Nat.le_refl _) _))).mono ?_
              rintro e w' ⟨rfl, hb'⟩
              have hb4 : Below W2.heap.size W2 w' := (hb.alloc hb.size _).trans (hb'.mono (by simp; omega))
              cases hq : (fieldsOk k1 n1 kids.len && kids.allOk)
              · go_wp2_with fail
                go_ret
                exact ⟨by rw [HF.out, ← HL.out, HD.out]; simp only [T.allOk, hq]; rfl, hWb.trans (hb4.mono (by omega))⟩
              · go_wp2_with fail
                go_roundw
                case rel => exact ⟨j + 1, by omega, by go_num, by rw [← HL.out, HD.out, HD1.out]; simp only [T.allOk, hq]; simp, hb4⟩
                case measure => simp [intOf]; omega
            · go_wp2_with fail
              go_ret
              have hj' : j = t.len := by omega
              exact ⟨by rw [HF.out, ← HL.out, hj', T.drop_all]; rfl, hWb.trans (hb.mono (by omega))⟩
    · have h1' : ((t.len : Int) != r) = true := by simpa using h1
      go_quiet (first | (go_at_call 67; exact quiet_eq (HA.out _)) | (go_at_call 66; exact quiet_eq (HB.out _)))
      go_wp2_with fail
      go_ret
      have hf : fieldsOk k n t.len = false := by unfold fieldsOk; rw [← HR.out]; simp [h1]
      exact ⟨by rw [hf]; rfl, hWb.trans below_drewN⟩
end Go.Proofs.YtioimhnebjiicaaDoor
