/-
  Proved here: a step towards the statements of chapter 1 (functors): what one of its functions does at each input.
-/
import Derived.Test.YtioimhnebjiicaaDoorParK
import Derived.StillTailTactics
namespace Go.Proofs.YtioimhnebjiicaaDoor
open Go.RowKit

def operandM (Fi : List UInt8 → Option (F × List UInt8)) (l : List UInt8) : Option (F × List UInt8) :=
  match Fi l with
  | none => none
  | some (f, r) => powM r f

set_option maxRecDepth 100000 in
set_option maxHeartbeats 1600000 in
theorem operand_any (y : Lay) (q : Nat) (w : World) (Fi : List UInt8 → Option (F × List UInt8)) (hs : y.s.size ≤ 50000) (h : PS w y q)
    (hfi : ∀ w1, PS w1 y q → Calls Tryd.prog 69 #[y.ptr] w1 (FunPost y (SP w1.heap.size) w1 (Fi (y.txt q)))) :
    Calls Tryd.prog 51 #[y.ptr] w (FunPost y (SP w.heap.size) w (operandM Fi (y.txt q))) := by
  have HFI := Lib.hid hfi
  clear hfi
  have hlt := h.lt
  have h2 := h.below ((Below.refl _ _).alloc (Nat.le_refl _) (.cells #[.int .i64 0, .int .i64 0, .slice none 0 0] 24))
  obtain ⟨W, hW⟩ : ∃ W, W = w.alloc (.cells #[.int .i64 0, .int .i64 0, .slice none 0 0] 24) := ⟨_, rfl⟩
  have hres : HdRes w.heap.size W := by rw [hW]; exact heap_new _ _
  have how : Oth y.pb w W := by rw [hW]; exact (Oth.refl _ _).alloc _
  have hsz : W.heap.size = w.heap.size + 1 := by rw [hW]; simp
  have HSZ := Lib.hid hsz
  clear hsz
  rw [← hW] at h2
  have hst := Lib.hid (stays_hdRes y w.heap.size hlt)
  obtain ⟨R, hR1⟩ : ∃ R, R = FunPost y (SP w.heap.size) w (operandM Fi (y.txt q)) := ⟨_, rfl⟩
  rw [← hR1]
  have HR1 := Lib.hid hR1
  clear hR1
  go_enter Tryd.func51, Tryd.ntmps51
  go_wp2_with fail
  rw [← hW]
  clear hW
  refine (HFI.out W h2).mono ?_
  obtain ⟨m, hm0⟩ : ∃ m, m = Fi (y.txt q) := ⟨_, rfl⟩
  rw [← hm0]
  have HM0 := Lib.hid hm0
  clear hm0
  refine fun e w1 he => ?_
  rcases (show m = none ∨ ∃ p, m = some p by cases m <;> simp) with hm1 | ⟨p, hm1⟩
  · rw [hm1] at he
    obtain ⟨rfl, ho⟩ := he
    have hR2 : operandM Fi (y.txt q) = none := by unfold operandM; rw [← HM0.out, hm1]
    exact ⟨rfl, by rw [HR1.out, hR2]; exact ⟨rfl, how.trans ho⟩⟩
  · rw [hm1] at he
    have hR2 : operandM Fi (y.txt q) = powM p.2 p.1 := by unfold operandM; rw [← HM0.out, hm1]
    have HR2 := Lib.hid hR2
    clear hm1 hR2
    obtain ⟨a, cap, q1, rfl, hsl1, hq1, ht1, hp1, ho1⟩ := he
    have HT1 := Lib.hid ht1
    clear ht1
    have hres1 := hst.out _ _ h2.lt ho1 hres
    have how1 := how.trans ho1
    have hsz1 := ho1.size
    have hp2 := hp1.below ((Below.refl _ _).alloc (Nat.le_refl _) (.cells #[.int .i64 p.1.k, .int .i64 p.1.n, .slice a p.1.t.len cap] 24))
    have g3 := hp2.c3
    obtain ⟨W1, hW1⟩ : ∃ W1, W1 = w1.alloc (.cells #[.int .i64 p.1.k, .int .i64 p.1.n, .slice a p.1.t.len cap] 24) := ⟨_, rfl⟩
    rw [← hW1] at hp2 g3
    have hbW : W1.heap[w1.heap.size]? = some (.cells #[.int .i64 p.1.k, .int .i64 p.1.n, .slice a p.1.t.len cap] 24 (0, 0)) := by rw [hW1]; exact heap_new _ _
    obtain ⟨b0, b1, b2⟩ := cells_of hbW
    have hoW : Oth y.pb w1 W1 := by rw [hW1]; exact (Oth.refl _ _).alloc _
    go_wp2_with fail
    rw [← hW1]
    clear hW1
    go_still_tail 6, (by kernel_rfl)
    change wpList _ _ _ _ _ W1.drew
    have hp3 : PS W1.drew y q1 := hp2.drewN (n := 1)
    have hoW3 : Oth y.pb w1 W1.drew := hoW.drew
    have hszd : W1.drew.heap.size = W1.heap.size := rfl
    generalize W1.drew = W2 at hp3 hoW3 hszd ⊢
    have HSZD := Lib.hid hszd
    clear hszd
    go_wp2_with fail
    refine (follow_pow y q1 W2 p.1 a cap hq1 hs hp3 (SP W.heap.size) (fun _ _ => sp_ne (by have := h2.lt; omega)) (hsl1.oth (fun _ _ => sp_ne (by have := h2.lt; omega)) hoW3)).mono ?_
    rw [HT1.out]
    have how2 : Oth y.pb w W2 := how1.trans hoW3
    have hres2 := hst.out _ _ hp1.lt hoW3 hres1
    refine fun e w3 he => ?_
    obtain ⟨m2, hm20⟩ : ∃ m2, m2 = powM p.2 p.1 := ⟨_, rfl⟩
    rw [← hm20] at he
    have HM2 := Lib.hid hm20
    clear hm20
    rcases (show m2 = none ∨ ∃ p, m2 = some p by cases m2 <;> simp) with hm1 | ⟨p2, hm1⟩
    · rw [hm1] at he
      obtain ⟨rfl, ho⟩ := he
      exact ⟨rfl, by rw [HR1.out, HR2.out, ← HM2.out, hm1]; exact ⟨rfl, how2.trans ho⟩⟩
    · rw [hm1] at he
      have HM1 := Lib.hid hm1
      clear hm1
      obtain ⟨a', cap', q3, rfl, hsl3, hq3, ht3, hp4, ho3⟩ := he
      have HT3 := Lib.hid ht3
      clear ht3
      have hres3 := hst.out _ _ hp3.lt ho3 hres2
      obtain ⟨v0, v1, v2⟩ := cells_of hres3
      have vz := fun o => frozen_of (o := o) hres3
      have hw := store3 (x0 := .int .i64 p2.1.k) (x1 := .int .i64 p2.1.n) (x2 := .slice a' p2.1.t.len cap') hres3 rfl
      obtain ⟨d0, d1, d2⟩ := cells_of hw
      have hof := store3_oth (b := w.heap.size) (x0 := .int .i64 p2.1.k) (x1 := .int .i64 p2.1.n) (x2 := .slice a' p2.1.t.len cap') (how2.trans ho3) (by omega)
      have hpf := h.oth hof ((store3_far (by omega)).trans hp4.hp)
      clear hw
      have hsw : W.heap.size ≤ W2.heap.size := by have := hoW3.size; omega
      go_wp2_with fail
      refine bodyPost_ret (v := F.val p2.1 a' cap') (by simp [results, Tryd.results51, go_sem, d0, d1, d2]) rfl ?_
      rw [HR1.out, HR2.out, ← HM2.out, HM1.out]
      have hS : ∀ b o, (SP W.heap.size b o ∨ SP W2.heap.size b o) → SP W.heap.size b o := fun b o h => h.elim id (sp_le hsw)
      exact ⟨a', cap', q3, rfl, ((hsl3.weaken hS).store3 (fun b o h => by have := h.1; have := HSZ.out; omega)).weaken (fun _ _ => sp_le (by have := HSZ.out; omega)), hq3, HT3.out, hpf, hof⟩

def exprM (Fi : List UInt8 → Option (F × List UInt8)) (l : List UInt8) : Option (F × List UInt8) :=
  match Fi l with
  | none => none
  | some (f, r) => binM Fi r f

set_option maxRecDepth 100000 in
set_option maxHeartbeats 1600000 in
theorem expr_any (y : Lay) (q : Nat) (w : World) (Fi : List UInt8 → Option (F × List UInt8)) (hq : q ≤ y.s.size) (hs : y.s.size ≤ 50000) (h : PS w y q) (hlen : ∀ l f r, Fi l = some (f, r) → r.length ≤ l.length)
    (hfi : ∀ q1 w1, q1 ≤ y.s.size → PS w1 y q1 → (y.txt q1).length ≤ (y.txt q).length → Calls Tryd.prog 51 #[y.ptr] w1 (FunPost y (SP w1.heap.size) w1 (Fi (y.txt q1)))) :
    Calls Tryd.prog 35 #[y.ptr] w (FunPost y (SP w.heap.size) w (exprM Fi (y.txt q))) := by
  have HFI := Lib.hid hfi
  clear hfi
  have hlt := h.lt
  have h2 := h.below ((Below.refl _ _).alloc (Nat.le_refl _) (.cells #[.int .i64 0, .int .i64 0, .slice none 0 0] 24))
  obtain ⟨W, hW⟩ : ∃ W, W = w.alloc (.cells #[.int .i64 0, .int .i64 0, .slice none 0 0] 24) := ⟨_, rfl⟩
  have hres : HdRes w.heap.size W := by rw [hW]; exact heap_new _ _
  have how : Oth y.pb w W := by rw [hW]; exact (Oth.refl _ _).alloc _
  have hsz : W.heap.size = w.heap.size + 1 := by rw [hW]; simp
  have HSZ := Lib.hid hsz
  clear hsz
  rw [← hW] at h2
  have hst := Lib.hid (stays_hdRes y w.heap.size hlt)
  obtain ⟨R, hR1⟩ : ∃ R, R = FunPost y (SP w.heap.size) w (exprM Fi (y.txt q)) := ⟨_, rfl⟩
  rw [← hR1]
  have HR1 := Lib.hid hR1
  clear hR1
  go_enter Tryd.func35, Tryd.ntmps35
  go_wp2_with fail
  rw [← hW]
  clear hW
  refine (HFI.out q W hq h2 (Nat.le_refl _)).mono ?_
  obtain ⟨m, hm0⟩ : ∃ m, m = Fi (y.txt q) := ⟨_, rfl⟩
  rw [← hm0]
  have HM0 := Lib.hid hm0
  clear hm0
  refine fun e w1 he => ?_
  rcases (show m = none ∨ ∃ p, m = some p by cases m <;> simp) with hm1 | ⟨p, hm1⟩
  · rw [hm1] at he
    obtain ⟨rfl, ho⟩ := he
    have hR2 : exprM Fi (y.txt q) = none := by unfold exprM; rw [← HM0.out, hm1]
    exact ⟨rfl, by rw [HR1.out, hR2]; exact ⟨rfl, how.trans ho⟩⟩
  · rw [hm1] at he
    have hR2 : exprM Fi (y.txt q) = binM Fi p.2 p.1 := by unfold exprM; rw [← HM0.out, hm1]
    have HR2 := Lib.hid hR2
    have hl1 : p.2.length ≤ (y.txt q).length := hlen (y.txt q) p.1 p.2 (by rw [← HM0.out, hm1])
    clear hm1 hR2
    obtain ⟨a, cap, q1, rfl, hsl1, hq1, ht1, hp1, ho1⟩ := he
    have HT1 := Lib.hid ht1
    clear ht1
    have hres1 := hst.out _ _ h2.lt ho1 hres
    have how1 := how.trans ho1
    have hsz1 := ho1.size
    have hp2 := hp1.below ((Below.refl _ _).alloc (Nat.le_refl _) (.cells #[.int .i64 p.1.k, .int .i64 p.1.n, .slice a p.1.t.len cap] 24))
    have g3 := hp2.c4
    obtain ⟨W1, hW1⟩ : ∃ W1, W1 = w1.alloc (.cells #[.int .i64 p.1.k, .int .i64 p.1.n, .slice a p.1.t.len cap] 24) := ⟨_, rfl⟩
    rw [← hW1] at hp2 g3
    have hbW : W1.heap[w1.heap.size]? = some (.cells #[.int .i64 p.1.k, .int .i64 p.1.n, .slice a p.1.t.len cap] 24 (0, 0)) := by rw [hW1]; exact heap_new _ _
    obtain ⟨b0, b1, b2⟩ := cells_of hbW
    have hoW : Oth y.pb w1 W1 := by rw [hW1]; exact (Oth.refl _ _).alloc _
    go_wp2_with fail
    rw [← hW1]
    clear hW1
    go_still_tail 6, (by kernel_rfl)
    change wpList _ _ _ _ _ W1.drew
    have hp3 : PS W1.drew y q1 := hp2.drewN (n := 1)
    have hoW3 : Oth y.pb w1 W1.drew := hoW.drew
    have hszd : W1.drew.heap.size = W1.heap.size := rfl
    generalize W1.drew = W2 at hp3 hoW3 hszd ⊢
    have HSZD := Lib.hid hszd
    clear hszd
    go_wp2_with fail
    refine (follow_bin y q1 W2 p.1 a cap hq1 hs hp3 (SP W.heap.size) (fun _ _ => sp_ne (by have := h2.lt; omega)) (hsl1.oth (fun _ _ => sp_ne (by have := h2.lt; omega)) hoW3) Fi (fun q4 w4 h4 h5 h6 => HFI.out q4 w4 h4 h5 (by
      rw [h6, HT1.out]
      have h7 := pk_len p.2
      have h8 : ((pk p.2).drop 1).length ≤ (pk p.2).length := by simp
      omega))).mono ?_
    rw [HT1.out]
    have how2 : Oth y.pb w W2 := how1.trans hoW3
    have hres2 := hst.out _ _ hp1.lt hoW3 hres1
    refine fun e w3 he => ?_
    obtain ⟨m2, hm20⟩ : ∃ m2, m2 = binM Fi p.2 p.1 := ⟨_, rfl⟩
    rw [← hm20] at he
    have HM2 := Lib.hid hm20
    clear hm20
    rcases (show m2 = none ∨ ∃ p, m2 = some p by cases m2 <;> simp) with hm1 | ⟨p2, hm1⟩
    · rw [hm1] at he
      obtain ⟨rfl, ho⟩ := he
      exact ⟨rfl, by rw [HR1.out, HR2.out, ← HM2.out, hm1]; exact ⟨rfl, how2.trans ho⟩⟩
    · rw [hm1] at he
      have HM1 := Lib.hid hm1
      clear hm1
      obtain ⟨a', cap', q3, rfl, hsl3, hq3, ht3, hp4, ho3⟩ := he
      have HT3 := Lib.hid ht3
      clear ht3
      have hres3 := hst.out _ _ hp3.lt ho3 hres2
      obtain ⟨v0, v1, v2⟩ := cells_of hres3
      have vz := fun o => frozen_of (o := o) hres3
      have hw := store3 (x0 := .int .i64 p2.1.k) (x1 := .int .i64 p2.1.n) (x2 := .slice a' p2.1.t.len cap') hres3 rfl
      obtain ⟨d0, d1, d2⟩ := cells_of hw
      have hof := store3_oth (b := w.heap.size) (x0 := .int .i64 p2.1.k) (x1 := .int .i64 p2.1.n) (x2 := .slice a' p2.1.t.len cap') (how2.trans ho3) (by omega)
      have hpf := h.oth hof ((store3_far (by omega)).trans hp4.hp)
      clear hw
      have hsw : W.heap.size ≤ W2.heap.size := by have := hoW3.size; omega
      go_wp2_with fail
      refine bodyPost_ret (v := F.val p2.1 a' cap') (by simp [results, Tryd.results35, go_sem, d0, d1, d2]) rfl ?_
      rw [HR1.out, HR2.out, ← HM2.out, HM1.out]
      have hS : ∀ b o, (SP W.heap.size b o ∨ SP W2.heap.size b o) → SP W.heap.size b o := fun b o h => h.elim id (sp_le hsw)
      exact ⟨a', cap', q3, rfl, ((hsl3.weaken hS).store3 (fun b o h => by have := h.1; have := HSZ.out; omega)).weaken (fun _ _ => sp_le (by have := HSZ.out; omega)), hq3, HT3.out, hpf, hof⟩


def inBrM (E : List UInt8 → Option (F × List UInt8)) (l : List UInt8) : Option (F × List UInt8) :=
  match E l with
  | none => none
  | some (f, r) => if hdc (pk r) = 41 then some (f, (pk r).drop 1) else none

set_option maxRecDepth 100000 in
set_option maxHeartbeats 1600000 in
theorem inBr_any (y : Lay) (q : Nat) (w : World) (E : List UInt8 → Option (F × List UInt8)) (hs : y.s.size ≤ 50000) (h : PS w y q)
    (hfi : ∀ w1, PS w1 y q → Calls Tryd.prog 35 #[y.ptr] w1 (FunPost y (SP w1.heap.size) w1 (E (y.txt q)))) :
    Calls Tryd.prog 48 #[y.ptr] w (FunPost y (SP w.heap.size) w (inBrM E (y.txt q))) := by
  have HFI := Lib.hid hfi
  clear hfi
  have hlt := h.lt
  have h2 := h.below ((Below.refl _ _).alloc (Nat.le_refl _) (.cells #[.int .i64 0, .int .i64 0, .slice none 0 0] 24))
  obtain ⟨W, hW⟩ : ∃ W, W = w.alloc (.cells #[.int .i64 0, .int .i64 0, .slice none 0 0] 24) := ⟨_, rfl⟩
  have hres : HdRes w.heap.size W := by rw [hW]; exact heap_new _ _
  have how : Oth y.pb w W := by rw [hW]; exact (Oth.refl _ _).alloc _
  have hsz : W.heap.size = w.heap.size + 1 := by rw [hW]; simp
  have HSZ := Lib.hid hsz
  clear hsz
  rw [← hW] at h2
  have hst := Lib.hid (stays_hdRes y w.heap.size hlt)
  obtain ⟨R, hR1⟩ : ∃ R, R = FunPost y (SP w.heap.size) w (inBrM E (y.txt q)) := ⟨_, rfl⟩
  rw [← hR1]
  have HR1 := Lib.hid hR1
  clear hR1
  go_enter Tryd.func48, Tryd.ntmps48
  go_wp2_with fail
  rw [← hW]
  clear hW
  refine (HFI.out W h2).mono ?_
  obtain ⟨m, hm0⟩ : ∃ m, m = E (y.txt q) := ⟨_, rfl⟩
  rw [← hm0]
  have HM0 := Lib.hid hm0
  clear hm0
  refine fun e w1 he => ?_
  rcases (show m = none ∨ ∃ p, m = some p by cases m <;> simp) with hm1 | ⟨p, hm1⟩
  · rw [hm1] at he
    obtain ⟨rfl, ho⟩ := he
    have hR2 : inBrM E (y.txt q) = none := by unfold inBrM; rw [← HM0.out, hm1]
    exact ⟨rfl, by rw [HR1.out, hR2]; exact ⟨rfl, how.trans ho⟩⟩
  · rw [hm1] at he
    have hR2 : inBrM E (y.txt q) = if hdc (pk p.2) = 41 then some (p.1, (pk p.2).drop 1) else none := by unfold inBrM; rw [← HM0.out, hm1]
    have HR2 := Lib.hid hR2
    clear hm1 hR2
    obtain ⟨a, cap, q1, rfl, hsl1, hq1, ht1, hp1, ho1⟩ := he
    have HT1 := Lib.hid ht1
    clear ht1
    have hres1 := hst.out _ _ h2.lt ho1 hres
    have how1 := how.trans ho1
    have hsz1 := ho1.size
    have hp2 := hp1.below ((Below.refl _ _).alloc (Nat.le_refl _) (.cells #[.int .i64 p.1.k, .int .i64 p.1.n, .slice a p.1.t.len cap] 24))
    obtain ⟨W1, hW1⟩ : ∃ W1, W1 = w1.alloc (.cells #[.int .i64 p.1.k, .int .i64 p.1.n, .slice a p.1.t.len cap] 24) := ⟨_, rfl⟩
    rw [← hW1] at hp2
    have hbW : W1.heap[w1.heap.size]? = some (.cells #[.int .i64 p.1.k, .int .i64 p.1.n, .slice a p.1.t.len cap] 24 (0, 0)) := by rw [hW1]; exact heap_new _ _
    have hoW : Oth y.pb w1 W1 := by rw [hW1]; exact (Oth.refl _ _).alloc _
    have hpw1 := hp1.lt
    go_wp2_with fail
    rw [← hW1]
    clear hW1
    by_cases hc : hdc (pk p.2) = 41
    · have HC := Lib.hid hc
      clear hc
      refine (take_ok y q1 41 W1 hq1 hs hp2 (by rw [HT1.out]; exact HC.out)).mono ?_
      rintro e w2 ⟨rfl, ⟨q2, hq2, ht2, hp3⟩, ho2⟩
      have ht3 : y.txt (q2 + 1) = (pk p.2).drop 1 := by rw [txt_succ, ht2, HT1.out]
      have hq3 : q2 + 1 ≤ y.s.size := txt_lt_of hq2 (by rw [ht2, HT1.out, HC.out]; decide)
      have HT3 := Lib.hid ht3
      clear ht2 ht3
      have hoX := (how1.trans hoW).trans ho2
      have hb2 : w2.heap[w1.heap.size]? = some (.cells #[.int .i64 p.1.k, .int .i64 p.1.n, .slice a p.1.t.len cap] 24 (0, 0)) := by
        rw [ho2.block _ (heap_lt hbW) (by omega)]; exact hbW
      obtain ⟨b0, b1, b2⟩ := cells_of hb2
      have hres3 := hst.out _ _ hp2.lt ho2 (hst.out _ _ hp1.lt hoW hres1)
      obtain ⟨v0, v1, v2⟩ := cells_of hres3
      have vz := fun o => frozen_of (o := o) hres3
      have hw := store3 (x0 := .int .i64 p.1.k) (x1 := .int .i64 p.1.n) (x2 := .slice a p.1.t.len cap) hres3 rfl
      obtain ⟨d0, d1, d2⟩ := cells_of hw
      have hof := store3_oth (b := w.heap.size) (x0 := .int .i64 p.1.k) (x1 := .int .i64 p.1.n) (x2 := .slice a p.1.t.len cap) hoX (by omega)
      have hpf := h.oth hof ((store3_far (by omega)).trans hp3.hp)
      clear hw
      go_wp2_with fail
      refine bodyPost_ret (v := F.val p.1 a cap) (by simp [results, Tryd.results48, go_sem, d0, d1, d2]) rfl ?_
      rw [HR1.out, HR2.out, if_pos HC.out]
      exact ⟨a, cap, q2 + 1, rfl, ((hsl1.oth (fun _ _ => sp_ne (by have := h2.lt; omega)) (hoW.trans ho2)).store3 (fun b o h => by have := h.1; have := HSZ.out; omega)).weaken (fun _ _ => sp_le (by have := HSZ.out; omega)), hq3, HT3.out, hpf, hof⟩
    · have HC := Lib.hid hc
      clear hc
      refine (take_no y q1 41 W1 hq1 hs hp2 (by rw [HT1.out]; exact HC.out)).mono ?_
      rintro e w2 ⟨rfl, ho2⟩
      go_wp2_with fail
      exact ⟨rfl, by rw [HR1.out, HR2.out, if_neg HC.out]; exact ⟨rfl, (how1.trans hoW).trans ho2⟩⟩
end Go.Proofs.YtioimhnebjiicaaDoor
