/-
  Proved here: a step towards the statements of chapter 1 (functors): what one of its functions does at each input.
-/
import Derived.Test.YtioimhnebjiicaaDoorParJ
import Derived.Deep.RegionHeld3
namespace Go.Proofs.YtioimhnebjiicaaDoor
open Go.RowKit

set_option maxHeartbeats 400000 in
theorem xfun_any (w : World) : Calls Tryd.prog 52 #[] w fun e w' => e = .returned (F.val ⟨0, 0, .nil⟩ none 0) ∧ Below w.heap.size w w' := by
  go_enter Tryd.func52, Tryd.ntmps52
  go_wp2_with fail
  refine bodyPost_ret (v := F.val ⟨0, 0, .nil⟩ none 0) (by simp [results, Tryd.results52, go_sem, T.len]) rfl ⟨rfl, ?_⟩
  exact (Below.refl _ _).alloc (Nat.le_refl _) _

structure PeekAt (y : Lay) (q : Nat) (c : Int) (w : World) (e : Ending) (w' : World) : Prop where
  e : e = .returned (.int .u8 c)
  st : ∃ q', q' ≤ y.s.size ∧ y.txt q' = pk (y.txt q) ∧ PS w' y q'
  oth : Oth y.pb w w'
  size : w'.heap.size = w.heap.size
theorem peek_at (y : Lay) (q : Nat) (c : Int) (w : World) (hq : q ≤ y.s.size) (hs : y.s.size ≤ 50000) (h : PS w y q) (hc : hdc (pk (y.txt q)) = c) :
    Calls Tryd.prog 56 #[y.ptr] w (PeekAt y q c w) :=
  (peek_any y q w hq hs h).mono fun _ _ he => ⟨by rw [← hc]; exact he.e, he.st, he.oth, he.size⟩

theorem pk_pk (l : List UInt8) : pk (pk l) = pk l := by
  induction l with
  | nil => rfl
  | cons c r ih =>
    by_cases h : c = 32
    · simp only [pk, h, if_true]; exact ih
    · simp [pk, h]
theorem pk_len (l : List UInt8) : (pk l).length ≤ l.length := by
  induction l with
  | nil => simp [pk]
  | cons c r ih =>
    by_cases h : c = 32
    · simp only [pk, h, if_true, List.length_cons]; omega
    · simp [pk, h]
theorem num_pk (l : List UInt8) : num (pk l) = num l := by simp [num, pk_pk]
theorem drop_len {l : List UInt8} (h : hdc (pk l) ≠ 32) : ((pk l).drop 1).length < l.length := by
  have h1 := pk_len l
  cases hp : pk l with
  | nil => rw [hp] at h; exact absurd rfl h
  | cons c r => rw [hp] at h1; simp at h1 ⊢; omega

def firstM (I : List UInt8 → Option (F × List UInt8)) (l : List UInt8) : Option (F × List UInt8) :=
  if hdc (pk l) = 88 then some (⟨0, 0, .nil⟩, (pk l).drop 1)
  else if hdc (pk l) = 40 then I ((pk l).drop 1)
  else if hdc (pk l) = 80 ∨ hdc (pk l) = 66 ∨ hdc (pk l) = 68 then
    (if hdc (pk ((pk l).drop 1)) = 40 then oneR (kindOf (hdc (pk l))) (I ((pk ((pk l).drop 1)).drop 1)) else none)
  else match num l with
    | none => none
    | some (v, r) => some (⟨1, v, .nil⟩, r)

set_option maxRecDepth 100000 in
set_option maxHeartbeats 1600000 in
theorem first_x (y : Lay) (q : Nat) (w : World) (I : List UInt8 → Option (F × List UInt8)) (hq : q ≤ y.s.size) (hs : y.s.size ≤ 50000) (h : PS w y q)
    (hbr : ∀ q1 w1, q1 ≤ y.s.size → PS w1 y q1 → (y.txt q1).length < (y.txt q).length → Calls Tryd.prog 48 #[y.ptr] w1 (FunPost y (SP w1.heap.size) w1 (I (y.txt q1)))) (hc : hdc (pk (y.txt q)) = 88) :
    Calls Tryd.prog 69 #[y.ptr] w (FunPost y (SP w.heap.size) w (firstM I (y.txt q))) := by
  have HBR := Lib.hid hbr
  clear hbr
  have hlt := h.lt
  have h2 := h.below ((Below.refl _ _).alloc (Nat.le_refl _) (.cells #[.int .i64 0, .int .i64 0, .slice none 0 0] 24))
  obtain ⟨W, hW⟩ : ∃ W, W = w.alloc (.cells #[.int .i64 0, .int .i64 0, .slice none 0 0] 24) := ⟨_, rfl⟩
  have hres : HdRes w.heap.size W := by rw [hW]; exact heap_new _ _
  have how : Oth y.pb w W := by rw [hW]; exact (Oth.refl _ _).alloc _
  have hsz : W.heap.size = w.heap.size + 1 := by rw [hW]; simp
  have HSZ := Lib.hid hsz
  clear hsz
  rw [← hW] at h2
  have g0 := h2.c2
  have hst := Lib.hid (stays_hdRes y w.heap.size hlt)
  have HC := Lib.hid hc
  clear hc
  obtain ⟨R, hR1⟩ : ∃ R, R = FunPost y (SP w.heap.size) w (firstM I (y.txt q)) := ⟨_, rfl⟩
  rw [← hR1]
  have HR1 := Lib.hid hR1
  clear hR1
  go_enter Tryd.func69, Tryd.ntmps69
  go_wp2_with fail
  rw [← hW]
  clear hW
  go_region_held3 (fun u : World => u.cell? ⟨y.pb, 2, none⟩ = some (.map (some y.m1))) (first | assumption | exact g0) (first | (go_at_call 56; refine (peek_at y q 88 _ hq hs (h2.drewN (n := 1)) HC.out).mono ?_; rintro e w1 ⟨rfl, ⟨q1, hq1, ht1, hp1⟩, ho1, hsz1⟩; have g2 := hp1.c2; obtain ⟨es, clk, hm, ht⟩ := hp1.t1; have hlk := run_look (c := 88) Tryd.underlying68 Tryd.underlying5 (zero54 w1) hm ht.keys; rw [ht.x] at hlk; simp only [Option.getD_some, Option.isSome_some] at hlk; have HT := Lib.hid ht1; have HM := Lib.hid hm; have HS1 := Lib.hid hsz1; clear ht1 hm hsz1))
  have ho1' : Oth y.pb W w1 := ((Oth.refl y.pb W).drewN (n := 1)).trans ho1
  have hres1 := hst.out _ _ h2.lt ho1' hres
  have how1 := how.trans ho1'
  have hsz1 : w1.heap.size = w.heap.size + 1 := by rw [HS1.out]; exact HSZ.out
  have HS2 := Lib.hid hsz1
  clear hsz1
  clear hlk g2
  have g1 := hp1.c1
  have gf := hp1.f1
  obtain ⟨r0, r1, r2⟩ := cells_of hres1
  have rz := fun o => frozen_of (o := o) hres1
  have hq2 : q1 + 1 ≤ y.s.size := txt_lt_of hq1 (by rw [HT.out, HC.out]; decide)
  have ht2 : y.txt (q1 + 1) = (pk (y.txt q)).drop 1 := by rw [txt_succ, HT.out]
  have hlen : (y.txt (q1 + 1)).length < (y.txt q).length := by rw [ht2]; exact drop_len (by rw [HC.out]; decide)
  have HT2 := Lib.hid ht2
  have hp2 : PS (w1.setCell ⟨y.pb, 1, none⟩ (.int .i64 (q1 + 1 : Nat))) y (q1 + 1) := hp1.set
  have how2 : Oth y.pb w (w1.setCell ⟨y.pb, 1, none⟩ (.int .i64 (q1 + 1 : Nat))) := how1.set _ _
  have hs2 : (w1.setCell ⟨y.pb, 1, none⟩ (.int .i64 (q1 + 1 : Nat))).heap.size = w.heap.size + 1 := by rw [← HS2.out]; simp [World.setCell]
  have hres2 := hst.out _ _ hp1.lt ((Oth.refl y.pb w1).set 1 (.int .i64 (q1 + 1 : Nat))) hres1
  have HS3 := Lib.hid hs2
  clear ht2 hs2
  go_wp2_with fail
  refine (xfun_any _).mono fun e w3 he => ?_
  obtain ⟨rfl, hb3⟩ := he
  have ho3 := oth_of_below (pb := y.pb) hb3
  have hres3 := hst.out _ _ hp2.lt ho3 hres2
  obtain ⟨v0, v1, v2⟩ := cells_of hres3
  have vz := fun o => frozen_of (o := o) hres3
  have hw := store3 (x0 := .int .i64 0) (x1 := .int .i64 0) (x2 := .slice none 0 0) hres3 rfl
  obtain ⟨d0, d1, d2⟩ := cells_of hw
  have hof := store3_oth (b := w.heap.size) (x0 := .int .i64 0) (x1 := .int .i64 0) (x2 := .slice none 0 0) (how2.trans ho3) (by omega)
  have hpf := h.oth hof ((store3_far (by omega)).trans (hp2.below hb3).hp)
  clear hw
  go_wp2_with fail
  refine bodyPost_ret (v := F.val ⟨0, 0, .nil⟩ none 0) (by simp [results, Tryd.results69, go_sem, d0, d1, d2, T.len]) rfl ?_
  have hR : firstM I (y.txt q) = some (⟨0, 0, .nil⟩, (pk (y.txt q)).drop 1) := by unfold firstM; rw [if_pos HC.out]
  rw [HR1.out, hR]
  exact ⟨none, 0, q1 + 1, rfl, ⟨by simp [T.len], rfl⟩, hq2, HT2.out, hpf, hof⟩

set_option maxRecDepth 100000 in
set_option maxHeartbeats 1600000 in
theorem first_b (y : Lay) (q : Nat) (w : World) (I : List UInt8 → Option (F × List UInt8)) (hq : q ≤ y.s.size) (hs : y.s.size ≤ 50000) (h : PS w y q)
    (hbr : ∀ q1 w1, q1 ≤ y.s.size → PS w1 y q1 → (y.txt q1).length < (y.txt q).length → Calls Tryd.prog 48 #[y.ptr] w1 (FunPost y (SP w1.heap.size) w1 (I (y.txt q1)))) (hc : hdc (pk (y.txt q)) = 40) :
    Calls Tryd.prog 69 #[y.ptr] w (FunPost y (SP w.heap.size) w (firstM I (y.txt q))) := by
  have HBR := Lib.hid hbr
  clear hbr
  have hlt := h.lt
  have h2 := h.below ((Below.refl _ _).alloc (Nat.le_refl _) (.cells #[.int .i64 0, .int .i64 0, .slice none 0 0] 24))
  obtain ⟨W, hW⟩ : ∃ W, W = w.alloc (.cells #[.int .i64 0, .int .i64 0, .slice none 0 0] 24) := ⟨_, rfl⟩
  have hres : HdRes w.heap.size W := by rw [hW]; exact heap_new _ _
  have how : Oth y.pb w W := by rw [hW]; exact (Oth.refl _ _).alloc _
  have hsz : W.heap.size = w.heap.size + 1 := by rw [hW]; simp
  have HSZ := Lib.hid hsz
  clear hsz
  rw [← hW] at h2
  have g0 := h2.c2
  have hst := Lib.hid (stays_hdRes y w.heap.size hlt)
  have HC := Lib.hid hc
  clear hc
  obtain ⟨R, hR1⟩ : ∃ R, R = FunPost y (SP w.heap.size) w (firstM I (y.txt q)) := ⟨_, rfl⟩
  rw [← hR1]
  have HR1 := Lib.hid hR1
  clear hR1
  go_enter Tryd.func69, Tryd.ntmps69
  go_wp2_with fail
  rw [← hW]
  clear hW
  go_region_held3 (fun u : World => u.cell? ⟨y.pb, 2, none⟩ = some (.map (some y.m1))) (first | assumption | exact g0) (first | (go_at_call 56; refine (peek_at y q 40 _ hq hs (h2.drewN (n := 1)) HC.out).mono ?_; rintro e w1 ⟨rfl, ⟨q1, hq1, ht1, hp1⟩, ho1, hsz1⟩; have g2 := hp1.c2; obtain ⟨es, clk, hm, ht⟩ := hp1.t1; have hlk := run_look (c := 40) Tryd.underlying68 Tryd.underlying5 (zero54 w1) hm ht.keys; rw [ht.br] at hlk; simp only [Option.getD_some, Option.isSome_some] at hlk; have HT := Lib.hid ht1; have HM := Lib.hid hm; have HS1 := Lib.hid hsz1; clear ht1 hm hsz1))
  have ho1' : Oth y.pb W w1 := ((Oth.refl y.pb W).drewN (n := 1)).trans ho1
  have hres1 := hst.out _ _ h2.lt ho1' hres
  have how1 := how.trans ho1'
  have hsz1 : w1.heap.size = w.heap.size + 1 := by rw [HS1.out]; exact HSZ.out
  have HS2 := Lib.hid hsz1
  clear hsz1
  clear hlk g2
  have g1 := hp1.c1
  have gf := hp1.f1
  obtain ⟨r0, r1, r2⟩ := cells_of hres1
  have rz := fun o => frozen_of (o := o) hres1
  have hq2 : q1 + 1 ≤ y.s.size := txt_lt_of hq1 (by rw [HT.out, HC.out]; decide)
  have ht2 : y.txt (q1 + 1) = (pk (y.txt q)).drop 1 := by rw [txt_succ, HT.out]
  have hlen : (y.txt (q1 + 1)).length < (y.txt q).length := by rw [ht2]; exact drop_len (by rw [HC.out]; decide)
  have HT2 := Lib.hid ht2
  have hp2 : PS (w1.setCell ⟨y.pb, 1, none⟩ (.int .i64 (q1 + 1 : Nat))) y (q1 + 1) := hp1.set
  have how2 : Oth y.pb w (w1.setCell ⟨y.pb, 1, none⟩ (.int .i64 (q1 + 1 : Nat))) := how1.set _ _
  have hs2 : (w1.setCell ⟨y.pb, 1, none⟩ (.int .i64 (q1 + 1 : Nat))).heap.size = w.heap.size + 1 := by rw [← HS2.out]; simp [World.setCell]
  have hres2 := hst.out _ _ hp1.lt ((Oth.refl y.pb w1).set 1 (.int .i64 (q1 + 1 : Nat))) hres1
  have HS3 := Lib.hid hs2
  clear ht2 hs2
  go_wp2_with fail
  refine (HBR.out (q1 + 1) _ hq2 hp2 hlen).mono ?_
  rw [HT2.out]
  obtain ⟨m, hm0⟩ : ∃ m, m = I ((pk (y.txt q)).drop 1) := ⟨_, rfl⟩
  refine fun e w3 he => ?_
  rw [← hm0] at he
  have hR2 : firstM I (y.txt q) = m := by rw [hm0]; unfold firstM; rw [if_neg (by rw [HC.out]; decide), if_pos HC.out]
  have HR2 := Lib.hid hR2
  clear hm0 hR2
  rcases (show m = none ∨ ∃ p, m = some p by cases m <;> simp) with hm1 | ⟨p, hm1⟩
  · rw [hm1] at he
    obtain ⟨rfl, ho⟩ := he
    exact ⟨rfl, by rw [HR1.out, HR2.out, hm1]; exact ⟨rfl, how2.trans ho⟩⟩
  · rw [hm1] at he
    have HM1 := Lib.hid hm1
    clear hm1
    obtain ⟨a', cap', q3, rfl, hsl3, hq3, ht3, hp3, ho3⟩ := he
    have HT3 := Lib.hid ht3
    clear ht3
    have hres3 := hst.out _ _ hp2.lt ho3 hres2
    obtain ⟨v0, v1, v2⟩ := cells_of hres3
    have vz := fun o => frozen_of (o := o) hres3
    have hw := store3 (x0 := .int .i64 p.1.k) (x1 := .int .i64 p.1.n) (x2 := .slice a' p.1.t.len cap') hres3 rfl
    obtain ⟨d0, d1, d2⟩ := cells_of hw
    have hof := store3_oth (b := w.heap.size) (x0 := .int .i64 p.1.k) (x1 := .int .i64 p.1.n) (x2 := .slice a' p.1.t.len cap') (how2.trans ho3) (by omega)
    have hpf := h.oth hof ((store3_far (by omega)).trans hp3.hp)
    clear hw
    go_wp2_with fail
    refine bodyPost_ret (v := F.val p.1 a' cap') (by simp [results, Tryd.results69, go_sem, d0, d1, d2]) rfl ?_
    rw [HR1.out, HR2.out, HM1.out]
    rw [HS3.out] at hsl3
    exact ⟨a', cap', q3, rfl, (hsl3.store3 (fun b o h => by have := h.1; omega)).weaken (fun _ _ => sp_le (by omega)), hq3, HT3.out, hpf, hof⟩

set_option maxRecDepth 100000 in
set_option maxHeartbeats 1600000 in
theorem first_k (y : Lay) (q : Nat) (w : World) (I : List UInt8 → Option (F × List UInt8)) (hq : q ≤ y.s.size) (hs : y.s.size ≤ 50000) (h : PS w y q)
    (hbr : ∀ q1 w1, q1 ≤ y.s.size → PS w1 y q1 → (y.txt q1).length < (y.txt q).length → Calls Tryd.prog 48 #[y.ptr] w1 (FunPost y (SP w1.heap.size) w1 (I (y.txt q1)))) (hc : hdc (pk (y.txt q)) = 80 ∨ hdc (pk (y.txt q)) = 66 ∨ hdc (pk (y.txt q)) = 68) :
    Calls Tryd.prog 69 #[y.ptr] w (FunPost y (SP w.heap.size) w (firstM I (y.txt q))) := by
  have HBR := Lib.hid hbr
  clear hbr
  have hlt := h.lt
  have h2 := h.below ((Below.refl _ _).alloc (Nat.le_refl _) (.cells #[.int .i64 0, .int .i64 0, .slice none 0 0] 24))
  obtain ⟨W, hW⟩ : ∃ W, W = w.alloc (.cells #[.int .i64 0, .int .i64 0, .slice none 0 0] 24) := ⟨_, rfl⟩
  have hres : HdRes w.heap.size W := by rw [hW]; exact heap_new _ _
  have how : Oth y.pb w W := by rw [hW]; exact (Oth.refl _ _).alloc _
  have hsz : W.heap.size = w.heap.size + 1 := by rw [hW]; simp
  have HSZ := Lib.hid hsz
  clear hsz
  rw [← hW] at h2
  have g0 := h2.c2
  have hst := Lib.hid (stays_hdRes y w.heap.size hlt)
  obtain ⟨c, hc0⟩ : ∃ c, c = hdc (pk (y.txt q)) := ⟨_, rfl⟩
  rw [← hc0] at hc
  have HC := Lib.hid hc0.symm
  have HC2 := Lib.hid hc
  clear hc hc0
  obtain ⟨R, hR1⟩ : ∃ R, R = FunPost y (SP w.heap.size) w (firstM I (y.txt q)) := ⟨_, rfl⟩
  rw [← hR1]
  have HR1 := Lib.hid hR1
  clear hR1
  go_enter Tryd.func69, Tryd.ntmps69
  go_wp2_with fail
  rw [← hW]
  clear hW
  go_region_held3 (fun u : World => u.cell? ⟨y.pb, 2, none⟩ = some (.map (some y.m1))) (first | assumption | exact g0) (first | (go_at_call 56; refine (peek_at y q c _ hq hs (h2.drewN (n := 1)) HC.out).mono ?_; rintro e w1 ⟨rfl, ⟨q1, hq1, ht1, hp1⟩, ho1, hsz1⟩; have g2 := hp1.c2; obtain ⟨es, clk, hm, ht⟩ := hp1.t1; have hlk := run_look (c := c) Tryd.underlying68 Tryd.underlying5 (zero54 w1) hm ht.keys; obtain ⟨kb, hkl, hkc⟩ := ht.kinds c HC2.out; rw [hkl] at hlk; simp only [Option.getD_some, Option.isSome_some] at hlk; have HKC := Lib.hid hkc; clear hkc hkl; have HT := Lib.hid ht1; have HM := Lib.hid hm; have HS1 := Lib.hid hsz1; clear ht1 hm hsz1))
  have ho1' : Oth y.pb W w1 := ((Oth.refl y.pb W).drewN (n := 1)).trans ho1
  have hres1 := hst.out _ _ h2.lt ho1' hres
  have how1 := how.trans ho1'
  have hsz1 : w1.heap.size = w.heap.size + 1 := by rw [HS1.out]; exact HSZ.out
  have HS2 := Lib.hid hsz1
  clear hsz1
  clear hlk g2
  have g1 := hp1.c1
  have gf := hp1.f1
  obtain ⟨r0, r1, r2⟩ := cells_of hres1
  have rz := fun o => frozen_of (o := o) hres1
  have hq2 : q1 + 1 ≤ y.s.size := txt_lt_of hq1 (by rw [HT.out, HC.out]; (rcases HC2.out with e | e | e <;> rw [e] <;> decide))
  have ht2 : y.txt (q1 + 1) = (pk (y.txt q)).drop 1 := by rw [txt_succ, HT.out]
  have hlen : (y.txt (q1 + 1)).length < (y.txt q).length := by rw [ht2]; exact drop_len (by rw [HC.out]; (rcases HC2.out with e | e | e <;> rw [e] <;> decide))
  have HT2 := Lib.hid ht2
  have hp2 : PS (w1.setCell ⟨y.pb, 1, none⟩ (.int .i64 (q1 + 1 : Nat))) y (q1 + 1) := hp1.set
  have how2 : Oth y.pb w (w1.setCell ⟨y.pb, 1, none⟩ (.int .i64 (q1 + 1 : Nat))) := how1.set _ _
  have hs2 : (w1.setCell ⟨y.pb, 1, none⟩ (.int .i64 (q1 + 1 : Nat))).heap.size = w.heap.size + 1 := by rw [← HS2.out]; simp [World.setCell]
  have hres2 := hst.out _ _ hp1.lt ((Oth.refl y.pb w1).set 1 (.int .i64 (q1 + 1 : Nat))) hres1
  have HS3 := Lib.hid hs2
  clear ht2 hs2
  go_wp2_with fail
  refine (elem_any y (q1 + 1) _ (kindOf c) kb I hq2 hs hp2 (((Oth.refl y.pb w1).set 1 (.int .i64 (q1 + 1 : Nat))).cell (fun e => by have := HKC.out; rw [e, hp1.c0] at this; cases this) HKC.out) (fun q4 w4 h4 h5 h6 => HBR.out q4 w4 h4 h5 (by
    rw [h6]
    have h7 := pk_len (y.txt (q1 + 1))
    have h8 : ((pk (y.txt (q1 + 1))).drop 1).length ≤ (pk (y.txt (q1 + 1))).length := by simp
    omega))).mono ?_
  rw [HT2.out]
  obtain ⟨m, hm0⟩ : ∃ m, m = (if hdc (pk ((pk (y.txt q)).drop 1)) = 40 then oneR (kindOf c) (I ((pk ((pk (y.txt q)).drop 1)).drop 1)) else none) := ⟨_, rfl⟩
  refine fun e w3 he => ?_
  rw [← hm0] at he
  have hR2 : firstM I (y.txt q) = m := by rw [hm0]; unfold firstM; rw [if_neg (by rw [HC.out]; rcases HC2.out with e | e | e <;> rw [e] <;> decide), if_neg (by rw [HC.out]; rcases HC2.out with e | e | e <;> rw [e] <;> decide), if_pos (by rw [HC.out]; exact HC2.out), HC.out]
  have HR2 := Lib.hid hR2
  clear hm0 hR2
  rcases (show m = none ∨ ∃ p, m = some p by cases m <;> simp) with hm1 | ⟨p, hm1⟩
  · rw [hm1] at he
    obtain ⟨rfl, ho⟩ := he
    exact ⟨rfl, by rw [HR1.out, HR2.out, hm1]; exact ⟨rfl, how2.trans ho⟩⟩
  · rw [hm1] at he
    have HM1 := Lib.hid hm1
    clear hm1
    obtain ⟨a', cap', q3, rfl, hsl3, hq3, ht3, hp3, ho3⟩ := he
    have HT3 := Lib.hid ht3
    clear ht3
    have hres3 := hst.out _ _ hp2.lt ho3 hres2
    obtain ⟨v0, v1, v2⟩ := cells_of hres3
    have vz := fun o => frozen_of (o := o) hres3
    have hw := store3 (x0 := .int .i64 p.1.k) (x1 := .int .i64 p.1.n) (x2 := .slice a' p.1.t.len cap') hres3 rfl
    obtain ⟨d0, d1, d2⟩ := cells_of hw
    have hof := store3_oth (b := w.heap.size) (x0 := .int .i64 p.1.k) (x1 := .int .i64 p.1.n) (x2 := .slice a' p.1.t.len cap') (how2.trans ho3) (by omega)
    have hpf := h.oth hof ((store3_far (by omega)).trans hp3.hp)
    clear hw
    go_wp2_with fail
    refine bodyPost_ret (v := F.val p.1 a' cap') (by simp [results, Tryd.results69, go_sem, d0, d1, d2]) rfl ?_
    rw [HR1.out, HR2.out, HM1.out]
    rw [HS3.out] at hsl3
    exact ⟨a', cap', q3, rfl, (hsl3.store3 (fun b o h => by have := h.1; omega)).weaken (fun _ _ => sp_le (by omega)), hq3, HT3.out, hpf, hof⟩

set_option maxRecDepth 100000 in
set_option maxHeartbeats 1600000 in
theorem first_n (y : Lay) (q : Nat) (w : World) (I : List UInt8 → Option (F × List UInt8)) (hq : q ≤ y.s.size) (hs : y.s.size ≤ 50000) (h : PS w y q)
    (hbr : ∀ q1 w1, q1 ≤ y.s.size → PS w1 y q1 → (y.txt q1).length < (y.txt q).length → Calls Tryd.prog 48 #[y.ptr] w1 (FunPost y (SP w1.heap.size) w1 (I (y.txt q1)))) (h88 : hdc (pk (y.txt q)) ≠ 88) (h40 : hdc (pk (y.txt q)) ≠ 40) (h80 : hdc (pk (y.txt q)) ≠ 80) (h66 : hdc (pk (y.txt q)) ≠ 66) (h68 : hdc (pk (y.txt q)) ≠ 68) :
    Calls Tryd.prog 69 #[y.ptr] w (FunPost y (SP w.heap.size) w (firstM I (y.txt q))) := by
  have HBR := Lib.hid hbr
  clear hbr
  have hlt := h.lt
  have h2 := h.below ((Below.refl _ _).alloc (Nat.le_refl _) (.cells #[.int .i64 0, .int .i64 0, .slice none 0 0] 24))
  obtain ⟨W, hW⟩ : ∃ W, W = w.alloc (.cells #[.int .i64 0, .int .i64 0, .slice none 0 0] 24) := ⟨_, rfl⟩
  have hres : HdRes w.heap.size W := by rw [hW]; exact heap_new _ _
  have how : Oth y.pb w W := by rw [hW]; exact (Oth.refl _ _).alloc _
  have hsz : W.heap.size = w.heap.size + 1 := by rw [hW]; simp
  have HSZ := Lib.hid hsz
  clear hsz
  rw [← hW] at h2
  have g0 := h2.c2
  have hst := Lib.hid (stays_hdRes y w.heap.size hlt)
  have hR2 : firstM I (y.txt q) = match num (y.txt q) with | none => none | some (v, r) => some (⟨1, v, .nil⟩, r) := by
    unfold firstM
    rw [if_neg h88, if_neg h40, if_neg (fun e => e.elim h80 (fun e => e.elim h66 h68))]
  have HR2 := Lib.hid hR2
  clear hR2
  obtain ⟨c, hc0⟩ : ∃ c, c = hdc (pk (y.txt q)) := ⟨_, rfl⟩
  rw [← hc0] at h88 h40 h80 h66 h68
  have HN := Lib.hid (show c ≠ 88 ∧ c ≠ 40 ∧ c ≠ 80 ∧ c ≠ 66 ∧ c ≠ 68 from ⟨h88, h40, h80, h66, h68⟩)
  have HC := Lib.hid hc0.symm
  clear hc0 h88 h40 h80 h66 h68
  obtain ⟨R, hR1⟩ : ∃ R, R = FunPost y (SP w.heap.size) w (firstM I (y.txt q)) := ⟨_, rfl⟩
  rw [← hR1]
  have HR1 := Lib.hid hR1
  clear hR1
  go_enter Tryd.func69, Tryd.ntmps69
  go_wp2_with fail
  rw [← hW]
  clear hW
  go_region_held3 (fun u : World => u.cell? ⟨y.pb, 2, none⟩ = some (.map (some y.m1))) (first | assumption | exact g0) (first | (go_at_call 56; refine (peek_at y q c _ hq hs (h2.drewN (n := 1)) HC.out).mono ?_; rintro e w1 ⟨rfl, ⟨q1, hq1, ht1, hp1⟩, ho1, hsz1⟩; have g2 := hp1.c2; obtain ⟨es, clk, hm, ht⟩ := hp1.t1; have hlk := run_look (c := c) Tryd.underlying68 Tryd.underlying5 (zero54 w1) hm ht.keys; rw [ht.others c HN.out.1 HN.out.2.1 HN.out.2.2.1 HN.out.2.2.2.1 HN.out.2.2.2.2] at hlk; simp only [Option.getD_none, Option.isSome_none] at hlk; have HT := Lib.hid ht1; have HM := Lib.hid hm; have HS1 := Lib.hid hsz1; clear ht1 hm hsz1))
  have ho1' : Oth y.pb W w1 := ((Oth.refl y.pb W).drewN (n := 1)).trans ho1
  have hres1 := hst.out _ _ h2.lt ho1' hres
  have how1 := how.trans ho1'
  have hsz1 : w1.heap.size = w.heap.size + 1 := by rw [HS1.out]; exact HSZ.out
  have HS2 := Lib.hid hsz1
  clear hsz1
  clear hlk g2
  have g1 := hp1.c1
  have gf := hp1.f1
  obtain ⟨r0, r1, r2⟩ := cells_of hres1
  have rz := fun o => frozen_of (o := o) hres1
  go_wp2_with fail
  refine (number_any y q1 w1 hq1 hs hp1).mono ?_
  rw [HT.out, num_pk]
  refine fun e w3 he => ?_
  obtain ⟨m, hm0⟩ : ∃ m, m = num (y.txt q) := ⟨_, rfl⟩
  rw [← hm0] at he
  have HM0 := Lib.hid hm0
  clear hm0
  rcases (show m = none ∨ ∃ p, m = some p by cases m <;> simp) with hm1 | ⟨p, hm1⟩
  · rw [hm1] at he
    obtain ⟨rfl, ho⟩ := he
    exact ⟨rfl, by rw [HR1.out, HR2.out, ← HM0.out, hm1]; exact ⟨rfl, how1.trans ho⟩⟩
  · rw [hm1] at he
    have HM1 := Lib.hid hm1
    clear hm1
    obtain ⟨rfl, ho3, q3, hq3, ht3, hp3⟩ := he
    have HT3 := Lib.hid ht3
    clear ht3
    have hres3 := hst.out _ _ hp1.lt ho3 hres1
    obtain ⟨v0, v1, v2⟩ := cells_of hres3
    have vz := fun o => frozen_of (o := o) hres3
    have hw := store3 (x0 := .int .i64 1) (x1 := .int .i64 p.1) (x2 := .slice none 0 0) hres3 rfl
    obtain ⟨d0, d1, d2⟩ := cells_of hw
    have hof := store3_oth (b := w.heap.size) (x0 := .int .i64 1) (x1 := .int .i64 p.1) (x2 := .slice none 0 0) (how1.trans ho3) (by omega)
    have hpf := h.oth hof ((store3_far (by omega)).trans hp3.hp)
    clear hw
    go_wp2_with fail
    refine bodyPost_ret (v := F.val ⟨1, p.1, .nil⟩ none 0) (by simp [results, Tryd.results69, go_sem, d0, d1, d2, T.len]) rfl ?_
    rw [HR1.out, HR2.out, ← HM0.out, HM1.out]
    exact ⟨none, 0, q3, rfl, ⟨by simp [T.len], rfl⟩, hq3, HT3.out, hpf, hof⟩

theorem first_any (y : Lay) (q : Nat) (w : World) (I : List UInt8 → Option (F × List UInt8)) (hq : q ≤ y.s.size) (hs : y.s.size ≤ 50000) (h : PS w y q)
    (hbr : ∀ q1 w1, q1 ≤ y.s.size → PS w1 y q1 → (y.txt q1).length < (y.txt q).length → Calls Tryd.prog 48 #[y.ptr] w1 (FunPost y (SP w1.heap.size) w1 (I (y.txt q1)))) :
    Calls Tryd.prog 69 #[y.ptr] w (FunPost y (SP w.heap.size) w (firstM I (y.txt q))) := by
  by_cases h88 : hdc (pk (y.txt q)) = 88
  · exact first_x y q w I hq hs h hbr h88
  by_cases h40 : hdc (pk (y.txt q)) = 40
  · exact first_b y q w I hq hs h hbr h40
  by_cases hk : hdc (pk (y.txt q)) = 80 ∨ hdc (pk (y.txt q)) = 66 ∨ hdc (pk (y.txt q)) = 68
  · exact first_k y q w I hq hs h hbr hk
  · exact first_n y q w I hq hs h hbr h88 h40 (fun e => hk (Or.inl e)) (fun e => hk (Or.inr (Or.inl e))) (fun e => hk (Or.inr (Or.inr e)))
end Go.Proofs.YtioimhnebjiicaaDoor
