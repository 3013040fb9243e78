/-
  Proved here: a step towards the statements of chapter 1 (functors): what one of its functions does at each input.
-/
import Derived.Test.YtioimhnebjiicaaDoorParI
namespace Go.Proofs.YtioimhnebjiicaaDoor
open Go.RowKit

def powM (l : List UInt8) (f : F) : Option (F × List UInt8) := if hdc (pk l) = 94 then powR (num ((pk l).drop 1)) f else some (f, pk l)
def binM (O : List UInt8 → Option (F × List UInt8)) (l : List UInt8) (f : F) : Option (F × List UInt8) :=
  if hdc (pk l) = 42 ∨ hdc (pk l) = 43 then twoR (kind2Of (hdc (pk l))) f (O ((pk l).drop 1)) else some (f, pk l)

theorem zero34 (w : World) : (zeroValue 34).run Tryd.prog w = .ok .nilFunc w := by kernel_rfl
theorem zero54 (w : World) : (zeroValue 54).run Tryd.prog w = .ok .nilFunc w := by kernel_rfl

theorem txt_succ (y : Lay) (q : Nat) : y.txt (q + 1) = (y.txt q).drop 1 := by simp [Lay.txt]
theorem txt_lt_of {y : Lay} {q : Nat} (hq : q ≤ y.s.size) (h : hdc (y.txt q) ≠ 32) : q + 1 ≤ y.s.size := by
  by_cases hlt : q < y.s.size
  · omega
  · rw [show q = y.s.size by omega, txt_end] at h
    exact absurd rfl h

set_option maxRecDepth 100000 in
set_option maxHeartbeats 800000 in
theorem follow_pow (y : Lay) (q : Nat) (w : World) (f : F) (a : Option Addr) (cap : Nat) (hq : q ≤ y.s.size) (hs : y.s.size ≤ 50000) (h : PS w y q) (S : Nat → Nat → Prop) (hS : ∀ b o, S b o → b ≠ y.pb) (hsl : Sl S w a f.t) :
    Calls Tryd.prog 55 #[y.ptr, .map (some y.m2), f.val a cap] w (FunPost y (fun b o => S b o ∨ SP w.heap.size b o) w (powM (y.txt q) f)) := by
  have hlt := h.lt
  have h2 := h.below (((Below.refl _ _).alloc (Nat.le_refl _) (.cells #[.int .i64 f.k, .int .i64 f.n, .slice a f.t.len cap] 24)).alloc (by simp) (.cells #[.int .i64 0, .int .i64 0, .slice none 0 0] 24))
  have hbx' : HdBox w.heap.size f a cap ((w.alloc (.cells #[.int .i64 f.k, .int .i64 f.n, .slice a f.t.len cap] 24)).alloc (.cells #[.int .i64 0, .int .i64 0, .slice none 0 0] 24)) := hdBox_mk w f a cap
  have hst := Lib.hid (stays_hdBox y w.heap.size f a cap hlt)
  obtain ⟨R, hR1⟩ : ∃ R, R = FunPost y (fun b o => S b o ∨ SP w.heap.size b o) w (powM (y.txt q) f) := ⟨_, rfl⟩
  rw [← hR1]
  have HR1 := Lib.hid hR1
  clear hR1
  go_enter Tryd.func55, Tryd.ntmps55
  go_wp2_with fail
  refine (peek_any y q _ hq hs h2).mono ?_
  rintro e w1 ⟨rfl, ⟨q1, hq1, ht1, hp1⟩, ho1, hsz1⟩
  have hbx1 := hst.out _ _ (by simp; omega) ho1 hbx'
  clear hbx'
  have how : Oth y.pb w w1 := (((Oth.refl _ _).alloc _).alloc _).trans ho1
  obtain ⟨es, clk, hm, ht⟩ := hp1.t2
  have hlk := run_look (c := hdc (pk (y.txt q))) Tryd.underlying69 Tryd.underlying5 (zero34 w1) hm ht.keys
  have HT := Lib.hid ht1
  have HM := Lib.hid hm
  have hsz2 : w1.heap.size = w.heap.size + 2 := by rw [hsz1]; simp
  have HSZ := Lib.hid hsz2
  clear ht1 hsz1 hm hsz2
  obtain ⟨b0, b1, b2⟩ := cells_of hbx1.1
  obtain ⟨r0, r1, r2⟩ := cells_of hbx1.2
  have rz := fun o => frozen_of (o := o) hbx1.2
  have g1 := hp1.c1
  have gf := hp1.f1
  by_cases hc : hdc (pk (y.txt q)) = 94
  · have hq2 : q1 + 1 ≤ y.s.size := txt_lt_of hq1 (by rw [HT.out]; rw [hc]; decide)
    have ht2 : y.txt (q1 + 1) = (pk (y.txt q)).drop 1 := by rw [txt_succ, HT.out]
    have HT2 := Lib.hid ht2
    have HC := Lib.hid hc
    clear ht2
    rw [hc, ht.pow] at hlk
    rw [hc]
    simp only [Option.getD_some, Option.isSome_some] at hlk
    have HLK := Lib.hid hlk
    clear hlk hc
    have hlk := HLK.out
    go_wp2_with fail
    refine (pow_any y (q1 + 1) _ f a cap hq2 hs hp1.set _ (fun b o h => hS b o h.1) (hsl.lt.oth (fun b o h => hS b o h.1) (how.set _ _))).mono ?_
    have how2 : Oth y.pb w (w1.setCell ⟨y.pb, 1, none⟩ (.int .i64 (q1 + 1 : Nat))) := how.set _ _
    rw [HT2.out]
    refine fun e w3 he => ?_
    obtain ⟨m, hm0⟩ : ∃ m, m = powR (num ((pk (y.txt q)).drop 1)) f := ⟨_, rfl⟩
    rw [← hm0] at he
    have hR2 : powM (y.txt q) f = m := by rw [hm0]; unfold powM; rw [if_pos HC.out]
    have HR2 := Lib.hid hR2
    clear hm0 hR2
    rcases (show m = none ∨ ∃ p, m = some p by cases m <;> simp) with hm1 | ⟨p, hm1⟩
    · rw [hm1] at he
      obtain ⟨rfl, ho⟩ := he
      exact ⟨rfl, by rw [HR1.out, HR2.out, hm1]; exact ⟨rfl, how2.trans ho⟩⟩
    · rw [hm1] at he
      have HM1 := Lib.hid hm1
      clear hm1
      obtain ⟨a', cap', q3, rfl, hsl3, hq3, ht3, hp3, ho3⟩ := he
      have HT3 := Lib.hid ht3
      clear ht3
      have hlt1 : y.pb < w1.heap.size := by have := how.size; omega
      have hbx3 := hst.out _ _ (by simpa [World.setCell] using hlt1) ho3 (hst.out _ _ hlt1 ((Oth.refl y.pb w1).set 1 (.int .i64 (q1 + 1 : Nat))) hbx1)
      obtain ⟨v0, v1, v2⟩ := cells_of hbx3.2
      have vz := fun o => frozen_of (o := o) hbx3.2
      have hw := store3 (x0 := .int .i64 p.1.k) (x1 := .int .i64 p.1.n) (x2 := .slice a' p.1.t.len cap') hbx3.2 rfl
      obtain ⟨d0, d1, d2⟩ := cells_of hw
      have hof := store3_oth (b := w.heap.size + 1) (x0 := .int .i64 p.1.k) (x1 := .int .i64 p.1.n) (x2 := .slice a' p.1.t.len cap') (how2.trans ho3) (by omega)
      have hpf := h.oth hof ((store3_far (by omega)).trans hp3.hp)
      clear hw
      go_wp2_with fail
      refine bodyPost_ret (v := F.val p.1 a' cap') (by simp [results, Tryd.results55, go_sem, d0, d1, d2]) rfl ?_
      rw [HR1.out, HR2.out, HM1.out]
      have hs2 : (w1.setCell ⟨y.pb, 1, none⟩ (.int .i64 (q1 + 1 : Nat))).heap.size = w.heap.size + 2 := by rw [← HSZ.out]; simp [World.setCell]
      rw [hs2] at hsl3
      exact ⟨a', cap', q3, rfl, (hsl3.store3 (fun b o h => by rcases h with h | h <;> have := h.1 <;> have := h.2 <;> omega)).weaken (fun b o h => h.imp (fun h => h.1) (sp_le (by omega))), hq3, HT3.out, hpf, hof⟩
  · have HC := Lib.hid hc
    rw [ht.others _ hc] at hlk
    simp only [Option.getD_none, Option.isSome_none] at hlk
    clear hc
    have hw := store3 (x0 := .int .i64 f.k) (x1 := .int .i64 f.n) (x2 := .slice a f.t.len cap) hbx1.2 rfl
    obtain ⟨d0, d1, d2⟩ := cells_of hw
    have hof := store3_oth (b := w.heap.size + 1) (x0 := .int .i64 f.k) (x1 := .int .i64 f.n) (x2 := .slice a f.t.len cap) how (by omega)
    have hpf := h.oth hof ((store3_far (by omega)).trans hp1.hp)
    clear hw
    go_wp2_with fail
    refine bodyPost_ret (v := F.val f a cap) (by simp [results, Tryd.results55, go_sem, d0, d1, d2]) rfl ?_
    have hR : powM (y.txt q) f = some (f, pk (y.txt q)) := by unfold powM; rw [if_neg HC.out]
    rw [HR1.out, hR]
    exact ⟨a, cap, q1, rfl, (hsl.oth hS hof).weaken (fun _ _ h => Or.inl h), hq1, HT.out, hpf, hof⟩

set_option maxRecDepth 100000 in
set_option maxHeartbeats 800000 in
theorem follow_bin (y : Lay) (q : Nat) (w : World) (f : F) (a : Option Addr) (cap : Nat) (hq : q ≤ y.s.size) (hs : y.s.size ≤ 50000) (h : PS w y q) (S : Nat → Nat → Prop) (hS : ∀ b o, S b o → b ≠ y.pb) (hsl : Sl S w a f.t) (O : List UInt8 → Option (F × List UInt8))
    (hop : ∀ q1 w1, q1 ≤ y.s.size → PS w1 y q1 → y.txt q1 = (pk (y.txt q)).drop 1 → Calls Tryd.prog 51 #[y.ptr] w1 (FunPost y (SP w1.heap.size) w1 (O (y.txt q1)))) :
    Calls Tryd.prog 55 #[y.ptr, .map (some y.m3), f.val a cap] w (FunPost y (fun b o => S b o ∨ SP w.heap.size b o) w (binM O (y.txt q) f)) := by
  have HOP := Lib.hid hop
  clear hop
  have hlt := h.lt
  have h2 := h.below (((Below.refl _ _).alloc (Nat.le_refl _) (.cells #[.int .i64 f.k, .int .i64 f.n, .slice a f.t.len cap] 24)).alloc (by simp) (.cells #[.int .i64 0, .int .i64 0, .slice none 0 0] 24))
  have hbx' : HdBox w.heap.size f a cap ((w.alloc (.cells #[.int .i64 f.k, .int .i64 f.n, .slice a f.t.len cap] 24)).alloc (.cells #[.int .i64 0, .int .i64 0, .slice none 0 0] 24)) := hdBox_mk w f a cap
  have hst := Lib.hid (stays_hdBox y w.heap.size f a cap hlt)
  obtain ⟨R, hR1⟩ : ∃ R, R = FunPost y (fun b o => S b o ∨ SP w.heap.size b o) w (binM O (y.txt q) f) := ⟨_, rfl⟩
  rw [← hR1]
  have HR1 := Lib.hid hR1
  clear hR1
  go_enter Tryd.func55, Tryd.ntmps55
  go_wp2_with fail
  refine (peek_any y q _ hq hs h2).mono ?_
  rintro e w1 ⟨rfl, ⟨q1, hq1, ht1, hp1⟩, ho1, hsz1⟩
  have hbx1 := hst.out _ _ (by simp; omega) ho1 hbx'
  clear hbx'
  have how : Oth y.pb w w1 := (((Oth.refl _ _).alloc _).alloc _).trans ho1
  obtain ⟨es, clk, hm, ht⟩ := hp1.t3
  have hlk := run_look (c := hdc (pk (y.txt q))) Tryd.underlying69 Tryd.underlying5 (zero34 w1) hm ht.keys
  have HT := Lib.hid ht1
  have HM := Lib.hid hm
  have hsz2 : w1.heap.size = w.heap.size + 2 := by rw [hsz1]; simp
  have HSZ := Lib.hid hsz2
  clear ht1 hsz1 hm hsz2
  obtain ⟨b0, b1, b2⟩ := cells_of hbx1.1
  obtain ⟨r0, r1, r2⟩ := cells_of hbx1.2
  have rz := fun o => frozen_of (o := o) hbx1.2
  have g1 := hp1.c1
  have gf := hp1.f1
  by_cases hc : hdc (pk (y.txt q)) = 42 ∨ hdc (pk (y.txt q)) = 43
  · have hq2 : q1 + 1 ≤ y.s.size := txt_lt_of hq1 (by rw [HT.out]; rcases hc with hc | hc <;> rw [hc] <;> decide)
    have ht2 : y.txt (q1 + 1) = (pk (y.txt q)).drop 1 := by rw [txt_succ, HT.out]
    have HT2 := Lib.hid ht2
    have HC := Lib.hid hc
    clear ht2
    obtain ⟨kb, hkl, hkc⟩ := ht.kinds _ hc
    rw [hkl] at hlk
    simp only [Option.getD_some, Option.isSome_some] at hlk
    have HKC := Lib.hid hkc
    clear hkl hkc
    have HLK := Lib.hid hlk
    clear hlk hc
    have hlk := HLK.out
    go_wp2_with fail
    refine (pair_any y (q1 + 1) _ (kind2Of (hdc (pk (y.txt q)))) kb f a cap O hp1.set ((((Oth.refl y.pb w1).set 1 (.int .i64 (q1 + 1 : Nat)))).cell (fun e => by have := HKC.out; rw [e, hp1.c0] at this; cases this) HKC.out) _ (fun b o h => hS b o h.1) (hsl.lt.oth (fun b o h => hS b o h.1) (how.set _ _)) (fun w2 h2 => HOP.out _ _ hq2 h2 HT2.out)).mono ?_
    have how2 : Oth y.pb w (w1.setCell ⟨y.pb, 1, none⟩ (.int .i64 (q1 + 1 : Nat))) := how.set _ _
    rw [HT2.out]
    refine fun e w3 he => ?_
    obtain ⟨m, hm0⟩ : ∃ m, m = twoR (kind2Of (hdc (pk (y.txt q)))) f (O ((pk (y.txt q)).drop 1)) := ⟨_, rfl⟩
    rw [← hm0] at he
    have hR2 : binM O (y.txt q) f = m := by rw [hm0]; unfold binM; rw [if_pos HC.out]
    have HR2 := Lib.hid hR2
    clear hm0 hR2
    rcases (show m = none ∨ ∃ p, m = some p by cases m <;> simp) with hm1 | ⟨p, hm1⟩
    · rw [hm1] at he
      obtain ⟨rfl, ho⟩ := he
      exact ⟨rfl, by rw [HR1.out, HR2.out, hm1]; exact ⟨rfl, how2.trans ho⟩⟩
    · rw [hm1] at he
      have HM1 := Lib.hid hm1
      clear hm1
      obtain ⟨a', cap', q3, rfl, hsl3, hq3, ht3, hp3, ho3⟩ := he
      have HT3 := Lib.hid ht3
      clear ht3
      have hlt1 : y.pb < w1.heap.size := by have := how.size; omega
      have hbx3 := hst.out _ _ (by simpa [World.setCell] using hlt1) ho3 (hst.out _ _ hlt1 ((Oth.refl y.pb w1).set 1 (.int .i64 (q1 + 1 : Nat))) hbx1)
      obtain ⟨v0, v1, v2⟩ := cells_of hbx3.2
      have vz := fun o => frozen_of (o := o) hbx3.2
      have hw := store3 (x0 := .int .i64 p.1.k) (x1 := .int .i64 p.1.n) (x2 := .slice a' p.1.t.len cap') hbx3.2 rfl
      obtain ⟨d0, d1, d2⟩ := cells_of hw
      have hof := store3_oth (b := w.heap.size + 1) (x0 := .int .i64 p.1.k) (x1 := .int .i64 p.1.n) (x2 := .slice a' p.1.t.len cap') (how2.trans ho3) (by omega)
      have hpf := h.oth hof ((store3_far (by omega)).trans hp3.hp)
      clear hw
      go_wp2_with fail
      refine bodyPost_ret (v := F.val p.1 a' cap') (by simp [results, Tryd.results55, go_sem, d0, d1, d2]) rfl ?_
      rw [HR1.out, HR2.out, HM1.out]
      have hs2 : (w1.setCell ⟨y.pb, 1, none⟩ (.int .i64 (q1 + 1 : Nat))).heap.size = w.heap.size + 2 := by rw [← HSZ.out]; simp [World.setCell]
      rw [hs2] at hsl3
      exact ⟨a', cap', q3, rfl, (hsl3.store3 (fun b o h => by rcases h with h | h <;> have := h.1 <;> have := h.2 <;> omega)).weaken (fun b o h => h.imp (fun h => h.1) (sp_le (by omega))), hq3, HT3.out, hpf, hof⟩
  · have HC := Lib.hid hc
    rw [ht.others _ (fun e => hc (Or.inl e)) (fun e => hc (Or.inr e))] at hlk
    simp only [Option.getD_none, Option.isSome_none] at hlk
    clear hc
    have hw := store3 (x0 := .int .i64 f.k) (x1 := .int .i64 f.n) (x2 := .slice a f.t.len cap) hbx1.2 rfl
    obtain ⟨d0, d1, d2⟩ := cells_of hw
    have hof := store3_oth (b := w.heap.size + 1) (x0 := .int .i64 f.k) (x1 := .int .i64 f.n) (x2 := .slice a f.t.len cap) how (by omega)
    have hpf := h.oth hof ((store3_far (by omega)).trans hp1.hp)
    clear hw
    go_wp2_with fail
    refine bodyPost_ret (v := F.val f a cap) (by simp [results, Tryd.results55, go_sem, d0, d1, d2]) rfl ?_
    have hR : binM O (y.txt q) f = some (f, pk (y.txt q)) := by unfold binM; rw [if_neg HC.out]
    rw [HR1.out, hR]
    exact ⟨a, cap, q1, rfl, (hsl.oth hS hof).weaken (fun _ _ h => Or.inl h), hq1, HT.out, hpf, hof⟩

end Go.Proofs.YtioimhnebjiicaaDoor
