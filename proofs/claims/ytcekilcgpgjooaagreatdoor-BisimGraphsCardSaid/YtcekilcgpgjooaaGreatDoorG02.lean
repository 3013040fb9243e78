/- Proved here: contracts of the walk to BisimGraphs: flows (pure), and worlds that keep what lies in them; each under the conditions that its own statement names. -/
import Derived.Test.YtcekilcgpgjooaaGreatDoorG01
import Derived.WalkKit
import Derived.Lib.Hide
import Derived.Deep.OwnRows
import Derived.Shelf.Abstract
set_option maxRecDepth 100000
set_option maxHeartbeats 800000
namespace Go.Proofs.YtcekilcgpgjooaaGreatDoor
open Go.RowKit
def sumN (f : Nat → Int) : Nat → Int
 | 0 => 0
 | n + 1 => sumN f n + f n
theorem sumN_congr {f g : Nat → Int} : ∀ n, (∀ i, i < n → f i = g i) → sumN f n = sumN g n := by
 intro n
 induction n with
 | zero => intro _; rfl
 | succ n ih => intro h; simp only [sumN]; rw [ih (fun i hi => h i (by omega)), h n (by omega)]
theorem sumN_le {f g : Nat → Int} : ∀ n, (∀ i, i < n → f i ≤ g i) → sumN f n ≤ sumN g n := by
 intro n
 induction n with
 | zero => intro _; exact Int.le_refl _
 | succ n ih => intro h; simp only [sumN]; have := ih (fun i hi => h i (by omega)); have := h n (by omega); omega
theorem sumN_nonneg {f : Nat → Int} : ∀ n, (∀ i, i < n → 0 ≤ f i) → 0 ≤ sumN f n := by
 intro n
 induction n with
 | zero => intro _; exact Int.le_refl _
 | succ n ih => intro h; simp only [sumN]; have := ih (fun i hi => h i (by omega)); have := h n (by omega); omega
theorem sumN_zero : ∀ n, sumN (fun _ => 0) n = 0 := by
 intro n
 induction n with
 | zero => rfl
 | succ n ih => simp only [sumN, ih]; rfl
theorem sumN_add (f g : Nat → Int) : ∀ n, sumN (fun i => f i + g i) n = sumN f n + sumN g n := by
 intro n
 induction n with
 | zero => rfl
 | succ n ih => simp only [sumN, ih]; omega
theorem sumN_mul (f : Nat → Int) (c : Int) : ∀ n, sumN (fun i => f i * c) n = sumN f n * c := by
 intro n
 induction n with
 | zero => simp [sumN]
 | succ n ih => simp only [sumN, ih, Int.add_mul]
theorem sumN_swap (f : Nat → Nat → Int) (m : Nat) : ∀ n, sumN (fun i => sumN (fun j => f i j) m) n = sumN (fun j => sumN (fun i => f i j) n) m := by
 intro n
 induction n with
 | zero => simp only [sumN]; rw [sumN_zero]
 | succ n ih => simp only [sumN, ih]; rw [← sumN_add]
theorem sumN_lt {f g : Nat → Int} {k : Nat} : ∀ n, (∀ i, i < n → f i ≤ g i) → k < n → f k < g k → sumN f n < sumN g n := by
 intro n
 induction n with
 | zero => intro _ h _; omega
 | succ n ih =>
  intro h hk hlt
  simp only [sumN]
  by_cases hkn : k = n
  ·subst hkn
   have := sumN_le k (fun i hi => h i (by omega)); omega
  ·have := ih (fun i hi => h i (by omega)) (by omega) hlt
   have := h n (by omega); omega
theorem sumN_eq_zero {f : Nat → Int} : ∀ n, (∀ i, i < n → 0 ≤ f i) → sumN f n ≤ 0 → ∀ i, i < n → f i = 0 := by
 intro n
 induction n with
 | zero => intro _ _ i hi; omega
 | succ n ih =>
  intro h hs i hi
  simp only [sumN] at hs
  have h0 := sumN_nonneg n (fun i hi => h i (by omega))
  have h1 := h n (by omega)
  by_cases hin : i = n
  ·subst hin; omega
  ·exact ih (fun i hi => h i (by omega)) (by omega) i (by omega)
theorem sumN_upd (f g : Nat → Int) (k : Nat) (d : Int) : ∀ n, (∀ i, i < n → i ≠ k → g i = f i) → (k < n → g k = f k + d) → sumN g n = sumN f n + (if k < n then d else 0) := by
 intro n
 induction n with
 | zero => intro _ _; simp [sumN]
 | succ n ih =>
  intro h hk
  simp only [sumN]
  rw [ih (fun i hi => h i (by omega)) (fun hi => hk (by omega))]
  by_cases hkn : k = n
  ·subst hkn
   rw [hk (by omega), if_neg (by omega), if_pos (by omega)]; omega
  ·rw [h n (by omega) (fun h => hkn h.symm)]
   by_cases hlt : k < n
   ·rw [if_pos hlt, if_pos (by omega)]; omega
   ·rw [if_neg hlt, if_neg (by omega)]; omega
def Flow (n m : Nat) (L R : Nat → Int) (rel : Nat → Nat → Bool) : Prop :=
 ∃ mv : Nat → Nat → Int, (∀ a b, 0 ≤ mv a b) ∧ (∀ a b, rel a b = false → mv a b = 0) ∧ (∀ a, a < n → sumN (fun b => mv a b) m = L a) ∧ (∀ b, b < m → sumN (fun a => mv a b) n = R b)
structure Part (n m : Nat) (L R : Nat → Int) (rel : Nat → Nat → Bool) (mv : Nat → Nat → Int) (le ri : Nat → Int) : Prop where
 mv0 : ∀ a b, a < n → b < m → 0 ≤ mv a b
 mvr : ∀ a b, a < n → b < m → rel a b = false → mv a b = 0
 le0 : ∀ a, a < n → 0 ≤ le a
 ri0 : ∀ b, b < m → 0 ≤ ri b
 rows : ∀ a, a < n → le a + sumN (fun b => mv a b) m = L a
 cols : ∀ b, b < m → ri b + sumN (fun a => mv a b) n = R b
theorem Part.start {n m : Nat} {L R : Nat → Int} {rel : Nat → Nat → Bool} (hL : ∀ a, a < n → 0 ≤ L a) (hR : ∀ b, b < m → 0 ≤ R b) : Part n m L R rel (fun _ _ => 0) L R :=
 ⟨fun _ _ _ _ => Int.le_refl _, fun _ _ _ _ _ => rfl, hL, hR, fun a _ => by rw [sumN_zero]; omega, fun b _ => by rw [sumN_zero]; omega⟩
theorem Part.flow {n m : Nat} {L R : Nat → Int} {rel : Nat → Nat → Bool} {mv : Nat → Nat → Int} {le ri : Nat → Int} (h : Part n m L R rel mv le ri) (hs : sumN L n = sumN R m) (h0 : sumN le n ≤ 0) : Flow n m L R rel := by
 have hle := sumN_eq_zero n h.le0 h0
 have h1 : sumN (fun a => sumN (fun b => mv a b) m) n = sumN L n := sumN_congr n (fun a ha => by have := h.rows a ha; have := hle a ha; omega)
 have h2 : sumN ri m + sumN (fun b => sumN (fun a => mv a b) n) m = sumN R m := by rw [← sumN_add]; exact sumN_congr m (fun b hb => h.cols b hb)
 rw [sumN_swap] at h1
 have hri := sumN_eq_zero m h.ri0 (by omega)
 refine ⟨fun a b => if a < n ∧ b < m then mv a b else 0, ?_, ?_, ?_, ?_⟩
 ·intro a b
  by_cases hab : a < n ∧ b < m
  ·simp only [if_pos hab]; exact h.mv0 a b hab.1 hab.2
  ·simp only [if_neg hab]; exact Int.le_refl _
 ·intro a b hr
  by_cases hab : a < n ∧ b < m
  ·simp only [if_pos hab]; exact h.mvr a b hab.1 hab.2 hr
  ·simp only [if_neg hab]
 ·intro a ha
  have e : sumN (fun b => if a < n ∧ b < m then mv a b else 0) m = sumN (fun b => mv a b) m := sumN_congr m (fun b hb => by rw [if_pos ⟨ha, hb⟩])
  rw [e]
  have := h.rows a ha; have := hle a ha; omega
 ·intro b hb
  have e : sumN (fun a => if a < n ∧ b < m then mv a b else 0) n = sumN (fun a => mv a b) n := sumN_congr n (fun a ha => by rw [if_pos ⟨ha, hb⟩])
  rw [e]
  have := h.cols b hb; have := hri b hb; omega
theorem Part.cut {n m : Nat} {L R : Nat → Int} {rel : Nat → Nat → Bool} {mv : Nat → Nat → Int} {le ri : Nat → Int} (h : Part n m L R rel mv le ri) (A T : Nat → Bool)
    (hAT : ∀ a b, a < n → b < m → A a = true → T b = false → rel a b = false) (hT0 : ∀ b, b < m → T b = true → ri b = 0)
    (hTA : ∀ a b, a < n → b < m → T b = true → 0 < mv a b → A a = true) {k : Nat} (hk : k < n) (hkA : A k = true) (hkl : 0 < le k) : ¬ Flow n m L R rel := by
 intro ⟨f, f0, fr, frow, fcol⟩
 have e1 : sumN (fun a => if A a then L a else 0) n = sumN (fun b => sumN (fun a => if A a then f a b else 0) n) m := by
  rw [← sumN_swap]
  refine sumN_congr n (fun a ha => ?_)
  cases A a
  ·simp only [Bool.false_eq_true, if_false]; rw [sumN_zero]
  ·simp only [if_true]; exact (frow a ha).symm
 have e2 : sumN (fun b => sumN (fun a => if A a then f a b else 0) n) m ≤ sumN (fun b => if T b then R b else 0) m := by
  refine sumN_le m (fun b hb => ?_)
  cases hTb : T b
  ·simp only [Bool.false_eq_true, if_false]
   have : sumN (fun a => if A a then f a b else 0) n = sumN (fun _ => 0) n := by
    refine sumN_congr n (fun a ha => ?_)
    cases hA : A a
    ·rfl
    ·simp only [if_true]; exact fr a b (hAT a b ha hb hA hTb)
   rw [this, sumN_zero]; exact Int.le_refl _
  ·simp only [if_true]
   rw [← fcol b hb]
   refine sumN_le n (fun a _ => ?_)
   cases A a
   ·simp only [Bool.false_eq_true, if_false]; exact f0 a b
   ·exact Int.le_refl _
 have e3 : sumN (fun b => if T b then R b else 0) m ≤ sumN (fun b => sumN (fun a => if A a then mv a b else 0) n) m := by
  refine sumN_le m (fun b hb => ?_)
  cases hTb : T b
  ·simp only [Bool.false_eq_true, if_false]
   refine sumN_nonneg n (fun a ha => ?_)
   cases A a
   ·exact Int.le_refl _
   ·exact h.mv0 a b ha hb
  ·simp only [if_true]
   have h1 := h.cols b hb
   have h2 := hT0 b hb hTb
   have h3 : sumN (fun a => mv a b) n = sumN (fun a => if A a then mv a b else 0) n := by
    refine sumN_congr n (fun a ha => ?_)
    cases hA : A a
    ·simp only [Bool.false_eq_true, if_false]
     have h4 := h.mv0 a b ha hb
     by_cases h5 : 0 < mv a b
     ·exact absurd (hTA a b ha hb hTb h5) (by rw [hA]; simp)
     ·omega
    ·rfl
   omega
 have e4 : sumN (fun b => sumN (fun a => if A a then mv a b else 0) n) m < sumN (fun a => if A a then L a else 0) n := by
  rw [← sumN_swap]
  refine sumN_lt (k := k) n (fun a ha => ?_) hk ?_
  ·cases A a
   ·simp only [Bool.false_eq_true, if_false]; rw [sumN_zero]; exact Int.le_refl _
   ·simp only [if_true]; have := h.rows a ha; have := h.le0 a ha; omega
  ·simp only [hkA, if_true]; have := h.rows k hk; omega
 omega
end Go.Proofs.YtcekilcgpgjooaaGreatDoor
namespace Go.Proofs.YtcekilcgpgjooaaGreatDoor
open Go.RowKit
open Go.Lib (hid)
structure Kept (P : Nat → Prop) (w w' : World) : Prop where
 os : w'.os = w.os
 tape : w'.tape = w.tape
 output : w'.output = w.output
 size : w.heap.size ≤ w'.heap.size
 block : ∀ k, k < w.heap.size → ¬ P k → w'.heap[k]? = w.heap[k]?
theorem Kept.refl (P : Nat → Prop) (w : World) : Kept P w w := ⟨rfl, rfl, rfl, Nat.le_refl _, fun _ _ _ => rfl⟩
theorem Kept.trans {P : Nat → Prop} {a b c : World} (h : Kept P a b) (k : Kept P b c) : Kept P a c :=
 ⟨k.os.trans h.os, k.tape.trans h.tape, k.output.trans h.output, Nat.le_trans h.size k.size, fun i hi hn => (k.block i (Nat.lt_of_lt_of_le hi h.size) hn).trans (h.block i hi hn)⟩
theorem Kept.mono {P Q : Nat → Prop} {a b : World} (h : Kept P a b) (hPQ : ∀ k, k < a.heap.size → P k → Q k) : Kept Q a b :=
 ⟨h.os, h.tape, h.output, h.size, fun k hk hn => h.block k hk (fun hp => hn (hPQ k hk hp))⟩
theorem Kept.ofBelow {P : Nat → Prop} {a b : World} (h : Below a.heap.size a b) : Kept P a b := ⟨h.os, h.tape, h.output, h.size, fun k hk _ => h.block k hk⟩
theorem Kept.below {P : Nat → Prop} {a b c : World} (h : Kept P a b) (k : Below b.heap.size b c) : Kept P a c := h.trans (.ofBelow k)
theorem Kept.toBelow {P : Nat → Prop} {B : Nat} {a b : World} (h : Kept P a b) (hB : B ≤ a.heap.size) (hP : ∀ k, k < B → ¬ P k) : Below B a b :=
 ⟨h.os, h.tape, h.output, h.size, fun k hk => h.block k (by omega) (hP k hk)⟩
theorem Kept.drew {P : Nat → Prop} {a w : World} (h : Kept P a w) : Kept P a w.drew := ⟨h.os, h.tape, h.output, h.size, h.block⟩
theorem Kept.drewN {P : Nat → Prop} {n : Nat} {a w : World} (h : Kept P a w) : Kept P a (w.drewN n) := ⟨h.os, h.tape, h.output, h.size, h.block⟩
theorem Kept.alloc {P : Nat → Prop} {a w : World} (h : Kept P a w) (o : Obj) : Kept P a (w.alloc o) :=
 h.trans ⟨rfl, rfl, rfl, by simp, fun k hk _ => Below.heap_alloc _ _ _ hk⟩
theorem Kept.set {P : Nat → Prop} {a w : World} (h : Kept P a w) {p : Addr} (hp : P p.block ∨ a.heap.size ≤ p.block) (v : Value) : Kept P a (w.setCell p v) :=
 ⟨h.os, h.tape, h.output, by have := h.size; simpa [World.setCell] using this, fun k hk hn => by
  rw [Below.heap_setCell _ _ _ _ (by rcases hp with hp | hp; · exact fun e => hn (e ▸ hp)
                                     ·omega)]
  exact h.block k hk hn⟩
theorem Kept.cell {P : Nat → Prop} {w w' : World} (h : Kept P w w') {b o : Nat} {v : Value} (hb : ¬ P b) (hc : w.cell? ⟨b, o, none⟩ = some v) : w'.cell? ⟨b, o, none⟩ = some v := by
 have := lt_of_cell hc
 unfold World.cell? at hc ⊢
 rw [h.block b this hb]; exact hc
theorem Kept.heap {P : Nat → Prop} {w w' : World} (h : Kept P w w') {b : Nat} {o : Obj} (hb : ¬ P b) (hc : w.heap[b]? = some o) : w'.heap[b]? = some o := by
 rw [h.block b (heap_lt hc) hb]; exact hc
theorem Kept.rowIs {P : Nat → Prop} {w w' : World} (h : Kept P w w') {b n : Nat} {t : TypeId} {f : Nat → Value} (hb : ¬ P b) (hr : w.rowIs b t n f) : w'.rowIs b t n f :=
 hr.of_block (h.block b hr.lt hb)
structure Asks (B : Nat) (P : Nat → Prop) (I : World → Prop) (n m : Nat) (rel : Nat → Nat → Bool) (g : Nat) (lb : Array Value) : Prop where
 eg : ∀ args w, (callFunc g args).run Tryz.prog w = .ok (.enter g args) w
 pb : ∀ k, P k → k < B
 lt : ∀ w, I w → B ≤ w.heap.size
 same : ∀ w w', I w → Below B w w' → I w'
 call : ∀ (a b : Nat) w, a < n → b < m → I w → Calls Tryz.prog g (#[.int .i64 (a : Int), .int .i64 (b : Int)] ++ lb) w fun e w' => e = .returned (.bool (rel a b)) ∧ I w' ∧ Kept P w w'
theorem rowI_set {w : World} {b n : Nat} {t : TypeId} {f : Nat → Int} (h : w.rowIs b t n (fun i => .int .i64 (f i))) (i : Nat) (x : Int) :
    (w.setCell ⟨b, i, none⟩ (.int .i64 x)).rowIs b t n (fun j => .int .i64 (if j = i then x else f j)) :=
 (h.set i (.int .i64 x)).congr (fun j _ => by by_cases e : j = i <;> simp [e])
theorem sumN_mono {f : Nat → Int} {n : Nat} (h : ∀ i, i < n → 0 ≤ f i) {k : Nat} (hk : k ≤ n) : 0 ≤ sumN f k ∧ sumN f k ≤ sumN f n := by
 refine ⟨sumN_nonneg k (fun i hi => h i (by omega)), ?_⟩
 induction n with
 | zero => have : k = 0 := by omega
           subst this; exact Int.le_refl _
 | succ n ih =>
  by_cases hkn : k = n + 1
  ·subst hkn; exact Int.le_refl _
  ·have := ih (fun i hi => h i (by omega)) (by omega)
   have := h n (by omega)
   simp only [sumN]; omega
theorem sumN_elem {f : Nat → Int} {n : Nat} (h : ∀ i, i < n → 0 ≤ f i) {k : Nat} (hk : k < n) : f k ≤ sumN f n := by
 have := (sumN_mono h (k := k + 1) (by omega)).2
 have h0 := (sumN_mono h (k := k) (by omega)).1
 simp only [sumN] at this; omega
theorem infoI64 : (Tryz.prog.info? 2).map (fun i => (i.zero, i.size, i.bytes)) = some (some (.int .i64 0), 1, 8) := by kernel_rfl
theorem infoR64 : (Tryz.prog.info? 136).map (fun i => (i.zero, i.size, i.bytes)) = some (some (.slice none 0 0), 1, 24) := by kernel_rfl
theorem infoInt : (Tryz.prog.info? 3).map (fun i => (i.zero, i.size, i.bytes)) = some (some (.int .i64 0), 1, 8) := by kernel_rfl
theorem infoBl : (Tryz.prog.info? 4).map (fun i => (i.zero, i.size, i.bytes)) = some (some (.bool false), 1, 1) := by kernel_rfl
theorem sum64_any (b n : Nat) (f : Nat → Int) (cap : Nat) (w : World) (hr : w.rowIs b 2 n (fun i => .int .i64 (f i))) (h0 : ∀ i, i < n → 0 ≤ f i) (hs : sumN f n ≤ 4611686018427387904) (hn : n ≤ 1000000) :
    Calls Tryz.prog 132 #[.slice (some ⟨b, 0, none⟩) n cap] w fun e w' => e = .returned (.int .i64 (sumN f n)) ∧ w' = w := by
 have HS := hid (fun k (hk : k ≤ n) => sumN_mono h0 hk)
 have HC := hid (fun k (hk : k < n) => hr.cell hk)
 have H0 := hid h0
 clear hr h0
 go_enter Tryz.func132, Tryz.ntmps132
 go_wp2_with fail
 go_loopw [3, 8] (fun v i wr => ∃ k : Nat, k ≤ n ∧ i = .int .i64 k ∧ v = .int .i64 (sumN f k) ∧ wr = w) (fun _ i _ => n - (intOf i).toNat)
 case atStart => exact ⟨0, Nat.zero_le _, rfl, rfl, by first | trivial | rfl⟩
 case round =>
  obtain ⟨k, hk, rfl, rfl, rfl⟩ := hrel
  by_cases hlt : k < n
  ·have hc := HC.out k hlt
   obtain ⟨x, hx⟩ : ∃ x, x = f k := ⟨_, rfl⟩
   obtain ⟨s, hsx⟩ : ∃ s, s = sumN f k := ⟨_, rfl⟩
   have hb1 : 0 ≤ s ∧ s ≤ sumN f n := by rw [hsx]; exact HS.out k hk
   have hb2 : s + x ≤ sumN f n := by rw [hsx, hx]; exact (HS.out (k + 1) hlt).2
   have hb3 : 0 ≤ x := by rw [hx]; exact H0.out k hlt
   have HX := hid (show s + x = sumN f (k + 1) by rw [hsx, hx]; rfl)
   rw [← hx] at hc
   rw [← hsx]
   clear hx hsx
   go_wp2_with fail
   go_roundw
   case rel => exact ⟨k + 1, by omega, by go_num, by rw [← HX.out], by first | trivial | rfl⟩
   case measure => simp [intOf]; omega
  ·have hkn : k = n := by omega
   subst hkn
   go_wp2_with fail
   go_ret
   exact ⟨rfl, rfl⟩
end Go.Proofs.YtcekilcgpgjooaaGreatDoor
