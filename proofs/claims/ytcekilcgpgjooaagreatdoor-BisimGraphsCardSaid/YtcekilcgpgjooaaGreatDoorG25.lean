/- Proved here: contracts of the walk to BisimGraphs: moves of a flow; each under the conditions that its own statement names. -/
import Derived.Test.YtcekilcgpgjooaaGreatDoorG03
import Derived.Maps.AppendAt
import Derived.OwnWalk
namespace Go.Proofs.YtcekilcgpgjooaaGreatDoor
open Go.RowKit
def upd (f : Nat → Int) (i : Nat) (x : Int) : Nat → Int := fun j => if j = i then x else f j
def upd2 (f : Nat → Nat → Int) (a b : Nat) (x : Int) : Nat → Nat → Int := fun i j => if i = a ∧ j = b then x else f i j
theorem upd_same (f : Nat → Int) (i : Nat) (x : Int) : upd f i x i = x := by simp [upd]
theorem upd_other {f : Nat → Int} {i j : Nat} {x : Int} (h : j ≠ i) : upd f i x j = f j := by simp [upd, h]
theorem upd2_same (f : Nat → Nat → Int) (a b : Nat) (x : Int) : upd2 f a b x a b = x := by simp [upd2]
theorem upd2_col {f : Nat → Nat → Int} {a b j : Nat} {x : Int} (i : Nat) (h : j ≠ b) : upd2 f a b x i j = f i j := by simp [upd2, h]
theorem upd2_row {f : Nat → Nat → Int} {a b i : Nat} {x : Int} (j : Nat) (h : i ≠ a) : upd2 f a b x i j = f i j := by simp [upd2, h]
theorem sum_row_upd2 {mv : Nat → Nat → Int} {a b i m : Nat} {d : Int} (hb : b < m) : sumN (fun j => upd2 mv a b (mv a b + d) i j) m = sumN (fun j => mv i j) m + (if i = a then d else 0) := by
 by_cases hi : i = a
 ·subst hi
  rw [sumN_upd (fun j => mv i j) (fun j => upd2 mv i b (mv i b + d) i j) b d m (fun j _ hj => upd2_col i hj) (fun _ => upd2_same _ _ _ _)]
  simp [hb]
 ·rw [sumN_congr m (fun j _ => upd2_row (f := mv) (x := mv a b + d) (b := b) j hi)]
  simp [hi]
theorem sum_col_upd2 {mv : Nat → Nat → Int} {a b j n : Nat} {d : Int} (ha : a < n) : sumN (fun i => upd2 mv a b (mv a b + d) i j) n = sumN (fun i => mv i j) n + (if j = b then d else 0) := by
 by_cases hj : j = b
 ·subst hj
  rw [sumN_upd (fun i => mv i j) (fun i => upd2 mv a j (mv a j + d) i j) a d n (fun i _ hi => upd2_row j hi) (fun _ => upd2_same _ _ _ _)]
  simp [ha]
 ·rw [sumN_congr n (fun i _ => upd2_col (f := mv) (x := mv a b + d) (a := a) i hj)]
  simp [hj]
theorem Part.move {n m : Nat} {L R : Nat → Int} {rel : Nat → Nat → Bool} {mv : Nat → Nat → Int} {le ri : Nat → Int} (h : Part n m L R rel mv le ri) {a b : Nat} {d : Int} (ha : a < n) (hb : b < m) (hr : rel a b = true)
    (h0 : 0 ≤ d) (hl : d ≤ le a) (hri : d ≤ ri b) : Part n m L R rel (upd2 mv a b (mv a b + d)) (upd le a (le a - d)) (upd ri b (ri b - d)) := by
 refine ⟨?_, ?_, ?_, ?_, ?_, ?_⟩
 ·intro i j hi hj
  by_cases e : i = a ∧ j = b
  ·obtain ⟨rfl, rfl⟩ := e
   rw [upd2_same]; have := h.mv0 i j hi hj; omega
  ·simp only [upd2, if_neg e]; exact h.mv0 i j hi hj
 ·intro i j hi hj hrf
  by_cases e : i = a ∧ j = b
  ·obtain ⟨rfl, rfl⟩ := e
   rw [hr] at hrf; cases hrf
  ·simp only [upd2, if_neg e]; exact h.mvr i j hi hj hrf
 ·intro i hi
  by_cases e : i = a
  ·subst e; rw [upd_same]; omega
  ·rw [upd_other e]; exact h.le0 i hi
 ·intro j hj
  by_cases e : j = b
  ·subst e; rw [upd_same]; omega
  ·rw [upd_other e]; exact h.ri0 j hj
 ·intro i hi
  rw [sum_row_upd2 hb]
  have := h.rows i hi
  by_cases e : i = a
  ·subst e; rw [upd_same, if_pos rfl]; omega
  ·rw [upd_other e, if_neg e]; omega
 ·intro j hj
  rw [sum_col_upd2 ha]
  have := h.cols j hj
  by_cases e : j = b
  ·subst e; rw [upd_same, if_pos rfl]; omega
  ·rw [upd_other e, if_neg e]; omega
theorem Part.le_L {n m : Nat} {L R : Nat → Int} {rel : Nat → Nat → Bool} {mv : Nat → Nat → Int} {le ri : Nat → Int} (h : Part n m L R rel mv le ri) {a : Nat} (ha : a < n) : 0 ≤ le a ∧ le a ≤ L a := by
 have := h.rows a ha
 have := h.le0 a ha
 have := sumN_nonneg (f := fun b => mv a b) m (fun b hb => h.mv0 a b ha hb)
 omega
theorem Part.ri_R {n m : Nat} {L R : Nat → Int} {rel : Nat → Nat → Bool} {mv : Nat → Nat → Int} {le ri : Nat → Int} (h : Part n m L R rel mv le ri) {b : Nat} (hb : b < m) : 0 ≤ ri b ∧ ri b ≤ R b := by
 have := h.cols b hb
 have := h.ri0 b hb
 have := sumN_nonneg (f := fun a => mv a b) n (fun a ha => h.mv0 a b ha hb)
 omega
theorem Part.mv_L {n m : Nat} {L R : Nat → Int} {rel : Nat → Nat → Bool} {mv : Nat → Nat → Int} {le ri : Nat → Int} (h : Part n m L R rel mv le ri) {a b : Nat} (ha : a < n) (hb : b < m) : 0 ≤ mv a b ∧ mv a b + le a ≤ L a ∧ mv a b + ri b ≤ R b := by
 have h1 := h.rows a ha
 have h2 := sumN_elem (f := fun b => mv a b) (fun b hb => h.mv0 a b ha hb) hb
 have h3 := h.mv0 a b ha hb
 have h4 := h.cols b hb
 have h5 := sumN_elem (f := fun a => mv a b) (fun a ha => h.mv0 a b ha hb) ha
 omega
structure Mv where
 lb : Nat
 rb : Nat
 vb : Nat
 n : Nat
 m : Nat
abbrev Mv.ptr (x : Mv) : Value := .pointer (some ⟨x.vb + 1, 0, none⟩)
structure Mv.Ok (x : Mv) (B : Nat) : Prop where
 l : B ≤ x.lb
 r : B ≤ x.rb
 lv : x.lb < x.vb
 rv : x.rb < x.vb
 lr : x.lb ≠ x.rb
structure MvIn (x : Mv) (fv D E : Value) (w : World) (le ri : Nat → Int) (mv : Nat → Nat → Int) : Prop where
 st : w.heap[x.vb + 1]? = some (Obj.cells #[fv, .slice (some ⟨x.lb, 0, none⟩) x.n x.n, .slice (some ⟨x.rb, 0, none⟩) x.m x.m, .slice (some ⟨x.vb, 0, none⟩) x.m x.m, D, E] 163 (0, 0))
 left : w.rowIs x.lb 2 x.n (fun i => .int .i64 (le i))
 right : w.rowIs x.rb 2 x.m (fun i => .int .i64 (ri i))
 moved : w.rowIs x.vb 136 x.m (fun b => .slice (some ⟨x.vb + 2 + b, 0, none⟩) x.n x.n)
 cols : ∀ b, b < x.m → w.rowIs (x.vb + 2 + b) 2 x.n (fun a => .int .i64 (mv a b))
theorem MvIn.kept {x : Mv} {B : Nat} {P : Nat → Prop} {fv D E : Value} {w w' : World} {le ri : Nat → Int} {mv : Nat → Nat → Int} (h : MvIn x fv D E w le ri mv) (hx : x.Ok B) (hP : ∀ k, P k → k < B) (hk : Kept P w w') : MvIn x fv D E w' le ri mv := by
 have hl := hx.l
 have hlv := hx.lv
 have hrv := hx.rv
 have hr := hx.r
 exact ⟨hk.heap (fun hp => by have := hP _ hp; omega) h.st, hk.rowIs (fun hp => by have := hP _ hp; omega) h.left, hk.rowIs (fun hp => by have := hP _ hp; omega) h.right,
  hk.rowIs (fun hp => by have := hP _ hp; omega) h.moved, fun b hb => hk.rowIs (fun hp => by have := hP _ hp; omega) (h.cols b hb)⟩
theorem MvIn.setLeft {x : Mv} {B : Nat} {fv D E : Value} {w : World} {le ri : Nat → Int} {mv : Nat → Nat → Int} (h : MvIn x fv D E w le ri mv) (hx : x.Ok B) (a : Nat) (v : Int) :
    MvIn x fv D E (w.setCell ⟨x.lb, a, none⟩ (.int .i64 v)) (upd le a v) ri mv := by
 have hlv := hx.lv
 have hlr := hx.lr
 exact ⟨by rw [Below.heap_setCell _ _ _ _ (by simp; omega)]; exact h.st, rowI_set h.left a v, h.right.setOther (by simp; omega) _, h.moved.setOther (by simp; omega) _, fun b hb => (h.cols b hb).setOther (by simp; omega) _⟩
theorem MvIn.setRight {x : Mv} {B : Nat} {fv D E : Value} {w : World} {le ri : Nat → Int} {mv : Nat → Nat → Int} (h : MvIn x fv D E w le ri mv) (hx : x.Ok B) (b : Nat) (v : Int) :
    MvIn x fv D E (w.setCell ⟨x.rb, b, none⟩ (.int .i64 v)) le (upd ri b v) mv := by
 have hrv := hx.rv
 have hlr := hx.lr
 exact ⟨by rw [Below.heap_setCell _ _ _ _ (by simp; omega)]; exact h.st, h.left.setOther (by simp; omega) _, rowI_set h.right b v, h.moved.setOther (by simp; omega) _, fun b hb => (h.cols b hb).setOther (by simp; omega) _⟩
theorem MvIn.setMoved {x : Mv} {B : Nat} {fv D E : Value} {w : World} {le ri : Nat → Int} {mv : Nat → Nat → Int} (h : MvIn x fv D E w le ri mv) (hx : x.Ok B) {b : Nat} (a : Nat) (v : Int) :
    MvIn x fv D E (w.setCell ⟨x.vb + 2 + b, a, none⟩ (.int .i64 v)) le ri (upd2 mv a b v) := by
 have hlv := hx.lv
 have hrv := hx.rv
 refine ⟨by rw [Below.heap_setCell _ _ _ _ (by simp; omega)]; exact h.st, h.left.setOther (by simp; omega) _, h.right.setOther (by simp; omega) _, h.moved.setOther (by simp; omega) _, fun j hj => ?_⟩
 by_cases e : j = b
 ·subst e
  exact (rowI_set (h.cols j hj) a v).congr (fun i _ => by simp [upd2])
 ·exact ((h.cols j hj).setOther (by simp; omega) _).congr (fun i _ => by rw [upd2_col i e])
theorem MvIn.drew {x : Mv} {fv D E : Value} {w : World} {le ri : Nat → Int} {mv : Nat → Nat → Int} (h : MvIn x fv D E w le ri mv) : MvIn x fv D E w.drew le ri mv := ⟨h.st, h.left, h.right, h.moved, h.cols⟩
theorem Asks.drew {B : Nat} {P : Nat → Prop} {I : World → Prop} {n m : Nat} {rel : Nat → Nat → Bool} {g : Nat} {lb : Array Value} (h : Asks B P I n m rel g lb) {w : World} (hI : I w) : I w.drew := h.same _ _ hI (Below.refl _ _).drew
theorem Asks.set {B : Nat} {P : Nat → Prop} {I : World → Prop} {n m : Nat} {rel : Nat → Nat → Bool} {g : Nat} {lb : Array Value} (h : Asks B P I n m rel g lb) {w : World} (hI : I w) {p : Addr} (hp : B ≤ p.block) (v : Value) : I (w.setCell p v) :=
 h.same _ _ hI ((Below.refl _ _).setCell hp v)
theorem cells6 {u : World} {b : Nat} {x0 x1 x2 x3 x4 x5 : Value} {t : TypeId} {fz : Nat × Nat} (h : u.heap[b]? = some (.cells #[x0, x1, x2, x3, x4, x5] t fz)) :
    u.cell? ⟨b, 0, none⟩ = some x0 ∧ u.cell? ⟨b, 1, none⟩ = some x1 ∧ u.cell? ⟨b, 2, none⟩ = some x2 ∧ u.cell? ⟨b, 3, none⟩ = some x3 ∧ u.cell? ⟨b, 4, none⟩ = some x4 ∧ u.cell? ⟨b, 5, none⟩ = some x5 := by
 simp [World.cell?, h]
structure Sml (n m : Nat) (L R : Nat → Int) : Prop where
 hn : n ≤ 1000
 hm : m ≤ 1000
 l : ∀ a, a < n → L a ≤ 1152921504606846976
 r : ∀ b, b < m → R b ≤ 1152921504606846976
end Go.Proofs.YtcekilcgpgjooaaGreatDoor
namespace Go.Proofs.YtcekilcgpgjooaaGreatDoor
open Go Go.RowKit
def Fnd (base : Nat) (w : World) (v : Value) (fl : List Nat) : Prop := w.ownsRow base 3 1 v fl.length (fl.map fun a => .int .i64 ((a : Nat) : Int))
theorem Fnd.nil (base : Nat) (w : World) : Fnd base w (.slice none 0 0) [] := World.ownsRow_nil w base _ _
theorem Fnd.same {base : Nat} {w w' : World} {v : Value} {fl : List Nat} (h : Fnd base w v fl) (hk : ∀ k, base ≤ k → k < w.heap.size → w'.heap[k]? = w.heap[k]?) : Fnd base w' v fl := by
 refine ⟨h.1, ?_⟩
 rcases h.2 with h2 | ⟨g, cap, cur, h2, h3, h4, h5⟩
 ·exact Or.inl h2
 ·exact Or.inr ⟨g, cap, cur, h2, h3, by rw [hk g h3 (heap_lt h4)]; exact h4, h5⟩
theorem Fnd.kept {base : Nat} {P : Nat → Prop} {w w' : World} {v : Value} {fl : List Nat} (h : Fnd base w v fl) (hk : Kept P w w') (hP : ∀ k, P k → k < base) : Fnd base w' v fl :=
 h.same (fun k hb hl => hk.block k hl (fun hp => by have := hP k hp; omega))
theorem Fnd.set {base : Nat} {w : World} {v : Value} {fl : List Nat} (h : Fnd base w v fl) {p : Addr} (hp : p.block < base) (u : Value) : Fnd base (w.setCell p u) v fl :=
 h.same (fun k hb _ => Below.heap_setCell _ _ _ _ (by omega))
theorem Fnd.get {base : Nat} {w : World} {a : Option Addr} {n cap : Nat} {fl : List Nat} (h : Fnd base w (.slice a n cap) fl) {i : Nat} (hi : i < fl.length) :
    ∃ g, a = some ⟨g, 0, none⟩ ∧ base ≤ g ∧ w.cell? ⟨g, i, none⟩ = some (.int .i64 ((fl[i] : Nat) : Int)) := by
 have h' := h
 unfold Fnd at h'
 rcases h'.2 with ⟨_, h3⟩ | ⟨g, cap', cur, h2, h3, h4, h5⟩
 ·omega
 ·have h2' := h2
  injection h2 with e1 e2 e3
  subst e1 e3
  refine ⟨g, rfl, h3, ?_⟩
  subst e2
  rw [World.ownsRow.cellAt h' i (by omega)]
  simp [hi]
theorem wpList_append_fnd {ops : Array Oper} {rest : List Oper} {o : Oper} {a : Act} {Q : Exit → Act → World → Prop} (hgd : o.guard = none) (s x : Operand)
    (ho : o.op = .call { callee := .builtin .append, args := #[s, x], argTypes := #[45, 45] }) (base : Nat) (v : Value) (fl : List Nat) (c : Nat) (w : World) (sz : Nat) (hsz : w.heap.size = sz) (hs : a.eval s = v) (h : Fnd base w v fl)
    (hx : a.eval x = .slice (some ⟨sz, 0, none⟩) 1 1) (hlen : fl.length ≤ 1000000) (hbase : base ≤ w.heap.size)
    (hk : ∀ a' cap' w', Fnd base w' (.slice a' (fl.length + 1) cap') (fl ++ [c]) → Kept (fun k => base ≤ k) w w' → wpList Tryz.prog ops Q rest (a.put o.dst (.slice a' (fl.length + 1) cap')) w') :
    wpList Tryz.prog ops Q (o :: rest) a (w.alloc (.cells #[.int .i64 (c : Int)] 3)) := by
 subst hsz
 obtain ⟨i0, hi, hz⟩ := Option.map_eq_some_iff.1 infoInt
 simp only [Prod.mk.injEq] at hz
 obtain ⟨hz0, hz1, hz2⟩ := hz
 refine wpList_append_own_at _ hgd s x 45 ho base 3 i0 (.int .i64 0) 1 8 Tryz.underlying45 hi hz0 hz1 hz2 rfl (by decide) v fl.length _ hs (World.ownsRow.alloc h _) ⟨w.heap.size, 0, none⟩ 1 1 [.int .i64 (c : Int)] hx rfl (cell_one_new _ _ _) (by simp [Value.oneCell']) (by unfold maxLen; omega) (by omega) (by simp; omega) ?_
 intro v' w' hown hg _ _
 have hF : Fnd base w' v' (fl ++ [c]) := by
  unfold Fnd
  simpa using hown
 have hK : Kept (fun k => base ≤ k) w w' := by
  have h1 : Kept (fun k => base ≤ k) w (w.alloc (.cells #[.int .i64 (c : Int)] 3)) := (Kept.refl _ _).alloc _
  refine h1.trans ⟨hg.os, hg.tape, hg.output, hg.size, fun k hk hn => hg.block k hk (fun e => ?_)⟩
  have := (World.ownsRow.lt (World.ownsRow.alloc h (.cells #[.int .i64 (c : Int)] 3)) k e.symm).1
  exact hn this
 have hv : ∃ a' cap', v' = .slice a' (fl.length + 1) cap' := by
  rcases hown.2 with ⟨_, h2⟩ | ⟨g, cap, cur, h2, _⟩
  ·omega
  ·exact ⟨_, _, h2⟩
 obtain ⟨a', cap', rfl⟩ := hv
 exact hk a' cap' w' hF hK
structure Bfs (n m : Nat) (rel : Nat → Nat → Bool) (mv : Nat → Nat → Int) (le ri : Nat → Int) (ld rd : Nat → Int) (fl : List Nat) (i a b b0 c0 : Nat) (p : Bool) : Prop where
 low : ∀ x, x < n → -1 ≤ ld x
 rlow : ∀ y, y < m → -1 ≤ rd y ∧ rd y ≤ 2000
 len : (fl.length : Int) = sumN (fun x => if 0 ≤ ld x then 1 else 0) n
 ent : ∀ (j x : Nat), fl[j]? = some x → x < n ∧ 0 ≤ ld x ∧ ld x ≤ j
 all : ∀ x, x < n → 0 ≤ ld x → x ∈ fl
 root : ∀ x, x < n → ld x = 0 → 0 < le x
 le0 : ∀ x, x < n → 0 < le x → ld x = 0
 predL : ∀ c, c < n → 0 < ld c → ∃ y, y < m ∧ rd y = ld c ∧ 0 < mv c y
 predR : ∀ y, y < m → 0 ≤ rd y → ∃ x, x < n ∧ 0 ≤ ld x ∧ ld x + 1 = rd y ∧ rel x y = true
 done : ∀ (j x : Nat), j < i → fl[j]? = some x → ∀ y, y < m → rel x y = true → 0 ≤ rd y
 cur : ∀ y, y < b → rel a y = true → 0 ≤ rd y
 back : ∀ y, y < m → 0 ≤ rd y → ∀ c, c < n → (y = b0 → c < c0) → 0 < mv c y → 0 ≤ ld c
 yes : p = true → ∃ y, y < m ∧ 0 ≤ rd y ∧ 0 < ri y
 no : p = false → ∀ y, y < m → 0 ≤ rd y → ri y ≤ 0
theorem Bfs.len_le {n m : Nat} {rel : Nat → Nat → Bool} {mv : Nat → Nat → Int} {le ri ld rd : Nat → Int} {fl : List Nat} {i a b b0 c0 : Nat} {p : Bool} (h : Bfs n m rel mv le ri ld rd fl i a b b0 c0 p) : fl.length ≤ n := by
 have h1 := sumN_le (f := fun x => if 0 ≤ ld x then (1 : Int) else 0) (g := fun _ => 1) n (fun x _ => by split <;> omega)
 have h2 : sumN (fun _ => (1 : Int)) n = n := by
  clear h1 h
  induction n with
  | zero => rfl
  | succ n ih => simp only [sumN, ih]; omega
 have := h.len
 omega
theorem Bfs.mark {n m : Nat} {rel : Nat → Nat → Bool} {mv : Nat → Nat → Int} {le ri ld rd : Nat → Int} {fl : List Nat} {i a b : Nat} {p : Bool} (h : Bfs n m rel mv le ri ld rd fl i a b m 0 p)
    (hn : n ≤ 1000) (hi : fl[i]? = some a) (hb : b < m) (hr : rd b < 0) (hrel : rel a b = true) {p' : Bool} (hp : p' = (p || decide (0 < ri b))) : Bfs n m rel mv le ri ld (upd rd b (ld a + 1)) fl i a (b + 1) b 0 p' := by
 obtain ⟨ha, hla, hli⟩ := h.ent i a hi
 have hil : i < fl.length := by
  rcases Nat.lt_or_ge i fl.length with h1 | h1
  ·exact h1
  ·rw [List.getElem?_eq_none h1] at hi; cases hi
 have hll := h.len_le
 refine ⟨h.low, ?_, h.len, h.ent, h.all, h.root, h.le0, ?_, ?_, ?_, ?_, ?_, ?_, ?_⟩
 ·intro y hy
  by_cases e : y = b
  ·subst e; rw [upd_same]; omega
  ·rw [upd_other e]; exact h.rlow y hy
 ·intro c hc hlc
  obtain ⟨y, hy, h1, h2⟩ := h.predL c hc hlc
  have e : y ≠ b := by intro e; subst e; omega
  exact ⟨y, hy, by rw [upd_other e]; exact h1, h2⟩
 ·intro y hy h0
  by_cases e : y = b
  ·subst e; rw [upd_same]; exact ⟨a, ha, hla, rfl, hrel⟩
  ·rw [upd_other e] at h0 ⊢; exact h.predR y hy h0
 ·intro j x hj hx y hy hxy
  by_cases e : y = b
  ·subst e; rw [upd_same]; omega
  ·rw [upd_other e]; exact h.done j x hj hx y hy hxy
 ·intro y hy hay
  by_cases e : y = b
  ·subst e; rw [upd_same]; omega
  ·rw [upd_other e]; exact h.cur y (by omega) hay
 ·intro y hy h0 c hc hyc hm
  by_cases e : y = b
  ·have := hyc e; omega
  ·rw [upd_other e] at h0; exact h.back y hy h0 c hc (by omega) hm
 ·intro hpt
  rw [hp] at hpt
  simp only [Bool.or_eq_true, decide_eq_true_eq] at hpt
  rcases hpt with hpt | hpt
  ·obtain ⟨y, hy, h0, h1⟩ := h.yes hpt
   have e : y ≠ b := by intro e; subst e; omega
   exact ⟨y, hy, by rw [upd_other e]; exact h0, h1⟩
  ·exact ⟨b, hb, by rw [upd_same]; omega, hpt⟩
 ·intro hpf
  rw [hp] at hpf
  simp only [Bool.or_eq_false_iff, decide_eq_false_iff_not] at hpf
  intro y hy h0
  by_cases e : y = b
  ·subst e; omega
  ·rw [upd_other e] at h0; exact h.no hpf.1 y hy h0
theorem Bfs.skip {n m : Nat} {rel : Nat → Nat → Bool} {mv : Nat → Nat → Int} {le ri ld rd : Nat → Int} {fl : List Nat} {i a b : Nat} {p : Bool} (h : Bfs n m rel mv le ri ld rd fl i a b m 0 p)
    (hb : 0 ≤ rd b ∨ rel a b = false) : Bfs n m rel mv le ri ld rd fl i a (b + 1) m 0 p :=
 have hcur : ∀ y, y < b + 1 → rel a y = true → 0 ≤ rd y := fun y hy hay => by
  by_cases e : y = b
  ·subst e
   rcases hb with hb | hb
   ·exact hb
   ·rw [hay] at hb; cases hb
  ·exact h.cur y (by omega) hay
 { h with cur := hcur }
theorem Bfs.pass {n m : Nat} {rel : Nat → Nat → Bool} {mv : Nat → Nat → Int} {le ri ld rd : Nat → Int} {fl : List Nat} {i a b b0 c0 : Nat} {p : Bool} (h : Bfs n m rel mv le ri ld rd fl i a b b0 c0 p)
    (hc : 0 ≤ ld c0 ∨ mv c0 b0 ≤ 0) : Bfs n m rel mv le ri ld rd fl i a b b0 (c0 + 1) p :=
 have hback : ∀ y, y < m → 0 ≤ rd y → ∀ c, c < n → (y = b0 → c < c0 + 1) → 0 < mv c y → 0 ≤ ld c := fun y hy h0 c hcn hyc hm => by
  by_cases e : y = b0 ∧ c = c0
  ·obtain ⟨rfl, rfl⟩ := e
   rcases hc with hc | hc
   ·exact hc
   ·omega
  ·exact h.back y hy h0 c hcn (fun e1 => by have := hyc e1; omega) hm
 { h with back := hback }
theorem Bfs.find {n m : Nat} {rel : Nat → Nat → Bool} {mv : Nat → Nat → Int} {le ri ld rd : Nat → Int} {fl : List Nat} {i a b b0 c0 : Nat} {p : Bool} (h : Bfs n m rel mv le ri ld rd fl i a b b0 c0 p)
    (hi : fl[i]? = some a) (hc : c0 < n) (hb : b0 < m) (hd : rd b0 = ld a + 1) (hl : ld c0 < 0) (hm : 0 < mv c0 b0) : Bfs n m rel mv le ri (upd ld c0 (rd b0)) rd (fl ++ [c0]) i a b b0 (c0 + 1) p := by
 obtain ⟨ha, hla, hli⟩ := h.ent i a hi
 have hil : i < fl.length := by
  rcases Nat.lt_or_ge i fl.length with h1 | h1
  ·exact h1
  ·rw [List.getElem?_eq_none h1] at hi; cases hi
 have hne : ∀ x, 0 ≤ ld x → x ≠ c0 := fun x hx e => by subst e; omega
 refine ⟨?_, h.rlow, ?_, ?_, ?_, ?_, ?_, ?_, ?_, ?_, h.cur, ?_, h.yes, h.no⟩
 ·intro x hx
  by_cases e : x = c0
  ·subst e; rw [upd_same]; omega
  ·rw [upd_other e]; exact h.low x hx
 ·rw [sumN_upd (fun x => if 0 ≤ ld x then (1 : Int) else 0) _ c0 1 n (fun x _ hx => by simp only [upd_other hx]) (fun _ => by simp only [upd_same]; rw [if_pos (by omega), if_neg (by omega)]; rfl)]
  rw [if_pos hc, ← h.len]; simp
 ·intro j x hx
  rcases Nat.lt_or_ge j fl.length with h1 | h1
  ·rw [List.getElem?_append_left h1] at hx
   obtain ⟨h2, h3, h4⟩ := h.ent j x hx
   rw [upd_other (hne x h3)]; exact ⟨h2, h3, h4⟩
  ·rw [List.getElem?_append_right h1] at hx
   have e : x = c0 := by
    rcases Nat.lt_or_ge (j - fl.length) 1 with h2 | h2
    ·rw [show j - fl.length = 0 by omega] at hx; simpa using hx.symm
    ·rw [List.getElem?_eq_none (by simpa using h2)] at hx; cases hx
   subst e
   rw [upd_same]; exact ⟨hc, by omega, by omega⟩
 ·intro x hx h0
  by_cases e : x = c0
  ·subst e; simp
  ·rw [upd_other e] at h0; exact List.mem_append_left _ (h.all x hx h0)
 ·intro x hx h0
  by_cases e : x = c0
  ·subst e; rw [upd_same] at h0; omega
  ·rw [upd_other e] at h0; exact h.root x hx h0
 ·intro x hx h0
  have h1 := h.le0 x hx h0
  rw [upd_other (hne x (by omega))]; exact h1
 ·intro c hcn h0
  by_cases e : c = c0
  ·subst e; exact ⟨b0, hb, (upd_same _ _ _).symm, hm⟩
  ·rw [upd_other e] at h0 ⊢; exact h.predL c hcn h0
 ·intro y hy h0
  obtain ⟨x, h1, h2, h3, h4⟩ := h.predR y hy h0
  exact ⟨x, h1, by rw [upd_other (hne x h2)]; exact h2, by rw [upd_other (hne x h2)]; exact h3, h4⟩
 ·intro j x hj hx
  rw [List.getElem?_append_left (by omega)] at hx
  exact h.done j x hj hx
 ·intro y hy h0 c hcn hyc hmc
  by_cases e : c = c0
  ·subst e; rw [upd_same]; omega
  ·rw [upd_other e]; exact h.back y hy h0 c hcn (fun e1 => by have := hyc e1; omega) hmc
theorem Bfs.through {n m : Nat} {rel : Nat → Nat → Bool} {mv : Nat → Nat → Int} {le ri ld rd : Nat → Int} {fl : List Nat} {i a b b0 : Nat} {p : Bool} (h : Bfs n m rel mv le ri ld rd fl i a b b0 n p) : Bfs n m rel mv le ri ld rd fl i a b m 0 p :=
 { h with back := fun y hy h0 c hcn _ hm => h.back y hy h0 c hcn (fun _ => hcn) hm }
theorem Bfs.next {n m : Nat} {rel : Nat → Nat → Bool} {mv : Nat → Nat → Int} {le ri ld rd : Nat → Int} {fl : List Nat} {i a : Nat} {p : Bool} (h : Bfs n m rel mv le ri ld rd fl i a m m 0 p) (hi : fl[i]? = some a) (a' : Nat) :
    Bfs n m rel mv le ri ld rd fl (i + 1) a' 0 m 0 p :=
 have hdone : ∀ (j x : Nat), j < i + 1 → fl[j]? = some x → ∀ y, y < m → rel x y = true → 0 ≤ rd y := fun j x hj hx y hy hxy => by
  by_cases e : j = i
  ·subst e; rw [hi] at hx; cases hx; exact h.cur y hy hxy
  ·exact h.done j x (by omega) hx y hy hxy
 { h with done := hdone, cur := fun y hy _ => by omega }
theorem Bfs.at {n m : Nat} {rel : Nat → Nat → Bool} {mv : Nat → Nat → Int} {le ri ld rd : Nat → Int} {fl : List Nat} {i a : Nat} {p : Bool} (h : Bfs n m rel mv le ri ld rd fl i a 0 m 0 p) (a' : Nat) : Bfs n m rel mv le ri ld rd fl i a' 0 m 0 p :=
 { h with cur := fun y hy _ => by omega }
structure Depths (n m : Nat) (rel : Nat → Nat → Bool) (mv : Nat → Nat → Int) (le ri : Nat → Int) (ld rd : Nat → Int) (p : Bool) : Prop where
 low : ∀ x, x < n → -1 ≤ ld x ∧ ld x ≤ 2000
 rlow : ∀ y, y < m → -1 ≤ rd y ∧ rd y ≤ 2000
 root : ∀ x, x < n → ld x = 0 → 0 < le x
 le0 : ∀ x, x < n → 0 < le x → ld x = 0
 predL : ∀ c, c < n → 0 < ld c → ∃ y, y < m ∧ rd y = ld c ∧ 0 < mv c y
 predR : ∀ y, y < m → 0 ≤ rd y → ∃ x, x < n ∧ 0 ≤ ld x ∧ ld x + 1 = rd y ∧ rel x y = true
 outs : ∀ x y, x < n → y < m → 0 ≤ ld x → rel x y = true → 0 ≤ rd y
 back : ∀ y, y < m → 0 ≤ rd y → ∀ c, c < n → 0 < mv c y → 0 ≤ ld c
 yes : p = true → ∃ y, y < m ∧ 0 ≤ rd y ∧ 0 < ri y
 no : p = false → ∀ y, y < m → 0 ≤ rd y → ri y ≤ 0
theorem Bfs.depths {n m : Nat} {rel : Nat → Nat → Bool} {mv : Nat → Nat → Int} {le ri ld rd : Nat → Int} {fl : List Nat} {i a : Nat} {p : Bool} (h : Bfs n m rel mv le ri ld rd fl i a 0 m 0 p) (hn : n ≤ 1000) (hi : fl.length ≤ i) : Depths n m rel mv le ri ld rd p := by
 have hll := h.len_le
 refine ⟨fun x hx => ⟨h.low x hx, ?_⟩, h.rlow, h.root, h.le0, h.predL, h.predR, ?_, fun y hy h0 c hc hm => h.back y hy h0 c hc (fun e => by omega) hm, h.yes, h.no⟩
 ·by_cases h0 : 0 ≤ ld x
  ·obtain ⟨j, hj⟩ := List.mem_iff_getElem?.1 (h.all x hx h0)
   have h1 := (h.ent j x hj).2.2
   have hil : j < fl.length := by
    rcases Nat.lt_or_ge j fl.length with h1 | h1
    ·exact h1
    ·rw [List.getElem?_eq_none h1] at hj; cases hj
   omega
  ·omega
 ·intro x y hx hy h0 hxy
  obtain ⟨j, hj⟩ := List.mem_iff_getElem?.1 (h.all x hx h0)
  have hil : j < fl.length := by
   rcases Nat.lt_or_ge j fl.length with h1 | h1
   ·exact h1
   ·rw [List.getElem?_eq_none h1] at hj; cases hj
  exact h.done j x (by omega) hj y hy hxy
structure Ini (le ld : Nat → Int) (fl : List Nat) (k : Nat) : Prop where
 yes : ∀ x, x < k → 0 < le x → ld x = 0
 no : ∀ x, x < k → ¬ 0 < le x → ld x = -1
 ent : ∀ (j x : Nat), fl[j]? = some x → x < k ∧ 0 < le x
 all : ∀ x, x < k → 0 < le x → x ∈ fl
 len : (fl.length : Int) = sumN (fun x => if 0 < le x then 1 else 0) k
theorem Ini.start (le ld : Nat → Int) : Ini le ld [] 0 := ⟨fun _ h => by omega, fun _ h => by omega, fun j x h => by simp at h, fun _ h => by omega, rfl⟩
theorem Ini.left {le ld : Nat → Int} {fl : List Nat} {k : Nat} (h : Ini le ld fl k) (hk : 0 < le k) : Ini le (upd (upd ld k (-1)) k 0) (fl ++ [k]) (k + 1) := by
 refine ⟨?_, ?_, ?_, ?_, ?_⟩
 ·intro x hx h0
  by_cases e : x = k
  ·subst e; exact upd_same _ _ _
  ·rw [upd_other e, upd_other e]; exact h.yes x (by omega) h0
 ·intro x hx h0
  by_cases e : x = k
  ·subst e; omega
  ·rw [upd_other e, upd_other e]; exact h.no x (by omega) h0
 ·intro j x hx
  rcases Nat.lt_or_ge j fl.length with h1 | h1
  ·rw [List.getElem?_append_left h1] at hx
   have := h.ent j x hx; exact ⟨by omega, this.2⟩
  ·rw [List.getElem?_append_right h1] at hx
   have e : x = k := by
    rcases Nat.lt_or_ge (j - fl.length) 1 with h2 | h2
    ·rw [show j - fl.length = 0 by omega] at hx; simpa using hx.symm
    ·rw [List.getElem?_eq_none (by simpa using h2)] at hx; cases hx
   subst e; exact ⟨by omega, hk⟩
 ·intro x hx h0
  by_cases e : x = k
  ·subst e; simp
  ·exact List.mem_append_left _ (h.all x (by omega) h0)
 ·simp only [sumN, if_pos hk, List.length_append, List.length_cons, List.length_nil]
  have := h.len; omega
theorem Ini.none {le ld : Nat → Int} {fl : List Nat} {k : Nat} (h : Ini le ld fl k) (hk : ¬ 0 < le k) : Ini le (upd ld k (-1)) fl (k + 1) := by
 refine ⟨?_, ?_, ?_, ?_, ?_⟩
 ·intro x hx h0
  have e : x ≠ k := by intro e; subst e; exact hk h0
  rw [upd_other e]; exact h.yes x (by omega) h0
 ·intro x hx h0
  by_cases e : x = k
  ·subst e; exact upd_same _ _ _
  ·rw [upd_other e]; exact h.no x (by omega) h0
 ·intro j x hx; have := h.ent j x hx; exact ⟨by omega, this.2⟩
 ·intro x hx h0
  have e : x ≠ k := by intro e; subst e; exact hk h0
  exact h.all x (by omega) h0
 ·simp only [sumN, if_neg hk]; have := h.len; omega
theorem Ini.len_le {le ld : Nat → Int} {fl : List Nat} {k : Nat} (h : Ini le ld fl k) : fl.length ≤ k := by
 have h1 := sumN_le (f := fun x => if 0 < le x then (1 : Int) else 0) (g := fun _ => 1) k (fun x _ => by split <;> omega)
 have h2 : ∀ n : Nat, sumN (fun _ => (1 : Int)) n = n := by
  intro n
  induction n with
  | zero => rfl
  | succ n ih => simp only [sumN, ih]; omega
 have h3 := h2 k
 have := h.len
 omega
theorem Ini.bfs {n m : Nat} {rel : Nat → Nat → Bool} {mv : Nat → Nat → Int} {le ri ld rd : Nat → Int} {fl : List Nat} (h : Ini le ld fl n) (hrd : ∀ y, y < m → rd y = -1) (a : Nat) : Bfs n m rel mv le ri ld rd fl 0 a 0 m 0 false := by
 have hl : ∀ x, x < n → ld x = 0 ∨ ld x = -1 := fun x hx => by
  by_cases h0 : 0 < le x
  ·exact Or.inl (h.yes x hx h0)
  ·exact Or.inr (h.no x hx h0)
 have hp : ∀ x, x < n → 0 ≤ ld x → 0 < le x := fun x hx h0 => by
  by_cases h1 : 0 < le x
  ·exact h1
  ·have := h.no x hx h1; omega
 refine ⟨fun x hx => by rcases hl x hx with h | h <;> omega, fun y hy => by rw [hrd y hy]; omega, ?_, ?_, fun x hx h0 => h.all x hx (hp x hx h0), fun x hx h0 => hp x hx (by omega), h.yes, ?_, ?_, fun j x hj => by omega, fun y hy => by omega, ?_, fun h => (by cases h), ?_⟩
 ·rw [h.len]
  refine sumN_congr n (fun x hx => ?_)
  by_cases h0 : 0 < le x
  ·have := h.yes x hx h0
   rw [if_pos h0, if_pos (by omega)]
  ·have := h.no x hx h0
   rw [if_neg h0, if_neg (by omega)]
 ·intro j x hj
  have h1 := h.ent j x hj
  have h2 := h.yes x h1.1 h1.2
  exact ⟨h1.1, by omega, by omega⟩
 ·intro c hc h0; rcases hl c hc with h | h <;> omega
 ·intro y hy h0; rw [hrd y hy] at h0; omega
 ·intro y hy h0; rw [hrd y hy] at h0; omega
 ·intro _ y hy h0; rw [hrd y hy] at h0; omega
theorem Depths.noFlow {n m : Nat} {L R : Nat → Int} {rel : Nat → Nat → Bool} {mv : Nat → Nat → Int} {le ri ld rd : Nat → Int} (h : Depths n m rel mv le ri ld rd false) (hp : Part n m L R rel mv le ri) (hs : 0 < sumN le n) : ¬ Flow n m L R rel := by
 have : ∃ k, k < n ∧ 0 < le k := by
  refine Classical.byContradiction fun hne => ?_
  have h1 : ∀ k, k < n → le k ≤ 0 := fun k hk => by
   refine Classical.byContradiction fun h2 => hne ⟨k, hk, by omega⟩
  have h2 := sumN_le (f := le) (g := fun _ => 0) n h1
  rw [sumN_zero] at h2
  omega
 obtain ⟨k, hk, hl⟩ := this
 refine hp.cut (fun a => decide (0 ≤ ld a)) (fun b => decide (0 ≤ rd b)) ?_ ?_ ?_ hk (by simp; rw [h.le0 k hk hl]; exact Int.le_refl _) hl
 ·intro a b ha hb hA hT
  simp only [decide_eq_true_eq, decide_eq_false_iff_not] at hA hT
  cases hr : rel a b
  ·rfl
  ·exact absurd (h.outs a b ha hb hA hr) hT
 ·intro b hb hT
  simp only [decide_eq_true_eq] at hT
  have := h.no rfl b hb hT
  have := hp.ri0 b hb
  omega
 ·intro a b ha hb hT hm
  simp only [decide_eq_true_eq] at hT ⊢
  exact h.back b hb hT a ha hm
end Go.Proofs.YtcekilcgpgjooaaGreatDoor
