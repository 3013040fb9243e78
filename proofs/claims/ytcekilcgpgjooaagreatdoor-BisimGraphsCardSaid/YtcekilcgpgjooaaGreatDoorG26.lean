/- Proved here: contracts of the walk to BisimGraphs: flows in memory (shared parts); each under the conditions that its own statement names. -/
import Derived.Test.YtcekilcgpgjooaaGreatDoorG23
import Derived.Deep.RegionHeld3
import Derived.Deep.LoopGhost
import Derived.Deep.QuietTactic
import Derived.Deep.CutRange
import Derived.BigRegion
import Derived.Laws.EntriesVeiled
namespace Go.Proofs.YtcekilcgpgjooaaGreatDoor
open Go Go.RowKit
inductive Rch (n m : Nat) (rel : Nat → Nat → Bool) (ld rd : Nat → Int) (ri : Nat → Int) (mv : Nat → Nat → Int) : Bool → Nat → Prop where
 | opn (b : Nat) : b < m → 0 < ri b → Rch n m rel ld rd ri mv true b
 | back (b c : Nat) : b < m → c < n → ld c = rd b → 0 < mv c b → Rch n m rel ld rd ri mv false c → Rch n m rel ld rd ri mv true b
 | go (a b : Nat) : a < n → b < m → rd b = ld a + 1 → rel a b = true → Rch n m rel ld rd ri mv true b → Rch n m rel ld rd ri mv false a
def Dead (n m : Nat) (rel : Nat → Nat → Bool) (ld rd : Nat → Int) (ri : Nat → Int) (mv : Nat → Nat → Int) (nr nl : Nat → Nat) : Prop :=
 (∀ a b, a < n → b < m → b < nr a → rd b = ld a + 1 → rel a b = true → ¬ Rch n m rel ld rd ri mv true b) ∧
 (∀ b c, b < m → c < n → c < nl b → ld c = rd b → 0 < mv c b → ¬ Rch n m rel ld rd ri mv false c)
def updN (f : Nat → Nat) (i x : Nat) : Nat → Nat := fun j => if j = i then x else f j
theorem updN_same (f : Nat → Nat) (i x : Nat) : updN f i x i = x := by simp [updN]
theorem updN_other {f : Nat → Nat} {i j x : Nat} (h : j ≠ i) : updN f i x j = f j := by simp [updN, h]
theorem Dead.start {n m : Nat} {rel : Nat → Nat → Bool} {ld rd ri : Nat → Int} {mv : Nat → Nat → Int} : Dead n m rel ld rd ri mv (fun _ => 0) (fun _ => 0) :=
 ⟨fun _ _ _ _ h => absurd h (Nat.not_lt_zero _), fun _ _ _ _ h => absurd h (Nat.not_lt_zero _)⟩
theorem Dead.right {n m : Nat} {rel : Nat → Nat → Bool} {ld rd ri : Nat → Int} {mv : Nat → Nat → Int} {nr nl : Nat → Nat} (h : Dead n m rel ld rd ri mv nr nl) {a : Nat}
    (hd : rd (nr a) = ld a + 1 → rel a (nr a) = true → ¬ Rch n m rel ld rd ri mv true (nr a)) : Dead n m rel ld rd ri mv (updN nr a (nr a + 1)) nl := by
 refine ⟨fun i b hi hb hlt h1 h2 => ?_, h.2⟩
 by_cases e : i = a
 ·subst e
  rw [updN_same] at hlt
  by_cases e2 : b = nr i
  ·subst e2; exact hd h1 h2
  ·exact h.1 i b hi hb (by omega) h1 h2
 ·rw [updN_other e] at hlt; exact h.1 i b hi hb hlt h1 h2
theorem Dead.left {n m : Nat} {rel : Nat → Nat → Bool} {ld rd ri : Nat → Int} {mv : Nat → Nat → Int} {nr nl : Nat → Nat} (h : Dead n m rel ld rd ri mv nr nl) {b : Nat}
    (hd : ld (nl b) = rd b → 0 < mv (nl b) b → ¬ Rch n m rel ld rd ri mv false (nl b)) : Dead n m rel ld rd ri mv nr (updN nl b (nl b + 1)) := by
 refine ⟨h.1, fun j c hj hc hlt h1 h2 => ?_⟩
 by_cases e : j = b
 ·subst e
  rw [updN_same] at hlt
  by_cases e2 : c = nl j
  ·subst e2; exact hd h1 h2
  ·exact h.2 j c hj hc (by omega) h1 h2
 ·rw [updN_other e] at hlt; exact h.2 j c hj hc hlt h1 h2
theorem Dead.row {n m : Nat} {rel : Nat → Nat → Bool} {ld rd ri : Nat → Int} {mv : Nat → Nat → Int} {nr nl : Nat → Nat} (h : Dead n m rel ld rd ri mv nr nl) {a : Nat} (ha : m ≤ nr a) : ¬ Rch n m rel ld rd ri mv false a := by
 intro hr
 cases hr with
 | go _ b h1 h2 h3 h4 h5 => exact h.1 a b h1 h2 (by omega) h3 h4 h5
theorem Dead.col {n m : Nat} {rel : Nat → Nat → Bool} {ld rd ri : Nat → Int} {mv : Nat → Nat → Int} {nr nl : Nat → Nat} (h : Dead n m rel ld rd ri mv nr nl) {b : Nat} (hb : n ≤ nl b) (h0 : ri b ≤ 0) : ¬ Rch n m rel ld rd ri mv true b := by
 intro hr
 cases hr with
 | opn _ h1 h2 => omega
 | back _ c h1 h2 h3 h4 h5 => exact h.2 b c h1 h2 (by omega) h3 h4 h5
theorem Depths.path {n m : Nat} {rel : Nat → Nat → Bool} {mv : Nat → Nat → Int} {le ri ld rd : Nat → Int} (h : Depths n m rel mv le ri ld rd true) : ∃ a, a < n ∧ 0 < le a ∧ Rch n m rel ld rd ri mv false a := by
 have key : ∀ (d : Nat) (a : Nat), a < n → ld a = d → Rch n m rel ld rd ri mv false a → ∃ a, a < n ∧ 0 < le a ∧ Rch n m rel ld rd ri mv false a := by
  intro d
  induction d with
  | zero => intro a ha hl hr; exact ⟨a, ha, h.root a ha (by omega), hr⟩
  | succ d ih =>
   intro a ha hl hr
   obtain ⟨y, hy, h1, h2⟩ := h.predL a ha (by omega)
   obtain ⟨x, hx, h3, h4, h5⟩ := h.predR y hy (by omega)
   exact ih x hx (by omega) (.go x y hx hy (by omega) h5 (.back y a hy ha (by omega) h2 hr))
 obtain ⟨y, hy, h1, h2⟩ := h.yes rfl
 obtain ⟨x, hx, h3, h4, h5⟩ := h.predR y hy h1
 exact key (ld x).toNat x hx (by omega) (.go x y hx hy (by omega) h5 (.opn y hy h2))
structure NKeep (n m : Nat) (ld rd : Nat → Int) (t t' : Int) (nr nl nr' nl' : Nat → Nat) : Prop where
 r : ∀ i, i < n → ld i < t → nr' i = nr i
 l : ∀ b, b < m → rd b < t' → nl' b = nl b
 rb : ∀ i, i < n → nr' i ≤ m
 lb : ∀ b, b < m → nl' b ≤ n
theorem NKeep.trans {n m : Nat} {ld rd : Nat → Int} {t t' u u' : Int} {nr nl nr1 nl1 nr2 nl2 : Nat → Nat} (h : NKeep n m ld rd t t' nr nl nr1 nl1) (k : NKeep n m ld rd u u' nr1 nl1 nr2 nl2) (h1 : t ≤ u) (h2 : t' ≤ u') : NKeep n m ld rd t t' nr nl nr2 nl2 :=
 ⟨fun i hi hl => (k.r i hi (by omega)).trans (h.r i hi hl), fun b hb hl => (k.l b hb (by omega)).trans (h.l b hb hl), k.rb, k.lb⟩
theorem NKeep.right {n m : Nat} {ld rd : Nat → Int} {t t' : Int} {nr nl nr1 nl1 : Nat → Nat} (h : NKeep n m ld rd t t' nr nl nr1 nl1) {a : Nat} (ha : t ≤ ld a) (hm : nr1 a < m) : NKeep n m ld rd t t' nr nl (updN nr1 a (nr1 a + 1)) nl1 := by
 refine ⟨fun i hi hl => ?_, h.l, fun i hi => ?_, h.lb⟩
 ·rw [updN_other (by intro e; subst e; omega)]; exact h.r i hi hl
 ·by_cases e : i = a
  ·subst e; rw [updN_same]; omega
  ·rw [updN_other e]; exact h.rb i hi
theorem NKeep.left {n m : Nat} {ld rd : Nat → Int} {t t' : Int} {nr nl nr1 nl1 : Nat → Nat} (h : NKeep n m ld rd t t' nr nl nr1 nl1) {b : Nat} (ha : t' ≤ rd b) (hm : nl1 b < n) : NKeep n m ld rd t t' nr nl nr1 (updN nl1 b (nl1 b + 1)) := by
 refine ⟨h.r, fun j hj hl => ?_, h.rb, fun j hj => ?_⟩
 ·rw [updN_other (by intro e; subst e; omega)]; exact h.l j hj hl
 ·by_cases e : j = b
  ·subst e; rw [updN_same]; omega
  ·rw [updN_other e]; exact h.lb j hj
structure FStep (n m : Nat) (rel : Nat → Nat → Bool) (rd : Nat → Int) (t : Int) (da dc : Nat → Int) (ri : Nat → Int) (mv : Nat → Nat → Int) (ri' : Nat → Int) (mv' : Nat → Nat → Int) : Prop where
 mv0 : ∀ a b, a < n → b < m → 0 ≤ mv' a b
 mvr : ∀ a b, a < n → b < m → rel a b = false → mv' a b = 0
 ri0 : ∀ b, b < m → 0 ≤ ri' b
 rows : ∀ i, i < n → sumN (fun b => mv' i b) m = sumN (fun b => mv i b) m + da i
 cols : ∀ b, b < m → ri' b + sumN (fun i => mv' i b) n = ri b + sumN (fun i => mv i b) n + dc b
 kp : ∀ i b, i < n → b < m → rd b < t → mv' i b = mv i b
def one (a : Nat) (w : Int) : Nat → Int := fun i => if i = a then w else 0
theorem FStep.direct {n m : Nat} {rel : Nat → Nat → Bool} {rd : Nat → Int} {t : Int} {ri : Nat → Int} {mv : Nat → Nat → Int} {a b : Nat} {w : Int} (h0 : ∀ a b, a < n → b < m → 0 ≤ mv a b) (hr : ∀ a b, a < n → b < m → rel a b = false → mv a b = 0)
    (hri : ∀ b, b < m → 0 ≤ ri b) (ha : a < n) (hb : b < m) (hrel : rel a b = true) (hw : 0 ≤ w) (hwr : w ≤ ri b) (ht : t ≤ rd b) : FStep n m rel rd t (one a w) (fun _ => 0) ri mv (upd ri b (ri b - w)) (upd2 mv a b (mv a b + w)) := by
 refine ⟨?_, ?_, ?_, ?_, ?_, ?_⟩
 ·intro i j hi hj
  by_cases e : i = a ∧ j = b
  ·obtain ⟨rfl, rfl⟩ := e; rw [upd2_same]; have := h0 i j hi hj; omega
  ·simp only [upd2, if_neg e]; exact h0 i j hi hj
 ·intro i j hi hj hf
  by_cases e : i = a ∧ j = b
  ·obtain ⟨rfl, rfl⟩ := e; rw [hrel] at hf; cases hf
  ·simp only [upd2, if_neg e]; exact hr i j hi hj hf
 ·intro j hj
  by_cases e : j = b
  ·subst e; rw [upd_same]; omega
  ·rw [upd_other e]; exact hri j hj
 ·intro i hi; rw [sum_row_upd2 hb]; rfl
 ·intro j hj
  rw [sum_col_upd2 ha]
  by_cases e : j = b
  ·subst e; rw [upd_same, if_pos rfl]; omega
  ·rw [upd_other e, if_neg e]; omega
 ·intro i j hi hj hl
  exact upd2_col i (by intro e; subst e; omega)
theorem FStep.row {n m : Nat} {rel : Nat → Nat → Bool} {rd : Nat → Int} {t : Int} {ri ri' : Nat → Int} {mv mv' : Nat → Nat → Int} {a b : Nat} {w : Int} (h : FStep n m rel rd (rd b) (fun _ => 0) (one b (-w)) ri mv ri' mv') (ha : a < n) (hb : b < m) (hrel : rel a b = true) (hw : 0 ≤ w) (ht : t ≤ rd b) :
    FStep n m rel rd t (one a w) (fun _ => 0) ri mv ri' (upd2 mv' a b (mv' a b + w)) := by
 refine ⟨?_, ?_, h.ri0, ?_, ?_, ?_⟩
 ·intro i j hi hj
  by_cases e : i = a ∧ j = b
  ·obtain ⟨rfl, rfl⟩ := e; rw [upd2_same]; have := h.mv0 i j hi hj; omega
  ·simp only [upd2, if_neg e]; exact h.mv0 i j hi hj
 ·intro i j hi hj hf
  by_cases e : i = a ∧ j = b
  ·obtain ⟨rfl, rfl⟩ := e; rw [hrel] at hf; cases hf
  ·simp only [upd2, if_neg e]; exact h.mvr i j hi hj hf
 ·intro i hi; rw [sum_row_upd2 hb, h.rows i hi]; unfold one; omega
 ·intro j hj
  rw [sum_col_upd2 ha]
  have := h.cols j hj
  unfold one at this
  by_cases e : j = b
  ·rw [if_pos e] at this ⊢; omega
  ·rw [if_neg e] at this ⊢; omega
 ·intro i j hi hj hl
  rw [upd2_col i (by intro e; subst e; omega)]; exact h.kp i j hi hj (by omega)
theorem FStep.col {n m : Nat} {rel : Nat → Nat → Bool} {ld rd : Nat → Int} {ri ri' : Nat → Int} {mv mv' : Nat → Nat → Int} {b c : Nat} {w : Int} (h : FStep n m rel rd (ld c + 1) (one c w) (fun _ => 0) ri mv ri' mv') (hc : c < n) (hb : b < m) (hd : ld c = rd b) (hw : 0 ≤ w) (hwm : w ≤ mv c b) :
    FStep n m rel rd (rd b) (fun _ => 0) (one b (-w)) ri mv ri' (upd2 mv' c b (mv' c b - w)) := by
 have hk := h.kp c b hc hb (by omega)
 have hs : upd2 mv' c b (mv' c b - w) = upd2 mv' c b (mv' c b + (-w)) := by rw [Int.sub_eq_add_neg]
 refine ⟨?_, ?_, h.ri0, ?_, ?_, ?_⟩
 ·intro i j hi hj
  by_cases e : i = c ∧ j = b
  ·obtain ⟨rfl, rfl⟩ := e; rw [upd2_same]; omega
  ·simp only [upd2, if_neg e]; exact h.mv0 i j hi hj
 ·intro i j hi hj hf
  by_cases e : i = c ∧ j = b
  ·obtain ⟨rfl, rfl⟩ := e
   rw [upd2_same]; have := h.mvr i j hi hj hf; omega
  ·simp only [upd2, if_neg e]; exact h.mvr i j hi hj hf
 ·intro i hi
  rw [hs, sum_row_upd2 hb, h.rows i hi]
  unfold one
  by_cases e : i = c
  ·simp only [if_pos e]; omega
  ·simp only [if_neg e]; omega
 ·intro j hj
  rw [hs, sum_col_upd2 hc]
  have := h.cols j hj
  unfold one
  by_cases e : j = b
  ·simp only [if_pos e]; omega
  ·simp only [if_neg e]; omega
 ·intro i j hi hj hl
  rw [upd2_col i (by intro e; subst e; omega)]; exact h.kp i j hi hj (by omega)
theorem Part.step {n m : Nat} {L R : Nat → Int} {rel : Nat → Nat → Bool} {mv mv' : Nat → Nat → Int} {le ri ri' : Nat → Int} {rd : Nat → Int} {t : Int} {a : Nat} {w : Int} (h : Part n m L R rel mv le ri) (hf : FStep n m rel rd t (one a w) (fun _ => 0) ri mv ri' mv') (hw : w ≤ le a) :
    Part n m L R rel mv' (upd le a (le a - w)) ri' := by
 refine ⟨hf.mv0, hf.mvr, ?_, hf.ri0, ?_, ?_⟩
 ·intro i hi
  by_cases e : i = a
  ·subst e; rw [upd_same]; omega
  ·rw [upd_other e]; exact h.le0 i hi
 ·intro i hi
  have h1 := h.rows i hi
  have h2 := hf.rows i hi
  unfold one at h2
  by_cases e : i = a
  ·subst e; rw [upd_same, h2, if_pos rfl]; omega
  ·rw [upd_other e, h2, if_neg e]; omega
 ·intro j hj
  have h1 := h.cols j hj
  have h2 := hf.cols j hj
  omega
theorem Asks.drewN {B : Nat} {P : Nat → Prop} {I : World → Prop} {n m : Nat} {rel : Nat → Nat → Bool} {g : Nat} {lb : Array Value} (h : Asks B P I n m rel g lb) {w : World} {k : Nat} (hI : I w) : I (w.drewN k) := h.same _ _ hI ⟨rfl, rfl, rfl, Nat.le_refl _, fun _ _ => rfl⟩
structure Dfs where
 x : Mv
 db : Nat
 eb : Nat
 pb : Nat
 q2 : Nat
 q3 : Nat
 q4 : Nat
 q5 : Nat
 nrb : Nat
 nlb : Nat
abbrev Dfs.fnM (y : Dfs) : Value := .func (.func 165) #[] #[.pointer (some ⟨y.q2, 0, none⟩), .pointer (some ⟨y.pb, 0, none⟩), .pointer (some ⟨y.q5, 0, none⟩)]
abbrev Dfs.fnT (y : Dfs) : Value := .func (.func 164) #[] #[.pointer (some ⟨y.q3, 0, none⟩), .pointer (some ⟨y.pb, 0, none⟩), .pointer (some ⟨y.q4, 0, none⟩)]
structure DfOk (y : Dfs) (B base : Nat) : Prop where
 o : MdOk y.x B y.db y.eb base
 p : base ≤ y.pb
 q2 : base ≤ y.q2
 q3 : base ≤ y.q3
 q4 : base ≤ y.q4
 q5 : base ≤ y.q5
 nr : base ≤ y.nrb
 nl : base ≤ y.nlb
 ne : y.nrb ≠ y.nlb
 r1 : y.nrb ≠ y.pb
 r2 : y.nrb ≠ y.q2
 r3 : y.nrb ≠ y.q3
 r4 : y.nrb ≠ y.q4
 r5 : y.nrb ≠ y.q5
 l1 : y.nlb ≠ y.pb
 l2 : y.nlb ≠ y.q2
 l3 : y.nlb ≠ y.q3
 l4 : y.nlb ≠ y.q4
 l5 : y.nlb ≠ y.q5
structure DfIn (y : Dfs) (fv : Value) (w : World) (le ri : Nat → Int) (mv : Nat → Nat → Int) (ld rd : Nat → Int) (nr nl : Nat → Nat) : Prop where
 d : MdIn y.x y.db y.eb fv w le ri mv ld rd
 bp : w.heap[y.pb]? = some (Obj.cells #[y.x.ptr] 186 (0, 0))
 b2 : w.heap[y.q2]? = some (Obj.cells #[.slice (some ⟨y.nrb, 0, none⟩) y.x.n y.x.n] 45 (0, 0))
 b3 : w.heap[y.q3]? = some (Obj.cells #[.slice (some ⟨y.nlb, 0, none⟩) y.x.m y.x.m] 45 (0, 0))
 b4 : w.heap[y.q4]? = some (Obj.cells #[y.fnM] 187 (0, 0))
 b5 : w.heap[y.q5]? = some (Obj.cells #[y.fnT] 187 (0, 0))
 rn : w.rowIs y.nrb 3 y.x.n (fun i => .int .i64 ((nr i : Nat) : Int))
 ln : w.rowIs y.nlb 3 y.x.m (fun i => .int .i64 ((nl i : Nat) : Int))
theorem DfIn.drew {y : Dfs} {fv : Value} {w : World} {le ri : Nat → Int} {mv : Nat → Nat → Int} {ld rd : Nat → Int} {nr nl : Nat → Nat} (h : DfIn y fv w le ri mv ld rd nr nl) : DfIn y fv w.drew le ri mv ld rd nr nl :=
 ⟨⟨h.d.m.drew, h.d.l, h.d.r⟩, h.bp, h.b2, h.b3, h.b4, h.b5, h.rn, h.ln⟩
theorem DfIn.drewN {y : Dfs} {fv : Value} {w : World} {le ri : Nat → Int} {mv : Nat → Nat → Int} {ld rd : Nat → Int} {nr nl : Nat → Nat} (k : Nat) (h : DfIn y fv w le ri mv ld rd nr nl) : DfIn y fv (w.drewN k) le ri mv ld rd nr nl :=
 ⟨⟨⟨h.d.m.st, h.d.m.left, h.d.m.right, h.d.m.moved, h.d.m.cols⟩, h.d.l, h.d.r⟩, h.bp, h.b2, h.b3, h.b4, h.b5, h.rn, h.ln⟩
theorem DfIn.kept {y : Dfs} {B base : Nat} {P : Nat → Prop} {fv : Value} {w w' : World} {le ri : Nat → Int} {mv : Nat → Nat → Int} {ld rd : Nat → Int} {nr nl : Nat → Nat} (h : DfIn y fv w le ri mv ld rd nr nl) (hy : DfOk y B base)
    (hP : ∀ k, P k → k < B) (hk : Kept P w w') : DfIn y fv w' le ri mv ld rd nr nl := by
 have h1 := hy.p
 have h2 := hy.q2
 have h3 := hy.q3
 have h4 := hy.q4
 have h5 := hy.q5
 have h6 := hy.nr
 have h7 := hy.nl
 have h8 : B ≤ base := by have := hy.o.o.l; have := hy.o.o.lv; have := hy.o.d; have := hy.o.dt; omega
 have h9 := heap_lt h.bp
 exact ⟨h.d.kept hy.o hk (fun k hp => Or.inl (hP k hp)) (by omega), hk.heap (fun hp => by have := hP _ hp; omega) h.bp, hk.heap (fun hp => by have := hP _ hp; omega) h.b2, hk.heap (fun hp => by have := hP _ hp; omega) h.b3,
  hk.heap (fun hp => by have := hP _ hp; omega) h.b4, hk.heap (fun hp => by have := hP _ hp; omega) h.b5, hk.rowIs (fun hp => by have := hP _ hp; omega) h.rn, hk.rowIs (fun hp => by have := hP _ hp; omega) h.ln⟩
theorem DfIn.setD {y : Dfs} {B base : Nat} {fv : Value} {w : World} {le ri : Nat → Int} {mv : Nat → Nat → Int} {ld rd : Nat → Int} {nr nl : Nat → Nat} {le' ri' : Nat → Int} {mv' : Nat → Nat → Int} (h : DfIn y fv w le ri mv ld rd nr nl) (hy : DfOk y B base) {p : Addr} {v : Value}
    (hp : p.block < base) (hd : MdIn y.x y.db y.eb fv (w.setCell p v) le' ri' mv' ld rd) : DfIn y fv (w.setCell p v) le' ri' mv' ld rd nr nl := by
 have h1 := hy.p
 have h2 := hy.q2
 have h3 := hy.q3
 have h4 := hy.q4
 have h5 := hy.q5
 have h6 := hy.nr
 have h7 := hy.nl
 exact ⟨hd, by rw [Below.heap_setCell _ _ _ _ (by omega)]; exact h.bp, by rw [Below.heap_setCell _ _ _ _ (by omega)]; exact h.b2, by rw [Below.heap_setCell _ _ _ _ (by omega)]; exact h.b3,
  by rw [Below.heap_setCell _ _ _ _ (by omega)]; exact h.b4, by rw [Below.heap_setCell _ _ _ _ (by omega)]; exact h.b5, h.rn.setOther (by omega) _, h.ln.setOther (by omega) _⟩
theorem MdIn.setM {x : Mv} {B db eb base : Nat} {fv : Value} {w : World} {le ri : Nat → Int} {mv : Nat → Nat → Int} {ld rd : Nat → Int} {le' ri' : Nat → Int} {mv' : Nat → Nat → Int} (h : MdIn x db eb fv w le ri mv ld rd) (hx : MdOk x B db eb base) {p : Addr} {v : Value}
    (hp : p.block < x.vb + 2 + x.m) (hm : MvIn x fv (.slice (some ⟨db, 0, none⟩) x.n x.n) (.slice (some ⟨eb, 0, none⟩) x.m x.m) (w.setCell p v) le' ri' mv') : MdIn x db eb fv (w.setCell p v) le' ri' mv' ld rd := by
 have h1 := hx.d
 have h2 := hx.e
 exact ⟨hm, h.l.setOther (by omega) _, h.r.setOther (by omega) _⟩
theorem DfIn.setRight {y : Dfs} {B base : Nat} {fv : Value} {w : World} {le ri : Nat → Int} {mv : Nat → Nat → Int} {ld rd : Nat → Int} {nr nl : Nat → Nat} (h : DfIn y fv w le ri mv ld rd nr nl) (hy : DfOk y B base) (b : Nat) (v : Int) :
    DfIn y fv (w.setCell ⟨y.x.rb, b, none⟩ (.int .i64 v)) le (upd ri b v) mv ld rd nr nl := by
 have h1 := hy.o.o.rv
 have h2 := hy.o.d
 have h3 := hy.o.dt
 exact h.setD hy (by simp; omega) (h.d.setM hy.o (by simp; omega) (h.d.m.setRight hy.o.o b v))
theorem DfIn.setLeft {y : Dfs} {B base : Nat} {fv : Value} {w : World} {le ri : Nat → Int} {mv : Nat → Nat → Int} {ld rd : Nat → Int} {nr nl : Nat → Nat} (h : DfIn y fv w le ri mv ld rd nr nl) (hy : DfOk y B base) (a : Nat) (v : Int) :
    DfIn y fv (w.setCell ⟨y.x.lb, a, none⟩ (.int .i64 v)) (upd le a v) ri mv ld rd nr nl := by
 have h1 := hy.o.o.lv
 have h2 := hy.o.d
 have h3 := hy.o.dt
 exact h.setD hy (by simp; omega) (h.d.setM hy.o (by simp; omega) (h.d.m.setLeft hy.o.o a v))
theorem DfIn.setMoved {y : Dfs} {B base : Nat} {fv : Value} {w : World} {le ri : Nat → Int} {mv : Nat → Nat → Int} {ld rd : Nat → Int} {nr nl : Nat → Nat} (h : DfIn y fv w le ri mv ld rd nr nl) (hy : DfOk y B base) {b : Nat} (hb : b < y.x.m) (a : Nat) (v : Int) :
    DfIn y fv (w.setCell ⟨y.x.vb + 2 + b, a, none⟩ (.int .i64 v)) le ri (upd2 mv a b v) ld rd nr nl := by
 have h2 := hy.o.d
 have h3 := hy.o.dt
 exact h.setD hy (by simp; omega) (h.d.setM hy.o (by simp; omega) (h.d.m.setMoved hy.o.o a v))
theorem rowN_set {w : World} {b n : Nat} {t : TypeId} {f : Nat → Nat} (h : w.rowIs b t n (fun i => .int .i64 ((f i : Nat) : Int))) (i x : Nat) {v : Int} (hv : v = (x : Int)) :
    (w.setCell ⟨b, i, none⟩ (.int .i64 v)).rowIs b t n (fun j => .int .i64 ((updN f i x j : Nat) : Int)) := by
 subst hv
 exact (h.set i (.int .i64 (x : Int))).congr (fun j _ => by unfold updN; by_cases e : j = i <;> simp [e])
theorem DfIn.setNr {y : Dfs} {B base : Nat} {fv : Value} {w : World} {le ri : Nat → Int} {mv : Nat → Nat → Int} {ld rd : Nat → Int} {nr nl : Nat → Nat} (h : DfIn y fv w le ri mv ld rd nr nl) (hy : DfOk y B base) (a x : Nat) {v : Int} (hv : v = (x : Int)) :
    DfIn y fv (w.setCell ⟨y.nrb, a, none⟩ (.int .i64 v)) le ri mv ld rd (updN nr a x) nl := by
 have h1 := hy.r1
 have h2 := hy.r2
 have h3 := hy.r3
 have h4 := hy.r4
 have h5 := hy.r5
 have h6 := hy.nr
 have h7 := hy.ne
 exact ⟨h.d.same hy.o (fun k _ hk => Below.heap_setCell _ _ _ _ (by simp; omega)), by rw [Below.heap_setCell _ _ _ _ (by simp; omega)]; exact h.bp, by rw [Below.heap_setCell _ _ _ _ (by simp; omega)]; exact h.b2, by rw [Below.heap_setCell _ _ _ _ (by simp; omega)]; exact h.b3,
  by rw [Below.heap_setCell _ _ _ _ (by simp; omega)]; exact h.b4, by rw [Below.heap_setCell _ _ _ _ (by simp; omega)]; exact h.b5, rowN_set h.rn a x hv, h.ln.setOther (by simp; omega) _⟩
theorem DfIn.setNl {y : Dfs} {B base : Nat} {fv : Value} {w : World} {le ri : Nat → Int} {mv : Nat → Nat → Int} {ld rd : Nat → Int} {nr nl : Nat → Nat} (h : DfIn y fv w le ri mv ld rd nr nl) (hy : DfOk y B base) (b x : Nat) {v : Int} (hv : v = (x : Int)) :
    DfIn y fv (w.setCell ⟨y.nlb, b, none⟩ (.int .i64 v)) le ri mv ld rd nr (updN nl b x) := by
 have h1 := hy.l1
 have h2 := hy.l2
 have h3 := hy.l3
 have h4 := hy.l4
 have h5 := hy.l5
 have h6 := hy.nl
 have h7 := hy.ne
 exact ⟨h.d.same hy.o (fun k _ hk => Below.heap_setCell _ _ _ _ (by simp; omega)), by rw [Below.heap_setCell _ _ _ _ (by simp; omega)]; exact h.bp, by rw [Below.heap_setCell _ _ _ _ (by simp; omega)]; exact h.b2, by rw [Below.heap_setCell _ _ _ _ (by simp; omega)]; exact h.b3,
  by rw [Below.heap_setCell _ _ _ _ (by simp; omega)]; exact h.b4, by rw [Below.heap_setCell _ _ _ _ (by simp; omega)]; exact h.b5, h.rn.setOther (by simp; omega) _, rowN_set h.ln b x hv⟩
structure DSt (n m : Nat) (rel : Nat → Nat → Bool) (ri : Nat → Int) (mv : Nat → Nat → Int) : Prop where
 mv0 : ∀ a b, a < n → b < m → 0 ≤ mv a b
 mvr : ∀ a b, a < n → b < m → rel a b = false → mv a b = 0
 ri0 : ∀ b, b < m → 0 ≤ ri b ∧ ri b ≤ 1152921504606846976
 rows : ∀ i, i < n → sumN (fun b => mv i b) m ≤ 1152921504606846976
theorem DSt.mv1 {n m : Nat} {rel : Nat → Nat → Bool} {ri : Nat → Int} {mv : Nat → Nat → Int} (h : DSt n m rel ri mv) {a b : Nat} (ha : a < n) (hb : b < m) : 0 ≤ mv a b ∧ mv a b ≤ 1152921504606846976 := by
 have h1 := h.rows a ha
 have h2 := sumN_elem (f := fun b => mv a b) (fun b hb => h.mv0 a b ha hb) hb
 have h3 := h.mv0 a b ha hb
 omega


theorem four_get (W : World) (o0 o1 o2 o3 : Obj) : ((((W.alloc o0).alloc o1).alloc o2).alloc o3).heap[W.heap.size]? = some o0 ∧ ((((W.alloc o0).alloc o1).alloc o2).alloc o3).heap[W.heap.size + 1]? = some o1 ∧
    ((((W.alloc o0).alloc o1).alloc o2).alloc o3).heap[W.heap.size + 1 + 1]? = some o2 ∧ ((((W.alloc o0).alloc o1).alloc o2).alloc o3).heap[W.heap.size + 1 + 1 + 1]? = some o3 := by
 have h0 := heap_new W o0
 have h1 := heap_new (W.alloc o0) o1
 have h2 := heap_new ((W.alloc o0).alloc o1) o2
 have h3 := heap_new (((W.alloc o0).alloc o1).alloc o2) o3
 have s0 : (W.alloc o0).heap.size = W.heap.size + 1 := by simp
 have s1 : ((W.alloc o0).alloc o1).heap.size = W.heap.size + 1 + 1 := by simp
 have s2 : (((W.alloc o0).alloc o1).alloc o2).heap.size = W.heap.size + 1 + 1 + 1 := by simp
 rw [s0] at h1
 rw [s1] at h2
 rw [s2] at h3
 refine ⟨?_, ?_, ?_, h3⟩
 ·rw [Below.heap_alloc _ _ _ (by rw [s2]; omega), Below.heap_alloc _ _ _ (by rw [s1]; omega), Below.heap_alloc _ _ _ (by rw [s0]; omega)]; exact h0
 ·rw [Below.heap_alloc _ _ _ (by rw [s2]; omega), Below.heap_alloc _ _ _ (by rw [s1]; omega)]; exact h1
 ·rw [Below.heap_alloc _ _ _ (by rw [s2]; omega)]; exact h2
theorem four_below (W : World) (o0 o1 o2 o3 : Obj) : Below W.heap.size W ((((W.alloc o0).alloc o1).alloc o2).alloc o3).drew :=
 ((ba2 _ _ _).alloc (by simp; omega) _ |>.alloc (by simp; omega) _).drew
theorem lkNew {w : World} {k : Nat} {o o' : Obj} (h : k = w.heap.size) (ho : o = o') : (w.alloc o).heap[k]? = some o' := by subst h ho; exact heap_new _ _
theorem lkOld {w : World} {k : Nat} {o o' : Obj} (h : w.heap[k]? = some o') : (w.alloc o).heap[k]? = some o' := by rw [Below.heap_alloc _ _ _ (heap_lt h)]; exact h
def Prg (n m : Nat) (rel : Nat → Nat → Bool) (ld rd le ri : Nat → Int) (mv : Nat → Nat → Int) (k : Nat) (le1 ri1 : Nat → Int) (mv1 : Nat → Nat → Int) (nr1 nl1 : Nat → Nat) : Prop :=
 sumN le1 n < sumN le n ∨ (le1 = le ∧ ri1 = ri ∧ mv1 = mv ∧ Dead n m rel ld rd ri mv nr1 nl1 ∧ ∀ a, a < k → 0 < le a → ¬ Rch n m rel ld rd ri mv false a)
theorem Prg.next {n m : Nat} {rel : Nat → Nat → Bool} {ld rd le ri : Nat → Int} {mv : Nat → Nat → Int} {k : Nat} {le1 ri1 : Nat → Int} {mv1 : Nat → Nat → Int} {nr1 nl1 : Nat → Nat} (h : Prg n m rel ld rd le ri mv k le1 ri1 mv1 nr1 nl1)
    (hk : le1 = le → 0 < le k → ¬ Rch n m rel ld rd ri mv false k) : Prg n m rel ld rd le ri mv (k + 1) le1 ri1 mv1 nr1 nl1 := by
 rcases h with h | ⟨h1, h2, h3, h4, h5⟩
 ·exact Or.inl h
 ·refine Or.inr ⟨h1, h2, h3, h4, fun a ha hl => ?_⟩
  by_cases e : a = k
  ·subst e; exact hk h1 hl
  ·exact h5 a (by omega) hl
theorem Part.dst {n m : Nat} {L R : Nat → Int} {rel : Nat → Nat → Bool} {mv : Nat → Nat → Int} {le ri : Nat → Int} (h : Part n m L R rel mv le ri) (hS : Sml n m L R) : DSt n m rel ri mv :=
 ⟨h.mv0, h.mvr, fun b hb => ⟨h.ri0 b hb, by have := h.ri_R hb; have := hS.r b hb; omega⟩, fun i hi => by have := h.rows i hi; have := h.le0 i hi; have := hS.l i hi; omega⟩
structure Rg1 (W wx : World) (n m q2 q3 nrb nlb : Nat) : Prop where
 b2 : wx.heap[q2]? = some (Obj.cells #[.slice (some ⟨nrb, 0, none⟩) n n] 45 (0, 0))
 b3 : wx.heap[q3]? = some (Obj.cells #[.slice (some ⟨nlb, 0, none⟩) m m] 45 (0, 0))
 rn : wx.heap[nrb]? = some (Obj.cells (madeCells #[.int .i64 0] n) 3 (0, 0))
 ln : wx.heap[nlb]? = some (Obj.cells (madeCells #[.int .i64 0] m) 3 (0, 0))
 l : W.heap.size ≤ q2 ∧ W.heap.size ≤ q3 ∧ W.heap.size ≤ nrb ∧ W.heap.size ≤ nlb
 ne : nrb ≠ nlb ∧ nrb ≠ q2 ∧ nrb ≠ q3 ∧ nlb ≠ q2 ∧ nlb ≠ q3
 lo : Below W.heap.size W wx
theorem row_of_made {w : World} {b n : Nat} {t : TypeId} {z : Value} (h : w.heap[b]? = some (Obj.cells (madeCells #[z] n) t (0, 0))) : w.rowIs b t n (fun _ => z) :=
 ⟨_, h, size_madeCells _ _, fun i hi => by simp [madeCells, hi, Nat.mod_one]⟩
theorem Flow.sums {n m : Nat} {L R : Nat → Int} {rel : Nat → Nat → Bool} (h : Flow n m L R rel) : sumN L n = sumN R m := by
 obtain ⟨f, _, _, h1, h2⟩ := h
 rw [← sumN_congr n h1, ← sumN_congr m h2, sumN_swap]
theorem lkSet {u : World} {k b i : Nat} {v : Value} {o : Obj} (hk : k ≠ b) (h : u.heap[k]? = some o) : (u.setCell ⟨b, i, none⟩ v).heap[k]? = some o := by
 rw [Below.heap_setCell _ _ _ _ (by simpa using hk)]; exact h
theorem stSet4 {u : World} {b : Nat} {x0 x1 x2 x3 x4 x5 v : Value} {t : TypeId} (h : u.heap[b]? = some (.cells #[x0, x1, x2, x3, x4, x5] t (0, 0))) : (u.setCell ⟨b, 4, none⟩ v).heap[b]? = some (.cells #[x0, x1, x2, x3, v, x5] t (0, 0)) := by
 simp [World.setCell, Array.getElem?_modify, h]
theorem stSet5 {u : World} {b : Nat} {x0 x1 x2 x3 x4 x5 v : Value} {t : TypeId} (h : u.heap[b]? = some (.cells #[x0, x1, x2, x3, x4, x5] t (0, 0))) : (u.setCell ⟨b, 5, none⟩ v).heap[b]? = some (.cells #[x0, x1, x2, x3, x4, v] t (0, 0)) := by
 simp [World.setCell, Array.getElem?_modify, h]
theorem lkDrew {u : World} {k : Nat} {o : Obj} (h : u.heap[k]? = some o) : u.drew.heap[k]? = some o := h
structure Rg2 (w wx : World) (vb n m db eb : Nat) (x0 x1 x2 x3 : Value) : Prop where
 st : wx.heap[vb + 1]? = some (Obj.cells #[x0, x1, x2, x3, .slice (some ⟨db, 0, none⟩) n n, .slice (some ⟨eb, 0, none⟩) m m] 163 (0, 0))
 l : wx.heap[db]? = some (Obj.cells (madeCells #[.int .i64 0] n) 3 (0, 0))
 r : wx.heap[eb]? = some (Obj.cells (madeCells #[.int .i64 0] m) 3 (0, 0))
 ne : w.heap.size ≤ db ∧ w.heap.size ≤ eb ∧ db ≠ eb
 oth : Oth (vb + 1) w wx
structure Rem where
 n : Nat
 m : Nat
 bm : Nat
 bk : Nat
 bd : Nat
 ba : Nat
 kb : Nat
 ab : Nat
def Rem.lb (y : Rem) : Array Value := #[.pointer (some ⟨y.bm, 0, none⟩), .pointer (some ⟨y.bk, 0, none⟩), .pointer (some ⟨y.bd, 0, none⟩), .pointer (some ⟨y.ba, 0, none⟩)]
structure RemIn (y : Rem) (g : Nat) (lb : Array Value) (rel : Nat → Nat → Bool) (w : World) (kn an : Nat → Bool) : Prop where
 m : w.heap[y.bm]? = some (Obj.cells #[.int .i64 (y.m : Int)] 3 (0, 0))
 k : w.heap[y.bk]? = some (Obj.cells #[.slice (some ⟨y.kb, 0, none⟩) (y.n * y.m) (y.n * y.m)] 85 (0, 0))
 d : w.heap[y.bd]? = some (Obj.cells #[.func (.func g) #[] lb] 94 (0, 0))
 a : w.heap[y.ba]? = some (Obj.cells #[.slice (some ⟨y.ab, 0, none⟩) (y.n * y.m) (y.n * y.m)] 85 (0, 0))
 rk : w.rowIs y.kb 4 (y.n * y.m) (fun i => .bool (kn i))
 ra : w.rowIs y.ab 4 (y.n * y.m) (fun i => .bool (an i))
 ok : ∀ a b, a < y.n → b < y.m → kn (a * y.m + b) = true → an (a * y.m + b) = rel a b
structure RemOk (y : Rem) (B0 B1 : Nat) : Prop where
 n : y.n ≤ 1000
 m : y.m ≤ 1000
 lo : B0 ≤ y.bm ∧ B0 ≤ y.bk ∧ B0 ≤ y.bd ∧ B0 ≤ y.ba ∧ B0 ≤ y.kb ∧ B0 ≤ y.ab
 hi : y.bm < B1 ∧ y.bk < B1 ∧ y.bd < B1 ∧ y.ba < B1 ∧ y.kb < B1 ∧ y.ab < B1
 ne : y.kb ≠ y.ab ∧ y.kb ≠ y.bm ∧ y.kb ≠ y.bk ∧ y.kb ≠ y.bd ∧ y.kb ≠ y.ba ∧ y.ab ≠ y.bm ∧ y.ab ≠ y.bk ∧ y.ab ≠ y.bd ∧ y.ab ≠ y.ba
def RemP (y : Rem) (P0 : Nat → Prop) : Nat → Prop := fun k => P0 k ∨ k = y.kb ∨ k = y.ab
theorem RemIn.same {y : Rem} {B0 B1 : Nat} {g : Nat} {lb : Array Value} {rel : Nat → Nat → Bool} {w w' : World} {kn an : Nat → Bool} (h : RemIn y g lb rel w kn an) (hy : RemOk y B0 B1) (hk : ∀ k, B0 ≤ k → k < B1 → w'.heap[k]? = w.heap[k]?) : RemIn y g lb rel w' kn an := by
 obtain ⟨l1, l2, l3, l4, l5, l6⟩ := hy.lo
 obtain ⟨h1, h2, h3, h4, h5, h6⟩ := hy.hi
 exact ⟨by rw [hk _ l1 h1]; exact h.m, by rw [hk _ l2 h2]; exact h.k, by rw [hk _ l3 h3]; exact h.d, by rw [hk _ l4 h4]; exact h.a, h.rk.of_block (hk _ l5 h5), h.ra.of_block (hk _ l6 h6), h.ok⟩
theorem rowB_set {w : World} {b n : Nat} {t : TypeId} {f : Nat → Bool} (h : w.rowIs b t n (fun i => .bool (f i))) (i : Nat) (x : Bool) :
    (w.setCell ⟨b, i, none⟩ (.bool x)).rowIs b t n (fun j => .bool (if j = i then x else f j)) :=
 (h.set i (.bool x)).congr (fun j _ => by by_cases e : j = i <;> simp [e])
theorem RemIn.learn {y : Rem} {B0 B1 : Nat} {g : Nat} {lb : Array Value} {rel : Nat → Nat → Bool} {w : World} {kn an : Nat → Bool} (h : RemIn y g lb rel w kn an) (hy : RemOk y B0 B1) {a b : Nat} (ha : a < y.n) (hb : b < y.m) :
    RemIn y g lb rel ((w.setCell ⟨y.ab, a * y.m + b, none⟩ (.bool (rel a b))).setCell ⟨y.kb, a * y.m + b, none⟩ (.bool true)) (fun j => if j = a * y.m + b then true else kn j) (fun j => if j = a * y.m + b then rel a b else an j) := by
 obtain ⟨n1, n2, n3, n4, n5, n6, n7, n8, n9⟩ := hy.ne
 refine ⟨lkSet (Ne.symm n2) (lkSet (Ne.symm n6) h.m), lkSet (Ne.symm n3) (lkSet (Ne.symm n7) h.k), lkSet (Ne.symm n4) (lkSet (Ne.symm n8) h.d), lkSet (Ne.symm n5) (lkSet (Ne.symm n9) h.a),
  rowB_set (h.rk.setOther (by simpa using n1) _) _ _, (rowB_set h.ra _ _).setOther (by simpa using Ne.symm n1) _, fun a' b' ha' hb' hk => ?_⟩
 by_cases e : a' * y.m + b' = a * y.m + b
 ·have hm : 0 < y.m := by omega
  have e1 : a' = a := by
   have h1 : (a' * y.m + b') / y.m = a' := by rw [Nat.add_comm, Nat.add_mul_div_right _ _ hm, Nat.div_eq_of_lt hb']; omega
   have h2 : (a * y.m + b) / y.m = a := by rw [Nat.add_comm, Nat.add_mul_div_right _ _ hm, Nat.div_eq_of_lt hb]; omega
   rw [← h1, ← h2, e]
  subst e1
  have e2 : b' = b := by omega
  subst e2
  simp
 ·simp only [if_neg e] at hk ⊢
  exact h.ok a' b' ha' hb' hk
theorem lkCell {u : World} {b o c i : Nat} {v x : Value} (hk : b ≠ c) (h : u.cell? ⟨b, o, none⟩ = some x) : (u.setCell ⟨c, i, none⟩ v).cell? ⟨b, o, none⟩ = some x := by
 unfold World.cell? at h ⊢
 simp only at h ⊢
 rw [Below.heap_setCell _ _ _ _ (by simpa using hk)]; exact h
theorem idx_lt {a b n m : Nat} (ha : a < n) (hb : b < m) : a * m + b < n * m := by
 have h1 : (a + 1) * m ≤ n * m := Nat.mul_le_mul_right m ha
 rw [Nat.add_mul] at h1
 omega

end Go.Proofs.YtcekilcgpgjooaaGreatDoor
