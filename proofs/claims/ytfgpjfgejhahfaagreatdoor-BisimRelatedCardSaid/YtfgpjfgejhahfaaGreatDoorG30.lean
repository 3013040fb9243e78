/-
  Proved here: contracts of the walk to BisimRelated: a path; each under the conditions that its own statement names.
-/
import Derived.Test.YtfgpjfgejhahfaaGreatDoorG03
import Derived.Test.YtfgpjfgejhahfaaGreatDoorG29
import Derived.Deep.RegionHeld3
import Derived.Deep.LoopGhost
import Derived.Deep.QuietTactic
namespace Go.Proofs.YtfgpjfgejhahfaaGreatDoor
open Go Go.RowKit

/-- From a column (true) or a row (false) there is a way, of growing depth, to a column of which something is open. -/
inductive Rch (n m : Nat) (rel : Nat → Nat → Bool) (ld rd : Nat → Int) (ri : Nat → Int) (mv : Nat → Nat → Int) : Bool → Nat → Prop where
  | opn (b : Nat) : b < m → 0 < ri b → Rch n m rel ld rd ri mv true b
  | back (b c : Nat) : b < m → c < n → ld c = rd b → 0 < mv c b → Rch n m rel ld rd ri mv false c → Rch n m rel ld rd ri mv true b
  | go (a b : Nat) : a < n → b < m → rd b = ld a + 1 → rel a b = true → Rch n m rel ld rd ri mv true b → Rch n m rel ld rd ri mv false a

/-- What the marks say: arcs before them lead nowhere. -/
def Dead (n m : Nat) (rel : Nat → Nat → Bool) (ld rd : Nat → Int) (ri : Nat → Int) (mv : Nat → Nat → Int) (nr nl : Nat → Nat) : Prop :=
  (∀ a b, a < n → b < m → b < nr a → rd b = ld a + 1 → rel a b = true → ¬ Rch n m rel ld rd ri mv true b) ∧
  (∀ b c, b < m → c < n → c < nl b → ld c = rd b → 0 < mv c b → ¬ Rch n m rel ld rd ri mv false c)
def updN (f : Nat → Nat) (i x : Nat) : Nat → Nat := fun j => if j = i then x else f j
theorem updN_same (f : Nat → Nat) (i x : Nat) : updN f i x i = x := by simp [updN]
theorem updN_other {f : Nat → Nat} {i j x : Nat} (h : j ≠ i) : updN f i x j = f j := by simp [updN, h]

theorem Dead.start {n m : Nat} {rel : Nat → Nat → Bool} {ld rd ri : Nat → Int} {mv : Nat → Nat → Int} : Dead n m rel ld rd ri mv (fun _ => 0) (fun _ => 0) :=
  ⟨fun _ _ _ _ h => absurd h (Nat.not_lt_zero _), fun _ _ _ _ h => absurd h (Nat.not_lt_zero _)⟩
theorem Dead.right {n m : Nat} {rel : Nat → Nat → Bool} {ld rd ri : Nat → Int} {mv : Nat → Nat → Int} {nr nl : Nat → Nat} (h : Dead n m rel ld rd ri mv nr nl) {a : Nat}
    (hd : rd (nr a) = ld a + 1 → rel a (nr a) = true → ¬ Rch n m rel ld rd ri mv true (nr a)) : Dead n m rel ld rd ri mv (updN nr a (nr a + 1)) nl := by
  refine ⟨fun i b hi hb hlt h1 h2 => ?_, h.2⟩
  by_cases e : i = a
  · subst e
    rw [updN_same] at hlt
    by_cases e2 : b = nr i
    · subst e2; exact hd h1 h2
    · exact h.1 i b hi hb (by omega) h1 h2
  · rw [updN_other e] at hlt; exact h.1 i b hi hb hlt h1 h2
theorem Dead.left {n m : Nat} {rel : Nat → Nat → Bool} {ld rd ri : Nat → Int} {mv : Nat → Nat → Int} {nr nl : Nat → Nat} (h : Dead n m rel ld rd ri mv nr nl) {b : Nat}
    (hd : ld (nl b) = rd b → 0 < mv (nl b) b → ¬ Rch n m rel ld rd ri mv false (nl b)) : Dead n m rel ld rd ri mv nr (updN nl b (nl b + 1)) := by
  refine ⟨h.1, fun j c hj hc hlt h1 h2 => ?_⟩
  by_cases e : j = b
  · subst e
    rw [updN_same] at hlt
    by_cases e2 : c = nl j
    · subst e2; exact hd h1 h2
    · exact h.2 j c hj hc (by omega) h1 h2
  · rw [updN_other e] at hlt; exact h.2 j c hj hc hlt h1 h2
theorem Dead.row {n m : Nat} {rel : Nat → Nat → Bool} {ld rd ri : Nat → Int} {mv : Nat → Nat → Int} {nr nl : Nat → Nat} (h : Dead n m rel ld rd ri mv nr nl) {a : Nat} (ha : m ≤ nr a) : ¬ Rch n m rel ld rd ri mv false a := by
  intro hr
  cases hr with
  | go _ b h1 h2 h3 h4 h5 => exact h.1 a b h1 h2 (by omega) h3 h4 h5
theorem Dead.col {n m : Nat} {rel : Nat → Nat → Bool} {ld rd ri : Nat → Int} {mv : Nat → Nat → Int} {nr nl : Nat → Nat} (h : Dead n m rel ld rd ri mv nr nl) {b : Nat} (hb : n ≤ nl b) (h0 : ri b ≤ 0) : ¬ Rch n m rel ld rd ri mv true b := by
  intro hr
  cases hr with
  | opn _ h1 h2 => omega
  | back _ c h1 h2 h3 h4 h5 => exact h.2 b c h1 h2 (by omega) h3 h4 h5

/-- Where there is a path there is a row to begin with. -/
theorem Depths.path {n m : Nat} {rel : Nat → Nat → Bool} {mv : Nat → Nat → Int} {le ri ld rd : Nat → Int} (h : Depths n m rel mv le ri ld rd true) : ∃ a, a < n ∧ 0 < le a ∧ Rch n m rel ld rd ri mv false a := by
  have key : ∀ (d : Nat) (a : Nat), a < n → ld a = d → Rch n m rel ld rd ri mv false a → ∃ a, a < n ∧ 0 < le a ∧ Rch n m rel ld rd ri mv false a := by
    intro d
    induction d with
    | zero => intro a ha hl hr; exact ⟨a, ha, h.root a ha (by omega), hr⟩
    | succ d ih =>
      intro a ha hl hr
      obtain ⟨y, hy, h1, h2⟩ := h.predL a ha (by omega)
      obtain ⟨x, hx, h3, h4, h5⟩ := h.predR y hy (by omega)
      exact ih x hx (by omega) (.go x y hx hy (by omega) h5 (.back y a hy ha (by omega) h2 hr))
  obtain ⟨y, hy, h1, h2⟩ := h.yes rfl
  obtain ⟨x, hx, h3, h4, h5⟩ := h.predR y hy h1
  exact key (ld x).toNat x hx (by omega) (.go x y hx hy (by omega) h5 (.opn y hy h2))

/-- The marks of less deep rows and columns stand. -/
structure NKeep (n m : Nat) (ld rd : Nat → Int) (t t' : Int) (nr nl nr' nl' : Nat → Nat) : Prop where
  r : ∀ i, i < n → ld i < t → nr' i = nr i
  l : ∀ b, b < m → rd b < t' → nl' b = nl b
  rb : ∀ i, i < n → nr' i ≤ m
  lb : ∀ b, b < m → nl' b ≤ n
theorem NKeep.trans {n m : Nat} {ld rd : Nat → Int} {t t' u u' : Int} {nr nl nr1 nl1 nr2 nl2 : Nat → Nat} (h : NKeep n m ld rd t t' nr nl nr1 nl1) (k : NKeep n m ld rd u u' nr1 nl1 nr2 nl2) (h1 : t ≤ u) (h2 : t' ≤ u') : NKeep n m ld rd t t' nr nl nr2 nl2 :=
  ⟨fun i hi hl => (k.r i hi (by omega)).trans (h.r i hi hl), fun b hb hl => (k.l b hb (by omega)).trans (h.l b hb hl), k.rb, k.lb⟩
theorem NKeep.right {n m : Nat} {ld rd : Nat → Int} {t t' : Int} {nr nl nr1 nl1 : Nat → Nat} (h : NKeep n m ld rd t t' nr nl nr1 nl1) {a : Nat} (ha : t ≤ ld a) (hm : nr1 a < m) : NKeep n m ld rd t t' nr nl (updN nr1 a (nr1 a + 1)) nl1 := by
  refine ⟨fun i hi hl => ?_, h.l, fun i hi => ?_, h.lb⟩
  · rw [updN_other (by intro e; subst e; omega)]; exact h.r i hi hl
  · by_cases e : i = a
    · subst e; rw [updN_same]; omega
    · rw [updN_other e]; exact h.rb i hi
theorem NKeep.left {n m : Nat} {ld rd : Nat → Int} {t t' : Int} {nr nl nr1 nl1 : Nat → Nat} (h : NKeep n m ld rd t t' nr nl nr1 nl1) {b : Nat} (ha : t' ≤ rd b) (hm : nl1 b < n) : NKeep n m ld rd t t' nr nl nr1 (updN nl1 b (nl1 b + 1)) := by
  refine ⟨h.r, fun j hj hl => ?_, h.rb, fun j hj => ?_⟩
  · rw [updN_other (by intro e; subst e; omega)]; exact h.l j hj hl
  · by_cases e : j = b
    · subst e; rw [updN_same]; omega
    · rw [updN_other e]; exact h.lb j hj

/-- Something has been moved: the rows' sums are greater by da, the columns' (with what is open) by dc; columns less deep than t stand. -/
structure FStep (n m : Nat) (rel : Nat → Nat → Bool) (rd : Nat → Int) (t : Int) (da dc : Nat → Int) (ri : Nat → Int) (mv : Nat → Nat → Int) (ri' : Nat → Int) (mv' : Nat → Nat → Int) : Prop where
  mv0 : ∀ a b, a < n → b < m → 0 ≤ mv' a b
  mvr : ∀ a b, a < n → b < m → rel a b = false → mv' a b = 0
  ri0 : ∀ b, b < m → 0 ≤ ri' b
  rows : ∀ i, i < n → sumN (fun b => mv' i b) m = sumN (fun b => mv i b) m + da i
  cols : ∀ b, b < m → ri' b + sumN (fun i => mv' i b) n = ri b + sumN (fun i => mv i b) n + dc b
  kp : ∀ i b, i < n → b < m → rd b < t → mv' i b = mv i b
def one (a : Nat) (w : Int) : Nat → Int := fun i => if i = a then w else 0
theorem FStep.direct {n m : Nat} {rel : Nat → Nat → Bool} {rd : Nat → Int} {t : Int} {ri : Nat → Int} {mv : Nat → Nat → Int} {a b : Nat} {w : Int} (h0 : ∀ a b, a < n → b < m → 0 ≤ mv a b) (hr : ∀ a b, a < n → b < m → rel a b = false → mv a b = 0)
    (hri : ∀ b, b < m → 0 ≤ ri b) (ha : a < n) (hb : b < m) (hrel : rel a b = true) (hw : 0 ≤ w) (hwr : w ≤ ri b) (ht : t ≤ rd b) : FStep n m rel rd t (one a w) (fun _ => 0) ri mv (upd ri b (ri b - w)) (upd2 mv a b (mv a b + w)) := by
  refine ⟨?_, ?_, ?_, ?_, ?_, ?_⟩
  · intro i j hi hj
    by_cases e : i = a ∧ j = b
    · obtain ⟨rfl, rfl⟩ := e; rw [upd2_same]; have := h0 i j hi hj; omega
    · simp only [upd2, if_neg e]; exact h0 i j hi hj
  · intro i j hi hj hf
    by_cases e : i = a ∧ j = b
    · obtain ⟨rfl, rfl⟩ := e; rw [hrel] at hf; cases hf
    · simp only [upd2, if_neg e]; exact hr i j hi hj hf
  · intro j hj
    by_cases e : j = b
    · subst e; rw [upd_same]; omega
    · rw [upd_other e]; exact hri j hj
  · intro i hi; rw [sum_row_upd2 hb]; rfl
  · intro j hj
    rw [sum_col_upd2 ha]
    by_cases e : j = b
    · subst e; rw [upd_same, if_pos rfl]; omega
    · rw [upd_other e, if_neg e]; omega
  · intro i j hi hj hl
    exact upd2_col i (by intro e; subst e; omega)
theorem FStep.row {n m : Nat} {rel : Nat → Nat → Bool} {rd : Nat → Int} {t : Int} {ri ri' : Nat → Int} {mv mv' : Nat → Nat → Int} {a b : Nat} {w : Int} (h : FStep n m rel rd (rd b) (fun _ => 0) (one b (-w)) ri mv ri' mv') (ha : a < n) (hb : b < m) (hrel : rel a b = true) (hw : 0 ≤ w) (ht : t ≤ rd b) :
    FStep n m rel rd t (one a w) (fun _ => 0) ri mv ri' (upd2 mv' a b (mv' a b + w)) := by
  refine ⟨?_, ?_, h.ri0, ?_, ?_, ?_⟩
  · intro i j hi hj
    by_cases e : i = a ∧ j = b
    · obtain ⟨rfl, rfl⟩ := e; rw [upd2_same]; have := h.mv0 i j hi hj; omega
    · simp only [upd2, if_neg e]; exact h.mv0 i j hi hj
  · intro i j hi hj hf
    by_cases e : i = a ∧ j = b
    · obtain ⟨rfl, rfl⟩ := e; rw [hrel] at hf; cases hf
    · simp only [upd2, if_neg e]; exact h.mvr i j hi hj hf
  · intro i hi; rw [sum_row_upd2 hb, h.rows i hi]; unfold one; omega
  · intro j hj
    rw [sum_col_upd2 ha]
    have := h.cols j hj
    unfold one at this
    by_cases e : j = b
    · rw [if_pos e] at this ⊢; omega
    · rw [if_neg e] at this ⊢; omega
  · intro i j hi hj hl
    rw [upd2_col i (by intro e; subst e; omega)]; exact h.kp i j hi hj (by omega)
theorem FStep.col {n m : Nat} {rel : Nat → Nat → Bool} {ld rd : Nat → Int} {ri ri' : Nat → Int} {mv mv' : Nat → Nat → Int} {b c : Nat} {w : Int} (h : FStep n m rel rd (ld c + 1) (one c w) (fun _ => 0) ri mv ri' mv') (hc : c < n) (hb : b < m) (hd : ld c = rd b) (hw : 0 ≤ w) (hwm : w ≤ mv c b) :
    FStep n m rel rd (rd b) (fun _ => 0) (one b (-w)) ri mv ri' (upd2 mv' c b (mv' c b - w)) := by
  have hk := h.kp c b hc hb (by omega)
  have hs : upd2 mv' c b (mv' c b - w) = upd2 mv' c b (mv' c b + (-w)) := by rw [Int.sub_eq_add_neg]
  refine ⟨?_, ?_, h.ri0, ?_, ?_, ?_⟩
  · intro i j hi hj
    by_cases e : i = c ∧ j = b
    · obtain ⟨rfl, rfl⟩ := e; rw [upd2_same]; omega
    · simp only [upd2, if_neg e]; exact h.mv0 i j hi hj
  · intro i j hi hj hf
    by_cases e : i = c ∧ j = b
    · obtain ⟨rfl, rfl⟩ := e
      rw [upd2_same]; have := h.mvr i j hi hj hf; omega
    · simp only [upd2, if_neg e]; exact h.mvr i j hi hj hf
  · intro i hi
    rw [hs, sum_row_upd2 hb, h.rows i hi]
    unfold one
    by_cases e : i = c
    · simp only [if_pos e]; omega
    · simp only [if_neg e]; omega
  · intro j hj
    rw [hs, sum_col_upd2 hc]
    have := h.cols j hj
    unfold one
    by_cases e : j = b
    · simp only [if_pos e]; omega
    · simp only [if_neg e]; omega
  · intro i j hi hj hl
    rw [upd2_col i (by intro e; subst e; omega)]; exact h.kp i j hi hj (by omega)
/-- The outer step: what has been moved is no longer left. -/
theorem Part.step {n m : Nat} {L R : Nat → Int} {rel : Nat → Nat → Bool} {mv mv' : Nat → Nat → Int} {le ri ri' : Nat → Int} {rd : Nat → Int} {t : Int} {a : Nat} {w : Int} (h : Part n m L R rel mv le ri) (hf : FStep n m rel rd t (one a w) (fun _ => 0) ri mv ri' mv') (hw : w ≤ le a) :
    Part n m L R rel mv' (upd le a (le a - w)) ri' := by
  refine ⟨hf.mv0, hf.mvr, ?_, hf.ri0, ?_, ?_⟩
  · intro i hi
    by_cases e : i = a
    · subst e; rw [upd_same]; omega
    · rw [upd_other e]; exact h.le0 i hi
  · intro i hi
    have h1 := h.rows i hi
    have h2 := hf.rows i hi
    unfold one at h2
    by_cases e : i = a
    · subst e; rw [upd_same, h2, if_pos rfl]; omega
    · rw [upd_other e, h2, if_neg e]; omega
  · intro j hj
    have h1 := h.cols j hj
    have h2 := hf.cols j hj
    omega
end Go.Proofs.YtfgpjfgejhahfaaGreatDoor

namespace Go.Proofs.YtfgpjfgejhahfaaGreatDoor
open Go Go.RowKit

theorem Asks.drewN {B : Nat} {P : Nat → Prop} {I : World → Prop} {n m : Nat} {rel : Nat → Nat → Bool} {g : Nat} {lb : Array Value} (h : Asks B P I n m rel g lb) {w : World} {k : Nat} (hI : I w) : I (w.drewN k) := h.same _ _ hI ⟨rfl, rfl, rfl, Nat.le_refl _, fun _ _ => rfl⟩

/-- Where the two closures' variables lie. -/
structure Dfs where
  x : Mv
  db : Nat
  eb : Nat
  pb : Nat
  q2 : Nat
  q3 : Nat
  q4 : Nat
  q5 : Nat
  nrb : Nat
  nlb : Nat
abbrev Dfs.fnM (y : Dfs) : Value := .func (.func 170) #[] #[.pointer (some ⟨y.q2, 0, none⟩), .pointer (some ⟨y.pb, 0, none⟩), .pointer (some ⟨y.q5, 0, none⟩)]
abbrev Dfs.fnT (y : Dfs) : Value := .func (.func 169) #[] #[.pointer (some ⟨y.q3, 0, none⟩), .pointer (some ⟨y.pb, 0, none⟩), .pointer (some ⟨y.q4, 0, none⟩)]
structure DfOk (y : Dfs) (B base : Nat) : Prop where
  o : MdOk y.x B y.db y.eb base
  p : base ≤ y.pb
  q2 : base ≤ y.q2
  q3 : base ≤ y.q3
  q4 : base ≤ y.q4
  q5 : base ≤ y.q5
  nr : base ≤ y.nrb
  nl : base ≤ y.nlb
  ne : y.nrb ≠ y.nlb
  r1 : y.nrb ≠ y.pb
  r2 : y.nrb ≠ y.q2
  r3 : y.nrb ≠ y.q3
  r4 : y.nrb ≠ y.q4
  r5 : y.nrb ≠ y.q5
  l1 : y.nlb ≠ y.pb
  l2 : y.nlb ≠ y.q2
  l3 : y.nlb ≠ y.q3
  l4 : y.nlb ≠ y.q4
  l5 : y.nlb ≠ y.q5
structure DfIn (y : Dfs) (fv : Value) (w : World) (le ri : Nat → Int) (mv : Nat → Nat → Int) (ld rd : Nat → Int) (nr nl : Nat → Nat) : Prop where
  d : MdIn y.x y.db y.eb fv w le ri mv ld rd
  bp : w.heap[y.pb]? = some (Obj.cells #[y.x.ptr] 187 (0, 0))
  b2 : w.heap[y.q2]? = some (Obj.cells #[.slice (some ⟨y.nrb, 0, none⟩) y.x.n y.x.n] 26 (0, 0))
  b3 : w.heap[y.q3]? = some (Obj.cells #[.slice (some ⟨y.nlb, 0, none⟩) y.x.m y.x.m] 26 (0, 0))
  b4 : w.heap[y.q4]? = some (Obj.cells #[y.fnM] 188 (0, 0))
  b5 : w.heap[y.q5]? = some (Obj.cells #[y.fnT] 188 (0, 0))
  rn : w.rowIs y.nrb 3 y.x.n (fun i => .int .i64 ((nr i : Nat) : Int))
  ln : w.rowIs y.nlb 3 y.x.m (fun i => .int .i64 ((nl i : Nat) : Int))

theorem DfIn.drew {y : Dfs} {fv : Value} {w : World} {le ri : Nat → Int} {mv : Nat → Nat → Int} {ld rd : Nat → Int} {nr nl : Nat → Nat} (h : DfIn y fv w le ri mv ld rd nr nl) : DfIn y fv w.drew le ri mv ld rd nr nl :=
  ⟨⟨h.d.m.drew, h.d.l, h.d.r⟩, h.bp, h.b2, h.b3, h.b4, h.b5, h.rn, h.ln⟩
theorem DfIn.drewN {y : Dfs} {fv : Value} {w : World} {le ri : Nat → Int} {mv : Nat → Nat → Int} {ld rd : Nat → Int} {nr nl : Nat → Nat} (k : Nat) (h : DfIn y fv w le ri mv ld rd nr nl) : DfIn y fv (w.drewN k) le ri mv ld rd nr nl :=
  ⟨⟨⟨h.d.m.st, h.d.m.left, h.d.m.right, h.d.m.moved, h.d.m.cols⟩, h.d.l, h.d.r⟩, h.bp, h.b2, h.b3, h.b4, h.b5, h.rn, h.ln⟩
theorem DfIn.kept {y : Dfs} {B base : Nat} {P : Nat → Prop} {fv : Value} {w w' : World} {le ri : Nat → Int} {mv : Nat → Nat → Int} {ld rd : Nat → Int} {nr nl : Nat → Nat} (h : DfIn y fv w le ri mv ld rd nr nl) (hy : DfOk y B base)
    (hP : ∀ k, P k → k < B) (hk : Kept P w w') : DfIn y fv w' le ri mv ld rd nr nl := by
  have h1 := hy.p
  have h2 := hy.q2
  have h3 := hy.q3
  have h4 := hy.q4
  have h5 := hy.q5
  have h6 := hy.nr
  have h7 := hy.nl
  have h8 : B ≤ base := by have := hy.o.o.l; have := hy.o.o.lv; have := hy.o.d; have := hy.o.dt; omega
  have h9 := heap_lt h.bp
  exact ⟨h.d.kept hy.o hk (fun k hp => Or.inl (hP k hp)) (by omega), hk.heap (fun hp => by have := hP _ hp; omega) h.bp, hk.heap (fun hp => by have := hP _ hp; omega) h.b2, hk.heap (fun hp => by have := hP _ hp; omega) h.b3,
    hk.heap (fun hp => by have := hP _ hp; omega) h.b4, hk.heap (fun hp => by have := hP _ hp; omega) h.b5, hk.rowIs (fun hp => by have := hP _ hp; omega) h.rn, hk.rowIs (fun hp => by have := hP _ hp; omega) h.ln⟩
/-- A store below the closures' variables, that leaves the moves such. -/
theorem DfIn.setD {y : Dfs} {B base : Nat} {fv : Value} {w : World} {le ri : Nat → Int} {mv : Nat → Nat → Int} {ld rd : Nat → Int} {nr nl : Nat → Nat} {le' ri' : Nat → Int} {mv' : Nat → Nat → Int} (h : DfIn y fv w le ri mv ld rd nr nl) (hy : DfOk y B base) {p : Addr} {v : Value}
    (hp : p.block < base) (hd : MdIn y.x y.db y.eb fv (w.setCell p v) le' ri' mv' ld rd) : DfIn y fv (w.setCell p v) le' ri' mv' ld rd nr nl := by
  have h1 := hy.p
  have h2 := hy.q2
  have h3 := hy.q3
  have h4 := hy.q4
  have h5 := hy.q5
  have h6 := hy.nr
  have h7 := hy.nl
  exact ⟨hd, by rw [Below.heap_setCell _ _ _ _ (by omega)]; exact h.bp, by rw [Below.heap_setCell _ _ _ _ (by omega)]; exact h.b2, by rw [Below.heap_setCell _ _ _ _ (by omega)]; exact h.b3,
    by rw [Below.heap_setCell _ _ _ _ (by omega)]; exact h.b4, by rw [Below.heap_setCell _ _ _ _ (by omega)]; exact h.b5, h.rn.setOther (by omega) _, h.ln.setOther (by omega) _⟩
theorem MdIn.setM {x : Mv} {B db eb base : Nat} {fv : Value} {w : World} {le ri : Nat → Int} {mv : Nat → Nat → Int} {ld rd : Nat → Int} {le' ri' : Nat → Int} {mv' : Nat → Nat → Int} (h : MdIn x db eb fv w le ri mv ld rd) (hx : MdOk x B db eb base) {p : Addr} {v : Value}
    (hp : p.block < x.vb + 2 + x.m) (hm : MvIn x fv (.slice (some ⟨db, 0, none⟩) x.n x.n) (.slice (some ⟨eb, 0, none⟩) x.m x.m) (w.setCell p v) le' ri' mv') : MdIn x db eb fv (w.setCell p v) le' ri' mv' ld rd := by
  have h1 := hx.d
  have h2 := hx.e
  exact ⟨hm, h.l.setOther (by omega) _, h.r.setOther (by omega) _⟩
theorem DfIn.setRight {y : Dfs} {B base : Nat} {fv : Value} {w : World} {le ri : Nat → Int} {mv : Nat → Nat → Int} {ld rd : Nat → Int} {nr nl : Nat → Nat} (h : DfIn y fv w le ri mv ld rd nr nl) (hy : DfOk y B base) (b : Nat) (v : Int) :
    DfIn y fv (w.setCell ⟨y.x.rb, b, none⟩ (.int .i64 v)) le (upd ri b v) mv ld rd nr nl := by
  have h1 := hy.o.o.rv
  have h2 := hy.o.d
  have h3 := hy.o.dt
  exact h.setD hy (by simp; omega) (h.d.setM hy.o (by simp; omega) (h.d.m.setRight hy.o.o b v))
theorem DfIn.setLeft {y : Dfs} {B base : Nat} {fv : Value} {w : World} {le ri : Nat → Int} {mv : Nat → Nat → Int} {ld rd : Nat → Int} {nr nl : Nat → Nat} (h : DfIn y fv w le ri mv ld rd nr nl) (hy : DfOk y B base) (a : Nat) (v : Int) :
    DfIn y fv (w.setCell ⟨y.x.lb, a, none⟩ (.int .i64 v)) (upd le a v) ri mv ld rd nr nl := by
  have h1 := hy.o.o.lv
  have h2 := hy.o.d
  have h3 := hy.o.dt
  exact h.setD hy (by simp; omega) (h.d.setM hy.o (by simp; omega) (h.d.m.setLeft hy.o.o a v))
theorem DfIn.setMoved {y : Dfs} {B base : Nat} {fv : Value} {w : World} {le ri : Nat → Int} {mv : Nat → Nat → Int} {ld rd : Nat → Int} {nr nl : Nat → Nat} (h : DfIn y fv w le ri mv ld rd nr nl) (hy : DfOk y B base) {b : Nat} (hb : b < y.x.m) (a : Nat) (v : Int) :
    DfIn y fv (w.setCell ⟨y.x.vb + 2 + b, a, none⟩ (.int .i64 v)) le ri (upd2 mv a b v) ld rd nr nl := by
  have h2 := hy.o.d
  have h3 := hy.o.dt
  exact h.setD hy (by simp; omega) (h.d.setM hy.o (by simp; omega) (h.d.m.setMoved hy.o.o a v))
theorem rowN_set {w : World} {b n : Nat} {t : TypeId} {f : Nat → Nat} (h : w.rowIs b t n (fun i => .int .i64 ((f i : Nat) : Int))) (i x : Nat) {v : Int} (hv : v = (x : Int)) :
    (w.setCell ⟨b, i, none⟩ (.int .i64 v)).rowIs b t n (fun j => .int .i64 ((updN f i x j : Nat) : Int)) := by
  subst hv
  exact (h.set i (.int .i64 (x : Int))).congr (fun j _ => by unfold updN; by_cases e : j = i <;> simp [e])
theorem DfIn.setNr {y : Dfs} {B base : Nat} {fv : Value} {w : World} {le ri : Nat → Int} {mv : Nat → Nat → Int} {ld rd : Nat → Int} {nr nl : Nat → Nat} (h : DfIn y fv w le ri mv ld rd nr nl) (hy : DfOk y B base) (a x : Nat) {v : Int} (hv : v = (x : Int)) :
    DfIn y fv (w.setCell ⟨y.nrb, a, none⟩ (.int .i64 v)) le ri mv ld rd (updN nr a x) nl := by
  have h1 := hy.r1
  have h2 := hy.r2
  have h3 := hy.r3
  have h4 := hy.r4
  have h5 := hy.r5
  have h6 := hy.nr
  have h7 := hy.ne
  exact ⟨h.d.same hy.o (fun k _ hk => Below.heap_setCell _ _ _ _ (by simp; omega)), by rw [Below.heap_setCell _ _ _ _ (by simp; omega)]; exact h.bp, by rw [Below.heap_setCell _ _ _ _ (by simp; omega)]; exact h.b2, by rw [Below.heap_setCell _ _ _ _ (by simp; omega)]; exact h.b3,
    by rw [Below.heap_setCell _ _ _ _ (by simp; omega)]; exact h.b4, by rw [Below.heap_setCell _ _ _ _ (by simp; omega)]; exact h.b5, rowN_set h.rn a x hv, h.ln.setOther (by simp; omega) _⟩
theorem DfIn.setNl {y : Dfs} {B base : Nat} {fv : Value} {w : World} {le ri : Nat → Int} {mv : Nat → Nat → Int} {ld rd : Nat → Int} {nr nl : Nat → Nat} (h : DfIn y fv w le ri mv ld rd nr nl) (hy : DfOk y B base) (b x : Nat) {v : Int} (hv : v = (x : Int)) :
    DfIn y fv (w.setCell ⟨y.nlb, b, none⟩ (.int .i64 v)) le ri mv ld rd nr (updN nl b x) := by
  have h1 := hy.l1
  have h2 := hy.l2
  have h3 := hy.l3
  have h4 := hy.l4
  have h5 := hy.l5
  have h6 := hy.nl
  have h7 := hy.ne
  exact ⟨h.d.same hy.o (fun k _ hk => Below.heap_setCell _ _ _ _ (by simp; omega)), by rw [Below.heap_setCell _ _ _ _ (by simp; omega)]; exact h.bp, by rw [Below.heap_setCell _ _ _ _ (by simp; omega)]; exact h.b2, by rw [Below.heap_setCell _ _ _ _ (by simp; omega)]; exact h.b3,
    by rw [Below.heap_setCell _ _ _ _ (by simp; omega)]; exact h.b4, by rw [Below.heap_setCell _ _ _ _ (by simp; omega)]; exact h.b5, h.rn.setOther (by simp; omega) _, rowN_set h.ln b x hv⟩

/-- What is fixed while weight is moved along paths. -/
structure DEnv (B base : Nat) (P : Nat → Prop) (I : World → Prop) (rel : Nat → Nat → Bool) (g : Nat) (lbv : Array Value) (y : Dfs) (ld rd : Nat → Int) (K : Int) : Prop where
  asks : Asks B P I y.x.n y.x.m rel g lbv
  ok : DfOk y B base
  hn : y.x.n ≤ 1000
  hm : y.x.m ≤ 1000
  ldK : ∀ a, a < y.x.n → -1 ≤ ld a ∧ ld a ≤ K
  rdK : ∀ b, b < y.x.m → -1 ≤ rd b ∧ rd b ≤ 2000
  kk : K ≤ 2000
/-- The state of the moves is one in which weight may be moved. -/
structure DSt (n m : Nat) (rel : Nat → Nat → Bool) (ri : Nat → Int) (mv : Nat → Nat → Int) : Prop where
  mv0 : ∀ a b, a < n → b < m → 0 ≤ mv a b
  mvr : ∀ a b, a < n → b < m → rel a b = false → mv a b = 0
  ri0 : ∀ b, b < m → 0 ≤ ri b ∧ ri b ≤ 1152921504606846976
  rows : ∀ i, i < n → sumN (fun b => mv i b) m ≤ 1152921504606846976
theorem DSt.mv1 {n m : Nat} {rel : Nat → Nat → Bool} {ri : Nat → Int} {mv : Nat → Nat → Int} (h : DSt n m rel ri mv) {a b : Nat} (ha : a < n) (hb : b < m) : 0 ≤ mv a b ∧ mv a b ≤ 1152921504606846976 := by
  have h1 := h.rows a ha
  have h2 := sumN_elem (f := fun b => mv a b) (fun b hb => h.mv0 a b ha hb) hb
  have h3 := h.mv0 a b ha hb
  omega

def BackCase (n m : Nat) (rel : Nat → Nat → Bool) (ld rd ri : Nat → Int) (mv : Nat → Nat → Int) (nr nl : Nat → Nat) (b : Nat) (v : Int) (ri' : Nat → Int) (mv' : Nat → Nat → Int) (nr' nl' : Nat → Nat) : Prop :=
  (v = 0 ∧ ri' = ri ∧ mv' = mv ∧ n ≤ nl' b ∧ (Dead n m rel ld rd ri mv nr nl → Dead n m rel ld rd ri mv nr' nl')) ∨ (0 < v ∧ FStep n m rel rd (rd b) (fun _ => 0) (one b (-v)) ri mv ri' mv')
def MoveCase (n m : Nat) (rel : Nat → Nat → Bool) (ld rd ri : Nat → Int) (mv : Nat → Nat → Int) (nr nl : Nat → Nat) (a : Nat) (v : Int) (ri' : Nat → Int) (mv' : Nat → Nat → Int) (nr' nl' : Nat → Nat) : Prop :=
  (v = 0 ∧ ri' = ri ∧ mv' = mv ∧ m ≤ nr' a ∧ (Dead n m rel ld rd ri mv nr nl → Dead n m rel ld rd ri mv nr' nl')) ∨ (0 < v ∧ FStep n m rel rd (ld a + 1) (one a v) (fun _ => 0) ri mv ri' mv')
theorem MoveCase.kp {n m : Nat} {rel : Nat → Nat → Bool} {ld rd ri : Nat → Int} {mv : Nat → Nat → Int} {nr nl : Nat → Nat} {a : Nat} {v : Int} {ri' : Nat → Int} {mv' : Nat → Nat → Int} {nr' nl' : Nat → Nat} (h : MoveCase n m rel ld rd ri mv nr nl a v ri' mv' nr' nl')
    {c b : Nat} (hc : c < n) (hb : b < m) (hl : rd b < ld a + 1) : mv' c b = mv c b := by
  rcases h with ⟨_, _, h, _⟩ | ⟨_, h⟩
  · rw [h]
  · exact h.kp c b hc hb hl

def BackPost (B : Nat) (P : Nat → Prop) (I : World → Prop) (rel : Nat → Nat → Bool) (fv : Value) (y : Dfs) (le ld rd ri : Nat → Int) (mv : Nat → Nat → Int) (b : Nat) (most : Int) (w : World) (nr nl : Nat → Nat) (e : Ending) (w' : World) : Prop :=
  ∃ (v : Int) (ri' : Nat → Int) (mv' : Nat → Nat → Int) (nr' nl' : Nat → Nat), e = .returned (.int .i64 v) ∧ DfIn y fv w' le ri' mv' ld rd nr' nl' ∧ I w' ∧ Kept (Qk P B) w w' ∧ NKeep y.x.n y.x.m ld rd (rd b) (rd b) nr nl nr' nl' ∧ 0 ≤ v ∧ v ≤ most ∧
    BackCase y.x.n y.x.m rel ld rd ri mv nr nl b v ri' mv' nr' nl'
def MovePost (B : Nat) (P : Nat → Prop) (I : World → Prop) (rel : Nat → Nat → Bool) (fv : Value) (y : Dfs) (le ld rd ri : Nat → Int) (mv : Nat → Nat → Int) (a : Nat) (most : Int) (w : World) (nr nl : Nat → Nat) (e : Ending) (w' : World) : Prop :=
  ∃ (v : Int) (ri' : Nat → Int) (mv' : Nat → Nat → Int) (nr' nl' : Nat → Nat), e = .returned (.int .i64 v) ∧ DfIn y fv w' le ri' mv' ld rd nr' nl' ∧ I w' ∧ Kept (Qk P B) w w' ∧ NKeep y.x.n y.x.m ld rd (ld a) (ld a + 1) nr nl nr' nl' ∧ 0 ≤ v ∧ v ≤ most ∧
    MoveCase y.x.n y.x.m rel ld rd ri mv nr nl a v ri' mv' nr' nl'
def MoveOk (d : Nat) (B : Nat) (P : Nat → Prop) (I : World → Prop) (rel : Nat → Nat → Bool) (fv : Value) (y : Dfs) (le ld rd ri : Nat → Int) (mv : Nat → Nat → Int) (K : Int) : Prop :=
  ∀ (a : Nat) (most : Int) (w : World) (nr nl : Nat → Nat), a < y.x.n → K - ld a < d → 0 < most → most ≤ 1152921504606846976 → I w → DfIn y fv w le ri mv ld rd nr nl → (∀ i, i < y.x.n → nr i ≤ y.x.m) → (∀ b, b < y.x.m → nl b ≤ y.x.n) →
    Calls Tryz.prog 170 #[.int .i64 (a : Int), .int .i64 most, .pointer (some ⟨y.q2, 0, none⟩), .pointer (some ⟨y.pb, 0, none⟩), .pointer (some ⟨y.q5, 0, none⟩)] w (MovePost B P I rel fv y le ld rd ri mv a most w nr nl)
def BackOk (d : Nat) (B : Nat) (P : Nat → Prop) (I : World → Prop) (rel : Nat → Nat → Bool) (fv : Value) (y : Dfs) (le ld rd ri : Nat → Int) (mv : Nat → Nat → Int) (K : Int) : Prop :=
  ∀ (b : Nat) (most : Int) (w : World) (nr nl : Nat → Nat), b < y.x.m → K - rd b < d → 0 < most → most ≤ 1152921504606846976 → I w → DfIn y fv w le ri mv ld rd nr nl → (∀ i, i < y.x.n → nr i ≤ y.x.m) → (∀ b, b < y.x.m → nl b ≤ y.x.n) →
    Calls Tryz.prog 169 #[.int .i64 (b : Int), .int .i64 most, .pointer (some ⟨y.q3, 0, none⟩), .pointer (some ⟨y.pb, 0, none⟩), .pointer (some ⟨y.q4, 0, none⟩)] w (BackPost B P I rel fv y le ld rd ri mv b most w nr nl)
end Go.Proofs.YtfgpjfgejhahfaaGreatDoor

namespace Go.Proofs.YtfgpjfgejhahfaaGreatDoor
open Go Go.RowKit

set_option maxRecDepth 100000 in
set_option maxHeartbeats 6400000 in
theorem back_any {B base : Nat} {P : Nat → Prop} {I : World → Prop} {rel : Nat → Nat → Bool} {g : Nat} {lbv : Array Value} {y : Dfs} {ld rd : Nat → Int} {K : Int} (E : DEnv B base P I rel g lbv y ld rd K) {le ri : Nat → Int} {mv : Nat → Nat → Int}
    (hS : DSt y.x.n y.x.m rel ri mv) {d : Nat} (hM : MoveOk d B P I rel (.func (.func g) #[] lbv) y le ld rd ri mv K) : BackOk d B P I rel (.func (.func g) #[] lbv) y le ld rd ri mv K := by
  intro b most w nr nl hb hK hm0 hm1 hI hd hnr hnl
  have HE := Lib.hid E
  have HS := Lib.hid hS
  have HM := Lib.hid hM
  have HD := Lib.hid hd
  have HI := Lib.hid hI
  have HK0 := Lib.hid (NKeep.mk (n := y.x.n) (m := y.x.m) (ld := ld) (rd := rd) (t := rd b) (t' := rd b) (nr := nr) (nl := nl) (fun _ _ _ => rfl) (fun _ _ _ => rfl) hnr hnl)
  have hn1 := E.hn
  have hm2 := E.hm
  have hrb := E.rdK b hb
  obtain ⟨⟨lb, rb, vb, n, m⟩, db, eb, pb, q2, q3, q4, q5, nrb, nlb⟩ := y
  simp only at hb hn1 hm2
  clear E hS hM hd hI hnr hnl
  go_enter Tryz.func169, Tryz.ntmps169
  go_wp2_with fail
  go_loopg [8] (n - nl b) (fun gg _ wr => ∃ nr' nl', n - nl' b ≤ gg ∧ DfIn ⟨⟨lb, rb, vb, n, m⟩, db, eb, pb, q2, q3, q4, q5, nrb, nlb⟩ (.func (.func g) #[] lbv) wr le ri mv ld rd nr' nl' ∧ I wr ∧ Kept (Qk P B) w wr ∧ NKeep n m ld rd (rd b) (rd b) nr nl nr' nl' ∧ (Dead n m rel ld rd ri mv nr nl → Dead n m rel ld rd ri mv nr' nl'))
  case atStart => exact ⟨nr, nl, Nat.le_refl _, HD.out, HI.out, Kept.refl _ _, HK0.out, fun h => h⟩
  case round =>
    obtain ⟨nr1, nl1, hgg, hd1, hI1, hk1, hnk1, hdd1⟩ := hrel
    have HD1 := Lib.hid hd1
    have HI1 := Lib.hid hI1
    have HK1 := Lib.hid hk1
    have HN1 := Lib.hid hnk1
    have HDD := Lib.hid hdd1
    have hcm := hnk1.lb b hb
    clear hd1 hI1 hk1 hnk1 hdd1 HD HI HK0
    obtain ⟨c, hc⟩ : ∃ c, c = nl1 b := ⟨_, rfl⟩
    have k0 := cell_of1 HD1.out.bp
    have k3 := cell_of1 HD1.out.b3
    have k4 := cell_of1 HD1.out.b4
    obtain ⟨c0, c1, c2, c3, c4, c5⟩ := cells6 HD1.out.d.m.st
    have e0 := HD1.out.ln.cell hb
    have e1 := HD1.out.d.r.cell hb
    have e2 := HD1.out.d.m.moved.cell hb
    have e3 := HD1.out.ln.frozen b
    simp only at k0 k3 k4 c0 c1 c2 c3 c4 c5 e0 e1 e2 e3
    rw [← hc] at e0 hgg hcm
    have HC := Lib.hid hc
    clear hc
    by_cases hcn : c < n
    · have e4 := HD1.out.d.l.cell hcn
      have e5 := (HD1.out.d.m.cols b hb).cell hcn
      simp only at e4 e5
      obtain ⟨lc, hlc⟩ : ∃ lc, lc = ld c := ⟨_, rfl⟩
      obtain ⟨rdb, hrdb⟩ : ∃ rdb, rdb = rd b := ⟨_, rfl⟩
      obtain ⟨mc, hmc⟩ : ∃ mc, mc = mv c b := ⟨_, rfl⟩
      rw [← hlc] at e4
      rw [← hrdb] at e1
      rw [← hmc] at e5
      have HLC := Lib.hid hlc
      have HRB := Lib.hid hrdb
      have HMC := Lib.hid hmc
      clear hlc hrdb hmc
      go_wp2_with fail
      go_quiet (fail)
      go_wp2_with fail
      have hoke := HE.out.ok
      have o1 := hoke.nl
      have o2 := hoke.ne
      have o3 := hoke.l1
      have o4 := hoke.l3
      have o5 := hoke.o.o.l
      have o6 := hoke.o.o.lv
      have o7 := hoke.o.d
      have o8 := hoke.o.dt
      simp only at o1 o2 o3 o4 o5 o6 o7 o8
      clear hoke
      by_cases hlr : lc = rdb
      rotate_left
      · go_quiet (fail)
        go_wp2_with fail
        go_roundg (n - (c + 1))
        case measure => omega
        case rel => exact ⟨nr1, updN nl1 b (nl1 b + 1), by rw [updN_same, ← HC.out]; omega, (HD1.out.drewN _).setNl HE.out.ok b _ (by rw [← HC.out]; omega), HE.out.asks.set (HE.out.asks.drewN HI1.out) (by simp; omega) _, HK1.out.drewN.set (Or.inl (Or.inr (by simp; omega))) _, HN1.out.left (Int.le_refl _) (by rw [← HC.out]; omega), fun h => (HDD.out h).left (fun h1 _ => by rw [← HC.out, ← HLC.out, ← HRB.out] at h1; exact absurd h1 hlr)⟩
      by_cases hmz : mc = 0
      · subst hmz
        subst hlr
        go_quiet (fail)
        go_wp2_with fail
        go_roundg (n - (c + 1))
        case measure => omega
        case rel => exact ⟨nr1, updN nl1 b (nl1 b + 1), by rw [updN_same, ← HC.out]; omega, (HD1.out.drewN _).setNl HE.out.ok b _ (by rw [← HC.out]; omega), HE.out.asks.set (HE.out.asks.drewN HI1.out) (by simp; omega) _, HK1.out.drewN.set (Or.inl (Or.inr (by simp; omega))) _, HN1.out.left (Int.le_refl _) (by rw [← HC.out]; omega), fun h => (HDD.out h).left (fun _ h2 => by rw [← HC.out, ← HMC.out] at h2; omega)⟩
      subst hlr
      go_quiet (fail)
      go_wp2_with fail
      generalize hwz : wr.drewN _ = wz
      have HDZ := Lib.hid (show DfIn ⟨⟨lb, rb, vb, n, m⟩, db, eb, pb, q2, q3, q4, q5, nrb, nlb⟩ (.func (.func g) #[] lbv) wz le ri mv ld rd nr1 nl1 by rw [← hwz]; exact HD1.out.drewN _)
      have HIZ := Lib.hid (show I wz by rw [← hwz]; exact HE.out.asks.drewN HI1.out)
      have HKZ := Lib.hid (show Kept (Qk P B) w wz by rw [← hwz]; exact HK1.out.drewN)
      have hmc1 := HS.out.mv1 hcn hb
      rw [← HMC.out] at hmc1
      have hmcp : 0 < mc := by omega
      have HCK := Lib.hid (show K - ld c < d by have := HLC.out; have := HRB.out; omega)
      have HQL := Lib.hid (show rd b < ld c + 1 by have := HLC.out; have := HRB.out; omega)
      have HMc := Lib.hid (fun x mo (h1 : 0 < mo) (h2 : mo ≤ 1152921504606846976) (hd : DfIn ⟨⟨lb, rb, vb, n, m⟩, db, eb, pb, q2, q3, q4, q5, nrb, nlb⟩ (.func (.func g) #[] lbv) x le ri mv ld rd nr1 nl1) (hi : I x) => HM.out c mo x nr1 nl1 hcn HCK.out h1 h2 hi hd HN1.out.rb HN1.out.lb)
      clear hwz hmz k0 k3 k4 c0 c1 c2 c3 c4 c5 e0 e1 e2 e3 e4 e5 HD1 HI1 HK1
      have k0 := cell_of1 HDZ.out.bp
      have k4 := cell_of1 HDZ.out.b4
      obtain ⟨c0, c1, c2, c3, c4, c5⟩ := cells6 HDZ.out.d.m.st
      have e2 := HDZ.out.d.m.moved.cell hb
      have e5 := (HDZ.out.d.m.cols b hb).cell hcn
      simp only at k0 k4 c0 c1 c2 c3 c4 c5 e2 e5
      rw [← HMC.out] at e5
      rcases Int.lt_or_le mc most with hmn | hmn
      all_goals (
       go_region_held3 (fun x : World => x.cell? ⟨q4, 0, none⟩ = some (Dfs.fnM ⟨⟨lb, rb, vb, n, m⟩, db, eb, pb, q2, q3, q4, q5, nrb, nlb⟩) ∧ x.cell? ⟨pb, 0, none⟩ = some (.pointer (some ⟨vb + 1, 0, none⟩)) ∧ x.cell? ⟨vb + 1, 3, none⟩ = some (.slice (some ⟨vb, 0, none⟩) m m) ∧ x.cell? ⟨vb, b, none⟩ = some (.slice (some ⟨vb + 2 + b, 0, none⟩) n n) ∧ x.cell? ⟨vb + 2 + b, c, none⟩ = some (.int .i64 mc)) (first | exact ⟨k4, k0, c3, e2, e5⟩ | exact ⟨z4, z0, z3, z2, z5⟩) (first | (go_at_call 170; refine (HMc.out _ _ (by first | omega | (split <;> omega)) (by first | omega | (split <;> omega)) (HDZ.out.drewN _) (HE.out.asks.drewN HIZ.out)).mono ?_; rintro e w2 ⟨v, ri2, mv2, nr2, nl2, rfl, hd2, hI2, hk2, hn2, hv0, hvm, hcase⟩; have HCASE := Lib.hid hcase; clear hcase; have HQ := Lib.hid ((HCASE.out.kp hcn hb HQL.out).trans HMC.out.symm); have z4 := cell_of1 hd2.b4; have z0 := cell_of1 hd2.bp; obtain ⟨_, _, _, z3, _, _⟩ := cells6 hd2.d.m.st; have z2 := hd2.d.m.moved.cell hb; have z5 := (hd2.d.m.cols b hb).cell hcn; simp only at z4 z0 z3 z2 z5; rw [HQ.out] at z5))
       have hvb : v ≤ mc ∧ v ≤ most := by first | omega | (split at hvm <;> omega)
       have HKK := Lib.hid (HKZ.out.drewN.trans hk2)
       have HD2 := Lib.hid hd2
       have HI2 := Lib.hid hI2
       have HN2 := Lib.hid (HN1.out.trans hn2 (by have := HLC.out; have := HRB.out; omega) (by have := HLC.out; have := HRB.out; omega))
       have HNL := Lib.hid (show nl2 b = c by rw [hn2.l b hb HQL.out]; exact HC.out.symm)
       clear hvm hd2 hI2 hk2 hn2
       have z1 := cell_of1 HD2.out.b3
       have z6 := HD2.out.ln.cell hb
       have z7 := HD2.out.ln.frozen b
       have z8 := (HD2.out.d.m.cols b hb).frozen c
       simp only at z1 z6 z7 z8
       rw [HNL.out] at z6
       by_cases hv : 0 < v
       · go_wp2_with fail
         go_ret
         rcases HCASE.out with ⟨h, _⟩ | ⟨_, hf⟩
         · omega
         exact ⟨v, ri2, upd2 mv2 c b (mc - v), nr2, nl2, rfl, HD2.out.setMoved HE.out.ok hb c _, HE.out.asks.set HI2.out (by simp; omega) _, HKK.out.set (Or.inl (Or.inr (by simp; omega))) _, HN2.out, hv0, hvb.2,
           Or.inr ⟨hv, (by have h := hf.col hcn hb (by have := HLC.out; have := HRB.out; omega) hv0 (by rw [← HMC.out]; exact hvb.1); rw [HQ.out] at h; exact h)⟩⟩
       · have hvz : v = 0 := by omega
         subst hvz
         go_wp2_with fail
         rcases HCASE.out with ⟨_, rfl, rfl, hmn, hdd⟩ | ⟨h, _⟩
         · go_roundg (n - (c + 1))
           case measure => omega
           case rel => exact ⟨nr2, updN nl2 b (nl2 b + 1), by rw [updN_same, HNL.out]; omega, HD2.out.setNl HE.out.ok b _ (by rw [HNL.out]; omega), HE.out.asks.set HI2.out (by simp; omega) _, HKK.out.set (Or.inl (Or.inr (by simp; omega))) _, HN2.out.left (Int.le_refl _) (by rw [HNL.out]; omega), fun h => (hdd (HDD.out h)).left (fun _ _ => by rw [HNL.out]; exact (hdd (HDD.out h)).row hmn)⟩
         · omega)
    · have HNZ := Lib.hid (show n ≤ nl1 b by rw [← HC.out]; omega)
      go_wp2_with fail
      go_quiet (fail)
      go_wp2_with fail
      go_ret
      exact ⟨0, ri, mv, nr1, nl1, rfl, HD1.out.drewN _, HE.out.asks.drewN HI1.out, HK1.out.drewN, HN1.out, Int.le_refl _, by omega, Or.inl ⟨rfl, rfl, rfl, HNZ.out, HDD.out⟩⟩
end Go.Proofs.YtfgpjfgejhahfaaGreatDoor
