/- Proved here: contracts of the walk to BisimGraphs: related (shared parts); each under the conditions that its own statement names. -/
import Derived.Test.YtcekilcgpgjooaaGreatDoorG14
import Derived.Test.YtcekilcgpgjooaaGreatDoorG24
import Derived.Test.YtcekilcgpgjooaaGreatDoorG26
namespace Go.Proofs.YtcekilcgpgjooaaGreatDoor
open Go Go.RowKit
def V.el : V → Nat → Int × V × List Int
 | .nil, _ => (0, .nil, [])
 | .cons n k ws _, 0 => (n, k, ws)
 | .cons _ _ _ r, i + 1 => r.el i
theorem V.el_drop {t : V} : ∀ {i : Nat} {n : Int} {k : V} {ws : List Int} {r : V}, t.drop i = .cons n k ws r → t.el i = (n, k, ws) := by
 induction t with
 | nil => intro i n k ws r h; cases i <;> simp [V.drop] at h
 | cons n k ws r _ ih =>
  intro i n' k' ws' r' h
  cases i with
  | zero => simp only [V.drop, V.cons.injEq] at h; obtain ⟨rfl, rfl, rfl, rfl⟩ := h; rfl
  | succ i => exact ih (by simpa [V.drop] using h)
def FlowP (n m : Nat) (L R : Nat → Int) (Rel : Nat → Nat → Prop) : Prop :=
 ∃ mv : Nat → Nat → Int, (∀ a b, 0 ≤ mv a b) ∧ (∀ a b, a < n → b < m → ¬ Rel a b → mv a b = 0) ∧ (∀ a, a < n → sumN (fun b => mv a b) m = L a) ∧ (∀ b, b < m → sumN (fun a => mv a b) n = R b)
theorem flowP_iff {n m : Nat} {L R : Nat → Int} {rel : Nat → Nat → Bool} {Rel : Nat → Nat → Prop} (h : ∀ a b, a < n → b < m → (rel a b = true ↔ Rel a b)) : Flow n m L R rel ↔ FlowP n m L R Rel := by
 constructor
 ·intro ⟨mv, h0, h1, h2, h3⟩
  exact ⟨mv, h0, fun a b ha hb hr => h1 a b (by cases hb2 : rel a b; · rfl
                                                ·exact absurd ((h a b ha hb).1 hb2) hr), h2, h3⟩
 ·intro ⟨mv, h0, h1, h2, h3⟩
  refine ⟨fun a b => if a < n ∧ b < m then mv a b else 0, ?_, ?_, ?_, ?_⟩
  ·intro a b
   by_cases hab : a < n ∧ b < m
   ·simp only [if_pos hab]; exact h0 a b
   ·simp only [if_neg hab]; exact Int.le_refl _
  ·intro a b hr
   by_cases hab : a < n ∧ b < m
   ·simp only [if_pos hab]; exact h1 a b hab.1 hab.2 (fun h2 => by rw [(h a b hab.1 hab.2).2 h2] at hr; cases hr)
   ·simp only [if_neg hab]
  ·intro a ha
   rw [sumN_congr m (fun b hb => if_pos ⟨ha, hb⟩)]; exact h2 a ha
  ·intro b hb
   rw [sumN_congr n (fun a ha => if_pos ⟨ha, hb⟩)]; exact h3 b hb
def nodeRel (P : Int → Int → Prop) (f : F) (n : Int) (len : Nat) (ws : List Int) (v : Int × V × List Int) (E : (Nat → F) → Nat → Int × V × List Int → Prop) : Prop :=
 if f.k = 0 then P n v.1
 else if f.k = 1 then n = v.1
 else if f.k = 2 then E f.t.get 0 (v.2.1.el 0) ∧ E f.t.get 1 (v.2.1.el 1)
 else if f.k = 3 then n = v.1 ∧ E (fun _ => f.t.get n.toNat) 0 (v.2.1.el 0)
 else if f.k = 4 then ∀ a, a < f.n.toNat → E (fun _ => f.t.get 0) a (v.2.1.el a)
 else if f.k = 5 then (∀ a, a < len → ∃ b, b < v.2.1.len ∧ E (fun _ => f.t.get 0) a (v.2.1.el b)) ∧ ∀ b, b < v.2.1.len → ∃ a, a < len ∧ E (fun _ => f.t.get 0) a (v.2.1.el b)
 else if f.k = 6 then FlowP len v.2.1.len (getW ws) (getW v.2.2) (fun a b => E (fun _ => f.t.get 0) a (v.2.1.el b))
 else FlowP len v.2.1.len (fun a => getW ws a * sumN (getW v.2.2) v.2.2.length) (fun b => getW v.2.2 b * sumN (getW ws) ws.length) (fun a b => E (fun _ => f.t.get 0) a (v.2.1.el b))
def V.relE (P : Int → Int → Prop) : V → (Nat → F) → Nat → Int × V × List Int → Prop
 | .nil, _, _, _ => False
 | .cons n k ws _, fs, 0, v => nodeRel P (fs 0) n k.len ws v (fun gs i u => k.relE P gs i u)
 | .cons _ _ _ r, fs, i + 1, v => r.relE P (fun j => fs (j + 1)) i v
def relV (P : Int → Int → Prop) (f : F) (u v : Int × V × List Int) : Prop := nodeRel P f u.1 u.2.1.len u.2.2 v (fun gs i x => u.2.1.relE P gs i x)
theorem relE_el {P : Int → Int → Prop} {t : V} : ∀ {i : Nat} (fs : Nat → F) (v : Int × V × List Int), i < t.len → (t.relE P fs i v ↔ relV P (fs i) (t.el i) v) := by
 induction t with
 | nil => intro i fs v h; simp [V.len] at h
 | cons n k ws r _ ih =>
  intro i fs v h
  cases i with
  | zero => exact Iff.rfl
  | succ i => exact ih (fun j => fs (j + 1)) v (by simpa [V.len] using h)
def tells (rel : Nat → Nat → Bool) : Int → Int → Prop := fun x y => rel x.toNat y.toNat = true
theorem ok_el {f : F} {m n : Int} {t : V} {ws : List Int} (h : okV nodeOk m f n t ws = true) {i : Nat} (hi : i < t.len) : okV nodeOk m (f.part n i) (t.el i).1 (t.el i).2.1 (t.el i).2.2 = true := by
 have key : ∀ (t : V) (j i : Nat), okL nodeOk m t f n j = true → i < t.len → okV nodeOk m (f.part n (j + i)) (t.el i).1 (t.el i).2.1 (t.el i).2.2 = true := by
  intro t
  induction t with
  | nil => intro j i _ h; simp [V.len] at h
  | cons n1 k1 ws1 r _ ih =>
   intro j i hk hi
   rw [okL_cons] at hk
   simp only [Bool.and_eq_true] at hk
   cases i with
   | zero => exact hk.1
   | succ i =>
    have := ih (j + 1) i hk.2 (by simpa [V.len] using hi)
    rw [show j + (i + 1) = j + 1 + i by omega]
    exact this
 have h1 := h
 unfold okV at h1
 simp only [Bool.and_eq_true] at h1
 have := key t 0 i h1.2.1 hi
 rwa [Nat.zero_add] at this
theorem okV_fields {f : F} {m n : Int} {t : V} {ws : List Int} (h : okV nodeOk m f n t ws = true) : vFields f m n t.len ws = true := by
 unfold okV at h
 simp only [Bool.and_eq_true] at h
 exact h.1
theorem okV_many {f : F} {m n : Int} {t : V} {ws : List Int} (h : okV nodeOk m f n t ws = true) (hc : coll f.k = true) : t.len ≤ 100 := by
 unfold okV nodeOk at h
 simp only [Bool.and_eq_true, Bool.or_eq_true, hc, Bool.not_true, Bool.false_eq_true, false_or, decide_eq_true_eq] at h
 exact h.2.2.2.1
theorem okV_weighs {f : F} {m n : Int} {t : V} {ws : List Int} (h : okV nodeOk m f n t ws = true) : weighs f.k t.len ws = true := by
 have := okV_fields h
 unfold vFields at this
 simp only [Bool.and_eq_true] at this
 exact this.2
theorem Vl.el {S : Nat → Prop} {w : World} {a : Option Addr} {t : V} (h : Vl S w a t) {i : Nat} (hi : i < t.len) : ∃ b o a1 c1 c1' cp, a = some ⟨b, o, none⟩ ∧ S b ∧ w.cell? ⟨b, o + i * 3, none⟩ = some (.int .i64 (t.el i).1) ∧
    w.cell? ⟨b, o + i * 3 + 1, none⟩ = some (.slice a1 (t.el i).2.1.len c1) ∧ w.cell? ⟨b, o + i * 3 + 2, none⟩ = some (.slice c1' (t.el i).2.2.length cp) ∧ Vl S w a1 (t.el i).2.1 ∧ Ints S w c1' (t.el i).2.2 := by
 obtain ⟨b, o, rfl, hat⟩ := h.addr hi
 obtain ⟨n1, k1, ws1, r1, hd, _⟩ := V.drop_lt hi
 obtain ⟨d0, ⟨a1, cap1, d1, hv1⟩, ⟨c1', cp1, d2, hi1⟩⟩ := hat.get hd
 have hSb : S b := by
  have := hat.drop i
  rw [hd] at this
  exact this.1
 rw [V.el_drop hd]
 exact ⟨b, o, a1, cap1, c1', cp1, rfl, hSb, d0, d1, d2, hv1, hi1⟩
theorem Sl.at {S : Nat → Nat → Prop} {w : World} {a : Option Addr} {t : T} (h : Sl S w a t) {i : Nat} (hi : i < t.len) : ∃ b o a1 c1, a = some ⟨b, o, none⟩ ∧ S b (o + 3 * i) ∧ w.cell? ⟨b, o + 3 * i, none⟩ = some (.int .i64 (t.get i).k) ∧
    w.cell? ⟨b, o + 3 * i + 1, none⟩ = some (.int .i64 (t.get i).n) ∧ w.cell? ⟨b, o + 3 * i + 2, none⟩ = some (.slice a1 (t.get i).t.len c1) ∧ Sl S w a1 (t.get i).t := by
 obtain ⟨b, o, rfl, hat⟩ := h.addr hi
 obtain ⟨k, n, kids, rest, hd, _⟩ := T.drop_lt hi
 obtain ⟨h1, h2, h3, a1, cap, h4, h5⟩ := hat.get hd
 rw [T.get_drop t i k n kids rest hd]
 exact ⟨b, o, a1, cap, rfl, h1, h2, h3, h4, h5⟩
theorem Sl.keptP {S : Nat → Nat → Prop} {P : Nat → Prop} {w w' : World} {a : Option Addr} {t : T} (h : Sl S w a t) (hk : Kept P w w') (hS : ∀ b o, S b o → ¬ P b) : Sl S w' a t := by
 refine ⟨h.1, ?_⟩
 have h2 := h.2
 cases a with
 | none => exact h2
 | some p => exact ⟨h2.1, T.At.mono (fun _ _ h => h) (fun b o hs hlt => hk.block b hlt (hS b o hs)) h2.2⟩
theorem Vl.keptP {S : Nat → Prop} {P : Nat → Prop} {w w' : World} {a : Option Addr} {t : V} (h : Vl S w a t) (hk : Kept P w w') (hS : ∀ b, S b → ¬ P b) : Vl S w' a t :=
 h.mono (fun _ h => h) (fun b hb hlt => hk.block b hlt (hS b hb))
theorem Ints.keptP {S : Nat → Prop} {P : Nat → Prop} {w w' : World} {a : Option Addr} {t : List Int} (h : Ints S w a t) (hk : Kept P w w') (hS : ∀ b, S b → ¬ P b) : Ints S w' a t :=
 h.mono (fun _ h => h) (fun b hb hlt => hk.block b hlt (hS b hb))
def RelOk (t : V) : Prop := ∀ (B : Nat) (P : Nat → Prop) (I : World → Prop) (nn mm : Nat) (rel : Nat → Nat → Bool) (g : Nat) (lb : Array Value) (RB : F → Int × V × List Int → Int × V × List Int → Bool) (S : Nat → Nat → Prop) (S' : Nat → Prop)
 (f : F) (n n' : Int) (t' : V) (ws ws' : List Int) (a a1 a2 c1 c2 : Option Addr) (cap cap1 cap2 cp1 cp2 : Nat) (w : World),
 Asks B P I nn mm rel g lb → (∀ f u v, RB f u v = true ↔ relV (tells rel) f u v) → I w → Sl S w a f.t → Vl S' w a1 t → Ints S' w c1 ws → Vl S' w a2 t' → Ints S' w c2 ws' → (∀ b o, S b o → ¬ P b) → (∀ b, S' b → ¬ P b) →
 f.good = true → okV nodeOk nn f n t ws = true → okV nodeOk mm f n' t' ws' = true →
 Calls Tryz.prog 56 #[f.val a cap, Vv n a1 t.len cap1 c1 ws.length cp1, Vv n' a2 t'.len cap2 c2 ws'.length cp2, .func (.func g) #[] lb] w fun e w' => e = .returned (.bool (RB f (n, t, ws) (n', t', ws'))) ∧ I w' ∧ Kept P w w'
structure Boxes (bf : Nat) (f : F) (n n' : Int) (t t' : V) (ws ws' : List Int) (a a1 a2 c1 c2 : Option Addr) (cap cap1 cap2 cp1 cp2 : Nat) (g : Nat) (lb : Array Value) (W : World) : Prop where
 f : W.heap[bf]? = some (Obj.cells #[.int .i64 f.k, .int .i64 f.n, .slice a f.t.len cap] 24 (0, 0))
 u : W.heap[bf + 1]? = some (Obj.cells #[.int .i64 n, .slice a1 t.len cap1, .slice c1 ws.length cp1] 58 (0, 0))
 v : W.heap[bf + 2]? = some (Obj.cells #[.int .i64 n', .slice a2 t'.len cap2, .slice c2 ws'.length cp2] 58 (0, 0))
 i : W.heap[bf + 3]? = some (Obj.cells #[.func (.func g) #[] lb] 94 (0, 0))
def Boxes.lb (bf : Nat) : Array Value := #[.pointer (some ⟨bf, 0, none⟩), .pointer (some ⟨bf + 1, 0, none⟩), .pointer (some ⟨bf + 2, 0, none⟩), .pointer (some ⟨bf + 3, 0, none⟩)]
theorem sumN_shift (f : Nat → Int) : ∀ n, sumN f (n + 1) = f 0 + sumN (fun i => f (i + 1)) n := by
 intro n
 induction n with
 | zero => simp [sumN]
 | succ n ih => rw [show sumN f (n + 1 + 1) = sumN f (n + 1) + f (n + 1) from rfl, ih]; simp only [sumN]; omega
theorem wOk_sumB : ∀ (ws : List Int) (q : Int), wOk q ws = true → (∀ i, i < ws.length → 0 ≤ getW ws i) ∧ (ws ≠ [] → sumN (getW ws) ws.length ≤ q) ∧ (0 ≤ q → sumN (getW ws) ws.length ≤ q) := by
 intro ws
 induction ws with
 | nil => intro q _; exact ⟨fun i h => by simp at h, fun h => absurd rfl h, fun h => h⟩
 | cons x r ih =>
  intro q h
  simp only [wOk, Bool.and_eq_true, decide_eq_true_eq] at h
  obtain ⟨h1, h2, h3⟩ := ih (q - x) h.2
  have hs : sumN (getW (x :: r)) (r.length + 1) = x + sumN (getW r) r.length := by
   rw [sumN_shift]; rfl
  refine ⟨fun i hi => ?_, fun _ => ?_, fun _ => ?_⟩
  ·cases i with
   | zero => simp [getW]; omega
   | succ i => exact h1 i (by simpa using hi)
  ·simp only [List.length_cons]; rw [hs]; have := h3 (by omega); omega
  ·simp only [List.length_cons]; rw [hs]; have := h3 (by omega); omega
structure Wts (ws : List Int) (len : Nat) : Prop where
 ln : ws.length = len
 nn : ∀ i, i < ws.length → 0 ≤ getW ws i
 sum : sumN (getW ws) ws.length ≤ 1048576
 many : len ≤ 100
theorem wts_of {f : F} {m n : Int} {t : V} {ws : List Int} (h : okV nodeOk m f n t ws = true) (hk : f.k = 6 ∨ f.k = 7) : Wts ws t.len := by
 have h1 := okV_weighs h
 unfold weighs at h1
 rw [if_pos hk] at h1
 simp only [Bool.and_eq_true, decide_eq_true_eq] at h1
 have h2 := wOk_sumB ws 1048576 h1.1
 exact ⟨h1.2, h2.1, h2.2.2 (by omega), okV_many h (by unfold coll; simp; omega)⟩
theorem boxes_made (w : World) {f : F} {n n' : Int} {t t' : V} {ws ws' : List Int} {a a1 a2 c1 c2 : Option Addr} {cap cap1 cap2 cp1 cp2 : Nat} {g : Nat} {lb : Array Value} {W : World}
    (hW : W = (((w.alloc (Obj.cells #[.int .i64 f.k, .int .i64 f.n, .slice a f.t.len cap] 24)).alloc (Obj.cells #[.int .i64 n, .slice a1 t.len cap1, .slice c1 ws.length cp1] 58)).alloc (Obj.cells #[.int .i64 n', .slice a2 t'.len cap2, .slice c2 ws'.length cp2] 58)).alloc (Obj.cells #[.func (.func g) #[] lb] 94)) :
    Boxes w.heap.size f n n' t t' ws ws' a a1 a2 c1 c2 cap cap1 cap2 cp1 cp2 g lb W := by
 have h := four_get w (Obj.cells #[.int .i64 f.k, .int .i64 f.n, .slice a f.t.len cap] 24) (Obj.cells #[.int .i64 n, .slice a1 t.len cap1, .slice c1 ws.length cp1] 58) (Obj.cells #[.int .i64 n', .slice a2 t'.len cap2, .slice c2 ws'.length cp2] 58) (Obj.cells #[.func (.func g) #[] lb] 94)
 rw [hW]
 exact ⟨h.1, h.2.1, h.2.2.1, h.2.2.2⟩




theorem kinds_of {f : F} (hg : f.good = true) : f.k = 0 ∨ f.k = 1 ∨ f.k = 2 ∨ f.k = 3 ∨ f.k = 4 ∨ f.k = 5 ∨ f.k = 6 ∨ f.k = 7 := by
 have h := (F.good_len hg).1
 unfold arityOf at h
 split at h
 ·omega
 ·split at h
  ·omega
  ·split at h <;> omega
def V.flat (t : V) : Prop := ∀ i n k ws r, t.drop i = .cons n k ws r → k = .nil

end Go.Proofs.YtcekilcgpgjooaaGreatDoor
