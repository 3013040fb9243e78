/-
  Proved here: contracts of the walk to BisimRelated: related at distributions; each under the conditions that its own statement names.
-/
import Derived.Test.YtfgpjfgejhahfaaGreatDoorG16
import Derived.Test.YtfgpjfgejhahfaaGreatDoorG33
namespace Go.Proofs.YtfgpjfgejhahfaaGreatDoor
open Go Go.RowKit

/-- An element of a list of values. -/
def V.el : V → Nat → Int × V × List Int
  | .nil, _ => (0, .nil, [])
  | .cons n k ws _, 0 => (n, k, ws)
  | .cons _ _ _ r, i + 1 => r.el i
theorem V.el_drop {t : V} : ∀ {i : Nat} {n : Int} {k : V} {ws : List Int} {r : V}, t.drop i = .cons n k ws r → t.el i = (n, k, ws) := by
  induction t with
  | nil => intro i n k ws r h; cases i <;> simp [V.drop] at h
  | cons n k ws r _ ih =>
    intro i n' k' ws' r' h
    cases i with
    | zero => simp only [V.drop, V.cons.injEq] at h; obtain ⟨rfl, rfl, rfl, rfl⟩ := h; rfl
    | succ i => exact ih (by simpa [V.drop] using h)

/-- Numbers for the related pairs whose sums are the given ones. -/
def FlowP (n m : Nat) (L R : Nat → Int) (Rel : Nat → Nat → Prop) : Prop :=
  ∃ mv : Nat → Nat → Int, (∀ a b, 0 ≤ mv a b) ∧ (∀ a b, a < n → b < m → ¬ Rel a b → mv a b = 0) ∧ (∀ a, a < n → sumN (fun b => mv a b) m = L a) ∧ (∀ b, b < m → sumN (fun a => mv a b) n = R b)
theorem flowP_iff {n m : Nat} {L R : Nat → Int} {rel : Nat → Nat → Bool} {Rel : Nat → Nat → Prop} (h : ∀ a b, a < n → b < m → (rel a b = true ↔ Rel a b)) : Flow n m L R rel ↔ FlowP n m L R Rel := by
  constructor
  · intro ⟨mv, h0, h1, h2, h3⟩
    exact ⟨mv, h0, fun a b ha hb hr => h1 a b (by cases hb2 : rel a b; · rfl
                                                  · exact absurd ((h a b ha hb).1 hb2) hr), h2, h3⟩
  · intro ⟨mv, h0, h1, h2, h3⟩
    refine ⟨fun a b => if a < n ∧ b < m then mv a b else 0, ?_, ?_, ?_, ?_⟩
    · intro a b
      by_cases hab : a < n ∧ b < m
      · simp only [if_pos hab]; exact h0 a b
      · simp only [if_neg hab]; exact Int.le_refl _
    · intro a b hr
      by_cases hab : a < n ∧ b < m
      · simp only [if_pos hab]; exact h1 a b hab.1 hab.2 (fun h2 => by rw [(h a b hab.1 hab.2).2 h2] at hr; cases hr)
      · simp only [if_neg hab]
    · intro a ha
      rw [sumN_congr m (fun b hb => if_pos ⟨ha, hb⟩)]; exact h2 a ha
    · intro b hb
      rw [sumN_congr n (fun a ha => if_pos ⟨ha, hb⟩)]; exact h3 b hb

/-- Are a node and a value related? E says it of the node's elements. -/
def nodeRel (P : Int → Int → Prop) (f : F) (n : Int) (len : Nat) (ws : List Int) (v : Int × V × List Int) (E : (Nat → F) → Nat → Int × V × List Int → Prop) : Prop :=
  if f.k = 0 then P n v.1
  else if f.k = 1 then n = v.1
  else if f.k = 2 then E f.t.get 0 (v.2.1.el 0) ∧ E f.t.get 1 (v.2.1.el 1)
  else if f.k = 3 then n = v.1 ∧ E (fun _ => f.t.get n.toNat) 0 (v.2.1.el 0)
  else if f.k = 4 then ∀ a, a < f.n.toNat → E (fun _ => f.t.get 0) a (v.2.1.el a)
  else if f.k = 5 then (∀ a, a < len → ∃ b, b < v.2.1.len ∧ E (fun _ => f.t.get 0) a (v.2.1.el b)) ∧ ∀ b, b < v.2.1.len → ∃ a, a < len ∧ E (fun _ => f.t.get 0) a (v.2.1.el b)
  else if f.k = 6 then FlowP len v.2.1.len (getW ws) (getW v.2.2) (fun a b => E (fun _ => f.t.get 0) a (v.2.1.el b))
  else FlowP len v.2.1.len (fun a => getW ws a * sumN (getW v.2.2) v.2.2.length) (fun b => getW v.2.2 b * sumN (getW ws) ws.length) (fun a b => E (fun _ => f.t.get 0) a (v.2.1.el b))
/-- Is element i of a list related to a value? -/
def V.relE (P : Int → Int → Prop) : V → (Nat → F) → Nat → Int × V × List Int → Prop
  | .nil, _, _, _ => False
  | .cons n k ws _, fs, 0, v => nodeRel P (fs 0) n k.len ws v (fun gs i u => k.relE P gs i u)
  | .cons _ _ _ r, fs, i + 1, v => r.relE P (fun j => fs (j + 1)) i v
def relV (P : Int → Int → Prop) (f : F) (u v : Int × V × List Int) : Prop := nodeRel P f u.1 u.2.1.len u.2.2 v (fun gs i x => u.2.1.relE P gs i x)
theorem relE_el {P : Int → Int → Prop} {t : V} : ∀ {i : Nat} (fs : Nat → F) (v : Int × V × List Int), i < t.len → (t.relE P fs i v ↔ relV P (fs i) (t.el i) v) := by
  induction t with
  | nil => intro i fs v h; simp [V.len] at h
  | cons n k ws r _ ih =>
    intro i fs v h
    cases i with
    | zero => exact Iff.rfl
    | succ i => exact ih (fun j => fs (j + 1)) v (by simpa [V.len] using h)

/-- The relation of states that a function value tells. -/
def tells (rel : Nat → Nat → Bool) : Int → Int → Prop := fun x y => rel x.toNat y.toNat = true

/-- What holds of an element of a valid value. -/
theorem ok_el {f : F} {m n : Int} {t : V} {ws : List Int} (h : okV nodeOk m f n t ws = true) {i : Nat} (hi : i < t.len) : okV nodeOk m (f.part n i) (t.el i).1 (t.el i).2.1 (t.el i).2.2 = true := by
  have key : ∀ (t : V) (j i : Nat), okL nodeOk m t f n j = true → i < t.len → okV nodeOk m (f.part n (j + i)) (t.el i).1 (t.el i).2.1 (t.el i).2.2 = true := by
    intro t
    induction t with
    | nil => intro j i _ h; simp [V.len] at h
    | cons n1 k1 ws1 r _ ih =>
      intro j i hk hi
      rw [okL_cons] at hk
      simp only [Bool.and_eq_true] at hk
      cases i with
      | zero => exact hk.1
      | succ i =>
        have := ih (j + 1) i hk.2 (by simpa [V.len] using hi)
        rw [show j + (i + 1) = j + 1 + i by omega]
        exact this
  have h1 := h
  unfold okV at h1
  simp only [Bool.and_eq_true] at h1
  have := key t 0 i h1.2.1 hi
  rwa [Nat.zero_add] at this
theorem okV_fields {f : F} {m n : Int} {t : V} {ws : List Int} (h : okV nodeOk m f n t ws = true) : vFields f m n t.len ws = true := by
  unfold okV at h
  simp only [Bool.and_eq_true] at h
  exact h.1
theorem okV_many {f : F} {m n : Int} {t : V} {ws : List Int} (h : okV nodeOk m f n t ws = true) (hc : coll f.k = true) : t.len ≤ 100 := by
  unfold okV nodeOk at h
  simp only [Bool.and_eq_true, Bool.or_eq_true, hc, Bool.not_true, Bool.false_eq_true, false_or, decide_eq_true_eq] at h
  exact h.2.2.2.1
theorem okV_weighs {f : F} {m n : Int} {t : V} {ws : List Int} (h : okV nodeOk m f n t ws = true) : weighs f.k t.len ws = true := by
  have := okV_fields h
  unfold vFields at this
  simp only [Bool.and_eq_true] at this
  exact this.2
theorem Vl.el {S : Nat → Prop} {w : World} {a : Option Addr} {t : V} (h : Vl S w a t) {i : Nat} (hi : i < t.len) : ∃ b o a1 c1 c1' cp, a = some ⟨b, o, none⟩ ∧ S b ∧ w.cell? ⟨b, o + i * 3, none⟩ = some (.int .i64 (t.el i).1) ∧
    w.cell? ⟨b, o + i * 3 + 1, none⟩ = some (.slice a1 (t.el i).2.1.len c1) ∧ w.cell? ⟨b, o + i * 3 + 2, none⟩ = some (.slice c1' (t.el i).2.2.length cp) ∧ Vl S w a1 (t.el i).2.1 ∧ Ints S w c1' (t.el i).2.2 := by
  obtain ⟨b, o, rfl, hat⟩ := h.addr hi
  obtain ⟨n1, k1, ws1, r1, hd, _⟩ := V.drop_lt hi
  obtain ⟨d0, ⟨a1, cap1, d1, hv1⟩, ⟨c1', cp1, d2, hi1⟩⟩ := hat.get hd
  have hSb : S b := by
    have := hat.drop i
    rw [hd] at this
    exact this.1
  rw [V.el_drop hd]
  exact ⟨b, o, a1, cap1, c1', cp1, rfl, hSb, d0, d1, d2, hv1, hi1⟩
theorem Sl.at {S : Nat → Nat → Prop} {w : World} {a : Option Addr} {t : T} (h : Sl S w a t) {i : Nat} (hi : i < t.len) : ∃ b o a1 c1, a = some ⟨b, o, none⟩ ∧ S b (o + 3 * i) ∧ w.cell? ⟨b, o + 3 * i, none⟩ = some (.int .i64 (t.get i).k) ∧
    w.cell? ⟨b, o + 3 * i + 1, none⟩ = some (.int .i64 (t.get i).n) ∧ w.cell? ⟨b, o + 3 * i + 2, none⟩ = some (.slice a1 (t.get i).t.len c1) ∧ Sl S w a1 (t.get i).t := by
  obtain ⟨b, o, rfl, hat⟩ := h.addr hi
  obtain ⟨k, n, kids, rest, hd, _⟩ := T.drop_lt hi
  obtain ⟨h1, h2, h3, a1, cap, h4, h5⟩ := hat.get hd
  rw [T.get_drop t i k n kids rest hd]
  exact ⟨b, o, a1, cap, rfl, h1, h2, h3, h4, h5⟩
theorem Sl.keptP {S : Nat → Nat → Prop} {P : Nat → Prop} {w w' : World} {a : Option Addr} {t : T} (h : Sl S w a t) (hk : Kept P w w') (hS : ∀ b o, S b o → ¬ P b) : Sl S w' a t := by
  refine ⟨h.1, ?_⟩
  have h2 := h.2
  cases a with
  | none => exact h2
  | some p => exact ⟨h2.1, T.At.mono (fun _ _ h => h) (fun b o hs hlt => hk.block b hlt (hS b o hs)) h2.2⟩
theorem Vl.keptP {S : Nat → Prop} {P : Nat → Prop} {w w' : World} {a : Option Addr} {t : V} (h : Vl S w a t) (hk : Kept P w w') (hS : ∀ b, S b → ¬ P b) : Vl S w' a t :=
  h.mono (fun _ h => h) (fun b hb hlt => hk.block b hlt (hS b hb))
theorem Ints.keptP {S : Nat → Prop} {P : Nat → Prop} {w w' : World} {a : Option Addr} {t : List Int} (h : Ints S w a t) (hk : Kept P w w') (hS : ∀ b, S b → ¬ P b) : Ints S w' a t :=
  h.mono (fun _ h => h) (fun b hb hlt => hk.block b hlt (hS b hb))

/-- What related does at a first value with these elements. -/
def RelOk (t : V) : Prop := ∀ (B : Nat) (P : Nat → Prop) (I : World → Prop) (nn mm : Nat) (rel : Nat → Nat → Bool) (g : Nat) (lb : Array Value) (RB : F → Int × V × List Int → Int × V × List Int → Bool) (S : Nat → Nat → Prop) (S' : Nat → Prop)
  (f : F) (n n' : Int) (t' : V) (ws ws' : List Int) (a a1 a2 c1 c2 : Option Addr) (cap cap1 cap2 cp1 cp2 : Nat) (w : World),
  Asks B P I nn mm rel g lb → (∀ f u v, RB f u v = true ↔ relV (tells rel) f u v) → I w → Sl S w a f.t → Vl S' w a1 t → Ints S' w c1 ws → Vl S' w a2 t' → Ints S' w c2 ws' → (∀ b o, S b o → ¬ P b) → (∀ b, S' b → ¬ P b) →
  f.good = true → okV nodeOk nn f n t ws = true → okV nodeOk mm f n' t' ws' = true →
  Calls Tryz.prog 49 #[f.val a cap, Vv n a1 t.len cap1 c1 ws.length cp1, Vv n' a2 t'.len cap2 c2 ws'.length cp2, .func (.func g) #[] lb] w fun e w' => e = .returned (.bool (RB f (n, t, ws) (n', t', ws'))) ∧ I w' ∧ Kept P w w'
end Go.Proofs.YtfgpjfgejhahfaaGreatDoor

namespace Go.Proofs.YtfgpjfgejhahfaaGreatDoor
open Go Go.RowKit

/-- As a world was, but for blocks of P. -/
def AsIs (P : Nat → Prop) (I : World → Prop) (W : World) : World → Prop := fun x => I x ∧ W.heap.size ≤ x.heap.size ∧ ∀ k, k < W.heap.size → ¬ P k → x.heap[k]? = W.heap[k]?
/-- What related has laid of its arguments. -/
structure Boxes (bf : Nat) (f : F) (n n' : Int) (t t' : V) (ws ws' : List Int) (a a1 a2 c1 c2 : Option Addr) (cap cap1 cap2 cp1 cp2 : Nat) (g : Nat) (lb : Array Value) (W : World) : Prop where
  f : W.heap[bf]? = some (Obj.cells #[.int .i64 f.k, .int .i64 f.n, .slice a f.t.len cap] 24 (0, 0))
  u : W.heap[bf + 1]? = some (Obj.cells #[.int .i64 n, .slice a1 t.len cap1, .slice c1 ws.length cp1] 28 (0, 0))
  v : W.heap[bf + 2]? = some (Obj.cells #[.int .i64 n', .slice a2 t'.len cap2, .slice c2 ws'.length cp2] 28 (0, 0))
  i : W.heap[bf + 3]? = some (Obj.cells #[.func (.func g) #[] lb] 80 (0, 0))
def Boxes.lb (bf : Nat) : Array Value := #[.pointer (some ⟨bf, 0, none⟩), .pointer (some ⟨bf + 1, 0, none⟩), .pointer (some ⟨bf + 2, 0, none⟩), .pointer (some ⟨bf + 3, 0, none⟩)]

set_option maxRecDepth 100000 in
set_option maxHeartbeats 6400000 in
theorem decide_any {t : V} (ih : t.Elems RelOk) {B : Nat} {P : Nat → Prop} {I : World → Prop} {nn mm : Nat} {rel : Nat → Nat → Bool} {g : Nat} {lb : Array Value} {RB : F → Int × V × List Int → Int × V × List Int → Bool} {S : Nat → Nat → Prop} {S' : Nat → Prop}
    {f : F} {n n' : Int} {t' : V} {ws ws' : List Int} {a a1 a2 c1 c2 : Option Addr} {cap cap1 cap2 cp1 cp2 : Nat} {W : World} {bf : Nat}
    (hA : Asks B P I nn mm rel g lb) (hRB : ∀ f u v, RB f u v = true ↔ relV (tells rel) f u v) (hI : I W) (hs : Sl S W a f.t) (hv : Vl S' W a1 t) (hv' : Vl S' W a2 t') (hSP : ∀ b o, S b o → ¬ P b) (hSP' : ∀ b, S' b → ¬ P b)
    (hg : f.good = true) (hu : okV nodeOk nn f n t ws = true) (hu' : okV nodeOk mm f n' t' ws' = true) (hk : 4 ≤ f.k) (hx : Boxes bf f n n' t t' ws ws' a a1 a2 c1 c2 cap cap1 cap2 cp1 cp2 g lb W) (hbf : B ≤ bf) (hfl : 0 < f.t.len) :
    Asks W.heap.size P (AsIs P I W) t.len t'.len (fun i j => RB (f.t.get 0) (t.el i) (t'.el j)) 95 (Boxes.lb bf) := by
  refine ⟨enters_of Tryz.func95 (by kernel_rfl) rfl, ?_, fun x h => h.2.1, ?_, ?_⟩
  · intro k hp
    have := hA.pb k hp
    have := hA.lt W hI
    omega
  · intro x x' ⟨h1, h2, h3⟩ hb
    have h4 := hb.size
    exact ⟨hA.same _ _ h1 (hb.mono (hA.lt W hI)), by omega, fun k hk hp => (hb.block k hk).trans (h3 k hk hp)⟩
  intro i j x hi hj ⟨hIx, hsz, hkx⟩
  have hKX : ∀ k o, W.heap[k]? = some o → ¬ P k → x.heap[k]? = some o := fun k o h hp => by rw [hkx k (heap_lt h) hp]; exact h
  have hPb : ∀ k, bf ≤ k → ¬ P k := fun k hk hp => by have := hA.pb k hp; omega
  have hpart : f.part n i = f.t.get 0 := by unfold F.part; rw [if_neg (by omega), if_neg (by omega)]
  have hpart' : f.part n' j = f.t.get 0 := by unfold F.part; rw [if_neg (by omega), if_neg (by omega)]
  have hsx : Sl S x a f.t := by
    refine ⟨hs.1, ?_⟩
    have h2 := hs.2
    cases a with
    | none => exact h2
    | some p => exact ⟨h2.1, T.At.mono (fun _ _ h => h) (fun b o hb hlt => hkx b hlt (hSP b o hb)) h2.2⟩
  have hvx : Vl S' x a1 t := hv.mono (fun _ h => h) (fun b hb hlt => hkx b hlt (hSP' b hb))
  have hvx' : Vl S' x a2 t' := hv'.mono (fun _ h => h) (fun b hb hlt => hkx b hlt (hSP' b hb))
  obtain ⟨fb, fo, fa, fc, rfl, hfb, f0, f1, f2, hfs⟩ := hsx.at hfl
  obtain ⟨ub, uo, ua, uc, uw, uwc, rfl, hub, u0, u1, u2, hus, hui⟩ := hvx.el hi
  obtain ⟨vb, vo, va, vc, vw, vwc, rfl, hvb, v0, v1, v2, hvs, hvi⟩ := hvx'.el hj
  have IH : RelOk (t.el i).2.1 := by
    obtain ⟨n1, k1, ws1, r1, hd, _⟩ := V.drop_lt hi
    rw [V.el_drop hd]
    exact ih i n1 k1 ws1 r1 hd
  have oku := ok_el hu hi
  have okv := ok_el hu' hj
  rw [hpart] at oku
  rw [hpart'] at okv
  have hgp : (f.t.get 0).good = true := by
    rw [← hpart]; exact good_part hg (okV_fields hu) hi
  obtain ⟨b0, b1, b2⟩ := cells_of (hKX _ _ hx.f (hPb _ (by omega)))
  obtain ⟨b3, b4, b5⟩ := cells_of (hKX _ _ hx.u (hPb _ (by omega)))
  obtain ⟨b6, b7, b8⟩ := cells_of (hKX _ _ hx.v (hPb _ (by omega)))
  have b9 := cell_of1 (hKX _ _ hx.i (hPb _ (by omega)))
  rw [show fo + 3 * 0 = fo by omega] at f0 f1 f2
  obtain ⟨gk, hgk⟩ : ∃ gk : F, gk = f.t.get 0 := ⟨_, rfl⟩
  rw [← hgk] at f0 f1 f2 hfs oku okv hgp
  obtain ⟨nu, hnu⟩ : ∃ nu, nu = (t.el i).1 := ⟨_, rfl⟩
  obtain ⟨ku, hku⟩ : ∃ ku, ku = (t.el i).2.1 := ⟨_, rfl⟩
  obtain ⟨wu, hwu⟩ : ∃ wu, wu = (t.el i).2.2 := ⟨_, rfl⟩
  obtain ⟨nv, hnv⟩ : ∃ nv, nv = (t'.el j).1 := ⟨_, rfl⟩
  obtain ⟨kv, hkv⟩ : ∃ kv, kv = (t'.el j).2.1 := ⟨_, rfl⟩
  obtain ⟨wv, hwv⟩ : ∃ wv, wv = (t'.el j).2.2 := ⟨_, rfl⟩
  have eu : t.el i = (nu, ku, wu) := by rw [hnu, hku, hwu]
  have ev : t'.el j = (nv, kv, wv) := by rw [hnv, hkv, hwv]
  rw [← hnu] at u0 oku
  rw [← hku] at u1 hus oku IH
  rw [← hwu] at u2 hui oku
  rw [← hnv] at v0 okv
  rw [← hkv] at v1 hvs okv
  rw [← hwv] at v2 hvi okv
  clear hnu hku hwu hnv hkv hwv
  simp only [← hgk, eu, ev]
  have HCL := Lib.hid (fun y (hk : Kept P x y) (hIy : I y) => IH B P I nn mm rel g lb RB S S' gk nu nv kv wu wv fa ua va uw vw fc uc vc uwc vwc y hA hRB hIy (hfs.keptP hk hSP) (hus.keptP hk hSP') (hui.keptP hk hSP') (hvs.keptP hk hSP') (hvi.keptP hk hSP') hSP hSP' hgp oku okv)
  have HA := Lib.hid hA
  have HKX := Lib.hid hkx
  have HSZ := Lib.hid hsz
  have HIX := Lib.hid hIx
  have HNP := Lib.hid (show ¬ P bf ∧ ¬ P (bf + 1) ∧ ¬ P (bf + 2) ∧ ¬ P (bf + 3) from ⟨hPb _ (by omega), hPb _ (by omega), hPb _ (by omega), hPb _ (by omega)⟩)
  have HNQ := Lib.hid (show ¬ P fb ∧ ¬ P ub ∧ ¬ P vb from ⟨hSP _ _ hfb, hSP' _ hub, hSP' _ hvb⟩)
  have hlt1 := hs.1
  have hlt2 := hv.1
  have hlt3 := hv'.1
  clear hA hRB hI hs hv hv' hSP hSP' hg hu hu' hx hkx hsz hIx hKX hPb hpart hpart' hsx hvx hvx' hfs hus hui hvs hvi IH oku okv hgp ih eu ev hgk hfb hub hvb
  simp only [Boxes.lb]
  go_enter Tryz.func95, Tryz.ntmps95
  go_wp2_with fail
  go_region_held3 (fun x : World => x.cell? ⟨bf, 2, none⟩ = some (.slice (some ⟨fb, fo, none⟩) f.t.len cap) ∧ x.cell? ⟨bf + 1, 1, none⟩ = some (.slice (some ⟨ub, uo, none⟩) t.len cap1) ∧ x.cell? ⟨bf + 2, 1, none⟩ = some (.slice (some ⟨vb, vo, none⟩) t'.len cap2) ∧ x.cell? ⟨bf + 3, 0, none⟩ = some (.func (.func g) #[] lb) ∧ x.cell? ⟨fb, fo, none⟩ = some (.int .i64 gk.k) ∧ x.cell? ⟨fb, fo + 1, none⟩ = some (.int .i64 gk.n) ∧ x.cell? ⟨fb, fo + 2, none⟩ = some (.slice fa gk.t.len fc) ∧ x.cell? ⟨ub, uo + i * 3, none⟩ = some (.int .i64 nu) ∧ x.cell? ⟨ub, uo + i * 3 + 1, none⟩ = some (.slice ua ku.len uc) ∧ x.cell? ⟨ub, uo + i * 3 + 2, none⟩ = some (.slice uw wu.length uwc) ∧ x.cell? ⟨vb, vo + j * 3, none⟩ = some (.int .i64 nv) ∧ x.cell? ⟨vb, vo + j * 3 + 1, none⟩ = some (.slice va kv.len vc) ∧ x.cell? ⟨vb, vo + j * 3 + 2, none⟩ = some (.slice vw wv.length vwc)) (first | exact ⟨b2, b4, b7, b9, f0, f1, f2, u0, u1, u2, v0, v1, v2⟩ | exact ⟨yb2, yb4, yb7, yb9, yf0, yf1, yf2, yu0, yu1, yu2, yv0, yv1, yv2⟩ | fail) (first | (go_at_call 49; refine (HCL.out _ ((Kept.refl _ _).drewN) (HA.out.drewN HIX.out)).mono ?_; rintro e w2 ⟨rfl, hI2, hk2⟩; have yb2 := hk2.cell HNP.out.1 b2; have yb4 := hk2.cell HNP.out.2.1 b4; have yb7 := hk2.cell HNP.out.2.2.1 b7; have yb9 := hk2.cell HNP.out.2.2.2 b9; have yf0 := hk2.cell HNQ.out.1 f0; have yf1 := hk2.cell HNQ.out.1 f1; have yf2 := hk2.cell HNQ.out.1 f2; have yu0 := hk2.cell HNQ.out.2.1 u0; have yu1 := hk2.cell HNQ.out.2.1 u1; have yu2 := hk2.cell HNQ.out.2.1 u2; have yv0 := hk2.cell HNQ.out.2.2 v0; have yv1 := hk2.cell HNQ.out.2.2 v1; have yv2 := hk2.cell HNQ.out.2.2 v2; have HI2 := Lib.hid hI2; have HK2 := Lib.hid hk2; clear hI2 hk2))
  go_wp2_with fail
  go_ret
  have hkk : Kept P x w2 := (Kept.refl P x).drewN.trans HK2.out
  exact ⟨rfl, ⟨HI2.out, Nat.le_trans HSZ.out hkk.size, fun k hk hp => (hkk.block k (Nat.lt_of_lt_of_le hk HSZ.out) hp).trans (HKX.out k hk hp)⟩, hkk⟩
end Go.Proofs.YtfgpjfgejhahfaaGreatDoor

namespace Go.Proofs.YtfgpjfgejhahfaaGreatDoor
open Go Go.RowKit

theorem sumN_shift (f : Nat → Int) : ∀ n, sumN f (n + 1) = f 0 + sumN (fun i => f (i + 1)) n := by
  intro n
  induction n with
  | zero => simp [sumN]
  | succ n ih => rw [show sumN f (n + 1 + 1) = sumN f (n + 1) + f (n + 1) from rfl, ih]; simp only [sumN]; omega
theorem wOk_sumB : ∀ (ws : List Int) (q : Int), wOk q ws = true → (∀ i, i < ws.length → 0 ≤ getW ws i) ∧ (ws ≠ [] → sumN (getW ws) ws.length ≤ q) ∧ (0 ≤ q → sumN (getW ws) ws.length ≤ q) := by
  intro ws
  induction ws with
  | nil => intro q _; exact ⟨fun i h => by simp at h, fun h => absurd rfl h, fun h => h⟩
  | cons x r ih =>
    intro q h
    simp only [wOk, Bool.and_eq_true, decide_eq_true_eq] at h
    obtain ⟨h1, h2, h3⟩ := ih (q - x) h.2
    have hs : sumN (getW (x :: r)) (r.length + 1) = x + sumN (getW r) r.length := by
      rw [sumN_shift]; rfl
    refine ⟨fun i hi => ?_, fun _ => ?_, fun _ => ?_⟩
    · cases i with
      | zero => simp [getW]; omega
      | succ i => exact h1 i (by simpa using hi)
    · simp only [List.length_cons]; rw [hs]; have := h3 (by omega); omega
    · simp only [List.length_cons]; rw [hs]; have := h3 (by omega); omega

/-- What weights sum up to. -/
structure Wts (ws : List Int) (len : Nat) : Prop where
  ln : ws.length = len
  nn : ∀ i, i < ws.length → 0 ≤ getW ws i
  sum : sumN (getW ws) ws.length ≤ 1048576
  many : len ≤ 100
theorem wts_of {f : F} {m n : Int} {t : V} {ws : List Int} (h : okV nodeOk m f n t ws = true) (hk : f.k = 6 ∨ f.k = 7) : Wts ws t.len := by
  have h1 := okV_weighs h
  unfold weighs at h1
  rw [if_pos hk] at h1
  simp only [Bool.and_eq_true, decide_eq_true_eq] at h1
  have h2 := wOk_sumB ws 1048576 h1.1
  exact ⟨h1.2, h2.1, h2.2.2 (by omega), okV_many h (by unfold coll; simp; omega)⟩

theorem boxes_made (w : World) {f : F} {n n' : Int} {t t' : V} {ws ws' : List Int} {a a1 a2 c1 c2 : Option Addr} {cap cap1 cap2 cp1 cp2 : Nat} {g : Nat} {lb : Array Value} {W : World}
    (hW : W = (((w.alloc (Obj.cells #[.int .i64 f.k, .int .i64 f.n, .slice a f.t.len cap] 24)).alloc (Obj.cells #[.int .i64 n, .slice a1 t.len cap1, .slice c1 ws.length cp1] 28)).alloc (Obj.cells #[.int .i64 n', .slice a2 t'.len cap2, .slice c2 ws'.length cp2] 28)).alloc (Obj.cells #[.func (.func g) #[] lb] 80)) :
    Boxes w.heap.size f n n' t t' ws ws' a a1 a2 c1 c2 cap cap1 cap2 cp1 cp2 g lb W := by
  have h := four_get w (Obj.cells #[.int .i64 f.k, .int .i64 f.n, .slice a f.t.len cap] 24) (Obj.cells #[.int .i64 n, .slice a1 t.len cap1, .slice c1 ws.length cp1] 28) (Obj.cells #[.int .i64 n', .slice a2 t'.len cap2, .slice c2 ws'.length cp2] 28) (Obj.cells #[.func (.func g) #[] lb] 80)
  rw [hW]
  exact ⟨h.1, h.2.1, h.2.2.1, h.2.2.2⟩

set_option maxRecDepth 100000 in
set_option maxHeartbeats 6400000 in
theorem rel7_any {t : V} (ih : t.Elems RelOk) {B : Nat} {P : Nat → Prop} {I : World → Prop} {nn mm : Nat} {rel : Nat → Nat → Bool} {g : Nat} {lb : Array Value} {RB : F → Int × V × List Int → Int × V × List Int → Bool} {S : Nat → Nat → Prop} {S' : Nat → Prop}
    {fn : Int} {ft : T} {n n' : Int} {t' : V} {ws ws' : List Int} {a a1 a2 c1 c2 : Option Addr} {cap cap1 cap2 cp1 cp2 : Nat} {w : World}
    (hA : Asks B P I nn mm rel g lb) (hRB : ∀ f u v, RB f u v = true ↔ relV (tells rel) f u v) (hI : I w) (hs : Sl S w a ft) (hv : Vl S' w a1 t) (hi : Ints S' w c1 ws) (hv' : Vl S' w a2 t') (hi' : Ints S' w c2 ws') (hSP : ∀ b o, S b o → ¬ P b) (hSP' : ∀ b, S' b → ¬ P b)
    (hg : F.good ⟨7, fn, ft⟩ = true) (hu : okV nodeOk nn ⟨7, fn, ft⟩ n t ws = true) (hu' : okV nodeOk mm ⟨7, fn, ft⟩ n' t' ws' = true) :
    Calls Tryz.prog 49 #[F.val ⟨7, fn, ft⟩ a cap, Vv n a1 t.len cap1 c1 ws.length cp1, Vv n' a2 t'.len cap2 c2 ws'.length cp2, .func (.func g) #[] lb] w fun e w' => e = .returned (.bool (RB ⟨7, fn, ft⟩ (n, t, ws) (n', t', ws'))) ∧ I w' ∧ Kept P w w' := by
  obtain ⟨W, hW⟩ : ∃ W : World, W = (((w.alloc (Obj.cells #[.int .i64 7, .int .i64 fn, .slice a ft.len cap] 24)).alloc (Obj.cells #[.int .i64 n, .slice a1 t.len cap1, .slice c1 ws.length cp1] 28)).alloc (Obj.cells #[.int .i64 n', .slice a2 t'.len cap2, .slice c2 ws'.length cp2] 28)).alloc (Obj.cells #[.func (.func g) #[] lb] 80) := ⟨_, rfl⟩
  have hx : Boxes w.heap.size ⟨7, fn, ft⟩ n n' t t' ws ws' a a1 a2 c1 c2 cap cap1 cap2 cp1 cp2 g lb W := boxes_made w hW
  have hWb : Below w.heap.size w W := by rw [hW]; exact (((Below.refl _ _).alloc (Nat.le_refl _) _).alloc (by simp) _).alloc (by simp; omega) _ |>.alloc (by simp; omega) _
  have hB := hA.lt w hI
  have hIW : I W := hA.same _ _ hI (hWb.mono hB)
  have hfl : 0 < ft.len := by
    have := (F.good_len hg).1
    simp only [arityOf] at this
    omega
  have hDA := decide_any ih hA hRB hIW (hs.below hWb) (hv.below hWb) (hv'.below hWb) hSP hSP' hg hu hu' (by simp only; omega) hx hB hfl
  have hw1 := wts_of hu (Or.inr rfl)
  have hw2 := wts_of hu' (Or.inr rfl)
  have hm1 := hw1.many
  have hm2 := hw2.many
  have hAI : AsIs P I W W := ⟨hIW, Nat.le_refl _, fun _ _ _ => rfl⟩
  have HRM := Lib.hid (remembered_any hDA (by omega) (by omega) W hAI)
  obtain ⟨bf, hbf⟩ : ∃ bf, bf = w.heap.size := ⟨_, rfl⟩
  rw [← hbf] at hx
  rw [← hbf] at HRM
  have HXB := Lib.hid hx
  have HI1 := Lib.hid (fun x (hb : Below w.heap.size w x) => hi.below hb)
  have HI2 := Lib.hid (fun x (hb : Below w.heap.size w x) => hi'.below hb)
  have HWB := Lib.hid hWb
  have HBF := Lib.hid hbf
  have HW1 := Lib.hid hw1
  have HW2 := Lib.hid hw2
  have HA := Lib.hid hA
  have HRB := Lib.hid (hRB ⟨7, fn, ft⟩ (n, t, ws) (n', t', ws'))
  have HRE := Lib.hid (fun i j => hRB (ft.get 0) (t.el i) (t'.el j))
  have HBB := Lib.hid hB
  have hlt2 := hv.1
  have hlt3 := hv'.1
  have hwl1 : ws.length ≤ 100 := by have := hw1.ln; omega
  have hwl2 : ws'.length ≤ 100 := by have := hw2.ln; omega
  have hnP : ∀ k, bf ≤ k → ¬ P k := fun k hk hp => by have := hA.pb k hp; omega
  have HNP := Lib.hid hnP
  obtain ⟨b0, b1, b2⟩ := cells_of hx.f
  obtain ⟨b3, b4, b5⟩ := cells_of hx.u
  obtain ⟨b6, b7, b8⟩ := cells_of hx.v
  simp only at b0 b1 b2
  clear hA hRB hI hs hv hi hv' hi' hSP hSP' hg hu hu' hx hWb hB hIW hfl hDA hw1 hw2 hAI ih hnP
  go_enter Tryz.func49, Tryz.ntmps49
  go_wp2_with fail
  rw [← hW, ← hbf]
  clear hW hbf
  refine HRM.out.mono ?_
  rintro e w1 ⟨lb1, P1, I1, rfl, hA1, hI1, hb1, hP1, hIm⟩
  have HA1 := Lib.hid hA1
  have HI11 := Lib.hid hI1
  have HB1 := Lib.hid hb1
  have HP1 := Lib.hid hP1
  have HIM := Lib.hid hIm
  have d0 := cell_below hb1 b0
  have d5 := cell_below hb1 b5
  have d8 := cell_below hb1 b8
  clear b0 b1 b2 b3 b4 b5 b6 b7 b8 hA1 hI1 hb1 hP1 hIm HRM
  go_wp2_with fail
  obtain ⟨su, hsu⟩ : ∃ su, su = sumN (getW ws) ws.length := ⟨_, rfl⟩
  obtain ⟨sv, hsv⟩ : ∃ sv, sv = sumN (getW ws') ws'.length := ⟨_, rfl⟩
  have hsub : 0 ≤ su ∧ su ≤ 1048576 := by rw [hsu]; exact ⟨sumN_nonneg _ HW1.out.nn, HW1.out.sum⟩
  have hsvb : 0 ≤ sv ∧ sv ≤ 1048576 := by rw [hsv]; exact ⟨sumN_nonneg _ HW2.out.nn, HW2.out.sum⟩
  have hww : Below w.heap.size w w1 := HWB.out.trans (HB1.out.mono HWB.out.size)
  have HXW := Lib.hid (fun x (hb : Below w1.heap.size w1 x) => (hww.trans (hb.mono hww.size) : Below w.heap.size w x))
  have HSU := Lib.hid (fun x (hb : Below w1.heap.size w1 x) => (show Calls Tryz.prog 100 #[.slice c1 ws.length cp1] x (fun e x' => e = .returned (.int .i64 su) ∧ x' = x) by rw [hsu]; exact sumInt_any S' c1 cp1 ws x (HI1.out x (HXW.out x hb)) HW1.out.nn (by have := HW1.out.sum; omega) (by omega)))
  have HSV := Lib.hid (fun x (hb : Below w1.heap.size w1 x) => (show Calls Tryz.prog 100 #[.slice c2 ws'.length cp2] x (fun e x' => e = .returned (.int .i64 sv) ∧ x' = x) by rw [hsv]; exact sumInt_any S' c2 cp2 ws' x (HI2.out x (HXW.out x hb)) HW2.out.nn (by have := HW2.out.sum; omega) (by omega)))
  have hpu : ∀ i, i < ws.length → 0 ≤ getW ws i * sv ∧ getW ws i * sv ≤ 1099511627776 := fun i hi => by
    have h1 := HW1.out.nn i hi
    have h2 : getW ws i ≤ 1048576 := by have := sumN_elem HW1.out.nn hi; have := HW1.out.sum; omega
    refine ⟨Int.mul_nonneg h1 hsvb.1, ?_⟩
    exact Int.le_trans (Int.mul_le_mul h2 hsvb.2 hsvb.1 (by omega)) (by omega)
  have hpv : ∀ i, i < ws'.length → 0 ≤ getW ws' i * su ∧ getW ws' i * su ≤ 1099511627776 := fun i hi => by
    have h1 := HW2.out.nn i hi
    have h2 : getW ws' i ≤ 1048576 := by have := sumN_elem HW2.out.nn hi; have := HW2.out.sum; omega
    refine ⟨Int.mul_nonneg h1 hsub.1, ?_⟩
    exact Int.le_trans (Int.mul_le_mul h2 hsub.2 hsub.1 (by omega)) (by omega)
  have hsum1 : sumN (fun i => getW ws i * sv) ws.length ≤ 1152921504606846976 := by
    rw [sumN_mul, ← hsu]
    exact Int.le_trans (Int.mul_le_mul hsub.2 hsvb.2 hsvb.1 (by omega)) (by omega)
  have hsum2 : sumN (fun i => getW ws' i * su) ws'.length ≤ 1152921504606846976 := by
    rw [sumN_mul, ← hsv]
    exact Int.le_trans (Int.mul_le_mul hsvb.2 hsub.2 hsub.1 (by omega)) (by omega)
  have HTU := Lib.hid (fun x (hb : Below w1.heap.size w1 x) => (timesW_any S' c1 cp1 ws sv x (HI1.out x (HXW.out x hb)) (fun i hi => ⟨(hpu i hi).1, by have := (hpu i hi).2; omega⟩) (by omega)).mono (show ∀ e x', _ → ∃ l : Nat, e = .returned (.slice (some ⟨l, 0, none⟩) ws.length ws.length) ∧ x.heap.size ≤ l ∧ x'.rowIs l 2 ws.length (fun i => .int .i64 (getW ws i * sv)) ∧ Below x.heap.size x x' from fun e x' h => ⟨_, h.1, Nat.le_refl _, h.2.1, h.2.2.1⟩))
  have HTV := Lib.hid (fun x (hb : Below w1.heap.size w1 x) => (timesW_any S' c2 cp2 ws' su x (HI2.out x (HXW.out x hb)) (fun i hi => ⟨(hpv i hi).1, by have := (hpv i hi).2; omega⟩) (by omega)).mono (show ∀ e x', _ → ∃ l : Nat, e = .returned (.slice (some ⟨l, 0, none⟩) ws'.length ws'.length) ∧ x.heap.size ≤ l ∧ x'.rowIs l 2 ws'.length (fun i => .int .i64 (getW ws' i * su)) ∧ Below x.heap.size x x' from fun e x' h => ⟨_, h.1, Nat.le_refl _, h.2.1, h.2.2.1⟩))
  have HIFF := Lib.hid (show Flow ws.length ws'.length (fun i => getW ws i * sv) (fun i => getW ws' i * su) (fun i j => RB (ft.get 0) (t.el i) (t'.el j)) ↔ RB ⟨7, fn, ft⟩ (n, t, ws) (n', t', ws') = true by
    rw [HRB.out, HW1.out.ln, HW2.out.ln, hsu, hsv]
    have h1 : relV (tells rel) ⟨7, fn, ft⟩ (n, t, ws) (n', t', ws') = FlowP t.len t'.len (fun a => getW ws a * sumN (getW ws') ws'.length) (fun b => getW ws' b * sumN (getW ws) ws.length) (fun a b => t.relE (tells rel) (fun _ => ft.get 0) a (t'.el b)) := by
      unfold relV nodeRel
      simp
    rw [h1]
    exact flowP_iff (fun i j hi hj => (HRE.out i j).trans (relE_el (fun _ => ft.get 0) (t'.el j) hi).symm))
  have HA2 := Lib.hid (show Asks w1.heap.size P1 I1 ws.length ws'.length (fun i j => RB (ft.get 0) (t.el i) (t'.el j)) 141 lb1 by rw [HW1.out.ln, HW2.out.ln]; exact HA1.out)
  have HCM := Lib.hid (fun x l r (hb : Below w1.heap.size w1 x) (hl : w1.heap.size ≤ l) (hr : w1.heap.size ≤ r) (hne : l ≠ r) (hl' : x.rowIs l 2 ws.length (fun i => .int .i64 (getW ws i * sv))) (hr' : x.rowIs r 2 ws'.length (fun i => .int .i64 (getW ws' i * su))) =>
    (can_any ws.length ws'.length l r HA2.out (by omega) (by omega) (fun a ha => (hpu a ha).1) (fun b hb => (hpv b hb).1) hsum1 hsum2 hl hr hne x (HA2.out.same _ _ HI11.out hb) hl' hr').mono (show ∀ e x', _ → e = .returned (.bool (RB ⟨7, fn, ft⟩ (n, t, ws) (n', t', ws'))) ∧ I x' ∧ Kept P w x' ∧ x'.cell? ⟨bf + 1, 2, none⟩ = some (.slice c1 ws.length cp1) ∧ x'.cell? ⟨bf + 2, 2, none⟩ = some (.slice c2 ws'.length cp2) from by
      rintro e x' ⟨p, rfl, hp, hI', hk'⟩
      have hpe : p = RB ⟨7, fn, ft⟩ (n, t, ws) (n', t', ws') := by
        have h1 := hp.trans HIFF.out
        cases p <;> cases hq : RB ⟨7, fn, ft⟩ (n, t, ws) (n', t', ws') <;> simp_all
      obtain ⟨h1, h2, h3⟩ := HIM.out x' hI'
      have hwx := HXW.out x hb
      refine ⟨by rw [hpe], h1, ⟨hk'.os.trans hwx.os, hk'.tape.trans hwx.tape, hk'.output.trans hwx.output, Nat.le_trans hwx.size hk'.size, fun k hk hp => (h3 k (Nat.lt_of_lt_of_le hk HWB.out.size) hp).trans (HWB.out.block k hk)⟩, ?_, ?_⟩
      · exact (cells_of (show x'.heap[bf + 1]? = _ from (h3 _ (heap_lt HXB.out.u) (HNP.out _ (by omega))).trans HXB.out.u)).2.2
      · exact (cells_of (show x'.heap[bf + 2]? = _ from (h3 _ (heap_lt HXB.out.v) (HNP.out _ (by omega))).trans HXB.out.v)).2.2))
  have hbx : Below w1.heap.size w1 w1 := Below.refl _ _
  clear hsu hsv hpu hpv hsum1 hsum2 hww hsub hsvb HI1 HI2
  go_region_held3 (fun x : World => x.cell? ⟨bf + 1, 2, none⟩ = some (.slice c1 ws.length cp1) ∧ x.cell? ⟨bf + 2, 2, none⟩ = some (.slice c2 ws'.length cp2)) (first | exact ⟨d5, d8⟩ | fail) (first
    | (go_at_call 100; refine callAt (args' := #[.slice c1 ws.length cp1]) rfl ?_; refine (HSU.out _ (by first | exact hbx | exact belowN hbx)).mono ?_; rintro e x ⟨rfl, rfl⟩)
    | (go_at_call 100; refine callAt (args' := #[.slice c2 ws'.length cp2]) rfl ?_; refine (HSV.out _ (by first | exact hbx | exact belowN hbx)).mono ?_; rintro e x ⟨rfl, rfl⟩)
    | (go_at_call 99; refine callAt (args' := #[.slice c1 ws.length cp1, .int .i64 sv]) rfl ?_; refine (HTU.out _ (by first | exact hbx | exact belowN hbx)).mono ?_; rintro e x ⟨lu, rfl, hlu, ru, bu⟩; have hwu := Nat.le_trans hbx.size hlu; replace d5 := cell_below bu d5; replace d8 := cell_below bu d8; replace hbx := Below.trans (b := _) (by first | exact hbx | exact belowN hbx) (bu.mono hbx.size); (try replace rv := rv.of_block (bu.block _ rv.lt)); (try have hne := Ne.symm (Nat.ne_of_lt (Nat.lt_of_lt_of_le rv.lt hlu))))
    | (go_at_call 99; refine callAt (args' := #[.slice c2 ws'.length cp2, .int .i64 su]) rfl ?_; refine (HTV.out _ (by first | exact hbx | exact belowN hbx)).mono ?_; rintro e x ⟨lv, rfl, hlv, rv, bv⟩; have hwv := Nat.le_trans hbx.size hlv; (try have hne := Nat.ne_of_lt (Nat.lt_of_lt_of_le ru.lt hlv)); replace d5 := cell_below bv d5; replace d8 := cell_below bv d8; replace hbx := Below.trans (b := _) (by first | exact hbx | exact belowN hbx) (bv.mono hbx.size); (try replace ru := ru.of_block (bv.block _ ru.lt)))
    | (go_at_call 98; refine (HCM.out _ _ _ (by first | exact hbx | exact belowN hbx) hwu hwv hne ru rv).mono ?_; rintro e x ⟨rfl, hIz, hkz, e5, e8⟩; clear d5 d8; have d5 := e5; have d8 := e8; clear e5 e8; have HIZ := Lib.hid hIz; have HKZ := Lib.hid hkz; clear hIz hkz)
    | fail)
  all_goals (go_wp2_with fail; go_ret; exact ⟨rfl, HIZ.out, HKZ.out⟩)
end Go.Proofs.YtfgpjfgejhahfaaGreatDoor
