/- Proved here: contracts of the walk to BisimFaults: the table of answers, and flows by it; each under the conditions that its own statement names. -/
import Derived.Test.YtfgpjfgejhahfaaGreatDoorG30
namespace Go.Proofs.YtfgpjfgejhahfaaGreatDoor
open Go Go.RowKit
def tabB (RB : F → Int × V × List Int → Int × V × List Int → Bool) (f : F) (t t' : V) : Nat → Nat → Bool := fun a b => RB (f.t.get 0) (t.el a) (t'.el b)
theorem tab_iff {P : Int → Int → Prop} {RB : F → Int × V × List Int → Int × V × List Int → Bool} (hRB : ∀ f u v, RB f u v = true ↔ relV P f u v) (f : F) (t t' : V) : ∀ a b, a < t.len → b < t'.len → (tabB RB f t t' a b = true ↔ t.relE P (fun _ => f.t.get 0) a (t'.el b)) :=
 fun _ _ ha _ => (hRB _ _ _).trans (relE_el (fun _ => f.t.get 0) _ ha).symm
theorem rel5_tab {P : Int → Int → Prop} {RB : F → Int × V × List Int → Int × V × List Int → Bool} (hRB : ∀ f u v, RB f u v = true ↔ relV P f u v) {f : F} (hk : f.k = 5) (n n' : Int) (t t' : V) (ws ws' : List Int) :
    RB f (n, t, ws) (n', t', ws') = true ↔ (∀ a, a < t.len → ∃ b, b < t'.len ∧ tabB RB f t t' a b = true) ∧ ∀ b, b < t'.len → ∃ a, a < t.len ∧ tabB RB f t t' a b = true := by
 rw [hRB]
 unfold relV nodeRel
 rw [if_neg (by omega), if_neg (by omega), if_neg (by omega), if_neg (by omega), if_neg (by omega), if_pos hk]
 simp only
 have h := tab_iff hRB f t t'
 constructor
 ·rintro ⟨x, y⟩
  exact ⟨fun a ha => let ⟨b, hb, hr⟩ := x a ha; ⟨b, hb, (h a b ha hb).2 hr⟩, fun b hb => let ⟨a, ha, hr⟩ := y b hb; ⟨a, ha, (h a b ha hb).2 hr⟩⟩
 ·rintro ⟨x, y⟩
  exact ⟨fun a ha => let ⟨b, hb, hr⟩ := x a ha; ⟨b, hb, (h a b ha hb).1 hr⟩, fun b hb => let ⟨a, ha, hr⟩ := y b hb; ⟨a, ha, (h a b ha hb).1 hr⟩⟩
theorem rel6_tab {P : Int → Int → Prop} {RB : F → Int × V × List Int → Int × V × List Int → Bool} (hRB : ∀ f u v, RB f u v = true ↔ relV P f u v) {f : F} (hk : f.k = 6) (n n' : Int) (t t' : V) (ws ws' : List Int) :
    RB f (n, t, ws) (n', t', ws') = true ↔ Flow t.len t'.len (getW ws) (getW ws') (tabB RB f t t') := by
 rw [hRB, flowP_iff (tab_iff hRB f t t')]
 unfold relV nodeRel
 rw [if_neg (by omega), if_neg (by omega), if_neg (by omega), if_neg (by omega), if_neg (by omega), if_neg (by omega), if_pos hk]
theorem rel7_tab {P : Int → Int → Prop} {RB : F → Int × V × List Int → Int × V × List Int → Bool} (hRB : ∀ f u v, RB f u v = true ↔ relV P f u v) {f : F} (hk : f.k = 7) (n n' : Int) (t t' : V) (ws ws' : List Int) :
    RB f (n, t, ws) (n', t', ws') = true ↔ Flow t.len t'.len (fun a => getW ws a * sumN (getW ws') ws'.length) (fun b => getW ws' b * sumN (getW ws) ws.length) (tabB RB f t t') := by
 rw [hRB, flowP_iff (tab_iff hRB f t t')]
 unfold relV nodeRel
 rw [if_neg (by omega), if_neg (by omega), if_neg (by omega), if_neg (by omega), if_neg (by omega), if_neg (by omega), if_neg (by omega)]
theorem infoRowB : (Tryz.prog.info? 92).map (fun i => (i.zero, i.size, i.bytes)) = some (some (.slice none 0 0), 1, 24) := by kernel_rfl
structure TabM (w : World) (pb B N m k j : Nat) (q : Nat → Nat → Bool) (rows : Nat → Value) : Prop where
 tab : w.rowIs pb 92 N rows
 own : ∀ i, i < N → w.ownsRow B 4 1 (rows i) (if i < k then m else if i = k then j else 0) ((List.range (if i < k then m else if i = k then j else 0)).map (fun b => .bool (q i b)))
 apart : ∀ i i', i < N → i' < N → i ≠ i' → (rows i).ownBlock = none ∨ (rows i).ownBlock ≠ (rows i').ownBlock
theorem TabM.start {w : World} {pb B N m : Nat} {q : Nat → Nat → Bool} (h : w.rowIs pb 92 N (fun _ => .slice none 0 0)) : TabM w pb B N m 0 0 q (fun _ => .slice none 0 0) :=
 ⟨h, fun i _ => by
  by_cases e : i = 0
  ·subst e; exact World.ownsRow_nil _ _ _ _
  ·simp only [Nat.not_lt_zero, if_false, if_neg e]; exact World.ownsRow_nil _ _ _ _, fun _ _ _ _ _ => Or.inl rfl⟩
theorem TabM.next {w : World} {pb B N m k : Nat} {q : Nat → Nat → Bool} {rows : Nat → Value} (h : TabM w pb B N m k m q rows) : TabM w pb B N m (k + 1) 0 q rows := by
 refine ⟨h.tab, fun i hi => ?_, h.apart⟩
 have h1 := h.own i hi
 have e : (if i < k then m else if i = k then m else 0) = (if i < k + 1 then m else if i = k + 1 then 0 else 0) := by
  by_cases e1 : i < k
  ·simp [e1, show i < k + 1 by omega]
  ·by_cases e2 : i = k
   ·subst e2; simp
   ·simp [e1, e2, show ¬ i < k + 1 by omega]
 rw [e] at h1
 exact h1
theorem TabM.done {w : World} {pb B N m : Nat} {q : Nat → Nat → Bool} {rows : Nat → Value} (h : TabM w pb B N m N 0 q rows) : Tab w (some ⟨pb, 0, none⟩) N m q := by
 have hx : ∀ i, i < N → ∃ a c, rows i = .slice a m c ∧ Cel w a m (fun b => .bool (q i b)) := by
  intro i hi
  have h1 := h.own i hi
  rw [if_pos hi] at h1
  obtain ⟨a, c, e, hc⟩ := own_slice h1
  refine ⟨a, c, e, fun b hb => ?_⟩
  obtain ⟨g, e2, h2⟩ := hc b (.bool (q i b)) (by simp [hb])
  exact ⟨g, 0, e2, by rw [Nat.zero_add]; exact h2⟩
 classical
 refine ⟨fun i => if hi : i < N then Classical.choose (hx i hi) else none, fun i => if hi : i < N then Classical.choose (Classical.choose_spec (hx i hi)) else 0, fun i hi => ?_, fun i hi => ?_⟩
 ·refine ⟨pb, 0, rfl, ?_⟩
  rw [Nat.zero_add, h.tab.cell hi]
  simp only [dif_pos hi]
  rw [← (Classical.choose_spec (Classical.choose_spec (hx i hi))).1]
 ·simp only [dif_pos hi]
  exact (Classical.choose_spec (Classical.choose_spec (hx i hi))).2
theorem TabM.add {w w2 : World} {pb B N m k j : Nat} {q : Nat → Nat → Bool} {rows : Nat → Value} {v' : Value} (h : TabM w pb B N m k j q rows) (hk : k < N) (hp : pb < B) (hg : w.grownBy w2 (rows k).ownBlock)
    (hat : v'.ownBlock = (rows k).ownBlock ∨ v'.ownBlock = some w.heap.size) (hown : w2.ownsRow B 4 1 v' (j + 1) ((List.range j).map (fun b => Value.bool (q k b)) ++ [.bool (q k j)])) :
    TabM (w2.setCell ⟨pb, k, none⟩ v') pb B N m k (j + 1) q (fun i => if i = k then v' else rows i) := by
 have hlt : ∀ i, i < N → ∀ g, (rows i).ownBlock = some g → B ≤ g ∧ g < w.heap.size := fun i hi g hg => (h.own i hi).lt g hg
 have hpk : (rows k).ownBlock ≠ some pb := fun e => by have := (hlt k hk _ e).1; omega
 refine ⟨?_, fun i hi => ?_, fun i i' hi hi' hne => ?_⟩
 ·refine ((h.tab.of_block (hg.block _ h.tab.lt (fun e => hpk e.symm))).set k v').congr (fun i _ => ?_)
  by_cases e : i = k <;> simp [e]
 ·by_cases e : i = k
  ·subst e
   simp only [Nat.lt_irrefl, if_false, if_true]
   rw [List.range_succ, List.map_append]
   exact ownsRow_setCell_below hown (a := ⟨pb, i, none⟩) hp _
  ·have h1 := h.own i hi
   have e2 : (if i < k then m else if i = k then j + 1 else 0) = (if i < k then m else if i = k then j else 0) := by simp [e]
   rw [e2]
   have e4 : (if i = k then v' else rows i) = rows i := if_neg e
   rw [e4]
   refine ownsRow_setCell_below (a := ⟨pb, k, none⟩) (h1.kept hg ?_) hp _
   rcases h.apart i k hi hk e with e3 | e3
   ·exact Or.inl e3
   ·exact Or.inr e3
 ·by_cases e : i = k
  ·subst e
   rw [if_pos rfl, if_neg (fun e => hne e.symm)]
   rcases hat with e1 | e1
   ·rw [e1]; exact h.apart i i' hi hi' hne
   ·rw [e1]
    refine Or.inr (fun e2 => ?_)
    have := (hlt i' hi' _ e2.symm).2
    omega
  ·rw [if_neg e]
   by_cases e3 : i' = k
   ·subst e3
    rw [if_pos rfl]
    rcases hat with e1 | e1
    ·rw [e1]; exact h.apart i i' hi hi' hne
    ·rw [e1]
     refine Or.inr (fun e2 => ?_)
     have := (hlt i hi _ e2).2
     omega
   ·rw [if_neg e3]; exact h.apart i i' hi hi' hne
theorem TabM.below {w w2 : World} {pb B N m k j : Nat} {q : Nat → Nat → Bool} {rows : Nat → Value} (h : TabM w pb B N m k j q rows) (hb : Below w.heap.size w w2) : TabM w2 pb B N m k j q rows :=
 ⟨h.tab.of_block (hb.block _ h.tab.lt), fun i hi => row_below (h.own i hi) hb, h.apart⟩
theorem wOk_one : ∀ (q : Int) (ws : List Int), wOk q ws = true → ∀ i, i < ws.length → 1 ≤ getW ws i
 | _, [], _, i, h => by simp at h
 | q, w :: r, h, 0, _ => by
  simp only [wOk, Bool.and_eq_true, decide_eq_true_eq] at h
  simpa [getW] using h.1.1
 | q, w :: r, h, i + 1, hi => by
  simp only [wOk, Bool.and_eq_true, decide_eq_true_eq] at h
  have := wOk_one (q - w) r h.2 i (by simpa using hi)
  simpa [getW] using this
theorem wts_one {f : F} {m n : Int} {t : V} {ws : List Int} (h : okV nodeOk m f n t ws = true) (hk : f.k = 6 ∨ f.k = 7) : ∀ i, i < ws.length → 1 ≤ getW ws i := by
 have h1 := okV_weighs h
 unfold weighs at h1
 rw [if_pos hk] at h1
 simp only [Bool.and_eq_true, decide_eq_true_eq] at h1
 exact wOk_one _ _ h1.1
theorem dist_some {f : F} {m n : Int} {t : V} {ws : List Int} (h : okV nodeOk m f n t ws = true) (hk : f.k = 7) : 0 < t.len := by
 have h1 := okV_fields h
 unfold vFields argsOf at h1
 simp [hk] at h1
 omega
theorem sumN_one {f : Nat → Int} {n : Nat} (h : ∀ i, i < n → 1 ≤ f i) (hn : 0 < n) : 0 < sumN f n := by
 have h0 : ∀ i, i < n → 0 ≤ f i := fun i hi => by have := h i hi; omega
 have h1 := sumN_elem h0 (k := 0) hn
 have h2 := h 0 hn
 omega
theorem flowsE_any (c1 c2 c4 : Option Addr) (p1 p2 p4 n m : Nat) (rel : Nat → Nat → Bool) (L Rr : Nat → Int) (w : World)
    (h1 : Cel w c1 n (fun i => .int .i64 (L i))) (h2 : Cel w c2 m (fun i => .int .i64 (Rr i))) (h4 : Tab w c4 n m rel) (hnm : 0 < n ↔ 0 < m) (hn : n ≤ 1000) (hm : m ≤ 1000)
    (hL : ∀ i, i < n → 0 ≤ L i) (hR : ∀ i, i < m → 0 ≤ Rr i) (hs : sumN L n = sumN Rr m) (hb : sumN L n ≤ 1152921504606846976) :
    Calls Tryz.prog 60 #[.slice c1 n p1, .slice c2 m p2, .slice c4 n p4] w fun e w' => ∃ r : Bool, e = .returned (.bool r) ∧ (r = true ↔ Flow n m L Rr rel) ∧ Below w.heap.size w w' := by
 by_cases h : 0 < n
 ·exact flows_any c1 c2 c4 p1 p2 p4 n m rel L Rr w h1 h2 h4 h (hnm.1 h) hn hm hL hR hs hb
 ·obtain rfl : n = 0 := by omega
  obtain rfl : m = 0 := by omega
  refine (flows0_any c1 c2 c4 p1 p2 p4 w).mono ?_
  rintro e w' ⟨rfl, hb⟩
  exact ⟨true, rfl, ⟨fun _ => ⟨fun _ _ => 0, fun _ _ => Int.le_refl _, fun _ _ _ => rfl, fun a ha => absurd ha (by omega), fun b hb => absurd hb (by omega)⟩, fun _ => rfl⟩, hb⟩
theorem flow6_any {RB : F → Int × V × List Int → Int × V × List Int → Bool} {P : Int → Int → Prop} (hRB : ∀ f u v, RB f u v = true ↔ relV P f u v) {f : F} {nn mm n n' : Int} {t t' : V} {ws ws' : List Int} (hk : f.k = 6) (hu : okV nodeOk nn f n t ws = true) (hu' : okV nodeOk mm f n' t' ws' = true)
    (c1 c2 c4 : Option Addr) (p1 p2 p4 : Nat) (w : World) {S' S2 : Nat → Prop} (h1 : Ints S' w c1 ws) (h2 : Ints S2 w c2 ws') (h4 : Tab w c4 t.len t'.len (tabB RB f t t')) (hs : sumN (getW ws) ws.length = sumN (getW ws') ws'.length) :
    Calls Tryz.prog 60 #[.slice c1 ws.length p1, .slice c2 ws'.length p2, .slice c4 t.len p4] w fun e w' => e = .returned (.bool (RB f (n, t, ws) (n', t', ws'))) ∧ Below w.heap.size w w' := by
 have W1 := wts_of hu (.inl hk)
 have W2 := wts_of hu' (.inl hk)
 have o1 := wts_one hu (.inl hk)
 have o2 := wts_one hu' (.inl hk)
 have g1 := h1.cel
 have g2 := h2.cel
 have n1 := W1.nn
 have n2 := W2.nn
 have s1 := W1.sum
 rw [W1.ln] at g1 o1 n1 hs s1 ⊢
 rw [W2.ln] at g2 o2 n2 hs ⊢
 refine (flowsE_any c1 c2 c4 p1 p2 p4 t.len t'.len (tabB RB f t t') (getW ws) (getW ws') w g1 g2 h4 ?_ (by have := W1.many; omega) (by have := W2.many; omega) n1 n2 hs (by omega)).mono ?_
 ·constructor
  ·intro h
   have h3 := sumN_one o1 h
   by_cases h4 : 0 < t'.len
   ·exact h4
   ·have : t'.len = 0 := by omega
    rw [hs, this] at h3
    simp [sumN] at h3
  ·intro h
   have h3 := sumN_one o2 h
   by_cases h4 : 0 < t.len
   ·exact h4
   ·have : t.len = 0 := by omega
    rw [← hs, this] at h3
    simp [sumN] at h3
 ·rintro e w' ⟨r, rfl, hr, hb⟩
  refine ⟨?_, hb⟩
  have h5 := hr.trans (rel6_tab hRB hk n n' t t' ws ws').symm
  rw [Bool.eq_iff_iff.2 h5]
theorem flow6_no {RB : F → Int × V × List Int → Int × V × List Int → Bool} {P : Int → Int → Prop} (hRB : ∀ f u v, RB f u v = true ↔ relV P f u v) {f : F} {nn mm n n' : Int} {t t' : V} {ws ws' : List Int} (hk : f.k = 6) (hu : okV nodeOk nn f n t ws = true) (hu' : okV nodeOk mm f n' t' ws' = true)
    (hs : ¬ sumN (getW ws) ws.length = sumN (getW ws') ws'.length) : RB f (n, t, ws) (n', t', ws') = false := by
 have W1 := wts_of hu (.inl hk)
 have W2 := wts_of hu' (.inl hk)
 cases h : RB f (n, t, ws) (n', t', ws')
 ·rfl
 ·have h1 := ((rel6_tab hRB hk n n' t t' ws ws').1 h).sums
  rw [W1.ln, W2.ln] at hs
  exact absurd h1 hs
theorem flow7_any {RB : F → Int × V × List Int → Int × V × List Int → Bool} {P : Int → Int → Prop} (hRB : ∀ f u v, RB f u v = true ↔ relV P f u v) {f : F} {nn mm n n' : Int} {t t' : V} {ws ws' : List Int} (hk : f.k = 7) (hu : okV nodeOk nn f n t ws = true) (hu' : okV nodeOk mm f n' t' ws' = true)
    (c1 c2 c4 : Option Addr) (p1 p2 p4 : Nat) (w : World) (h1 : Cel w c1 ws.length (fun i => .int .i64 (getW ws i * sumN (getW ws') ws'.length))) (h2 : Cel w c2 ws'.length (fun i => .int .i64 (getW ws' i * sumN (getW ws) ws.length))) (h4 : Tab w c4 t.len t'.len (tabB RB f t t')) :
    Calls Tryz.prog 60 #[.slice c1 ws.length p1, .slice c2 ws'.length p2, .slice c4 t.len p4] w fun e w' => e = .returned (.bool (RB f (n, t, ws) (n', t', ws'))) ∧ Below w.heap.size w w' := by
 have W1 := wts_of hu (.inr hk)
 have W2 := wts_of hu' (.inr hk)
 have d1 := dist_some hu hk
 have d2 := dist_some hu' hk
 have n1 := W1.nn
 have n2 := W2.nn
 have s1 := W1.sum
 have s2 := W2.sum
 have p1' := sumN_nonneg _ n1
 have p2' := sumN_nonneg _ n2
 have hR := rel7_tab hRB hk n n' t t' ws ws'
 rw [W1.ln] at h1 h2 n1 s1 p1' hR ⊢
 rw [W2.ln] at h1 h2 n2 s2 p2' hR ⊢
 refine (flowsE_any c1 c2 c4 p1 p2 p4 t.len t'.len (tabB RB f t t') _ _ w h1 h2 h4 ⟨fun _ => d2, fun _ => d1⟩ (by have := W1.many; omega) (by have := W2.many; omega) (fun i hi => Int.mul_nonneg (n1 i hi) p2') (fun i hi => Int.mul_nonneg (n2 i hi) p1') ?_ ?_).mono ?_
 ·rw [sumN_mul, sumN_mul, Int.mul_comm]
 ·rw [sumN_mul]
  exact Int.le_trans (Int.mul_le_mul s1 s2 p2' (by omega)) (by omega)
 ·rintro e w' ⟨r, rfl, hr, hb⟩
  refine ⟨?_, hb⟩
  rw [Bool.eq_iff_iff.2 (hr.trans hR.symm)]
theorem times7_any {f : F} {nn mm n n' : Int} {t t' : V} {ws ws' : List Int} (hk : f.k = 7) (hu : okV nodeOk nn f n t ws = true) (hu' : okV nodeOk mm f n' t' ws' = true)
    (c1 : Option Addr) (p1 : Nat) (w : World) {S' : Nat → Prop} (h1 : Ints S' w c1 ws) :
    Calls Tryz.prog 61 #[.slice c1 ws.length p1, .int .i64 (sumN (getW ws') ws'.length)] w (TimP w ws.length (fun k => getW ws k * sumN (getW ws') ws'.length)) := by
 have W1 := wts_of hu (.inr hk)
 have W2 := wts_of hu' (.inr hk)
 refine timesR_any c1 p1 ws.length (getW ws) _ w h1.cel (fun i hi => ?_) (by have := W1.ln; have := W1.many; omega)
 have g2 : getW ws i ≤ 1048576 := by have := sumN_elem W1.nn hi; have := W1.sum; omega
 have p2 := sumN_nonneg _ W2.nn
 refine ⟨Int.mul_nonneg (W1.nn i hi) p2, ?_⟩
 exact Int.le_trans (Int.mul_le_mul g2 W2.sum p2 (by omega)) (by omega)
theorem sumW_any {f : F} {nn n : Int} {t : V} {ws : List Int} (hk : f.k = 6 ∨ f.k = 7) (hu : okV nodeOk nn f n t ws = true) (c1 : Option Addr) (p1 : Nat) (w : World) {S' : Nat → Prop} (h1 : Ints S' w c1 ws) :
    Calls Tryz.prog 59 #[.slice c1 ws.length p1] w fun e w' => e = .returned (.int .i64 (sumN (getW ws) ws.length)) ∧ w' = w := by
 have W1 := wts_of hu hk
 exact sumR_any c1 p1 ws.length (getW ws) w h1.cel W1.nn (by have := W1.sum; omega) (by have := W1.ln; have := W1.many; omega)
end Go.Proofs.YtfgpjfgejhahfaaGreatDoor
