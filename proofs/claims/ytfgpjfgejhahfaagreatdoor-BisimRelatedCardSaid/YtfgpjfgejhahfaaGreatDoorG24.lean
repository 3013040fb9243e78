/-
  Proved here: contracts of the walk to BisimRelated: bisim.Closure; each under the conditions that its own statement names.
-/
import Derived.Test.YtfgpjfgejhahfaaGreatDoorG03
import Derived.Test.YtfgpjfgejhahfaaGreatDoorG10
import Derived.Test.YtfgpjfgejhahfaaGreatDoorG21
import Derived.StillTailTactics
namespace Go.Proofs.YtfgpjfgejhahfaaGreatDoor
open Go Go.RowKit

theorem Ints.get? {S : Nat → Prop} {w : World} {a : Option Addr} {ws : List Int} (h : Ints S w a ws) {i : Nat} {x : Int} (hx : ws[i]? = some x) : ∃ b o, a = some ⟨b, o, none⟩ ∧ S b ∧ w.cell? ⟨b, o + i, none⟩ = some (.int .i64 x) := by
  rcases h.2 with h2 | ⟨b, o, h2, h3, h4⟩
  · subst h2; simp at hx
  · exact ⟨b, o, h2, h3, h4 i x hx⟩
set_option maxRecDepth 100000 in
set_option maxHeartbeats 1600000 in
/-- The reference's SameInts. -/
theorem sameI_any (S S2 : Nat → Prop) (a a2 : Option Addr) (cap cap2 : Nat) (l l' : List Int) (w : World) (h : Ints S w a l) (h' : Ints S2 w a2 l') :
    Calls Tryz.prog 29 #[.slice a l.length cap, .slice a2 l'.length cap2] w fun e w' => e = .returned (.bool (decide (l = l'))) ∧ Below w.heap.size w w' := by
  have hl1 := h.1
  have hl2 := h'.1
  have HP := Lib.hid h
  have HP2 := Lib.hid h'
  obtain ⟨R, hR⟩ : ∃ R, R = decide (l = l') := ⟨_, rfl⟩
  rw [← hR]
  have HR := Lib.hid hR
  obtain ⟨N, hN⟩ : ∃ N, N = l.length := ⟨_, rfl⟩
  obtain ⟨M, hM⟩ : ∃ M, M = l'.length := ⟨_, rfl⟩
  rw [← hN] at hl1 ⊢
  rw [← hM] at hl2 ⊢
  have HN := Lib.hid hN
  have HM := Lib.hid hM
  clear h h' hR hN hM
  by_cases hlen : N = M
  · subst hlen
    go_enter Tryz.func29, Tryz.ntmps29
    go_wp2_with fail
    go_loopw [13] (fun i wr => ∃ k : Nat, k ≤ N ∧ i = .int .i64 k ∧ l.take k = l'.take k ∧ Below w.heap.size w wr) (fun i _ => N - (intOf i).toNat)
    case atStart => exact ⟨0, Nat.zero_le _, rfl, rfl, Below.refl _ _⟩
    case round =>
      obtain ⟨k, hk, rfl, heq, hb⟩ := hrel
      have HB := Lib.hid hb
      have HE := Lib.hid heq
      by_cases hlt : k < N
      · obtain ⟨p, hp⟩ : ∃ p, l[k]? = some p := ⟨l[k]'(by have := HN.out; omega), List.getElem?_eq_getElem _⟩
        obtain ⟨q, hq⟩ : ∃ q, l'[k]? = some q := ⟨l'[k]'(by have := HM.out; omega), List.getElem?_eq_getElem _⟩
        obtain ⟨b, o, rfl, _, c0⟩ := (HP.out.below hb).get? hp
        obtain ⟨b2, o2, rfl, _, d0⟩ := (HP2.out.below hb).get? hq
        have HQ := Lib.hid (show _ ∧ _ from ⟨hp, hq⟩)
        clear hb heq hp hq
        by_cases hpq : p = q
        · have he : (p != q) = false := by simp [hpq]
          go_wp2_with fail
          go_region
          all_goals go_wp2_with fail
          all_goals go_roundw
          case rel => exact ⟨k + 1, by omega, by go_num, by rw [List.take_add_one, List.take_add_one, HE.out, HQ.out.1, HQ.out.2, hpq], belowN (n := 1) HB.out⟩
          case measure => simp [intOf]; omega
        · have he : (p != q) = true := by simp [hpq]
          go_wp2_with fail
          go_region
          all_goals go_wp2_with fail
          all_goals go_ret
          exact ⟨by rw [HR.out, decide_eq_false (fun e => hpq (by have h1 := HQ.out.1; have h2 := HQ.out.2; rw [e, h2] at h1; exact (Option.some.inj h1).symm))]; rfl, belowN (n := 1) HB.out⟩
      · obtain rfl : k = N := by omega
        clear hb heq
        go_wp2_with fail
        go_ret
        exact ⟨by rw [HR.out, decide_eq_true (by have h := HE.out; rw [HN.out, List.take_length, ← HN.out, HM.out, List.take_length] at h; exact h)]; rfl, HB.out⟩
  · have hne : ((N : Int) != (M : Int)) = true := by simp; omega
    go_enter Tryz.func29, Tryz.ntmps29
    go_wp2_with fail
    go_ret
    exact ⟨by rw [HR.out, decide_eq_false (fun e => hlen (by rw [HN.out, HM.out, e]))]; rfl, Below.refl _ _⟩

/-- The place of a number in a list, or -1. -/
def idx : List Int → Int → Int
  | [], _ => -1
  | x :: l, v => if x = v then 0 else if idx l v < 0 then -1 else idx l v + 1
theorem idx_bd : ∀ (l : List Int) (v : Int), -1 ≤ idx l v ∧ idx l v < l.length := by
  intro l v
  induction l with
  | nil => simp [idx]
  | cons x l ih =>
    simp only [idx, List.length_cons]
    split
    · omega
    · split <;> omega
theorem idx_mem {l : List Int} {v : Int} : 0 ≤ idx l v ↔ v ∈ l := by
  induction l with
  | nil => simp [idx]
  | cons x l ih =>
    simp only [idx, List.mem_cons]
    by_cases h : x = v
    · simp [h]
    · rw [if_neg h]
      by_cases h2 : idx l v < 0
      · rw [if_pos h2]
        have : v ∉ l := fun hv => by have := ih.2 hv; omega
        simp [this, Ne.symm h]
      · rw [if_neg h2]
        have hm := ih.1 (by omega)
        simp [hm]
        omega
theorem idx_snoc {l : List Int} {v c : Int} (h : v ∈ l) : idx (l ++ [c]) v = idx l v := by
  induction l with
  | nil => simp at h
  | cons x l ih =>
    simp only [List.cons_append, idx]
    by_cases hx : x = v
    · simp [hx]
    · have hm : v ∈ l := by simpa [Ne.symm hx] using h
      rw [ih hm]
theorem idx_last {l : List Int} {c : Int} (h : c ∉ l) : idx (l ++ [c]) c = l.length := by
  induction l with
  | nil => simp [idx]
  | cons x l ih =>
    simp only [List.cons_append, idx, List.length_cons]
    simp only [List.mem_cons, not_or] at h
    rw [if_neg (fun e => h.1 e.symm), ih h.2, if_neg (by omega)]
    omega
/-- The search so far: none of the first k, then the rest. -/
theorem idx_take {l : List Int} {v : Int} {k : Nat} (h : v ∉ l.take k) (hk : l[k]? = some v) : idx l v = k := by
  induction l generalizing k with
  | nil => simp at hk
  | cons x l ih =>
    cases k with
    | zero => simp at hk; simp [idx, hk]
    | succ k =>
      simp only [List.take_succ_cons, List.mem_cons, not_or] at h
      have := ih (k := k) h.2 (by simpa using hk)
      simp only [idx]
      rw [if_neg (fun e => h.1 e.symm), this, if_neg (by omega)]
      simp
set_option maxRecDepth 100000 in
set_option maxHeartbeats 1600000 in
/-- The reference's Index. -/
theorem index_any (S : Nat → Prop) (a : Option Addr) (cap : Nat) (l : List Int) (v : Int) (w : World) (h : Ints S w a l) :
    Calls Tryz.prog 72 #[.slice a l.length cap, .int .i64 v] w fun e w' => e = .returned (.int .i64 (idx l v)) ∧ w' = w := by
  have hl1 := h.1
  have HP := Lib.hid h
  obtain ⟨R, hR⟩ : ∃ R, R = idx l v := ⟨_, rfl⟩
  rw [← hR]
  have HR := Lib.hid hR
  obtain ⟨N, hN⟩ : ∃ N, N = l.length := ⟨_, rfl⟩
  rw [← hN] at hl1 ⊢
  have HN := Lib.hid hN
  clear h hR hN
  go_enter Tryz.func72, Tryz.ntmps72
  go_wp2_with fail
  go_loopw [9] (fun i wr => ∃ k : Nat, k ≤ N ∧ i = .int .i64 k ∧ v ∉ l.take k ∧ wr = w) (fun i _ => N - (intOf i).toNat)
  case atStart => exact ⟨0, Nat.zero_le _, rfl, by simp, by first | trivial | rfl⟩
  case round =>
    obtain ⟨k, hk, rfl, hno, rfl⟩ := hrel
    have HNO := Lib.hid hno
    clear hno
    by_cases hlt : k < N
    · obtain ⟨x, hx⟩ : ∃ x, l[k]? = some x := ⟨l[k]'(by have := HN.out; omega), List.getElem?_eq_getElem _⟩
      obtain ⟨b, o, rfl, _, c0⟩ := HP.out.get? hx
      have HX := Lib.hid hx
      clear hx
      by_cases hxv : x = v
      · subst hxv
        go_wp2_with fail
        go_ret
        exact ⟨by rw [HR.out, idx_take HNO.out HX.out]; rfl, rfl⟩
      · have hxb : (x == v) = false := by simp [hxv]
        go_wp2_with fail
        go_roundw
        case rel => exact ⟨k + 1, by omega, by go_num, by rw [List.take_add_one, HX.out]; simp [HNO.out, Ne.symm hxv], by first | trivial | rfl⟩
        case measure => simp [intOf]; omega
    · obtain rfl : k = N := by omega
      go_wp2_with fail
      go_ret
      refine ⟨?_, rfl⟩
      have h1 := HNO.out
      rw [HN.out, List.take_length] at h1
      have h2 : ¬ 0 ≤ idx l v := fun h => h1 (idx_mem.1 h)
      have h3 := (idx_bd l v).1
      rw [HR.out, show idx l v = -1 by omega]
      rfl
end Go.Proofs.YtfgpjfgejhahfaaGreatDoor

namespace Go.Proofs.YtfgpjfgejhahfaaGreatDoor
open Go Go.RowKit

/-- One step of the program: the classes with the first states X and Y become one. -/
def joinF (A : Nat → Int) (X Y : Int) : Nat → Int := fun z => if A z = X ∨ A z = Y then min X Y else A z
/-- One step of the reference. -/
def repF (C : Nat → Int) (a b : Int) : Nat → Int := fun z => if C z = b then a else C z
/-- The two ways to tell classes agree on the numbers below n. -/
structure Cls (n : Nat) (A C : Nat → Int) : Prop where
  nn : ∀ z, z < n → 0 ≤ A z ∧ A z ≤ z
  fix : ∀ z, z < n → A (A z).toNat = A z
  same : ∀ z y, z < n → y < n → (A z = A y ↔ C z = C y)
theorem Cls.start (n : Nat) : Cls n (fun z => z) (fun z => z) := ⟨fun z _ => by omega, fun z _ => by simp, fun z y _ _ => Iff.rfl⟩
theorem Cls.step {n : Nat} {A C : Nat → Int} (h : Cls n A C) {a b : Nat} (ha : a < n) (hb : b < n) : Cls n (joinF A (A a) (A b)) (repF C (C a) (C b)) := by
  have hm : ∀ z, z < n → (A z = A a ∨ A z = A b) → min (A a) (A b) ≤ A z := fun z _ hz => by omega
  have hlt : ∀ z, z < n → (A z).toNat < n := fun z hz => by have := h.nn z hz; omega
  have hmf : A (min (A a) (A b)).toNat = min (A a) (A b) := by
    rcases Int.le_total (A a) (A b) with h1 | h1
    · rw [Int.min_eq_left h1]; exact h.fix a ha
    · rw [Int.min_eq_right h1]; exact h.fix b hb
  have hmi : min (A a) (A b) = A a ∨ min (A a) (A b) = A b := by omega
  refine ⟨fun z hz => ?_, fun z hz => ?_, fun z y hz hy => ?_⟩
  · have h1 := h.nn z hz
    have h2 := h.nn a ha
    have h3 := h.nn b hb
    unfold joinF
    split <;> omega
  · unfold joinF
    by_cases hg : A z = A a ∨ A z = A b
    · rw [if_pos hg, hmf, if_pos hmi]
    · rw [if_neg hg, h.fix z hz, if_neg hg]
  · have sz : (A z = A a ∨ A z = A b) ↔ (C z = C a ∨ C z = C b) := by rw [h.same z a hz ha, h.same z b hz hb]
    have sy : (A y = A a ∨ A y = A b) ↔ (C y = C a ∨ C y = C b) := by rw [h.same y a hy ha, h.same y b hy hb]
    have szy := h.same z y hz hy
    have sza := h.same z a hz ha
    have sya := h.same y a hy ha
    unfold joinF repF
    by_cases hz1 : C z = C b <;> by_cases hy1 : C y = C b
    · rw [if_pos hz1, if_pos hy1, if_pos (sz.2 (Or.inr hz1)), if_pos (sy.2 (Or.inr hy1))]
      simp
    · rw [if_pos hz1, if_neg hy1, if_pos (sz.2 (Or.inr hz1))]
      by_cases hy2 : C y = C a
      · rw [if_pos (sy.2 (Or.inl hy2)), hy2]; simp
      · have hn : ¬ (A y = A a ∨ A y = A b) := fun h => by rcases sy.1 h with h | h; exact hy2 h; exact hy1 h
        rw [if_neg hn]
        constructor
        · intro e; exfalso; apply hn; rw [← e]; exact hmi
        · intro e; exact absurd e.symm hy2
    · rw [if_neg hz1, if_pos hy1, if_pos (sy.2 (Or.inr hy1))]
      by_cases hz2 : C z = C a
      · rw [if_pos (sz.2 (Or.inl hz2)), hz2]; simp
      · have hn : ¬ (A z = A a ∨ A z = A b) := fun h => by rcases sz.1 h with h | h; exact hz2 h; exact hz1 h
        rw [if_neg hn]
        constructor
        · intro e; exfalso; apply hn; rw [e]; exact hmi
        · intro e; exact absurd e hz2
    · rw [if_neg hz1, if_neg hy1]
      by_cases hz2 : C z = C a <;> by_cases hy2 : C y = C a
      · rw [if_pos (sz.2 (Or.inl hz2)), if_pos (sy.2 (Or.inl hy2)), hz2, hy2]
        simp
      · have hn : ¬ (A y = A a ∨ A y = A b) := fun h => by rcases sy.1 h with h | h; exact hy2 h; exact hy1 h
        rw [if_pos (sz.2 (Or.inl hz2)), if_neg hn]
        constructor
        · intro e; exfalso; apply hn; rw [← e]; exact hmi
        · intro e; exact absurd (e.symm.trans hz2) hy2
      · have hn : ¬ (A z = A a ∨ A z = A b) := fun h => by rcases sz.1 h with h | h; exact hz2 h; exact hz1 h
        rw [if_neg hn, if_pos (sy.2 (Or.inl hy2))]
        constructor
        · intro e; exfalso; apply hn; rw [e]; exact hmi
        · intro e; exact absurd (e.trans hy2) hz2
      · have hn : ¬ (A z = A a ∨ A z = A b) := fun h => by rcases sz.1 h with h | h; exact hz2 h; exact hz1 h
        have hn' : ¬ (A y = A a ∨ A y = A b) := fun h => by rcases sy.1 h with h | h; exact hy2 h; exact hy1 h
        rw [if_neg hn, if_neg hn']
        exact szy
/-- The numbers of the classes, by the first states. -/
def numsF (A : Nat → Int) : Nat → (List Int × Int)
  | 0 => ([], 0)
  | x + 1 => if A x = x then ((numsF A x).1 ++ [(numsF A x).2], (numsF A x).2 + 1) else ((numsF A x).1 ++ [(numsF A x).1.getD (A x).toNat 0], (numsF A x).2)
/-- The numbers of the classes, by the order in which they come up. -/
def numsC (C : Nat → Int) : Nat → (List Int × List Int)
  | 0 => ([], [])
  | x + 1 => if idx (numsC C x).2 (C x) < 0 then ((numsC C x).1 ++ [idx ((numsC C x).2 ++ [C x]) (C x)], (numsC C x).2 ++ [C x]) else ((numsC C x).1 ++ [idx (numsC C x).2 (C x)], (numsC C x).2)
theorem numsF_len (A : Nat → Int) (x : Nat) : (numsF A x).1.length = x := by
  induction x with
  | zero => rfl
  | succ x ih => simp only [numsF]; split <;> simp [ih]
theorem numsF_many (A : Nat → Int) (x : Nat) : 0 ≤ (numsF A x).2 ∧ (numsF A x).2 ≤ x := by
  induction x with
  | zero => simp [numsF]
  | succ x ih => simp only [numsF]; split <;> simp <;> omega
theorem nums_eq {n : Nat} {A C : Nat → Int} (h : Cls n A C) : ∀ x, x ≤ n → (numsF A x).1 = (numsC C x).1 ∧ ((numsC C x).2.length : Int) = (numsF A x).2 ∧ (∀ j, j < x → C j ∈ (numsC C x).2 ∧ (numsC C x).1[j]? = some (idx (numsC C x).2 (C j))) ∧ ∀ v ∈ (numsC C x).2, ∃ j, j < x ∧ C j = v := by
  intro x
  induction x with
  | zero => intro _; exact ⟨rfl, rfl, fun j hj => by omega, fun v hv => by simp [numsC] at hv⟩
  | succ x ih =>
    intro hx
    obtain ⟨e1, e2, e3, e4⟩ := ih (by omega)
    have hlen : (numsC C x).1.length = x := by rw [← e1]; exact numsF_len A x
    by_cases hf : A x = x
    · have hno : C x ∉ (numsC C x).2 := fun hm => by
        obtain ⟨j, hj, hc⟩ := e4 _ hm
        have h1 := (h.same j x (by omega) (by omega)).2 hc
        have h2 := h.nn j (by omega)
        omega
      have hneg : idx (numsC C x).2 (C x) < 0 := by
        have : ¬ 0 ≤ idx (numsC C x).2 (C x) := fun hh => hno (idx_mem.1 hh)
        omega
      simp only [numsF, numsC]
      rw [if_pos hf, if_pos hneg]
      refine ⟨?_, by simp; omega, fun j hj => ?_, fun v hv => ?_⟩
      · simp only
        rw [e1, idx_last hno, ← e2]
      · rcases (show j < x ∨ j = x by omega) with hj | rfl
        · refine ⟨by simp [(e3 j hj).1], ?_⟩
          simp only
          rw [List.getElem?_append_left (by omega), (e3 j hj).2, idx_snoc (e3 j hj).1]
        · refine ⟨by simp, ?_⟩
          simp only
          rw [List.getElem?_append_right (by omega), hlen]
          simp
      · simp at hv
        rcases hv with hv | rfl
        · obtain ⟨j, hj, hc⟩ := e4 v hv; exact ⟨j, by omega, hc⟩
        · exact ⟨x, by omega, rfl⟩
    · have hn := h.nn x (by omega)
      have hlt : (A x).toNat < x := by omega
      have hc : C (A x).toNat = C x := (h.same _ x (by omega) (by omega)).1 (h.fix x (by omega))
      obtain ⟨h3, h4⟩ := e3 _ hlt
      have hpos : ¬ idx (numsC C x).2 (C x) < 0 := by
        have := idx_mem.2 h3
        rw [hc] at this
        omega
      simp only [numsF, numsC]
      rw [if_neg hf, if_neg hpos]
      refine ⟨?_, by simpa using e2, fun j hj => ?_, fun v hv => ?_⟩
      · simp only
        rw [e1, List.getD_eq_getElem?_getD, h4, hc]
        rfl
      · rcases (show j < x ∨ j = x by omega) with hj | rfl
        · refine ⟨(e3 j hj).1, ?_⟩
          simp only
          rw [List.getElem?_append_left (by omega), (e3 j hj).2]
        · refine ⟨by rw [← hc]; exact h3, ?_⟩
          simp only
          rw [List.getElem?_append_right (by omega), hlen]
          simp
      · obtain ⟨j, hj, hc'⟩ := e4 v hv; exact ⟨j, by omega, hc'⟩
/-- The steps of a relation. -/
def joinAll : (Nat → Int) → List (Int × Int) → (Nat → Int)
  | A, [] => A
  | A, p :: r => joinAll (joinF A (A p.1.toNat) (A p.2.toNat)) r
def repAll : (Nat → Int) → List (Int × Int) → (Nat → Int)
  | C, [] => C
  | C, p :: r => repAll (repF C (C p.1.toNat) (C p.2.toNat)) r
theorem joinAll_snoc (A : Nat → Int) (r : List (Int × Int)) (p : Int × Int) : joinAll A (r ++ [p]) = joinF (joinAll A r) (joinAll A r p.1.toNat) (joinAll A r p.2.toNat) := by
  induction r generalizing A with
  | nil => rfl
  | cons q r ih => exact ih _
theorem repAll_snoc (C : Nat → Int) (r : List (Int × Int)) (p : Int × Int) : repAll C (r ++ [p]) = repF (repAll C r) (repAll C r p.1.toNat) (repAll C r p.2.toNat) := by
  induction r generalizing C with
  | nil => rfl
  | cons q r ih => exact ih _
theorem cls_all {n : Nat} (r : List (Int × Int)) (hr : ∀ p ∈ r, 0 ≤ p.1 ∧ p.1 < n ∧ 0 ≤ p.2 ∧ p.2 < n) : ∀ {A C : Nat → Int}, Cls n A C → Cls n (joinAll A r) (repAll C r) := by
  induction r with
  | nil => intro A C h; exact h
  | cons p r ih =>
    intro A C h
    have hp := hr p (by simp)
    exact ih (fun q hq => hr q (by simp [hq])) (h.step (by omega) (by omega))
/-- The classes of the closure: both ways. -/
theorem closure_eq (n : Nat) (r : List (Int × Int)) (hr : ∀ p ∈ r, 0 ≤ p.1 ∧ p.1 < n ∧ 0 ≤ p.2 ∧ p.2 < n) : (numsF (joinAll (fun z => z) r) n).1 = (numsC (repAll (fun z => z) r) n).1 :=
  (nums_eq (cls_all r hr (Cls.start n)) n (Nat.le_refl _)).1
end Go.Proofs.YtfgpjfgejhahfaaGreatDoor

namespace Go.Proofs.YtfgpjfgejhahfaaGreatDoor
open Go Go.RowKit

set_option maxRecDepth 100000 in
set_option maxHeartbeats 1600000 in
theorem join_any (rb n : Nat) (A : Nat → Int) (X Y : Int) (w : World) (hr : w.rowIs rb 3 n (fun i => .int .i64 (A i))) (hn : n ≤ 1000000) :
    Calls Tryz.prog 70 #[.slice (some ⟨rb, 0, none⟩) n n, .int .i64 X, .int .i64 Y] w fun e w' => e = .returned (.tuple #[]) ∧ w'.rowIs rb 3 n (fun i => .int .i64 (joinF A X Y i)) ∧ Kept (fun j => j = rb) w w' := by
  have HR := Lib.hid hr
  obtain ⟨m, hm⟩ : ∃ m, m = min X Y := ⟨_, rfl⟩
  have HM := Lib.hid hm
  clear hr hm
  go_enter Tryz.func70, Tryz.ntmps70
  go_wp2_with fail
  go_loopw [10] (fun i wr => ∃ k : Nat, k ≤ n ∧ i = .int .i64 k ∧ wr.rowIs rb 3 n (fun j => .int .i64 (if j < k then joinF A X Y j else A j)) ∧ Kept (fun j => j = rb) w wr) (fun i _ => n - (intOf i).toNat)
  case atStart => exact ⟨0, Nat.zero_le _, rfl, HR.out.congr (fun _ _ => by simp), Kept.refl _ _⟩
  case round =>
    obtain ⟨k, hk, rfl, hrow, hkp⟩ := hrel
    have HK := Lib.hid hkp
    have HRW := Lib.hid hrow
    clear hkp
    by_cases hlt : k < n
    · obtain ⟨x, hx⟩ : ∃ x, x = A k := ⟨_, rfl⟩
      have hd : wr.cell? ⟨rb, k, none⟩ = some (.int .i64 x) := by have := hrow.cell hlt; rw [if_neg (by omega)] at this; rw [hx]; exact this
      have hf := hrow.frozen k
      have HXX := Lib.hid hx
      clear hrow hx
      by_cases hg : x = X ∨ x = Y
      · have HG := Lib.hid (show joinF A X Y k = m by unfold joinF; rw [← HXX.out, if_pos hg, HM.out])
        have fin : ∀ v : Int, v = m → ((wr.setCell ⟨rb, k, none⟩ (.int .i64 v)).rowIs rb 3 n (fun j => .int .i64 (if j < k + 1 then joinF A X Y j else A j))) := fun v hv => (rowI_set HRW.out k v).congr (fun j hj => by
          by_cases e : j = k
          · subst e; simp [HG.out, hv]
          · by_cases e2 : j < k
            · simp [e, e2, show j < k + 1 by omega]
            · simp [e, e2, show ¬ j < k + 1 by omega])
        have FIN := Lib.hid fin
        clear fin
        have hK2 := Lib.hid (fun v : Int => HK.out.set (p := ⟨rb, k, none⟩) (Or.inl rfl) (.int .i64 v))
        by_cases h1 : x = X
        · subst h1
          go_wp2_with fail
          go_roundw
          case rel => exact ⟨k + 1, by omega, by go_num, FIN.out _ HM.out.symm, hK2.out _⟩
          case measure => simp [intOf]; omega
        · have h2 : x = Y := by rcases hg with h | h; exact absurd h h1; exact h
          subst h2
          have h3 : (x == X) = false := by simp [h1]
          go_wp2_with fail
          go_roundw
          case rel => exact ⟨k + 1, by omega, by go_num, FIN.out _ HM.out.symm, hK2.out _⟩
          case measure => simp [intOf]; omega
      · have h1 : (x == X) = false := by simp; exact fun h => hg (Or.inl h)
        have h2 : (x == Y) = false := by simp; exact fun h => hg (Or.inr h)
        have HG := Lib.hid (show joinF A X Y k = A k by unfold joinF; rw [← HXX.out, if_neg hg])
        go_wp2_with fail
        go_roundw
        case rel => exact ⟨k + 1, by omega, by go_num, HRW.out.congr (fun j hj => by
          by_cases e : j = k
          · subst e; simp [HG.out]
          · by_cases e2 : j < k
            · simp [e2, show j < k + 1 by omega]
            · simp [e2, show ¬ j < k + 1 by omega]), HK.out⟩
        case measure => simp [intOf]; omega
    · obtain rfl : k = n := by omega
      clear hrow
      go_wp2_with fail
      go_end0
      exact ⟨rfl, HRW.out.congr (fun j hj => by simp [hj]), HK.out⟩
end Go.Proofs.YtfgpjfgejhahfaaGreatDoor

namespace Go.Proofs.YtfgpjfgejhahfaaGreatDoor
open Go Go.RowKit

def cloE (f : F) (t : V) (r : List (Int × Int)) : Int := if sysOk f t = true then (if relFrom t.len t.len none r = true then 0 else 1) else 30
def cloL (f : F) (t : V) (r : List (Int × Int)) : List Int := if cloE f t r = 0 then (numsF (joinAll (fun z => z) r) t.len).1 else []
theorem relFrom_all {n m : Int} : ∀ {r : List (Int × Int)} {pr : Option (Int × Int)}, relFrom n m pr r = true → ∀ z ∈ r, 0 ≤ z.1 ∧ z.1 < n ∧ 0 ≤ z.2 ∧ z.2 < m := by
  intro r
  induction r with
  | nil => intro pr _ z hz; simp at hz
  | cons p r ih =>
    intro pr h z hz
    cases pr with
    | none =>
      simp only [relFrom, Bool.and_eq_true] at h
      rcases List.mem_cons.1 hz with rfl | hz
      · exact of_decide_eq_true h.1
      · exact ih h.2 z hz
    | some q =>
      simp only [relFrom, Bool.and_eq_true] at h
      rcases List.mem_cons.1 hz with rfl | hz
      · exact of_decide_eq_true h.1
      · exact ih h.2.2 z hz

/-- The row of a result, as its caller may write it. -/
def RowW (w' : World) (al : Option Addr) (n : Nat) : Prop := n = 0 ∨ ∃ b cur, al = some ⟨b, 0, none⟩ ∧ w'.heap[b]? = some (.cells cur 3 (0, 0)) ∧ n ≤ cur.size

set_option maxRecDepth 100000 in
set_option maxHeartbeats 6400000 in
theorem clo_any (S : Nat → Nat → Prop) (S' S2 : Nat → Prop) (f : F) (a na ar : Option Addr) (cap ncap cr : Nat) (t : V) (r : List (Int × Int)) (w : World) (hs : Sl S w a f.t) (hv : Vl S' w na t) (hk : Kinds w) (hr : Prs S2 w ar r) (hN : r.length ≤ 1000000) :
    Calls Tryz.prog 27 #[Sv f a cap na t.len ncap, .slice ar r.length cr] w fun e w' => ∃ al cl, e = .returned (.tuple #[.slice al (cloL f t r).length cl, .int .i64 (cloE f t r)]) ∧ Ints (fun b => w.heap.size ≤ b) w' al (cloL f t r) ∧ Below w.heap.size w w' ∧ RowW w' al (cloL f t r).length := by
  obtain ⟨W, hW⟩ : ∃ W : World, W = w.alloc (Obj.cells #[.int .i64 f.k, .int .i64 f.n, .slice a f.t.len cap, .slice na t.len ncap] 42) := ⟨_, rfl⟩
  have hWb : Below w.heap.size w W := by rw [hW]; exact (Below.refl _ _).alloc (Nat.le_refl _) _
  have k0 : W.heap[w.heap.size]? = some (Obj.cells #[.int .i64 f.k, .int .i64 f.n, .slice a f.t.len cap, .slice na t.len ncap] 42 (0, 0)) := by rw [hW]; exact heap_new _ _
  obtain ⟨bs, hbs⟩ : ∃ bs, bs = w.heap.size := ⟨_, rfl⟩
  rw [← hbs] at k0
  obtain ⟨c0, c1, c2, c3⟩ := cells4 k0
  have HK0 := Lib.hid k0
  have HWB := Lib.hid hWb
  obtain ⟨E, hE⟩ : ∃ E, E = cloE f t r := ⟨_, rfl⟩
  obtain ⟨L, hL⟩ : ∃ L, L = cloL f t r := ⟨_, rfl⟩
  rw [← hE, ← hL]
  have HE := Lib.hid hE
  have HL := Lib.hid hL
  have HCH := Lib.hid (syscheck_any S S' f a na cap ncap t W (hs.below hWb) (hv.below hWb) (hk.below hWb))
  have HP := Lib.hid (hr.below hWb)
  have htl := hv.1
  obtain ⟨n, hn⟩ : ∃ n, n = t.len := ⟨_, rfl⟩
  obtain ⟨N, hNN⟩ : ∃ N, N = r.length := ⟨_, rfl⟩
  rw [← hn] at HCH c3 htl hW ⊢
  rw [← hNN] at hN ⊢
  have HNn := Lib.hid hn
  have HN := Lib.hid hNN
  clear hs hv hk hr hWb k0 hE hL hNN
  by_cases hsys : sysOk f t = true
  rotate_left
  · have HE2 := Lib.hid (show E = 30 by rw [HE.out]; unfold cloE; rw [if_neg hsys])
    have HC2 := Lib.hid (show Calls Tryz.prog 69 #[Sv f a cap na n ncap] W (fun e w' => e = .returned (.int .i64 30) ∧ Below W.heap.size W w') by have h := HCH.out; rw [if_neg hsys] at h; exact h)
    clear hsys HCH hn
    go_enter Tryz.func27, Tryz.ntmps27
    go_wp2_with fail
    rw [← hW, ← hbs]
    clear hW hbs
    refine HC2.out.mono ?_
    rintro e w1 ⟨rfl, hb1⟩
    have HB1 := Lib.hid hb1
    clear hb1
    go_wp2_with fail
    go_ret2
    have hL0 : L = [] := by rw [HL.out]; unfold cloL; rw [if_neg (by rw [← HE.out, HE2.out]; decide)]
    exact ⟨none, 0, by rw [hL0, HE2.out]; rfl, by rw [hL0]; exact ⟨by simp, Or.inl rfl⟩, HWB.out.trans (HB1.out.mono HWB.out.size), Or.inl (by rw [hL0]; rfl)⟩
  · have HC2 := Lib.hid (show Calls Tryz.prog 69 #[Sv f a cap na n ncap] W (fun e w' => e = .returned (.int .i64 0) ∧ Below W.heap.size W w') by have h := HCH.out; rw [if_pos hsys] at h; exact h)
    have hn1 : n ≤ 100 := by
      unfold sysOk at hsys
      simp only [Bool.and_eq_true, decide_eq_true_eq] at hsys
      have := hsys.2.1
      omega
    by_cases hrel : relFrom (n : Int) (n : Int) none r = true
    rotate_left
    · have HE2 := Lib.hid (show E = 1 by rw [HE.out]; unfold cloE; rw [if_pos hsys, if_neg (by rw [← hn]; exact hrel)])
      have HRF := Lib.hid (show relFrom (n : Int) (n : Int) none r = false by simpa using hrel)
      clear hsys HCH hn hrel
      go_enter Tryz.func27, Tryz.ntmps27
      go_wp2_with fail
      rw [← hW, ← hbs]
      clear hW hbs
      refine HC2.out.mono ?_
      rintro e w1 ⟨rfl, hb1⟩
      have HB1 := Lib.hid hb1
      have HR2 := Lib.hid (show Calls Tryz.prog 48 #[.slice ar N cr, .int .i64 n, .int .i64 n] w1 (fun e w' => e = .returned (.bool false) ∧ Below w1.heap.size w1 w') by
        have h := isRel_any S2 ar cr r n n w1 (HP.out.below hb1)
        rw [← HN.out, HRF.out] at h
        exact h)
      obtain ⟨d0, d1, d2, d3⟩ := cells4 ((hb1.block _ (heap_lt HK0.out)).trans HK0.out)
      rw [← HNn.out] at d3
      clear hb1 c0 c1 c2 c3
      go_wp2_with fail
      refine HR2.out.mono ?_
      rintro e w2 ⟨rfl, hb2⟩
      have HB2 := Lib.hid hb2
      clear hb2
      go_wp2_with fail
      go_ret2
      have hL0 : L = [] := by rw [HL.out]; unfold cloL; rw [if_neg (by rw [← HE.out, HE2.out]; decide)]
      exact ⟨none, 0, by rw [hL0, HE2.out]; rfl, by rw [hL0]; exact ⟨by simp, Or.inl rfl⟩, HWB.out.trans ((HB1.out.mono HWB.out.size).trans (HB2.out.mono (Nat.le_trans HWB.out.size HB1.out.size))), Or.inl (by rw [hL0]; rfl)⟩
    · have HE2 := Lib.hid (show E = 0 by rw [HE.out]; unfold cloE; rw [if_pos hsys, if_pos (by rw [← hn]; exact hrel)])
      have HL2 := Lib.hid (show L = (numsF (joinAll (fun z => z) r) n).1 by rw [HL.out]; unfold cloL; rw [if_pos (by rw [← HE.out, HE2.out]), hn])
      have HRA := Lib.hid (relFrom_all hrel)
      have HRF := Lib.hid hrel
      have hmk := run_make_row' (P := Tryz.prog) 26 3 (.int .i64 0) 8 Tryz.underlying26 infoInt rfl .i64 .i64 n (by omega) (by omega)
      clear hsys HCH hn hrel
      go_enter Tryz.func27, Tryz.ntmps27
      go_wp2_with fail
      rw [← hW, ← hbs]
      clear hW hbs
      refine HC2.out.mono ?_
      rintro e w1 ⟨rfl, hb1⟩
      have HB1 := Lib.hid hb1
      have HR2 := Lib.hid (show Calls Tryz.prog 48 #[.slice ar N cr, .int .i64 n, .int .i64 n] w1 (fun e w' => e = .returned (.bool true) ∧ Below w1.heap.size w1 w') by
        have h := isRel_any S2 ar cr r n n w1 (HP.out.below hb1)
        rw [← HN.out, HRF.out] at h
        exact h)
      obtain ⟨d0, d1, d2, d3⟩ := cells4 ((hb1.block _ (heap_lt HK0.out)).trans HK0.out)
      rw [← HNn.out] at d3
      clear hb1 c0 c1 c2 c3
      go_wp2_with fail
      refine HR2.out.mono ?_
      rintro e w2 ⟨rfl, hb2⟩
      have HBW := Lib.hid (show Below w.heap.size w w2 from HWB.out.trans ((HB1.out.mono HWB.out.size).trans (hb2.mono (Nat.le_trans HWB.out.size HB1.out.size))))
      have HP2 := Lib.hid ((HP.out.below HB1.out).below hb2)
      obtain ⟨Y, hY⟩ : ∃ Y : World, Y = w2.alloc (Obj.cells (madeCells #[Value.int .i64 0] n) 3) := ⟨_, rfl⟩
      have HYB := Lib.hid (show Below w.heap.size w Y by rw [hY]; exact HBW.out.alloc HBW.out.size _)
      have HYR := Lib.hid (show Y.rowIs w2.heap.size 3 n (fun _ => .int .i64 0) by rw [hY]; exact World.rowIs_made _ _ _ _)
      have HY2 := Lib.hid (show Below w2.heap.size w2 Y by rw [hY]; exact (Below.refl _ _).alloc (Nat.le_refl _) _)
      obtain ⟨rb, hrb⟩ : ∃ rb, rb = w2.heap.size := ⟨_, rfl⟩
      have HRB := Lib.hid hrb
      rw [← hrb] at HYR
      clear hb2 d0 d1 d2 d3
      go_upto_region 7 with (fail)
      rw [← hY, ← hrb]
      clear hY hrb
      go_wp2_with fail
      go_loopw [30] (fun i wr => ∃ k : Nat, k ≤ n ∧ i = .int .i64 k ∧ wr.rowIs rb 3 n (fun j => .int .i64 (if j < k then (j : Int) else 0)) ∧ Kept (fun j => j = rb) Y wr) (fun i _ => n - (intOf i).toNat)
      case atStart => exact ⟨0, Nat.zero_le _, rfl, HYR.out.congr (fun _ _ => by simp), Kept.refl _ _⟩
      case round =>
        obtain ⟨k, hk, rfl, hrow, hkp⟩ := hrel
        have HK := Lib.hid hkp
        have HRW := Lib.hid hrow
        clear hkp
        by_cases hlt : k < n
        · have hd := hrow.cell hlt
          have hf := hrow.frozen k
          clear hrow
          go_wp2_with fail
          go_roundw
          case rel => exact ⟨k + 1, by omega, by go_num, (rowI_set HRW.out k (k : Int)).congr (fun j hj => by
            by_cases e : j = k
            · subst e; simp
            · by_cases e2 : j < k
              · simp [e, e2, show j < k + 1 by omega]
              · simp [e, e2, show ¬ j < k + 1 by omega]), HK.out.set (p := ⟨rb, k, none⟩) (Or.inl rfl) _⟩
          case measure => simp [intOf]; omega
        · obtain rfl : k = n := by omega
          obtain ⟨w3, rfl⟩ : ∃ w3 : World, w3 = wr := ⟨_, rfl⟩
          have HR3 := Lib.hid (show w3.rowIs rb 3 k (fun j => .int .i64 ((fun z : Nat => (z : Int)) j)) from HRW.out.congr (fun j hj => by simp [hj]))
          clear hrow HRW
          go_wp2_with fail
          go_loopw [40] (fun i wr => ∃ m : Nat, m ≤ N ∧ i = .int .i64 m ∧ wr.rowIs rb 3 k (fun j => .int .i64 (joinAll (fun z => z) (r.take m) j)) ∧ Kept (fun j => j = rb) Y wr) (fun i _ => N - (intOf i).toNat)
          case atStart => exact ⟨0, Nat.zero_le _, rfl, HR3.out, HK.out⟩
          case round =>
            obtain ⟨m, hm, rfl, hrow, hkp⟩ := hrel
            have HKM := Lib.hid hkp
            have HRW := Lib.hid hrow
            by_cases hlt2 : m < N
            · obtain ⟨p, hp⟩ : ∃ p, r[m]? = some p := ⟨r[m]'(by have := HN.out; omega), List.getElem?_eq_getElem _⟩
              obtain ⟨b, o, rfl, _, e0, e1⟩ := HP2.out.get hp
              have hbne : b ≠ rb := fun e => by have h1 := lt_of_cell e0; have := HRB.out; omega
              have e0' := hkp.cell hbne (cell_below HY2.out e0)
              have e1' := hkp.cell hbne (cell_below HY2.out e1)
              have hpin := HRA.out p (List.mem_of_getElem? hp)
              have HTK := Lib.hid (show r.take (m + 1) = r.take m ++ [p] by rw [List.take_add_one, hp]; rfl)
              obtain ⟨p1, p2⟩ := p
              simp only at e0' e1' hpin HTK
              obtain ⟨pa, rfl⟩ : ∃ pa : Nat, p1 = (pa : Int) := ⟨p1.toNat, by omega⟩
              obtain ⟨pc, rfl⟩ : ∃ pc : Nat, p2 = (pc : Int) := ⟨p2.toNat, by omega⟩
              obtain ⟨hp1, hp2, hp3, hp4⟩ := hpin
              have hpak : pa < k := by omega
              have hpck : pc < k := by omega
              obtain ⟨X, hX⟩ : ∃ X : World, X = wr.alloc (.cells #[.int .i64 (pa : Int), .int .i64 (pc : Int)] 61) := ⟨_, rfl⟩
              obtain ⟨pb, hpb⟩ : ∃ pb, pb = wr.heap.size := ⟨_, rfl⟩
              have hXb : X.heap[pb]? = some (.cells #[.int .i64 (pa : Int), .int .i64 (pc : Int)] 61 (0, 0)) := by rw [hX, hpb]; exact World.alloc_heap_new _ _
              have hXk : Kept (fun j => j = rb) Y X := by rw [hX]; exact hkp.alloc _
              have hXr : X.rowIs rb 3 k (fun j => .int .i64 (joinAll (fun z => z) (r.take m) j)) := by rw [hX]; exact hrow.alloc _
              obtain ⟨B, hB⟩ : ∃ B : Nat → Int, B = joinAll (fun z => z) (r.take m) := ⟨_, rfl⟩
              rw [← hB] at hXr
              have hTK : joinAll (fun z => z) (r.take (m + 1)) = joinF B (B pa) (B pc) := by rw [HTK.out, joinAll_snoc, ← hB]; rfl
              have HJ := Lib.hid hTK
              have x0 := (cells2 hXb).1
              have x1 := (cells2 hXb).2
              have y0 := hXr.cell hpak
              have y1 := hXr.cell hpck
              have HXR := Lib.hid hXr
              have HXK := Lib.hid hXk
              clear hrow hkp hp e0 e1 hB hTK hXb hXk hXr hbne
              go_wp2_with fail
              rw [← hX, ← hpb]
              clear hX hpb
              go_still_tail 11, (by kernel_rfl)
              change wpList _ _ _ _ _ X.drew
              go_wp2_with (go_at_call 70; refine (join_any rb k B (B pa) (B pc) _ (HXR.out.drew) (by omega)).mono ?_; rintro e x ⟨rfl, hrow5, hk5⟩)
              have HR5 := Lib.hid hrow5
              have HK5 := Lib.hid hk5
              clear hrow5 hk5
              go_wp2_with fail
              go_roundw
              case rel => exact ⟨m + 1, by omega, by go_num, by rw [HJ.out]; exact HR5.out, (HXK.out.drew).trans HK5.out⟩
              case measure => simp [intOf]; omega
            · obtain rfl : m = N := by omega
              obtain ⟨w4, rfl⟩ : ∃ w4 : World, w4 = wr := ⟨_, rfl⟩
              obtain ⟨B, hB⟩ : ∃ B : Nat → Int, B = joinAll (fun z => z) r := ⟨_, rfl⟩
              have hB2 : joinAll (fun z : Nat => (z : Int)) (r.take m) = B := by rw [HN.out, List.take_length, hB]
              have HBB := Lib.hid hB
              have HCL := Lib.hid (show Cls k B (repAll (fun z => z) r) by rw [hB]; exact cls_all r (fun p hp => HRA.out p hp) (Cls.start k))
              have HR4 := Lib.hid (show w4.rowIs rb 3 k (fun j => .int .i64 (B j)) by rw [← hB2]; exact hrow)
              obtain ⟨Z, hZ⟩ : ∃ Z : World, Z = w4.alloc (Obj.cells (madeCells #[Value.int .i64 0] k) 3) := ⟨_, rfl⟩
              obtain ⟨cb, hcb⟩ : ∃ cb, cb = w4.heap.size := ⟨_, rfl⟩
              have HZR := Lib.hid (show Z.rowIs rb 3 k (fun j => .int .i64 (B j)) by rw [hZ]; exact HR4.out.alloc _)
              have HZC := Lib.hid (show Z.rowIs cb 3 k (fun _ => .int .i64 0) by rw [hZ, hcb]; exact World.rowIs_made _ _ _ _)
              have HZK := Lib.hid (show Kept (fun j => j = rb) Y Z by rw [hZ]; exact hkp.alloc _)
              have hne : rb ≠ cb := by have := HR4.out.lt; omega
              have HNE := Lib.hid hne
              have HCB := Lib.hid (show Y.heap.size ≤ cb by rw [hcb]; exact hkp.size)
              clear hrow hkp hB hB2 hne
              go_upto_region 18 with (fail)
              rw [← hZ, ← hcb]
              clear hZ hcb
              go_wp2_with fail
              go_loopw [12, 61] (fun mv i wr => ∃ x : Nat, x ≤ k ∧ i = .int .i64 x ∧ mv = .int .i64 (numsF B x).2 ∧ wr.rowIs cb 3 k (fun j => .int .i64 ((numsF B x).1.getD j 0)) ∧ wr.rowIs rb 3 k (fun j => .int .i64 (B j)) ∧ Kept (fun j => j = rb ∨ j = cb) Z wr) (fun _ i _ => k - (intOf i).toNat)
              case atStart => exact ⟨0, Nat.zero_le _, rfl, rfl, HZC.out.congr (fun j _ => by simp [numsF]), HZR.out, Kept.refl _ _⟩
              case round =>
                obtain ⟨x, hx, rfl, rfl, hcl, hrow, hkp⟩ := hrel
                have HCW := Lib.hid hcl
                have HRW := Lib.hid hrow
                have HKW := Lib.hid hkp
                by_cases hlt3 : x < k
                · have hnn := HCL.out.nn x hlt3
                  have hmany := numsF_many B x
                  have hll := numsF_len B x
                  obtain ⟨mm, hmm⟩ : ∃ mm, mm = (numsF B x).2 := ⟨_, rfl⟩
                  obtain ⟨y, hy⟩ : ∃ y : Nat, B x = (y : Int) := ⟨(B x).toNat, by omega⟩
                  have hyx : y ≤ x := by omega
                  have e0 : wr.cell? ⟨rb, x, none⟩ = some (.int .i64 (y : Int)) := by rw [← hy]; exact hrow.cell hlt3
                  obtain ⟨ox, hox⟩ : ∃ ox, ox = (numsF B x).1.getD x 0 := ⟨_, rfl⟩
                  obtain ⟨oy, hoy⟩ : ∃ oy, oy = (numsF B x).1.getD y 0 := ⟨_, rfl⟩
                  have e1 : wr.cell? ⟨cb, x, none⟩ = some (.int .i64 ox) := by rw [hox]; exact hcl.cell hlt3
                  have e2 : wr.cell? ⟨cb, y, none⟩ = some (.int .i64 oy) := by rw [hoy]; exact hcl.cell (by omega)
                  have ef := hcl.frozen x
                  rw [← hmm] at hmany ⊢
                  have HMM := Lib.hid hmm
                  have HY := Lib.hid hy
                  have HOY := Lib.hid hoy
                  have HLL := Lib.hid hll
                  have hK2 := Lib.hid (fun v : Int => HKW.out.set (p := ⟨cb, x, none⟩) (Or.inl (Or.inr rfl)) (.int .i64 v))
                  have hget : ∀ (v : Int) (j : Nat), ((numsF B x).1 ++ [v]).getD j 0 = if j = x then v else (numsF B x).1.getD j 0 := fun v j => by
                    rw [List.getD_eq_getElem?_getD, List.getD_eq_getElem?_getD]
                    by_cases e : j = x
                    · subst e; rw [if_pos rfl, List.getElem?_append_right (by omega), hll]; simp
                    · rw [if_neg e]
                      by_cases e3 : j < x
                      · rw [List.getElem?_append_left (by omega)]
                      · rw [List.getElem?_eq_none (by simp; omega), List.getElem?_eq_none (by omega)]
                  have HGT := Lib.hid hget
                  clear hrow hcl hkp hmm hy hox hoy hll hget hnn
                  by_cases hxy : y = x
                  · subst hxy
                    have HN1 := Lib.hid (show numsF B (y + 1) = ((numsF B y).1 ++ [mm], mm + 1) by rw [HMM.out]; simp only [numsF]; rw [if_pos HY.out])
                    have hw : wrap64 (mm + 1) = mm + 1 := IntWalk.wrap64_in _ ⟨by omega, by omega⟩
                    go_wp2_with fail
                    go_roundw
                    case rel =>
                      refine ⟨y + 1, by omega, by go_num, by rw [HN1.out], (rowI_set (rowI_set HCW.out y mm) y mm).congr (fun j hj => ?_), (HRW.out.setOther (by exact HNE.out) _).setOther (by exact HNE.out) _, (hK2.out mm).set (p := ⟨cb, y, none⟩) (Or.inl (Or.inr rfl)) _⟩
                      rw [HN1.out, HGT.out]
                      by_cases e : j = y <;> simp [e]
                    case measure => simp [intOf]; omega
                  · have hne2 : ((x : Int) == (y : Int)) = false := by simp; omega
                    have HN1 := Lib.hid (show numsF B (x + 1) = ((numsF B x).1 ++ [oy], mm) by rw [HMM.out, HOY.out]; simp only [numsF]; rw [if_neg (by rw [HY.out]; omega), HY.out]; rfl)
                    go_wp2_with fail
                    go_roundw
                    case rel =>
                      refine ⟨x + 1, by omega, by go_num, by rw [HN1.out], (rowI_set HCW.out x oy).congr (fun j hj => ?_), HRW.out.setOther (by exact HNE.out) _, hK2.out oy⟩
                      rw [HN1.out, HGT.out]
                    case measure => simp [intOf]; omega
                · obtain rfl : x = k := by omega
                  go_wp2_with fail
                  go_ret2
                  have hl := numsF_len B x
                  have hLB : L = (numsF B x).1 := by rw [HL2.out, HBB.out]
                  refine ⟨some ⟨cb, 0, none⟩, x, by rw [hLB, hl, HE2.out]; rfl, ⟨by rw [hLB, hl]; omega, Or.inr ⟨cb, 0, rfl, ?_, fun i v hi => ?_⟩⟩, ?_, ?_⟩
                  · have := HYB.out.size; have := HCB.out; omega
                  · have hil : i < x := by have := (List.getElem?_eq_some_iff.1 hi).1; rw [hLB, hl] at this; exact this
                    have hc := HCW.out.cell hil
                    rw [hLB] at hi
                    rw [Nat.zero_add, hc, List.getD_eq_getElem?_getD, hi]
                    rfl
                  · have h1 : Below w.heap.size w Z := HYB.out.trans ((HZK.out.toBelow (B := w.heap.size) HYB.out.size (fun k hk e => by have := HRB.out; have := HBW.out.size; omega)))
                    exact h1.trans (HKW.out.toBelow h1.size (fun k hk e => by have := HRB.out; have := HBW.out.size; have := HCB.out; have := HYB.out.size; omega))
                  · obtain ⟨c, hc, hcs, _⟩ := HCW.out
                    exact Or.inr ⟨cb, c, rfl, hc, by rw [hLB, hl]; omega⟩
end Go.Proofs.YtfgpjfgejhahfaaGreatDoor
