/- Proved here: contracts of the walk to BisimGraphs: the fixed calls of the statements; each under the conditions that its own statement names. -/
import Derived.Test.YtcekilcgpgjooaaGreatDoorG22
import Derived.Test.YtcekilcgpgjooaaGreatDoorG34
set_option maxRecDepth 100000
set_option maxHeartbeats 3200000
namespace Go.Proofs.YtcekilcgpgjooaaGreatDoor
open Go Go.RowKit
def f7 : F := ⟨7, 0, .cons 0 0 .nil .nil⟩
def f6 : F := ⟨6, 0, .cons 0 0 .nil .nil⟩
def tU : V := .cons 0 .nil [] (.cons 1 .nil [] .nil)
def tV : V := .cons 0 .nil [] .nil
theorem fault1 : vFault f7 2 0 tU [1, 1] = 0 ∧ vFault f7 1 0 tV [1] = 0 ∧ vFault f6 1 0 tV [2] = 0 ∧ vFault f6 2 0 tU [1, 1] = 0 ∧ vFault f6 1 0 tV [1] = 0 ∧ vFault f6 2 0 tV [1] = 0 := by decide +kernel
theorem flatU : tU.flat := fun i n k ws r hd => by
 match i, hd with
 | 0, hd => simp [tU] at hd; exact hd.2.1.symm
 | 1, hd => simp [tU, V.drop] at hd; exact hd.2.1.symm
 | 2, hd => simp [tU, V.drop] at hd
 | i + 3, hd => simp [tU, V.drop] at hd
theorem flatV : tV.flat := fun i n k ws r hd => by
 match i, hd with
 | 0, hd => simp [tV] at hd; exact hd.2.1.symm
 | 1, hd => simp [tV, V.drop] at hd
 | i + 2, hd => simp [tV, V.drop] at hd
def relR (r : List (Int × Int)) : Int → Int → Prop := tells (fun x y => decide (((x : Int), (y : Int)) ∈ r))
theorem rel1 : relV (relR [(0, 0), (1, 0)]) f7 (0, tU, [1, 1]) (0, tV, [1]) := by
 unfold relV nodeRel
 simp only [f7]
 refine ⟨fun _ _ => 1, fun _ _ => (by decide : (0 : Int) ≤ 1), fun a b ha hb hn => absurd ?_ hn, fun a ha => ?_, fun b hb => ?_⟩
 ·have hb0 : b = 0 := by simp [tV, V.len] at hb; omega
  subst hb0
  rcases (show a = 0 ∨ a = 1 by simp [tU, V.len] at ha; omega) with rfl | rfl
  ·simp [tU, tV, V.relE, V.el, nodeRel, T.get, relR, tells]
  ·simp [tU, tV, V.relE, V.el, nodeRel, T.get, relR, tells]
 ·rcases (show a = 0 ∨ a = 1 by simp [tU, V.len] at ha; omega) with rfl | rfl <;> simp [tV, V.len, sumN, getW]
 ·have hb0 : b = 0 := by simp [tV, V.len] at hb; omega
  subst hb0
  simp [tU, V.len, sumN, getW]
theorem rel2 : ¬ relV (relR [(0, 0)]) f7 (0, tU, [1, 1]) (0, tV, [1]) := by
 unfold relV nodeRel
 simp only [f7]
 rintro ⟨mv, h0, h1, h2, h3⟩
 have e1 := h1 1 0 (by simp [tU, V.len]) (by simp [tV, V.len]) (by simp [tU, tV, V.relE, V.el, nodeRel, T.get, relR, tells])
 have e2 := h2 1 (by simp [tU, V.len])
 simp [tV, V.len, sumN, getW, e1] at e2
theorem rel3 : relV (relR [(0, 0), (0, 1)]) f6 (0, tV, [2]) (0, tU, [1, 1]) := by
 unfold relV nodeRel
 simp only [f6]
 refine ⟨fun _ _ => 1, fun _ _ => (by decide : (0 : Int) ≤ 1), fun a b ha hb hn => absurd ?_ hn, fun a ha => ?_, fun b hb => ?_⟩
 ·have ha0 : a = 0 := by simp [tV, V.len] at ha; omega
  subst ha0
  rcases (show b = 0 ∨ b = 1 by simp [tU, V.len] at hb; omega) with rfl | rfl
  ·simp [tU, tV, V.relE, V.el, nodeRel, T.get, relR, tells]
  ·simp [tU, tV, V.relE, V.el, nodeRel, T.get, relR, tells]
 ·have ha0 : a = 0 := by simp [tV, V.len] at ha; omega
  subst ha0
  simp [tU, V.len, sumN, getW]
 ·rcases (show b = 0 ∨ b = 1 by simp [tU, V.len] at hb; omega) with rfl | rfl <;> simp [tV, V.len, sumN, getW]
theorem relFrom1 : relFrom 2 1 none [(0, 0), (1, 0)] = true ∧ relFrom 2 1 none [(0, 0)] = true ∧ relFrom 1 2 none [(0, 0), (0, 1)] = true ∧ relFrom 1 2 none [(0, 2)] = false := by decide +kernel
theorem relD_ex (r : List (Int × Int)) : ∃ RB : F → Int × V × List Int → Int × V × List Int → Bool, ∀ f u v, RB f u v = true ↔ relV (relR r) f u v :=
 ⟨fun f u v => @decide (relV (relR r) f u v) (Classical.propDecidable _), fun _f _u _v => @decide_eq_true_iff _ (Classical.propDecidable _)⟩
end Go.Proofs.YtcekilcgpgjooaaGreatDoor
namespace Go.Proofs.YtcekilcgpgjooaaGreatDoor
open Go Go.RowKit
open Go.Lib (hid)
theorem sameP_any (S S2 : Nat → Prop) (a a2 : Option Addr) (cap cap2 : Nat) (l l' : List (Int × Int)) (w : World) (h : Prs S w a l) (h' : Prs S2 w a2 l') :
    Calls Tryz.prog 25 #[.slice a l.length cap, .slice a2 l'.length cap2] w fun e w' => e = .returned (.bool (decide (l = l'))) ∧ Below w.heap.size w w' := by
 have hl1 := h.1
 have hl2 := h'.1
 have HP := hid h
 have HP2 := hid h'
 obtain ⟨R, hR⟩ : ∃ R, R = decide (l = l') := ⟨_, rfl⟩
 rw [← hR]
 have HR := hid hR
 obtain ⟨N, hN⟩ : ∃ N, N = l.length := ⟨_, rfl⟩
 obtain ⟨M, hM⟩ : ∃ M, M = l'.length := ⟨_, rfl⟩
 rw [← hN] at hl1 ⊢
 rw [← hM] at hl2 ⊢
 have HN := hid hN
 have HM := hid hM
 clear h h' hR hN hM
 by_cases hlen : N = M
 ·subst hlen
  go_enter Tryz.func25, Tryz.ntmps25
  go_wp2_with fail
  go_loopw [13] (fun i wr => ∃ k : Nat, k ≤ N ∧ i = .int .i64 k ∧ l.take k = l'.take k ∧ Below w.heap.size w wr) (fun i _ => N - (intOf i).toNat)
  case atStart => exact ⟨0, Nat.zero_le _, rfl, rfl, Below.refl _ _⟩
  case round =>
   obtain ⟨k, hk, rfl, heq, hb⟩ := hrel
   have HB := hid hb
   have HE := hid heq
   by_cases hlt : k < N
   ·obtain ⟨p, hp⟩ : ∃ p, l[k]? = some p := ⟨l[k]'(by have := HN.out; omega), List.getElem?_eq_getElem _⟩
    obtain ⟨q, hq⟩ : ∃ q, l'[k]? = some q := ⟨l'[k]'(by have := HM.out; omega), List.getElem?_eq_getElem _⟩
    obtain ⟨b, o, rfl, _, c0, c1⟩ := (HP.out.below hb).get hp
    obtain ⟨b2, o2, rfl, _, d0, d1⟩ := (HP2.out.below hb).get hq
    have HQ := hid (show _ ∧ _ from ⟨hp, hq⟩)
    obtain ⟨p1, p2⟩ := p
    obtain ⟨q1, q2⟩ := q
    simp only at c0 c1 d0 d1
    clear hb heq hp hq
    by_cases hpq : (p1, p2) = (q1, q2)
    ·have he := fun W => neqP (p1, p2) (q1, q2) W
     rw [decide_eq_true hpq] at he
     simp only [Pv, Bool.not_true] at he
     go_wp2_with fail
     go_region
     go_wp2_with fail
     go_roundw
     case rel => exact ⟨k + 1, by omega, by go_num, by rw [List.take_add_one, List.take_add_one, HE.out, HQ.out.1, HQ.out.2, hpq], belowN (n := 1) HB.out⟩
     case measure => simp [intOf]; omega
    ·have he := fun W => neqP (p1, p2) (q1, q2) W
     rw [decide_eq_false hpq] at he
     simp only [Pv, Bool.not_false] at he
     go_wp2_with fail
     go_region
     go_wp2_with fail
     go_ret
     exact ⟨by rw [HR.out, decide_eq_false (fun e => hpq (by have h1 := HQ.out.1; have h2 := HQ.out.2; rw [e, h2] at h1; exact (Option.some.inj h1).symm))]; rfl, belowN (n := 1) HB.out⟩
   ·obtain rfl : k = N := by omega
    clear hb heq
    go_wp2_with fail
    go_ret
    exact ⟨by rw [HR.out, decide_eq_true (by have h := HE.out; rw [HN.out, List.take_length, ← HN.out, HM.out, List.take_length] at h; exact h)]; rfl, HB.out⟩
 ·have hne : ((N : Int) != (M : Int)) = true := by simp; omega
  go_enter Tryz.func25, Tryz.ntmps25
  go_wp2_with fail
  go_ret
  exact ⟨by rw [HR.out, decide_eq_false (fun e => hlen (by rw [HN.out, HM.out, e]))]; rfl, Below.refl _ _⟩
theorem ofX_any (k n : Int) (a : Option Addr) (len cap : Nat) (w : World) : Calls Tryz.prog 23 #[.int .i64 k, .int .i64 n, .slice a len cap] w fun e w' => e = .returned (.agg #[.int .i64 k, .int .i64 n, .slice a len cap]) ∧ Below w.heap.size w w' := by
 go_enter Tryz.func23, Tryz.ntmps23
 go_wp2_with fail
 exact bodyPost_ret (v := .agg #[.int .i64 k, .int .i64 n, .slice a len cap]) (by simp [results, Tryz.results23, go_sem]) rfl ⟨rfl, ba _ _⟩
structure AwM (W : World) (b bk : Nat) (k : Int) : Prop where
 kd : Kinds W
 kids : W.heap[bk]? = some (.cells #[.int .i64 0, .int .i64 0, .slice none 0 0] 24 (0, 0))
 f : W.heap[b]? = some (.cells #[.int .i64 k, .int .i64 0, .slice (some ⟨bk, 0, none⟩) 1 1] 24 (0, 0))
 uk : W.heap[b + 1]? = some (.cells #[.int .i64 0, .slice none 0 0, .slice none 0 0, .int .i64 1, .slice none 0 0, .slice none 0 0] 58 (0, 0))
 uw : W.heap[b + 2]? = some (.cells #[.int .i64 1, .int .i64 1] 3 (0, 0))
 u : W.heap[b + 3]? = some (.cells #[.int .i64 0, .slice (some ⟨b + 1, 0, none⟩) 2 2, .slice (some ⟨b + 2, 0, none⟩) 2 2] 58 (0, 0))
 vk : W.heap[b + 4]? = some (.cells #[.int .i64 0, .slice none 0 0, .slice none 0 0] 58 (0, 0))
 vw : W.heap[b + 5]? = some (.cells #[.int .i64 1] 3 (0, 0))
 v : W.heap[b + 6]? = some (.cells #[.int .i64 0, .slice (some ⟨b + 4, 0, none⟩) 1 1, .slice (some ⟨b + 5, 0, none⟩) 1 1] 58 (0, 0))
theorem AwM.below {W W' : World} {b bk : Nat} {k : Int} (h : AwM W b bk k) (hb : Below W.heap.size W W') : AwM W' b bk k :=
 ⟨h.kd.below hb, (hb.block _ (heap_lt h.kids)).trans h.kids, (hb.block _ (heap_lt h.f)).trans h.f, (hb.block _ (heap_lt h.uk)).trans h.uk, (hb.block _ (heap_lt h.uw)).trans h.uw, (hb.block _ (heap_lt h.u)).trans h.u, (hb.block _ (heap_lt h.vk)).trans h.vk, (hb.block _ (heap_lt h.vw)).trans h.vw, (hb.block _ (heap_lt h.v)).trans h.v⟩
theorem AwM.sl {W : World} {b bk : Nat} {k : Int} (h : AwM W b bk k) : Sl (fun _ _ => True) W (some ⟨bk, 0, none⟩) (.cons 0 0 .nil .nil) := by
 obtain ⟨c0, c1, c2⟩ := cells_of h.kids
 exact ⟨by simp [T.len], Or.inr rfl, ⟨trivial, frozen_of h.kids, frozen_of h.kids⟩, c0, c1, ⟨none, 0, c2, ⟨by simp [T.len], by simp [T.len]⟩, rfl⟩, trivial⟩
theorem ints_nil (S : Nat → Prop) (W : World) : Ints S W none [] := ⟨by simp, Or.inl rfl⟩
theorem AwM.vV {W : World} {b bk : Nat} {k : Int} (h : AwM W b bk k) : Vl (fun _ => True) W (some ⟨b + 4, 0, none⟩) tV := by
 obtain ⟨c0, c1, c2⟩ := cells_of h.vk
 exact ⟨by simp [tV, V.len], Or.inr rfl, trivial, c0, ⟨none, 0, c1, by simp [V.len], rfl⟩, ⟨none, 0, c2, ints_nil _ _⟩, trivial⟩
theorem AwM.vU {W : World} {b bk : Nat} {k : Int} (h : AwM W b bk k) : Vl (fun _ => True) W (some ⟨b + 1, 0, none⟩) tU := by
 have hc : ∀ i v, ([Value.int .i64 0, .slice none 0 0, .slice none 0 0, .int .i64 1, .slice none 0 0, .slice none 0 0] : List Value)[i]? = some v → W.cell? ⟨b + 1, i, none⟩ = some v := fun i v hi => by
  simp only [World.cell?, h.uk, Option.isSome_none, Bool.false_eq_true, if_false]
  rw [← Array.getElem?_toList]
  exact hi
 exact ⟨by simp [tU, V.len], Or.inr rfl, trivial, hc 0 _ rfl, ⟨none, 0, hc 1 _ rfl, by simp [V.len], rfl⟩, ⟨none, 0, hc 2 _ rfl, ints_nil _ _⟩, trivial, hc 3 _ rfl, ⟨none, 0, hc 4 _ rfl, by simp [V.len], rfl⟩, ⟨none, 0, hc 5 _ rfl, ints_nil _ _⟩, trivial⟩
theorem ints_block {W : World} {B : Nat} {ws : List Int} {t : TypeId} (h : W.heap[B]? = some (.cells (ws.map (Value.int .i64)).toArray t (0, 0))) (hl : ws.length ≤ 100) : Ints (fun _ => True) W (some ⟨B, 0, none⟩) ws := by
 refine ⟨by omega, Or.inr ⟨B, 0, rfl, trivial, fun i x hx => ?_⟩⟩
 simp only [World.cell?, h, Option.isSome_none, Bool.false_eq_true, if_false, Nat.zero_add]
 simp [hx]
theorem prs_block {W : World} {B : Nat} {l : List (Int × Int)} {t : TypeId} (h : W.heap[B]? = some (.cells (flatP l).toArray t (0, 0))) (hl : l.length ≤ 1000) : Prs (fun _ => True) W (some ⟨B, 0, none⟩) l := by
 refine ⟨by omega, Or.inr ⟨B, 0, rfl, trivial, fun i p hp => ?_⟩⟩
 obtain ⟨g0, g1⟩ := flatP_get hp
 simp only [World.cell?, h, Option.isSome_none, Bool.false_eq_true, if_false, Nat.zero_add, List.getElem?_toArray]
 exact ⟨g0, g1⟩
theorem awR1 {W : World} {b bk br : Nat} (h : AwM W b bk 7) (hr : W.heap[br]? = some (.cells (flatP [(0, 0), (1, 0)]).toArray 38 (0, 0))) :
    Calls Tryz.prog 24 #[.agg #[.int .i64 7, .int .i64 0, .slice (some ⟨bk, 0, none⟩) 1 1], .int .i64 2, .int .i64 1, Vv 0 (some ⟨b + 1, 0, none⟩) 2 2 (some ⟨b + 2, 0, none⟩) 2 2, Vv 0 (some ⟨b + 4, 0, none⟩) 1 1 (some ⟨b + 5, 0, none⟩) 1 1, .slice (some ⟨br, 0, none⟩) 2 2] W fun e W' => e = .returned (.tuple #[.bool true, .int .i64 0]) ∧ Below W.heap.size W W' := by
 obtain ⟨RB, hRB⟩ := relD_ex [(0, 0), (1, 0)]
 have ht := (hRB _ _ _).2 rel1
 have hc := top_ok (fun _ _ => True) (fun _ => True) f7 0 0 2 1 tU tV [1, 1] [1] [(0, 0), (1, 0)] (some ⟨bk, 0, none⟩) (some ⟨b + 1, 0, none⟩) (some ⟨b + 4, 0, none⟩) (some ⟨b + 2, 0, none⟩) (some ⟨b + 5, 0, none⟩) (some ⟨br, 0, none⟩) 1 2 1 2 1 2 W
  h.kd h.sl h.vU (ints_block h.uw (by simp)) h.vV (ints_block h.vw (by simp)) (prs_block hr (by simp)) fault1.1 fault1.2.1 (by omega) (by omega) relFrom1.1 (by simp) RB hRB (relAt7 flatU)
 rw [ht] at hc
 exact hc
theorem awR2 {W : World} {b bk br : Nat} (h : AwM W b bk 7) (hr : W.heap[br]? = some (.cells (flatP [(0, 0)]).toArray 38 (0, 0))) :
    Calls Tryz.prog 24 #[.agg #[.int .i64 7, .int .i64 0, .slice (some ⟨bk, 0, none⟩) 1 1], .int .i64 2, .int .i64 1, Vv 0 (some ⟨b + 1, 0, none⟩) 2 2 (some ⟨b + 2, 0, none⟩) 2 2, Vv 0 (some ⟨b + 4, 0, none⟩) 1 1 (some ⟨b + 5, 0, none⟩) 1 1, .slice (some ⟨br, 0, none⟩) 1 1] W fun e W' => e = .returned (.tuple #[.bool false, .int .i64 0]) ∧ Below W.heap.size W W' := by
 obtain ⟨RB, hRB⟩ := relD_ex [(0, 0)]
 have ht : RB f7 (0, tU, [1, 1]) (0, tV, [1]) = false := by
  cases h : RB f7 (0, tU, [1, 1]) (0, tV, [1])
  ·rfl
  ·exact absurd ((hRB _ _ _).1 h) rel2
 have hc := top_ok (fun _ _ => True) (fun _ => True) f7 0 0 2 1 tU tV [1, 1] [1] [(0, 0)] (some ⟨bk, 0, none⟩) (some ⟨b + 1, 0, none⟩) (some ⟨b + 4, 0, none⟩) (some ⟨b + 2, 0, none⟩) (some ⟨b + 5, 0, none⟩) (some ⟨br, 0, none⟩) 1 2 1 2 1 1 W
  h.kd h.sl h.vU (ints_block h.uw (by simp)) h.vV (ints_block h.vw (by simp)) (prs_block hr (by simp)) fault1.1 fault1.2.1 (by omega) (by omega) relFrom1.2.1 (by simp) RB hRB (relAt7 flatU)
 rw [ht] at hc
 exact hc
theorem awR3 {W : World} {b bk br bw : Nat} (h : AwM W b bk 6) (hw : W.heap[bw]? = some (.cells #[.int .i64 2] 3 (0, 0))) (hr : W.heap[br]? = some (.cells (flatP [(0, 0), (0, 1)]).toArray 38 (0, 0))) :
    Calls Tryz.prog 24 #[.agg #[.int .i64 6, .int .i64 0, .slice (some ⟨bk, 0, none⟩) 1 1], .int .i64 1, .int .i64 2, Vv 0 (some ⟨b + 4, 0, none⟩) 1 1 (some ⟨bw, 0, none⟩) 1 1, Vv 0 (some ⟨b + 1, 0, none⟩) 2 2 (some ⟨b + 2, 0, none⟩) 2 2, .slice (some ⟨br, 0, none⟩) 2 2] W fun e W' => e = .returned (.tuple #[.bool true, .int .i64 0]) ∧ Below W.heap.size W W' := by
 obtain ⟨RB, hRB⟩ := relD_ex [(0, 0), (0, 1)]
 have ht := (hRB _ _ _).2 rel3
 have hc := top_ok (fun _ _ => True) (fun _ => True) f6 0 0 1 2 tV tU [2] [1, 1] [(0, 0), (0, 1)] (some ⟨bk, 0, none⟩) (some ⟨b + 4, 0, none⟩) (some ⟨b + 1, 0, none⟩) (some ⟨bw, 0, none⟩) (some ⟨b + 2, 0, none⟩) (some ⟨br, 0, none⟩) 1 1 2 1 2 2 W
  h.kd h.sl h.vV (ints_block hw (by simp)) h.vU (ints_block h.uw (by simp)) (prs_block hr (by simp)) fault1.2.2.1 fault1.2.2.2.1 (by omega) (by omega) relFrom1.2.2.1 (by simp) RB hRB (relAt6 flatV)
 rw [ht] at hc
 exact hc
theorem awR4 {W : World} {b bk br : Nat} (h : AwM W b bk 6) (hr : W.heap[br]? = some (.cells (flatP [(0, 2)]).toArray 38 (0, 0))) :
    Calls Tryz.prog 24 #[.agg #[.int .i64 6, .int .i64 0, .slice (some ⟨bk, 0, none⟩) 1 1], .int .i64 1, .int .i64 2, Vv 0 (some ⟨b + 4, 0, none⟩) 1 1 (some ⟨b + 5, 0, none⟩) 1 1, Vv 0 (some ⟨b + 4, 0, none⟩) 1 1 (some ⟨b + 5, 0, none⟩) 1 1, .slice (some ⟨br, 0, none⟩) 1 1] W fun e W' => e = .returned (.tuple #[.bool false, .int .i64 1]) ∧ Below W.heap.size W W' := by
 have hc := top_fault (fun _ _ => True) (fun _ => True) f6 0 0 1 2 tV tV [1] [1] [(0, 2)] (some ⟨bk, 0, none⟩) (some ⟨b + 4, 0, none⟩) (some ⟨b + 4, 0, none⟩) (some ⟨b + 5, 0, none⟩) (some ⟨b + 5, 0, none⟩) (some ⟨br, 0, none⟩) 1 1 1 1 1 1 W
  h.kd h.sl h.vV (ints_block h.vw (by simp)) h.vV (ints_block h.vw (by simp)) (prs_block hr (by simp)) (Or.inr relFrom1.2.2.2)
 rw [fault1.2.2.2.2.1, fault1.2.2.2.2.2] at hc
 exact hc
theorem AwM.alloc {W : World} {b bk : Nat} {k : Int} (h : AwM W b bk k) (o : Obj) : AwM (W.alloc o) b bk k := h.below (ba _ _)
theorem heap_set_new {w : World} {b : Nat} {x0 x1 x2 v : Value} {t : TypeId} (h : w.heap[b]? = some (.cells #[x0, x1, x2] t (0, 0))) : (w.setCell ⟨b, 0, none⟩ v).heap[b]? = some (.cells #[v, x1, x2] t (0, 0)) := by
 have := heap_setCell_same w b 0 _ t v h
 simpa using this
theorem AwM.six {W : World} {b bk : Nat} {k : Int} (h : AwM W b bk k) (hb0 : b ≠ 0) : AwM (W.setCell ⟨b, 0, none⟩ (.int .i64 6)) b bk 6 := by
 have ho : ∀ {i : Nat} {o : Obj}, i ≠ b → W.heap[i]? = some o → (W.setCell ⟨b, 0, none⟩ (.int .i64 6)).heap[i]? = some o := fun hne hi => (heap_setCell_other W ⟨b, 0, none⟩ _ _ hne).trans hi
 have hne : bk ≠ b := fun e => by
  have h1 := h.kids
  rw [e, h.f] at h1
  simp at h1
 exact ⟨fun i v hi => by rw [World.cell?_of_block (w := W) (a := ⟨0, i, none⟩) (heap_setCell_other W ⟨b, 0, none⟩ 0 _ (Ne.symm hb0))]; exact h.kd i v hi, ho hne h.kids, heap_set_new h.f, ho (by omega) h.uk, ho (by omega) h.uw, ho (by omega) h.u, ho (by omega) h.vk, ho (by omega) h.vw, ho (by omega) h.v⟩
def AwS (w0 : World) (b bk : Nat) (k : Int) (v : Value) (e : Ending) (W' : World) : Prop := e = .returned v ∧ AwM W' b bk k ∧ Below w0.heap.size w0 W'
theorem aw_step {f : FuncId} {args : Array Value} {v : Value} {W w0 : World} {b bk : Nat} {k : Int} (hc : Calls Tryz.prog f args W fun e W' => e = .returned v ∧ Below W.heap.size W W') (hA : AwM W b bk k) (hb : Below w0.heap.size w0 W) : Calls Tryz.prog f args W (AwS w0 b bk k v) :=
 hc.mono fun _ _ ⟨h1, h2⟩ => ⟨h1, hA.below h2, hb.trans (h2.mono hb.size)⟩
theorem alloc_at (w : World) (o : Obj) {i : Nat} (h : i = w.heap.size) : (w.alloc o).heap[i]? = some o := by rw [h]; exact World.alloc_heap_new w o
theorem alloc_old {w : World} {o o' : Obj} {i : Nat} (h : w.heap[i]? = some o) : (w.alloc o').heap[i]? = some o := (Below.heap_alloc w o' i (heap_lt h)).trans h
theorem awC {W w0 : World} {br bq : Nat} (hr : W.heap[br]? = some (.cells (flatP [(0, 1), (2, 1)]).toArray 38 (0, 0))) (hq : W.heap[bq]? = some (.cells (flatP [(1, 5)]).toArray 38 (0, 0))) (hb : Below w0.heap.size w0 W) :
    Calls Tryz.prog 14 #[.slice (some ⟨br, 0, none⟩) 2 2, .slice (some ⟨bq, 0, none⟩) 1 1] W fun e W' => ∃ al cl, e = .returned (.slice al 2 cl) ∧ Prs (fun b => W.heap.size ≤ b) W' al [(0, 5), (2, 5)] ∧ Below w0.heap.size w0 W' := by
 refine (compA_any (fun _ => True) (fun _ => True) (some ⟨br, 0, none⟩) (some ⟨bq, 0, none⟩) 2 1 [(0, 1), (2, 1)] [(1, 5)] W (prs_block hr (by simp)) (prs_block hq (by simp)) (Or.inr ⟨_, _, rfl⟩) (Or.inr ⟨_, _, rfl⟩) (by simp) (by simp) ?_ ?_).mono ?_
 ·intro p hp
  simp at hp
  rcases hp with rfl | rfl <;> exact ⟨by decide, by decide⟩
 ·intro p hp
  simp at hp
  subst hp
  exact ⟨by decide, by decide⟩
 ·rintro e W' ⟨v, L, rfl, hs, hm, hrow, hb2⟩
  have hL : L = [(0, 5), (2, 5)] := by
   refine sorted_eq hs ?_ (fun p => ?_)
   ·simp [ltP']
   ·obtain ⟨x, z⟩ := p
    rw [hm x z]
    constructor
    ·rintro ⟨y, h1, h2⟩
     simp only [List.mem_cons, Prod.mk.injEq, List.not_mem_nil, or_false] at h1 h2 ⊢
     rcases h1 with ⟨rfl, rfl⟩ | ⟨rfl, rfl⟩
     ·exact Or.inl ⟨rfl, h2.2⟩
     ·exact Or.inr ⟨rfl, h2.2⟩
    ·intro h
     refine ⟨1, ?_⟩
     simp only [List.mem_cons, Prod.mk.injEq, List.not_mem_nil, or_false] at h
     rcases h with ⟨rfl, rfl⟩ | ⟨rfl, rfl⟩ <;> simp
  subst hL
  obtain ⟨al, cl, rfl, _, hp⟩ := row_prs hrow (by simp)
  exact ⟨al, cl, rfl, hp, hb.trans (hb2.mono hb.size)⟩
theorem awake_any (w : World) (hk : Kinds w) : Calls Tryz.prog 7 #[] w fun e w' => e = .returned (.bool true) ∧ Below w.heap.size w w' := by
 go_enter Tryz.func7, Tryz.ntmps7
 go_wp2_with fail
 refine (ofX_any _ _ _ _ _ _).mono ?_
 rintro e w1 ⟨rfl, hb1⟩
 go_wp2_with fail
 refine (ofX_any _ _ _ _ _ _).mono ?_
 rintro e w2 ⟨rfl, hb2⟩
 have hkids : w2.heap[w1.heap.size]? = some (.cells #[.int .i64 0, .int .i64 0, .slice none 0 0] 24 (0, 0)) := (hb2.block _ (by simp)).trans (World.alloc_heap_new _ _)
 have hBw : Below w.heap.size w w2 := (hb1.alloc hb1.size _).trans (hb2.mono (by have := hb1.size; simp; omega))
 have hk2 : Kinds w2 := hk.below hBw
 obtain ⟨bk, hbk⟩ : ∃ bk, bk = w1.heap.size := ⟨_, rfl⟩
 rw [← hbk] at hkids ⊢
 have HK := hid hkids
 have HB := hid hBw
 clear hb1 hb2 hbk hBw hkids
 go_wp2_with fail
 refine Calls.mono (aw_step (w0 := w2) (b := w2.heap.size) (bk := bk) (k := 7) (awR1 (b := w2.heap.size) (bk := bk) (br := w2.heap.size + 7) ?hA ?hr) ?hA2 ?hB) ?_
 case hA =>
  refine ⟨fun i v hi => ?_, ?_, ?_, ?_, ?_, ?_, ?_, ?_, ?_⟩
  ·repeat refine cellAl ?_
   exact hk2 i v hi
  all_goals repeat (first | exact alloc_at _ _ (by simp) | exact HK.out | refine alloc_old ?_)
 case hA2 =>
  refine ⟨fun i v hi => ?_, ?_, ?_, ?_, ?_, ?_, ?_, ?_, ?_⟩
  ·repeat refine cellAl ?_
   exact hk2 i v hi
  all_goals repeat (first | exact alloc_at _ _ (by simp) | exact HK.out | refine alloc_old ?_)
 case hr => exact alloc_at _ _ (by simp)
 case hB =>
  repeat (refine Below.alloc ?_ (by simp; try omega) _)
  exact Below.refl _ _
 obtain ⟨b, hb⟩ : ∃ b, b = w2.heap.size := ⟨_, rfl⟩
 have HBW := hid (show w.heap.size ≤ b by rw [hb]; exact HB.out.size)
 have HB0 := hid (show b ≠ 0 by have := heap_lt HK.out; omega)
 rw [← hb]
 rintro e w3 ⟨rfl, hA3, hb3⟩
 have HA3 := hid hA3
 have HB3 := hid (HB.out.trans (hb3.mono HB.out.size))
 obtain ⟨f0, f1, f2⟩ := cells_of hA3.f
 obtain ⟨u0, u1, u2⟩ := cells_of hA3.u
 obtain ⟨v0, v1, v2⟩ := cells_of hA3.v
 clear hA3 hb3 hb hk2
 go_wp2_with fail
 refine Calls.mono (aw_step (w0 := w) (b := b) (bk := bk) (k := 7) (awR2 (b := b) (bk := bk) (br := w3.heap.size) (HA3.out.alloc _) (alloc_at _ _ rfl)) (HA3.out.alloc _) (HB3.out.alloc HB3.out.size _)) ?_
 rintro e w4 ⟨rfl, hA4, hb4⟩
 obtain ⟨X, hX⟩ : ∃ X, X = w4.setCell ⟨b, 0, none⟩ (.int .i64 6) := ⟨_, rfl⟩
 have hA5 : AwM X b bk 6 := by rw [hX]; exact hA4.six HB0.out
 have HA5 := hid hA5
 have HB5 := hid (show Below w.heap.size w X by rw [hX]; exact hb4.setCell (p := ⟨b, 0, none⟩) HBW.out _)
 clear f0 f1 f2 u0 u1 u2 v0 v1 v2
 obtain ⟨f0, f1, f2⟩ := cells_of hA4.f
 have ff := frozen_of (o := 0) hA4.f
 clear hA4 hb4
 go_upto_region 7 with (fail)
 rw [← hX]
 clear f0 f1 f2 ff hX
 obtain ⟨f0, f1, f2⟩ := cells_of hA5.f
 obtain ⟨u0, u1, u2⟩ := cells_of hA5.u
 obtain ⟨v0, v1, v2⟩ := cells_of hA5.v
 have l3 : b + 3 < X.heap.size := heap_lt hA5.u
 have l6 : b + 6 < X.heap.size := heap_lt hA5.v
 clear hA5
 go_wp2_with fail
 refine Calls.mono (aw_step (w0 := w) (b := b) (bk := bk) (k := 6) (awR3 (b := b) (bk := bk) (bw := X.heap.size) (br := X.heap.size + 1) ((HA5.out.alloc _).alloc _) (alloc_old (alloc_at _ _ rfl)) (alloc_at _ _ (by simp))) ((HA5.out.alloc _).alloc _) ((HB5.out.alloc HB5.out.size _).alloc (by have := HB5.out.size; simp; omega) _)) ?_
 rintro e w5 ⟨rfl, hA6, hb6⟩
 have HA6 := hid hA6
 have HB6 := hid hb6
 clear f0 f1 f2 u0 u1 u2 v0 v1 v2
 obtain ⟨f0, f1, f2⟩ := cells_of hA6.f
 obtain ⟨v0, v1, v2⟩ := cells_of hA6.v
 clear hA6 hb6
 go_wp2_with fail
 refine Calls.mono (aw_step (w0 := w) (b := b) (bk := bk) (k := 6) (awR4 (b := b) (bk := bk) (br := w5.heap.size) (HA6.out.alloc _) (alloc_at _ _ rfl)) (HA6.out.alloc _) (HB6.out.alloc HB6.out.size _)) ?_
 rintro e w6 ⟨rfl, hA7, hb7⟩
 have HB7 := hid hb7
 clear f0 f1 f2 v0 v1 v2 hA7 hb7
 go_wp2_with fail
 refine Calls.mono (awC (w0 := w) (br := w6.heap.size) (bq := w6.heap.size + 1) (alloc_old (alloc_at _ _ rfl)) (alloc_at _ _ (by simp)) ((HB7.out.alloc HB7.out.size _).alloc (by have := HB7.out.size; simp; omega) _)) ?_
 rintro e w7 ⟨al, cl, rfl, hp8, hb8⟩
 have HP8 := hid hp8
 have HB8 := hid hb8
 clear hp8 hb8
 go_wp2_with fail
 refine Calls.mono (sameP_any _ _ al _ cl _ [(0, 5), (2, 5)] [(0, 5), (2, 5)] _ (HP8.out.below (ba _ _)) (prs_block (B := w7.heap.size) (t := 38) (alloc_at _ _ rfl) (by simp))) ?_
 rintro e w8 ⟨rfl, hb9⟩
 have HB9 := hid (show Below w.heap.size w w8 from (HB8.out.alloc HB8.out.size _).trans (hb9.mono (by have := HB8.out.size; simp; omega)))
 clear hb9
 go_wp2_with fail
 go_ret
 exact ⟨rfl, HB9.out⟩
end Go.Proofs.YtcekilcgpgjooaaGreatDoor
