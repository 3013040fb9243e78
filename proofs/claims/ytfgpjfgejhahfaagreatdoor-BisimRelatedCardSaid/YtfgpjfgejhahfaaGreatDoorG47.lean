/-
  Proved here: contracts of the walk to BisimRelated: the law's own walk; each under the conditions that its own statement names.
-/
import Derived.Test.YtfgpjfgejhahfaaGreatDoorG01
import Derived.Test.YtfgpjfgejhahfaaGreatDoorG10
import Derived.Test.YtfgpjfgejhahfaaGreatDoorG17
import Derived.Test.YtfgpjfgejhahfaaGreatDoorG20
import Derived.Test.YtfgpjfgejhahfaaGreatDoorG23
import Derived.Test.YtfgpjfgejhahfaaGreatDoorG39
import Derived.Test.YtfgpjfgejhahfaaGreatDoorG40
import Derived.Test.YtfgpjfgejhahfaaGreatDoorG46
namespace Go.Proofs.YtfgpjfgejhahfaaGreatDoor
open Go Go.RowKit

theorem relAny_ex' (P : Nat → Nat → Bool) : ∃ RB : F → Int × V × List Int → Int × V × List Int → Bool, ∀ f u v, RB f u v = true ↔ relV (tells P) f u v :=
  ⟨fun f u v => @decide (relV (tells P) f u v) (Classical.propDecidable _), fun f u v => by simp⟩

/-- The error that Related reports. -/
def relE3 (f : F) (p q n n' : Int) (t t' : V) (ws ws' : List Int) (r : List (Int × Int)) : Int :=
  if relFault (vFault f p n t ws) (vFault f q n' t' ws') ≠ 0 then relFault (vFault f p n t ws) (vFault f q n' t' ws') else if relFrom p q none r = true then 0 else 1

/-- Which of the five ways it goes. -/
theorem relE3_ways (f : F) (p q n n' : Int) (t t' : V) (ws ws' : List Int) (r : List (Int × Int)) :
    (valid f.k f.n f.t = false ∧ relE3 f p q n n' t t' ws ws' r = 10) ∨
    (valid f.k f.n f.t = true ∧ (¬ (0 ≤ p ∧ p ≤ 100) ∨ ¬ (0 ≤ q ∧ q ≤ 100)) ∧ relE3 f p q n n' t t' ws ws' r = 1) ∨
    (valid f.k f.n f.t = true ∧ (0 ≤ p ∧ p ≤ 100) ∧ (0 ≤ q ∧ q ≤ 100) ∧ (vValid f p n t ws = false ∨ vValid f q n' t' ws' = false) ∧ relE3 f p q n n' t t' ws ws' r = 20) ∨
    (valid f.k f.n f.t = true ∧ (0 ≤ p ∧ p ≤ 100) ∧ (0 ≤ q ∧ q ≤ 100) ∧ vValid f p n t ws = true ∧ vValid f q n' t' ws' = true ∧ relFrom p q none r = false ∧ relE3 f p q n n' t t' ws ws' r = 1) ∨
    (valid f.k f.n f.t = true ∧ (0 ≤ p ∧ p ≤ 100) ∧ (0 ≤ q ∧ q ≤ 100) ∧ vValid f p n t ws = true ∧ vValid f q n' t' ws' = true ∧ relFrom p q none r = true ∧ vFault f p n t ws = 0 ∧ vFault f q n' t' ws' = 0 ∧ relE3 f p q n n' t t' ws ws' r = 0) := by
  unfold relE3 vFault stFault
  cases hv : valid f.k f.n f.t
  · left
    simp [relFault]
  right
  by_cases hp : 0 ≤ p ∧ p ≤ 100
  rotate_left
  · left
    simp only [if_true, if_neg hp]
    refine ⟨trivial, .inl hp, ?_⟩
    by_cases hq : 0 ≤ q ∧ q ≤ 100
    · simp only [if_pos hq]
      cases vValid f q n' t' ws' <;> simp [relFault]
    · simp [if_neg hq, relFault]
  by_cases hq : 0 ≤ q ∧ q ≤ 100
  rotate_left
  · left
    simp only [if_true, if_neg hq, if_pos hp]
    refine ⟨trivial, .inr hq, ?_⟩
    cases vValid f p n t ws <;> simp [relFault]
  right
  simp only [if_true, if_pos hp, if_pos hq]
  cases h1 : vValid f p n t ws
  · left
    refine ⟨trivial, hp, hq, .inl rfl, ?_⟩
    cases vValid f q n' t' ws' <;> simp [relFault]
  cases h2 : vValid f q n' t' ws'
  · left
    refine ⟨trivial, hp, hq, .inr rfl, ?_⟩
    simp [relFault]
  right
  cases h3 : relFrom p q none r
  · left
    exact ⟨trivial, hp, hq, rfl, rfl, rfl, by simp [relFault]⟩
  · right
    exact ⟨trivial, hp, hq, rfl, rfl, rfl, by simp, by simp, by simp [relFault]⟩

/-- Related, whatever it is asked. -/
theorem rel_top_any (S : Nat → Nat → Prop) (S' : Nat → Prop) (f : F) (p q n n' : Int) (t t' : V) (ws ws' : List Int) (r : List (Int × Int)) (a a1 a2 c1 c2 ar : Option Addr) (cap cap1 cap2 cp1 cp2 cr : Nat) (w : World)
    (hk : Kinds w) (hs : Sl S w a f.t) (hv : Vl S' w a1 t) (hi : Ints S' w c1 ws) (hv' : Vl S' w a2 t') (hi' : Ints S' w c2 ws') (hr : Prs S' w ar r) (hrn : r.length ≤ 1000000)
    (RB : F → Int × V × List Int → Int × V × List Int → Bool) (hRB : ∀ f u v, RB f u v = true ↔ relV (tells (fun x y => decide (((x : Int), (y : Int)) ∈ r))) f u v) :
    Calls Tryz.prog 12 #[f.val a cap, .int .i64 p, .int .i64 q, Vv n a1 t.len cap1 c1 ws.length cp1, Vv n' a2 t'.len cap2 c2 ws'.length cp2, .slice ar r.length cr] w fun e w' =>
      e = .returned (.tuple #[.bool (decide (relE3 f p q n n' t t' ws ws' r = 0) && RB f (n, t, ws) (n', t', ws')), .int .i64 (relE3 f p q n n' t t' ws ws' r)]) ∧ Below w.heap.size w w' := by
  have bad : (relFault (vFault f p n t ws) (vFault f q n' t' ws') ≠ 0 ∨ relFrom p q none r = false) → relE3 f p q n n' t t' ws ws' r ≠ 0 →
      Calls Tryz.prog 12 #[f.val a cap, .int .i64 p, .int .i64 q, Vv n a1 t.len cap1 c1 ws.length cp1, Vv n' a2 t'.len cap2 c2 ws'.length cp2, .slice ar r.length cr] w fun e w' =>
      e = .returned (.tuple #[.bool (decide (relE3 f p q n n' t t' ws ws' r = 0) && RB f (n, t, ws) (n', t', ws')), .int .i64 (relE3 f p q n n' t t' ws ws' r)]) ∧ Below w.heap.size w w' := by
    intro hb h0
    have h := top_fault S S' f n n' p q t t' ws ws' r a a1 a2 c1 c2 ar cap cap1 cap2 cp1 cp2 cr w hk hs hv hi hv' hi' hr hb
    have he : (if relFault (vFault f p n t ws) (vFault f q n' t' ws') ≠ 0 then relFault (vFault f p n t ws) (vFault f q n' t' ws') else 1) = relE3 f p q n n' t t' ws ws' r := by
      unfold relE3
      by_cases h1 : relFault (vFault f p n t ws) (vFault f q n' t' ws') ≠ 0
      · rw [if_pos h1, if_pos h1]
      · rw [if_neg h1, if_neg h1, if_neg (by rw [hb.resolve_left h1]; simp)]
    rw [he] at h
    rw [decide_eq_false h0, Bool.false_and]
    exact h
  rcases relE3_ways f p q n n' t t' ws ws' r with ⟨_, h⟩ | ⟨_, _, h⟩ | ⟨_, _, _, _, h⟩ | ⟨_, _, _, _, _, h3, h⟩ | ⟨_, hp, hq, _, _, h3, g1, g2, h⟩
  · refine bad (.inl ?_) (by rw [h]; decide)
    intro h0; unfold relE3 at h; rw [if_neg (by simp [h0])] at h; split at h <;> omega
  · refine bad ?_ (by rw [h]; decide)
    by_cases h0 : relFault (vFault f p n t ws) (vFault f q n' t' ws') ≠ 0
    · exact .inl h0
    · right
      unfold relE3 at h; rw [if_neg h0] at h
      cases hr3 : relFrom p q none r
      · rfl
      · rw [hr3] at h; simp at h
  · refine bad (.inl ?_) (by rw [h]; decide)
    intro h0; unfold relE3 at h; rw [if_neg (by simp [h0])] at h; split at h <;> omega
  · exact bad (.inr h3) (by rw [h]; decide)
  · rw [h, decide_eq_true rfl, Bool.true_and]
    obtain ⟨p', rfl⟩ := Int.eq_ofNat_of_zero_le hp.1
    obtain ⟨q', rfl⟩ := Int.eq_ofNat_of_zero_le hq.1
    exact top_ok S S' f n n' p' q' t t' ws ws' r a a1 a2 c1 c2 ar cap cap1 cap2 cp1 cp2 cr w hk hs hv hi hv' hi' hr g1 g2 (by omega) (by omega) h3 hrn RB hRB (fun B P I nn mm rel g lb RB' S1 S1' n n' t' ws ws' a a1 a2 c1 c2 cap cap1 cap2 cp1 cp2 w => relOk_all t B P I nn mm rel g lb RB' S1 S1' f n n' t' ws ws' a a1 a2 c1 c2 cap cap1 cap2 cp1 cp2 w)

set_option maxRecDepth 100000 in
set_option maxHeartbeats 12800000 in
theorem related_law (S : Nat → Nat → Prop) (S' : Nat → Prop) (f : F) (p q n n' : Int) (t t' : V) (ws ws' : List Int) (r : List (Int × Int)) (a a1 a2 c1 c2 ar : Option Addr) (cap cap1 cap2 cp1 cp2 cr : Nat) (w : World)
    (hk : Kinds w) (hc : f.t.len ≤ cap) (hs : Sl S w a f.t) (hv : Vl S' w a1 t) (hi : Ints S' w c1 ws) (hv' : Vl S' w a2 t') (hi' : Ints S' w c2 ws') (hr : Prs S' w ar r) :
    Calls Tryz.prog 3 #[f.val a cap, .int .i64 p, .int .i64 q, Vv n a1 t.len cap1 c1 ws.length cp1, Vv n' a2 t'.len cap2 c2 ws'.length cp2, .slice ar r.length cr] w fun e w' => e = .returned (.bool true) ∧ Below w.heap.size w w' := by
  obtain ⟨W, hW⟩ : ∃ W : World, W = ((w.alloc (Obj.cells #[.int .i64 f.k, .int .i64 f.n, .slice a f.t.len cap] 24)).alloc (Obj.cells #[.int .i64 n, .slice a1 t.len cap1, .slice c1 ws.length cp1] 28)).alloc (Obj.cells #[.int .i64 n', .slice a2 t'.len cap2, .slice c2 ws'.length cp2] 28) := ⟨_, rfl⟩
  obtain ⟨hx, hWb⟩ := box3_made w hW
  obtain ⟨RB, hRB⟩ := relAny_ex' (fun x y => decide (((x : Int), (y : Int)) ∈ r))
  have HBX := Lib.hid (fun x (hb : Below W.heap.size W x) => And.intro (cells_of ((hb.block _ (heap_lt hx.f)).trans hx.f)) (And.intro (cells_of ((hb.block _ (heap_lt hx.u)).trans hx.u)) (cells_of ((hb.block _ (heap_lt hx.v)).trans hx.v))))
  obtain ⟨bf, hbf⟩ : ∃ bf, bf = w.heap.size := ⟨_, rfl⟩
  rw [← hbf] at HBX
  have HWB := Lib.hid hWb
  obtain ⟨N, hN⟩ : ∃ N, N = r.length := ⟨_, rfl⟩
  have hlr := hr.1
  rw [← hN] at hlr
  obtain ⟨q1, hq1⟩ : ∃ q1 : Bool, q1 = decide (0 < max (lft f.t 100) 0) := ⟨_, rfl⟩
  obtain ⟨q2, hq2⟩ : ∃ q2 : Bool, q2 = vFew t ws.length 300 := ⟨_, rfl⟩
  obtain ⟨q3, hq3⟩ : ∃ q3 : Bool, q3 = vFew t' ws'.length 300 := ⟨_, rfl⟩
  obtain ⟨E, hE⟩ : ∃ E, E = relE3 f p q n n' t t' ws ws' r := ⟨_, rfl⟩
  obtain ⟨B, hB⟩ : ∃ B : Bool, B = (decide (E = 0) && RB f (n, t, ws) (n', t', ws')) := ⟨_, rfl⟩
  obtain ⟨V0, hV0⟩ : ∃ V0 : Bool, V0 = valid f.k f.n f.t := ⟨_, rfl⟩
  obtain ⟨V1, hV1⟩ : ∃ V1 : Bool, V1 = vValid f p n t ws := ⟨_, rfl⟩
  obtain ⟨V2, hV2⟩ : ∃ V2 : Bool, V2 = vValid f q n' t' ws' := ⟨_, rfl⟩
  obtain ⟨V3, hV3⟩ : ∃ V3 : Bool, V3 = relFrom p q none r := ⟨_, rfl⟩
  obtain ⟨R, hR⟩ : ∃ R : Bool, R = RB f (n, t, ws) (n', t', ws') := ⟨_, rfl⟩
  have HWAYS := Lib.hid (relE3_ways f p q n n' t t' ws ws' r)
  rw [← hE, ← hV0, ← hV1, ← hV2, ← hV3] at HWAYS
  have HFEW := Lib.hid (fun x (hx : Below W.heap.size W x) => few_any S f.t f.k f.n a cap 100 x ((hs.below hWb).below hx) (by omega) (by omega))
  rw [← hq1] at HFEW
  have HFU := Lib.hid (fun x (hx : Below W.heap.size W x) => vfew_any S' t n a1 c1 cap1 ws.length cp1 300 x ((hv.below hWb).below hx) (by omega) (by omega))
  rw [← hq2] at HFU
  have HFV := Lib.hid (fun x (hx : Below W.heap.size W x) => vfew_any S' t' n' a2 c2 cap2 ws'.length cp2 300 x ((hv'.below hWb).below hx) (by omega) (by omega))
  rw [← hq3] at HFV
  have HAWK := Lib.hid (fun x (hx : Below W.heap.size W x) => awake_any x ((hk.below hWb).below hx))
  have HREL := Lib.hid (fun (hN : r.length ≤ 1000000) x (hx : Below W.heap.size W x) => rel_top_any S S' f p q n n' t t' ws ws' r a a1 a2 c1 c2 ar cap cap1 cap2 cp1 cp2 cr x ((hk.below hWb).below hx) ((hs.below hWb).below hx) ((hv.below hWb).below hx) ((hi.below hWb).below hx) ((hv'.below hWb).below hx) ((hi'.below hWb).below hx) ((hr.below hWb).below hx) hN RB hRB)
  rw [← hE, ← hB] at HREL
  have HIS := Lib.hid (fun x (hx : Below W.heap.size W x) => is_any S f.t f.k f.n a cap x ((hs.below hWb).below hx))
  rw [← hV0] at HIS
  have HVU := Lib.hid (fun (h0 : V0 = true) (hp : 0 ≤ p ∧ p ≤ 100) x (hx : Below W.heap.size W x) => vis_any merged_any S S' f a a1 c1 cap cap1 cp1 n p t ws x ((hs.below hWb).below hx) hc ((hv.below hWb).below hx) ((hi.below hWb).below hx) (valid_good (by rw [← hV0]; exact h0)) (by omega) (by omega))
  rw [← hV1] at HVU
  have HVV := Lib.hid (fun (h0 : V0 = true) (hp : 0 ≤ q ∧ q ≤ 100) x (hx : Below W.heap.size W x) => vis_any merged_any S S' f a a2 c2 cap cap2 cp2 n' q t' ws' x ((hs.below hWb).below hx) hc ((hv'.below hWb).below hx) ((hi'.below hWb).below hx) (valid_good (by rw [← hV0]; exact h0)) (by omega) (by omega))
  rw [← hV2] at HVV
  have HRL := Lib.hid (fun x (hx : Below W.heap.size W x) => relation_any S' ar cr r p q x ((hr.below hWb).below hx))
  rw [← hV3] at HRL
  have HRR := Lib.hid (fun (h0 : V0 = true) (h1 : V1 = true) (h2 : V2 = true) x (hx : Below W.heap.size W x) => relR_all t p.toNat q.toNat (fun x y => decide (((x : Int), (y : Int)) ∈ r)) r RB S S' S' f n n' t' ws ws' a a1 a2 c1 c2 ar cap cap1 cap2 cp1 cp2 cr x (fun _ _ => rfl) hRB ((hs.below hWb).below hx) ((hv.below hWb).below hx) ((hi.below hWb).below hx) ((hv'.below hWb).below hx) ((hi'.below hWb).below hx) ((hr.below hWb).below hx) hc (valid_good (by rw [← hV0]; exact h0)))
  rw [← hR] at HRR
  have HOK := Lib.hid (fun (h1 : V1 = true) (hp : 0 ≤ p ∧ p ≤ 100) => (show okV nodeOk (p.toNat : Nat) f n t ws = true by
    have e : ((p.toNat : Nat) : Int) = p := by omega
    rw [e]; rw [hV1] at h1; unfold vValid at h1; simp only [Bool.and_eq_true] at h1; exact h1.1))
  have HOK2 := Lib.hid (fun (h1 : V2 = true) (hp : 0 ≤ q ∧ q ≤ 100) => (show okV nodeOk (q.toNat : Nat) f n' t' ws' = true by
    have e : ((q.toNat : Nat) : Int) = q := by omega
    rw [e]; rw [hV2] at h1; unfold vValid at h1; simp only [Bool.and_eq_true] at h1; exact h1.1))
  have HB0 := Lib.hid hB
  rw [← hR] at HB0
  rw [← hN] at HREL HRL HRR ⊢
  have HN := Lib.hid hN
  clear hk hc hs hv hi hv' hi' hr hx hWb hRB hq1 hq2 hq3 hE hB hV0 hV1 hV2 hV3 hR hN
  obtain ⟨⟨b0, b1, b2⟩, ⟨b3, b4, b5⟩, b6, b7, b8⟩ := HBX.out W (Below.refl _ _)
  go_enter Tryz.func3, Tryz.ntmps3
  go_wp2_with fail
  rw [← hW, ← hbf]
  clear hW hbf
  refine (HFEW.out _ (Below.refl _ _)).mono ?_
  rintro e w1 ⟨rfl, hb1⟩
  have HB1 := Lib.hid (show Below W.heap.size W w1 from hb1)
  clear b0 b1 b2 b3 b4 b5 b6 b7 b8 hb1
  obtain ⟨⟨b0, b1, b2⟩, ⟨b3, b4, b5⟩, b6, b7, b8⟩ := HBX.out _ HB1.out
  cases q1 with
  | false =>
    go_wp2_with fail
    refine (HAWK.out _ HB1.out).mono ?_
    rintro e wz ⟨rfl, hbz⟩
    have HBZ := Lib.hid (HWB.out.trans ((HB1.out.trans (hbz.mono HB1.out.size)).mono HWB.out.size))
    clear hbz
    go_wp2_with fail
    go_ret
    exact ⟨rfl, HBZ.out⟩
  | true =>
  go_wp2_with fail
  refine (HFU.out _ HB1.out).mono ?_
  rintro e w2 ⟨rfl, hb2⟩
  have HB2 := Lib.hid (HB1.out.trans (hb2.mono HB1.out.size))
  clear b0 b1 b2 b3 b4 b5 b6 b7 b8 hb2
  obtain ⟨⟨b0, b1, b2⟩, ⟨b3, b4, b5⟩, b6, b7, b8⟩ := HBX.out _ HB2.out
  cases q2 with
  | false =>
    go_wp2_with fail
    refine (HAWK.out _ HB2.out).mono ?_
    rintro e wz ⟨rfl, hbz⟩
    have HBZ := Lib.hid (HWB.out.trans ((HB2.out.trans (hbz.mono HB2.out.size)).mono HWB.out.size))
    clear hbz
    go_wp2_with fail
    go_ret
    exact ⟨rfl, HBZ.out⟩
  | true =>
  go_wp2_with fail
  refine (HFV.out _ HB2.out).mono ?_
  rintro e w3 ⟨rfl, hb3⟩
  have HB3 := Lib.hid (HB2.out.trans (hb3.mono HB2.out.size))
  clear b0 b1 b2 b3 b4 b5 b6 b7 b8 hb3
  obtain ⟨⟨b0, b1, b2⟩, ⟨b3, b4, b5⟩, b6, b7, b8⟩ := HBX.out _ HB3.out
  cases q3 with
  | false =>
    go_wp2_with fail
    refine (HAWK.out _ HB3.out).mono ?_
    rintro e wz ⟨rfl, hbz⟩
    have HBZ := Lib.hid (HWB.out.trans ((HB3.out.trans (hbz.mono HB3.out.size)).mono HWB.out.size))
    clear hbz
    go_wp2_with fail
    go_ret
    exact ⟨rfl, HBZ.out⟩
  | true =>
  by_cases hN3 : 300 < N
  · have hi3 : (300 : Int) < (N : Int) := by omega
    have hid : decide ((300 : Int) < (N : Int)) = true := decide_eq_true hi3
    clear hN3
    go_wp2_with fail
    refine (HAWK.out _ HB3.out).mono ?_
    rintro e wz ⟨rfl, hbz⟩
    have HBZ := Lib.hid (HWB.out.trans ((HB3.out.trans (hbz.mono HB3.out.size)).mono HWB.out.size))
    clear hbz
    go_wp2_with fail
    go_ret
    exact ⟨rfl, HBZ.out⟩
  have hiN : ¬ (300 : Int) < (N : Int) := by omega
  have hidN : decide ((300 : Int) < (N : Int)) = false := decide_eq_false hiN
  clear hN3
  go_wp2_with fail
  refine (HREL.out (by omega) _ HB3.out).mono ?_
  rintro e w4 ⟨rfl, hb4⟩
  have HB4 := Lib.hid (HB3.out.trans (hb4.mono HB3.out.size))
  clear b0 b1 b2 b3 b4 b5 b6 b7 b8 hb4
  obtain ⟨⟨b0, b1, b2⟩, ⟨b3, b4, b5⟩, b6, b7, b8⟩ := HBX.out _ HB4.out
  rcases HWAYS.out with ⟨rfl, rfl⟩ | ⟨rfl, hpq, rfl⟩ | ⟨rfl, hp, hq, hvv, rfl⟩ | ⟨rfl, hp, hq, rfl, rfl, rfl, rfl⟩ | ⟨rfl, hp, hq, rfl, rfl, rfl, _, _, rfl⟩
  · clear HREL HVU HVV HRR HOK HOK2
    obtain rfl : B = false := by rw [HB0.out]; rfl
    go_wp2_with fail
    refine (HIS.out _ HB4.out).mono ?_
    rintro e w5 ⟨rfl, hb5⟩
    have HB5 := Lib.hid (HB4.out.trans (hb5.mono HB4.out.size))
    clear b0 b1 b2 b3 b4 b5 b6 b7 b8 hb5
    obtain ⟨⟨b0, b1, b2⟩, ⟨b3, b4, b5⟩, b6, b7, b8⟩ := HBX.out _ HB5.out
    go_wp2_with fail
    refine (HAWK.out _ HB5.out).mono ?_
    rintro e wz ⟨rfl, hbz⟩
    have HBZ := Lib.hid (HWB.out.trans ((HB5.out.trans (hbz.mono HB5.out.size)).mono HWB.out.size))
    clear hbz
    go_wp2_with fail
    go_ret
    exact ⟨rfl, HBZ.out⟩
  · clear HREL HVU HVV HRR HOK HOK2
    obtain rfl : B = false := by rw [HB0.out]; rfl
    have hw : p < 0 ∨ (0 ≤ p ∧ 100 < p) ∨ (0 ≤ p ∧ p ≤ 100 ∧ q < 0) ∨ (0 ≤ p ∧ p ≤ 100 ∧ 0 ≤ q ∧ 100 < q) := by omega
    clear hpq
    go_wp2_with fail
    refine (HIS.out _ HB4.out).mono ?_
    rintro e w5 ⟨rfl, hb5⟩
    have HB5 := Lib.hid (HB4.out.trans (hb5.mono HB4.out.size))
    clear b0 b1 b2 b3 b4 b5 b6 b7 b8 hb5
    obtain ⟨⟨b0, b1, b2⟩, ⟨b3, b4, b5⟩, b6, b7, b8⟩ := HBX.out _ HB5.out
    rcases hw with h | ⟨h1, h2⟩ | ⟨h1, h2, h3⟩ | ⟨h1, h2, h3, h4⟩
    · have g0 : p < (0 : Int) := by omega
      have g0d : decide (p < (0 : Int)) = true := by simp [g0]
      clear h
      go_wp2_with fail
      refine (HAWK.out _ HB5.out).mono ?_
      rintro e wz ⟨rfl, hbz⟩
      have HBZ := Lib.hid (HWB.out.trans ((HB5.out.trans (hbz.mono HB5.out.size)).mono HWB.out.size))
      clear hbz
      go_wp2_with fail
      go_ret
      exact ⟨rfl, HBZ.out⟩
    · have g0 : ¬ p < (0 : Int) := by omega
      have g0d : decide (p < (0 : Int)) = false := by simp [g0]
      have g1 : (100 : Int) < p := by omega
      have g1d : decide ((100 : Int) < p) = true := by simp [g1]
      clear h1 h2
      go_wp2_with fail
      refine (HAWK.out _ HB5.out).mono ?_
      rintro e wz ⟨rfl, hbz⟩
      have HBZ := Lib.hid (HWB.out.trans ((HB5.out.trans (hbz.mono HB5.out.size)).mono HWB.out.size))
      clear hbz
      go_wp2_with fail
      go_ret
      exact ⟨rfl, HBZ.out⟩
    · have g0 : ¬ p < (0 : Int) := by omega
      have g0d : decide (p < (0 : Int)) = false := by simp [g0]
      have g1 : ¬ (100 : Int) < p := by omega
      have g1d : decide ((100 : Int) < p) = false := by simp [g1]
      have g2 : q < (0 : Int) := by omega
      have g2d : decide (q < (0 : Int)) = true := by simp [g2]
      clear h1 h2 h3
      go_wp2_with fail
      refine (HAWK.out _ HB5.out).mono ?_
      rintro e wz ⟨rfl, hbz⟩
      have HBZ := Lib.hid (HWB.out.trans ((HB5.out.trans (hbz.mono HB5.out.size)).mono HWB.out.size))
      clear hbz
      go_wp2_with fail
      go_ret
      exact ⟨rfl, HBZ.out⟩
    · have g0 : ¬ p < (0 : Int) := by omega
      have g0d : decide (p < (0 : Int)) = false := by simp [g0]
      have g1 : ¬ (100 : Int) < p := by omega
      have g1d : decide ((100 : Int) < p) = false := by simp [g1]
      have g2 : ¬ q < (0 : Int) := by omega
      have g2d : decide (q < (0 : Int)) = false := by simp [g2]
      have g3 : (100 : Int) < q := by omega
      have g3d : decide ((100 : Int) < q) = true := by simp [g3]
      clear h1 h2 h3 h4
      go_wp2_with fail
      refine (HAWK.out _ HB5.out).mono ?_
      rintro e wz ⟨rfl, hbz⟩
      have HBZ := Lib.hid (HWB.out.trans ((HB5.out.trans (hbz.mono HB5.out.size)).mono HWB.out.size))
      clear hbz
      go_wp2_with fail
      go_ret
      exact ⟨rfl, HBZ.out⟩
  · clear HREL HRR HOK HOK2
    obtain rfl : B = false := by rw [HB0.out]; rfl
    have HPQ := Lib.hid (And.intro hp hq)
    go_wp2_with fail
    refine (HIS.out _ HB4.out).mono ?_
    rintro e w5 ⟨rfl, hb5⟩
    have HB5 := Lib.hid (HB4.out.trans (hb5.mono HB4.out.size))
    clear b0 b1 b2 b3 b4 b5 b6 b7 b8 hb5
    obtain ⟨⟨b0, b1, b2⟩, ⟨b3, b4, b5⟩, b6, b7, b8⟩ := HBX.out _ HB5.out
    have g0 : ¬ p < (0 : Int) := by omega
    have g0d : decide (p < (0 : Int)) = false := by simp [g0]
    have g1 : ¬ (100 : Int) < p := by omega
    have g1d : decide ((100 : Int) < p) = false := by simp [g1]
    have g2 : ¬ q < (0 : Int) := by omega
    have g2d : decide (q < (0 : Int)) = false := by simp [g2]
    have g3 : ¬ (100 : Int) < q := by omega
    have g3d : decide ((100 : Int) < q) = false := by simp [g3]
    clear hp hq
    go_wp2_with fail
    refine (HVU.out (by first | trivial | rfl) HPQ.out.1 _ HB5.out).mono ?_
    rintro e w6 ⟨rfl, hb6⟩
    have HB6 := Lib.hid (HB5.out.trans (hb6.mono HB5.out.size))
    clear b0 b1 b2 b3 b4 b5 b6 b7 b8 hb6
    obtain ⟨⟨b0, b1, b2⟩, ⟨b3, b4, b5⟩, b6, b7, b8⟩ := HBX.out _ HB6.out
    cases V1 with
    | false =>
      clear hvv
      go_wp2_with fail
      refine (HAWK.out _ HB6.out).mono ?_
      rintro e wz ⟨rfl, hbz⟩
      have HBZ := Lib.hid (HWB.out.trans ((HB6.out.trans (hbz.mono HB6.out.size)).mono HWB.out.size))
      clear hbz
      go_wp2_with fail
      go_ret
      exact ⟨rfl, HBZ.out⟩
    | true =>
    obtain rfl : V2 = false := by rcases hvv with h | h; · cases h
                                  · exact h
    clear hvv
    go_wp2_with fail
    refine (HVV.out (by first | trivial | rfl) HPQ.out.2 _ HB6.out).mono ?_
    rintro e w7 ⟨rfl, hb7⟩
    have HB7 := Lib.hid (HB6.out.trans (hb7.mono HB6.out.size))
    clear b0 b1 b2 b3 b4 b5 b6 b7 b8 hb7
    obtain ⟨⟨b0, b1, b2⟩, ⟨b3, b4, b5⟩, b6, b7, b8⟩ := HBX.out _ HB7.out
    go_wp2_with fail
    refine (HAWK.out _ HB7.out).mono ?_
    rintro e wz ⟨rfl, hbz⟩
    have HBZ := Lib.hid (HWB.out.trans ((HB7.out.trans (hbz.mono HB7.out.size)).mono HWB.out.size))
    clear hbz
    go_wp2_with fail
    go_ret
    exact ⟨rfl, HBZ.out⟩
  · clear HREL HRR HOK HOK2
    obtain rfl : B = false := by rw [HB0.out]; rfl
    have HPQ := Lib.hid (And.intro hp hq)
    go_wp2_with fail
    refine (HIS.out _ HB4.out).mono ?_
    rintro e w5 ⟨rfl, hb5⟩
    have HB5 := Lib.hid (HB4.out.trans (hb5.mono HB4.out.size))
    clear b0 b1 b2 b3 b4 b5 b6 b7 b8 hb5
    obtain ⟨⟨b0, b1, b2⟩, ⟨b3, b4, b5⟩, b6, b7, b8⟩ := HBX.out _ HB5.out
    have g0 : ¬ p < (0 : Int) := by omega
    have g0d : decide (p < (0 : Int)) = false := by simp [g0]
    have g1 : ¬ (100 : Int) < p := by omega
    have g1d : decide ((100 : Int) < p) = false := by simp [g1]
    have g2 : ¬ q < (0 : Int) := by omega
    have g2d : decide (q < (0 : Int)) = false := by simp [g2]
    have g3 : ¬ (100 : Int) < q := by omega
    have g3d : decide ((100 : Int) < q) = false := by simp [g3]
    clear hp hq
    go_wp2_with fail
    refine (HVU.out (by first | trivial | rfl) HPQ.out.1 _ HB5.out).mono ?_
    rintro e w6 ⟨rfl, hb6⟩
    have HB6 := Lib.hid (HB5.out.trans (hb6.mono HB5.out.size))
    clear b0 b1 b2 b3 b4 b5 b6 b7 b8 hb6
    obtain ⟨⟨b0, b1, b2⟩, ⟨b3, b4, b5⟩, b6, b7, b8⟩ := HBX.out _ HB6.out
    go_wp2_with fail
    refine (HVV.out (by first | trivial | rfl) HPQ.out.2 _ HB6.out).mono ?_
    rintro e w7 ⟨rfl, hb7⟩
    have HB7 := Lib.hid (HB6.out.trans (hb7.mono HB6.out.size))
    clear b0 b1 b2 b3 b4 b5 b6 b7 b8 hb7
    obtain ⟨⟨b0, b1, b2⟩, ⟨b3, b4, b5⟩, b6, b7, b8⟩ := HBX.out _ HB7.out
    go_wp2_with fail
    refine (HRL.out _ HB7.out).mono ?_
    rintro e w8 ⟨rfl, hb8⟩
    have HB8 := Lib.hid (HB7.out.trans (hb8.mono HB7.out.size))
    clear b0 b1 b2 b3 b4 b5 b6 b7 b8 hb8
    obtain ⟨⟨b0, b1, b2⟩, ⟨b3, b4, b5⟩, b6, b7, b8⟩ := HBX.out _ HB8.out
    go_wp2_with fail
    refine (HAWK.out _ HB8.out).mono ?_
    rintro e wz ⟨rfl, hbz⟩
    have HBZ := Lib.hid (HWB.out.trans ((HB8.out.trans (hbz.mono HB8.out.size)).mono HWB.out.size))
    clear hbz
    go_wp2_with fail
    go_ret
    exact ⟨rfl, HBZ.out⟩
  · clear HREL
    obtain rfl : B = R := by rw [HB0.out]; rfl
    have HPQ := Lib.hid (And.intro hp hq)
    go_wp2_with fail
    refine (HIS.out _ HB4.out).mono ?_
    rintro e w5 ⟨rfl, hb5⟩
    have HB5 := Lib.hid (HB4.out.trans (hb5.mono HB4.out.size))
    clear b0 b1 b2 b3 b4 b5 b6 b7 b8 hb5
    obtain ⟨⟨b0, b1, b2⟩, ⟨b3, b4, b5⟩, b6, b7, b8⟩ := HBX.out _ HB5.out
    have g0 : ¬ p < (0 : Int) := by omega
    have g0d : decide (p < (0 : Int)) = false := by simp [g0]
    have g1 : ¬ (100 : Int) < p := by omega
    have g1d : decide ((100 : Int) < p) = false := by simp [g1]
    have g2 : ¬ q < (0 : Int) := by omega
    have g2d : decide (q < (0 : Int)) = false := by simp [g2]
    have g3 : ¬ (100 : Int) < q := by omega
    have g3d : decide ((100 : Int) < q) = false := by simp [g3]
    clear hp hq
    go_wp2_with fail
    refine (HVU.out (by first | trivial | rfl) HPQ.out.1 _ HB5.out).mono ?_
    rintro e w6 ⟨rfl, hb6⟩
    have HB6 := Lib.hid (HB5.out.trans (hb6.mono HB5.out.size))
    clear b0 b1 b2 b3 b4 b5 b6 b7 b8 hb6
    obtain ⟨⟨b0, b1, b2⟩, ⟨b3, b4, b5⟩, b6, b7, b8⟩ := HBX.out _ HB6.out
    go_wp2_with fail
    refine (HVV.out (by first | trivial | rfl) HPQ.out.2 _ HB6.out).mono ?_
    rintro e w7 ⟨rfl, hb7⟩
    have HB7 := Lib.hid (HB6.out.trans (hb7.mono HB6.out.size))
    clear b0 b1 b2 b3 b4 b5 b6 b7 b8 hb7
    obtain ⟨⟨b0, b1, b2⟩, ⟨b3, b4, b5⟩, b6, b7, b8⟩ := HBX.out _ HB7.out
    go_wp2_with fail
    refine (HRL.out _ HB7.out).mono ?_
    rintro e w8 ⟨rfl, hb8⟩
    have HB8 := Lib.hid (HB7.out.trans (hb8.mono HB7.out.size))
    clear b0 b1 b2 b3 b4 b5 b6 b7 b8 hb8
    obtain ⟨⟨b0, b1, b2⟩, ⟨b3, b4, b5⟩, b6, b7, b8⟩ := HBX.out _ HB8.out
    go_wp2_with fail
    refine (HRR.out (by first | trivial | rfl) (by first | trivial | rfl) (by first | trivial | rfl) _ HB8.out (HOK.out (by first | trivial | rfl) HPQ.out.1) (HOK2.out (by first | trivial | rfl) HPQ.out.2)).mono ?_
    rintro e w9 ⟨rfl, hb9⟩
    have HB9 := Lib.hid (HB8.out.trans (hb9.mono HB8.out.size))
    clear b0 b1 b2 b3 b4 b5 b6 b7 b8 hb9
    cases B
    · go_wp2_with fail
      refine (HAWK.out _ HB9.out).mono ?_
      rintro e wz ⟨rfl, hbz⟩
      have HBZ := Lib.hid (HWB.out.trans ((HB9.out.trans (hbz.mono HB9.out.size)).mono HWB.out.size))
      clear hbz
      go_wp2_with fail
      go_ret
      exact ⟨rfl, HBZ.out⟩
    · go_wp2_with fail
      refine (HAWK.out _ HB9.out).mono ?_
      rintro e wz ⟨rfl, hbz⟩
      have HBZ := Lib.hid (HWB.out.trans ((HB9.out.trans (hbz.mono HB9.out.size)).mono HWB.out.size))
      clear hbz
      go_wp2_with fail
      go_ret
      exact ⟨rfl, HBZ.out⟩
end Go.Proofs.YtfgpjfgejhahfaaGreatDoor
