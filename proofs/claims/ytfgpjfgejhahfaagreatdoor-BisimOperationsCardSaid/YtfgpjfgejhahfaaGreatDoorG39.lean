/-
  Proved here: contracts of the walk to BisimOperations: the law's own walk; each under the conditions that its own statement names.
-/
import Derived.Test.YtfgpjfgejhahfaaGreatDoorG25
import Derived.Test.YtfgpjfgejhahfaaGreatDoorG26
import Derived.Test.YtfgpjfgejhahfaaGreatDoorG27
import Derived.Test.YtfgpjfgejhahfaaGreatDoorG38
namespace Go.Proofs.YtfgpjfgejhahfaaGreatDoor
open Go Go.RowKit


/-- The composition of the code and that of the reference are the same. -/
theorem same_of {base base2 m : Nat} {w6 w7 : World} {v6 v7 : Value} {L6 r q : List (Int × Int)} (hrow : w6.ownsRow base 61 2 v6 L6.length (flatP L6)) (hp : L6.Pairwise ltP') (hm : ∀ x z, (x, z) ∈ L6 ↔ ∃ y, (x, y) ∈ r ∧ (y, z) ∈ q) (hb : Below w6.heap.size w6 w7) (hc : CP base2 w7 (OutC r q) m v7) (hm2 : m ≤ 250000 := by omega) :
    Calls Tryz.prog 26 #[v6, v7] w7 (fun e x' => e = .returned (.bool true) ∧ Below w7.heap.size w7 x') := by
  obtain ⟨al, L, cl, rfl, h2, h3, h4, h5, h6, h7⟩ := hc
  have hL : L6 = L := sorted_eq hp h2 (fun p => by
    obtain ⟨x, z⟩ := p
    rw [hm, h3]
    unfold OutC InC
    constructor
    · rintro ⟨y, g1, g2⟩
      exact ⟨(x, y), g1, (y, z), g2, rfl, rfl⟩
    · rintro ⟨⟨x', y⟩, g1, ⟨y', z'⟩, g2, g3, g4⟩
      simp only [Prod.mk.injEq] at g3 g4
      obtain ⟨rfl, rfl⟩ := g4
      subst g3
      exact ⟨y, g1, g2⟩)
  subst hL
  obtain ⟨a6, c6, rfl, _, hp6⟩ := row_prs hrow (by omega)
  exact (sameP_any _ _ a6 al c6 cl L6 L6 w7 (hp6.below hb) h7).mono (fun e x h => ⟨h.1.trans (by simp), h.2⟩)
set_option maxRecDepth 100000 in
set_option maxHeartbeats 6400000 in
theorem ops_any (S : Nat → Nat → Prop) (S' S2 S3 : Nat → Prop) (f : F) (a na ar aq : Option Addr) (cap ncap cr cq : Nat) (t : V) (r q : List (Int × Int)) (w : World) (hs : Sl S w a f.t) (hc : f.t.len ≤ cap) (hv : Vl S' w na t) (hk : Kinds w) (hr : Prs S2 w ar r) (hq : Prs S3 w aq q)
    (ha : ar = none ∧ r = [] ∨ ∃ b o, ar = some ⟨b, o, none⟩) (ha2 : aq = none ∧ q = [] ∨ ∃ b o, aq = some ⟨b, o, none⟩)
    (hwr : ∀ p ∈ r, (Lit.int .i64 p.1).wf = true ∧ (Lit.int .i64 p.2).wf = true) (hwq : ∀ p ∈ q, (Lit.int .i64 p.1).wf = true ∧ (Lit.int .i64 p.2).wf = true) :
    Calls Tryz.prog 5 #[Sv f a cap na t.len ncap, .slice ar r.length cr, .slice aq q.length cq] w fun e w' => e = .returned (.bool true) ∧ Below w.heap.size w w' := by
  obtain ⟨W, hW⟩ : ∃ W : World, W = w.alloc (Obj.cells #[.int .i64 f.k, .int .i64 f.n, .slice a f.t.len cap, .slice na t.len ncap] 42) := ⟨_, rfl⟩
  have hWb : Below w.heap.size w W := by rw [hW]; exact (Below.refl _ _).alloc (Nat.le_refl _) _
  obtain ⟨wb, hwb⟩ : ∃ wb, wb = w.heap.size := ⟨_, rfl⟩
  have k0 : W.heap[wb]? = some (Obj.cells #[.int .i64 f.k, .int .i64 f.n, .slice a f.t.len cap, .slice na t.len ncap] 42 (0, 0)) := by rw [hW, hwb]; exact heap_new _ _
  have HE := Lib.hid (fun x (hx : Below W.heap.size W x) => cells4 (show x.heap[wb]? = _ by rw [hx.block _ (heap_lt k0)]; exact k0))
  have HWB := Lib.hid hWb
  have HWS := Lib.hid (show W.heap.size = wb + 1 by rw [hW, hwb]; simp)
  have HFEW := Lib.hid (fun x (hx : Below W.heap.size W x) b ty hb => few1_any S S' f a na cap ncap b ty t x ((hs.below hWb).below hx) ((hv.below hWb).below hx) hb)
  have HCLO := Lib.hid (fun (hN : r.length ≤ 1000000) x (hx : Below W.heap.size W x) => clo_any S S' S2 f a na ar cap ncap cr t r x ((hs.below hWb).below hx) ((hv.below hWb).below hx) ((hk.below hWb).below hx) ((hr.below hWb).below hx) hN)
  have HFLT := Lib.hid (fun x (hx : Below W.heap.size W x) => fault_any S S' S2 f a na ar cap ncap cr t r x ((hs.below hWb).below hx) hc ((hv.below hWb).below hx) ((hr.below hWb).below hx))
  have HREF := Lib.hid (fun (hn : t.len ≤ 100000) (hN : r.length ≤ 1000000) (hin : ∀ p ∈ r, 0 ≤ p.1 ∧ p.1 < t.len ∧ 0 ≤ p.2 ∧ p.2 < t.len) x (hx : Below W.heap.size W x) => refclo_any S2 ar cr t.len r x ((hr.below hWb).below hx) hn hN hin)
  have HCMP := Lib.hid (fun (hN : r.length ≤ 500) (hM : q.length ≤ 500) x (hx : Below W.heap.size W x) => compA_any S2 S3 ar aq cr cq r q x ((hr.below hWb).below hx) ((hq.below hWb).below hx) ha ha2 hN hM hwr hwq)
  have HRCM := Lib.hid (fun (hN : r.length ≤ 500) (hM : q.length ≤ 500) x (hx : Below W.heap.size W x) => refcomp_any S2 S3 ar aq cr cq r q x ((hr.below hWb).below hx) ((hq.below hWb).below hx) hN hM)
  have HAWK := Lib.hid (fun x (hx : Below W.heap.size W x) => awake_any x ((hk.below hWb).below hx))
  have hlen := hv.1
  have hlr := hr.1
  have hlq := hq.1
  obtain ⟨q0, hq0⟩ : ∃ q0 : Bool, q0 = (sFew f t 200 && decide (t.len ≤ 8)) := ⟨_, rfl⟩
  rw [← hq0] at HFEW
  have HQ0 := Lib.hid hq0
  clear hs hv hk hr hq ha ha2 hwr hwq k0 hWb hq0
  obtain ⟨c0, c1, c2, c3⟩ := HE.out _ (Below.refl _ _)
  have HOK := Lib.hid (fun (hr3 : r.length ≤ 300) (hq3 : q.length ≤ 300) (h8 : t.len ≤ 8) => And.intro (HCMP.out (by omega) (by omega)) (And.intro (HRCM.out (by omega) (by omega)) (HCLO.out (by omega))))
  clear HCMP HRCM HCLO
  obtain ⟨N, hN⟩ : ∃ N, N = r.length := ⟨_, rfl⟩
  obtain ⟨M, hM⟩ : ∃ M, M = q.length := ⟨_, rfl⟩
  rw [← hN] at HFLT HREF HOK hlr ⊢
  rw [← hM] at HOK hlq ⊢
  have HN := Lib.hid hN
  have HM := Lib.hid hM
  clear hN hM
  go_enter Tryz.func5, Tryz.ntmps5
  go_wp2_with fail
  rw [← hW, ← hwb]
  clear hW hwb
  have hnew : (W.alloc (Obj.cells #[.int .i64 f.k, .int .i64 f.n, .slice a f.t.len cap, .slice na t.len ncap] 42)).heap[wb + 1]? = some (Obj.cells #[.int .i64 f.k, .int .i64 f.n, .slice a f.t.len cap, .slice na t.len ncap] 42 (0, 0)) := by rw [← HWS.out]; exact heap_new _ _
  refine (HFEW.out _ ((Below.refl _ _).alloc (Nat.le_refl _) _) _ _ hnew).mono ?_
  rintro e w1 ⟨rfl, hb1⟩
  have HB1 := Lib.hid (((Below.refl _ _).alloc (Nat.le_refl _) _).trans (hb1.mono (by simp)) : Below W.heap.size W w1)
  clear c0 c1 c2 c3 hb1 hnew HFEW
  cases hq0 : q0 with
  | false =>
    subst hq0
    go_wp2_with fail
    refine (HAWK.out _ HB1.out).mono ?_
    rintro e w2 ⟨rfl, hb2⟩
    have HB2 := Lib.hid (HWB.out.trans ((HB1.out.trans (hb2.mono HB1.out.size)).mono HWB.out.size))
    clear hb2
    go_wp2_with fail
    go_ret
    exact ⟨rfl, HB2.out⟩
  | true =>
  have HN8 := Lib.hid (show t.len ≤ 8 by have h := HQ0.out; rw [hq0] at h; have h2 := h.symm; simp only [Bool.and_eq_true, decide_eq_true_eq] at h2; exact h2.2)
  have hn8 := HN8.out
  subst hq0
  by_cases hN3 : 300 < N
  · have hi : (300 : Int) < (N : Int) := by omega
    have hid : decide ((300 : Int) < (N : Int)) = true := decide_eq_true hi
    clear hN3
    go_wp2_with fail
    refine (HAWK.out _ HB1.out).mono ?_
    rintro e w2 ⟨rfl, hb2⟩
    have HB2 := Lib.hid (HWB.out.trans ((HB1.out.trans (hb2.mono HB1.out.size)).mono HWB.out.size))
    clear hb2
    go_wp2_with fail
    go_ret
    exact ⟨rfl, HB2.out⟩
  have hiN : ¬ (300 : Int) < (N : Int) := by omega
  have hidN : decide ((300 : Int) < (N : Int)) = false := decide_eq_false hiN
  by_cases hM3 : 300 < M
  · have hi : (300 : Int) < (M : Int) := by omega
    have hid : decide ((300 : Int) < (M : Int)) = true := decide_eq_true hi
    clear hM3
    go_wp2_with fail
    refine (HAWK.out _ HB1.out).mono ?_
    rintro e w2 ⟨rfl, hb2⟩
    have HB2 := Lib.hid (HWB.out.trans ((HB1.out.trans (hb2.mono HB1.out.size)).mono HWB.out.size))
    clear hb2
    go_wp2_with fail
    go_ret
    exact ⟨rfl, HB2.out⟩
  have hiM : ¬ (300 : Int) < (M : Int) := by omega
  have hidM : decide ((300 : Int) < (M : Int)) = false := decide_eq_false hiM
  obtain ⟨hcmp, hrcm, hclo⟩ := HOK.out (by omega) (by omega) hn8
  have HCLO := Lib.hid hclo
  have HCMP := Lib.hid hcmp
  have HRCM := Lib.hid hrcm
  obtain ⟨c0, c1, c2, c3⟩ := HE.out _ HB1.out
  clear hcmp hrcm hclo HOK hN3 hM3
  go_wp2_with fail
  refine (HCLO.out _ HB1.out).mono ?_
  rintro e w2 ⟨al, cl, rfl, hints, hb2⟩
  have HB2 := Lib.hid (HB1.out.trans (hb2.mono HB1.out.size))
  obtain ⟨L, hL⟩ : ∃ L, L = cloL f t r := ⟨_, rfl⟩
  obtain ⟨E, hE⟩ : ∃ E, E = cloE f t r := ⟨_, rfl⟩
  rw [← hL] at hints ⊢
  rw [← hE] at HFLT ⊢
  have HL := Lib.hid hL
  have HEE := Lib.hid hE
  have HI2 := Lib.hid hints
  obtain ⟨n1, hn1⟩ : ∃ n1, n1 = L.length := ⟨_, rfl⟩
  have HN1 := Lib.hid hn1
  have hl1 := hints.1
  rw [← hn1] at hl1 ⊢
  clear c0 c1 c2 c3 hb2 HCLO hL hE hints hn1
  obtain ⟨c0, c1, c2, c3⟩ := HE.out _ HB2.out
  go_wp2_with fail
  refine (HFLT.out _ HB2.out).mono ?_
  rintro e w3 ⟨rfl, hb3⟩
  have HB3 := Lib.hid (HB2.out.trans (hb3.mono HB2.out.size))
  have HI3 := Lib.hid (HI2.out.below hb3)
  clear c0 c1 c2 c3 hb3
  obtain ⟨c0, c1, c2, c3⟩ := HE.out _ HB3.out
  by_cases hE0 : E = 0
  · have HL2 := Lib.hid (show L = (numsC (repAll (fun z => z) r) t.len).1 ∧ relFrom t.len t.len none r = true by
      have h := HEE.out
      rw [hE0] at h
      have h2 := h
      unfold cloE at h2
      split at h2
      · split at h2
        · rename_i hrl
          refine ⟨?_, hrl⟩
          rw [HL.out]
          unfold cloL
          rw [if_pos h.symm]
          exact closure_eq t.len r (fun p hp => relFrom_all hrl p hp)
        · cases h2
      · cases h2)
    have HRF := Lib.hid (HREF.out (by omega) (by omega) (fun p hp => relFrom_all HL2.out.2 p hp))
    subst hE0
    go_wp2_with fail
    refine (HRF.out _ HB3.out).mono ?_
    rintro e w4 ⟨a4, c4, rfl, hi4, hb4⟩
    rw [← HL2.out.1] at hi4 ⊢
    have HB4 := Lib.hid (HB3.out.trans (hb4.mono HB3.out.size))
    have HSI := Lib.hid (show Calls Tryz.prog 29 #[.slice al n1 cl, .slice a4 n1 c4] w4 (fun e x' => e = .returned (.bool true) ∧ Below w4.heap.size w4 x') by
      have h := sameI_any _ _ al a4 cl c4 L L w4 (HI3.out.below hb4) hi4
      rw [← HN1.out] at h
      exact h.mono (fun e x h => ⟨h.1.trans (by simp), h.2⟩))
    rw [← HN1.out]
    clear c0 c1 c2 c3 hb4 hi4
    go_wp2_with fail
    refine HSI.out.mono ?_
    rintro e w5 ⟨rfl, hb5⟩
    have HB5 := Lib.hid (HB4.out.trans (hb5.mono HB4.out.size))
    clear hb5
    go_wp2_with fail
    refine (HCMP.out _ HB5.out).mono ?_
    rintro e w6 ⟨v6, L6, rfl, hp6, hm6, hrow6, hb6⟩
    have HB6 := Lib.hid (HB5.out.trans (hb6.mono HB5.out.size))
    have HROW := Lib.hid hrow6
    have HS6 := Lib.hid (show _ ∧ _ from ⟨hp6, hm6⟩)
    clear hp6 hm6 hrow6 hb6
    go_wp2_with fail
    refine (HRCM.out _ HB6.out).mono ?_
    rintro e w7 ⟨v7, rfl, hcp7, hb7⟩
    have HB7 := Lib.hid (HB6.out.trans (hb7.mono HB6.out.size))
    have HSM := Lib.hid (same_of HROW.out HS6.out.1 HS6.out.2 hb7 hcp7)
    clear hcp7 hb7
    go_wp2_with fail
    refine HSM.out.mono ?_
    rintro e w8 ⟨rfl, hb8⟩
    have HB8 := Lib.hid (HB7.out.trans (hb8.mono HB7.out.size))
    clear hb8
    go_wp2_with fail
    refine (HAWK.out _ HB8.out).mono ?_
    rintro e w9 ⟨rfl, hb9⟩
    have HB9 := Lib.hid (HWB.out.trans ((HB8.out.trans (hb9.mono HB8.out.size)).mono HWB.out.size))
    clear hb9
    go_wp2_with fail
    go_ret
    exact ⟨rfl, HB9.out⟩
  have HL0 := Lib.hid (show L = [] by rw [HL.out]; unfold cloL; rw [if_neg (by rw [← HEE.out]; exact hE0)])
  have HN0 := Lib.hid (show n1 = 0 by rw [HN1.out, HL0.out]; rfl)
  have hn0 := HN0.out
  subst hn0
  have HB4 := HB3
  have HSI := Lib.hid (show Calls Tryz.prog 29 #[.slice al 0 cl, .slice none 0 0] w3 (fun e x' => e = .returned (.bool true) ∧ Below w3.heap.size w3 x') from (sameI_any (fun _ => True) (fun _ => True) al none cl 0 [] [] w3 ⟨by simp, Or.inl rfl⟩ ⟨by simp, Or.inl rfl⟩).mono (fun e x h => ⟨h.1.trans (by simp), h.2⟩))
  clear c0 c1 c2 c3
  have hcs : E = 30 ∨ E = 1 := by
    rcases cloE_cases f t r with h | h | h
    · exact Or.inl (HEE.out.trans h)
    · exact Or.inr (HEE.out.trans h)
    · exact absurd (HEE.out.trans h) hE0
  clear hE0 HREF
  rcases hcs with hE1 | hE1
  · subst hE1
    go_wp2_with fail
    refine HSI.out.mono ?_
    rintro e w5 ⟨rfl, hb5⟩
    have HB5 := Lib.hid (HB4.out.trans (hb5.mono HB4.out.size))
    clear hb5
    go_wp2_with fail
    refine (HCMP.out _ HB5.out).mono ?_
    rintro e w6 ⟨v6, L6, rfl, hp6, hm6, hrow6, hb6⟩
    have HB6 := Lib.hid (HB5.out.trans (hb6.mono HB5.out.size))
    have HROW := Lib.hid hrow6
    have HS6 := Lib.hid (show _ ∧ _ from ⟨hp6, hm6⟩)
    clear hp6 hm6 hrow6 hb6
    go_wp2_with fail
    refine (HRCM.out _ HB6.out).mono ?_
    rintro e w7 ⟨v7, rfl, hcp7, hb7⟩
    have HB7 := Lib.hid (HB6.out.trans (hb7.mono HB6.out.size))
    have HSM := Lib.hid (same_of HROW.out HS6.out.1 HS6.out.2 hb7 hcp7)
    clear hcp7 hb7
    go_wp2_with fail
    refine HSM.out.mono ?_
    rintro e w8 ⟨rfl, hb8⟩
    have HB8 := Lib.hid (HB7.out.trans (hb8.mono HB7.out.size))
    clear hb8
    go_wp2_with fail
    refine (HAWK.out _ HB8.out).mono ?_
    rintro e w9 ⟨rfl, hb9⟩
    have HB9 := Lib.hid (HWB.out.trans ((HB8.out.trans (hb9.mono HB8.out.size)).mono HWB.out.size))
    clear hb9
    go_wp2_with fail
    go_ret
    exact ⟨rfl, HB9.out⟩
  · subst hE1
    go_wp2_with fail
    refine HSI.out.mono ?_
    rintro e w5 ⟨rfl, hb5⟩
    have HB5 := Lib.hid (HB4.out.trans (hb5.mono HB4.out.size))
    clear hb5
    go_wp2_with fail
    refine (HCMP.out _ HB5.out).mono ?_
    rintro e w6 ⟨v6, L6, rfl, hp6, hm6, hrow6, hb6⟩
    have HB6 := Lib.hid (HB5.out.trans (hb6.mono HB5.out.size))
    have HROW := Lib.hid hrow6
    have HS6 := Lib.hid (show _ ∧ _ from ⟨hp6, hm6⟩)
    clear hp6 hm6 hrow6 hb6
    go_wp2_with fail
    refine (HRCM.out _ HB6.out).mono ?_
    rintro e w7 ⟨v7, rfl, hcp7, hb7⟩
    have HB7 := Lib.hid (HB6.out.trans (hb7.mono HB6.out.size))
    have HSM := Lib.hid (same_of HROW.out HS6.out.1 HS6.out.2 hb7 hcp7)
    clear hcp7 hb7
    go_wp2_with fail
    refine HSM.out.mono ?_
    rintro e w8 ⟨rfl, hb8⟩
    have HB8 := Lib.hid (HB7.out.trans (hb8.mono HB7.out.size))
    clear hb8
    go_wp2_with fail
    refine (HAWK.out _ HB8.out).mono ?_
    rintro e w9 ⟨rfl, hb9⟩
    have HB9 := Lib.hid (HWB.out.trans ((HB8.out.trans (hb9.mono HB8.out.size)).mono HWB.out.size))
    clear hb9
    go_wp2_with fail
    go_ret
    exact ⟨rfl, HB9.out⟩
end Go.Proofs.YtfgpjfgejhahfaaGreatDoor
