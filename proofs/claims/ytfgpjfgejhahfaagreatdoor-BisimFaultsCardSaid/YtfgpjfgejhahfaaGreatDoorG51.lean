/- Proved here: contracts of the walk to BisimFaults: the law's own walk; each under the conditions that its own statement names. -/
import Derived.Test.YtfgpjfgejhahfaaGreatDoorG49
import Derived.Test.YtfgpjfgejhahfaaGreatDoorG50
set_option maxRecDepth 100000
set_option maxHeartbeats 12800000
namespace Go.Proofs.YtfgpjfgejhahfaaGreatDoor
open Go Go.RowKit
theorem Prs.any {S : Nat → Prop} {w : World} {a : Option Addr} {r : List (Int × Int)} (h : Prs S w a r) : Prs (fun _ => True) w a r := ⟨h.1, h.2.imp id (fun ⟨b, o, h1, _, h3⟩ => ⟨b, o, h1, trivial, h3⟩)⟩
theorem NewG.prs {ok : Prop} {w w' : World} {v : Value} {f : F} {t u : V} {r : List (Int × Int)} (h : NewG ok w v w' f t u r) (hr : r.length ≤ 1000000) :
    ∃ (L : List (Int × Int)) (a : Option Addr) (c : Nat), v = .slice a (List.length L) c ∧ Prs (fun _ => True) w' a L ∧ (¬ ok → L = []) ∧ (ok → GrtL f t u r L) := by
 obtain ⟨L, h1, h2, h3⟩ := h
 have hl : L.length ≤ 1000000 := by
  by_cases h0 : ok
  ·obtain ⟨M, rfl, _⟩ := h3 h0
   exact Nat.le_trans (keptL_len _ _ _) hr
  ·rw [h2 h0]; simp
 obtain ⟨a, c, rfl, _, hp⟩ := row_prs h1 hl
 exact ⟨L, a, c, rfl, hp.any, h2, h3⟩
theorem relE'_nil (f : F) (t : V) (g : F) (u : V) : relE' f t g u [] = bothE f t g u := by
 unfold relE'
 by_cases h : bothE f t g u = 0
 ·rw [if_pos h, h]; rfl
 ·rw [if_neg h]
theorem relE'_ways (f : F) (t : V) (g : F) (u : V) (r : List (Int × Int)) :
    (relE' f t g u r = 30 ∧ bothE f t g u = 30) ∨ (relE' f t g u r = 1 ∧ bothE f t g u = 1) ∨ (relE' f t g u r = 1 ∧ bothE f t g u = 0) ∨ (relE' f t g u r = 0 ∧ bothE f t g u = 0) := by
 unfold relE'
 rcases bothE_cases f t g u with h | h | h <;> rw [h]
 ·simp
 ·simp
 ·by_cases h2 : relFrom t.len u.len none r = true <;> simp [h2]
theorem faults_law (S S2 : Nat → Nat → Prop) (S' S2' S3 : Nat → Prop) (f g : F) (a na a2 na2 ar : Option Addr) (cap ncap cap2 ncap2 cr : Nat) (t u : V) (r : List (Int × Int)) (w : World) (hs : Sl S w a f.t) (hc : f.t.len ≤ cap) (hv : Vl S' w na t) (hs2 : Sl S2 w a2 g.t) (hc2 : g.t.len ≤ cap2) (hv2 : Vl S2' w na2 u) (hk : Kinds w) (hr : Prs S3 w ar r) :
    Calls Tryz.prog 4 #[Sv f a cap na t.len ncap, Sv g a2 cap2 na2 u.len ncap2, .slice ar r.length cr] w fun e w' => e = .returned (.bool true) ∧ Below w.heap.size w w' := by
 obtain ⟨W, hW⟩ : ∃ W : World, W = (w.alloc (Obj.cells #[.int .i64 f.k, .int .i64 f.n, .slice a f.t.len cap, .slice na t.len ncap] 42)).alloc (Obj.cells #[.int .i64 g.k, .int .i64 g.n, .slice a2 g.t.len cap2, .slice na2 u.len ncap2] 42) := ⟨_, rfl⟩
 have hWb : Below w.heap.size w W := by rw [hW]; exact ba2 _ _ _
 have k0 : W.heap[w.heap.size]? = some (Obj.cells #[.int .i64 f.k, .int .i64 f.n, .slice a f.t.len cap, .slice na t.len ncap] 42 (0, 0)) := by rw [hW]; exact heap_old2 _ _ _
 have k1 : W.heap[w.heap.size + 1]? = some (Obj.cells #[.int .i64 g.k, .int .i64 g.n, .slice a2 g.t.len cap2, .slice na2 u.len ncap2] 42 (0, 0)) := by rw [hW]; exact heap_new2 _ _ _
 have hWs : W.heap.size = w.heap.size + 1 + 1 := by rw [hW]; simp
 obtain ⟨bs, hbs⟩ : ∃ bs, bs = w.heap.size := ⟨_, rfl⟩
 rw [← hbs] at k0 k1 hWs
 have HE := Lib.hid (fun x (hx : Below W.heap.size W x) => And.intro (cells4 ((hx.block _ (heap_lt k0)).trans k0)) (cells4 ((hx.block _ (heap_lt k1)).trans k1)))
 have HWB := Lib.hid hWb
 obtain ⟨RB, hRB⟩ := relAny_ex (fun x y => decide (((x : Int), (y : Int)) ∈ r))
 have HFEW := Lib.hid (fun x (hx : Below W.heap.size W x) b ty hb => few2_any S S2 S' S2' f g a na a2 na2 cap ncap cap2 ncap2 b ty t u x ((hs.below hWb).below hx) ((hv.below hWb).below hx) ((hs2.below hWb).below hx) ((hv2.below hWb).below hx) hb)
 have HAWK := Lib.hid (fun x (hx : Below W.heap.size W x) => awake_any x ((hk.below hWb).below hx))
 have HISY := Lib.hid (fun (hN : r.length ≤ 1000000) x (hx : Below W.heap.size W x) => is_sys_any S S2 S' S2' S3 f g a na a2 na2 ar cap ncap cap2 ncap2 cr t u r x ((hs.below hWb).below hx) ((hv.below hWb).below hx) ((hs2.below hWb).below hx) ((hv2.below hWb).below hx) ((hk.below hWb).below hx) ((hr.below hWb).below hx) hN RB hRB)
 have HFLT := Lib.hid (fun (hN : r.length ≤ 1000000) x (hx : Below W.heap.size W x) => show Calls Tryz.prog 19 #[Sv f a cap na t.len ncap, Sv g a2 cap2 na2 u.len ncap2, .slice ar r.length cr] x (fun e w' => ∃ av cv, e = .returned (.tuple #[.slice av (fltL RB f t g u r).length cv, .int .i64 (relE' f t g u r)]) ∧ Prs (fun _ => True) w' av (fltL RB f t g u r) ∧ Below x.heap.size x w') from by
  refine (flt_any S S2 S' S2' S3 f g a na a2 na2 ar cap ncap cap2 ncap2 cr t u r x ((hs.below hWb).below hx) ((hv.below hWb).below hx) ((hs2.below hWb).below hx) ((hv2.below hWb).below hx) ((hk.below hWb).below hx) ((hr.below hWb).below hx) hN RB hRB).mono ?_
  rintro e w' ⟨v, rfl, hown, hb⟩
  obtain ⟨av, cv, rfl, _, hp⟩ := row_prs hown (by unfold fltL; split; exact Nat.le_trans (keptL_len _ _ _) hN; simp)
  exact ⟨av, cv, rfl, hp.any, hb⟩)
 have HWIT := Lib.hid (fun (hN : r.length ≤ 10000) x (hx : Below W.heap.size W x) => show Calls Tryz.prog 20 #[Sv f a cap na t.len ncap, Sv g a2 cap2 na2 u.len ncap2, .slice ar r.length cr] x (fun e w' => ∃ L av cv, e = .returned (.tuple #[.slice av (List.length L) cv, .int .i64 (relE' f t g u r)]) ∧ Prs (fun _ => True) w' av L ∧ (¬ relE' f t g u r = 0 → L = []) ∧ (relE' f t g u r = 0 → GrtL f t u r L) ∧ Below x.heap.size x w') from by
  refine (within_anyT S S2 S' S2' S3 f g a na a2 na2 ar cap ncap cap2 ncap2 cr t u r x ((hs.below hWb).below hx) ((hv.below hWb).below hx) ((hs2.below hWb).below hx) ((hv2.below hWb).below hx) ((hk.below hWb).below hx) ((hr.below hWb).below hx) hN).mono ?_
  rintro e w' ⟨v, rfl, hG, hb⟩
  obtain ⟨L, av, cv, rfl, h1, h2, h3⟩ := hG.prs (by omega)
  exact ⟨L, av, cv, rfl, h1, h2, h3, hb⟩)
 have HLRG := Lib.hid (fun (hn8 : t.len ≤ 8 ∧ u.len ≤ 8) x (hx : Below W.heap.size W x) => show Calls Tryz.prog 21 #[Sv f a cap na t.len ncap, Sv g a2 cap2 na2 u.len ncap2] x (fun e w' => ∃ L av cv, e = .returned (.tuple #[.slice av (List.length L) cv, .int .i64 (bothE f t g u)]) ∧ Prs (fun _ => True) w' av L ∧ (¬ bothE f t g u = 0 → L = []) ∧ (bothE f t g u = 0 → GrtL f t u (allL u.len t.len) L) ∧ Below x.heap.size x w') from by
  refine (largest_anyT S S2 S' S2' f g a na a2 na2 cap ncap cap2 ncap2 t u x ((hs.below hWb).below hx) ((hv.below hWb).below hx) ((hs2.below hWb).below hx) ((hv2.below hWb).below hx) ((hk.below hWb).below hx)).mono ?_
  rintro e w' ⟨v, rfl, hG, hb⟩
  have hm : t.len * u.len ≤ 8 * 8 := Nat.mul_le_mul hn8.1 hn8.2
  obtain ⟨L, av, cv, rfl, h1, h2, h3⟩ := hG.prs (by rw [allL_len]; omega)
  exact ⟨L, av, cv, rfl, h1, h2, h3, hb⟩)
 have HFA := Lib.hid (fun x (hx : Below W.heap.size W x) => fault2_any S S2 S' S2' S3 f g a na a2 na2 ar cap ncap cap2 ncap2 cr t u r x ((hs.below hWb).below hx) hc ((hv.below hWb).below hx) ((hs2.below hWb).below hx) hc2 ((hv2.below hWb).below hx) ((hr.below hWb).below hx))
 have HFN := Lib.hid (fun x (hx : Below W.heap.size W x) => show Calls Tryz.prog 22 #[.slice none 0 0, Sv f a cap na t.len ncap, Sv g a2 cap2 na2 u.len ncap2] x (fun e w' => e = .returned (.int .i64 (bothE f t g u)) ∧ Below x.heap.size x w') from by
  have h := fault2_any S S2 S' S2' (fun _ => True) f g a na a2 na2 none cap ncap cap2 ncap2 0 t u [] x ((hs.below hWb).below hx) hc ((hv.below hWb).below hx) ((hs2.below hWb).below hx) hc2 ((hv2.below hWb).below hx) ⟨by simp, Or.inl rfl⟩
  rw [relE'_nil] at h
  exact h)
 have HRF := Lib.hid (fun (h0 : relE' f t g u r = 0) (hN : r.length ≤ 10000) x (hx : Below W.heap.size W x) => show Calls Tryz.prog 23 #[Sv f a cap na t.len ncap, Sv g a2 cap2 na2 u.len ncap2, .slice ar r.length cr] x (fun e w' => ∃ av cv, e = .returned (.slice av (fltL RB f t g u r).length cv) ∧ Prs (fun _ => True) w' av (fltL RB f t g u r) ∧ Below x.heap.size x w') from by
  have hok := relE'_ok h0
  have hL : fltL RB f t g u r = keptL r (relAt RB f t u r) r.length := if_pos h0
  obtain ⟨hy1, hy2, rfl⟩ := both_ok hok.1
  rw [hL]
  refine (rfaults_any S S' S2' S3 f a na a2 na2 ar cap ncap cap2 ncap2 cr t u r x ((hs.below hWb).below hx) hc ((hv.below hWb).below hx) ((hv2.below hWb).below hx) ((hr.below hWb).below hx) hN hy1 hy2 (relFrom_in hok.2) RB hRB).mono ?_
  rintro e w' ⟨v, rfl, hown, hb⟩
  obtain ⟨av, cv, rfl, _, hp⟩ := row_prs hown (Nat.le_trans (keptL_len _ _ _) (by omega))
  exact ⟨av, cv, rfl, hp.any, hb⟩)
 have HRW := Lib.hid (fun (h0 : relE' f t g u r = 0) (hN : r.length ≤ 10000) x (hx : Below W.heap.size W x) => show Calls Tryz.prog 24 #[Sv f a cap na t.len ncap, Sv g a2 cap2 na2 u.len ncap2, .slice ar r.length cr] x (fun e w' => ∃ L av cv, e = .returned (.slice av (List.length L) cv) ∧ Prs (fun _ => True) w' av L ∧ GrtL f t u r L ∧ Below x.heap.size x w') from by
  have hok := relE'_ok h0
  obtain ⟨hy1, hy2, rfl⟩ := both_ok hok.1
  refine (rwithin_any S S' S2' S3 f a na a2 na2 ar cap ncap cap2 ncap2 cr t u r x ((hs.below hWb).below hx) hc ((hv.below hWb).below hx) ((hv2.below hWb).below hx) ((hr.below hWb).below hx) hN hy1 hy2 (relFrom_in hok.2)).mono ?_
  rintro e w' ⟨av, cv, L, rfl, hp, hG, hb⟩
  exact ⟨L, av, cv, rfl, hp, hG, hb⟩)
 have HRA := Lib.hid (fun (hn8 : t.len ≤ 8 ∧ u.len ≤ 8) x (hx : Below W.heap.size W x) => show Calls Tryz.prog 25 #[Sv f a cap na t.len ncap, Sv g a2 cap2 na2 u.len ncap2] x (fun e w' => ∃ av cv, e = .returned (.slice av (allL u.len t.len).length cv) ∧ Prs (fun _ => True) w' av (allL u.len t.len) ∧ Below x.heap.size x w') from by
  refine (rall_any S' S2' f g a na a2 na2 cap ncap cap2 ncap2 t u x ((hv.below hWb).below hx) ((hv2.below hWb).below hx) (by omega) (by omega)).mono ?_
  rintro e w' ⟨v, rfl, hown, hb⟩
  have hm : t.len * u.len ≤ 8 * 8 := Nat.mul_le_mul hn8.1 hn8.2
  obtain ⟨av, cv, rfl, _, hp⟩ := row_prs hown (by rw [allL_len]; omega)
  exact ⟨av, cv, rfl, hp.any, hb⟩)
 have HRG := Lib.hid (fun (h0 : bothE f t g u = 0) (hn8 : t.len ≤ 8 ∧ u.len ≤ 8) x (hx : Below W.heap.size W x) al cl (hp : Prs (fun _ => True) x al (allL u.len t.len)) => show Calls Tryz.prog 24 #[Sv f a cap na t.len ncap, Sv g a2 cap2 na2 u.len ncap2, .slice al (allL u.len t.len).length cl] x (fun e w' => ∃ L av cv, e = .returned (.slice av (List.length L) cv) ∧ Prs (fun _ => True) w' av L ∧ GrtL f t u (allL u.len t.len) L ∧ Below x.heap.size x w') from by
  obtain ⟨hy1, hy2, rfl⟩ := both_ok h0
  have hm : t.len * u.len ≤ 8 * 8 := Nat.mul_le_mul hn8.1 hn8.2
  refine (rwithin_any S S' S2' (fun _ => True) f a na a2 na2 al cap ncap cap2 ncap2 cl t u (allL u.len t.len) x ((hs.below hWb).below hx) hc ((hv.below hWb).below hx) ((hv2.below hWb).below hx) hp (by rw [allL_len]; omega) hy1 hy2 (fun z hz => by obtain ⟨i, j, h1, h2, rfl⟩ := mem_allL.1 hz; simp only; omega)).mono ?_
  rintro e w' ⟨av, cv, L, rfl, hp, hG, hb⟩
  exact ⟨L, av, cv, rfl, hp, hG, hb⟩)
 have hl1 := hv.1
 have hl2 := hv2.1
 have hlr := hr.1
 obtain ⟨q0, hq0⟩ : ∃ q0 : Bool, q0 = ((sFew f t 200 && decide (t.len ≤ 8)) && (sFew g u 200 && decide (u.len ≤ 8))) := ⟨_, rfl⟩
 rw [← hq0] at HFEW
 have HQ0 := Lib.hid (fun (h : q0 = true) => show t.len ≤ 8 ∧ u.len ≤ 8 by rw [hq0] at h; simp only [Bool.and_eq_true, decide_eq_true_eq] at h; exact ⟨h.1.2, h.2.2⟩)
 have HWAYS := Lib.hid (relE'_ways f t g u r)
 have HLF := Lib.hid (show ¬ relE' f t g u r = 0 → fltL RB f t g u r = [] from fun h => if_neg h)
 obtain ⟨E, hE⟩ : ∃ E, E = relE' f t g u r := ⟨_, rfl⟩
 obtain ⟨D, hD⟩ : ∃ D, D = bothE f t g u := ⟨_, rfl⟩
 obtain ⟨LF, hLF⟩ : ∃ LF, LF = fltL RB f t g u r := ⟨_, rfl⟩
 obtain ⟨LA, hLA⟩ : ∃ LA, LA = allL u.len t.len := ⟨_, rfl⟩
 rw [← hE, ← hD] at HWAYS
 rw [← hE, ← hLF] at HISY HFLT HRF HLF
 rw [← hE] at HWIT HFA HRW
 rw [← hD] at HLRG HFN HRG
 rw [← hLA] at HLRG HRA HRG
 obtain ⟨nl, hnl⟩ : ∃ nl, nl = LF.length := ⟨_, rfl⟩
 rw [← hnl] at HISY HFLT HRF
 have HNL := Lib.hid hnl
 obtain ⟨B, hB⟩ : ∃ B : Bool, B = (decide (E = 0) && decide (nl = 0)) := ⟨_, rfl⟩
 rw [← hB] at HISY
 have HBB := Lib.hid hB
 obtain ⟨N, hN⟩ : ∃ N, N = r.length := ⟨_, rfl⟩
 rw [← hN] at HISY HFLT HWIT HFA HRF HRW hlr ⊢
 clear hs hv hs2 hv2 hk hr k0 k1 hWb hq0 hRB hE hD hLF hLA hB hN hc hc2 hnl
 obtain ⟨⟨c0, c1, c2, c3⟩, d0, d1, d2, d3⟩ := HE.out _ (Below.refl _ _)
 go_enter Tryz.func4, Tryz.ntmps4
 go_wp2_with fail
 rw [← hW, ← hbs]
 clear hW hbs
 have hnew : (W.alloc (Obj.cells #[.int .i64 f.k, .int .i64 f.n, .slice a f.t.len cap, .slice na t.len ncap, .int .i64 g.k, .int .i64 g.n, .slice a2 g.t.len cap2, .slice na2 u.len ncap2] 42)).heap[bs + 1 + 1]? = some (Obj.cells #[.int .i64 f.k, .int .i64 f.n, .slice a f.t.len cap, .slice na t.len ncap, .int .i64 g.k, .int .i64 g.n, .slice a2 g.t.len cap2, .slice na2 u.len ncap2] 42 (0, 0)) := by rw [← hWs]; exact heap_new _ _
 refine (HFEW.out _ (ba _ _) _ _ hnew).mono ?_
 rintro e w1 ⟨rfl, hb1⟩
 have HB1 := Lib.hid ((ba _ _).trans (hb1.mono (by simp)) : Below W.heap.size W w1)
 clear c0 c1 c2 c3 d0 d1 d2 d3 hb1 hnew HFEW hWs
 cases hq0 : q0 with
 | false =>
  subst hq0
  clear HQ0
  go_wp2_with fail
  refine (HAWK.out _ HB1.out).mono ?_
  rintro e wz ⟨rfl, hbz⟩
  have HBZ := Lib.hid (HWB.out.trans ((HB1.out.trans (hbz.mono HB1.out.size)).mono HWB.out.size))
  clear hbz
  go_wp2_with fail
  go_ret
  exact ⟨rfl, HBZ.out⟩
 | true =>
 have hn8 := HQ0.out hq0
 have HN8 := Lib.hid hn8
 subst hq0
 clear hn8 HQ0
 by_cases hN3 : 300 < N
 ·have hi3 : (300 : Int) < (N : Int) := by omega
  have hid : decide ((300 : Int) < (N : Int)) = true := decide_eq_true hi3
  clear hN3
  go_wp2_with fail
  refine (HAWK.out _ HB1.out).mono ?_
  rintro e wz ⟨rfl, hbz⟩
  have HBZ := Lib.hid (HWB.out.trans ((HB1.out.trans (hbz.mono HB1.out.size)).mono HWB.out.size))
  clear hbz
  go_wp2_with fail
  go_ret
  exact ⟨rfl, HBZ.out⟩
 have hiN : ¬ (300 : Int) < (N : Int) := by omega
 have hidN : decide ((300 : Int) < (N : Int)) = false := decide_eq_false hiN
 obtain ⟨⟨c0, c1, c2, c3⟩, d0, d1, d2, d3⟩ := HE.out _ HB1.out
 clear hN3
 go_wp2_with fail
 refine (HISY.out (by omega) _ HB1.out).mono ?_
 rintro e w2 ⟨rfl, hb2⟩
 have HB2 := Lib.hid (HB1.out.trans (hb2.mono HB1.out.size))
 clear c0 c1 c2 c3 d0 d1 d2 d3 hb2
 obtain ⟨⟨c0, c1, c2, c3⟩, d0, d1, d2, d3⟩ := HE.out _ HB2.out
 go_wp2_with fail
 refine (HFLT.out (by omega) _ HB2.out).mono ?_
 rintro e w3 ⟨af, cf, rfl, hp, hb3⟩
 have HPF3 := Lib.hid hp
 have HB3 := Lib.hid (HB2.out.trans (hb3.mono HB2.out.size))
 clear c0 c1 c2 c3 d0 d1 d2 d3 hp hb3
 obtain ⟨⟨c0, c1, c2, c3⟩, d0, d1, d2, d3⟩ := HE.out _ HB3.out
 go_wp2_with fail
 refine (HWIT.out (by omega) _ HB3.out).mono ?_
 rintro e w4 ⟨LW, aw, cw, rfl, hp, hz, hg, hb4⟩
 have HPW4 := Lib.hid hp
 have HLW := Lib.hid hz
 have HGW := Lib.hid hg
 have HPF4 := Lib.hid (HPF3.out.below hb4)
 have HB4 := Lib.hid (HB3.out.trans (hb4.mono HB3.out.size))
 clear c0 c1 c2 c3 d0 d1 d2 d3 hp hz hg hb4
 obtain ⟨⟨c0, c1, c2, c3⟩, d0, d1, d2, d3⟩ := HE.out _ HB4.out
 go_wp2_with fail
 refine (HLRG.out HN8.out _ HB4.out).mono ?_
 rintro e w5 ⟨LG, ag, cg, rfl, hp, hz, hg, hb5⟩
 have HPG5 := Lib.hid hp
 have HLG := Lib.hid hz
 have HGG := Lib.hid hg
 have HPF5 := Lib.hid (HPF4.out.below hb5)
 have HPW5 := Lib.hid (HPW4.out.below hb5)
 have HB5 := Lib.hid (HB4.out.trans (hb5.mono HB4.out.size))
 clear c0 c1 c2 c3 d0 d1 d2 d3 hp hz hg hb5
 obtain ⟨⟨c0, c1, c2, c3⟩, d0, d1, d2, d3⟩ := HE.out _ HB5.out
 go_wp2_with fail
 refine (HFA.out _ HB5.out).mono ?_
 rintro e w6 ⟨rfl, hb6⟩
 have HPF6 := Lib.hid (HPF5.out.below hb6)
 have HPW6 := Lib.hid (HPW5.out.below hb6)
 have HPG6 := Lib.hid (HPG5.out.below hb6)
 have HB6 := Lib.hid (HB5.out.trans (hb6.mono HB5.out.size))
 clear c0 c1 c2 c3 d0 d1 d2 d3 hb6
 obtain ⟨⟨c0, c1, c2, c3⟩, d0, d1, d2, d3⟩ := HE.out _ HB6.out
 rcases HWAYS.out with ⟨rfl, rfl⟩ | ⟨rfl, rfl⟩ | ⟨rfl, rfl⟩ | ⟨rfl, rfl⟩
 ·clear HISY HFLT HWIT HLRG HFA
  clear HRF HRW
  clear HRG HRA
  obtain rfl : B = false := by rw [HBB.out]; rfl
  have HLF0 := Lib.hid (HLF.out (by decide))
  have HLW0 := Lib.hid (HLW.out (by decide))
  have HLG0 := Lib.hid (HLG.out (by decide))
  clear HLF HLW HGW HLG HGG
  go_wp2_with fail
  refine (HFN.out _ HB6.out).mono ?_
  rintro e w7 ⟨rfl, hb7⟩
  have HPF7 := Lib.hid (HPF6.out.below hb7)
  have HPW7 := Lib.hid (HPW6.out.below hb7)
  have HPG7 := Lib.hid (HPG6.out.below hb7)
  have HB7 := Lib.hid (HB6.out.trans (hb7.mono HB6.out.size))
  clear hb7 c0 c1 c2 c3 d0 d1 d2 d3
  obtain ⟨⟨c0, c1, c2, c3⟩, d0, d1, d2, d3⟩ := HE.out _ HB7.out
  have HSM0 := Lib.hid (show Calls Tryz.prog 26 #[.slice af nl cf, .slice none 0 0] w7 (fun e w' => e = .returned (.bool true) ∧ Below w7.heap.size w7 w') from by
   have h := sameP_any (fun _ => True) (fun _ => True) af none cf 0 LF [] w7 HPF7.out ⟨by simp, Or.inl rfl⟩
   rw [← HNL.out] at h; exact h.mono (fun e x h => ⟨h.1.trans (by rw [HLF0.out]; simp), h.2⟩))
  go_wp2_with fail
  refine HSM0.out.mono ?_
  rintro e w8 ⟨rfl, hb⟩
  have HPF8 := Lib.hid (HPF7.out.below hb)
  have HPW8 := Lib.hid (HPW7.out.below hb)
  have HPG8 := Lib.hid (HPG7.out.below hb)
  have HB8 := Lib.hid (HB7.out.trans (hb.mono HB7.out.size))
  clear hb
  have HSM1 := Lib.hid (show Calls Tryz.prog 26 #[.slice aw (List.length LW) cw, .slice none 0 0] w8 (fun e w' => e = .returned (.bool true) ∧ Below w8.heap.size w8 w') from by
   have h := sameP_any (fun _ => True) (fun _ => True) aw none cw 0 LW [] w8 HPW8.out ⟨by simp, Or.inl rfl⟩
   exact h.mono (fun e x h => ⟨h.1.trans (by rw [HLW0.out]; simp), h.2⟩))
  go_wp2_with fail
  refine HSM1.out.mono ?_
  rintro e w9 ⟨rfl, hb⟩
  have HPF9 := Lib.hid (HPF8.out.below hb)
  have HPW9 := Lib.hid (HPW8.out.below hb)
  have HPG9 := Lib.hid (HPG8.out.below hb)
  have HB9 := Lib.hid (HB8.out.trans (hb.mono HB8.out.size))
  clear hb
  have HSM2 := Lib.hid (show Calls Tryz.prog 26 #[.slice ag (List.length LG) cg, .slice none 0 0] w9 (fun e w' => e = .returned (.bool true) ∧ Below w9.heap.size w9 w') from by
   have h := sameP_any (fun _ => True) (fun _ => True) ag none cg 0 LG [] w9 HPG9.out ⟨by simp, Or.inl rfl⟩
   exact h.mono (fun e x h => ⟨h.1.trans (by rw [HLG0.out]; simp), h.2⟩))
  go_wp2_with fail
  refine HSM2.out.mono ?_
  rintro e w10 ⟨rfl, hb⟩
  have HPF10 := Lib.hid (HPF9.out.below hb)
  have HPW10 := Lib.hid (HPW9.out.below hb)
  have HPG10 := Lib.hid (HPG9.out.below hb)
  have HB10 := Lib.hid (HB9.out.trans (hb.mono HB9.out.size))
  clear hb
  go_wp2_with fail
  refine (HAWK.out _ HB10.out).mono ?_
  rintro e wz ⟨rfl, hbz⟩
  have HBZ := Lib.hid (HWB.out.trans ((HB10.out.trans (hbz.mono HB10.out.size)).mono HWB.out.size))
  clear hbz
  go_wp2_with fail
  go_ret
  exact ⟨rfl, HBZ.out⟩
 ·clear HISY HFLT HWIT HLRG HFA
  clear HRF HRW
  clear HRG HRA
  obtain rfl : B = false := by rw [HBB.out]; rfl
  have HLF0 := Lib.hid (HLF.out (by decide))
  have HLW0 := Lib.hid (HLW.out (by decide))
  have HLG0 := Lib.hid (HLG.out (by decide))
  clear HLF HLW HGW HLG HGG
  go_wp2_with fail
  refine (HFN.out _ HB6.out).mono ?_
  rintro e w7 ⟨rfl, hb7⟩
  have HPF7 := Lib.hid (HPF6.out.below hb7)
  have HPW7 := Lib.hid (HPW6.out.below hb7)
  have HPG7 := Lib.hid (HPG6.out.below hb7)
  have HB7 := Lib.hid (HB6.out.trans (hb7.mono HB6.out.size))
  clear hb7 c0 c1 c2 c3 d0 d1 d2 d3
  obtain ⟨⟨c0, c1, c2, c3⟩, d0, d1, d2, d3⟩ := HE.out _ HB7.out
  have HSM0 := Lib.hid (show Calls Tryz.prog 26 #[.slice af nl cf, .slice none 0 0] w7 (fun e w' => e = .returned (.bool true) ∧ Below w7.heap.size w7 w') from by
   have h := sameP_any (fun _ => True) (fun _ => True) af none cf 0 LF [] w7 HPF7.out ⟨by simp, Or.inl rfl⟩
   rw [← HNL.out] at h; exact h.mono (fun e x h => ⟨h.1.trans (by rw [HLF0.out]; simp), h.2⟩))
  go_wp2_with fail
  refine HSM0.out.mono ?_
  rintro e w8 ⟨rfl, hb⟩
  have HPF8 := Lib.hid (HPF7.out.below hb)
  have HPW8 := Lib.hid (HPW7.out.below hb)
  have HPG8 := Lib.hid (HPG7.out.below hb)
  have HB8 := Lib.hid (HB7.out.trans (hb.mono HB7.out.size))
  clear hb
  have HSM1 := Lib.hid (show Calls Tryz.prog 26 #[.slice aw (List.length LW) cw, .slice none 0 0] w8 (fun e w' => e = .returned (.bool true) ∧ Below w8.heap.size w8 w') from by
   have h := sameP_any (fun _ => True) (fun _ => True) aw none cw 0 LW [] w8 HPW8.out ⟨by simp, Or.inl rfl⟩
   exact h.mono (fun e x h => ⟨h.1.trans (by rw [HLW0.out]; simp), h.2⟩))
  go_wp2_with fail
  refine HSM1.out.mono ?_
  rintro e w9 ⟨rfl, hb⟩
  have HPF9 := Lib.hid (HPF8.out.below hb)
  have HPW9 := Lib.hid (HPW8.out.below hb)
  have HPG9 := Lib.hid (HPG8.out.below hb)
  have HB9 := Lib.hid (HB8.out.trans (hb.mono HB8.out.size))
  clear hb
  have HSM2 := Lib.hid (show Calls Tryz.prog 26 #[.slice ag (List.length LG) cg, .slice none 0 0] w9 (fun e w' => e = .returned (.bool true) ∧ Below w9.heap.size w9 w') from by
   have h := sameP_any (fun _ => True) (fun _ => True) ag none cg 0 LG [] w9 HPG9.out ⟨by simp, Or.inl rfl⟩
   exact h.mono (fun e x h => ⟨h.1.trans (by rw [HLG0.out]; simp), h.2⟩))
  go_wp2_with fail
  refine HSM2.out.mono ?_
  rintro e w10 ⟨rfl, hb⟩
  have HPF10 := Lib.hid (HPF9.out.below hb)
  have HPW10 := Lib.hid (HPW9.out.below hb)
  have HPG10 := Lib.hid (HPG9.out.below hb)
  have HB10 := Lib.hid (HB9.out.trans (hb.mono HB9.out.size))
  clear hb
  go_wp2_with fail
  refine (HAWK.out _ HB10.out).mono ?_
  rintro e wz ⟨rfl, hbz⟩
  have HBZ := Lib.hid (HWB.out.trans ((HB10.out.trans (hbz.mono HB10.out.size)).mono HWB.out.size))
  clear hbz
  go_wp2_with fail
  go_ret
  exact ⟨rfl, HBZ.out⟩
 ·clear HISY HFLT HWIT HLRG HFA
  clear HRF HRW
  obtain rfl : B = false := by rw [HBB.out]; rfl
  have HLF0 := Lib.hid (HLF.out (by decide))
  have HLW0 := Lib.hid (HLW.out (by decide))
  have HGG0 := Lib.hid (HGG.out rfl)
  clear HLF HLW HGW HLG HGG
  go_wp2_with fail
  refine (HFN.out _ HB6.out).mono ?_
  rintro e w7 ⟨rfl, hb7⟩
  have HPF7 := Lib.hid (HPF6.out.below hb7)
  have HPW7 := Lib.hid (HPW6.out.below hb7)
  have HPG7 := Lib.hid (HPG6.out.below hb7)
  have HB7 := Lib.hid (HB6.out.trans (hb7.mono HB6.out.size))
  clear hb7 c0 c1 c2 c3 d0 d1 d2 d3
  obtain ⟨⟨c0, c1, c2, c3⟩, d0, d1, d2, d3⟩ := HE.out _ HB7.out
  go_wp2_with fail
  refine wp_region_tail (by rfl) (fun x => Below W.heap.size W x) [4, 5, 6] [some (Sv f a cap na t.len ncap), some (Sv g a2 cap2 na2 u.len ncap2), some (Sv f a cap na t.len ncap), some (Sv g a2 cap2 na2 u.len ncap2), none, none, none] ?aF21 ?haF21 _ rfl (by kernel_rfl) ?tops21 ?htops21 HB7.out.drew ?hall21 ?hend21
  case haF21 => (simp only [layAll, Act.put, Option.getD_some, Option.getD_none, List.setIfInBounds_toArray, List.set_cons_zero, List.set_cons_succ]; rfl)
  case htops21 => rfl
  case hall21 =>
   repeat (first | (refine HSteps.skip (by rfl) ?_) | (refine HSteps.read (by rfl) (fun K x hS hK => ?_) ?_; rotate_left))
   ·exact HSteps.nil
   all_goals
    clear c0 c1 c2 c3 d0 d1 d2 d3
    obtain ⟨⟨c0, c1, c2, e3⟩, d0, d1, d2, d3⟩ := HE.out x hS
    (go_simp; exact hK)
  clear c0 c1 c2 c3 d0 d1 d2 d3
  refine ⟨HB7.out.drew, ?_⟩
  go_simp
  refine callAt (args' := #[Sv f a cap na t.len ncap, Sv g a2 cap2 na2 u.len ncap2]) rfl ?_
  refine (HRA.out HN8.out _ HB7.out.drew).mono ?_
  rintro e w8 ⟨a5, c5, rfl, hp, hb⟩
  have HB8 := Lib.hid (HB7.out.drew.trans (hb.mono HB7.out.drew.size))
  have HP5 := Lib.hid hp
  have HPF8 := Lib.hid ((show Prs (fun _ => True) w7.drew _ _ from HPF7.out).below hb)
  have HPW8 := Lib.hid ((show Prs (fun _ => True) w7.drew _ _ from HPW7.out).below hb)
  have HPG8 := Lib.hid ((show Prs (fun _ => True) w7.drew _ _ from HPG7.out).below hb)
  clear hp hb
  refine ⟨HB8.out, ?_⟩
  go_simp
  refine callAt (args' := #[Sv f a cap na t.len ncap, Sv g a2 cap2 na2 u.len ncap2, .slice a5 (List.length LA) c5]) rfl ?_
  refine (HRG.out (by first | trivial | rfl) HN8.out _ HB8.out a5 c5 HP5.out).mono ?_
  rintro e w9 ⟨L6, a6, c6, rfl, hp, hg, hb⟩
  have HB9 := Lib.hid (HB8.out.trans (hb.mono HB8.out.size))
  have HP69 := Lib.hid hp
  have HG6 := Lib.hid hg
  have HPF9 := Lib.hid (HPF8.out.below hb)
  have HPW9 := Lib.hid (HPW8.out.below hb)
  have HPG9 := Lib.hid (HPG8.out.below hb)
  clear hp hg hb
  refine ⟨HB9.out, ?_⟩
  go_simp
  simp only [wpTail]
  apply_assumption
  have HSM0 := Lib.hid (show Calls Tryz.prog 26 #[.slice af nl cf, .slice none 0 0] w9 (fun e w' => e = .returned (.bool true) ∧ Below w9.heap.size w9 w') from by
   have h := sameP_any (fun _ => True) (fun _ => True) af none cf 0 LF [] w9 HPF9.out ⟨by simp, Or.inl rfl⟩
   rw [← HNL.out] at h; exact h.mono (fun e x h => ⟨h.1.trans (by rw [HLF0.out]; simp), h.2⟩))
  go_wp2_with fail
  refine HSM0.out.mono ?_
  rintro e w10 ⟨rfl, hb⟩
  have HPF10 := Lib.hid (HPF9.out.below hb)
  have HPW10 := Lib.hid (HPW9.out.below hb)
  have HPG10 := Lib.hid (HPG9.out.below hb)
  have HP610 := Lib.hid (HP69.out.below hb)
  have HB10 := Lib.hid (HB9.out.trans (hb.mono HB9.out.size))
  clear hb
  have HSM1 := Lib.hid (show Calls Tryz.prog 26 #[.slice aw (List.length LW) cw, .slice none 0 0] w10 (fun e w' => e = .returned (.bool true) ∧ Below w10.heap.size w10 w') from by
   have h := sameP_any (fun _ => True) (fun _ => True) aw none cw 0 LW [] w10 HPW10.out ⟨by simp, Or.inl rfl⟩
   exact h.mono (fun e x h => ⟨h.1.trans (by rw [HLW0.out]; simp), h.2⟩))
  go_wp2_with fail
  refine HSM1.out.mono ?_
  rintro e w11 ⟨rfl, hb⟩
  have HPF11 := Lib.hid (HPF10.out.below hb)
  have HPW11 := Lib.hid (HPW10.out.below hb)
  have HPG11 := Lib.hid (HPG10.out.below hb)
  have HP611 := Lib.hid (HP610.out.below hb)
  have HB11 := Lib.hid (HB10.out.trans (hb.mono HB10.out.size))
  clear hb
  have HSM2 := Lib.hid (show Calls Tryz.prog 26 #[.slice ag (List.length LG) cg, .slice a6 (List.length L6) c6] w11 (fun e w' => e = .returned (.bool true) ∧ Below w11.heap.size w11 w') from by
   have h := sameP_any (fun _ => True) (fun _ => True) ag a6 cg c6 LG L6 w11 HPG11.out HP611.out
   exact h.mono (fun e x h => ⟨h.1.trans (by rw [HGG0.out.uniq HG6.out]; simp), h.2⟩))
  go_wp2_with fail
  refine HSM2.out.mono ?_
  rintro e w12 ⟨rfl, hb⟩
  have HPF12 := Lib.hid (HPF11.out.below hb)
  have HPW12 := Lib.hid (HPW11.out.below hb)
  have HPG12 := Lib.hid (HPG11.out.below hb)
  have HP612 := Lib.hid (HP611.out.below hb)
  have HB12 := Lib.hid (HB11.out.trans (hb.mono HB11.out.size))
  clear hb
  go_wp2_with fail
  refine (HAWK.out _ HB12.out).mono ?_
  rintro e wz ⟨rfl, hbz⟩
  have HBZ := Lib.hid (HWB.out.trans ((HB12.out.trans (hbz.mono HB12.out.size)).mono HWB.out.size))
  clear hbz
  go_wp2_with fail
  go_ret
  exact ⟨rfl, HBZ.out⟩
 ·clear HISY HFLT HWIT HLRG HFA
  obtain rfl : B = decide (nl = 0) := by rw [HBB.out]; simp
  have HGW0 := Lib.hid (HGW.out rfl)
  have HGG0 := Lib.hid (HGG.out rfl)
  clear HLF HLW HGW HLG HGG
  go_wp2_with fail
  refine (HFN.out _ HB6.out).mono ?_
  rintro e w7 ⟨rfl, hb7⟩
  have HPF7 := Lib.hid (HPF6.out.below hb7)
  have HPW7 := Lib.hid (HPW6.out.below hb7)
  have HPG7 := Lib.hid (HPG6.out.below hb7)
  have HB7 := Lib.hid (HB6.out.trans (hb7.mono HB6.out.size))
  clear hb7 c0 c1 c2 c3 d0 d1 d2 d3
  obtain ⟨⟨c0, c1, c2, c3⟩, d0, d1, d2, d3⟩ := HE.out _ HB7.out
  go_wp2_with fail
  refine wp_region_tail (by rfl) (fun x => Below W.heap.size W x) [3, 7, 8, 9] [some (Sv f a cap na t.len ncap), some (Sv g a2 cap2 na2 u.len ncap2), some (.slice ar N cr), none, some (Sv f a cap na t.len ncap), some (Sv g a2 cap2 na2 u.len ncap2), some (.slice ar N cr), none, none, none] ?aF ?haF _ rfl (by kernel_rfl) ?tops ?htops HB7.out.drew ?hall ?hend
  case haF => (simp only [layAll, Act.put, Option.getD_some, Option.getD_none, List.setIfInBounds_toArray, List.set_cons_zero, List.set_cons_succ]; rfl)
  case htops => rfl
  case hall =>
   repeat (first | (refine HSteps.skip (by rfl) ?_) | (refine HSteps.read (by rfl) (fun K x hS hK => ?_) ?_; rotate_left))
   ·exact HSteps.nil
   all_goals
    clear c0 c1 c2 c3 d0 d1 d2 d3
    obtain ⟨⟨c0, c1, c2, c3⟩, d0, d1, d2, d3⟩ := HE.out x hS
    (go_simp; exact hK)
  clear c0 c1 c2 c3 d0 d1 d2 d3
  refine ⟨HB7.out.drew, ?_⟩
  go_simp
  refine callAt (args' := #[Sv f a cap na t.len ncap, Sv g a2 cap2 na2 u.len ncap2, .slice ar N cr]) rfl ?_
  refine (HRF.out (by first | trivial | rfl) (by omega) _ HB7.out.drew).mono ?_
  rintro e w8 ⟨a3, c3, rfl, hp, hb8⟩
  have hdr : Below w7.drew.heap.size w7.drew w8 := hb8
  have HB8 := Lib.hid (HB7.out.drew.trans (hb8.mono HB7.out.drew.size))
  have HP38 := Lib.hid hp
  have HPF8 := Lib.hid ((show Prs (fun _ => True) w7.drew _ _ from HPF7.out).below hb8)
  have HPW8 := Lib.hid ((show Prs (fun _ => True) w7.drew _ _ from HPW7.out).below hb8)
  have HPG8 := Lib.hid ((show Prs (fun _ => True) w7.drew _ _ from HPG7.out).below hb8)
  clear hp hb8 hdr
  refine ⟨HB8.out, ?_⟩
  go_simp
  refine callAt (args' := #[Sv f a cap na t.len ncap, Sv g a2 cap2 na2 u.len ncap2, .slice ar N cr]) rfl ?_
  refine (HRW.out (by first | trivial | rfl) (by omega) _ HB8.out).mono ?_
  rintro e w9 ⟨L4, a4, c4, rfl, hp, hg, hb9⟩
  have HB9 := Lib.hid (HB8.out.trans (hb9.mono HB8.out.size))
  have HP49 := Lib.hid hp
  have HG4 := Lib.hid hg
  have HPF9 := Lib.hid (HPF8.out.below hb9)
  have HPW9 := Lib.hid (HPW8.out.below hb9)
  have HPG9 := Lib.hid (HPG8.out.below hb9)
  have HP39 := Lib.hid (HP38.out.below hb9)
  clear hp hg hb9
  refine ⟨HB9.out, ?_⟩
  go_simp
  refine ⟨HB9.out, ?_⟩
  go_simp
  simp only [wpTail]
  apply_assumption
  obtain ⟨⟨c0, c1, c2, e3⟩, d0, d1, d2, d3⟩ := HE.out _ HB9.out
  go_wp2_with fail
  refine wp_region_tail (by rfl) (fun x => Below W.heap.size W x) [4, 5, 6] [some (Sv f a cap na t.len ncap), some (Sv g a2 cap2 na2 u.len ncap2), some (Sv f a cap na t.len ncap), some (Sv g a2 cap2 na2 u.len ncap2), none, none, none] ?aF20 ?haF20 _ rfl (by kernel_rfl) ?tops20 ?htops20 HB9.out.drew ?hall20 ?hend20
  case haF20 => (simp only [layAll, Act.put, Option.getD_some, Option.getD_none, List.setIfInBounds_toArray, List.set_cons_zero, List.set_cons_succ]; rfl)
  case htops20 => rfl
  case hall20 =>
   repeat (first | (refine HSteps.skip (by rfl) ?_) | (refine HSteps.read (by rfl) (fun K x hS hK => ?_) ?_; rotate_left))
   ·exact HSteps.nil
   all_goals
    clear c0 c1 c2 e3 d0 d1 d2 d3
    obtain ⟨⟨c0, c1, c2, e3⟩, d0, d1, d2, d3⟩ := HE.out x hS
    (go_simp; exact hK)
  clear c0 c1 c2 e3 d0 d1 d2 d3
  refine ⟨HB9.out.drew, ?_⟩
  go_simp
  refine callAt (args' := #[Sv f a cap na t.len ncap, Sv g a2 cap2 na2 u.len ncap2]) rfl ?_
  refine (HRA.out HN8.out _ HB9.out.drew).mono ?_
  rintro e w10 ⟨a5, c5, rfl, hp, hb⟩
  have HB10 := Lib.hid (HB9.out.drew.trans (hb.mono HB9.out.drew.size))
  have HP5 := Lib.hid hp
  have HPF10 := Lib.hid ((show Prs (fun _ => True) w9.drew _ _ from HPF9.out).below hb)
  have HPW10 := Lib.hid ((show Prs (fun _ => True) w9.drew _ _ from HPW9.out).below hb)
  have HPG10 := Lib.hid ((show Prs (fun _ => True) w9.drew _ _ from HPG9.out).below hb)
  have HP310 := Lib.hid ((show Prs (fun _ => True) w9.drew _ _ from HP39.out).below hb)
  have HP410 := Lib.hid ((show Prs (fun _ => True) w9.drew _ _ from HP49.out).below hb)
  clear hp hb
  refine ⟨HB10.out, ?_⟩
  go_simp
  refine callAt (args' := #[Sv f a cap na t.len ncap, Sv g a2 cap2 na2 u.len ncap2, .slice a5 (List.length LA) c5]) rfl ?_
  refine (HRG.out (by first | trivial | rfl) HN8.out _ HB10.out a5 c5 HP5.out).mono ?_
  rintro e w11 ⟨L6, a6, c6, rfl, hp, hg, hb⟩
  have HB11 := Lib.hid (HB10.out.trans (hb.mono HB10.out.size))
  have HP611 := Lib.hid hp
  have HG6 := Lib.hid hg
  have HPF11 := Lib.hid (HPF10.out.below hb)
  have HPW11 := Lib.hid (HPW10.out.below hb)
  have HPG11 := Lib.hid (HPG10.out.below hb)
  have HP311 := Lib.hid (HP310.out.below hb)
  have HP411 := Lib.hid (HP410.out.below hb)
  clear hp hg hb
  refine ⟨HB11.out, ?_⟩
  go_simp
  simp only [wpTail]
  apply_assumption
  by_cases hz : nl = 0
  ·subst hz
   have HSM0 := Lib.hid (show Calls Tryz.prog 26 #[.slice af 0 cf, .slice a3 0 c3] w11 (fun e w' => e = .returned (.bool true) ∧ Below w11.heap.size w11 w') from by
    have h := sameP_any (fun _ => True) (fun _ => True) af a3 cf c3 LF LF w11 HPF11.out HP311.out
    rw [← HNL.out] at h; exact h.mono (fun e x h => ⟨h.1.trans (by simp), h.2⟩))
   go_wp2_with fail
   refine HSM0.out.mono ?_
   rintro e w12 ⟨rfl, hb⟩
   have HPF12 := Lib.hid (HPF11.out.below hb)
   have HPW12 := Lib.hid (HPW11.out.below hb)
   have HPG12 := Lib.hid (HPG11.out.below hb)
   have HP312 := Lib.hid (HP311.out.below hb)
   have HP412 := Lib.hid (HP411.out.below hb)
   have HP612 := Lib.hid (HP611.out.below hb)
   have HB12 := Lib.hid (HB11.out.trans (hb.mono HB11.out.size))
   clear hb
   have HSM1 := Lib.hid (show Calls Tryz.prog 26 #[.slice aw (List.length LW) cw, .slice a4 (List.length L4) c4] w12 (fun e w' => e = .returned (.bool true) ∧ Below w12.heap.size w12 w') from by
    have h := sameP_any (fun _ => True) (fun _ => True) aw a4 cw c4 LW L4 w12 HPW12.out HP412.out
    exact h.mono (fun e x h => ⟨h.1.trans (by rw [HGW0.out.uniq HG4.out]; simp), h.2⟩))
   go_wp2_with fail
   refine HSM1.out.mono ?_
   rintro e w13 ⟨rfl, hb⟩
   have HPF13 := Lib.hid (HPF12.out.below hb)
   have HPW13 := Lib.hid (HPW12.out.below hb)
   have HPG13 := Lib.hid (HPG12.out.below hb)
   have HP313 := Lib.hid (HP312.out.below hb)
   have HP413 := Lib.hid (HP412.out.below hb)
   have HP613 := Lib.hid (HP612.out.below hb)
   have HB13 := Lib.hid (HB12.out.trans (hb.mono HB12.out.size))
   clear hb
   have HSM2 := Lib.hid (show Calls Tryz.prog 26 #[.slice ag (List.length LG) cg, .slice a6 (List.length L6) c6] w13 (fun e w' => e = .returned (.bool true) ∧ Below w13.heap.size w13 w') from by
    have h := sameP_any (fun _ => True) (fun _ => True) ag a6 cg c6 LG L6 w13 HPG13.out HP613.out
    exact h.mono (fun e x h => ⟨h.1.trans (by rw [HGG0.out.uniq HG6.out]; simp), h.2⟩))
   go_wp2_with fail
   refine HSM2.out.mono ?_
   rintro e w14 ⟨rfl, hb⟩
   have HPF14 := Lib.hid (HPF13.out.below hb)
   have HPW14 := Lib.hid (HPW13.out.below hb)
   have HPG14 := Lib.hid (HPG13.out.below hb)
   have HP314 := Lib.hid (HP313.out.below hb)
   have HP414 := Lib.hid (HP413.out.below hb)
   have HP614 := Lib.hid (HP613.out.below hb)
   have HB14 := Lib.hid (HB13.out.trans (hb.mono HB13.out.size))
   clear hb
   go_wp2_with fail
   refine (HAWK.out _ HB14.out).mono ?_
   rintro e wz ⟨rfl, hbz⟩
   have HBZ := Lib.hid (HWB.out.trans ((HB14.out.trans (hbz.mono HB14.out.size)).mono HWB.out.size))
   clear hbz
   go_wp2_with fail
   go_ret
   exact ⟨rfl, HBZ.out⟩
  ·have hz2 : decide (nl = 0) = false := decide_eq_false hz
   have HZ := Lib.hid (show ((nl : Int) == 0) = false by simpa using hz)
   have hz3 : ¬ ((nl : Nat) : Int) = 0 := by omega
   have hz4 : decide (((nl : Nat) : Int) = 0) = false := decide_eq_false hz3
   have HSM0 := Lib.hid (show Calls Tryz.prog 26 #[.slice af nl cf, .slice a3 nl c3] w11 (fun e w' => e = .returned (.bool true) ∧ Below w11.heap.size w11 w') from by
    have h := sameP_any (fun _ => True) (fun _ => True) af a3 cf c3 LF LF w11 HPF11.out HP311.out
    rw [← HNL.out] at h; exact h.mono (fun e x h => ⟨h.1.trans (by simp), h.2⟩))
   go_wp2_with fail
   refine HSM0.out.mono ?_
   rintro e w12 ⟨rfl, hb⟩
   have HPF12 := Lib.hid (HPF11.out.below hb)
   have HPW12 := Lib.hid (HPW11.out.below hb)
   have HPG12 := Lib.hid (HPG11.out.below hb)
   have HP312 := Lib.hid (HP311.out.below hb)
   have HP412 := Lib.hid (HP411.out.below hb)
   have HP612 := Lib.hid (HP611.out.below hb)
   have HB12 := Lib.hid (HB11.out.trans (hb.mono HB11.out.size))
   clear hb
   have HSM1 := Lib.hid (show Calls Tryz.prog 26 #[.slice aw (List.length LW) cw, .slice a4 (List.length L4) c4] w12 (fun e w' => e = .returned (.bool true) ∧ Below w12.heap.size w12 w') from by
    have h := sameP_any (fun _ => True) (fun _ => True) aw a4 cw c4 LW L4 w12 HPW12.out HP412.out
    exact h.mono (fun e x h => ⟨h.1.trans (by rw [HGW0.out.uniq HG4.out]; simp), h.2⟩))
   go_wp2_with fail
   refine HSM1.out.mono ?_
   rintro e w13 ⟨rfl, hb⟩
   have HPF13 := Lib.hid (HPF12.out.below hb)
   have HPW13 := Lib.hid (HPW12.out.below hb)
   have HPG13 := Lib.hid (HPG12.out.below hb)
   have HP313 := Lib.hid (HP312.out.below hb)
   have HP413 := Lib.hid (HP412.out.below hb)
   have HP613 := Lib.hid (HP612.out.below hb)
   have HB13 := Lib.hid (HB12.out.trans (hb.mono HB12.out.size))
   clear hb
   have HSM2 := Lib.hid (show Calls Tryz.prog 26 #[.slice ag (List.length LG) cg, .slice a6 (List.length L6) c6] w13 (fun e w' => e = .returned (.bool true) ∧ Below w13.heap.size w13 w') from by
    have h := sameP_any (fun _ => True) (fun _ => True) ag a6 cg c6 LG L6 w13 HPG13.out HP613.out
    exact h.mono (fun e x h => ⟨h.1.trans (by rw [HGG0.out.uniq HG6.out]; simp), h.2⟩))
   go_wp2_with fail
   refine HSM2.out.mono ?_
   rintro e w14 ⟨rfl, hb⟩
   have HPF14 := Lib.hid (HPF13.out.below hb)
   have HPW14 := Lib.hid (HPW13.out.below hb)
   have HPG14 := Lib.hid (HPG13.out.below hb)
   have HP314 := Lib.hid (HP313.out.below hb)
   have HP414 := Lib.hid (HP413.out.below hb)
   have HP614 := Lib.hid (HP613.out.below hb)
   have HB14 := Lib.hid (HB13.out.trans (hb.mono HB13.out.size))
   clear hb
   go_wp2_with fail
   refine (HAWK.out _ HB14.out).mono ?_
   rintro e wz ⟨rfl, hbz⟩
   have HBZ := Lib.hid (HWB.out.trans ((HB14.out.trans (hbz.mono HB14.out.size)).mono HWB.out.size))
   clear hbz
   go_wp2_with fail
   go_ret
   exact ⟨(show Ending.returned (.bool (!((nl : Int) == 0))) = _ by rw [HZ.out]; rfl), HBZ.out⟩
end Go.Proofs.YtfgpjfgejhahfaaGreatDoor
