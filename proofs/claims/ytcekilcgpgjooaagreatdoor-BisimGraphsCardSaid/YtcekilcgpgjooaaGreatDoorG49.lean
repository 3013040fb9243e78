/- Proved here: contracts of the walk to BisimGraphs: the law's own walk; each under the conditions that its own statement names. -/
import Derived.Test.YtcekilcgpgjooaaGreatDoorG35
import Derived.Test.YtcekilcgpgjooaaGreatDoorG37
import Derived.Test.YtcekilcgpgjooaaGreatDoorG48
set_option maxRecDepth 100000
set_option maxHeartbeats 12800000
namespace Go.Proofs.YtcekilcgpgjooaaGreatDoor
open Go Go.RowKit
open Go.Lib (hid)
theorem few_size {f : F} {t : V} (h : sFew f t 200 = true) : f.t.nodes ≤ 100000 := by
 unfold sFew at h
 simp only [Bool.and_eq_true, decide_eq_true_eq] at h
 obtain ⟨-, h2, h3, h4⟩ := h
 have := lft_nodes f.t 200 (by omega)
 omega
theorem relE'_none (f : F) (t : V) (g : F) (u : V) : relE' f t g u [] = bothE f t g u := by
 unfold relE'
 by_cases h : bothE f t g u = 0
 ·rw [if_pos h, h]; rfl
 ·rw [if_neg h]
theorem Prs.anyB {S : Nat → Prop} {w : World} {a : Option Addr} {r : List (Int × Int)} (h : Prs S w a r) : Prs (fun _ => True) w a r := ⟨h.1, h.2.imp id (fun ⟨b, o, h1, _, h3⟩ => ⟨b, o, h1, trivial, h3⟩)⟩
theorem graphs_law (S S2 : Nat → Nat → Prop) (S' S2' S3 S4 : Nat → Prop) (f g : F) (a na a2 na2 ha ta : Option Addr) (cap ncap cap2 ncap2 hcap tcap : Nat) (t u : V) (h l : List Int) (w : World) (hs : Sl S w a f.t) (hc : f.t.len ≤ cap) (hv : Vl S' w na t) (hs2 : Sl S2 w a2 g.t) (hc2 : g.t.len ≤ cap2) (hv2 : Vl S2' w na2 u) (hk : Kinds w) (hi : Ints S3 w ha h) (hi2 : Ints S4 w ta l) :
    Calls Tryz.prog 4 #[Sv f a cap na t.len ncap, Sv g a2 cap2 na2 u.len ncap2, .slice ha h.length hcap, .slice ta l.length tcap] w fun e w' => e = .returned (.bool true) ∧ Below w.heap.size w w' := by
 obtain ⟨i0, hii, hz0, hz1, hz2⟩ := info_parts infoP
 obtain ⟨W, hW⟩ : ∃ W : World, W = (w.alloc (Obj.cells #[.int .i64 f.k, .int .i64 f.n, .slice a f.t.len cap, .slice na t.len ncap] 27)).alloc (Obj.cells #[.int .i64 g.k, .int .i64 g.n, .slice a2 g.t.len cap2, .slice na2 u.len ncap2] 27) := ⟨_, rfl⟩
 have hWb : Below w.heap.size w W := by rw [hW]; exact ba2 _ _ _
 have k0 : W.heap[w.heap.size]? = some (Obj.cells #[.int .i64 f.k, .int .i64 f.n, .slice a f.t.len cap, .slice na t.len ncap] 27 (0, 0)) := by rw [hW]; exact heap_old2 _ _ _
 have k1 : W.heap[w.heap.size + 1]? = some (Obj.cells #[.int .i64 g.k, .int .i64 g.n, .slice a2 g.t.len cap2, .slice na2 u.len ncap2] 27 (0, 0)) := by rw [hW]; exact heap_new2 _ _ _
 have hWs : W.heap.size = w.heap.size + 1 + 1 := by rw [hW]; simp
 obtain ⟨bs, hbs⟩ : ∃ bs, bs = w.heap.size := ⟨_, rfl⟩
 rw [← hbs] at k0 k1 hWs
 have HE := hid (fun x (hx : Below W.heap.size W x) => And.intro (cells4 ((hx.block _ (heap_lt k0)).trans k0)) (cells4 ((hx.block _ (heap_lt k1)).trans k1)))
 have HWB := hid hWb
 obtain ⟨RB1, hRB1⟩ := relAny_ex (fun x y => decide (((x : Int), (y : Int)) ∈ grL h h.length))
 obtain ⟨RB2, hRB2⟩ := relAny_ex (fun x y => decide (((x : Int), (y : Int)) ∈ kerL l l.length))
 obtain ⟨b1, hb1⟩ : ∃ b1, b1 = lisB RB1 f t g u (grL h h.length) := ⟨_, rfl⟩
 obtain ⟨b2, hb2⟩ : ∃ b2, b2 = lisB RB2 f t f t (kerL l l.length) := ⟨_, rfl⟩
 obtain ⟨q0, hq0⟩ : ∃ q0 : Bool, q0 = ((sFew f t 200 && decide (t.len ≤ 8)) && (sFew g u 200 && decide (u.len ≤ 8))) := ⟨_, rfl⟩
 obtain ⟨qh, hqh⟩ : ∃ qh : Bool, qh = h.all (fun x => decide (0 ≤ x ∧ x < u.len)) := ⟨_, rfl⟩
 have HFEW := hid (fun x (hx : Below W.heap.size W x) b ty hb => few2_any S S2 S' S2' f g a na a2 na2 cap ncap cap2 ncap2 b ty t u x ((hs.below hWb).below hx) ((hv.below hWb).below hx) ((hs2.below hWb).below hx) ((hv2.below hWb).below hx) hb)
 have HAWK := hid (fun x (hx : Below W.heap.size W x) => awake_any x ((hk.below hWb).below hx))
 have HFN := hid (fun x (hx : Below W.heap.size W x) => show Calls Tryz.prog 6 #[.slice none 0 0, Sv f a cap na t.len ncap, Sv g a2 cap2 na2 u.len ncap2] x (fun e w' => e = .returned (.int .i64 (bothE f t g u)) ∧ Below x.heap.size x w') from by
  have h := fault2_any S S2 S' S2' (fun _ => True) f g a na a2 na2 none cap ncap cap2 ncap2 0 t u [] x ((hs.below hWb).below hx) hc ((hv.below hWb).below hx) ((hs2.below hWb).below hx) hc2 ((hv2.below hWb).below hx) ⟨by simp, Or.inl rfl⟩
  rw [relE'_none] at h
  exact h)
 have HST := hid (fun x (hx : Below W.heap.size W x) => statesR_any S3 g a2 na2 ha cap2 ncap2 hcap u.len h x ((hi.below hWb).below hx))
 rw [← hqh] at HST
 have HSI := hid (fun (h0 : bothE f t g u = 0) (hm : h.length = t.len) (hall : qh = true) x (hx : Below W.heap.size W x) => show Calls Tryz.prog 17 #[Sv f a cap na t.len ncap, Sv g a2 cap2 na2 u.len ncap2, .slice ha h.length hcap] x (fun e w' => e = .returned (.tuple #[.bool b1, .int .i64 0]) ∧ Below x.heap.size x w') from by
  rw [hqh] at hall
  refine (sysIs_any S S2 S' S2' S3 f g a na a2 na2 ha cap ncap cap2 ncap2 hcap t u h x ((hs.below hWb).below hx) ((hv.below hWb).below hx) ((hs2.below hWb).below hx) ((hv2.below hWb).below hx) ((hk.below hWb).below hx) ((hi.below hWb).below hx) h0 hm hall).mono ?_
  rintro e w' ⟨b, rfl, hb, hbw⟩
  obtain ⟨hy1, hy2, rfl⟩ := both_ok h0
  have hg := (graph_iff hy1 hy2 hm hall hRB1).2
  rw [← hb1] at hg
  have : b = b1 := Bool.eq_iff_iff.2 (hb.trans hg.symm)
  rw [this]
  exact ⟨rfl, hbw⟩)
 have HL1 := hid (fun (hN : h.length ≤ 200) x (hx : Below W.heap.size W x) ar cr (hp : Prs (fun _ => True) x ar (grL h h.length)) => lis_any S S2 S' S2' (fun _ => True) f g a na a2 na2 ar cap ncap cap2 ncap2 cr t u (grL h h.length) x ((hs.below hWb).below hx) ((hv.below hWb).below hx) ((hs2.below hWb).below hx) ((hv2.below hWb).below hx) ((hk.below hWb).below hx) hp (by rw [grL_len]; omega) RB1 hRB1)
 rw [← hb1] at HL1
 have HL2 := hid (fun (hN : l.length ≤ 200) x (hx : Below W.heap.size W x) ar cr (hp : Prs (fun _ => True) x ar (kerL l l.length)) => lis_any S S S' S' (fun _ => True) f f a na a na ar cap ncap cap ncap cr t t (kerL l l.length) x ((hs.below hWb).below hx) ((hv.below hWb).below hx) ((hs.below hWb).below hx) ((hv.below hWb).below hx) ((hk.below hWb).below hx) hp (by have := kerL_len l l.length; have := Nat.mul_le_mul hN hN; omega) RB2 hRB2)
 rw [← hb2] at HL2
 have HQU := hid (fun (h0 : bothE f t g u = 0) (hf : q0 = true) x (hx : Below W.heap.size W x) => show Calls Tryz.prog 18 #[Sv f a cap na t.len ncap, .slice ta l.length tcap] x (fun e w' => ∃ (k n : Int) (a1 a2 : Option Addr) (l1 c1 l2 c2 : Nat) (E : Int), e = .returned (.tuple #[.agg #[.int .i64 k, .int .i64 n, .slice a1 l1 c1, .slice a2 l2 c2], .int .i64 E]) ∧ (E = 1 ∨ (E = 0 ∧ b2 = true) ∨ (E = 4 ∧ b2 = false)) ∧ Below x.heap.size x w') from by
  rw [hq0] at hf
  simp only [Bool.and_eq_true, decide_eq_true_eq] at hf
  obtain ⟨hy1, hy2, _⟩ := both_ok h0
  refine (quo_any S S' S4 f a na ta cap ncap tcap t l x ((hs.below hWb).below hx) ((hv.below hWb).below hx) ((hk.below hWb).below hx) ((hi2.below hWb).below hx) hy1 (few_size hf.1.1)).mono ?_
  rintro e w' ⟨k, n, a1, a2, l1, c1, l2, c2, E, rfl, h1, h2, hbw⟩
  refine ⟨k, n, a1, a2, l1, c1, l2, c2, E, rfl, ?_, hbw⟩
  by_cases hq : quoOk t l
  ·have hkr := kernel_iff hy1 hq.1 hRB2
   rw [← hb2] at hkr
   by_cases he : quoEq f t l t.len
   ·exact Or.inr (Or.inl ⟨(h2 hq).1 he, hkr.2 he⟩)
   ·refine Or.inr (Or.inr ⟨(h2 hq).2 he, ?_⟩)
    cases hb : b2 with
    | false => rfl
    | true => exact absurd (hkr.1 hb) he
  ·exact Or.inl (h1 hq))
 have HI := hid (hi.below hWb)
 have HI2 := hid (hi2.below hWb)
 have hl1 := hv.1
 have hl2 := hv2.1
 have hl3 := hi.1
 have hl4 := hi2.1
 rw [← hq0] at HFEW
 have HD := hid (bothE_cases f t g u)
 obtain ⟨D, hD⟩ : ∃ D, D = bothE f t g u := ⟨_, rfl⟩
 rw [← hD] at HFN HSI HQU HD
 obtain ⟨N, hN⟩ : ∃ N, N = t.len := ⟨_, rfl⟩
 obtain ⟨M, hM⟩ : ∃ M, M = u.len := ⟨_, rfl⟩
 obtain ⟨H, hH⟩ : ∃ H, H = h.length := ⟨_, rfl⟩
 obtain ⟨L, hL⟩ : ∃ L, L = l.length := ⟨_, rfl⟩
 rw [← hN] at HE HFEW HFN HSI HL1 HL2 HQU hl1 hW ⊢
 rw [← hM] at HE HFEW HFN HST HSI HL1 hl2 hW ⊢
 rw [← hH] at HST HSI HL1 hl3 ⊢
 rw [← hL] at HL2 HQU hl4 ⊢
 have HHH := hid hH
 have HLL := hid hL
 clear hs hv hs2 hv2 hk hi hi2 k0 k1 hWb hq0 hqh hRB1 hRB2 hb1 hb2 hD hN hM hH hL hc hc2
 obtain ⟨⟨c0, c1, c2, c3⟩, d0, d1, d2, d3⟩ := HE.out _ (Below.refl _ _)
 go_enter Tryz.func4, Tryz.ntmps4
 go_wp2_with fail
 rw [← hW, ← hbs]
 clear hW hbs
 have hnew : (W.alloc (Obj.cells #[.int .i64 f.k, .int .i64 f.n, .slice a f.t.len cap, .slice na N ncap, .int .i64 g.k, .int .i64 g.n, .slice a2 g.t.len cap2, .slice na2 M ncap2] 27)).heap[bs + 1 + 1]? = some (Obj.cells #[.int .i64 f.k, .int .i64 f.n, .slice a f.t.len cap, .slice na N ncap, .int .i64 g.k, .int .i64 g.n, .slice a2 g.t.len cap2, .slice na2 M ncap2] 27 (0, 0)) := by rw [← hWs]; exact heap_new _ _
 refine (HFEW.out _ (ba _ _) _ _ hnew).mono ?_
 rintro e w1 ⟨rfl, hb1⟩
 have HB1 := hid ((ba _ _).trans (hb1.mono (by simp)) : Below W.heap.size W w1)
 clear c0 c1 c2 c3 d0 d1 d2 d3 hb1 hnew HFEW hWs
 cases hq0 : q0 with
 | false =>
  subst hq0
  clear HQU
  go_wp2_with fail
  refine (HAWK.out _ HB1.out).mono ?_
  rintro e wz ⟨rfl, hbz⟩
  have HBZ := hid (HWB.out.trans ((HB1.out.trans (hbz.mono HB1.out.size)).mono HWB.out.size))
  clear hbz
  go_wp2_with fail
  go_ret
  exact ⟨rfl, HBZ.out⟩
 | true =>
 replace HQU := hid (fun h0 => HQU.out h0 hq0)
 subst hq0
 obtain ⟨⟨c0, c1, c2, c3⟩, d0, d1, d2, d3⟩ := HE.out _ HB1.out
 go_wp2_with fail
 refine (HFN.out _ HB1.out).mono ?_
 rintro e w2 ⟨rfl, hb2⟩
 have HB2 := hid (HB1.out.trans (hb2.mono HB1.out.size))
 clear c0 c1 c2 c3 d0 d1 d2 d3 hb2
 rcases HD.out with hD | hD | hD
 ·subst hD
  clear HQU HSI HD
  go_wp2_with fail
  refine (HAWK.out _ HB2.out).mono ?_
  rintro e wz ⟨rfl, hbz⟩
  have HBZ := hid (HWB.out.trans ((HB2.out.trans (hbz.mono HB2.out.size)).mono HWB.out.size))
  clear hbz
  go_wp2_with fail
  go_ret
  exact ⟨rfl, HBZ.out⟩
 ·subst hD
  clear HQU HSI HD
  go_wp2_with fail
  refine (HAWK.out _ HB2.out).mono ?_
  rintro e wz ⟨rfl, hbz⟩
  have HBZ := hid (HWB.out.trans ((HB2.out.trans (hbz.mono HB2.out.size)).mono HWB.out.size))
  clear hbz
  go_wp2_with fail
  go_ret
  exact ⟨rfl, HBZ.out⟩
 subst hD
 replace HQU := hid (HQU.out rfl)
 replace HSI := hid (HSI.out rfl)
 clear HD
 by_cases hH2 : 200 < H
 ·have hi3 : (200 : Int) < (H : Int) := by omega
  have hid3 : decide ((200 : Int) < (H : Int)) = true := decide_eq_true hi3
  clear hH2
  go_wp2_with fail
  refine (HAWK.out _ HB2.out).mono ?_
  rintro e wz ⟨rfl, hbz⟩
  have HBZ := hid (HWB.out.trans ((HB2.out.trans (hbz.mono HB2.out.size)).mono HWB.out.size))
  clear hbz
  go_wp2_with fail
  go_ret
  exact ⟨rfl, HBZ.out⟩
 have hi3 : ¬ (200 : Int) < (H : Int) := by omega
 have hid3 : decide ((200 : Int) < (H : Int)) = false := decide_eq_false hi3
 have hH200 : H ≤ 200 := by omega
 clear hH2
 by_cases hL2 : 200 < L
 ·have hi4 : (200 : Int) < (L : Int) := by omega
  have hid4 : decide ((200 : Int) < (L : Int)) = true := decide_eq_true hi4
  clear hL2
  go_wp2_with fail
  refine (HAWK.out _ HB2.out).mono ?_
  rintro e wz ⟨rfl, hbz⟩
  have HBZ := hid (HWB.out.trans ((HB2.out.trans (hbz.mono HB2.out.size)).mono HWB.out.size))
  clear hbz
  go_wp2_with fail
  go_ret
  exact ⟨rfl, HBZ.out⟩
 have hi4 : ¬ (200 : Int) < (L : Int) := by omega
 have hid4 : decide ((200 : Int) < (L : Int)) = false := decide_eq_false hi4
 have hL200 : L ≤ 200 := by omega
 clear hL2
 obtain ⟨⟨c0, c1, c2, c3⟩, d0, d1, d2, d3⟩ := HE.out _ HB2.out
 by_cases hHN : H = N
 rotate_left
 ·have hne : ((H : Int) == (N : Int)) = false := by simp; omega
  clear hHN HSI HL1 HST
  go_wp2_with fail
  refine (HQU.out _ HB2.out).mono ?_
  rintro e wq ⟨qk, qn, qa, qa2, ql, qc, ql2, qc2, E, rfl, hE, hbq⟩
  have HBQ := hid (HB2.out.trans (hbq.mono HB2.out.size))
  clear c0 c1 c2 c3 d0 d1 d2 d3 hbq
  obtain ⟨⟨c0, c1, c2, c3⟩, d0, d1, d2, d3⟩ := HE.out _ HBQ.out
  obtain ⟨X, hX⟩ : ∃ X : World, X = wq.alloc (Obj.cells #[.int .i64 qk, .int .i64 qn, .slice qa ql qc, .slice qa2 ql2 qc2] 27) := ⟨_, rfl⟩
  have HBX := hid (show Below W.heap.size W X by rw [hX]; exact HBQ.out.alloc HBQ.out.size _)
  rcases hE with hE | hE
  ·subst hE
   go_wp2_with fail
   rw [← hX]
   clear hX
   refine (HAWK.out _ HBX.out).mono ?_
   rintro e wz ⟨rfl, hbz⟩
   have HBZ := hid (HWB.out.trans ((HBX.out.trans (hbz.mono HBX.out.size)).mono HWB.out.size))
   clear hbz
   go_wp2_with fail
   go_ret
   exact ⟨rfl, HBZ.out⟩
  have hE1 : (E == 1) = false := by rcases hE with ⟨rfl, _⟩ | ⟨rfl, _⟩ <;> rfl
  go_wp2_with fail
  rw [← hX]
  clear hX
  go_loopw [16, 94] (fun v i wr => ∃ (i1 : Nat) (x : Value), i1 ≤ L ∧ x = v ∧ i = .int .i64 i1 ∧ wr.ownsRow W.heap.size 38 2 x (kerL l i1).length (flatP (kerL l i1)) ∧ Below W.heap.size W wr) (fun _ i _ => L - (intOf i).toNat)
  case atStart => exact ⟨0, _, Nat.zero_le _, rfl, rfl, World.ownsRow_nil _ _ _ _, HBX.out⟩
  case round =>
   obtain ⟨i1, v, hi1, rfl, rfl, hown, hb⟩ := hrel
   have HO := hid hown
   have HB := hid hb
   clear hown hb c0 c1 c2 c3 d0 d1 d2 d3
   obtain ⟨wo, rfl⟩ : ∃ wo : World, wo = wr := ⟨_, rfl⟩
   by_cases hlt : i1 < L
   ·have hil : i1 < l.length := by rw [← HLL.out]; exact hlt
    go_wp2_with fail
    go_loopw [16, 99] (fun v i ws => ∃ (y : Nat) (x : Value), y ≤ L ∧ x = v ∧ i = .int .i64 y ∧ ws.ownsRow W.heap.size 38 2 x (kerL l i1 ++ kerR l i1 y).length (flatP (kerL l i1 ++ kerR l i1 y)) ∧ Below W.heap.size W ws) (fun _ i _ => L - (intOf i).toNat)
    case atStart => exact ⟨0, _, Nat.zero_le _, rfl, rfl, by simpa [kerR] using HO.out, HB.out⟩
    case round =>
     obtain ⟨y, x, hy, rfl, rfl, hown, hb⟩ := hrel
     have HO2 := hid hown
     have HBY := hid hb
     have hbs3 := hb.size
     have hll : (kerL l i1 ++ kerR l i1 y).length ≤ 50000 := by
      rw [List.length_append]
      have h1 := kerL_len l i1
      have h2 := kerR_len l i1 y
      have h3 : i1 * l.length ≤ 200 * 200 := Nat.mul_le_mul (by omega) (by have := HLL.out; omega)
      omega
     clear hown hb
     by_cases hlt2 : y < L
     ·have hyl : y < l.length := by rw [← HLL.out]; exact hlt2
      obtain ⟨tb, tof, rfl, y0⟩ := (HI2.out.below HBY.out).get hil
      obtain ⟨tb2, tof2, he, y1⟩ := (HI2.out.below HBY.out).get hyl
      obtain ⟨rfl, rfl⟩ : tb = tb2 ∧ tof = tof2 := by simpa using he
      obtain ⟨p, hp⟩ : ∃ p, p = l[i1] := ⟨_, rfl⟩
      obtain ⟨q, hq⟩ : ∃ q, q = l[y] := ⟨_, rfl⟩
      rw [← hp] at y0
      rw [← hq] at y1
      have hgp : l.getD i1 0 = p := by rw [hp]; simp [List.getD, List.getElem?_eq_getElem hil]
      have hgq : l.getD y 0 = q := by rw [hq]; simp [List.getD, List.getElem?_eq_getElem hyl]
      have hiL : (i1 : Int) < (L : Int) := by omega
      have hyL : (y : Int) < (L : Int) := by omega
      by_cases hpq : p = q
      ·have HST2 := hid (show kerL l i1 ++ kerR l i1 (y + 1) = (kerL l i1 ++ kerR l i1 y) ++ [((i1 : Int), (y : Int))] by rw [List.append_assoc, kerR, if_pos (by rw [hgp, hgq]; exact hpq)])
       have hpb : (p == q) = true := by simpa using hpq
       obtain ⟨G, hG⟩ : ∃ G, G = kerL l i1 ++ kerR l i1 y := ⟨_, rfl⟩
       rw [← hG] at HO2 HST2 hll
       clear hG hp hq hgp hgq hpq he
       have HZ := hid (fun z (hz : Below wr.heap.size wr z) => And.intro (cell_below hz y0) (cell_below hz y1))
       go_upto_region 23 with (fail)
       refine wp_region_plan (by rfl) (fun z : World => Below wr.heap.size wr z) [some (.slice (some ⟨tb, tof, none⟩) L tcap), some (.int .i64 (i1 : Int)), some (.pointer (some ⟨tb, tof + i1, none⟩)), some (.int .i64 p), some (.slice (some ⟨tb, tof, none⟩) L tcap), some (.int .i64 (y : Int)), some (.pointer (some ⟨tb, tof + y, none⟩)), some (.int .i64 q), some (.bool true)] ?aF1a ?haF1a _ rfl (by kernel_rfl) (Below.refl _ _).drew ?hall1a ?hend1a
       case haF1a => (simp only [layAll, Act.put, Option.getD_some, List.setIfInBounds_toArray, List.set_cons_zero, List.set_cons_succ]; rfl)
       case hall1a =>
        repeat (first | (refine Steps.cons (v := none) rfl ?_) | (refine Steps.cons ⟨rfl, fun K z hS hK => ?_⟩ ?_; rotate_left))
        ·exact Steps.nil
        all_goals
         obtain ⟨g0, g1⟩ := HZ.out z hS
         (go_simp; exact hK _ hS)
       case hend1a =>
        intro z hz
        have HO4 := hid (row_below HO2.out hz)
        have HBZ := hid (HBY.out.trans (hz.mono HBY.out.size))
        have hbs4 := hz.size
        clear hz
        go_wp2_with (at_builtin; refine wpList_append_own _ rfl _ _ 28 rfl W.heap.size 38 i0 (.agg #[.int .i64 0, .int .i64 0]) 2 16 Tryz.underlying28 hii hz0 hz1 hz2 rfl (by decide) _ _ _ rfl (HO4.out.alloc _) ⟨z.heap.size, 0, none⟩ 1 1 [.int .i64 (i1 : Int), .int .i64 (y : Int)] rfl rfl (cell_two_new _ _ _ _) (by intro u hu; simp at hu; rcases hu with rfl | rfl <;> rfl) (by unfold maxLen; omega) (by omega) (by simp; omega) ?_; intro v' w8 hown' hgrow _)
        have HO3 := hid hown'
        have HBV := hid (show Below W.heap.size W w8 from (HBZ.out.alloc HBZ.out.size _).grown hgrow (by simp; omega) (fun j hj => (HO4.out.lt j hj).1))
        clear hown' hgrow
        go_wp2_with fail
        go_roundw
        case rel => exact ⟨y + 1, _, by omega, rfl, by go_num, by rw [HST2.out, flatP_snoc, List.length_append]; exact HO3.out, HBV.out⟩
        case measure => simp [intOf]; omega
      ·have HST2 := hid (show kerR l i1 (y + 1) = kerR l i1 y by rw [kerR, if_neg (by rw [hgp, hgq]; exact hpq), List.append_nil])
       have hpb : (p == q) = false := by simpa using hpq
       clear hp hq hgp hgq hpq he
       have HZ := hid (fun z (hz : Below wr.heap.size wr z) => And.intro (cell_below hz y0) (cell_below hz y1))
       go_upto_region 23 with (fail)
       refine wp_region_plan (by rfl) (fun z : World => Below wr.heap.size wr z) [some (.slice (some ⟨tb, tof, none⟩) L tcap), some (.int .i64 (i1 : Int)), some (.pointer (some ⟨tb, tof + i1, none⟩)), some (.int .i64 p), some (.slice (some ⟨tb, tof, none⟩) L tcap), some (.int .i64 (y : Int)), some (.pointer (some ⟨tb, tof + y, none⟩)), some (.int .i64 q), some (.bool false)] ?aF1b ?haF1b _ rfl (by kernel_rfl) (Below.refl _ _).drew ?hall1b ?hend1b
       case haF1b => (simp only [layAll, Act.put, Option.getD_some, List.setIfInBounds_toArray, List.set_cons_zero, List.set_cons_succ]; rfl)
       case hall1b =>
        repeat (first | (refine Steps.cons (v := none) rfl ?_) | (refine Steps.cons ⟨rfl, fun K z hS hK => ?_⟩ ?_; rotate_left))
        ·exact Steps.nil
        all_goals
         obtain ⟨g0, g1⟩ := HZ.out z hS
         (go_simp; exact hK _ hS)
       case hend1b =>
        intro z hz
        have HO4 := hid (row_below HO2.out hz)
        have HBZ := hid (HBY.out.trans (hz.mono HBY.out.size))
        have hbs4 := hz.size
        clear hz
        go_wp2_with fail
        go_roundw
        case rel => exact ⟨y + 1, _, by omega, rfl, by go_num, by rw [HST2.out]; exact HO4.out, HBZ.out⟩
        case measure => simp [intOf]; omega
     ·have HYL := hid (show y = l.length by have := HLL.out; omega)
      obtain rfl : y = L := by omega
      go_wp2_with fail
      go_roundw
      case rel => exact ⟨i1 + 1, _, by omega, rfl, by go_num, by rw [show kerL l (i1 + 1) = kerL l i1 ++ kerR l i1 y by rw [HYL.out]; rfl]; exact HO2.out, HBY.out⟩
      case measure => simp [intOf]; omega
   ·obtain rfl : i1 = L := by omega
    obtain ⟨ar, cr, rfl, _, hp0⟩ := row_prs HO.out (by have h1 := kerL_len l i1; have h2 : i1 * l.length ≤ 200 * 200 := Nat.mul_le_mul hL200 (by have := HLL.out; omega); omega)
    have hp := hp0.anyB
    have HLK := hid (HL2.out hL200 wo HB.out ar cr hp)
    obtain ⟨gm, hgm⟩ : ∃ gm, gm = (kerL l i1).length := ⟨_, rfl⟩
    have hgmb : gm ≤ 50000 := by rw [hgm]; have h1 := kerL_len l i1; have h2 : i1 * l.length ≤ 200 * 200 := Nat.mul_le_mul hL200 (by have := HLL.out; omega); omega
    rw [← hgm] at HLK ⊢
    obtain ⟨⟨c0, c1, c2, c3⟩, d0, d1, d2, d3⟩ := HE.out _ HB.out
    clear hp hp0 hgm HO hE1
    rcases hE with ⟨hE, hb2⟩ | ⟨hE, hb2⟩
    ·subst hE hb2
     go_wp2_with fail
     refine HLK.out.mono ?_
     rintro e w9 ⟨rfl, hb9⟩
     have HB9 := hid (HB.out.trans (hb9.mono HB.out.size))
     clear c0 c1 c2 c3 d0 d1 d2 d3 hb9
     go_wp2_with fail
     refine (HAWK.out _ HB9.out).mono ?_
     rintro e wz ⟨rfl, hbz⟩
     have HBZ := hid (HWB.out.trans ((HB9.out.trans (hbz.mono HB9.out.size)).mono HWB.out.size))
     clear hbz
     go_wp2_with fail
     go_ret
     exact ⟨rfl, HBZ.out⟩
    ·subst hE hb2
     go_wp2_with fail
     refine HLK.out.mono ?_
     rintro e w9 ⟨rfl, hb9⟩
     have HB9 := hid (HB.out.trans (hb9.mono HB.out.size))
     clear c0 c1 c2 c3 d0 d1 d2 d3 hb9
     go_wp2_with fail
     refine (HAWK.out _ HB9.out).mono ?_
     rintro e wz ⟨rfl, hbz⟩
     have HBZ := hid (HWB.out.trans ((HB9.out.trans (hbz.mono HB9.out.size)).mono HWB.out.size))
     clear hbz
     go_wp2_with fail
     go_ret
     exact ⟨rfl, HBZ.out⟩
 ·have hne : ((H : Int) == (N : Int)) = true := by simp; omega
  have HHN := hid hHN
  clear hHN
  go_wp2_with fail
  refine (HST.out _ HB2.out).mono ?_
  rintro e w3 ⟨rfl, hb3⟩
  have HB3 := hid (HB2.out.trans (hb3.mono HB2.out.size))
  clear c0 c1 c2 c3 d0 d1 d2 d3 hb3
  obtain ⟨⟨c0, c1, c2, c3⟩, d0, d1, d2, d3⟩ := HE.out _ HB3.out
  cases hqh : qh with
  | false =>
   subst hqh
   clear HSI HL1
   go_wp2_with fail
   refine (HQU.out _ HB3.out).mono ?_
   rintro e wq ⟨qk, qn, qa, qa2, ql, qc, ql2, qc2, E, rfl, hE, hbq⟩
   have HBQ := hid (HB3.out.trans (hbq.mono HB3.out.size))
   clear c0 c1 c2 c3 d0 d1 d2 d3 hbq
   obtain ⟨⟨c0, c1, c2, c3⟩, d0, d1, d2, d3⟩ := HE.out _ HBQ.out
   obtain ⟨X, hX⟩ : ∃ X : World, X = wq.alloc (Obj.cells #[.int .i64 qk, .int .i64 qn, .slice qa ql qc, .slice qa2 ql2 qc2] 27) := ⟨_, rfl⟩
   have HBX := hid (show Below W.heap.size W X by rw [hX]; exact HBQ.out.alloc HBQ.out.size _)
   rcases hE with hE | hE
   ·subst hE
    go_wp2_with fail
    rw [← hX]
    clear hX
    refine (HAWK.out _ HBX.out).mono ?_
    rintro e wz ⟨rfl, hbz⟩
    have HBZ := hid (HWB.out.trans ((HBX.out.trans (hbz.mono HBX.out.size)).mono HWB.out.size))
    clear hbz
    go_wp2_with fail
    go_ret
    exact ⟨rfl, HBZ.out⟩
   have hE1 : (E == 1) = false := by rcases hE with ⟨rfl, _⟩ | ⟨rfl, _⟩ <;> rfl
   go_wp2_with fail
   rw [← hX]
   clear hX
   go_loopw [16, 94] (fun v i wr => ∃ (i1 : Nat) (x : Value), i1 ≤ L ∧ x = v ∧ i = .int .i64 i1 ∧ wr.ownsRow W.heap.size 38 2 x (kerL l i1).length (flatP (kerL l i1)) ∧ Below W.heap.size W wr) (fun _ i _ => L - (intOf i).toNat)
   case atStart => exact ⟨0, _, Nat.zero_le _, rfl, rfl, World.ownsRow_nil _ _ _ _, HBX.out⟩
   case round =>
    obtain ⟨i1, v, hi1, rfl, rfl, hown, hb⟩ := hrel
    have HO := hid hown
    have HB := hid hb
    clear hown hb c0 c1 c2 c3 d0 d1 d2 d3
    obtain ⟨wo, rfl⟩ : ∃ wo : World, wo = wr := ⟨_, rfl⟩
    by_cases hlt : i1 < L
    ·have hil : i1 < l.length := by rw [← HLL.out]; exact hlt
     go_wp2_with fail
     go_loopw [16, 99] (fun v i ws => ∃ (y : Nat) (x : Value), y ≤ L ∧ x = v ∧ i = .int .i64 y ∧ ws.ownsRow W.heap.size 38 2 x (kerL l i1 ++ kerR l i1 y).length (flatP (kerL l i1 ++ kerR l i1 y)) ∧ Below W.heap.size W ws) (fun _ i _ => L - (intOf i).toNat)
     case atStart => exact ⟨0, _, Nat.zero_le _, rfl, rfl, by simpa [kerR] using HO.out, HB.out⟩
     case round =>
      obtain ⟨y, x, hy, rfl, rfl, hown, hb⟩ := hrel
      have HO2 := hid hown
      have HBY := hid hb
      have hbs3 := hb.size
      have hll : (kerL l i1 ++ kerR l i1 y).length ≤ 50000 := by
       rw [List.length_append]
       have h1 := kerL_len l i1
       have h2 := kerR_len l i1 y
       have h3 : i1 * l.length ≤ 200 * 200 := Nat.mul_le_mul (by omega) (by have := HLL.out; omega)
       omega
      clear hown hb
      by_cases hlt2 : y < L
      ·have hyl : y < l.length := by rw [← HLL.out]; exact hlt2
       obtain ⟨tb, tof, rfl, y0⟩ := (HI2.out.below HBY.out).get hil
       obtain ⟨tb2, tof2, he, y1⟩ := (HI2.out.below HBY.out).get hyl
       obtain ⟨rfl, rfl⟩ : tb = tb2 ∧ tof = tof2 := by simpa using he
       obtain ⟨p, hp⟩ : ∃ p, p = l[i1] := ⟨_, rfl⟩
       obtain ⟨q, hq⟩ : ∃ q, q = l[y] := ⟨_, rfl⟩
       rw [← hp] at y0
       rw [← hq] at y1
       have hgp : l.getD i1 0 = p := by rw [hp]; simp [List.getD, List.getElem?_eq_getElem hil]
       have hgq : l.getD y 0 = q := by rw [hq]; simp [List.getD, List.getElem?_eq_getElem hyl]
       have hiL : (i1 : Int) < (L : Int) := by omega
       have hyL : (y : Int) < (L : Int) := by omega
       by_cases hpq : p = q
       ·have HST2 := hid (show kerL l i1 ++ kerR l i1 (y + 1) = (kerL l i1 ++ kerR l i1 y) ++ [((i1 : Int), (y : Int))] by rw [List.append_assoc, kerR, if_pos (by rw [hgp, hgq]; exact hpq)])
        have hpb : (p == q) = true := by simpa using hpq
        obtain ⟨G, hG⟩ : ∃ G, G = kerL l i1 ++ kerR l i1 y := ⟨_, rfl⟩
        rw [← hG] at HO2 HST2 hll
        clear hG hp hq hgp hgq hpq he
        have HZ := hid (fun z (hz : Below wr.heap.size wr z) => And.intro (cell_below hz y0) (cell_below hz y1))
        go_upto_region 23 with (fail)
        refine wp_region_plan (by rfl) (fun z : World => Below wr.heap.size wr z) [some (.slice (some ⟨tb, tof, none⟩) L tcap), some (.int .i64 (i1 : Int)), some (.pointer (some ⟨tb, tof + i1, none⟩)), some (.int .i64 p), some (.slice (some ⟨tb, tof, none⟩) L tcap), some (.int .i64 (y : Int)), some (.pointer (some ⟨tb, tof + y, none⟩)), some (.int .i64 q), some (.bool true)] ?aF2a ?haF2a _ rfl (by kernel_rfl) (Below.refl _ _).drew ?hall2a ?hend2a
        case haF2a => (simp only [layAll, Act.put, Option.getD_some, List.setIfInBounds_toArray, List.set_cons_zero, List.set_cons_succ]; rfl)
        case hall2a =>
         repeat (first | (refine Steps.cons (v := none) rfl ?_) | (refine Steps.cons ⟨rfl, fun K z hS hK => ?_⟩ ?_; rotate_left))
         ·exact Steps.nil
         all_goals
          obtain ⟨g0, g1⟩ := HZ.out z hS
          (go_simp; exact hK _ hS)
        case hend2a =>
         intro z hz
         have HO4 := hid (row_below HO2.out hz)
         have HBZ := hid (HBY.out.trans (hz.mono HBY.out.size))
         have hbs4 := hz.size
         clear hz
         go_wp2_with (at_builtin; refine wpList_append_own _ rfl _ _ 28 rfl W.heap.size 38 i0 (.agg #[.int .i64 0, .int .i64 0]) 2 16 Tryz.underlying28 hii hz0 hz1 hz2 rfl (by decide) _ _ _ rfl (HO4.out.alloc _) ⟨z.heap.size, 0, none⟩ 1 1 [.int .i64 (i1 : Int), .int .i64 (y : Int)] rfl rfl (cell_two_new _ _ _ _) (by intro u hu; simp at hu; rcases hu with rfl | rfl <;> rfl) (by unfold maxLen; omega) (by omega) (by simp; omega) ?_; intro v' w8 hown' hgrow _)
         have HO3 := hid hown'
         have HBV := hid (show Below W.heap.size W w8 from (HBZ.out.alloc HBZ.out.size _).grown hgrow (by simp; omega) (fun j hj => (HO4.out.lt j hj).1))
         clear hown' hgrow
         go_wp2_with fail
         go_roundw
         case rel => exact ⟨y + 1, _, by omega, rfl, by go_num, by rw [HST2.out, flatP_snoc, List.length_append]; exact HO3.out, HBV.out⟩
         case measure => simp [intOf]; omega
       ·have HST2 := hid (show kerR l i1 (y + 1) = kerR l i1 y by rw [kerR, if_neg (by rw [hgp, hgq]; exact hpq), List.append_nil])
        have hpb : (p == q) = false := by simpa using hpq
        clear hp hq hgp hgq hpq he
        have HZ := hid (fun z (hz : Below wr.heap.size wr z) => And.intro (cell_below hz y0) (cell_below hz y1))
        go_upto_region 23 with (fail)
        refine wp_region_plan (by rfl) (fun z : World => Below wr.heap.size wr z) [some (.slice (some ⟨tb, tof, none⟩) L tcap), some (.int .i64 (i1 : Int)), some (.pointer (some ⟨tb, tof + i1, none⟩)), some (.int .i64 p), some (.slice (some ⟨tb, tof, none⟩) L tcap), some (.int .i64 (y : Int)), some (.pointer (some ⟨tb, tof + y, none⟩)), some (.int .i64 q), some (.bool false)] ?aF2b ?haF2b _ rfl (by kernel_rfl) (Below.refl _ _).drew ?hall2b ?hend2b
        case haF2b => (simp only [layAll, Act.put, Option.getD_some, List.setIfInBounds_toArray, List.set_cons_zero, List.set_cons_succ]; rfl)
        case hall2b =>
         repeat (first | (refine Steps.cons (v := none) rfl ?_) | (refine Steps.cons ⟨rfl, fun K z hS hK => ?_⟩ ?_; rotate_left))
         ·exact Steps.nil
         all_goals
          obtain ⟨g0, g1⟩ := HZ.out z hS
          (go_simp; exact hK _ hS)
        case hend2b =>
         intro z hz
         have HO4 := hid (row_below HO2.out hz)
         have HBZ := hid (HBY.out.trans (hz.mono HBY.out.size))
         have hbs4 := hz.size
         clear hz
         go_wp2_with fail
         go_roundw
         case rel => exact ⟨y + 1, _, by omega, rfl, by go_num, by rw [HST2.out]; exact HO4.out, HBZ.out⟩
         case measure => simp [intOf]; omega
      ·have HYL := hid (show y = l.length by have := HLL.out; omega)
       obtain rfl : y = L := by omega
       go_wp2_with fail
       go_roundw
       case rel => exact ⟨i1 + 1, _, by omega, rfl, by go_num, by rw [show kerL l (i1 + 1) = kerL l i1 ++ kerR l i1 y by rw [HYL.out]; rfl]; exact HO2.out, HBY.out⟩
       case measure => simp [intOf]; omega
    ·obtain rfl : i1 = L := by omega
     obtain ⟨ar, cr, rfl, _, hp0⟩ := row_prs HO.out (by have h1 := kerL_len l i1; have h2 : i1 * l.length ≤ 200 * 200 := Nat.mul_le_mul hL200 (by have := HLL.out; omega); omega)
     have hp := hp0.anyB
     have HLK := hid (HL2.out hL200 wo HB.out ar cr hp)
     obtain ⟨gm, hgm⟩ : ∃ gm, gm = (kerL l i1).length := ⟨_, rfl⟩
     have hgmb : gm ≤ 50000 := by rw [hgm]; have h1 := kerL_len l i1; have h2 : i1 * l.length ≤ 200 * 200 := Nat.mul_le_mul hL200 (by have := HLL.out; omega); omega
     rw [← hgm] at HLK ⊢
     obtain ⟨⟨c0, c1, c2, c3⟩, d0, d1, d2, d3⟩ := HE.out _ HB.out
     clear hp hp0 hgm HO hE1
     rcases hE with ⟨hE, hb2⟩ | ⟨hE, hb2⟩
     ·subst hE hb2
      go_wp2_with fail
      refine HLK.out.mono ?_
      rintro e w9 ⟨rfl, hb9⟩
      have HB9 := hid (HB.out.trans (hb9.mono HB.out.size))
      clear c0 c1 c2 c3 d0 d1 d2 d3 hb9
      go_wp2_with fail
      refine (HAWK.out _ HB9.out).mono ?_
      rintro e wz ⟨rfl, hbz⟩
      have HBZ := hid (HWB.out.trans ((HB9.out.trans (hbz.mono HB9.out.size)).mono HWB.out.size))
      clear hbz
      go_wp2_with fail
      go_ret
      exact ⟨rfl, HBZ.out⟩
     ·subst hE hb2
      go_wp2_with fail
      refine HLK.out.mono ?_
      rintro e w9 ⟨rfl, hb9⟩
      have HB9 := hid (HB.out.trans (hb9.mono HB.out.size))
      clear c0 c1 c2 c3 d0 d1 d2 d3 hb9
      go_wp2_with fail
      refine (HAWK.out _ HB9.out).mono ?_
      rintro e wz ⟨rfl, hbz⟩
      have HBZ := hid (HWB.out.trans ((HB9.out.trans (hbz.mono HB9.out.size)).mono HWB.out.size))
      clear hbz
      go_wp2_with fail
      go_ret
      exact ⟨rfl, HBZ.out⟩
  | true =>
  replace HSI := hid (HSI.out HHN.out hqh)
  subst hqh
  clear HST
  go_wp2_with fail
  go_loopw [9, 54] (fun v i wr => ∃ (k : Nat) (x : Value), k ≤ H ∧ x = v ∧ i = .int .i64 k ∧ wr.ownsRow W.heap.size 38 2 x (grL h k).length (flatP (grL h k)) ∧ Below W.heap.size W wr) (fun _ i _ => H - (intOf i).toNat)
  case atStart => exact ⟨0, _, Nat.zero_le _, rfl, rfl, World.ownsRow_nil _ _ _ _, HB3.out⟩
  case round =>
   obtain ⟨k, x, hk, rfl, rfl, hown, hb⟩ := hrel
   have HO := hid hown
   have HB := hid hb
   have hbs2 := hb.size
   have hgl : (grL h k).length ≤ 10100 := by rw [grL_len]; omega
   clear hown hb c0 c1 c2 c3 d0 d1 d2 d3
   by_cases hlt : k < H
   ·have hkl : k < h.length := by rw [← HHH.out]; exact hlt
    obtain ⟨hb0, ho, rfl, y0⟩ := (HI.out.below HB.out).get hkl
    obtain ⟨z, hz⟩ : ∃ z, z = h[k] := ⟨_, rfl⟩
    rw [← hz] at y0
    have HST2 := hid (show grL h (k + 1) = grL h k ++ [((k : Int), z)] by rw [hz]; simp [grL, List.getD, List.getElem?_eq_getElem hkl])
    obtain ⟨G, hG⟩ : ∃ G, G = grL h k := ⟨_, rfl⟩
    rw [← hG] at HO HST2 hgl
    have hkH : (k : Int) < (H : Int) := by omega
    clear hG hz hkl
    go_wp2_with (at_builtin; refine wpList_append_own _ rfl _ _ 28 rfl W.heap.size 38 i0 (.agg #[.int .i64 0, .int .i64 0]) 2 16 Tryz.underlying28 hii hz0 hz1 hz2 rfl (by decide) _ _ _ rfl (HO.out.alloc _) ⟨wr.heap.size, 0, none⟩ 1 1 [.int .i64 (k : Int), .int .i64 z] rfl rfl (cell_two_new _ _ _ _) (by intro u hu; simp at hu; rcases hu with rfl | rfl <;> rfl) (by unfold maxLen; omega) (by omega) (by simp; omega) ?_; intro v' w4 hown' hgrow _)
    have HO3 := hid hown'
    have HB3' := hid (show Below W.heap.size W w4 from (HB.out.alloc HB.out.size _).grown hgrow (by simp; omega) (fun j hj => (HO.out.lt j hj).1))
    clear hown' hgrow
    go_wp2_with fail
    go_roundw
    case rel => exact ⟨k + 1, _, by omega, rfl, by go_num, by rw [HST2.out, flatP_snoc, List.length_append]; exact HO3.out, HB3'.out⟩
    case measure => simp [intOf]; omega
   ·obtain rfl : k = H := by omega
    obtain ⟨ar, cr, rfl, _, hp0⟩ := row_prs HO.out (by rw [grL_len]; omega)
    have hp := hp0.anyB
    have HLC := hid (fun y (hy : Below wr.heap.size wr y) => HL1.out hH200 y (HB.out.trans (hy.mono HB.out.size)) ar cr (hp.below hy))
    obtain ⟨gn, hgn⟩ : ∃ gn, gn = (grL h k).length := ⟨_, rfl⟩
    rw [← hgn] at HLC hgl ⊢
    obtain ⟨⟨c0, c1, c2, c3⟩, d0, d1, d2, d3⟩ := HE.out _ HB.out
    clear hp hp0 hgn HO HL1 hbs2
    go_wp2_with fail
    refine (HSI.out _ HB.out).mono ?_
    rintro e w4 ⟨rfl, hb4⟩
    have HR4 := hid hb4
    have HB4 := hid (HB.out.trans (hb4.mono HB.out.size))
    clear c0 c1 c2 c3 d0 d1 d2 d3 hb4
    obtain ⟨⟨c0, c1, c2, c3⟩, d0, d1, d2, d3⟩ := HE.out _ HB4.out
    go_wp2_with fail
    refine (HLC.out _ HR4.out).mono ?_
    rintro e w5 ⟨rfl, hb5⟩
    have HB5 := hid (HB4.out.trans (hb5.mono HB4.out.size))
    clear c0 c1 c2 c3 d0 d1 d2 d3 hb5
    obtain ⟨⟨c0, c1, c2, c3⟩, d0, d1, d2, d3⟩ := HE.out _ HB5.out
    go_wp2_with fail
    refine (HQU.out _ HB5.out).mono ?_
    rintro e wq ⟨qk, qn, qa, qa2, ql, qc, ql2, qc2, E, rfl, hE, hbq⟩
    have HBQ := hid (HB5.out.trans (hbq.mono HB5.out.size))
    clear c0 c1 c2 c3 d0 d1 d2 d3 hbq
    obtain ⟨⟨c0, c1, c2, c3⟩, d0, d1, d2, d3⟩ := HE.out _ HBQ.out
    obtain ⟨X, hX⟩ : ∃ X : World, X = wq.alloc (Obj.cells #[.int .i64 qk, .int .i64 qn, .slice qa ql qc, .slice qa2 ql2 qc2] 27) := ⟨_, rfl⟩
    have HBX := hid (show Below W.heap.size W X by rw [hX]; exact HBQ.out.alloc HBQ.out.size _)
    rcases hE with hE | hE
    ·subst hE
     go_wp2_with fail
     rw [← hX]
     clear hX
     refine (HAWK.out _ HBX.out).mono ?_
     rintro e wz ⟨rfl, hbz⟩
     have HBZ := hid (HWB.out.trans ((HBX.out.trans (hbz.mono HBX.out.size)).mono HWB.out.size))
     clear hbz
     go_wp2_with fail
     go_ret
     exact ⟨rfl, HBZ.out⟩
    have hE1 : (E == 1) = false := by rcases hE with ⟨rfl, _⟩ | ⟨rfl, _⟩ <;> rfl
    go_wp2_with fail
    rw [← hX]
    clear hX
    go_loopw [16, 94] (fun v i wr => ∃ (i1 : Nat) (x : Value), i1 ≤ L ∧ x = v ∧ i = .int .i64 i1 ∧ wr.ownsRow W.heap.size 38 2 x (kerL l i1).length (flatP (kerL l i1)) ∧ Below W.heap.size W wr) (fun _ i _ => L - (intOf i).toNat)
    case atStart => exact ⟨0, _, Nat.zero_le _, rfl, rfl, World.ownsRow_nil _ _ _ _, HBX.out⟩
    case round =>
     obtain ⟨i1, v, hi1, rfl, rfl, hown, hb⟩ := hrel
     have HO := hid hown
     have HB := hid hb
     clear hown hb c0 c1 c2 c3 d0 d1 d2 d3
     obtain ⟨wo, rfl⟩ : ∃ wo : World, wo = wr := ⟨_, rfl⟩
     by_cases hlt : i1 < L
     ·have hil : i1 < l.length := by rw [← HLL.out]; exact hlt
      go_wp2_with fail
      go_loopw [16, 99] (fun v i ws => ∃ (y : Nat) (x : Value), y ≤ L ∧ x = v ∧ i = .int .i64 y ∧ ws.ownsRow W.heap.size 38 2 x (kerL l i1 ++ kerR l i1 y).length (flatP (kerL l i1 ++ kerR l i1 y)) ∧ Below W.heap.size W ws) (fun _ i _ => L - (intOf i).toNat)
      case atStart => exact ⟨0, _, Nat.zero_le _, rfl, rfl, by simpa [kerR] using HO.out, HB.out⟩
      case round =>
       obtain ⟨y, x, hy, rfl, rfl, hown, hb⟩ := hrel
       have HO2 := hid hown
       have HBY := hid hb
       have hbs3 := hb.size
       have hll : (kerL l i1 ++ kerR l i1 y).length ≤ 50000 := by
        rw [List.length_append]
        have h1 := kerL_len l i1
        have h2 := kerR_len l i1 y
        have h3 : i1 * l.length ≤ 200 * 200 := Nat.mul_le_mul (by omega) (by have := HLL.out; omega)
        omega
       clear hown hb
       by_cases hlt2 : y < L
       ·have hyl : y < l.length := by rw [← HLL.out]; exact hlt2
        obtain ⟨tb, tof, rfl, y0⟩ := (HI2.out.below HBY.out).get hil
        obtain ⟨tb2, tof2, he, y1⟩ := (HI2.out.below HBY.out).get hyl
        obtain ⟨rfl, rfl⟩ : tb = tb2 ∧ tof = tof2 := by simpa using he
        obtain ⟨p, hp⟩ : ∃ p, p = l[i1] := ⟨_, rfl⟩
        obtain ⟨q, hq⟩ : ∃ q, q = l[y] := ⟨_, rfl⟩
        rw [← hp] at y0
        rw [← hq] at y1
        have hgp : l.getD i1 0 = p := by rw [hp]; simp [List.getD, List.getElem?_eq_getElem hil]
        have hgq : l.getD y 0 = q := by rw [hq]; simp [List.getD, List.getElem?_eq_getElem hyl]
        have hiL : (i1 : Int) < (L : Int) := by omega
        have hyL : (y : Int) < (L : Int) := by omega
        by_cases hpq : p = q
        ·have HST2 := hid (show kerL l i1 ++ kerR l i1 (y + 1) = (kerL l i1 ++ kerR l i1 y) ++ [((i1 : Int), (y : Int))] by rw [List.append_assoc, kerR, if_pos (by rw [hgp, hgq]; exact hpq)])
         have hpb : (p == q) = true := by simpa using hpq
         obtain ⟨G, hG⟩ : ∃ G, G = kerL l i1 ++ kerR l i1 y := ⟨_, rfl⟩
         rw [← hG] at HO2 HST2 hll
         clear hG hp hq hgp hgq hpq he
         have HZ := hid (fun z (hz : Below wr.heap.size wr z) => And.intro (cell_below hz y0) (cell_below hz y1))
         go_upto_region 23 with (fail)
         refine wp_region_plan (by rfl) (fun z : World => Below wr.heap.size wr z) [some (.slice (some ⟨tb, tof, none⟩) L tcap), some (.int .i64 (i1 : Int)), some (.pointer (some ⟨tb, tof + i1, none⟩)), some (.int .i64 p), some (.slice (some ⟨tb, tof, none⟩) L tcap), some (.int .i64 (y : Int)), some (.pointer (some ⟨tb, tof + y, none⟩)), some (.int .i64 q), some (.bool true)] ?aF3a ?haF3a _ rfl (by kernel_rfl) (Below.refl _ _).drew ?hall3a ?hend3a
         case haF3a => (simp only [layAll, Act.put, Option.getD_some, List.setIfInBounds_toArray, List.set_cons_zero, List.set_cons_succ]; rfl)
         case hall3a =>
          repeat (first | (refine Steps.cons (v := none) rfl ?_) | (refine Steps.cons ⟨rfl, fun K z hS hK => ?_⟩ ?_; rotate_left))
          ·exact Steps.nil
          all_goals
           obtain ⟨g0, g1⟩ := HZ.out z hS
           (go_simp; exact hK _ hS)
         case hend3a =>
          intro z hz
          have HO4 := hid (row_below HO2.out hz)
          have HBZ := hid (HBY.out.trans (hz.mono HBY.out.size))
          have hbs4 := hz.size
          clear hz
          go_wp2_with (at_builtin; refine wpList_append_own _ rfl _ _ 28 rfl W.heap.size 38 i0 (.agg #[.int .i64 0, .int .i64 0]) 2 16 Tryz.underlying28 hii hz0 hz1 hz2 rfl (by decide) _ _ _ rfl (HO4.out.alloc _) ⟨z.heap.size, 0, none⟩ 1 1 [.int .i64 (i1 : Int), .int .i64 (y : Int)] rfl rfl (cell_two_new _ _ _ _) (by intro u hu; simp at hu; rcases hu with rfl | rfl <;> rfl) (by unfold maxLen; omega) (by omega) (by simp; omega) ?_; intro v' w8 hown' hgrow _)
          have HO3 := hid hown'
          have HBV := hid (show Below W.heap.size W w8 from (HBZ.out.alloc HBZ.out.size _).grown hgrow (by simp; omega) (fun j hj => (HO4.out.lt j hj).1))
          clear hown' hgrow
          go_wp2_with fail
          go_roundw
          case rel => exact ⟨y + 1, _, by omega, rfl, by go_num, by rw [HST2.out, flatP_snoc, List.length_append]; exact HO3.out, HBV.out⟩
          case measure => simp [intOf]; omega
        ·have HST2 := hid (show kerR l i1 (y + 1) = kerR l i1 y by rw [kerR, if_neg (by rw [hgp, hgq]; exact hpq), List.append_nil])
         have hpb : (p == q) = false := by simpa using hpq
         clear hp hq hgp hgq hpq he
         have HZ := hid (fun z (hz : Below wr.heap.size wr z) => And.intro (cell_below hz y0) (cell_below hz y1))
         go_upto_region 23 with (fail)
         refine wp_region_plan (by rfl) (fun z : World => Below wr.heap.size wr z) [some (.slice (some ⟨tb, tof, none⟩) L tcap), some (.int .i64 (i1 : Int)), some (.pointer (some ⟨tb, tof + i1, none⟩)), some (.int .i64 p), some (.slice (some ⟨tb, tof, none⟩) L tcap), some (.int .i64 (y : Int)), some (.pointer (some ⟨tb, tof + y, none⟩)), some (.int .i64 q), some (.bool false)] ?aF3b ?haF3b _ rfl (by kernel_rfl) (Below.refl _ _).drew ?hall3b ?hend3b
         case haF3b => (simp only [layAll, Act.put, Option.getD_some, List.setIfInBounds_toArray, List.set_cons_zero, List.set_cons_succ]; rfl)
         case hall3b =>
          repeat (first | (refine Steps.cons (v := none) rfl ?_) | (refine Steps.cons ⟨rfl, fun K z hS hK => ?_⟩ ?_; rotate_left))
          ·exact Steps.nil
          all_goals
           obtain ⟨g0, g1⟩ := HZ.out z hS
           (go_simp; exact hK _ hS)
         case hend3b =>
          intro z hz
          have HO4 := hid (row_below HO2.out hz)
          have HBZ := hid (HBY.out.trans (hz.mono HBY.out.size))
          have hbs4 := hz.size
          clear hz
          go_wp2_with fail
          go_roundw
          case rel => exact ⟨y + 1, _, by omega, rfl, by go_num, by rw [HST2.out]; exact HO4.out, HBZ.out⟩
          case measure => simp [intOf]; omega
       ·have HYL := hid (show y = l.length by have := HLL.out; omega)
        obtain rfl : y = L := by omega
        go_wp2_with fail
        go_roundw
        case rel => exact ⟨i1 + 1, _, by omega, rfl, by go_num, by rw [show kerL l (i1 + 1) = kerL l i1 ++ kerR l i1 y by rw [HYL.out]; rfl]; exact HO2.out, HBY.out⟩
        case measure => simp [intOf]; omega
     ·obtain rfl : i1 = L := by omega
      obtain ⟨ar, cr, rfl, _, hp0⟩ := row_prs HO.out (by have h1 := kerL_len l i1; have h2 : i1 * l.length ≤ 200 * 200 := Nat.mul_le_mul hL200 (by have := HLL.out; omega); omega)
      have hp := hp0.anyB
      have HLK := hid (HL2.out hL200 wo HB.out ar cr hp)
      obtain ⟨gm, hgm⟩ : ∃ gm, gm = (kerL l i1).length := ⟨_, rfl⟩
      have hgmb : gm ≤ 50000 := by rw [hgm]; have h1 := kerL_len l i1; have h2 : i1 * l.length ≤ 200 * 200 := Nat.mul_le_mul hL200 (by have := HLL.out; omega); omega
      rw [← hgm] at HLK ⊢
      obtain ⟨⟨c0, c1, c2, c3⟩, d0, d1, d2, d3⟩ := HE.out _ HB.out
      clear hp hp0 hgm HO hE1
      rcases hE with ⟨hE, hb2⟩ | ⟨hE, hb2⟩
      ·subst hE hb2
       go_wp2_with fail
       refine HLK.out.mono ?_
       rintro e w9 ⟨rfl, hb9⟩
       have HB9 := hid (HB.out.trans (hb9.mono HB.out.size))
       clear c0 c1 c2 c3 d0 d1 d2 d3 hb9
       go_wp2_with fail
       refine (HAWK.out _ HB9.out).mono ?_
       rintro e wz ⟨rfl, hbz⟩
       have HBZ := hid (HWB.out.trans ((HB9.out.trans (hbz.mono HB9.out.size)).mono HWB.out.size))
       clear hbz
       go_wp2_with fail
       go_ret
       exact ⟨rfl, HBZ.out⟩
      ·subst hE hb2
       go_wp2_with fail
       refine HLK.out.mono ?_
       rintro e w9 ⟨rfl, hb9⟩
       have HB9 := hid (HB.out.trans (hb9.mono HB.out.size))
       clear c0 c1 c2 c3 d0 d1 d2 d3 hb9
       go_wp2_with fail
       refine (HAWK.out _ HB9.out).mono ?_
       rintro e wz ⟨rfl, hbz⟩
       have HBZ := hid (HWB.out.trans ((HB9.out.trans (hbz.mono HB9.out.size)).mono HWB.out.size))
       clear hbz
       go_wp2_with fail
       go_ret
       exact ⟨rfl, HBZ.out⟩
end Go.Proofs.YtcekilcgpgjooaaGreatDoor
