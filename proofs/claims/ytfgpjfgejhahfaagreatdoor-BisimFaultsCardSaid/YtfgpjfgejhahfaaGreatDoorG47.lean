/- Proved here: contracts of the walk to BisimFaults: Within and Largest; each under the conditions that its own statement names. -/
import Derived.Test.YtfgpjfgejhahfaaGreatDoorG46
set_option maxRecDepth 100000
set_option maxHeartbeats 6400000
namespace Go.Proofs.YtfgpjfgejhahfaaGreatDoor
open Go Go.RowKit
open Go.Lib (hid)
def GrtL (f : F) (t u : V) (r L : List (Int × Int)) : Prop := ∃ M, L = keptL r M r.length ∧ Grt r r.length (phiR f t u r) M
def NewG (ok : Prop) (w : World) (v : Value) (w' : World) (f : F) (t u : V) (r : List (Int × Int)) : Prop :=
 ∃ L : List (Int × Int), w'.ownsRow w.heap.size 61 2 v L.length (flatP L) ∧ (¬ ok → L = []) ∧ (ok → GrtL f t u r L)
theorem NewG.nil {ok : Prop} {w w' : World} {f : F} {t u : V} {r : List (Int × Int)} (h : ¬ ok) : NewG ok w (.slice none 0 0) w' f t u r := ⟨[], World.ownsRow_nil _ _ _ _, fun _ => rfl, fun h2 => absurd h2 h⟩
theorem within_anyT (S S2 : Nat → Nat → Prop) (S' S2' S3 : Nat → Prop) (f g : F) (a na a2 na2 ar : Option Addr) (cap ncap cap2 ncap2 cr : Nat) (t u : V) (r : List (Int × Int)) (w : World) (hs : Sl S w a f.t) (hv : Vl S' w na t) (hs2 : Sl S2 w a2 g.t) (hv2 : Vl S2' w na2 u) (hk : Kinds w) (hr : Prs S3 w ar r) (hN : r.length ≤ 10000) :
    Calls Tryz.prog 20 #[Sv f a cap na t.len ncap, Sv g a2 cap2 na2 u.len ncap2, .slice ar r.length cr] w fun e w' => ∃ v, e = .returned (.tuple #[v, .int .i64 (relE' f t g u r)]) ∧ NewG (relE' f t g u r = 0) w v w' f t u r ∧ Below w.heap.size w w' := by
 obtain ⟨W, hW⟩ : ∃ W : World, W = (w.alloc (Obj.cells #[.int .i64 f.k, .int .i64 f.n, .slice a f.t.len cap, .slice na t.len ncap] 42)).alloc (Obj.cells #[.int .i64 g.k, .int .i64 g.n, .slice a2 g.t.len cap2, .slice na2 u.len ncap2] 42) := ⟨_, rfl⟩
 have hWb : Below w.heap.size w W := by rw [hW]; exact ba2 _ _ _
 have k0 : W.heap[w.heap.size]? = some (Obj.cells #[.int .i64 f.k, .int .i64 f.n, .slice a f.t.len cap, .slice na t.len ncap] 42 (0, 0)) := by rw [hW]; exact heap_old2 _ _ _
 have k1 : W.heap[w.heap.size + 1]? = some (Obj.cells #[.int .i64 g.k, .int .i64 g.n, .slice a2 g.t.len cap2, .slice na2 u.len ncap2] 42 (0, 0)) := by rw [hW]; exact heap_new2 _ _ _
 obtain ⟨bs, hbs⟩ : ∃ bs, bs = w.heap.size := ⟨_, rfl⟩
 rw [← hbs] at k0 k1
 have HE := hid (fun x (hx : Below W.heap.size W x) => And.intro (cells4 ((hx.block _ (heap_lt k0)).trans k0)) (cells4 ((hx.block _ (heap_lt k1)).trans k1)))
 have HWB := hid hWb
 have HC := hid (fun x (hx : Below W.heap.size W x) => crel_any S S2 S' S2' S3 f g a na a2 na2 ar cap ncap cap2 ncap2 cr t u r x ((hs.below hWb).below hx) ((hv.below hWb).below hx) ((hs2.below hWb).below hx) ((hv2.below hWb).below hx) ((hk.below hWb).below hx) ((hr.below hWb).below hx))
 obtain ⟨E, hE⟩ : ∃ E, E = relE' f t g u r := ⟨_, rfl⟩
 have HEE := hid hE
 rw [← hE] at HC ⊢
 have hcs : E = 30 ∨ E = 1 ∨ E = 0 := by
  rw [hE]; unfold relE'
  rcases bothE_cases f t g u with h | h | h <;> rw [h]
  ·simp
  ·simp
  ·by_cases h2 : relFrom t.len u.len none r = true <;> simp [h2]
 have HLW := hid (fun (h0 : relE' f t g u r = 0) x (hx : Below W.heap.size W x) => show Calls Tryz.prog 64 #[Sv f a cap na t.len ncap, Sv g a2 cap2 na2 u.len ncap2, .slice ar r.length cr] x (fun e w' => ∃ v, e = .returned v ∧ (∃ L : List (Int × Int), w'.ownsRow x.heap.size 61 2 v L.length (flatP L) ∧ GrtL f t u r L) ∧ Below x.heap.size x w') from by
  have hok := relE'_ok h0
  obtain ⟨hy1, hy2, rfl⟩ := both_ok hok.1
  refine (lw_anyT S S2 S' S2' S3 f a na a2 na2 ar cap ncap cap2 ncap2 cr t u r x ((hs.below hWb).below hx) ((hv.below hWb).below hx) ((hv2.below hWb).below hx) ((hr.below hWb).below hx) hN hy1 hy2 (relFrom_in hok.2)).mono ?_
  rintro e w' ⟨v, M, rfl, h1, h2, h3⟩
  exact ⟨v, rfl, ⟨_, h1, M, rfl, h3⟩, h2⟩)
 have hl1 := hv.1
 have hl2 := hv2.1
 obtain ⟨⟨c0, c1, c2, c3⟩, d0, d1, d2, d3⟩ := HE.out _ (Below.refl _ _)
 obtain ⟨N, hNN⟩ : ∃ N, N = r.length := ⟨_, rfl⟩
 rw [← hNN] at HC HLW ⊢
 clear hs hv hs2 hv2 hk hr k0 k1 hWb hE hNN
 by_cases h0 : E = 0
 rotate_left
 ·rcases hcs with rfl | rfl | rfl
  ·clear h0 HLW
   go_enter Tryz.func20, Tryz.ntmps20
   go_wp2_with fail
   rw [← hW, ← hbs]
   clear hW hbs
   refine (HC.out _ (Below.refl _ _)).mono ?_
   rintro e w1 ⟨rfl, hb1⟩
   have HB1 := hid hb1
   clear hb1
   go_wp2_with fail
   go_ret2
   exact ⟨_, rfl, NewG.nil (by first | decide | simp), HWB.out.trans (HB1.out.mono HWB.out.size)⟩
  ·clear h0 HLW
   go_enter Tryz.func20, Tryz.ntmps20
   go_wp2_with fail
   rw [← hW, ← hbs]
   clear hW hbs
   refine (HC.out _ (Below.refl _ _)).mono ?_
   rintro e w1 ⟨rfl, hb1⟩
   have HB1 := hid hb1
   clear hb1
   go_wp2_with fail
   go_ret2
   exact ⟨_, rfl, NewG.nil (by first | decide | simp), HWB.out.trans (HB1.out.mono HWB.out.size)⟩
  ·exact absurd rfl h0
 ·subst h0
  clear hcs
  go_enter Tryz.func20, Tryz.ntmps20
  go_wp2_with fail
  rw [← hW, ← hbs]
  clear hW hbs
  refine (HC.out _ (Below.refl _ _)).mono ?_
  rintro e w1 ⟨rfl, hb1⟩
  have HB1 := hid hb1
  clear c0 c1 c2 c3 d0 d1 d2 d3
  obtain ⟨⟨c0, c1, c2, c3⟩, d0, d1, d2, d3⟩ := HE.out _ hb1
  clear hb1
  go_wp2_with fail
  refine (HLW.out HEE.out.symm _ HB1.out).mono ?_
  rintro e w2 ⟨v, rfl, hn, hb2⟩
  have HN2 := hid hn
  have HS2 := hid (Nat.le_trans HWB.out.size HB1.out.size)
  have HB2 := hid (HWB.out.trans ((HB1.out.trans (hb2.mono HB1.out.size)).mono HWB.out.size))
  clear hn hb2 c0 c1 c2 c3 d0 d1 d2 d3
  go_wp2_with fail
  go_ret2
  obtain ⟨L, hL, hG⟩ := HN2.out
  exact ⟨v, rfl, ⟨L, row_mono hL HS2.out, fun h => absurd (by first | rfl | trivial) h, fun _ => hG⟩, HB2.out⟩
theorem largest_anyT (S S2 : Nat → Nat → Prop) (S' S2' : Nat → Prop) (f g : F) (a na a2 na2 : Option Addr) (cap ncap cap2 ncap2 : Nat) (t u : V) (w : World) (hs : Sl S w a f.t) (hv : Vl S' w na t) (hs2 : Sl S2 w a2 g.t) (hv2 : Vl S2' w na2 u) (hk : Kinds w) :
    Calls Tryz.prog 21 #[Sv f a cap na t.len ncap, Sv g a2 cap2 na2 u.len ncap2] w fun e w' => ∃ v, e = .returned (.tuple #[v, .int .i64 (bothE f t g u)]) ∧ NewG (bothE f t g u = 0) w v w' f t u (allL u.len t.len) ∧ Below w.heap.size w w' := by
 obtain ⟨W, hW⟩ : ∃ W : World, W = (w.alloc (Obj.cells #[.int .i64 f.k, .int .i64 f.n, .slice a f.t.len cap, .slice na t.len ncap] 42)).alloc (Obj.cells #[.int .i64 g.k, .int .i64 g.n, .slice a2 g.t.len cap2, .slice na2 u.len ncap2] 42) := ⟨_, rfl⟩
 have hWb : Below w.heap.size w W := by rw [hW]; exact ba2 _ _ _
 have k0 : W.heap[w.heap.size]? = some (Obj.cells #[.int .i64 f.k, .int .i64 f.n, .slice a f.t.len cap, .slice na t.len ncap] 42 (0, 0)) := by rw [hW]; exact heap_old2 _ _ _
 have k1 : W.heap[w.heap.size + 1]? = some (Obj.cells #[.int .i64 g.k, .int .i64 g.n, .slice a2 g.t.len cap2, .slice na2 u.len ncap2] 42 (0, 0)) := by rw [hW]; exact heap_new2 _ _ _
 obtain ⟨bs, hbs⟩ : ∃ bs, bs = w.heap.size := ⟨_, rfl⟩
 rw [← hbs] at k0 k1
 have HE := hid (fun x (hx : Below W.heap.size W x) => And.intro (cells4 ((hx.block _ (heap_lt k0)).trans k0)) (cells4 ((hx.block _ (heap_lt k1)).trans k1)))
 have HWB := hid hWb
 have HC := hid (both_any S S2 S' S2' f g a na a2 na2 cap ncap cap2 ncap2 t u W (hs.below hWb) (hv.below hWb) (hs2.below hWb) (hv2.below hWb) (hk.below hWb))
 obtain ⟨E, hE⟩ : ∃ E, E = bothE f t g u := ⟨_, rfl⟩
 have HEE := hid hE
 rw [← hE] at HC ⊢
 have hcs := bothE_cases f t g u
 rw [← hE] at hcs
 have HLW := hid (fun (h0 : bothE f t g u = 0) x (hx : Below W.heap.size W x) ar cr (r : List (Int × Int)) (hr : Prs (fun _ => True) x ar r) (hN : r.length ≤ 10000) (hin : ∀ z ∈ r, 0 ≤ z.1 ∧ z.1 < t.len ∧ 0 ≤ z.2 ∧ z.2 < u.len) => show Calls Tryz.prog 64 #[Sv f a cap na t.len ncap, Sv g a2 cap2 na2 u.len ncap2, .slice ar r.length cr] x (fun e w' => ∃ v, e = .returned v ∧ (∃ L : List (Int × Int), w'.ownsRow x.heap.size 61 2 v L.length (flatP L) ∧ GrtL f t u r L) ∧ Below x.heap.size x w') from by
  obtain ⟨hy1, hy2, rfl⟩ := both_ok h0
  refine (lw_anyT S S2 S' S2' (fun _ => True) f a na a2 na2 ar cap ncap cap2 ncap2 cr t u r x ((hs.below hWb).below hx) ((hv.below hWb).below hx) ((hv2.below hWb).below hx) hr hN hy1 hy2 hin).mono ?_
  rintro e w' ⟨v, M, rfl, h1, h2, h3⟩
  exact ⟨v, rfl, ⟨_, h1, M, rfl, h3⟩, h2⟩)
 have HLEN := hid (show bothE f t g u = 0 → t.len ≤ 100 ∧ u.len ≤ 100 from fun h0 => by
  obtain ⟨hy1, hy2, _⟩ := both_ok h0
  exact ⟨(sys_parts hy1).2.1, (sys_parts hy2).2.1⟩)
 have hl1 := hv.1
 have hl2 := hv2.1
 obtain ⟨⟨c0, c1, c2, c3⟩, d0, d1, d2, d3⟩ := HE.out _ (Below.refl _ _)
 clear hs hv hs2 hv2 hk k0 k1 hWb hE
 by_cases h0 : E = 0
 rotate_left
 ·rcases hcs with rfl | rfl | rfl
  ·clear h0 HLW
   go_enter Tryz.func21, Tryz.ntmps21
   go_wp2_with fail
   rw [← hW, ← hbs]
   clear hW hbs
   refine HC.out.mono ?_
   rintro e w1 ⟨rfl, hb1⟩
   have HB1 := hid hb1
   clear hb1
   go_wp2_with fail
   go_ret2
   exact ⟨_, rfl, NewG.nil (by first | decide | simp), HWB.out.trans (HB1.out.mono HWB.out.size)⟩
  ·clear h0 HLW
   go_enter Tryz.func21, Tryz.ntmps21
   go_wp2_with fail
   rw [← hW, ← hbs]
   clear hW hbs
   refine HC.out.mono ?_
   rintro e w1 ⟨rfl, hb1⟩
   have HB1 := hid hb1
   clear hb1
   go_wp2_with fail
   go_ret2
   exact ⟨_, rfl, NewG.nil (by first | decide | simp), HWB.out.trans (HB1.out.mono HWB.out.size)⟩
  ·exact absurd rfl h0
 ·subst h0
  obtain ⟨hn1, hn2⟩ := HLEN.out HEE.out.symm
  clear hcs
  go_enter Tryz.func21, Tryz.ntmps21
  go_wp2_with fail
  rw [← hW, ← hbs]
  clear hW hbs
  refine HC.out.mono ?_
  rintro e w1 ⟨rfl, hb1⟩
  have HB1 := hid hb1
  clear c0 c1 c2 c3 d0 d1 d2 d3
  obtain ⟨⟨c0, c1, c2, c3⟩, d0, d1, d2, d3⟩ := HE.out _ hb1
  have HALL := hid (show Calls Tryz.prog 66 #[.int .i64 (t.len : Int), .int .i64 (u.len : Int)] w1.drew (fun e w' => ∃ ar cr, e = .returned (.slice ar (allL u.len t.len).length cr) ∧ Prs (fun _ => True) w' ar (allL u.len t.len) ∧ Below w1.heap.size w1 w') from by
   refine (all_any t.len u.len w1.drew hn1 hn2).mono ?_
   rintro e w' ⟨v, rfl, hown, hb⟩
   have hle : (allL u.len t.len).length ≤ 10000 := by rw [allL_len]; exact Nat.mul_le_mul hn1 hn2
   obtain ⟨ar, cr, rfl, _, hp⟩ := row_prs hown (by omega)
   refine ⟨ar, cr, rfl, ⟨hp.1, hp.2.imp id (fun ⟨b, o, h1, _, h3⟩ => ⟨b, o, h1, trivial, h3⟩)⟩, ⟨hb.os, hb.tape, hb.output, hb.size, hb.block⟩⟩)
  clear hb1
  go_wp2_with fail
  go_region_held3 (fun x : World => x.cell? ⟨bs, 0, none⟩ = some (.int .i64 f.k) ∧ x.cell? ⟨bs, 1, none⟩ = some (.int .i64 f.n) ∧ x.cell? ⟨bs, 2, none⟩ = some (.slice a f.t.len cap) ∧ x.cell? ⟨bs, 3, none⟩ = some (.slice na t.len ncap) ∧ x.cell? ⟨bs + 1, 0, none⟩ = some (.int .i64 g.k) ∧ x.cell? ⟨bs + 1, 1, none⟩ = some (.int .i64 g.n) ∧ x.cell? ⟨bs + 1, 2, none⟩ = some (.slice a2 g.t.len cap2) ∧ x.cell? ⟨bs + 1, 3, none⟩ = some (.slice na2 u.len ncap2)) (first | exact ⟨c0, c1, c2, c3, d0, d1, d2, d3⟩ | exact ⟨y0, y1, y2, y3, z0, z1, z2, z3⟩ | exact ⟨x0, x1, x2, x3, v0, v1, v2, v3⟩ | fail) (first | (go_at_call 66; refine HALL.out.mono ?_; rintro e w2 ⟨ar, cr, rfl, hpr, hb2⟩; have HPR := hid hpr; have HB2 := hid (HB1.out.trans (hb2.mono HB1.out.size)); obtain ⟨⟨y0, y1, y2, y3⟩, z0, z1, z2, z3⟩ := HE.out _ HB2.out; clear hpr hb2) | (go_at_call 64; refine (HLW.out HEE.out.symm w2 HB2.out ar cr (allL u.len t.len) HPR.out (by rw [allL_len]; exact Nat.mul_le_mul hn1 hn2) (fun z hz => by obtain ⟨i, j, h1, h2, rfl⟩ := mem_allL.1 hz; simp only; omega)).mono ?_; rintro e w3 ⟨v, rfl, hnp, hb3⟩; have HNP := hid hnp; have HB3 := hid (HB2.out.trans (hb3.mono HB2.out.size)); obtain ⟨⟨x0, x1, x2, x3⟩, v0, v1, v2, v3⟩ := HE.out _ HB3.out; clear hnp hb3) | fail)
  go_wp2_with fail
  go_ret2
  obtain ⟨L, hL, hG⟩ := HNP.out
  exact ⟨v, rfl, ⟨L, row_mono hL (Nat.le_trans HWB.out.size HB2.out.size), fun h => absurd (by first | rfl | trivial) h, fun _ => hG⟩, HWB.out.trans (HB3.out.mono HWB.out.size)⟩
end Go.Proofs.YtfgpjfgejhahfaaGreatDoor
