/-
  Proved here: contracts of the walk to BisimOwn: bisim.Within, bisim.Is, bisim.Largest, and what the law does to a result; each under the conditions that its own statement names.
-/
import Derived.Test.YtfgpjfgejhahfaaGreatDoorG42
import Derived.Test.YtfgpjfgejhahfaaGreatDoorG43
namespace Go.Proofs.YtfgpjfgejhahfaaGreatDoor
open Go Go.RowKit

/-- A new list of pairs. -/
def NewPs (w : World) (v : Value) (w' : World) : Prop := ∃ L : List (Int × Int), w'.ownsRow w.heap.size 61 2 v L.length (flatP L)
theorem NewPs.nil (w w' : World) : NewPs w (.slice none 0 0) w' := ⟨[], World.ownsRow_nil _ _ _ _⟩

set_option maxRecDepth 100000 in
set_option maxHeartbeats 3200000 in
theorem within_any (S S2 : Nat → Nat → Prop) (S' S2' S3 : Nat → Prop) (f g : F) (a na a2 na2 ar : Option Addr) (cap ncap cap2 ncap2 cr : Nat) (t u : V) (r : List (Int × Int)) (w : World) (hs : Sl S w a f.t) (hv : Vl S' w na t) (hs2 : Sl S2 w a2 g.t) (hv2 : Vl S2' w na2 u) (hk : Kinds w) (hr : Prs S3 w ar r) (hN : r.length ≤ 10000) :
    Calls Tryz.prog 20 #[Sv f a cap na t.len ncap, Sv g a2 cap2 na2 u.len ncap2, .slice ar r.length cr] w fun e w' => ∃ v, e = .returned (.tuple #[v, .int .i64 (relE' f t g u r)]) ∧ NewPs w v w' ∧ Below w.heap.size w w' := by
  obtain ⟨W, hW⟩ : ∃ W : World, W = (w.alloc (Obj.cells #[.int .i64 f.k, .int .i64 f.n, .slice a f.t.len cap, .slice na t.len ncap] 42)).alloc (Obj.cells #[.int .i64 g.k, .int .i64 g.n, .slice a2 g.t.len cap2, .slice na2 u.len ncap2] 42) := ⟨_, rfl⟩
  have hWb : Below w.heap.size w W := by rw [hW]; exact ((Below.refl _ _).alloc (Nat.le_refl _) _).alloc (by simp) _
  have k0 : W.heap[w.heap.size]? = some (Obj.cells #[.int .i64 f.k, .int .i64 f.n, .slice a f.t.len cap, .slice na t.len ncap] 42 (0, 0)) := by rw [hW]; exact heap_old2 _ _ _
  have k1 : W.heap[w.heap.size + 1]? = some (Obj.cells #[.int .i64 g.k, .int .i64 g.n, .slice a2 g.t.len cap2, .slice na2 u.len ncap2] 42 (0, 0)) := by rw [hW]; exact heap_new2 _ _ _
  obtain ⟨bs, hbs⟩ : ∃ bs, bs = w.heap.size := ⟨_, rfl⟩
  rw [← hbs] at k0 k1
  have HE := Lib.hid (fun x (hx : Below W.heap.size W x) => And.intro (cells4 ((hx.block _ (heap_lt k0)).trans k0)) (cells4 ((hx.block _ (heap_lt k1)).trans k1)))
  have HWB := Lib.hid hWb
  have HC := Lib.hid (fun x (hx : Below W.heap.size W x) => crel_any S S2 S' S2' S3 f g a na a2 na2 ar cap ncap cap2 ncap2 cr t u r x ((hs.below hWb).below hx) ((hv.below hWb).below hx) ((hs2.below hWb).below hx) ((hv2.below hWb).below hx) ((hk.below hWb).below hx) ((hr.below hWb).below hx))
  obtain ⟨E, hE⟩ : ∃ E, E = relE' f t g u r := ⟨_, rfl⟩
  have HEE := Lib.hid hE
  rw [← hE] at HC ⊢
  have hcs : E = 30 ∨ E = 1 ∨ E = 0 := by
    rw [hE]; unfold relE'
    rcases bothE_cases f t g u with h | h | h <;> rw [h]
    · simp
    · simp
    · by_cases h2 : relFrom t.len u.len none r = true <;> simp [h2]
  have HLW := Lib.hid (fun (h0 : relE' f t g u r = 0) x (hx : Below W.heap.size W x) => show Calls Tryz.prog 64 #[Sv f a cap na t.len ncap, Sv g a2 cap2 na2 u.len ncap2, .slice ar r.length cr] x (fun e w' => ∃ v, e = .returned v ∧ NewPs x v w' ∧ Below x.heap.size x w') from by
    have hok := relE'_ok h0
    obtain ⟨hy1, hy2, rfl⟩ := both_ok hok.1
    refine (lw_any S S2 S' S2' S3 f a na a2 na2 ar cap ncap cap2 ncap2 cr t u r x ((hs.below hWb).below hx) ((hv.below hWb).below hx) ((hv2.below hWb).below hx) ((hr.below hWb).below hx) hN hy1 hy2 (relFrom_in hok.2)).mono ?_
    rintro e w' ⟨v, M, rfl, h1, h2⟩
    exact ⟨v, rfl, ⟨_, h1⟩, h2⟩)
  have hl1 := hv.1
  have hl2 := hv2.1
  obtain ⟨⟨c0, c1, c2, c3⟩, d0, d1, d2, d3⟩ := HE.out _ (Below.refl _ _)
  obtain ⟨N, hNN⟩ : ∃ N, N = r.length := ⟨_, rfl⟩
  rw [← hNN] at HC HLW ⊢
  clear hs hv hs2 hv2 hk hr k0 k1 hWb hE hNN
  by_cases h0 : E = 0
  rotate_left
  · rcases hcs with rfl | rfl | rfl
    · clear h0 HLW
      go_enter Tryz.func20, Tryz.ntmps20
      go_wp2_with fail
      rw [← hW, ← hbs]
      clear hW hbs
      refine (HC.out _ (Below.refl _ _)).mono ?_
      rintro e w1 ⟨rfl, hb1⟩
      have HB1 := Lib.hid hb1
      clear hb1
      go_wp2_with fail
      go_ret2
      exact ⟨_, rfl, NewPs.nil _ _, HWB.out.trans (HB1.out.mono HWB.out.size)⟩
    · clear h0 HLW
      go_enter Tryz.func20, Tryz.ntmps20
      go_wp2_with fail
      rw [← hW, ← hbs]
      clear hW hbs
      refine (HC.out _ (Below.refl _ _)).mono ?_
      rintro e w1 ⟨rfl, hb1⟩
      have HB1 := Lib.hid hb1
      clear hb1
      go_wp2_with fail
      go_ret2
      exact ⟨_, rfl, NewPs.nil _ _, HWB.out.trans (HB1.out.mono HWB.out.size)⟩
    · exact absurd rfl h0
  · subst h0
    clear hcs
    go_enter Tryz.func20, Tryz.ntmps20
    go_wp2_with fail
    rw [← hW, ← hbs]
    clear hW hbs
    refine (HC.out _ (Below.refl _ _)).mono ?_
    rintro e w1 ⟨rfl, hb1⟩
    have HB1 := Lib.hid hb1
    clear c0 c1 c2 c3 d0 d1 d2 d3
    obtain ⟨⟨c0, c1, c2, c3⟩, d0, d1, d2, d3⟩ := HE.out _ hb1
    clear hb1
    go_wp2_with fail
    refine (HLW.out HEE.out.symm _ HB1.out).mono ?_
    rintro e w2 ⟨v, rfl, hn, hb2⟩
    have HN2 := Lib.hid hn
    have HS2 := Lib.hid (Nat.le_trans HWB.out.size HB1.out.size)
    have HB2 := Lib.hid (HWB.out.trans ((HB1.out.trans (hb2.mono HB1.out.size)).mono HWB.out.size))
    clear hn hb2 c0 c1 c2 c3 d0 d1 d2 d3
    go_wp2_with fail
    go_ret2
    obtain ⟨L, hL⟩ := HN2.out
    exact ⟨v, rfl, ⟨L, row_mono hL HS2.out⟩, HB2.out⟩

set_option maxRecDepth 100000 in
set_option maxHeartbeats 3200000 in
theorem is_sys_any (S S2 : Nat → Nat → Prop) (S' S2' S3 : Nat → Prop) (f g : F) (a na a2 na2 ar : Option Addr) (cap ncap cap2 ncap2 cr : Nat) (t u : V) (r : List (Int × Int)) (w : World) (hs : Sl S w a f.t) (hv : Vl S' w na t) (hs2 : Sl S2 w a2 g.t) (hv2 : Vl S2' w na2 u) (hk : Kinds w) (hr : Prs S3 w ar r) (hN : r.length ≤ 1000000)
    (RB : F → Int × V × List Int → Int × V × List Int → Bool) (hRB : ∀ f u v, RB f u v = true ↔ relV (tells (fun x y => decide (((x : Int), (y : Int)) ∈ r))) f u v) :
    Calls Tryz.prog 18 #[Sv f a cap na t.len ncap, Sv g a2 cap2 na2 u.len ncap2, .slice ar r.length cr] w fun e w' => e = .returned (.tuple #[.bool (decide (relE' f t g u r = 0) && decide ((fltL RB f t g u r).length = 0)), .int .i64 (relE' f t g u r)]) ∧ Below w.heap.size w w' := by
  obtain ⟨W, hW⟩ : ∃ W : World, W = (w.alloc (Obj.cells #[.int .i64 f.k, .int .i64 f.n, .slice a f.t.len cap, .slice na t.len ncap] 42)).alloc (Obj.cells #[.int .i64 g.k, .int .i64 g.n, .slice a2 g.t.len cap2, .slice na2 u.len ncap2] 42) := ⟨_, rfl⟩
  have hWb : Below w.heap.size w W := by rw [hW]; exact ((Below.refl _ _).alloc (Nat.le_refl _) _).alloc (by simp) _
  have k0 : W.heap[w.heap.size]? = some (Obj.cells #[.int .i64 f.k, .int .i64 f.n, .slice a f.t.len cap, .slice na t.len ncap] 42 (0, 0)) := by rw [hW]; exact heap_old2 _ _ _
  have k1 : W.heap[w.heap.size + 1]? = some (Obj.cells #[.int .i64 g.k, .int .i64 g.n, .slice a2 g.t.len cap2, .slice na2 u.len ncap2] 42 (0, 0)) := by rw [hW]; exact heap_new2 _ _ _
  obtain ⟨bs, hbs⟩ : ∃ bs, bs = w.heap.size := ⟨_, rfl⟩
  rw [← hbs] at k0 k1
  obtain ⟨c0, c1, c2, c3⟩ := cells4 k0
  obtain ⟨d0, d1, d2, d3⟩ := cells4 k1
  have HWB := Lib.hid hWb
  have HF := Lib.hid (flt_any S S2 S' S2' S3 f g a na a2 na2 ar cap ncap cap2 ncap2 cr t u r W (hs.below hWb) (hv.below hWb) (hs2.below hWb) (hv2.below hWb) (hk.below hWb) (hr.below hWb) hN RB hRB)
  obtain ⟨E, hE⟩ : ∃ E, E = relE' f t g u r := ⟨_, rfl⟩
  obtain ⟨L, hL⟩ : ∃ L, L = fltL RB f t g u r := ⟨_, rfl⟩
  rw [← hE, ← hL] at HF ⊢
  obtain ⟨N, hNN⟩ : ∃ N, N = r.length := ⟨_, rfl⟩
  rw [← hNN] at HF ⊢
  have hl1 := hv.1
  have hl2 := hv2.1
  obtain ⟨n, hn⟩ : ∃ n, n = L.length := ⟨_, rfl⟩
  rw [← hn] at HF ⊢
  clear hs hv hs2 hv2 hk hr k0 k1 hWb hE hL hNN hn
  go_enter Tryz.func18, Tryz.ntmps18
  go_wp2_with fail
  rw [← hW, ← hbs]
  clear hW hbs
  refine HF.out.mono ?_
  rintro e w1 ⟨v, rfl, hown, hb1⟩
  have HB1 := Lib.hid (HWB.out.trans (hb1.mono HWB.out.size))
  obtain ⟨al, cl, rfl⟩ : ∃ al cl, v = .slice al n cl := by
    rcases hown.2 with ⟨h, h2⟩ | ⟨g, c, cur, h, _⟩
    · exact ⟨none, 0, by rw [h, h2]⟩
    · exact ⟨_, _, h⟩
  clear hown hb1 c0 c1 c2 c3 d0 d1 d2 d3
  by_cases h0 : E = 0
  · subst h0
    by_cases h1 : n = 0
    · subst h1
      go_wp2_with fail
      go_ret2
      exact ⟨rfl, HB1.out⟩
    · have h2 : ((n : Int) == 0) = false := by simp; omega
      have HN1 := Lib.hid h1
      clear h1
      go_wp2_with fail
      go_ret2
      exact ⟨by simp [HN1.out], HB1.out⟩
  · have h2 : (E == 0) = false := by simpa using h0
    have HN1 := Lib.hid h0
    clear h0
    go_wp2_with fail
    go_ret2
    exact ⟨by simp [HN1.out], HB1.out⟩
end Go.Proofs.YtfgpjfgejhahfaaGreatDoor

namespace Go.Proofs.YtfgpjfgejhahfaaGreatDoor
open Go Go.RowKit

set_option maxRecDepth 100000 in
set_option maxHeartbeats 6400000 in
theorem largest_any (S S2 : Nat → Nat → Prop) (S' S2' : Nat → Prop) (f g : F) (a na a2 na2 : Option Addr) (cap ncap cap2 ncap2 : Nat) (t u : V) (w : World) (hs : Sl S w a f.t) (hv : Vl S' w na t) (hs2 : Sl S2 w a2 g.t) (hv2 : Vl S2' w na2 u) (hk : Kinds w) :
    Calls Tryz.prog 21 #[Sv f a cap na t.len ncap, Sv g a2 cap2 na2 u.len ncap2] w fun e w' => ∃ v, e = .returned (.tuple #[v, .int .i64 (bothE f t g u)]) ∧ NewPs w v w' ∧ Below w.heap.size w w' := by
  obtain ⟨W, hW⟩ : ∃ W : World, W = (w.alloc (Obj.cells #[.int .i64 f.k, .int .i64 f.n, .slice a f.t.len cap, .slice na t.len ncap] 42)).alloc (Obj.cells #[.int .i64 g.k, .int .i64 g.n, .slice a2 g.t.len cap2, .slice na2 u.len ncap2] 42) := ⟨_, rfl⟩
  have hWb : Below w.heap.size w W := by rw [hW]; exact ((Below.refl _ _).alloc (Nat.le_refl _) _).alloc (by simp) _
  have k0 : W.heap[w.heap.size]? = some (Obj.cells #[.int .i64 f.k, .int .i64 f.n, .slice a f.t.len cap, .slice na t.len ncap] 42 (0, 0)) := by rw [hW]; exact heap_old2 _ _ _
  have k1 : W.heap[w.heap.size + 1]? = some (Obj.cells #[.int .i64 g.k, .int .i64 g.n, .slice a2 g.t.len cap2, .slice na2 u.len ncap2] 42 (0, 0)) := by rw [hW]; exact heap_new2 _ _ _
  obtain ⟨bs, hbs⟩ : ∃ bs, bs = w.heap.size := ⟨_, rfl⟩
  rw [← hbs] at k0 k1
  have HE := Lib.hid (fun x (hx : Below W.heap.size W x) => And.intro (cells4 ((hx.block _ (heap_lt k0)).trans k0)) (cells4 ((hx.block _ (heap_lt k1)).trans k1)))
  have HWB := Lib.hid hWb
  have HC := Lib.hid (both_any S S2 S' S2' f g a na a2 na2 cap ncap cap2 ncap2 t u W (hs.below hWb) (hv.below hWb) (hs2.below hWb) (hv2.below hWb) (hk.below hWb))
  obtain ⟨E, hE⟩ : ∃ E, E = bothE f t g u := ⟨_, rfl⟩
  have HEE := Lib.hid hE
  rw [← hE] at HC ⊢
  have hcs := bothE_cases f t g u
  rw [← hE] at hcs
  have HLW := Lib.hid (fun (h0 : bothE f t g u = 0) x (hx : Below W.heap.size W x) ar cr (r : List (Int × Int)) (hr : Prs (fun _ => True) x ar r) (hN : r.length ≤ 10000) (hin : ∀ z ∈ r, 0 ≤ z.1 ∧ z.1 < t.len ∧ 0 ≤ z.2 ∧ z.2 < u.len) => show Calls Tryz.prog 64 #[Sv f a cap na t.len ncap, Sv g a2 cap2 na2 u.len ncap2, .slice ar r.length cr] x (fun e w' => ∃ v, e = .returned v ∧ NewPs x v w' ∧ Below x.heap.size x w') from by
    obtain ⟨hy1, hy2, rfl⟩ := both_ok h0
    refine (lw_any S S2 S' S2' (fun _ => True) f a na a2 na2 ar cap ncap cap2 ncap2 cr t u r x ((hs.below hWb).below hx) ((hv.below hWb).below hx) ((hv2.below hWb).below hx) hr hN hy1 hy2 hin).mono ?_
    rintro e w' ⟨v, M, rfl, h1, h2⟩
    exact ⟨v, rfl, ⟨_, h1⟩, h2⟩)
  have HLEN := Lib.hid (show bothE f t g u = 0 → t.len ≤ 100 ∧ u.len ≤ 100 from fun h0 => by
    obtain ⟨hy1, hy2, _⟩ := both_ok h0
    exact ⟨(sys_parts hy1).2.1, (sys_parts hy2).2.1⟩)
  have hl1 := hv.1
  have hl2 := hv2.1
  obtain ⟨⟨c0, c1, c2, c3⟩, d0, d1, d2, d3⟩ := HE.out _ (Below.refl _ _)
  clear hs hv hs2 hv2 hk k0 k1 hWb hE
  by_cases h0 : E = 0
  rotate_left
  · rcases hcs with rfl | rfl | rfl
    · clear h0 HLW
      go_enter Tryz.func21, Tryz.ntmps21
      go_wp2_with fail
      rw [← hW, ← hbs]
      clear hW hbs
      refine HC.out.mono ?_
      rintro e w1 ⟨rfl, hb1⟩
      have HB1 := Lib.hid hb1
      clear hb1
      go_wp2_with fail
      go_ret2
      exact ⟨_, rfl, NewPs.nil _ _, HWB.out.trans (HB1.out.mono HWB.out.size)⟩
    · clear h0 HLW
      go_enter Tryz.func21, Tryz.ntmps21
      go_wp2_with fail
      rw [← hW, ← hbs]
      clear hW hbs
      refine HC.out.mono ?_
      rintro e w1 ⟨rfl, hb1⟩
      have HB1 := Lib.hid hb1
      clear hb1
      go_wp2_with fail
      go_ret2
      exact ⟨_, rfl, NewPs.nil _ _, HWB.out.trans (HB1.out.mono HWB.out.size)⟩
    · exact absurd rfl h0
  · subst h0
    obtain ⟨hn1, hn2⟩ := HLEN.out HEE.out.symm
    clear hcs
    go_enter Tryz.func21, Tryz.ntmps21
    go_wp2_with fail
    rw [← hW, ← hbs]
    clear hW hbs
    refine HC.out.mono ?_
    rintro e w1 ⟨rfl, hb1⟩
    have HB1 := Lib.hid hb1
    clear c0 c1 c2 c3 d0 d1 d2 d3
    obtain ⟨⟨c0, c1, c2, c3⟩, d0, d1, d2, d3⟩ := HE.out _ hb1
    have HALL := Lib.hid (show Calls Tryz.prog 66 #[.int .i64 (t.len : Int), .int .i64 (u.len : Int)] w1.drew (fun e w' => ∃ ar cr, e = .returned (.slice ar (allL u.len t.len).length cr) ∧ Prs (fun _ => True) w' ar (allL u.len t.len) ∧ Below w1.heap.size w1 w') from by
      refine (all_any t.len u.len w1.drew hn1 hn2).mono ?_
      rintro e w' ⟨v, rfl, hown, hb⟩
      have hle : (allL u.len t.len).length ≤ 10000 := by rw [allL_len]; exact Nat.mul_le_mul hn1 hn2
      obtain ⟨ar, cr, rfl, _, hp⟩ := row_prs hown (by omega)
      refine ⟨ar, cr, rfl, ⟨hp.1, hp.2.imp id (fun ⟨b, o, h1, _, h3⟩ => ⟨b, o, h1, trivial, h3⟩)⟩, ⟨hb.os, hb.tape, hb.output, hb.size, hb.block⟩⟩)
    clear hb1
    go_wp2_with fail
    go_region_held3 (fun x : World => x.cell? ⟨bs, 0, none⟩ = some (.int .i64 f.k) ∧ x.cell? ⟨bs, 1, none⟩ = some (.int .i64 f.n) ∧ x.cell? ⟨bs, 2, none⟩ = some (.slice a f.t.len cap) ∧ x.cell? ⟨bs, 3, none⟩ = some (.slice na t.len ncap) ∧ x.cell? ⟨bs + 1, 0, none⟩ = some (.int .i64 g.k) ∧ x.cell? ⟨bs + 1, 1, none⟩ = some (.int .i64 g.n) ∧ x.cell? ⟨bs + 1, 2, none⟩ = some (.slice a2 g.t.len cap2) ∧ x.cell? ⟨bs + 1, 3, none⟩ = some (.slice na2 u.len ncap2)) (first | exact ⟨c0, c1, c2, c3, d0, d1, d2, d3⟩ | exact ⟨y0, y1, y2, y3, z0, z1, z2, z3⟩ | exact ⟨x0, x1, x2, x3, v0, v1, v2, v3⟩ | fail) (first | (go_at_call 66; refine HALL.out.mono ?_; rintro e w2 ⟨ar, cr, rfl, hpr, hb2⟩; have HPR := Lib.hid hpr; have HB2 := Lib.hid (HB1.out.trans (hb2.mono HB1.out.size)); obtain ⟨⟨y0, y1, y2, y3⟩, z0, z1, z2, z3⟩ := HE.out _ HB2.out; clear hpr hb2) | (go_at_call 64; refine (HLW.out HEE.out.symm w2 HB2.out ar cr (allL u.len t.len) HPR.out (by rw [allL_len]; exact Nat.mul_le_mul hn1 hn2) (fun z hz => by obtain ⟨i, j, h1, h2, rfl⟩ := mem_allL.1 hz; simp only; omega)).mono ?_; rintro e w3 ⟨v, rfl, hnp, hb3⟩; have HNP := Lib.hid hnp; have HB3 := Lib.hid (HB2.out.trans (hb3.mono HB2.out.size)); obtain ⟨⟨x0, x1, x2, x3⟩, v0, v1, v2, v3⟩ := HE.out _ HB3.out; clear hnp hb3) | fail)
    go_wp2_with fail
    go_ret2
    obtain ⟨L, hL⟩ := HNP.out
    exact ⟨v, rfl, ⟨L, row_mono hL (Nat.le_trans HWB.out.size HB2.out.size)⟩, HWB.out.trans (HB3.out.mono HWB.out.size)⟩

set_option maxRecDepth 100000 in
set_option maxHeartbeats 1600000 in
/-- What the law does to a result. -/
theorem change_any (base n : Nat) (v : Value) (xs : List Value) (w : World) (h : w.ownsRow base 61 2 v n xs) :
    Calls Tryz.prog 41 #[v] w fun e w' => e = .returned (.tuple #[]) ∧ Kept (fun b => base ≤ b) w w' := by
  rcases h.2 with ⟨rfl, rfl⟩ | ⟨g, cp, cur, rfl, hg, hb, hle, hmx, hsz, _⟩
  · clear h
    go_enter Tryz.func41, Tryz.ntmps41
    go_wp2_with fail
    go_loopw [5] (fun i wr => i = .int .i64 0 ∧ wr = w) (fun _ _ => 0)
    case atStart => exact ⟨rfl, rfl⟩
    case round =>
      obtain ⟨rfl, rfl⟩ := hrel
      go_wp2_with fail
      go_end0
      exact ⟨rfl, Kept.refl _ _⟩
  · have hn : n ≤ 9223372036854775807 := by unfold maxLen at hmx; omega
    have HG := Lib.hid hg
    have HBB := Lib.hid hb
    have HSZ := Lib.hid hsz
    clear h hb hg hsz hmx
    go_enter Tryz.func41, Tryz.ntmps41
    go_wp2_with fail
    go_loopw [5] (fun i wr => ∃ (k : Nat) (c : Array Value), k ≤ n ∧ i = .int .i64 k ∧ wr.heap[g]? = some (.cells c 61 (0, 0)) ∧ c.size = cp * 2 ∧ Kept (fun b => base ≤ b) w wr) (fun i _ => n - (intOf i).toNat)
    case atStart => exact ⟨0, cur, Nat.zero_le _, rfl, HBB.out, HSZ.out, Kept.refl _ _⟩
    case round =>
      obtain ⟨k, c, hk, rfl, hc, hcs, hkp⟩ := hrel
      have HC := Lib.hid hc
      have HCS := Lib.hid hcs
      have HK := Lib.hid hkp
      by_cases hlt : k < n
      · have hkc : k * 2 < c.size := by omega
        obtain ⟨x, hx⟩ : ∃ x, wr.cell? ⟨g, k * 2, none⟩ = some x := ⟨c[k * 2], by simp [World.cell?, hc, hkc]⟩
        have hf : wr.frozen? ⟨g, k * 2, none⟩ = false := by simp [World.frozen?, hc]
        clear hc hcs hkp
        go_wp2_with fail
        go_roundw
        case rel => exact ⟨k + 1, _, by omega, by go_num, heap_setCell_same wr g (k * 2) c _ _ HC.out, by simpa using HCS.out, HK.out.set (p := ⟨g, k * 2, none⟩) (Or.inl HG.out) _⟩
        case measure => simp [intOf]; omega
      · obtain rfl : k = n := by omega
        clear hc hcs hkp
        go_wp2_with fail
        go_end0
        exact ⟨rfl, HK.out⟩
end Go.Proofs.YtfgpjfgejhahfaaGreatDoor
