/- Proved here: contracts of the walk to BisimGraphs: merge and reduce; each under the conditions that its own statement names. -/
import Derived.Test.YtcekilcgpgjooaaGreatDoorG40
set_option maxRecDepth 100000
set_option maxHeartbeats 6400000
namespace Go.Proofs.YtcekilcgpgjooaaGreatDoor
open Go Go.RowKit
open Go.Lib (hid)
theorem sortV_any (S : Nat → Prop) (base : Nat) (ga : Option Addr) (cap : Nat) (L : List El) (w : World) (h : w.ownsRow base 204 4 (.slice ga L.length cap) L.length (flatE L)) (hl : ∀ e ∈ L, e.In S w) (hS : ∀ b, S b → some b ≠ (Value.slice ga L.length cap).ownBlock) (hn : L.length ≤ 1000000) :
    Calls Tryz.prog 197 #[.slice ga L.length cap, .func (.func 198) #[] #[]] w fun e w' => e = .returned (.tuple #[]) ∧ ∃ L' : List El, L'.Perm L ∧ L'.Pairwise (fun x y => cmpE x y ≤ 0) ∧
     w'.ownsRow base 204 4 (.slice ga L.length cap) L.length (flatE L') ∧ w.grownBy w' (Value.slice ga L.length cap).ownBlock := by
 rcases h.2 with ⟨hv, h0⟩ | ⟨g, c, cur, hv, hb, _⟩
 ·simp only [Value.slice.injEq] at hv
  obtain ⟨rfl, _, rfl⟩ := hv
  obtain rfl := List.eq_nil_of_length_eq_zero h0
  refine (sortENil_any w).mono ?_
  rintro e w' ⟨rfl, rfl⟩
  exact ⟨rfl, [], .refl _, List.Pairwise.nil, h, ⟨rfl, rfl, rfl, Nat.le_refl _, fun _ _ _ => rfl⟩⟩
 ·simp only [Value.slice.injEq] at hv
  obtain ⟨rfl, _, rfl⟩ := hv
  exact sortE_any S base g cap L w h hl (fun b hb e => hS b hb (by rw [e]; rfl)) hn
theorem flatE_get {l : List El} {i : Nat} {p : El} (h : l[i]? = some p) : (flatE l)[i * 4]? = some (.int .i64 p.n) ∧ (flatE l)[i * 4 + 1]? = some (.slice p.a p.k.len p.cap) ∧ (flatE l)[i * 4 + 2]? = some (.slice p.c p.ws.length p.cp) ∧ (flatE l)[i * 4 + 3]? = some (.int .i64 p.wt) :=
 ⟨flat4_get encE (fun _ => rfl) (q := 0) h (by omega), flat4_get encE (fun _ => rfl) (q := 1) h (by omega), flat4_get encE (fun _ => rfl) (q := 2) h (by omega), flat4_get encE (fun _ => rfl) (q := 3) h (by omega)⟩
theorem rowE_cells {w : World} {base g cap n : Nat} {e : TypeId} {l : List El} (h : w.ownsRow base e 4 (.slice (some ⟨g, 0, none⟩) n cap) n (flatE l)) {i : Nat} {p : El} (hp : l[i]? = some p) :
    w.cell? ⟨g, i * 4, none⟩ = some (.int .i64 p.n) ∧ w.cell? ⟨g, i * 4 + 1, none⟩ = some (.slice p.a p.k.len p.cap) ∧ w.cell? ⟨g, i * 4 + 2, none⟩ = some (.slice p.c p.ws.length p.cp) ∧ w.cell? ⟨g, i * 4 + 3, none⟩ = some (.int .i64 p.wt) := by
 have key : ∀ j u, (flatE l)[j]? = some u → w.cell? ⟨g, j, none⟩ = some u := by
  intro j u hu
  have h2 := h.cells (g := g) rfl j u hu
  have : (⟨g, 0, none⟩ : Addr).add j = ⟨g, j, none⟩ := by unfold Addr.add; split <;> simp_all
  rwa [this] at h2
 obtain ⟨e0, e1, e2, e3⟩ := flatE_get hp
 exact ⟨key _ _ e0, key _ _ e1, key _ _ e2, key _ _ e3⟩
theorem rowLe {w : World} {lo lo' : Nat} {e : TypeId} {size : Nat} {v : Value} {n : Nat} {xs : List Value} (h : w.ownsRow lo e size v n xs) (hl : lo' ≤ lo) : w.ownsRow lo' e size v n xs := by
 refine ⟨h.1, ?_⟩
 rcases h.2 with h2 | ⟨g, cap, cur, h2, h3, h4⟩
 ·exact Or.inl h2
 ·exact Or.inr ⟨g, cap, cur, h2, Nat.le_trans hl h3, h4⟩
theorem flatE_set {M0 : List El} {l : El} {y : Int} : (flatE (M0 ++ [l])).set (M0.length * 4 + 3) (.int .i64 y) = flatE (M0 ++ [{ l with wt := y }]) := by
 rw [flatE_app, flatE_app, List.set_append_right _ _ (by rw [flatE_len]; omega), flatE_len, show M0.length * 4 + 3 - M0.length * 4 = 3 by omega]
 rfl
theorem merge_any (S : Nat → Prop) (base : Nat) (ga : Option Addr) (cap : Nat) (L : List El) (w : World) (h : w.ownsRow base 204 4 (.slice ga L.length cap) L.length (flatE L)) (hl : ∀ e ∈ L, e.In S w) (hS : ∀ b, S b → some b ≠ (Value.slice ga L.length cap).ownBlock) (hn : L.length ≤ 1000000) (hw : ∀ e ∈ L, 0 ≤ e.wt) (hT : wT L ≤ 1048576) :
    Calls Tryz.prog 181 #[.slice ga L.length cap] w fun e w' => ∃ (L' : List El) (u : Value), L'.Perm L ∧ L'.Pairwise (fun x y => cmpE x y ≤ 0) ∧ e = .returned u ∧ w'.ownsRow w.heap.size 204 4 u (mgL L').length (flatE (mgL L')) ∧ w.grownBy w' (Value.slice ga L.length cap).ownBlock := by
 obtain ⟨i0, hi, hz0, hz1, hz2⟩ := info_parts infoE
 have HS := hid (sortV_any S base ga cap L w h hl hS hn)
 have HL := hid hl
 have HSS := hid hS
 have HW := hid hw
 have HT := hid hT
 obtain ⟨N, hN⟩ : ∃ N, N = L.length := ⟨_, rfl⟩
 rw [← hN] at HS HSS hn ⊢
 have HN := hid hN
 obtain ⟨bo, hbo⟩ : ∃ bo, bo = (Value.slice ga N cap).ownBlock := ⟨_, rfl⟩
 rw [← hbo] at HS HSS ⊢
 have HBO := hid hbo
 clear h hl hS hw hT hN hbo
 go_enter Tryz.func181, Tryz.ntmps181
 go_wp2_with fail
 refine HS.out.mono ?_
 rintro e w1 ⟨rfl, L', hp, hso, hrow, hg⟩
 have HP := hid hp
 have HSO := hid hso
 have HR := hid hrow
 have HG := hid hg
 have HM := hid (mgd_of hso)
 have HLN := hid (show L'.length = N by rw [HN.out]; exact hp.length_eq)
 have HIN := hid (show ∀ e ∈ L', e.In S w1 from fun e he => (HL.out e (hp.mem_iff.1 he)).grown hg (fun b hb _ => ⟨hb, HSS.out b hb⟩))
 have HNN := hid (show ∀ e ∈ L', 0 ≤ e.wt from fun e he => HW.out e (hp.mem_iff.1 he))
 have HTT := hid (show wT L' ≤ 1048576 by rw [wT_perm hp]; exact HT.out)
 clear hp hso hrow hg
 go_wp2_with fail
 go_loopw [3, 11] (fun z i wr => ∃ (j : Nat) (u : Value), j ≤ N ∧ u = z ∧ i = .int .i64 j ∧ wr.ownsRow w1.heap.size 204 4 u (mgL (L'.take j)).length (flatE (mgL (L'.take j))) ∧ Below w1.heap.size w1 wr) (fun _ i _ => N - (intOf i).toNat)
 case atStart => exact ⟨0, _, Nat.zero_le _, rfl, rfl, World.ownsRow_nil _ _ _ _, Below.refl _ _⟩
 case round =>
  obtain ⟨j, u, hj, rfl, rfl, hown, hb⟩ := hrel
  have HBB := hid hb
  by_cases hlt : j < N
  ·have hjl : j < L'.length := by rw [HLN.out]; exact hlt
   obtain ⟨x, hx⟩ : ∃ x, L'[j]? = some x := ⟨_, List.getElem?_eq_getElem hjl⟩
   have hst : mgL (L'.take (j + 1)) = mstep (mgL (L'.take j)) x := by
    rw [List.take_succ_eq_append_getElem hjl, mgL_snoc]
    rw [List.getElem?_eq_getElem hjl] at hx
    rw [Option.some.inj hx]
   have hxm : x ∈ L' := List.mem_of_getElem? hx
   have hmd := HM.out j (by omega)
   obtain ⟨g, cap', hga, _, hgl⟩ := HR.out.form (by omega)
   simp only [Value.slice.injEq, true_and] at hga
   obtain ⟨rfl, rfl⟩ := hga
   obtain ⟨d0, d1, d2, d3⟩ := rowE_cells HR.out hx
   replace d0 := cell_below hb d0
   replace d1 := cell_below hb d1
   replace d2 := cell_below hb d2
   replace d3 := cell_below hb d3
   obtain ⟨xk1, xk2⟩ := (HIN.out x hxm).below hb
   have hxw := HNN.out x hxm
   have hle : ∀ e ∈ mgL (L'.take j), e.In S wr ∧ 0 ≤ e.wt := fun e he => ⟨(hmd.all (fun e => e.In S w1) (fun _ _ h => h) (fun z hz => HIN.out z (List.mem_of_mem_take hz)) e he).below hb, hmd.nn 0 (by omega) (fun z hz => HNN.out z (List.mem_of_mem_take hz)) e he⟩
   have hml := hmd.len
   have hsum : wT (mgL (L'.take j)) + x.wt ≤ 1048576 := by
    have h1 := wT_app (L'.take (j + 1)) (L'.drop (j + 1))
    rw [List.take_append_drop, List.take_succ_eq_append_getElem hjl, wT_app] at h1
    have h2 := wT_nonneg (M := L'.drop (j + 1)) (fun e he => HNN.out e (List.mem_of_mem_drop he))
    rw [List.getElem?_eq_getElem hjl] at hx
    rw [hmd.sum]
    have h3 := HTT.out
    simp only [wT, Option.some.inj hx] at h1
    omega
   rw [List.length_take] at hml
   obtain ⟨xn, xa, xcap, xk, xc, xcp, xws, xwt⟩ := x
   simp only at d0 d1 d2 d3 xk1 xk2 hxw hsum
   obtain ⟨X, hX⟩ : ∃ X : World, X = wr.alloc (.cells #[.int .i64 xn, .slice xa xk.len xcap, .slice xc xws.length xcp, .int .i64 xwt] 204) := ⟨_, rfl⟩
   obtain ⟨xb, hxb⟩ : ∃ xb, xb = wr.heap.size := ⟨_, rfl⟩
   have hXb : X.heap[xb]? = some (.cells #[.int .i64 xn, .slice xa xk.len xcap, .slice xc xws.length xcp, .int .i64 xwt] 204 (0, 0)) := by rw [hX, hxb]; exact heap_new _ _
   have hwX : Below wr.heap.size wr X := by rw [hX]; exact ba _ _
   have HXB := hid hXb
   have HWX := hid (hb.trans (hwX.mono hb.size))
   have HXO := hid (row_below hown hwX)
   obtain ⟨x0, x1, x2, x3⟩ := cells4' hXb
   have HXK := hid (And.intro (xk1.below hwX) (xk2.below hwX))
   have HLE := hid (show ∀ e ∈ mgL (L'.take j), e.In S X ∧ 0 ≤ e.wt from fun e he => ⟨(hle e he).1.below hwX, (hle e he).2⟩)
   have HST := hid hst
   have HSU := hid hsum
   obtain ⟨M, hM⟩ : ∃ M, M = mgL (L'.take j) := ⟨_, rfl⟩
   rw [← hM] at HXO HLE HST HSU hml
   clear hM hown hb hx hst hxm hmd hgl hle hsum hwX hXb xk1 xk2
   rcases List.eq_nil_or_concat M with hM | ⟨M0, l, hM⟩
   ·subst hM
    obtain ⟨ua, ucap, rfl⟩ : ∃ ua ucap, u = .slice ua 0 ucap := by
     rcases HXO.out.2 with ⟨h, _⟩ | ⟨g2, c2, _, h, _⟩
     ·exact ⟨_, _, h⟩
     ·exact ⟨_, _, h⟩
    clear hml
    go_wp2_with fail
    rw [← hX, ← hxb]
    clear hX hxb
    go_quiet (fail)
    obtain ⟨Y, hY⟩ : ∃ Y, Y = X.drewN nq := ⟨_, rfl⟩
    rw [← hY]
    have hYX : Below X.heap.size X Y := by rw [hY]; exact ⟨rfl, rfl, rfl, Nat.le_refl _, fun _ _ => rfl⟩
    clear hY
    have HYB := hid (HWX.out.trans (hYX.mono HWX.out.size))
    have HYO := hid (show Y.ownsRow w1.heap.size 204 4 (.slice ua 0 ucap) 0 [] from row_below HXO.out hYX)
    obtain ⟨y0, y1, y2, y3⟩ := cells4' ((hYX.block _ (heap_lt HXB.out)).trans HXB.out)
    clear x0 x1 x2 x3 hYX
    go_wp2_with (at_builtin; refine wpList_append_own _ rfl _ _ 202 rfl w1.heap.size 204 i0 (.agg #[.int .i64 0, .slice none 0 0, .slice none 0 0, .int .i64 0]) 4 64 Tryz.underlying202 hi hz0 hz1 hz2 rfl (by decide) _ _ _ rfl (HYO.out.alloc _) ⟨Y.heap.size, 0, none⟩ 1 1 [.int .i64 xn, .slice xa xk.len xcap, .slice xc xws.length xcp, .int .i64 xwt] rfl rfl (fun j u hu => World.news_of_block (heap_new _ _) j u hu) (by intro z hz; simp at hz; rcases hz with rfl | rfl | rfl | rfl <;> rfl) (by unfold maxLen; omega) (by omega) (by have := HYB.out.size; simp; omega) ?_; intro v' w3 hown' hgrow _)
    have HO3 := hid hown'
    have HB3 := hid (show Below w1.heap.size w1 w3 from (HYB.out.alloc HYB.out.size _).grown hgrow (by have := HYB.out.size; simp; omega) (fun j hj => (HYO.out.lt j hj).1))
    clear hown' hgrow
    go_wp2_with fail
    go_roundw
    case rel => exact ⟨j + 1, _, by omega, rfl, by go_num, by rw [HST.out, mstep_nil]; exact HO3.out, HB3.out⟩
    case measure => simp [intOf]; omega
   ·rw [List.concat_eq_append] at hM
    subst hM
    rw [List.length_append, List.length_singleton] at HXO hml
    obtain ⟨p, hp⟩ : ∃ p, p = M0.length := ⟨_, rfl⟩
    rw [← hp] at HXO hml
    obtain ⟨mg, mcap, rfl, hmb, hmg⟩ := HXO.out.form (by omega)
    have hpi : (p : Int) < (p : Int) + 1 := by omega
    have hlm : (M0 ++ [l])[M0.length]? = some l := by simp
    obtain ⟨m0, m1, m2, m3⟩ := rowE_cells HXO.out hlm
    obtain ⟨⟨lk1, lk2⟩, hlw⟩ := HLE.out l (by simp)
    rw [← hp] at m0 m1 m2 m3
    have HPL := hid hp
    have hwb : l.wt + xwt ≤ 1048576 := by
     have h1 := HSU.out
     rw [wT_app] at h1
     have h2 := wT_nonneg (M := M0) (fun e he => (HLE.out e (by simp [he])).2)
     simp only [wT] at h1
     omega
    obtain ⟨ln, la, lcap, lk, lc, lcp, lws, lwt⟩ := l
    simp only at m0 m1 m2 m3 lk1 lk2 hlw hwb
    obtain ⟨c, hc⟩ : ∃ c, c = or3 (cmpI ln xn) (lk.cmp xk) (cmpL lws xws) := ⟨_, rfl⟩
    have HC := hid (fun Z (hZ : Below X.heap.size X Z) => cmp_any lk xk S S ln xn lws xws la xa lc xc lcap xcap lcp xcp Z (lk1.below hZ) (HXK.out.1.below hZ) (lk2.below hZ) (HXK.out.2.below hZ))
    rw [← hc] at HC
    have HCE := hid hc
    have HZ := hid (fun Z (hZ : Below X.heap.size X Z) => (show _ ∧ _ ∧ _ ∧ _ ∧ _ ∧ _ ∧ _ ∧ _ from ⟨cell_below hZ m0, cell_below hZ m1, cell_below hZ m2, cell_below hZ m3, cell_below hZ x0, cell_below hZ x1, cell_below hZ x2, cell_below hZ x3⟩))
    clear hp lk1 lk2 hc m0 m1 m2 m3 x0 x1 x2 x3 hlm
    obtain ⟨b, hb⟩ : ∃ b : Bool, b = (c == 0) := ⟨_, rfl⟩
    have hb' : (c == 0) = b := hb.symm
    have HBE := hid hb
    clear hb
    go_wp2_with fail
    rw [← hX, ← hxb]
    clear hX hxb
    refine wp_region_plan (by rfl) (fun z : World => Below X.heap.size X z)
     [some (.int .i64 (p : Int)), some (.bool true), some (.bool true), some (.slice (some ⟨mg, 0, none⟩) (p + 1) mcap), some (.int .i64 (p : Int)), some (.pointer (some ⟨mg, p * 4, none⟩)), some (.pointer (some ⟨mg, p * 4, none⟩)), some (Vv ln la lk.len lcap lc lws.length lcp), some (.pointer (some ⟨xb, 0, none⟩)), some (Vv xn xa xk.len xcap xc xws.length xcp), some (.int .i64 c), some (.bool b), some (.bool b)] ?aF ?haF _ rfl (by kernel_rfl) (Below.refl _ _).drew ?hall ?hend
    case haF => (simp only [layAll, Act.put, Option.getD_some, List.setIfInBounds_toArray, List.set_cons_zero, List.set_cons_succ]; rfl)
    case hall =>
     repeat (first | (refine Steps.cons (v := none) rfl ?_) | (refine Steps.cons ⟨rfl, fun K z hS hK => ?_⟩ ?_; rotate_left))
     ·exact Steps.nil
     all_goals
      obtain ⟨g0, g1, g2, g3, g4, g5, g6, g7⟩ := HZ.out z hS
      first
      | (go_simp; exact hK _ hS)
      | (go_simp; refine callAt (args' := #[Vv ln la lk.len lcap lc lws.length lcp, Vv xn xa xk.len xcap xc xws.length xcp]) rfl ?_; refine (HC.out z hS).mono ?_; rintro e z2 ⟨rfl, hz2⟩; exact hK _ (hS.trans (hz2.mono hS.size)))
    case hend =>
     intro Y hYX
     have HYB := hid (HWX.out.trans (hYX.mono HWX.out.size))
     have HYO := hid (row_below HXO.out hYX)
     obtain ⟨m0, m1, m2, m3, y0, y1, y2, y3⟩ := HZ.out Y hYX
     clear hYX hb'
     cases b with
     | true =>
      have hc0 : c = 0 := by have := HBE.out; simpa using this.symm
      have HF := hid (show mstep (M0 ++ [⟨ln, la, lcap, lk, lc, lcp, lws, lwt⟩]) ⟨xn, xa, xcap, xk, xc, xcp, xws, xwt⟩ = M0 ++ [⟨ln, la, lcap, lk, lc, lcp, lws, lwt + xwt⟩] from mstep_eq (l := ⟨ln, la, lcap, lk, lc, lcp, lws, lwt⟩) (x := ⟨xn, xa, xcap, xk, xc, xcp, xws, xwt⟩) (by rw [← hc0]; exact HCE.out.symm))
      have hfz : ∀ q, Y.frozen? ⟨mg, q, none⟩ = false := fun q => HYO.out.frozenAt q
      have hfz3 := hfz (p * 4 + 3)
      have hw0 : 0 ≤ lwt + xwt := by omega
      clear hc0 hfz
      go_wp2_with fail
      go_region
      have HO3 := hid (HYO.out.stored (p * 4 + 3) (.int .i64 (lwt + xwt))).1
      have HB3 := hid (HYB.out.setCell (p := ⟨mg, p * 4 + 3, none⟩) hmb (.int .i64 (lwt + xwt)))
      have HFS := hid (flatE_set (M0 := M0) (l := ⟨ln, la, lcap, lk, lc, lcp, lws, lwt⟩) (y := lwt + xwt))
      clear hfz3 hw0
      go_wp2_with fail
      go_roundw
      case rel => exact ⟨j + 1, _, by omega, rfl, by go_num, by rw [HST.out, HF.out, ← HFS.out, List.length_append, List.length_singleton, ← HPL.out]; exact HO3.out, HB3.out.drew⟩
      case measure => simp [intOf]; omega
     | false =>
      have hc0 : ¬ c = 0 := by have := HBE.out; simpa using this.symm
      have HF := hid (show mstep (M0 ++ [⟨ln, la, lcap, lk, lc, lcp, lws, lwt⟩]) ⟨xn, xa, xcap, xk, xc, xcp, xws, xwt⟩ = (M0 ++ [⟨ln, la, lcap, lk, lc, lcp, lws, lwt⟩]) ++ [⟨xn, xa, xcap, xk, xc, xcp, xws, xwt⟩] from mstep_ne (l := ⟨ln, la, lcap, lk, lc, lcp, lws, lwt⟩) (x := ⟨xn, xa, xcap, xk, xc, xcp, xws, xwt⟩) (by intro h; exact hc0 (HCE.out.trans h)))
      clear hc0
      go_wp2_with (at_builtin; refine wpList_append_own _ rfl _ _ 202 rfl w1.heap.size 204 i0 (.agg #[.int .i64 0, .slice none 0 0, .slice none 0 0, .int .i64 0]) 4 64 Tryz.underlying202 hi hz0 hz1 hz2 rfl (by decide) _ _ _ rfl (HYO.out.alloc _) ⟨Y.heap.size, 0, none⟩ 1 1 [.int .i64 xn, .slice xa xk.len xcap, .slice xc xws.length xcp, .int .i64 xwt] rfl rfl (fun j u hu => World.news_of_block (heap_new _ _) j u hu) (by intro z hz; simp at hz; rcases hz with rfl | rfl | rfl | rfl <;> rfl) (by unfold maxLen; omega) (by omega) (by have := HYB.out.size; simp; omega) ?_; intro v' w3 hown' hgrow _)
      have HO3 := hid hown'
      have HB3 := hid (show Below w1.heap.size w1 w3 from (HYB.out.alloc HYB.out.size _).grown hgrow (by have := HYB.out.size; simp; omega) (fun j hj => (HYO.out.lt j hj).1))
      clear hown' hgrow
      go_wp2_with fail
      go_roundw
      case rel => exact ⟨j + 1, _, by omega, rfl, by go_num, by rw [HST.out, HF.out, List.length_append, List.length_append, List.length_singleton, List.length_singleton, ← HPL.out, flatE_snoc]; exact HO3.out, HB3.out⟩
      case measure => simp [intOf]; omega
  ·obtain rfl : j = N := by omega
   have HO := hid (show wr.ownsRow w1.heap.size 204 4 u (mgL L').length (flatE (mgL L')) by rw [← HLN.out, List.take_length] at hown; exact hown)
   clear hown hb
   go_wp2_with fail
   go_ret
   exact ⟨L', _, HP.out, HSO.out, rfl, rowLe HO.out HG.out.size, ⟨HBB.out.os.trans HG.out.os, HBB.out.tape.trans HG.out.tape, HBB.out.output.trans HG.out.output, Nat.le_trans HG.out.size HBB.out.size, fun k hk hne => (HBB.out.block k (by have := HG.out.size; omega)).trans (HG.out.block k hk hne)⟩⟩
theorem divStep {aw : List Int} {jj : Nat} (h : jj < aw.length) (f : Int → Int) (g : Int → Value) : (((aw.take jj).map f ++ aw.drop jj).map g).set jj (g (f aw[jj])) = ((aw.take (jj + 1)).map f ++ aw.drop (jj + 1)).map g := by
 have h1 : ((aw.take jj).map f).length = jj := by simp; omega
 rw [List.drop_eq_getElem_cons h, ← List.take_append_getElem h]
 simp only [List.map_append, List.map_cons, List.map_nil]
 rw [List.set_append_right _ _ (by simp; omega)]
 have h2 : jj - (List.map g (List.map f (List.take jj aw))).length = 0 := by simp; omega
 rw [h2]
 simp
theorem rowI_cell {w : World} {base g cap n : Nat} {e : TypeId} {xs : List Value} (h : w.ownsRow base e 1 (.slice (some ⟨g, 0, none⟩) n cap) n xs) {j : Nat} {u : Value} (hu : xs[j]? = some u) : w.cell? ⟨g, j, none⟩ = some u := by
 have h2 := h.cells (g := g) rfl j u hu
 have : (⟨g, 0, none⟩ : Addr).add j = ⟨g, j, none⟩ := by unfold Addr.add; split <;> simp_all
 rwa [this] at h2
theorem reduce_any (base : Nat) (wa : Option Addr) (cap : Nat) (ws : List Int) (w : World) (h : w.ownsRow base 3 1 (.slice wa ws.length cap) ws.length (ws.map (Value.int .i64))) (hp : ∀ x ∈ ws, 1 ≤ x ∧ x ≤ 1048576) (hn : ws.length ≤ 1000000) :
    Calls Tryz.prog 182 #[.slice wa ws.length cap] w fun e w' => e = .returned (.tuple #[]) ∧ w'.ownsRow base 3 1 (.slice wa ws.length cap) ws.length ((ws.map (fun x => x / ((gcdL 0 ws : Nat) : Int))).map (Value.int .i64)) ∧ w.grownBy w' (Value.slice wa ws.length cap).ownBlock := by
 obtain ⟨S', hi⟩ : ∃ S' : Nat → Prop, Ints S' w wa ws := by
  obtain ⟨a, c, e, h1⟩ := ints_of_row (S' := fun b => base ≤ b) (by omega) h (fun _ h1 => h1)
  simp only [Value.slice.injEq] at e
  obtain ⟨rfl, _, rfl⟩ := e
  exact ⟨_, h1⟩
 have HG := hid (gcd_any S' wa cap ws w hi (fun x hx => by have := hp x hx; omega))
 have HP := hid hp
 have HR := hid h
 obtain ⟨N, hN⟩ : ∃ N, N = ws.length := ⟨_, rfl⟩
 obtain ⟨q, hq⟩ : ∃ q, q = gcdL 0 ws := ⟨_, rfl⟩
 have HQ := hid (show 0 < N → 0 < q by intro h; rw [hq]; exact gcdL_pos (by omega) (fun x hx => (hp x hx).1))
 rw [← hN, ← hq] at HG
 rw [← hN] at hn HR
 rw [← hq, ← hN]
 have HN := hid hN
 clear h hp hi hN hq
 go_enter Tryz.func182, Tryz.ntmps182
 go_wp2_with fail
 refine HG.out.mono ?_
 rintro e w1 ⟨rfl, nd, rfl⟩
 go_wp2_with fail
 go_loopw [8] (fun i wr => ∃ j : Nat, j ≤ N ∧ i = .int .i64 j ∧ wr.ownsRow base 3 1 (.slice wa N cap) N (((ws.take j).map (fun x => x / (q : Int)) ++ ws.drop j).map (Value.int .i64)) ∧ w.grownBy wr (Value.slice wa N cap).ownBlock) (fun i _ => N - (intOf i).toNat)
 case atStart => exact ⟨0, Nat.zero_le _, rfl, by rw [List.take_zero, List.drop_zero, List.map_nil, List.nil_append]; exact HR.out, ⟨rfl, rfl, rfl, Nat.le_refl _, fun _ _ _ => rfl⟩⟩
 case round =>
  obtain ⟨j, hj, rfl, hown, hg⟩ := hrel
  have HO := hid hown
  have HGR := hid hg
  by_cases hlt : j < N
  ·have hjl : j < ws.length := by rw [← HN.out]; exact hlt
   obtain ⟨g, cap', hga, _, _⟩ := HO.out.form (by omega)
   simp only [Value.slice.injEq, true_and] at hga
   obtain ⟨rfl, rfl⟩ := hga
   have d0 := rowI_cell HO.out (j := j) (u := .int .i64 ws[j]) (by
    rw [List.getElem?_map, List.getElem?_append_right (by simp; omega), List.length_map, List.length_take, Nat.min_eq_left (by omega), Nat.sub_self, List.getElem?_drop, Nat.add_zero, List.getElem?_eq_getElem hjl]; rfl)
   have hst := divStep hjl (fun x => x / (q : Int)) (Value.int .i64)
   have hy := HP.out _ (List.getElem_mem hjl)
   obtain ⟨y, hye⟩ : ∃ y, y = ws[j] := ⟨_, rfl⟩
   rw [← hye] at d0 hst hy
   have HST := hid hst
   have hqp := HQ.out (by omega)
   have hyn : y.tdiv q = y / (q : Int) := Int.tdiv_eq_ediv_of_nonneg (by omega)
   have HYD := hid (show y / (q : Int) ≤ 1048576 ∧ 0 ≤ y / (q : Int) from ⟨Int.le_trans (Int.ediv_le_self _ (by omega)) (by omega), Int.ediv_nonneg (by omega) (by omega)⟩)
   have hqz : ¬ q = 0 := by omega
   have hfz := HO.out.frozenAt j
   clear hown hg hst hye hqp
   go_wp2_with fail
   go_roundw
   case rel =>
    have h1 := HO.out.stored j (.int .i64 (y / (q : Int)))
    refine ⟨j + 1, by omega, by go_num, ?_, ?_⟩
    ·rw [← HST.out, show wrap64 (y / (q : Int)) = y / (q : Int) by have := HYD.out; unfold wrap64; omega]; exact h1.1
    ·rw [show wrap64 (y / (q : Int)) = y / (q : Int) by have := HYD.out; unfold wrap64; omega]
     exact HGR.out.trans h1.2
   case measure => simp [intOf]; omega
  ·obtain rfl : j = N := by omega
   have HO2 := hid (show wr.ownsRow base 3 1 (.slice wa j cap) j ((ws.map (fun x => x / (q : Int))).map (Value.int .i64)) by
    have h1 := HO.out
    rw [HN.out, List.take_length, List.drop_length, List.append_nil, ← HN.out] at h1
    exact h1)
   clear hown hg
   go_wp2_with fail
   go_end0
   exact ⟨rfl, HO2.out, HGR.out⟩
end Go.Proofs.YtcekilcgpgjooaaGreatDoor
