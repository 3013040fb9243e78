/- Proved here: contracts of the walk to BisimGraphs: collect; each under the conditions that its own statement names. -/
import Derived.Test.YtcekilcgpgjooaaGreatDoorG41
set_option maxRecDepth 100000
set_option maxHeartbeats 12800000
namespace Go.Proofs.YtcekilcgpgjooaaGreatDoor
open Go Go.RowKit
open Go.Lib (hid)
def enc3 (e : El) : List Value := [.int .i64 e.n, .slice e.a e.k.len e.cap, .slice e.c e.ws.length e.cp]
def flat3 (l : List El) : List Value := l.flatMap enc3
theorem flat3_snoc (l : List El) (p : El) : flat3 (l ++ [p]) = flat3 l ++ enc3 p := by simp [flat3]
theorem row_of {S : Nat → Prop} {w : World} : ∀ {M : List El}, (∀ e ∈ M, e.In S w) → (toV M).Row S w (flat3 M) := by
 intro M
 induction M with
 | nil => intro _; rfl
 | cons e r ih =>
  intro h
  obtain ⟨h1, h2⟩ := h e (List.mem_cons_self ..)
  exact ⟨e.a, e.cap, e.c, e.cp, flat3 r, rfl, h1, h2, ih (fun z hz => h z (List.mem_cons_of_mem _ hz))⟩
theorem weighs_sum {k : Int} {len : Nat} {ws : List Int} (h : weighs k len ws = true) (hk : k = 6 ∨ k = 7) : sumL ws ≤ 1048576 ∧ (∀ y ∈ ws, 1 ≤ y) ∧ ws.length = len := by
 unfold weighs at h
 rw [if_pos hk] at h
 simp only [Bool.and_eq_true, decide_eq_true_eq] at h
 obtain ⟨h1, h2⟩ := wOk_sum ws 1048576 (by omega) h.1
 exact ⟨h1, h2, h.2⟩
theorem wT_wts (M : List El) : wT M = sumL (wts M) := by
 induction M with
 | nil => rfl
 | cons e r ih => simp only [wT, wts, List.map_cons, sumL] at *; rw [ih]
theorem wT_zero {M : List El} (h : ∀ e ∈ M, e.wt = 0) : wT M = 0 := by
 induction M with
 | nil => rfl
 | cons e r ih => simp only [wT]; rw [ih (fun z hz => h z (List.mem_cons_of_mem _ hz)), h e (List.mem_cons_self ..)]; rfl
theorem last_cell {w : World} {base g cap j : Nat} {e : TypeId} {E : List El} {x0 x1 x2 x3 : Value} (hl : E.length = j) (h : w.ownsRow base e 4 (.slice (some ⟨g, 0, none⟩) (j + 1) cap) (j + 1) (flatE E ++ [x0, x1, x2, x3])) : w.cell? ⟨g, j * 4 + 3, none⟩ = some x3 := by
 rw [h.cellAt (j * 4 + 3) (by omega), List.getElem?_append_right (by rw [flatE_len]; omega), flatE_len, hl, show j * 4 + 3 - j * 4 = 3 by omega]
 rfl
theorem rows_apart {w : World} {base base' : Nat} {e e' : TypeId} {size size' n m : Nat} {v u : Value} {xs ys : List Value} (h : w.ownsRow base e size v n xs) (h' : w.ownsRow base' e' size' u m ys) (hne : e ≠ e') : v.ownBlock = none ∨ v.ownBlock ≠ u.ownBlock := by
 rcases h.2 with ⟨rfl, _⟩ | ⟨g, cap, cur, rfl, _, hg, _⟩
 ·exact Or.inl rfl
 ·right
  intro e1
  rcases h'.2 with ⟨rfl, _⟩ | ⟨g', cap', cur', rfl, _, hg', _⟩
  ·simp [Value.ownBlock] at e1
  ·simp only [Value.ownBlock, Option.some.injEq] at e1
   subst e1
   rw [hg] at hg'
   cases hg'
   exact hne rfl
theorem gb_step {a b c : World} {r row : Option Nat} (h : a.grownBy b r) (h' : b.grownBy c row) (hr : ∀ k, row = some k → a.heap.size ≤ k ∨ r = some k) : a.grownBy c r :=
 ⟨h'.os.trans h.os, h'.tape.trans h.tape, h'.output.trans h.output, Nat.le_trans h.size h'.size, fun k hk hne => (h'.block k (Nat.lt_of_lt_of_le hk h.size) (fun e => by
  rcases hr k e.symm with h1 | h1
  ·omega
  ·exact hne h1.symm)).trans (h.block k hk hne)⟩
theorem gb_alloc (b : World) (o : Obj) (r : Option Nat) : b.grownBy (b.alloc o) r := ⟨rfl, rfl, rfl, by simp, fun k hk _ => Below.heap_alloc _ _ _ hk⟩
theorem gb_set (b : World) (g q : Nat) (u : Value) : b.grownBy (b.setCell ⟨g, q, none⟩ u) (some g) := ⟨rfl, rfl, rfl, by simp [World.setCell], fun k _ hne => Below.heap_setCell _ _ _ _ (fun e => hne (by rw [e]))⟩
theorem gb_below {W a b : World} {vb : Nat} (h : Below W.heap.size W a) (hg : a.grownBy b (some vb)) (hv : W.heap.size ≤ vb) : Below W.heap.size W b :=
 h.trans ⟨hg.os, hg.tape, hg.output, hg.size, fun q hq => hg.block q (by have := h.size; omega) (fun e => by cases e; omega)⟩
theorem set_thirdV {w : World} {b : Nat} {x0 x1 x2 v : Value} {t : TypeId} (h : w.heap[b]? = some (.cells #[x0, x1, x2] t (0, 0))) : (w.setCell ⟨b, 2, none⟩ v).heap[b]? = some (.cells #[x0, x1, v] t (0, 0)) := by
 simp [World.setCell, Array.getElem?_modify, h]
theorem app_next {t P : V} {j : Nat} {n : Int} {k : V} {ws : List Int} {r : V} (h : t = P.app (t.drop j)) (hd : t.drop j = .cons n k ws r) (hd1 : t.drop (j + 1) = r) : t = (P.app (.cons n k ws .nil)).app (t.drop (j + 1)) := by
 rw [V.app_assoc, hd1]
 show t = P.app (.cons n k ws r)
 rw [← hd]
 exact h
theorem collect_any (S S2 : Nat → Prop) (f : F) (a ka c : Option Addr) (cap kcap cp : Nat) (ks : V) (ws : List Int) (w : World) (hv : Vl S w ka ks) (hi : Ints S2 w c ws) (hS : ∀ b, w.heap.size ≤ b → S b) (hk : coll f.k = true) (hw : weighs f.k ks.len ws = true) (hn : ks.len ≤ 1000000) :
    Calls Tryz.prog 156 #[f.val a cap, .slice ka ks.len kcap, .slice c ws.length cp] w fun e w' => ∃ a2 c2 cap2 cp2, e = .returned (Vv 0 a2 (mrg f.k ks ws).1.len cap2 c2 (mrg f.k ks ws).2.length cp2) ∧ Vl S w' a2 (mrg f.k ks ws).1 ∧ Ints (fun b => w.heap.size ≤ b) w' c2 (mrg f.k ks ws).2 ∧ Below w.heap.size w w' := by
 obtain ⟨i0, hi0, hz0, hz1, hz2⟩ := info_parts infoE
 obtain ⟨i1, hi1, hv0, hv1, hv2⟩ := info_parts infoV
 obtain ⟨i2, hi2, hx0, hx1, hx2⟩ := info_parts infoI
 obtain ⟨k, hkk⟩ : ∃ k, k = f.k := ⟨_, rfl⟩
 rw [← hkk] at hk hw ⊢
 have hk3 : k = 5 ∨ k = 6 ∨ k = 7 := by unfold coll at hk; exact of_decide_eq_true hk
 obtain ⟨W, hW⟩ : ∃ W : World, W = (w.alloc (Obj.cells #[.int .i64 k, .int .i64 f.n, .slice a f.t.len cap] 24)).alloc (Obj.cells #[.int .i64 0, .slice none 0 0, .slice none 0 0] 58) := ⟨_, rfl⟩
 have hWb : Below w.heap.size w W := by rw [hW]; exact ba2 _ _ _
 have hWs : W.heap.size = w.heap.size + 2 := by rw [hW]; simp
 have g0 : W.heap[w.heap.size]? = some (.cells #[.int .i64 k, .int .i64 f.n, .slice a f.t.len cap] 24 (0, 0)) := by rw [hW]; exact heap_old2 _ _ _
 have g1 : W.heap[w.heap.size + 1]? = some (.cells #[.int .i64 0, .slice none 0 0, .slice none 0 0] 58 (0, 0)) := by rw [hW]; exact heap_new2 _ _ _
 obtain ⟨B, hB⟩ : ∃ B, B = w.heap.size := ⟨_, rfl⟩
 rw [← hB] at g0 g1 hWs
 have HB := hid hB
 have HWB := hid hWb
 have HWS := hid hWs
 have HV := hid hv.lt
 have HI := hid hi
 have HG0 := hid g0
 have HG1 := hid g1
 have HSS := hid hS
 have HW := hid hw
 have hlw := hi.1
 obtain ⟨N, hN⟩ : ∃ N, N = ks.len := ⟨_, rfl⟩
 rw [← hN] at hn ⊢
 obtain ⟨nw, hnw⟩ : ∃ nw, nw = ws.length := ⟨_, rfl⟩
 rw [← hnw] at hlw ⊢
 have HN := hid hN
 have HNW := hid hnw
 obtain ⟨R, hR⟩ : ∃ R, R = mrg k ks ws := ⟨_, rfl⟩
 rw [← hR]
 have HR := hid hR
 have hfv : f.val a cap = .agg #[.int .i64 k, .int .i64 f.n, .slice a f.t.len cap] := by rw [hkk]
 rw [hfv]
 clear hv hi hS hw hWb hWs g0 g1 hN hnw hR hk hkk hfv
 go_enter Tryz.func156, Tryz.ntmps156
 go_wp2_with fail
 rw [← hW, ← hB]
 clear hW hB
 go_loopw [7, 15] (fun z i wr => ∃ (j : Nat) (u : Value) (E : List El), j ≤ N ∧ u = z ∧ i = .int .i64 j ∧ wr.ownsRow W.heap.size 204 4 u j (flatE E) ∧ E.length = j ∧ ks = (toV E).app (ks.drop j) ∧ (k ≠ 5 → wts E = ws.take j) ∧ (k = 5 → ∀ e ∈ E, e.wt = 0) ∧ (∀ e ∈ E, e.In (fun b => S b ∧ b < w.heap.size) w) ∧ Below W.heap.size W wr) (fun _ i _ => N - (intOf i).toNat)
 case atStart => exact ⟨0, _, [], Nat.zero_le _, rfl, rfl, World.ownsRow_nil _ _ _ _, rfl, (by simp [toV, V.app]), fun _ => rfl, fun _ e he => (by simp at he), fun e he => (by simp at he), Below.refl _ _⟩
 case round =>
  obtain ⟨j, u, E, hj, rfl, rfl, hown, hel, hap, hwt, hwz, hin, hb⟩ := hrel
  have HO := hid hown
  have HEL := hid hel
  have HAP := hid hap
  have HWT := hid hwt
  have HWZ := hid hwz
  have HIN := hid hin
  have HBB := hid hb
  clear hown hel hap hwt hwz hin
  by_cases hlt : j < N
  ·have hjn : j < ks.len := by rw [← HN.out]; exact hlt
   obtain ⟨b, o, rfl, hat⟩ := HV.out.addr hjn
   obtain ⟨n1, k1, ws1, r1, hd, hd1⟩ := V.drop_lt hjn
   obtain ⟨d0, ⟨a1, cap1, d1, hv1⟩, ⟨c1, cp1, d2, hi1⟩⟩ := hat.get hd
   have hbw : Below w.heap.size w wr := HWB.out.trans (hb.mono HWB.out.size)
   replace d0 := cell_below hbw d0
   replace d1 := cell_below hbw d1
   replace d2 := cell_below hbw d2
   have HNX := hid (app_next HAP.out hd hd1)
   have HIE := hid (show Vl (fun b => S b ∧ b < w.heap.size) w a1 k1 ∧ Ints (fun b => S b ∧ b < w.heap.size) w c1 ws1 from ⟨hv1, hi1⟩)
   have hs2 := hb.size
   clear hat hd hd1 hv1 hi1 hbw
   clear hb
   by_cases hk5 : k = 5
   ·subst hk5
    go_wp2_with (at_builtin; refine wpList_append_own _ rfl _ _ 202 rfl W.heap.size 204 i0 (.agg #[.int .i64 0, .slice none 0 0, .slice none 0 0, .int .i64 0]) 4 64 Tryz.underlying202 hi0 hz0 hz1 hz2 rfl (by decide) _ _ _ rfl ((HO.out.alloc _).alloc _) ⟨wr.heap.size + 1, 0, none⟩ 1 1 [.int .i64 n1, .slice a1 k1.len cap1, .slice c1 ws1.length cp1, .int .i64 0] rfl rfl (fun j u hu => World.news_of_block (heap_new2 _ _ _) j u hu) (by intro z hz; simp at hz; rcases hz with rfl | rfl | rfl | rfl <;> rfl) (by unfold maxLen; omega) (by omega) (by simp; omega) ?_; intro v' w3 hown' hgrow _; obtain ⟨g5, cap5, rfl, hg5, _⟩ := hown'.form (by omega); have HO3 := hid hown'; have hb3 : Below W.heap.size W w3 := ((HBB.out.alloc HBB.out.size _).alloc (by simp; omega) _).grown hgrow (by simp; omega) (fun j hj => (HO.out.lt j hj).1); have HB3 := hid hb3; obtain ⟨f0, f1, f2⟩ := cells_of ((hb3.block _ (heap_lt HG0.out)).trans HG0.out); clear hown' hgrow hb3)
    go_roundw
    case rel =>
     refine ⟨j + 1, _, E ++ [⟨n1, a1, cap1, k1, c1, cp1, ws1, 0⟩], by omega, rfl, by go_num, by rw [flatE_snoc]; exact HO3.out, by rw [List.length_append, HEL.out]; rfl, by rw [toV_app]; exact HNX.out, fun h => absurd rfl h, fun _ e he => ?_, fun e he => ?_, HB3.out⟩
     ·rcases List.mem_append.1 he with he | he
      ·exact HWZ.out rfl e he
      ·simp only [List.mem_singleton] at he; subst he; rfl
     ·rcases List.mem_append.1 he with he | he
      ·exact HIN.out e he
      ·simp only [List.mem_singleton] at he; subst he; exact HIE.out
    case measure => simp [intOf]; omega
   ·have hk5' : (k != 5) = true := by simpa using hk5
    have hws : j < ws.length := by
     have := (weighs_sum HW.out (by omega)).2.2
     omega
    obtain ⟨wb, wo, rfl, e0⟩ := HI.out.get hws
    obtain ⟨y, hy⟩ : ∃ y, y = ws[j] := ⟨_, rfl⟩
    rw [← hy] at e0
    have HY := hid hy
    have HE0 := hid e0
    have hjw : j < nw := by have := HNW.out; omega
    have HE1 := hid (show flatE (E ++ [⟨n1, a1, cap1, k1, c1, cp1, ws1, y⟩]) = (flatE E ++ [Value.int .i64 n1, Value.slice a1 k1.len cap1, Value.slice c1 ws1.length cp1, Value.int .i64 0]).set (j * 4 + 3) (.int .i64 y) by
     have := flatE_set (M0 := E) (l := ⟨n1, a1, cap1, k1, c1, cp1, ws1, 0⟩) (y := y)
     rw [HEL.out, flatE_snoc] at this
     exact this.symm)
    clear hy e0
    go_wp2_with (at_builtin; refine wpList_append_own _ rfl _ _ 202 rfl W.heap.size 204 i0 (.agg #[.int .i64 0, .slice none 0 0, .slice none 0 0, .int .i64 0]) 4 64 Tryz.underlying202 hi0 hz0 hz1 hz2 rfl (by decide) _ _ _ rfl ((HO.out.alloc _).alloc _) ⟨wr.heap.size + 1, 0, none⟩ 1 1 [.int .i64 n1, .slice a1 k1.len cap1, .slice c1 ws1.length cp1, .int .i64 0] rfl rfl (fun j u hu => World.news_of_block (heap_new2 _ _ _) j u hu) (by intro z hz; simp at hz; rcases hz with rfl | rfl | rfl | rfl <;> rfl) (by unfold maxLen; omega) (by omega) (by simp; omega) ?_; intro v' w3 hown' hgrow _; obtain ⟨g5, cap5, rfl, hg5, _⟩ := hown'.form (by omega); have HO3 := hid hown'; have hb3 : Below W.heap.size W w3 := ((HBB.out.alloc HBB.out.size _).alloc (by simp; omega) _).grown hgrow (by simp; omega) (fun j hj => (HO.out.lt j hj).1); have HB3 := hid hb3; obtain ⟨f0, f1, f2⟩ := cells_of ((hb3.block _ (heap_lt HG0.out)).trans HG0.out); have e0 := cell_below (HWB.out.trans (hb3.mono HWB.out.size)) HE0.out; have hfz := HO3.out.frozenAt (j * 4 + 3); have hc3 := last_cell HEL.out HO3.out; clear hown' hgrow hb3)
    go_roundw
    case rel =>
     refine ⟨j + 1, _, E ++ [⟨n1, a1, cap1, k1, c1, cp1, ws1, y⟩], by omega, rfl, by go_num, by rw [HE1.out]; exact (HO3.out.stored (j * 4 + 3) (.int .i64 y)).1, by rw [List.length_append, HEL.out]; rfl, by rw [toV_app]; exact HNX.out, fun h => ?_, fun h => absurd h hk5, fun e he => ?_, HB3.out.setCell (p := ⟨g5, j * 4 + 3, none⟩) hg5 _⟩
     ·rw [List.take_succ_eq_append_getElem hws, ← HWT.out h, ← HY.out]; simp [wts]
     ·rcases List.mem_append.1 he with he | he
      ·exact HIN.out e he
      ·simp only [List.mem_singleton] at he; subst he; exact HIE.out
    case measure => simp [intOf]; omega
  ·obtain rfl : j = N := by omega
   have HKE := hid (show ks = toV E by have := HAP.out; rw [HN.out, V.drop_all, V.app_nil] at this; exact this)
   have HWE := hid (show k ≠ 5 → ws = wts E by
    intro h
    have h1 := (weighs_sum HW.out (by omega)).2.2
    rw [HWT.out h, List.take_of_length_le (by have := HN.out; omega)])
   have HTE := hid (show (∀ e ∈ E, 0 ≤ e.wt) ∧ wT E ≤ 1048576 ∧ (k ≠ 5 → ∀ e ∈ E, 1 ≤ e.wt) by
    by_cases h5 : k = 5
    ·have h1 := HWZ.out h5
     exact ⟨fun e he => by rw [h1 e he]; omega, by rw [wT_zero h1]; omega, fun h => absurd h5 h⟩
    ·obtain ⟨h1, h2, h3⟩ := weighs_sum HW.out (by omega)
     rw [HWE.out h5] at h1 h2
     have h4 : ∀ e ∈ E, 1 ≤ e.wt := fun e he => h2 _ (by simp only [wts, List.mem_map]; exact ⟨e, he, rfl⟩)
     exact ⟨fun e he => by have := h4 e he; omega, by rw [wT_wts]; exact h1, fun _ => h4⟩)
   have hbw : Below w.heap.size w wr := HWB.out.trans (hb.mono HWB.out.size)
   obtain ⟨X, hX⟩ : ∃ X : World, X = wr.alloc (Obj.cells #[.int .i64 0, .slice none 0 0, .slice none 0 0] 58) := ⟨_, rfl⟩
   obtain ⟨vb, hvb⟩ : ∃ vb, vb = wr.heap.size := ⟨_, rfl⟩
   have hXb : X.heap[vb]? = some (Obj.cells #[.int .i64 0, .slice none 0 0, .slice none 0 0] 58 (0, 0)) := by rw [hX, hvb]; exact heap_new _ _
   have hwX : Below wr.heap.size wr X := by rw [hX]; exact ba _ _
   have HXW := hid (hb.trans (hwX.mono hb.size))
   have HXB := hid hXb
   have hvb2 : W.heap.size ≤ vb := by rw [hvb]; exact hb.size
   obtain ⟨ga, gcap, hu⟩ : ∃ ga gcap, u = .slice ga j gcap := by
    rcases HO.out.2 with ⟨h, h0⟩ | ⟨g2, c2, _, h, _⟩
    ·exact ⟨none, 0, by rw [h, h0]⟩
    ·exact ⟨_, _, h⟩
   subst hu
   have HGA := hid (show ∀ g, ga = some g → W.heap.size ≤ g.block ∧ g.block < vb by
    intro g hg
    subst hg
    have := HO.out.lt g.block rfl
    rw [hvb]; exact this)
   have HM := hid (merge_any (fun b => S b ∧ b < w.heap.size) W.heap.size ga gcap E X (by rw [HEL.out]; exact row_below HO.out hwX) (fun e he => ((HIN.out e he).below hbw).below hwX) (fun b hb e => by
    rw [HEL.out] at e
    cases ga with
    | none => simp [Value.ownBlock] at e
    | some g =>
     simp only [Value.ownBlock, Option.some.injEq] at e
     have h1 := HGA.out g rfl
     have h2 := HWB.out.size
     have h3 := hb.2
     omega) (by rw [HEL.out]; exact hn) HTE.out.1 HTE.out.2.1)
   rw [HEL.out] at HM
   clear hb hbw hXb hwX
   go_wp2_with fail
   rw [← hX, ← hvb]
   clear hX hvb
   refine HM.out.mono ?_
   rintro e w2 ⟨L', mu, hp, hso, rfl, hrow, hg2⟩
   have hmd := mgd_of hso L'.length (Nat.le_refl _)
   rw [List.take_length] at hmd
   have HRE := hid (show R = (toV (mgL L'), outW k (mgL L')) by rw [HR.out, HKE.out]; exact mrg_of hk3 hp hso HTE.out.2.2 ws HWE.out)
   obtain ⟨M, hM⟩ : ∃ M, M = mgL L' := ⟨_, rfl⟩
   rw [← hM] at HRE hmd hrow
   have HIM := hid (show ∀ e ∈ M, e.In (fun b => S b ∧ b < w.heap.size) w from hmd.all _ (fun _ _ h => h) (fun z hz => HIN.out z (hp.mem_iff.1 hz)))
   have HTM := hid (show k ≠ 5 → ∀ x ∈ wts M, 1 ≤ x ∧ x ≤ 1048576 by
    intro h5 x hx
    simp only [wts, List.mem_map] at hx
    obtain ⟨e, he, rfl⟩ := hx
    have h1 := hmd.nn 1 (by omega) (fun z hz => HTE.out.2.2 h5 z (hp.mem_iff.1 hz))
    have h2 := wT_mem (fun z hz => by have := h1 z hz; omega) he
    have h3 := HTE.out.2.1
    rw [hmd.sum, wT_perm hp] at h2
    exact ⟨h1 e he, by omega⟩)
   have hml : M.length ≤ 1000000 := by have := hmd.len; rw [hp.length_eq, HEL.out] at this; omega
   have HBW2 := hid (show Below W.heap.size W w2 from HXW.out.grown hg2 HXW.out.size (fun q hq => by
    cases ga with
    | none => simp [Value.ownBlock] at hq
    | some g =>
     simp only [Value.ownBlock, Option.some.injEq] at hq
     have := HGA.out g rfl
     omega))
   have HVB := hid (show w2.heap[vb]? = some (Obj.cells #[.int .i64 0, .slice none 0 0, .slice none 0 0] 58 (0, 0)) by
    rw [hg2.block vb (heap_lt HXB.out) (fun e => by
     cases ga with
     | none => simp [Value.ownBlock] at e
     | some g =>
      simp only [Value.ownBlock, Option.some.injEq] at e
      have := HGA.out g rfl
      omega)]
    exact HXB.out)
   have hvx := heap_lt HXB.out
   obtain ⟨m, hm⟩ : ∃ m, m = M.length := ⟨_, rfl⟩
   rw [← hm] at hml hrow
   have HML := hid hm
   obtain ⟨ma, mcap, hmu, hmg⟩ : ∃ ma mcap, mu = .slice ma m mcap ∧ ∀ g, ma = some g → vb < g.block := by
    rcases hrow.2 with ⟨h, h0⟩ | ⟨g2, c2, _, h, h1, _⟩
    ·exact ⟨none, 0, by rw [h, h0], fun g hg => by cases hg⟩
    ·exact ⟨_, _, h, fun g hg => by cases hg; exact Nat.lt_of_lt_of_le hvx h1⟩
   subst hmu
   have HMG := hid hmg
   have HMU := hid hrow
   clear hp hso hrow hg2 hmd hM hm hmg hvx
   go_wp2_with fail
   go_loopw [40] (fun i wr => ∃ (j : Nat) (va vw : Value), j ≤ m ∧ i = .int .i64 j ∧ wr.heap[vb]? = some (Obj.cells #[.int .i64 0, va, vw] 58 (0, 0)) ∧ wr.ownsRow w2.heap.size 58 3 va j (flat3 (M.take j)) ∧ (k = 5 → vw = .slice none 0 0) ∧ (k ≠ 5 → wr.ownsRow w2.heap.size 3 1 vw j ((wts (M.take j)).map (Value.int .i64))) ∧ w2.grownBy wr (some vb)) (fun i _ => m - (intOf i).toNat)
   case atStart => exact ⟨0, _, _, Nat.zero_le _, rfl, HVB.out, World.ownsRow_nil _ _ _ _, fun _ => rfl, fun _ => World.ownsRow_nil _ _ _ _, ⟨rfl, rfl, rfl, Nat.le_refl _, fun _ _ _ => rfl⟩⟩
   case round =>
    obtain ⟨j2, va, vw, hj2, rfl, hvbr, hva, hv5, hvw, hgw⟩ := hrel
    have HVR := hid hvbr
    have HVA := hid hva
    have HV5 := hid hv5
    have HVW := hid hvw
    have HGW := hid hgw
    have hvl : vb < w2.heap.size := heap_lt HVB.out
    have hwb2 := HWB.out.size
    have hbW : Below W.heap.size W wr := HBW2.out.trans ⟨hgw.os, hgw.tape, hgw.output, hgw.size, fun q hq => hgw.block q (by have := HBW2.out.size; omega) (fun e => by cases e; omega)⟩
    have HBWR := hid hbW
    by_cases hlt2 : j2 < m
    ·have hjm : j2 < M.length := by rw [← HML.out]; exact hlt2
     obtain ⟨x, hx⟩ : ∃ x, M[j2]? = some x := ⟨_, List.getElem?_eq_getElem hjm⟩
     have hxm : x ∈ M := List.mem_of_getElem? hx
     have hst : M.take (j2 + 1) = M.take j2 ++ [x] := by
      rw [List.getElem?_eq_getElem hjm] at hx
      rw [List.take_succ_eq_append_getElem hjm, Option.some.inj hx]
     obtain ⟨g, mcap', hga, _, hgl⟩ := HMU.out.form (by omega)
     simp only [Value.slice.injEq, true_and] at hga
     obtain ⟨rfl, rfl⟩ := hga
     have hgne : vb < g := HMG.out _ rfl
     have hmu2 := HMU.out.kept hgw (Or.inr (fun e => by simp only [Value.ownBlock, Option.some.injEq] at e; omega))
     obtain ⟨d0, d1, d2, d3⟩ := rowE_cells hmu2 hx
     have HST := hid hst
     have HXI := hid (HIM.out x hxm)
     obtain ⟨xn, xa, xcap, xk, xc, xcp, xws, xwt⟩ := x
     simp only at d0 d1 d2 d3
     have hs2 := hgw.size
     have hvr : vb < wr.heap.size := by omega
     have hBr : B < wr.heap.size := by have := hbW.size; have := heap_lt HG0.out; omega
     have hgr : g < wr.heap.size := by omega
     obtain ⟨v0, v1, v2⟩ := cells_of hvbr
     obtain ⟨f0, f1, f2⟩ := cells_of ((hbW.block _ (heap_lt HG0.out)).trans HG0.out)
     have HF0 := hid (fun u (hu : Below W.heap.size W u) => cells_of ((hu.block _ (heap_lt HG0.out)).trans HG0.out))
     clear hvbr hva hv5 hvw hgw hbW hx hxm hst hmu2 hgne
     obtain ⟨xb, hxb⟩ : ∃ xb, xb = wr.heap.size := ⟨_, rfl⟩
     go_upto_region 14 with (at_builtin; refine wpList_append_own _ rfl _ _ 25 rfl w2.heap.size 58 i1 (.agg #[.int .i64 0, .slice none 0 0, .slice none 0 0]) 3 56 Tryz.underlying25 hi1 hv0 hv1 hv2 rfl (by decide) _ _ _ rfl ((HVA.out.alloc _).alloc _) ⟨wr.heap.size + 1, 0, none⟩ 1 1 [.int .i64 xn, .slice xa xk.len xcap, .slice xc xws.length xcp] rfl rfl (fun j u hu => World.news_of_block (heap_new2 _ _ _) j u hu) (by intro z hz; simp at hz; rcases hz with rfl | rfl | rfl <;> rfl) (by unfold maxLen; omega) (by omega) (by simp; omega) ?_; intro v' w3 hown' hgrow hat; obtain ⟨g5, cap5, rfl, hg5, _⟩ := hown'.form (by omega); have HO3 := hid hown'; have HGR3 := hid hgrow; have HAT := hid hat; have hq : w3.heap[vb]? = some (Obj.cells #[.int .i64 0, va, vw] 58 (0, 0)) := (by rw [hgrow.block vb (by simp; omega) (fun e => by have := (HVA.out.lt vb e.symm).1; omega), Below.heap_alloc _ _ _ (by simp; omega), Below.heap_alloc _ _ _ hvr]; exact HVR.out); obtain ⟨q0, q1, q2⟩ := cells_of hq; have qf := frozen_of (o := 1) hq; have HQ := hid hq; clear hown' hgrow hat hq)
     have hva5 : w2.heap.size ≤ g5 := hg5
     obtain ⟨vv, hvv⟩ : ∃ vv, vv = Value.slice (some ⟨g5, 0, none⟩) (j2 + 1) cap5 := ⟨_, rfl⟩
     have hvvo : vv.ownBlock = some g5 := by rw [hvv]; rfl
     rw [← hvv] at HO3 ⊢
     obtain ⟨Y, hY⟩ : ∃ Y, Y = w3.setCell ⟨vb, 1, none⟩ vv := ⟨_, rfl⟩
     rw [← hY]
     have hvlt : ∀ q, va.ownBlock = some q → w2.heap.size ≤ q ∧ q < wr.heap.size := fun q hq => HVA.out.lt q hq
     have hgy : w2.grownBy Y (some vb) := by
      rw [hY]
      exact gb_step (gb_step (gb_step (gb_step HGW.out (gb_alloc _ _ (some vb)) (fun q h => Or.inr h)) (gb_alloc _ _ (some vb)) (fun q h => Or.inr h)) HGR3.out (fun q h => Or.inl (hvlt q h).1)) (gb_set _ _ _ _) (fun q h => Or.inr h)
     have hybox : Y.heap[vb]? = some (Obj.cells #[.int .i64 0, vv, vw] 58 (0, 0)) := by rw [hY]; exact set_second HQ.out
     have hyo : Y.ownsRow w2.heap.size 58 3 vv (j2 + 1) (flat3 (M.take (j2 + 1))) := by
      rw [HST.out, flat3_snoc, hY]
      exact HO3.out.kept (gb_set _ _ _ _) (Or.inr (by rw [hvvo]; intro e; cases e; omega))
     have hyx : Y.heap[wr.heap.size]? = some (Obj.cells #[.int .i64 xn, .slice xa xk.len xcap, .slice xc xws.length xcp, .int .i64 xwt] 204 (0, 0)) := by
      rw [hY, Below.heap_setCell _ _ _ _ (by simp; omega), HGR3.out.block _ (by simp; omega) (fun e => by have := (hvlt _ e.symm).2; omega), Below.heap_alloc _ _ _ (by simp)]
      exact heap_new _ _
     have HYBOX := hid hybox
     have HYO := hid hyo
     have HGY := hid hgy
     have hbY : Below W.heap.size W Y := gb_below HBW2.out hgy hvb2
     clear q0 q1 q2 qf d0 d1 d2 d3 v0 v1 v2 f0 f1 f2
     obtain ⟨v0, v1, v2⟩ := cells_of hybox
     obtain ⟨f0, f1, f2⟩ := HF0.out _ hbY
     obtain ⟨x0, x1, x2, x3⟩ := cells4' hyx
     by_cases hk5 : k = 5
     ·subst hk5
      have HV5' := hid (HV5.out rfl)
      clear hY hybox hyo hgy hbY hyx hvlt hvvo hvv
      go_wp2_with fail
      go_roundw
      case rel => exact ⟨j2 + 1, vv, vw, by omega, by go_num, HYBOX.out, HYO.out, fun _ => HV5'.out, fun h => absurd rfl h, HGY.out⟩
      case measure => simp [intOf]; omega
     ·have hk5' : (k != 5) = true := by simpa using hk5
      have hyw : Y.ownsRow w2.heap.size 3 1 vw j2 ((wts (M.take j2)).map (Value.int .i64)) := by
       have h1 := HVW.out hk5
       have h2 := rows_apart HVA.out h1 (by decide)
       have h3 := (h1.alloc (Obj.cells #[Value.int .i64 xn, .slice xa xk.len xcap, .slice xc xws.length xcp, .int .i64 xwt] 204)).alloc (Obj.cells #[Value.int .i64 xn, .slice xa xk.len xcap, .slice xc xws.length xcp] 58)
       have h4 := h3.kept (row := va.ownBlock) HGR3.out (by
        rcases h2 with h2 | h2
        ·rw [h2]; cases vw.ownBlock <;> simp
        ·exact Or.inr (fun e => h2 e.symm))
       rw [hY]
       exact h4.kept (gb_set _ _ _ _) (Or.inr (fun e => by have := (h1.lt _ e).1; omega))
      have HYW := hid hyw
      have hwx := hid (show wts (M.take (j2 + 1)) = wts (M.take j2) ++ [xwt] by rw [HST.out]; simp [wts])
      obtain ⟨yb, hyb⟩ : ∃ yb, yb = wr.heap.size := ⟨_, rfl⟩
      have hyr : vb < Y.heap.size := by have := heap_lt hybox; exact this
      have hsy := hgy.size
      rw [← hyb] at x0 x1 x2 x3 ⊢
      clear hyb hY hybox hyo hgy hbY hyx hvlt hvvo hvv hyw
      go_wp2_with (at_builtin; refine wpList_append_own _ rfl _ _ 45 rfl w2.heap.size 3 i2 (.int .i64 0) 1 8 Tryz.underlying45 hi2 hx0 hx1 hx2 rfl (by decide) _ _ _ rfl (HYW.out.alloc _) ⟨Y.heap.size, 0, none⟩ 1 1 [.int .i64 xwt] rfl rfl (fun j u hu => World.news_of_block (heap_new _ _) j u hu) (by intro z hz; simp at hz; subst hz; rfl) (by unfold maxLen; omega) (by omega) (by simp; omega) ?_; intro v' w4 hown' hgrow hat; obtain ⟨g6, cap6, rfl, hg6, _⟩ := hown'.form (by omega); have HO4 := hid hown'; have HGR4 := hid hgrow; have hq : w4.heap[vb]? = some (Obj.cells #[.int .i64 0, vv, vw] 58 (0, 0)) := (by rw [hgrow.block vb (by simp; omega) (fun e => by have := (HYW.out.lt vb e.symm).1; omega), Below.heap_alloc _ _ _ hyr]; exact HYBOX.out); obtain ⟨q0, q1, q2⟩ := cells_of hq; have qf := frozen_of (o := 2) hq; have HQ4 := hid hq; clear hown' hgrow hat hq)
      go_roundw
      case rel =>
       obtain ⟨vw', hvw'⟩ : ∃ vw', vw' = Value.slice (some ⟨g6, 0, none⟩) (j2 + 1) cap6 := ⟨_, rfl⟩
       have hvwo : vw'.ownBlock = some g6 := by rw [hvw']; rfl
       rw [← hvw'] at HO4 ⊢
       have h1 : ∀ q, vw.ownBlock = some q → w2.heap.size ≤ q ∧ q < Y.heap.size := fun q hq => HYW.out.lt q hq
       have h2 := rows_apart HYO.out HYW.out (by decide)
       have h3 := (HYO.out.alloc (Obj.cells #[Value.int .i64 xwt] 3)).kept (row := vw.ownBlock) HGR4.out h2
       refine ⟨j2 + 1, vv, vw', by omega, by go_num, set_thirdV HQ4.out, ?_, fun h => absurd h hk5, fun _ => ?_, ?_⟩
       ·exact h3.kept (gb_set _ _ _ _) (Or.inr (fun e => by have := (HYO.out.lt _ e).1; omega))
       ·rw [hwx.out, List.map_append]
        exact HO4.out.kept (gb_set _ _ _ _) (Or.inr (by rw [hvwo]; intro e; cases e; omega))
       ·exact gb_step (gb_step (gb_step HGY.out (gb_alloc _ _ (some vb)) (fun q h => Or.inr h)) (show _ from HGR4.out : (Y.alloc _).grownBy w4 vw.ownBlock) (fun q h => Or.inl (h1 q h).1)) (gb_set _ _ _ _) (fun q h => Or.inr h)
      case measure => simp [intOf]; omega
    ·obtain rfl : j2 = m := by omega
     have hva' : wr.ownsRow w2.heap.size 58 3 va j2 (flat3 M) := by
      have := HVA.out
      rwa [HML.out, List.take_length, ← HML.out] at this
     have hvw2 : k ≠ 5 → wr.ownsRow w2.heap.size 3 1 vw j2 ((wts M).map (Value.int .i64)) := by
      intro h5
      have := HVW.out h5
      rwa [HML.out, List.take_length, ← HML.out] at this
     have HVA' := hid hva'
     have HVW' := hid hvw2
     obtain ⟨v0, v1, v2⟩ := cells_of hvbr
     obtain ⟨f0, f1, f2⟩ := cells_of ((hbW.block _ (heap_lt HG0.out)).trans HG0.out)
     have hrb := (hbW.block _ (heap_lt HG1.out)).trans HG1.out
     have HRB := hid hrb
     obtain ⟨r0, r1, r2⟩ := cells_of hrb
     have rz : ∀ i, wr.frozen? ⟨B + 1, i, none⟩ = false := fun i => frozen_of hrb
     have hbw : Below w.heap.size w wr := HWB.out.trans (hbW.mono HWB.out.size)
     have hs0 := hbw.size
     have hlo : w.heap.size ≤ w2.heap.size := Nat.le_trans HWB.out.size HBW2.out.size
     have hB2 : B + 1 < w2.heap.size := Nat.lt_of_lt_of_le (heap_lt HG1.out) HBW2.out.size
     have hBe : B = w.heap.size := HB.out
     have hwo : ∀ b, some b = vw.ownBlock → w2.heap.size ≤ b ∧ some b ≠ va.ownBlock := by
      intro b hb'
      by_cases h5 : k = 5
      ·rw [hv5 h5] at hb'; simp [Value.ownBlock] at hb'
      ·refine ⟨((hvw2 h5).lt b hb'.symm).1, fun e => ?_⟩
       rcases rows_apart hva' (hvw2 h5) (by decide) with h | h
       ·rw [h] at e; cases e
       ·exact h (e.symm.trans hb')
     obtain ⟨vaa, vcap, hvae, hvl2⟩ := vl_of_row (S := fun b => S b ∧ b < w.heap.size) (S' := fun b => S b ∧ b ≠ B + 1 ∧ some b ≠ vw.ownBlock) (t := toV M) (by rw [toV_len, ← HML.out]; exact hml) (by rw [toV_len, ← HML.out]; exact hva') (row_of (fun e he => (HIM.out e he).below hbw)) (fun b h => ⟨h.1, by omega, fun e => by have := (hwo b e).1; omega⟩) (fun b hb' h => ⟨HSS.out b (by omega), by omega, fun e => (hwo b e).2 hb'.symm⟩)
     rw [toV_len, ← HML.out] at hvae
     subst hvae
     have HVL := hid hvl2
     obtain ⟨W5, hW5⟩ : ∃ W5, W5 = (if k = 5 then [] else wts M) := ⟨_, rfl⟩
     obtain ⟨nw5, hn5⟩ : ∃ nw5, nw5 = W5.length := ⟨_, rfl⟩
     obtain ⟨vwa, wcap, hvwe, hwl⟩ : ∃ vwa wcap, vw = .slice vwa nw5 wcap ∧ Ints (fun b => w.heap.size ≤ b ∧ b ≠ B + 1) wr vwa W5 := by
      by_cases h5 : k = 5
      ·rw [if_pos h5] at hW5
       subst hW5
       exact ⟨none, 0, by rw [hn5]; exact hv5 h5, by simp, Or.inl rfl⟩
      ·rw [if_neg h5] at hW5
       subst hW5
       have h1 := hvw2 h5
       obtain ⟨a1, c1, e1, h2⟩ := ints_of_row (S' := fun b => w.heap.size ≤ b ∧ b ≠ B + 1) (by rw [wts_len, ← HML.out]; omega) (by rw [wts_len, ← HML.out]; exact h1) (fun b h => by omega)
       exact ⟨a1, c1, by rw [hn5]; exact e1, h2⟩
     subst hvwe
     have HWL := hid hwl
     have HW5 := hid hW5
     have HN5 := hid hn5
     have HBWR2 := hid hbw
     have HWO := hid hwo
     have HBL := hid (show B = w.heap.size from HB.out)
     have hvbB : vb ≠ B + 1 := by have := HWS.out; omega
     by_cases h7 : k = 7
     ·have h7' : (k == 7) = true := by simpa using h7
      have h5 : k ≠ 5 := by omega
      have e5 : W5 = wts M := by rw [hW5, if_neg h5]
      have hrow5 := hvw2 h5
      have hn5m : nw5 = j2 := by rw [hn5, e5, wts_len, ← HML.out]
      have HRD := hid (reduce_any w2.heap.size vwa wcap W5 wr (by rw [← hn5, hn5m, e5]; rw [hn5m] at hrow5; exact hrow5) (by rw [e5]; exact HTM.out h5) (by rw [← hn5, hn5m]; exact hml))
      rw [← hn5] at HRD
      have HOW := hid (show outW k M = W5.map (fun x => x / ((gcdL 0 W5 : Nat) : Int)) by unfold outW; rw [if_neg h5, if_pos h7, e5])
      have HROW := hid hrow5
      have hlm5 : nw5 ≤ 1000000 := by rw [hn5m]; exact hml
      clear hvbr hva hv5 hvw hgw hbW hva' hvw2 hrb hbw hvl2 hwl hW5 hn5 hrow5 hn5m e5 hwo hBe
      go_wp2_with fail
      refine HRD.out.mono ?_
      rintro e w5 ⟨rfl, hrow6, hg6⟩
      have hwo2 := HWO.out
      have hq5 : w5.heap[vb]? = some (Obj.cells #[.int .i64 0, .slice vaa j2 vcap, .slice vwa nw5 wcap] 58 (0, 0)) := (hg6.block vb (heap_lt HVR.out) (fun e => by have := (hwo2 _ e).1; omega)).trans HVR.out
      have hrb5 : w5.heap[B + 1]? = some (Obj.cells #[.int .i64 0, .slice none 0 0, .slice none 0 0] 58 (0, 0)) := (hg6.block _ (heap_lt HRB.out) (fun e => by have := (hwo2 _ e).1; omega)).trans HRB.out
      have hb5 : Below w.heap.size w w5 := HBWR2.out.grown hg6 HBWR2.out.size (fun q e => by have := (hwo2 q e.symm).1; omega)
      have hvl5 : Vl (fun b => S b ∧ b ≠ B + 1) w5 vaa (toV M) := HVL.out.grown hg6 (fun b h _ => ⟨⟨h.1, h.2.1⟩, h.2.2⟩)
      have hwl5 : Ints (fun b => w.heap.size ≤ b ∧ b ≠ B + 1) w5 vwa (W5.map (fun x => x / ((gcdL 0 W5 : Nat) : Int))) := by
       obtain ⟨a1, c1, e1, h2⟩ := ints_of_row (S' := fun b => w.heap.size ≤ b ∧ b ≠ B + 1) (ws := W5.map (fun x => x / ((gcdL 0 W5 : Nat) : Int))) (by rw [List.length_map, ← HN5.out]; have := hlm5; omega) (by rw [List.length_map, ← HN5.out]; exact hrow6) (fun b h => by omega)
       simp only [Value.slice.injEq] at e1
       rw [e1.1]; exact h2
      have HVL5 := hid hvl5
      have HWL5 := hid hwl5
      have HB5 := hid hb5
      have HRB5 := hid hrb5
      clear v0 v1 v2 f0 f1 f2 r0 r1 r2 rz hrow6 hg6 hwo2 hvl5 hwl5 hb5
      obtain ⟨v0, v1, v2⟩ := cells_of hq5
      obtain ⟨r0, r1, r2⟩ := cells_of hrb5
      have rz : ∀ i, w5.frozen? ⟨B + 1, i, none⟩ = false := fun i => frozen_of hrb5
      clear hq5 hrb5
      go_wp2_with fail
      obtain ⟨z0, z1, z2⟩ := cells_of (store3 (x0 := .int .i64 0) (x1 := .slice vaa j2 vcap) (x2 := .slice vwa nw5 wcap) HRB5.out rfl)
      refine bodyPost_ret (v := Vv 0 vaa j2 vcap vwa nw5 wcap) (by simp [results, Tryz.results156, go_sem, z0, z1, z2]) rfl ?_
      have hk3 : Kept (fun b => b = B + 1) w5 (((w5.setCell ⟨B + 1, 0, none⟩ (.int .i64 0)).setCell ⟨B + 1, 1, none⟩ (.slice vaa j2 vcap)).setCell ⟨B + 1, 2, none⟩ (.slice vwa nw5 wcap)) := (((Kept.refl (fun b => b = B + 1) w5).set (p := ⟨B + 1, 0, none⟩) (Or.inl rfl) _).set (p := ⟨B + 1, 1, none⟩) (Or.inl rfl) _).set (p := ⟨B + 1, 2, none⟩) (Or.inl rfl) _
      rw [HRE.out, HOW.out]
      have hlen := toV_len M
      rw [← HML.out] at hlen
      rw [hlen, List.length_map, ← HN5.out]
      exact ⟨vaa, vwa, vcap, wcap, rfl, (HVL5.out.keptP hk3 (fun b h e => h.2 e)).weaken (fun b h => h.1), (HWL5.out.keptP hk3 (fun b h e => h.2 e)).weaken (fun b h => h.1), HB5.out.trans (hk3.toBelow HB5.out.size (fun b hb e => by have := HBL.out; omega))⟩
     ·have h7' : (k == 7) = false := by simpa using h7
      have HOW := hid (show outW k M = W5 by unfold outW; rw [hW5, if_neg h7])
      clear hvbr hva hv5 hvw hgw hbW hva' hvw2 hrb hbw hvl2 hwl hW5 hn5 hwo hBe
      go_wp2_with fail
      obtain ⟨z0, z1, z2⟩ := cells_of (store3 (x0 := .int .i64 0) (x1 := .slice vaa j2 vcap) (x2 := .slice vwa nw5 wcap) HRB.out rfl)
      refine bodyPost_ret (v := Vv 0 vaa j2 vcap vwa nw5 wcap) (by simp [results, Tryz.results156, go_sem, z0, z1, z2]) rfl ?_
      have hk3 : Kept (fun b => b = B + 1) wr (((wr.setCell ⟨B + 1, 0, none⟩ (.int .i64 0)).setCell ⟨B + 1, 1, none⟩ (.slice vaa j2 vcap)).setCell ⟨B + 1, 2, none⟩ (.slice vwa nw5 wcap)) := (((Kept.refl (fun b => b = B + 1) wr).set (p := ⟨B + 1, 0, none⟩) (Or.inl rfl) _).set (p := ⟨B + 1, 1, none⟩) (Or.inl rfl) _).set (p := ⟨B + 1, 2, none⟩) (Or.inl rfl) _
      rw [HRE.out, HOW.out]
      have hlen := toV_len M
      rw [← HML.out] at hlen
      rw [hlen, ← HN5.out]
      exact ⟨vaa, vwa, vcap, wcap, rfl, (HVL.out.keptP hk3 (fun b h e => h.2.1 e)).weaken (fun b h => h.1), (HWL.out.keptP hk3 (fun b h e => h.2 e)).weaken (fun b h => h.1), HBWR2.out.trans (hk3.toBelow HBWR2.out.size (fun b hb e => by have := HBL.out; omega))⟩
end Go.Proofs.YtcekilcgpgjooaaGreatDoor
