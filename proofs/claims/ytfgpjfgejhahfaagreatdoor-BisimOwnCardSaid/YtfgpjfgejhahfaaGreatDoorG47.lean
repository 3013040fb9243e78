/-
  Proved here: contracts of the walk to BisimOwn: the reference's Copy of systems; each under the conditions that its own statement names.
-/
import Derived.Test.YtfgpjfgejhahfaaGreatDoorG21
import Derived.Test.YtfgpjfgejhahfaaGreatDoorG46
namespace Go.Proofs.YtfgpjfgejhahfaaGreatDoor
open Go Go.RowKit
attribute [local go_sem ↓] Go.wp_at_zero Go.wp_at_succ

theorem set_at3 {w : World} {b : Nat} {x0 x1 x2 x3 v : Value} {t : TypeId} (h : w.heap[b]? = some (.cells #[x0, x1, x2, x3] t (0, 0))) : (w.setCell ⟨b, 3, none⟩ v).heap[b]? = some (.cells #[x0, x1, x2, v] t (0, 0)) := by
  simp [World.setCell, Array.getElem?_modify, h]

theorem store4 {w : World} {b : Nat} {y0 y1 y2 y3 x0 x1 x2 x3 : Value} {t : TypeId} (h : w.heap[b]? = some (.cells #[y0, y1, y2, y3] t (0, 0))) :
    ((((w.setCell ⟨b, 0, none⟩ x0).setCell ⟨b, 1, none⟩ x1).setCell ⟨b, 2, none⟩ x2).setCell ⟨b, 3, none⟩ x3).heap[b]? = some (.cells #[x0, x1, x2, x3] t (0, 0)) := by
  simp [World.setCell, Array.getElem?_modify, h]
theorem vl_stepi {P : Nat → Prop} {lo ob i : Nat} {v v' : Value} {wx w5 : World} {O : Obj} {a : Option Addr} {u : V} (h : Vl P wx a u) (hP : ∀ b, P b → b < wx.heap.size → lo ≤ b ∧ some b ≠ v.ownBlock)
    (hgr : (wx.alloc O).grownBy w5 v.ownBlock) (hat : v'.ownBlock = v.ownBlock ∨ v'.ownBlock = some (wx.alloc O).heap.size) (hob : ob < lo) (y : Value) : Vl (fun b => lo ≤ b ∧ some b ≠ v'.ownBlock) (w5.setCell ⟨ob, i, none⟩ y) a u := by
  have h1 : Vl (fun b => P b ∧ b < wx.heap.size) (wx.alloc O) a u := h.lt.below ((Below.refl wx.heap.size wx).alloc (Nat.le_refl _) O)
  have h2 : Vl (fun b => P b ∧ b < wx.heap.size) w5 a u := h1.grown hgr (fun b hb _ => ⟨hb, (hP b hb.1 hb.2).2⟩)
  refine h2.mono (fun b hb => ?_) (fun b hb _ => Below.heap_setCell _ _ _ _ (by have := (hP b hb.1 hb.2).1; show b ≠ ob; omega))
  have h3 := hP b hb.1 hb.2
  refine ⟨h3.1, ?_⟩
  rcases hat with e | e
  · rw [e]; exact h3.2
  · rw [e]; intro h4; have := Option.some.inj h4; have := hb.2; simp at *; omega
theorem ints_stepi {P : Nat → Prop} {lo ob i : Nat} {v v' : Value} {wx w5 : World} {O : Obj} {a : Option Addr} {u : List Int} (h : Ints P wx a u) (hP : ∀ b, P b → b < wx.heap.size → lo ≤ b ∧ some b ≠ v.ownBlock)
    (hgr : (wx.alloc O).grownBy w5 v.ownBlock) (hat : v'.ownBlock = v.ownBlock ∨ v'.ownBlock = some (wx.alloc O).heap.size) (hob : ob < lo) (y : Value) : Ints (fun b => lo ≤ b ∧ some b ≠ v'.ownBlock) (w5.setCell ⟨ob, i, none⟩ y) a u := by
  have h1 : Ints (fun b => P b ∧ b < wx.heap.size) (wx.alloc O) a u := h.lt.below ((Below.refl wx.heap.size wx).alloc (Nat.le_refl _) O)
  have h2 : Ints (fun b => P b ∧ b < wx.heap.size) w5 a u := h1.grown hgr (fun b hb _ => ⟨hb, (hP b hb.1 hb.2).2⟩)
  refine h2.mono (fun b hb => ?_) (fun b hb _ => Below.heap_setCell _ _ _ _ (by have := (hP b hb.1 hb.2).1; show b ≠ ob; omega))
  have h3 := hP b hb.1 hb.2
  refine ⟨h3.1, ?_⟩
  rcases hat with e | e
  · rw [e]; exact h3.2
  · rw [e]; intro h4; have := Option.some.inj h4; have := hb.2; simp at *; omega

set_option maxRecDepth 100000 in
set_option maxHeartbeats 12800000 in
/-- The copy of a system is a system in new memory. -/
theorem scopy_any (S : Nat → Nat → Prop) (S' : Nat → Prop) (f : F) (a na : Option Addr) (cap ncap : Nat) (t : V) (w : World) (hs : Sl S w a f.t) (hv : Vl S' w na t) (hn : f.t.nodes ≤ 100000) (hct : t.count ≤ 100000) (hlg : t.light 1000 = true) :
    Calls Tryz.prog 40 #[Sv f a cap na t.len ncap] w fun e w' =>
      ∃ a' cap' na' ncap', e = .returned (Sv f a' cap' na' t.len ncap') ∧ Sl (fun b _ => w.heap.size ≤ b) w' a' f.t ∧ f.t.len ≤ cap' ∧ Vl (fun b => w.heap.size ≤ b) w' na' t ∧ Below w.heap.size w w' := by
  obtain ⟨i1, ui, uz0, uz1, uz2⟩ := info_parts infoV
  obtain ⟨W, hW⟩ : ∃ W : World, W = (w.alloc (Obj.cells #[.int .i64 f.k, .int .i64 f.n, .slice a f.t.len cap, .slice na t.len ncap] 42)).alloc (Obj.cells #[.int .i64 0, .int .i64 0, .slice none 0 0, .slice none 0 0] 42) := ⟨_, rfl⟩
  have hWb : Below w.heap.size w W := by rw [hW]; exact ((Below.refl _ _).alloc (Nat.le_refl _) _).alloc (by simp) _
  have hWs : W.heap.size = w.heap.size + 2 := by rw [hW]; simp
  have g0 : W.heap[w.heap.size]? = some (.cells #[.int .i64 f.k, .int .i64 f.n, .slice a f.t.len cap, .slice na t.len ncap] 42 (0, 0)) := by rw [hW]; exact heap_old2 _ _ _
  have g1 : W.heap[w.heap.size + 1]? = some (.cells #[.int .i64 0, .int .i64 0, .slice none 0 0, .slice none 0 0] 42 (0, 0)) := by rw [hW]; exact heap_new2 _ _ _
  have hlen := hv.1
  have hlc := V.len_count t
  obtain ⟨B, hB⟩ : ∃ B, B = w.heap.size := ⟨_, rfl⟩
  rw [← hB] at g0 g1 hWs
  have HB := Lib.hid hB
  have HWB := Lib.hid hWb
  have HWS := Lib.hid hWs
  have HSV := Lib.hid (hv.below hWb)
  have HG0 := Lib.hid g0
  have HG1 := Lib.hid g1
  have HLG := Lib.hid hlg
  have HFC := Lib.hid (fcopy_any f.t S f.k f.n a cap W (hs.below hWb) hn)
  obtain ⟨e0, e1, e2, e3⟩ := cells4 g0
  clear hs hv hWb hWs g0 g1 hlg
  go_enter Tryz.func40, Tryz.ntmps40
  go_upto_region 1 with (fail)
  rw [← hW, ← hB]
  clear hW hB
  go_wp2_with fail
  refine HFC.out.mono ?_
  rintro e w1 ⟨fa, fc, rfl, hfs, hfc, hb1⟩
  obtain ⟨Y, hY⟩ : ∃ Y : World, Y = w1.alloc (Obj.cells #[.int .i64 f.k, .int .i64 f.n, .slice fa f.t.len fc, .slice none 0 0] 42) := ⟨_, rfl⟩
  obtain ⟨ob, hob⟩ : ∃ ob, ob = w1.heap.size := ⟨_, rfl⟩
  have hYo : Y.heap[ob]? = some (Obj.cells #[.int .i64 f.k, .int .i64 f.n, .slice fa f.t.len fc, .slice none 0 0] 42 (0, 0)) := by rw [hY, hob]; exact heap_new _ _
  have h1Y : Below w1.heap.size w1 Y := by rw [hY]; exact (Below.refl _ _).alloc (Nat.le_refl _) _
  have hWY : Below W.heap.size W Y := hb1.trans (h1Y.mono hb1.size)
  have hYs : Y.heap.size = ob + 1 := by rw [hY, hob]; simp
  have hobW : W.heap.size ≤ ob := by rw [hob]; exact hb1.size
  have HYO := Lib.hid hYo
  have HWY := Lib.hid hWY
  have HFS := Lib.hid (show Sl (fun b _ => W.heap.size ≤ b ∧ b < ob) Y fa f.t from by
    have h := hfs.lt.below h1Y
    rw [hob]
    exact h.weaken (fun b _ h => ⟨h.1, h.2⟩))
  have HFCC := Lib.hid hfc
  have HYS := Lib.hid hYs
  have w0 : Y.cell? ⟨B, 3, none⟩ = some (.slice na t.len ncap) := (cells4 ((hWY.block _ (heap_lt HG0.out)).trans HG0.out)).2.2.2
  clear hfs hfc hb1 hYo h1Y hWY hYs e0 e1 e2 e3
  go_upto_region 2 with (fail)
  rw [← hY, ← hob]
  clear hY hob
  go_wp2_with fail
  clear w0
  go_loopw [13] (fun i wr => ∃ (j : Nat) (v : Value) (xs : List Value) (ks : V), j ≤ t.len ∧ i = .int .i64 j ∧ wr.heap[ob]? = some (.cells #[.int .i64 f.k, .int .i64 f.n, .slice fa f.t.len fc, v] 42 (0, 0)) ∧
      wr.ownsRow Y.heap.size 28 3 v j xs ∧ ks.Row (fun b => Y.heap.size ≤ b ∧ some b ≠ v.ownBlock) wr xs ∧ ks.len = j ∧ t = ks.app (t.drop j) ∧ Kept (fun b => b = ob) Y wr) (fun i _ => t.len - (intOf i).toNat)
  case atStart => exact ⟨0, _, [], .nil, Nat.zero_le _, rfl, HYO.out, World.ownsRow_nil _ _ _ _, rfl, rfl, by simp [V.app], Kept.refl _ _⟩
  case round =>
    obtain ⟨j, v, xs, ks, hj, rfl, hobr, hown, hrow, hkl, htk, hkk⟩ := hrel
    have HOWN := Lib.hid hown
    have HROW := Lib.hid hrow
    have HKL := Lib.hid hkl
    have HTK := Lib.hid htk
    have HOBR := Lib.hid hobr
    have HKK := Lib.hid hkk
    have hb : Below W.heap.size W wr := HWY.out.trans (hkk.toBelow HWY.out.size (fun b hb e => by omega))
    have HBB := Lib.hid hb
    clear hown hrow hkl htk hobr hkk
    by_cases hlt : j < t.len
    · obtain ⟨b, o, rfl, hat⟩ := HSV.out.addr hlt
      obtain ⟨n1, k1, ws1, r1, hd, hd1⟩ := V.drop_lt hlt
      obtain ⟨d0, ⟨a1, cap1, d1, hv1⟩, ⟨c1, cp1, d2, hi1⟩⟩ := hat.get hd
      replace d0 := cell_below hb d0
      replace d1 := cell_below hb d1
      replace d2 := cell_below hb d2
      have hkc := count_le t j
      have hkc2 := count_step hd hd1
      have hlg1 : k1.light 1000 = true ∧ ws1.length ≤ 1000 := by
        have h1 := light_drop t j HLG.out
        rw [light_step hd hd1] at h1
        simp only [Bool.and_eq_true, decide_eq_true_eq] at h1
        exact ⟨h1.1.1, by omega⟩
      obtain ⟨X, hX⟩ : ∃ X : World, X = wr.alloc (Obj.cells #[Value.int IntKind.i64 n1, Value.slice a1 k1.len cap1, Value.slice c1 ws1.length cp1] 28) := ⟨_, rfl⟩
      obtain ⟨xb, hxb⟩ : ∃ xb, xb = wr.heap.size := ⟨_, rfl⟩
      have hXb : X.heap[xb]? = some (Obj.cells #[Value.int IntKind.i64 n1, Value.slice a1 k1.len cap1, Value.slice c1 ws1.length cp1] 28 (0, 0)) := by rw [hX, hxb]; exact heap_new _ _
      have hXB : Below wr.heap.size wr X := by rw [hX]; exact (Below.refl _ _).alloc (Nat.le_refl _) _
      have HXB := Lib.hid hXB
      have HKX := Lib.hid (HKK.out.trans (Kept.ofBelow hXB))
      have hXD : Below X.heap.size X X.drew := (Below.refl _ _).drew
      have HIH := Lib.hid (vcopy_any k1 S' n1 ws1 a1 c1 cap1 cp1 X.drew ((hv1.below (hb.trans (hXB.mono hb.size))).below hXD) ((hi1.below (hb.trans (hXB.mono hb.size))).below hXD) (by omega) hlg1.1 hlg1.2)
      have hX2 := (hXB.block _ (heap_lt HOBR.out)).trans HOBR.out
      obtain ⟨x0, x1, x2⟩ := cells_of hXb
      obtain ⟨o0, o1, o2, o4⟩ := cells4 hX2
      have HXO := Lib.hid (HOWN.out.kept (grownB hXB none) (by cases v.ownBlock <;> simp))
      have HTD := Lib.hid hd
      have HTD1 := Lib.hid hd1
      have hjn : j ≤ 100000 := by omega
      have HX2 := Lib.hid hX2
      have hobl := heap_lt hX2
      have hxs : Y.heap.size ≤ X.heap.size := HKX.out.size
      have hyo : ob < Y.heap.size := by rw [HYS.out]; omega
      clear hb hat hd hd1 hv1 hi1 hXb hXB hX2 hlg1
      go_upto_region 5 with (fail)
      rw [← hX, ← hxb]
      clear hX hxb d0 d1 d2
      go_region_law (first
        | (refine step_append_at (by rfl) _ _ 25 (by rfl) Y.heap.size 28 i1 (.agg #[.int .i64 0, .slice none 0 0, .slice none 0 0]) 3 56 Tryz.underlying25 ui uz0 uz1 uz2 rfl (by omega) v j xs (by rfl) ((HXO.out.kept (grownB HB2.out none) (by cases v.ownBlock <;> simp)).alloc _) (some ⟨w2.heap.size, 0, none⟩) 1 1 [.int .i64 n1, .slice a2 k1.len cap2, .slice c2 ws1.length cp2] (by rfl) rfl (news_box (heap_new _ _) (by rfl)) (by simp [Value.oneCell']) (by unfold maxLen; omega) (by omega) (by have := HB2.out.size; simp; omega) ?_
           intro v' w5 hown5 hgr hat
           have HG5 := Lib.hid hgr
           have HO5 := Lib.hid hown5
           have HAT := Lib.hid hat
           have hob5 : w5.heap[ob]? = some (.cells #[.int .i64 f.k, .int .i64 f.n, .slice fa f.t.len fc, v] 42 (0, 0)) := by
             have h2 := HB2.out.size
             have h3 := heap_lt HX2.out
             rw [hgr.block ob (by simp; omega) (fun e => by have := (HXO.out.lt _ e.symm).1; omega), Below.heap_alloc _ _ _ (by omega), HB2.out.block _ h3]
             exact HX2.out
           have HOB5 := Lib.hid hob5
           obtain ⟨_, _, _, q1⟩ := cells4 hob5
           have hz5 := frozen_of (o := 3) hob5
           obtain ⟨g5, cap6, rfl⟩ : ∃ g5 cap6, v' = .slice (some ⟨g5, 0, none⟩) (j + 1) cap6 := by
             rcases hown5.2 with ⟨_, h⟩ | ⟨g, cap', _, h, _⟩
             · omega
             · exact ⟨g, cap', h⟩
           clear hown5 hgr hat hob5)
        | (rw [if_pos (by rfl)]
           go_simp
           go_at_call 90
           refine HIH.out.mono ?_
           rintro e w2 ⟨a2, c2, cap2, cp2, rfl, hvl, hil, hb2⟩
           have o4 := cell_below hb2 o4
           have o3 := cell_below ((Below.refl w2.heap.size w2).alloc (Nat.le_refl _) (Obj.cells #[Value.int IntKind.i64 n1, Value.slice a2 k1.len cap2, Value.slice c2 ws1.length cp2] 28)) o4
           have HB2 := Lib.hid (show Below X.heap.size X w2 from ⟨hb2.os, hb2.tape, hb2.output, hb2.size, hb2.block⟩)
           have HVL := Lib.hid (show Vl (fun b => X.heap.size ≤ b) w2 a2 k1 from hvl)
           have HIL := Lib.hid (show Ints (fun b => X.heap.size ≤ b) w2 c2 ws1 from hil)
           clear hb2 hvl hil)
        | fail)
      all_goals
        have hv2 : ∀ g, v.ownBlock = some g → Y.heap.size ≤ g ∧ g < X.heap.size := fun g hg => HXO.out.lt g hg
        have hs2 := HB2.out.size
        obtain ⟨vv, hvv⟩ : ∃ vv, vv = Value.slice (some ⟨g5, 0, none⟩) (j + 1) cap6 := ⟨_, rfl⟩
        have HAT2 := Lib.hid (show vv.ownBlock = v.ownBlock ∨ vv.ownBlock = some (w2.alloc (Obj.cells #[Value.int IntKind.i64 n1, Value.slice a2 k1.len cap2, Value.slice c2 ws1.length cp2] 28)).heap.size from by rw [hvv]; exact HAT.out)
        have HO5' := Lib.hid (show w5.ownsRow Y.heap.size 28 3 vv (j + 1) (xs ++ [.int .i64 n1, .slice a2 k1.len cap2, .slice c2 ws1.length cp2]) from by rw [hvv]; exact HO5.out)
        have hne : vv.ownBlock ≠ some ob := fun e => by have := (HO5'.out.lt _ e).1; omega
        have hk5 : Kept (fun b => b = ob) Y w5 := by
          have h1 := HKX.out.trans (Kept.ofBelow HB2.out)
          have h2 : Below w2.heap.size w2 (w2.alloc (Obj.cells #[Value.int IntKind.i64 n1, Value.slice a2 k1.len cap2, Value.slice c2 ws1.length cp2] 28)) := (Below.refl _ _).alloc (Nat.le_refl _) _
          have h3 := h1.trans (Kept.ofBelow h2)
          refine ⟨HG5.out.os.trans h3.os, HG5.out.tape.trans h3.tape, HG5.out.output.trans h3.output, Nat.le_trans h3.size HG5.out.size, fun b hb hn => ?_⟩
          have hs3 := h3.size
          rw [HG5.out.block b (by omega) (fun e => by have := hv2 _ e.symm; omega)]
          exact h3.block b hb hn
        have HK6 := Lib.hid (hk5.set (p := ⟨ob, 3, none⟩) (Or.inl rfl) vv)
        have HO6 := Lib.hid (HO5'.out.kept (w' := w5.setCell ⟨ob, 3, none⟩ vv) (row := some ob) ⟨rfl, rfl, rfl, by simp [World.setCell], fun k _ hk => Below.heap_setCell _ _ _ _ (fun e => hk (by rw [e]))⟩ (Or.inr hne))
        have hOS : ∀ b, (Y.heap.size ≤ b ∧ some b ≠ v.ownBlock) → b < w2.heap.size → Y.heap.size ≤ b ∧ some b ≠ v.ownBlock := fun b h _ => h
        have hON : ∀ b, X.heap.size ≤ b → b < w2.heap.size → Y.heap.size ≤ b ∧ some b ≠ v.ownBlock := fun b h _ => ⟨by omega, fun e => by have := hv2 b e.symm; omega⟩
        have HR6 := Lib.hid (V.Row.app (V.Row.mono (fun a u h => vl_stepi (i := 3) ((h.below HXB.out).below HB2.out) hOS HG5.out HAT2.out hyo vv) (fun a u h => ints_stepi (i := 3) ((h.below HXB.out).below HB2.out) hOS HG5.out HAT2.out hyo vv) HROW.out) (show (V.cons n1 k1 ws1 .nil).Row (fun b => Y.heap.size ≤ b ∧ some b ≠ vv.ownBlock) (w5.setCell ⟨ob, 3, none⟩ vv) [.int .i64 n1, .slice a2 k1.len cap2, .slice c2 ws1.length cp2] from ⟨a2, cap2, c2, cp2, [], rfl, vl_stepi (i := 3) HVL.out hON HG5.out HAT2.out hyo vv, ints_stepi (i := 3) HIL.out hON HG5.out HAT2.out hyo vv, rfl⟩))
        have HT6 := Lib.hid (V.app_drop2 HTK.out HTD.out HTD1.out)
        rw [← hvv]
        clear hv2 hs2 hvv hne hk5 hOS hON o4 q1 hz5 x0 x1 x2 o0 o1 o2 hyo
        go_wp2_with fail
        go_roundw
        case rel => exact ⟨j + 1, vv, _, ks.app (.cons n1 k1 ws1 .nil), by omega, by go_num, set_at3 HOB5.out, HO6.out, HR6.out, by rw [V.app_len, HKL.out]; rfl, HT6.out, HK6.out⟩
        case measure => simp [intOf]; omega
    · have hjl : j = t.len := by omega
      have hkt : ks = t := by
        have h := HTK.out
        rw [hjl, V.drop_all, V.app_nil] at h
        exact h.symm
      have hws := HWS.out
      obtain ⟨ka, kc, hva, hkv⟩ := vl_of_row (S := fun b => Y.heap.size ≤ b ∧ some b ≠ v.ownBlock) (S' := fun b => Y.heap.size ≤ b) (t := ks) (by rw [hkt]; omega) (by rw [HKL.out]; exact HOWN.out) HROW.out (fun b h => h.1) (fun b _ h => h)
      rw [hkt] at hva hkv
      have hoc := HOBR.out
      rw [hva] at hoc
      obtain ⟨o0, o1, o2, o3⟩ := cells4 hoc
      have hBO : B + 1 ≠ ob := by omega
      have hg1 : wr.heap[B + 1]? = some (.cells #[.int .i64 0, .int .i64 0, .slice none 0 0, .slice none 0 0] 42 (0, 0)) := (HBB.out.block _ (by omega)).trans HG1.out
      obtain ⟨r0, r1, r2, r3⟩ := cells4 hg1
      have rz : ∀ i, wr.frozen? ⟨B + 1, i, none⟩ = false := fun i => frozen_of hg1
      have hjl2 : ¬ (j : Int) < t.len := by omega
      have HKV := Lib.hid hkv
      have HR1 := Lib.hid hg1
      have hYW := HWY.out.size
      clear hjl hva hkt hoc hb hg1 hkv hlt
      go_wp2_with fail
      obtain ⟨z0, z1, z2, z3⟩ := cells4 (store4 (x0 := .int .i64 f.k) (x1 := .int .i64 f.n) (x2 := .slice fa f.t.len fc) (x3 := .slice ka t.len kc) HR1.out)
      refine bodyPost_ret (v := Sv f fa fc ka t.len kc) (by simp [results, Tryz.results40, go_sem, z0, z1, z2, z3, Sv]) rfl ?_
      have hk4 : Kept (fun b => b = B + 1) wr ((((wr.setCell ⟨B + 1, 0, none⟩ (.int .i64 f.k)).setCell ⟨B + 1, 1, none⟩ (.int .i64 f.n)).setCell ⟨B + 1, 2, none⟩ (.slice fa f.t.len fc)).setCell ⟨B + 1, 3, none⟩ (.slice ka t.len kc)) := ((((Kept.refl (fun b => b = B + 1) wr).set (p := ⟨B + 1, 0, none⟩) (Or.inl rfl) _).set (p := ⟨B + 1, 1, none⟩) (Or.inl rfl) _).set (p := ⟨B + 1, 2, none⟩) (Or.inl rfl) _).set (p := ⟨B + 1, 3, none⟩) (Or.inl rfl) _
      have hBw := HB.out
      have hbw : Below w.heap.size w wr := HWB.out.trans (HBB.out.mono HWB.out.size)
      have hf1 := HFS.out.keptP HKK.out (fun b _ h e => by omega)
      exact ⟨fa, fc, ka, ⟨kc, rfl⟩, (hf1.keptP hk4 (fun b _ h e => by omega)).weaken (fun b _ h => by omega), HFCC.out, (HKV.out.keptP hk4 (fun b h e => by omega)).weaken (fun b h => by omega), hbw.trans (hk4.toBelow hbw.size (fun b hb e => by omega))⟩
end Go.Proofs.YtfgpjfgejhahfaaGreatDoor
