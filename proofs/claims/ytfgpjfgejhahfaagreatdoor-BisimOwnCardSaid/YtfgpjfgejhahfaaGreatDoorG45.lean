/-
  Proved here: contracts of the walk to BisimOwn: the reference's Copy of functors; each under the conditions that its own statement names.
-/
import Derived.Test.YtfgpjfgejhahfaaGreatDoorG01
import Derived.Test.YtfgpjfgejhahfaaGreatDoorG09
import Derived.Test.YtfgpjfgejhahfaaGreatDoorG17
import Derived.Test.YtfgpjfgejhahfaaGreatDoorG34
import Derived.Deep.DrawnRows
import Derived.Deep.DeepCutAuto
namespace Go.Proofs.YtfgpjfgejhahfaaGreatDoor
open Go Go.RowKit
attribute [local go_sem ↓] Go.wp_at_zero Go.wp_at_succ

theorem infoFn : (Tryz.prog.info? 24).map (fun i => (i.zero, i.size, i.bytes)) = some (some (.agg #[.int .i64 0, .int .i64 0, .slice none 0 0]), 3, 40) := by kernel_rfl
theorem set_at2 {w : World} {b : Nat} {x0 x1 x2 v : Value} {t : TypeId} (h : w.heap[b]? = some (.cells #[x0, x1, x2] t (0, 0))) : (w.setCell ⟨b, 2, none⟩ v).heap[b]? = some (.cells #[x0, x1, v] t (0, 0)) := by
  simp [World.setCell, Array.getElem?_modify, h]
theorem grownB {u u' : World} (hb : Below u.heap.size u u') (row : Option Nat) : u.grownBy u' row := ⟨hb.os, hb.tape, hb.output, hb.size, fun k hk _ => hb.block k hk⟩

theorem sl_step {P : Nat → Nat → Prop} {lo : Nat} {v v' : Value} {wx w5 : World} {O : Obj} {a : Option Addr} {u : T} (h : Sl P wx a u) (hP : ∀ b o, P b o → b < wx.heap.size → lo ≤ b ∧ some b ≠ v.ownBlock)
    (hgr : (wx.alloc O).grownBy w5 v.ownBlock) (hat : v'.ownBlock = v.ownBlock ∨ v'.ownBlock = some (wx.alloc O).heap.size) (ob i : Nat) (hob : ob < lo) (y : Value) : Sl (New lo v'.ownBlock) (w5.setCell ⟨ob, i, none⟩ y) a u := by
  have h1 : Sl (fun b o => P b o ∧ b < wx.heap.size) (wx.alloc O) a u := h.lt.below ((Below.refl wx.heap.size wx).alloc (Nat.le_refl _) O)
  have h2 : Sl (New lo v'.ownBlock) w5 a u := h1.grown hgr (fun b o hb _ => by
    obtain ⟨e1, e2⟩ := hP b o hb.1 hb.2
    refine ⟨⟨e1, ?_⟩, e2⟩
    rcases hat with e | e
    · rw [e]; exact e2
    · rw [e]; intro h4; have := Option.some.inj h4; have := hb.2; simp at *; omega)
  refine h2.grown (row := some ob) ⟨rfl, rfl, rfl, by simp [World.setCell], fun k _ hk => Below.heap_setCell _ _ _ _ (fun e => hk (by rw [e]))⟩ (fun b o hb _ => ⟨hb, fun e => ?_⟩)
  have := hb.1
  have := Option.some.inj e
  omega

def FCopyOk (t : T) : Prop := ∀ (S : Nat → Nat → Prop) (k n : Int) (a : Option Addr) (cap : Nat) (w : World), Sl S w a t → t.nodes ≤ 100000 →
    Calls Tryz.prog 89 #[.agg #[.int .i64 k, .int .i64 n, .slice a t.len cap]] w fun e w' =>
      ∃ a' cap', e = .returned (.agg #[.int .i64 k, .int .i64 n, .slice a' t.len cap']) ∧ Sl (fun b _ => w.heap.size ≤ b) w' a' t ∧ t.len ≤ cap' ∧ Below w.heap.size w w'

set_option maxRecDepth 100000 in
set_option maxHeartbeats 6400000 in
theorem fcopy_any : ∀ t : T, FCopyOk t := by
  refine T.ind ?_
  intro t ih S k n a cap w hs hn
  obtain ⟨i0, hi, hz0, hz1, hz2⟩ := info_parts infoFn
  obtain ⟨W, hW⟩ : ∃ W : World, W = ((w.alloc (Obj.cells #[Value.int IntKind.i64 k, Value.int IntKind.i64 n, Value.slice a t.len cap] 24)).alloc (Obj.cells #[Value.int IntKind.i64 0, Value.int IntKind.i64 0, Value.slice none 0 0] 24)).alloc (Obj.cells #[Value.int IntKind.i64 k, Value.int IntKind.i64 n, Value.slice none 0 0] 24) := ⟨_, rfl⟩
  have hWb : Below w.heap.size w W := by rw [hW]; exact (((Below.refl _ _).alloc (Nat.le_refl _) _).alloc (by simp) _).alloc (by simp; omega) _
  have hWs : W.heap.size = w.heap.size + 3 := by rw [hW]; simp
  have g1 : W.heap[w.heap.size + 1]? = some (.cells #[.int .i64 0, .int .i64 0, .slice none 0 0] 24 (0, 0)) := by
    rw [hW, Below.heap_alloc _ _ _ (by simp)]; exact heap_new2 _ _ _
  have g2 : W.heap[w.heap.size + 2]? = some (.cells #[.int .i64 k, .int .i64 n, .slice none 0 0] 24 (0, 0)) := by
    rw [hW]
    have h := heap_new ((w.alloc (Obj.cells #[Value.int IntKind.i64 k, Value.int IntKind.i64 n, Value.slice a t.len cap] 24)).alloc (Obj.cells #[Value.int IntKind.i64 0, Value.int IntKind.i64 0, Value.slice none 0 0] 24)) (Obj.cells #[Value.int IntKind.i64 k, Value.int IntKind.i64 n, Value.slice none 0 0] 24)
    simpa using h
  have g0 : W.heap[w.heap.size]? = some (.cells #[.int .i64 k, .int .i64 n, .slice a t.len cap] 24 (0, 0)) := by
    rw [hW, Below.heap_alloc _ _ _ (by simp; omega)]; exact heap_old2 _ _ _
  have hlen := hs.1
  have hln := t.len_nodes
  obtain ⟨B, hB⟩ : ∃ B, B = w.heap.size := ⟨_, rfl⟩
  rw [← hB] at g0 g1 g2 hWs
  have HB := Lib.hid hB
  have HWB := Lib.hid hWb
  have HWS := Lib.hid hWs
  have HS := Lib.hid hs
  have IH := Lib.hid ih
  obtain ⟨z0, z1, z2⟩ := cells_of g0
  have HG1 := Lib.hid g1
  have HG2 := Lib.hid g2
  clear hs hWb ih hWs g0 g1 g2
  go_enter Tryz.func89, Tryz.ntmps89
  go_upto_region 2 with (fail)
  rw [← hW, ← hB]
  clear hW hB
  go_wp2_with fail
  clear z0 z1 z2
  go_loopw [14] (fun i wr => ∃ (j : Nat) (v : Value) (xs : List Value), j ≤ t.len ∧ i = .int .i64 j ∧
      wr.heap[B + 1]? = some (.cells #[.int .i64 0, .int .i64 0, .slice none 0 0] 24 (0, 0)) ∧ wr.heap[B + 2]? = some (.cells #[.int .i64 k, .int .i64 n, v] 24 (0, 0)) ∧
      wr.ownsRow (B + 3) 24 3 v j xs ∧ (t.take j).Row (New (B + 3) v.ownBlock) wr xs ∧ Below w.heap.size w wr) (fun i _ => t.len - (intOf i).toNat)
  case atStart => exact ⟨0, _, [], Nat.zero_le _, rfl, HG1.out, HG2.out, World.ownsRow_nil _ _ _ _, by cases t <;> rfl, HWB.out⟩
  case round =>
    obtain ⟨j, v, xs, hj, rfl, hg1, hg2, hown, hrow, hb⟩ := hrel
    have HO := Lib.hid hown
    have HR := Lib.hid hrow
    have HBB := Lib.hid hb
    have HX1 := Lib.hid hg1
    have HX2 := Lib.hid hg2
    by_cases hlt : j < t.len
    · obtain ⟨b, o, rfl, hat⟩ := HS.out.addr hlt
      obtain ⟨k1, n1, kids, rest, hd, hd1⟩ := T.drop_lt hlt
      obtain ⟨_, d0, d1, a1, cap1, d2, hs1, hc1⟩ := hat.getc hd
      have hb3 := Nat.mul_comm 3 j
      rw [hb3] at d0 d1 d2
      clear hb3
      replace d0 := cell_below hb d0
      replace d1 := cell_below hb d1
      replace d2 := cell_below hb d2
      have hkn : kids.nodes ≤ 100000 := by have hnd := T.drop_nodes t j; rw [hd] at hnd; simp only [T.nodes] at hnd; omega
      obtain ⟨X, hX⟩ : ∃ X : World, X = wr.alloc (.cells #[.int .i64 k1, .int .i64 n1, .slice a1 kids.len cap1] 24) := ⟨_, rfl⟩
      obtain ⟨xb, hxb⟩ : ∃ xb, xb = wr.heap.size := ⟨_, rfl⟩
      have hXb : X.heap[xb]? = some (.cells #[.int .i64 k1, .int .i64 n1, .slice a1 kids.len cap1] 24 (0, 0)) := by rw [hX, hxb]; exact heap_new _ _
      have hXB : Below wr.heap.size wr X := by rw [hX]; exact (Below.refl _ _).alloc (Nat.le_refl _) _
      have HXB := Lib.hid hXB
      have HWX := Lib.hid (hb.trans (hXB.mono hb.size))
      have hXD : Below X.heap.size X X.drew := (Below.refl _ _).drew
      have HIH := Lib.hid (IH.out j k1 n1 kids rest hd S k1 n1 a1 cap1 X.drew ((hs1.below (hb.trans (hXB.mono hb.size))).below hXD) hkn)
      have hX2 := (hXB.block _ (heap_lt hg2)).trans hg2
      obtain ⟨e0, e1, e2⟩ := cells_of hXb
      obtain ⟨o0, o1, o2⟩ := cells_of hX2
      have HXO := Lib.hid (hown.kept (grownB hXB none) (by cases v.ownBlock <;> simp))
      have HTD := Lib.hid hd
      have hjn : j ≤ 100000 := by omega
      have hxs : B + 3 ≤ X.heap.size := by have h1 := heap_lt hX2; omega
      have HX2' := Lib.hid hX2
      have HXbb := Lib.hid hXb
      have HZ := Lib.hid hxb
      clear hown hrow hb hg1 hg2 hat hd hd1 hs1 hXb hXB hX2
      go_upto_region 5 with (fail)
      rw [← hX, ← hxb]
      clear hX hxb d0 d1 d2
      go_region_law (first
        | (refine step_append_at (by rfl) _ _ 22 (by rfl) (B + 3) 24 i0 (.agg #[.int .i64 0, .int .i64 0, .slice none 0 0]) 3 40 Tryz.underlying22 hi hz0 hz1 hz2 rfl (by omega) v j xs (by rfl) ((HXO.out.kept (grownB HB2.out none) (by cases v.ownBlock <;> simp)).alloc _) (some ⟨w2.heap.size, 0, none⟩) 1 1 [.int .i64 k1, .int .i64 n1, .slice a2 kids.len cap2] (by rfl) rfl (news_box (heap_new _ _) (by rfl)) (by simp [Value.oneCell']) (by unfold maxLen; omega) (by omega) (by have := HB2.out.size; simp; omega) ?_
           intro v' w5 hown5 hgr hat
           have HG5 := Lib.hid hgr
           have HO5 := Lib.hid hown5
           have HAT := Lib.hid hat
           have hob5 : w5.heap[B + 2]? = some (.cells #[.int .i64 k, .int .i64 n, v] 24 (0, 0)) := by
             have h2 := HB2.out.size
             have h3 := heap_lt HX2'.out
             rw [hgr.block (B + 2) (by simp; omega) (fun e => by have := (HXO.out.lt _ e.symm).1; omega), Below.heap_alloc _ _ _ (by omega), HB2.out.block _ h3]
             exact HX2'.out
           have HOB5 := Lib.hid hob5
           obtain ⟨_, _, q2⟩ := cells_of hob5
           have hz5 := frozen_of (o := 2) hob5
           obtain ⟨g5, cap6, rfl⟩ : ∃ g5 cap6, v' = .slice (some ⟨g5, 0, none⟩) (j + 1) cap6 := by
             rcases hown5.2 with ⟨_, h⟩ | ⟨g, cap', _, h, _⟩
             · omega
             · exact ⟨g, cap', h⟩
           clear hown5 hgr hat hob5)
        | (rw [if_pos (by rfl)]
           go_simp
           go_at_call 89
           refine HIH.out.mono ?_
           rintro e w2 ⟨a2, cap2, rfl, hsl, hcl, hb2⟩
           have o2 := cell_below hb2 o2
           have o3 := cell_below ((Below.refl w2.heap.size w2).alloc (Nat.le_refl _) (Obj.cells #[Value.int IntKind.i64 k1, Value.int IntKind.i64 n1, Value.slice a2 kids.len cap2] 24)) o2
           have HB2 := Lib.hid (show Below X.heap.size X w2 from ⟨hb2.os, hb2.tape, hb2.output, hb2.size, hb2.block⟩)
           have HSL := Lib.hid (show Sl (fun b _ => X.heap.size ≤ b) w2 a2 kids from hsl)
           have HCL := Lib.hid hcl
           clear hb2 hsl hcl)
        | fail)
      all_goals
        have hv2 : ∀ g, v.ownBlock = some g → B + 3 ≤ g ∧ g < X.heap.size := fun g hg => HXO.out.lt g hg
        have hs2 := HB2.out.size
        have hBw := HB.out
        have hb5 : Below w.heap.size w w5 := by
          have h1 := HWX.out.trans (HB2.out.mono HWX.out.size)
          refine (h1.alloc h1.size _).grown HG5.out (by have := h1.size; simp; omega) (fun g hg => by have := hv2 g hg; omega)
        have HB6 := Lib.hid (hb5.setCell (p := ⟨B + 1 + 1, 2, none⟩) (by simp; omega) (Value.slice (some ⟨g5, 0, none⟩) (j + 1) cap6))
        have HX6 := Lib.hid (show (w5.setCell ⟨B + 1 + 1, 2, none⟩ (Value.slice (some ⟨g5, 0, none⟩) (j + 1) cap6)).heap[B + 1]? = some (.cells #[.int .i64 0, .int .i64 0, .slice none 0 0] 24 (0, 0)) by
          have h1 := heap_lt HX1.out
          have h2 := HXB.out.size
          rw [Below.heap_setCell _ _ _ _ (by simp), HG5.out.block (B + 1) (by simp; omega) (fun e => by have := hv2 _ e.symm; omega), Below.heap_alloc _ _ _ (by omega), HB2.out.block _ (by omega), HXB.out.block _ h1]
          exact HX1.out)
        have HO6 := Lib.hid (HO5.out.kept (w' := w5.setCell ⟨B + 1 + 1, 2, none⟩ (Value.slice (some ⟨g5, 0, none⟩) (j + 1) cap6)) (row := some (B + 1 + 1)) ⟨rfl, rfl, rfl, by simp [World.setCell], fun k _ hk => Below.heap_setCell _ _ _ _ (fun e => hk (by rw [e]))⟩ (Or.inr (fun e => by have := (HO5.out.lt _ e).1; omega)))
        have HAT2 := Lib.hid (show (Value.slice (some ⟨g5, 0, none⟩) (j + 1) cap6).ownBlock = v.ownBlock ∨ (Value.slice (some ⟨g5, 0, none⟩) (j + 1) cap6).ownBlock = some (w2.alloc (Obj.cells #[Value.int IntKind.i64 k1, Value.int IntKind.i64 n1, Value.slice a2 kids.len cap2] 24)).heap.size from HAT.out)
        have HR6 := Lib.hid (T.Row.push (w := w5.setCell ⟨B + 1 + 1, 2, none⟩ (Value.slice (some ⟨g5, 0, none⟩) (j + 1) cap6)) (T.Row.mono (S' := New (B + 3) (Value.slice (some ⟨g5, 0, none⟩) (j + 1) cap6).ownBlock) (fun a u h => sl_step ((h.below HXB.out).below HB2.out) (fun b o h _ => h) HG5.out HAT2.out (B + 1 + 1) 2 (by omega) _) HR.out) HTD.out (sl_step HSL.out (fun b o h _ => ⟨by have h' : X.heap.size ≤ b := h; omega, fun e => by have h' : X.heap.size ≤ b := h; have := hv2 _ e.symm; omega⟩) HG5.out HAT2.out (B + 1 + 1) 2 (by omega) _) HCL.out)
        clear hv2 hs2 hBw hb5 o2 q2 hz5 e0 e1 e2 o0 o1
        go_wp2_with fail
        go_roundw
        case rel => exact ⟨j + 1, (.slice (some ⟨g5, 0, none⟩) (j + 1) cap6), _, by omega, by go_num, HX6.out, set_at2 HOB5.out, HO6.out, HR6.out, HB6.out⟩
        case measure => simp [intOf]; omega
    · obtain rfl : j = t.len := by omega
      rw [T.take_all] at hrow
      obtain ⟨a', cap', rfl, hsl⟩ := sl_of_row (by omega) hown hrow
      have HCP := Lib.hid (show t.len ≤ cap' by
        rcases hown.2 with ⟨h, h2⟩ | ⟨g, c, cur, h, _, _, h2, _⟩
        · omega
        · simp only [Value.slice.injEq] at h; omega)
      have HSL := Lib.hid hsl
      obtain ⟨o0, o1, o2⟩ := cells_of (show wr.heap[B + 1 + 1]? = _ from hg2)
      obtain ⟨r0, r1, r2⟩ := cells_of hg1
      have rz : ∀ i, wr.frozen? ⟨B + 1, i, none⟩ = false := fun i => by simp [World.frozen?, hg1]
      clear hown hrow hlt hj hsl hb hg1 hg2
      go_wp2_with fail
      obtain ⟨z0, z1, z2⟩ := cells_of (store3 (x0 := .int .i64 k) (x1 := .int .i64 n) (x2 := .slice a' t.len cap') HX1.out rfl)
      refine bodyPost_ret (v := .agg #[.int .i64 k, .int .i64 n, .slice a' t.len cap']) (by simp [results, Tryz.results89, go_sem, z0, z1, z2]) rfl ?_
      have hk3 : Kept (fun b => b = B + 1) wr (((wr.setCell ⟨B + 1, 0, none⟩ (.int .i64 k)).setCell ⟨B + 1, 1, none⟩ (.int .i64 n)).setCell ⟨B + 1, 2, none⟩ (.slice a' t.len cap')) := (((Kept.refl (fun b => b = B + 1) wr).set (p := ⟨B + 1, 0, none⟩) (Or.inl rfl) _).set (p := ⟨B + 1, 1, none⟩) (Or.inl rfl) _).set (p := ⟨B + 1, 2, none⟩) (Or.inl rfl) _
      have hBw := HB.out
      refine ⟨a', cap', rfl, (HSL.out.keptP hk3 (fun b o h e => by have : B + 3 ≤ b := h; omega)).weaken (fun b o h => by have : B + 3 ≤ b := h; omega), HCP.out, HBB.out.trans (hk3.toBelow HBB.out.size (fun b hb e => by omega))⟩
end Go.Proofs.YtfgpjfgejhahfaaGreatDoor
