/-
  Proved here: contracts of the walk to BisimOwn: the reference's Copy of values; each under the conditions that its own statement names.
-/
import Derived.Test.YtfgpjfgejhahfaaGreatDoorG09
import Derived.Test.YtfgpjfgejhahfaaGreatDoorG19
import Derived.Test.YtfgpjfgejhahfaaGreatDoorG45
namespace Go.Proofs.YtfgpjfgejhahfaaGreatDoor
open Go Go.RowKit
attribute [local go_sem ↓] Go.wp_at_zero Go.wp_at_succ

theorem V.app_drop2 {t : V} : ∀ {j : Nat} {ks : V} {n : Int} {k : V} {ws : List Int} {r : V}, t = ks.app (t.drop j) → t.drop j = .cons n k ws r → t.drop (j + 1) = r → t = (ks.app (.cons n k ws .nil)).app (t.drop (j + 1)) := by
  intro j ks n k ws r h hd hd1
  rw [V.app_assoc, hd1]
  show t = ks.app (.cons n k ws r)
  rw [← hd]
  exact h

theorem light_drop (t : V) {m : Int} : ∀ j, t.light m = true → (t.drop j).light m = true := by
  induction t with
  | nil => intro j h; cases j <;> exact h
  | cons n k ws r _ ih =>
    intro j h
    cases j with
    | zero => exact h
    | succ j =>
      simp only [V.light, Bool.and_eq_true] at h
      exact ih j h.2

def VCopyOk (t : V) : Prop := ∀ (S' : Nat → Prop) (n : Int) (ws : List Int) (a c : Option Addr) (cap cp : Nat) (w : World), Vl S' w a t → Ints S' w c ws → t.count ≤ 100000 → t.light 1000 = true → ws.length ≤ 1000 →
    Calls Tryz.prog 90 #[Vv n a t.len cap c ws.length cp] w fun e w' =>
      ∃ a' c' cap' cp', e = .returned (Vv n a' t.len cap' c' ws.length cp') ∧ Vl (fun b => w.heap.size ≤ b) w' a' t ∧ Ints (fun b => w.heap.size ≤ b) w' c' ws ∧ Below w.heap.size w w'

set_option maxRecDepth 100000 in
set_option maxHeartbeats 12800000 in
theorem vcopy_any : ∀ t : V, VCopyOk t := by
  refine V.ind ?_
  intro t ih S' n ws a c cap cp w hs hi hct hlg hwl
  obtain ⟨i0, hti, hz0, hz1, hz2⟩ := info_parts infoI
  obtain ⟨i1, ui, uz0, uz1, uz2⟩ := info_parts infoV
  obtain ⟨W, hW⟩ : ∃ W : World, W = (w.alloc (Obj.cells #[Value.int IntKind.i64 n, Value.slice a t.len cap, Value.slice c ws.length cp] 28)).alloc (Obj.cells #[Value.int IntKind.i64 0, Value.slice none 0 0, Value.slice none 0 0] 28) := ⟨_, rfl⟩
  have hWb : Below w.heap.size w W := by rw [hW]; exact ((Below.refl _ _).alloc (Nat.le_refl _) _).alloc (by simp) _
  have hWs : W.heap.size = w.heap.size + 2 := by rw [hW]; simp
  have g0 : W.heap[w.heap.size]? = some (.cells #[.int .i64 n, .slice a t.len cap, .slice c ws.length cp] 28 (0, 0)) := by rw [hW]; exact heap_old2 _ _ _
  have g1 : W.heap[w.heap.size + 1]? = some (.cells #[.int .i64 0, .slice none 0 0, .slice none 0 0] 28 (0, 0)) := by rw [hW]; exact heap_new2 _ _ _
  have hlen := hs.1
  have hlw := hi.1
  have hlc := V.len_count t
  obtain ⟨B, hB⟩ : ∃ B, B = w.heap.size := ⟨_, rfl⟩
  rw [← hB] at g0 g1 hWs
  have HB := Lib.hid hB
  have HWB := Lib.hid hWb
  have HWS := Lib.hid hWs
  have HSV := Lib.hid (hs.below hWb)
  have hi3 := hi.below hWb
  have IH := Lib.hid ih
  obtain ⟨e0, e1, e2⟩ := cells_of g0
  have HG0 := Lib.hid g0
  have HG1 := Lib.hid g1
  have HLG := Lib.hid hlg
  have hBW : B < W.heap.size := by omega
  clear hs hi hWb ih hWs g0 g1 hlg
  go_enter Tryz.func90, Tryz.ntmps90
  go_upto_region 1 with (fail)
  rw [← hW, ← hB]
  clear hW hB
  have hbd : Below W.heap.size W W.drew := (Below.refl _ _).drew
  go_cut [3] from 6 to 11 (fun s3 wx => OutAt W.heap.size n ws W s3 wx)
  case rest =>
    obtain ⟨ob, oc, ocp, rfl, hob, hox, hio, hbo⟩ := hcut
    have hws := HWS.out
    have w0 : wc.cell? ⟨B, 1, none⟩ = some (.slice a t.len cap) := by
      have h := (hbo.block _ hBW).trans HG0.out
      exact (cells_of h).2.1
    have HOX := Lib.hid hox
    have HIO0 := Lib.hid hio
    have HBO := Lib.hid hbo
    clear hox hio hbo e0 e1 e2 hi3 hbd hws
    go_wp2_with fail
    go_loopw [15] (fun i wr => ∃ (j : Nat) (v : Value) (xs : List Value) (ks : V), j ≤ t.len ∧ i = .int .i64 j ∧ wr.heap[ob]? = some (.cells #[.int .i64 n, v, .slice oc ws.length ocp] 28 (0, 0)) ∧
      wr.ownsRow W.heap.size 28 3 v j xs ∧ ks.Row (OutS W.heap.size ob v) wr xs ∧ ks.len = j ∧ t = ks.app (t.drop j) ∧ (v.ownBlock ≠ some ob ∧ Ints (OutS W.heap.size ob v) wr oc ws) ∧ Below W.heap.size W wr) (fun i _ => t.len - (intOf i).toNat)
    case atStart => exact ⟨0, _, [], .nil, Nat.zero_le _, rfl, HOX.out, World.ownsRow_nil _ _ _ _, rfl, rfl, by simp [V.app], ⟨by simp [Value.ownBlock], HIO0.out.weaken (fun b h => ⟨h.1, h.2, by simp [Value.ownBlock]⟩)⟩, HBO.out⟩
    case round =>
      obtain ⟨j, v, xs, ks, hj, rfl, hobr, hown, hrow, hkl, htk, hio', hb⟩ := hrel
      have HOWN := Lib.hid hown
      have HROW := Lib.hid hrow
      have HKL := Lib.hid hkl
      have HTK := Lib.hid htk
      have HIO := Lib.hid hio'
      have HOBR := Lib.hid hobr
      have HBB := Lib.hid hb
      clear hown hrow hkl htk hio' hobr
      by_cases hlt : j < t.len
      · obtain ⟨b, o, rfl, hat⟩ := HSV.out.addr hlt
        obtain ⟨n1, k1, ws1, r1, hd, hd1⟩ := V.drop_lt hlt
        obtain ⟨d0, ⟨a1, cap1, d1, hv1⟩, ⟨c1, cp1, d2, hi1⟩⟩ := hat.get hd
        replace d0 := cell_below hb d0
        replace d1 := cell_below hb d1
        replace d2 := cell_below hb d2
        have hb3j := Nat.mul_comm 3 j
        have hkc := count_le t j
        have hkc2 := count_step hd hd1
        have hlg1 : k1.light 1000 = true ∧ ws1.length ≤ 1000 := by
          have h1 := light_drop t j HLG.out
          rw [light_step hd hd1] at h1
          simp only [Bool.and_eq_true, decide_eq_true_eq] at h1
          exact ⟨h1.1.1, by omega⟩
        obtain ⟨X, hX⟩ : ∃ X : World, X = wr.alloc (Obj.cells #[Value.int IntKind.i64 n1, Value.slice a1 k1.len cap1, Value.slice c1 ws1.length cp1] 28) := ⟨_, rfl⟩
        obtain ⟨xb, hxb⟩ : ∃ xb, xb = wr.heap.size := ⟨_, rfl⟩
        have hXb : X.heap[xb]? = some (Obj.cells #[Value.int IntKind.i64 n1, Value.slice a1 k1.len cap1, Value.slice c1 ws1.length cp1] 28 (0, 0)) := by rw [hX, hxb]; exact heap_new _ _
        have hXB : Below wr.heap.size wr X := by rw [hX]; exact (Below.refl _ _).alloc (Nat.le_refl _) _
        have HXB := Lib.hid hXB
        have HWX := Lib.hid (hb.trans (hXB.mono hb.size))
        have hXD : Below X.heap.size X X.drew := (Below.refl _ _).drew
        have HIH := Lib.hid (IH.out j n1 k1 ws1 r1 hd S' n1 ws1 a1 c1 cap1 cp1 X.drew ((hv1.below (hb.trans (hXB.mono hb.size))).below hXD) ((hi1.below (hb.trans (hXB.mono hb.size))).below hXD) (by omega) hlg1.1 hlg1.2)
        have hX2 := (hXB.block _ (heap_lt HOBR.out)).trans HOBR.out
        obtain ⟨x0, x1, x2⟩ := cells_of hXb
        obtain ⟨o0, o1, o2⟩ := cells_of hX2
        have HXO := Lib.hid (HOWN.out.kept (grownB hXB none) (by cases v.ownBlock <;> simp))
        have HTD := Lib.hid hd
        have HTD1 := Lib.hid hd1
        have hjn : j ≤ 100000 := by omega
        have HX2 := Lib.hid hX2
        have hobl := heap_lt hX2
        have hxs : W.heap.size ≤ X.heap.size := HWX.out.size
        have HHOB := Lib.hid hob
        clear hb hat hd hd1 hv1 hi1 hXb hXB hX2 hlg1
        go_upto_region 5 with (fail)
        rw [← hX, ← hxb]
        clear hX hxb d0 d1 d2
        go_region_law (first
          | (refine step_append_at (by rfl) _ _ 25 (by rfl) W.heap.size 28 i1 (.agg #[.int .i64 0, .slice none 0 0, .slice none 0 0]) 3 56 Tryz.underlying25 ui uz0 uz1 uz2 rfl (by omega) v j xs (by rfl) ((HXO.out.kept (grownB HB2.out none) (by cases v.ownBlock <;> simp)).alloc _) (some ⟨w2.heap.size, 0, none⟩) 1 1 [.int .i64 n1, .slice a2 k1.len cap2, .slice c2 ws1.length cp2] (by rfl) rfl (news_box (heap_new _ _) (by rfl)) (by simp [Value.oneCell']) (by unfold maxLen; omega) (by omega) (by have := HB2.out.size; simp; omega) ?_
             intro v' w5 hown5 hgr hat
             have HG5 := Lib.hid hgr
             have HO5 := Lib.hid hown5
             have HAT := Lib.hid hat
             have hob5 : w5.heap[ob]? = some (.cells #[.int .i64 n, v, .slice oc ws.length ocp] 28 (0, 0)) := by
               have h2 := HB2.out.size
               have h3 := heap_lt HX2.out
               rw [hgr.block ob (by simp; omega) (fun e => HIO.out.1 e.symm), Below.heap_alloc _ _ _ (by omega), HB2.out.block _ h3]
               exact HX2.out
             have HOB5 := Lib.hid hob5
             obtain ⟨_, q1, _⟩ := cells_of hob5
             have hz5 := frozen_of (o := 1) hob5
             obtain ⟨g5, cap6, rfl⟩ : ∃ g5 cap6, v' = .slice (some ⟨g5, 0, none⟩) (j + 1) cap6 := by
               rcases hown5.2 with ⟨_, h⟩ | ⟨g, cap', _, h, _⟩
               · omega
               · exact ⟨g, cap', h⟩
             clear hown5 hgr hat hob5)
          | (rw [if_pos (by rfl)]
             go_simp
             go_at_call 90
             refine HIH.out.mono ?_
             rintro e w2 ⟨a2, c2, cap2, cp2, rfl, hvl, hil, hb2⟩
             have o1 := cell_below hb2 o1
             have o3 := cell_below ((Below.refl w2.heap.size w2).alloc (Nat.le_refl _) (Obj.cells #[Value.int IntKind.i64 n1, Value.slice a2 k1.len cap2, Value.slice c2 ws1.length cp2] 28)) o1
             have HB2 := Lib.hid (show Below X.heap.size X w2 from ⟨hb2.os, hb2.tape, hb2.output, hb2.size, hb2.block⟩)
             have HVL := Lib.hid (show Vl (fun b => X.heap.size ≤ b) w2 a2 k1 from hvl)
             have HIL := Lib.hid (show Ints (fun b => X.heap.size ≤ b) w2 c2 ws1 from hil)
             clear hb2 hvl hil)
          | fail)
        all_goals
          have hv2 : ∀ g, v.ownBlock = some g → W.heap.size ≤ g ∧ g < X.heap.size := fun g hg => HXO.out.lt g hg
          have hs2 := HB2.out.size
          have hs1 := HXB.out.size
          have hob1 := heap_lt HOBR.out
          obtain ⟨vv, hvv⟩ : ∃ vv, vv = Value.slice (some ⟨g5, 0, none⟩) (j + 1) cap6 := ⟨_, rfl⟩
          have HVV := Lib.hid hvv
          have HAT2 := Lib.hid (show vv.ownBlock = v.ownBlock ∨ vv.ownBlock = some (w2.alloc (Obj.cells #[Value.int IntKind.i64 n1, Value.slice a2 k1.len cap2, Value.slice c2 ws1.length cp2] 28)).heap.size from by rw [hvv]; exact HAT.out)
          have HO5' := Lib.hid (show w5.ownsRow W.heap.size 28 3 vv (j + 1) (xs ++ [.int .i64 n1, .slice a2 k1.len cap2, .slice c2 ws1.length cp2]) from by rw [hvv]; exact HO5.out)
          have hne : vv.ownBlock ≠ some ob := by
            rcases HAT2.out with e | e
            · rw [e]; exact HIO.out.1
            · rw [e]; intro h; have := Option.some.inj h; simp at this; omega
          have hb5 : Below W.heap.size W w5 := by
            have h1 := HWX.out.trans (HB2.out.mono HWX.out.size)
            exact (h1.alloc h1.size _).grown HG5.out (by have := h1.size; simp; omega) (fun g hg => (hv2 g hg).1)
          have HB6 := Lib.hid (hb5.setCell (p := ⟨ob, 1, none⟩) HHOB.out vv)
          have HO6 := Lib.hid (HO5'.out.kept (w' := w5.setCell ⟨ob, 1, none⟩ vv) (row := some ob) ⟨rfl, rfl, rfl, by simp [World.setCell], fun k _ hk => Below.heap_setCell _ _ _ _ (fun e => hk (by rw [e]))⟩ (Or.inr hne))
          have hOS : ∀ b, OutS W.heap.size ob v b → b < w2.heap.size → OutS W.heap.size ob v b := fun b h _ => h
          have hON : ∀ b, X.heap.size ≤ b → b < w2.heap.size → OutS W.heap.size ob v b := fun b h _ => ⟨by omega, by omega, fun e => by have := hv2 b e.symm; omega⟩
          have HR6 := Lib.hid (V.Row.app (V.Row.mono (fun a u h => vl_step ((h.below HXB.out).below HB2.out) hOS HG5.out HAT2.out vv) (fun a u h => ints_step ((h.below HXB.out).below HB2.out) hOS HG5.out HAT2.out vv) HROW.out) (show (V.cons n1 k1 ws1 .nil).Row (OutS W.heap.size ob vv) (w5.setCell ⟨ob, 1, none⟩ vv) [.int .i64 n1, .slice a2 k1.len cap2, .slice c2 ws1.length cp2] from ⟨a2, cap2, c2, cp2, [], rfl, vl_step HVL.out hON HG5.out HAT2.out vv, ints_step HIL.out hON HG5.out HAT2.out vv, rfl⟩))
          have HI6 := Lib.hid (ints_step ((HIO.out.2.below HXB.out).below HB2.out) hOS HG5.out HAT2.out vv)
          have HNE := Lib.hid hne
          have HT6 := Lib.hid (V.app_drop2 HTK.out HTD.out HTD1.out)
          rw [← hvv]
          have hform := hvv
          clear hv2 hs2 hs1 hob1 hvv hne hb5 hOS hON o1 q1 hz5 x0 x1 x2 o0 o2 hform
          go_wp2_with fail
          go_roundw
          case rel => exact ⟨j + 1, vv, _, ks.app (.cons n1 k1 ws1 .nil), by omega, by go_num, set_second HOB5.out, HO6.out, HR6.out, by rw [V.app_len, HKL.out]; rfl, HT6.out, ⟨HNE.out, HI6.out⟩, HB6.out⟩
          case measure => simp [intOf]; omega
      · have hjl : j = t.len := by omega
        have hkt : ks = t := by
          have h := HTK.out
          rw [hjl, V.drop_all, V.app_nil] at h
          exact h.symm
        have hvob := HIO.out.1
        have hws := HWS.out
        obtain ⟨ka, kc, hva, hkv⟩ := vl_of_row (S := OutS W.heap.size ob v) (S' := fun b => W.heap.size ≤ b) (t := ks) (by rw [hkt]; omega) (by rw [HKL.out]; exact HOWN.out) HROW.out (fun b h => h.1) (fun b _ h => h)
        rw [hkt] at hva hkv
        have hwi := HIO.out.2.weaken (S' := fun b => W.heap.size ≤ b) (fun b h => h.1)
        have hoc := HOBR.out
        rw [hva] at hoc
        obtain ⟨o0, o1, o2⟩ := cells_of hoc
        have hg1 : wr.heap[B + 1]? = some (.cells #[.int .i64 0, .slice none 0 0, .slice none 0 0] 28 (0, 0)) := (HBB.out.block _ (by omega)).trans HG1.out
        obtain ⟨r0, r1, r2⟩ := cells_of hg1
        have rz : ∀ i, wr.frozen? ⟨B + 1, i, none⟩ = false := fun i => frozen_of hg1
        have hjl2 : ¬ (j : Int) < t.len := by omega
        have HKV := Lib.hid hkv
        have HWI := Lib.hid hwi
        have HR1 := Lib.hid hg1
        clear hjl hva hkt hoc hb hg1 hkv hwi hvob hws hlt
        go_wp2_with fail
        obtain ⟨z0, z1, z2⟩ := cells_of (store3 (x0 := .int .i64 n) (x1 := .slice ka t.len kc) (x2 := .slice oc ws.length ocp) HR1.out rfl)
        refine bodyPost_ret (v := Vv n ka t.len kc oc ws.length ocp) (by simp [results, Tryz.results90, go_sem, z0, z1, z2]) rfl ?_
        have hk3 : Kept (fun b => b = B + 1) wr (((wr.setCell ⟨B + 1, 0, none⟩ (.int .i64 n)).setCell ⟨B + 1, 1, none⟩ (.slice ka t.len kc)).setCell ⟨B + 1, 2, none⟩ (.slice oc ws.length ocp)) := (((Kept.refl (fun b => b = B + 1) wr).set (p := ⟨B + 1, 0, none⟩) (Or.inl rfl) _).set (p := ⟨B + 1, 1, none⟩) (Or.inl rfl) _).set (p := ⟨B + 1, 2, none⟩) (Or.inl rfl) _
        have hBw := HB.out
        have hws := HWS.out
        have hbw : Below w.heap.size w wr := HWB.out.trans (HBB.out.mono HWB.out.size)
        exact ⟨ka, oc, ⟨kc, ocp, rfl⟩, (HKV.out.keptP hk3 (fun b h e => by omega)).weaken (fun b h => by omega), (HWI.out.keptP hk3 (fun b h e => by omega)).weaken (fun b h => by omega), hbw.trans (hk3.toBelow hbw.size (fun b hb e => by omega))⟩
  case first =>
   by_cases hwe : ws = []
   · subst hwe
     simp only [List.length_nil] at e2
     go_region_held3 (fun x : World => x.cell? ⟨B, 0, none⟩ = some (.int .i64 n) ∧ x.cell? ⟨B, 2, none⟩ = some (.slice c 0 cp)) (first | exact ⟨e0, e2⟩ | exact ⟨alloc_cell e0, alloc_cell e2⟩ | exact ⟨cell_set3 (alloc_cell e0) (by omega), cell_set3 (alloc_cell e2) (by omega)⟩) (refine step_append_zero (by rfl) _ _ _ (by rfl) W.heap.size 3 i0 1 Tryz.underlying26 hti (.slice none 0 0) 0 [] (by rfl) (World.ownsRow_nil _ _ _ _) c cp (by rfl) ?_)
     all_goals
       go_wp2_with fail
       go_meet
       exact ⟨W.heap.size, none, 0, rfl, Nat.le_refl _, heap_new _ _, ⟨by simp, Or.inl rfl⟩, hbd.alloc hbd.size _⟩
   · have hwl : 0 < ws.length := List.length_pos_iff.2 hwe
     obtain ⟨wb, wo, rfl, _⟩ := hi3.get hwl
     have hcs : ∀ x, Below W.heap.size W x → ∀ j u, (ws.map (Value.int .i64))[j]? = some u → x.cell? ((⟨wb, wo, none⟩ : Addr).add j) = some u := by
       intro x hx j u hu
       obtain ⟨v0, hv0, rfl⟩ : ∃ v0, ws[j]? = some v0 ∧ Value.int .i64 v0 = u := by simpa using hu
       have hadd : (⟨wb, wo, none⟩ : Addr).add j = ⟨wb, wo + j, none⟩ := by unfold Addr.add; split <;> simp_all
       rw [hadd]
       rcases hi3.2 with h | ⟨b', o', he, _, h3⟩
       · exact absurd h hwe
       · simp only [Option.some.injEq, Addr.mk.injEq] at he
         obtain ⟨rfl, rfl, _⟩ := he
         exact cell_below hx (h3 j v0 hv0)
     have HCS := Lib.hid hcs
     clear hcs hwe
     go_region_held3 (fun x : World => x.cell? ⟨B, 0, none⟩ = some (.int .i64 n) ∧ x.cell? ⟨B, 2, none⟩ = some (.slice (some ⟨wb, wo, none⟩) ws.length cp)) (first | exact ⟨e0, e2⟩ | exact ⟨alloc_cell e0, alloc_cell e2⟩ | exact ⟨hgrow.cell e0 (by simp [Value.ownBlock]), hgrow.cell e2 (by simp [Value.ownBlock])⟩ | exact ⟨hgrow.cell (alloc_cell e0) (by simp [Value.ownBlock]), hgrow.cell (alloc_cell e2) (by simp [Value.ownBlock])⟩ | exact ⟨alloc_cell (hgrow.cell e0 (by simp [Value.ownBlock])), alloc_cell (hgrow.cell e2 (by simp [Value.ownBlock]))⟩ | exact ⟨cell_set3 (hgrow.cell (alloc_cell e0) (by simp [Value.ownBlock])) (by omega), cell_set3 (hgrow.cell (alloc_cell e2) (by simp [Value.ownBlock])) (by omega)⟩ | exact ⟨cell_set3 (alloc_cell (hgrow.cell e0 (by simp [Value.ownBlock]))) (by have := hgrow.size; simp at this; omega), cell_set3 (alloc_cell (hgrow.cell e2 (by simp [Value.ownBlock]))) (by have := hgrow.size; simp at this; omega)⟩) ((refine step_append_lies _ (by rfl) _ _ _ (by rfl) W.heap.size 3 i0 (.int .i64 0) 1 8 Tryz.underlying26 hti hz0 hz1 hz2 rfl (by omega) (.slice none 0 0) 0 [] (by rfl) (World.ownsRow_nil _ _ _ _) ⟨wb, wo, none⟩ ws.length cp (ws.map (Value.int .i64)) (by rfl) (by simp) (by first | exact HCS.out _ hbd | exact HCS.out _ (hbd.alloc hbd.size _)) (by simp [Value.oneCell']) hwl (by unfold maxLen; omega) (by omega) (by simp) _ rfl ?_; intro g cg w4 hown hgrow hat hlt; (try (have hq : w4.heap[W.heap.size]? = some (Obj.cells #[.int .i64 0, .slice none 0 0, .slice none 0 0] 28 (0, 0)) := (by rw [hgrow.block _ (by simp) (by simp [Value.ownBlock])]; exact heap_new _ _); obtain ⟨q0, q1, q2⟩ := cells_of hq; have qf : ∀ i, w4.frozen? ⟨W.heap.size, i, none⟩ = false := fun i => frozen_of hq))))
     · have hI := ints_in (ob := w4.heap.size) hlw hown (by omega)
       have hgb := hbd.grown hgrow (Nat.le_refl _) (by intro k hk; simp [Value.ownBlock] at hk)
       have hs4 := hgb.size
       go_wp2_with fail
       go_meet
       exact ⟨w4.heap.size, _, _, rfl, hs4, heap_new _ _, hI.below ((Below.refl _ _).alloc (Nat.le_refl _) _), hgb.alloc hs4 _⟩
     · have hgw : g = W.heap.size + 1 := by
         rcases hat with h | h
         · simp [Value.ownBlock] at h
         · simpa using h
       have hI := ints_in (ob := W.heap.size) hlw hown (by omega)
       have hgb := (hbd.alloc hbd.size _).grown hgrow (by simp) (by intro k hk; simp [Value.ownBlock] at hk)
       have HQ := Lib.hid hq
       clear hgw hq q0 q1 q2 qf
       go_wp2_with fail
       go_meet
       exact ⟨W.heap.size, _, _, rfl, Nat.le_refl _, store3 HQ.out rfl, hI.mono (fun _ h => h) (fun b hb _ => store3_far hb.2), ((hgb.setCell (p := ⟨W.heap.size, 0, none⟩) (Nat.le_refl _) _).setCell (p := ⟨W.heap.size, 1, none⟩) (Nat.le_refl _) _).setCell (p := ⟨W.heap.size, 2, none⟩) (Nat.le_refl _) _⟩
end Go.Proofs.YtfgpjfgejhahfaaGreatDoor
