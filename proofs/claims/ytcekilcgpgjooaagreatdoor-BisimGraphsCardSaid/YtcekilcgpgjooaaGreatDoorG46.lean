/- Proved here: contracts of the walk to BisimGraphs: clone, and system.Is; each under the conditions that its own statement names. -/
import Derived.Test.YtcekilcgpgjooaaGreatDoorG45
import Derived.Deep.DrawnRows
import Derived.Deep.DeepCutAuto
set_option maxRecDepth 100000
set_option maxHeartbeats 6400000
namespace Go.Proofs.YtcekilcgpgjooaaGreatDoor
open Go Go.RowKit
open Go.Lib (hid)
attribute [local go_sem ↓] Go.wp_at_zero Go.wp_at_succ
theorem infoFnC : (Tryz.prog.info? 24).map (fun i => (i.zero, i.size, i.bytes)) = some (some (.agg #[.int .i64 0, .int .i64 0, .slice none 0 0]), 3, 40) := by kernel_rfl
theorem set_at2C {w : World} {b : Nat} {x0 x1 x2 v : Value} {t : TypeId} (h : w.heap[b]? = some (.cells #[x0, x1, x2] t (0, 0))) : (w.setCell ⟨b, 2, none⟩ v).heap[b]? = some (.cells #[x0, x1, v] t (0, 0)) := by
 simp [World.setCell, Array.getElem?_modify, h]
theorem grownBC {u u' : World} (hb : Below u.heap.size u u') (row : Option Nat) : u.grownBy u' row := ⟨hb.os, hb.tape, hb.output, hb.size, fun k hk _ => hb.block k hk⟩
theorem sl_stepC {P : Nat → Nat → Prop} {lo : Nat} {v v' : Value} {wx w5 : World} {O : Obj} {a : Option Addr} {u : T} (h : Sl P wx a u) (hP : ∀ b o, P b o → b < wx.heap.size → lo ≤ b ∧ some b ≠ v.ownBlock)
    (hgr : (wx.alloc O).grownBy w5 v.ownBlock) (hat : v'.ownBlock = v.ownBlock ∨ v'.ownBlock = some (wx.alloc O).heap.size) (ob i : Nat) (hob : ob < lo) (y : Value) : Sl (New lo v'.ownBlock) (w5.setCell ⟨ob, i, none⟩ y) a u := by
 have h1 : Sl (fun b o => P b o ∧ b < wx.heap.size) (wx.alloc O) a u := h.lt.below ((Below.refl wx.heap.size wx).alloc (Nat.le_refl _) O)
 have h2 : Sl (New lo v'.ownBlock) w5 a u := h1.grown hgr (fun b o hb _ => by
  obtain ⟨e1, e2⟩ := hP b o hb.1 hb.2
  refine ⟨⟨e1, ?_⟩, e2⟩
  rcases hat with e | e
  ·rw [e]; exact e2
  ·rw [e]; intro h4; have := Option.some.inj h4; have := hb.2; simp at *; omega)
 refine h2.grown (row := some ob) ⟨rfl, rfl, rfl, by simp [World.setCell], fun k _ hk => Below.heap_setCell _ _ _ _ (fun e => hk (by rw [e]))⟩ (fun b o hb _ => ⟨hb, fun e => ?_⟩)
 have := hb.1
 have := Option.some.inj e
 omega
def FClnOk (t : T) : Prop := ∀ (S : Nat → Nat → Prop) (k n : Int) (a : Option Addr) (cap : Nat) (w : World), Sl S w a t → t.nodes ≤ 100000 →
    Calls Tryz.prog 47 #[.agg #[.int .i64 k, .int .i64 n, .slice a t.len cap]] w fun e w' =>
     ∃ a' cap', e = .returned (.agg #[.int .i64 k, .int .i64 n, .slice a' t.len cap']) ∧ Sl (fun b _ => w.heap.size ≤ b) w' a' t ∧ t.len ≤ cap' ∧ Below w.heap.size w w'
theorem fcln_any : ∀ t : T, FClnOk t := by
 refine T.ind ?_
 intro t ih S k n a cap w hs hn
 obtain ⟨i0, hi, hz0, hz1, hz2⟩ := info_parts infoFnC
 obtain ⟨W, hW⟩ : ∃ W : World, W = ((w.alloc (Obj.cells #[.int .i64 k, .int .i64 n, Value.slice a t.len cap] 24)).alloc (Obj.cells #[.int .i64 0, .int .i64 0, Value.slice none 0 0] 24)).alloc (Obj.cells #[.int .i64 k, .int .i64 n, Value.slice none 0 0] 24) := ⟨_, rfl⟩
 have hWb : Below w.heap.size w W := by rw [hW]; exact (ba2 _ _ _).alloc (by simp; omega) _
 have hWs : W.heap.size = w.heap.size + 3 := by rw [hW]; simp
 have g1 : W.heap[w.heap.size + 1]? = some (.cells #[.int .i64 0, .int .i64 0, .slice none 0 0] 24 (0, 0)) := by
  rw [hW, Below.heap_alloc _ _ _ (by simp)]; exact heap_new2 _ _ _
 have g2 : W.heap[w.heap.size + 2]? = some (.cells #[.int .i64 k, .int .i64 n, .slice none 0 0] 24 (0, 0)) := by
  rw [hW]
  have h := heap_new ((w.alloc (Obj.cells #[.int .i64 k, .int .i64 n, Value.slice a t.len cap] 24)).alloc (Obj.cells #[.int .i64 0, .int .i64 0, Value.slice none 0 0] 24)) (Obj.cells #[.int .i64 k, .int .i64 n, Value.slice none 0 0] 24)
  simpa using h
 have g0 : W.heap[w.heap.size]? = some (.cells #[.int .i64 k, .int .i64 n, .slice a t.len cap] 24 (0, 0)) := by
  rw [hW, Below.heap_alloc _ _ _ (by simp; omega)]; exact heap_old2 _ _ _
 have hlen := hs.1
 have hln := t.len_nodes
 obtain ⟨B, hB⟩ : ∃ B, B = w.heap.size := ⟨_, rfl⟩
 rw [← hB] at g0 g1 g2 hWs
 have HB := hid hB
 have HWB := hid hWb
 have HWS := hid hWs
 have HS := hid hs
 have IH := hid ih
 obtain ⟨z0, z1, z2⟩ := cells_of g0
 have HG1 := hid g1
 have HG2 := hid g2
 clear hs hWb ih hWs g0 g1 g2
 go_enter Tryz.func47, Tryz.ntmps47
 go_upto_region 2 with (fail)
 rw [← hW, ← hB]
 clear hW hB
 go_wp2_with fail
 clear z0 z1 z2
 go_loopw [14] (fun i wr => ∃ (j : Nat) (v : Value) (xs : List Value), j ≤ t.len ∧ i = .int .i64 j ∧
     wr.heap[B + 1]? = some (.cells #[.int .i64 0, .int .i64 0, .slice none 0 0] 24 (0, 0)) ∧ wr.heap[B + 2]? = some (.cells #[.int .i64 k, .int .i64 n, v] 24 (0, 0)) ∧
     wr.ownsRow (B + 3) 24 3 v j xs ∧ (t.take j).Row (New (B + 3) v.ownBlock) wr xs ∧ Below w.heap.size w wr) (fun i _ => t.len - (intOf i).toNat)
 case atStart => exact ⟨0, _, [], Nat.zero_le _, rfl, HG1.out, HG2.out, World.ownsRow_nil _ _ _ _, by cases t <;> rfl, HWB.out⟩
 case round =>
  obtain ⟨j, v, xs, hj, rfl, hg1, hg2, hown, hrow, hb⟩ := hrel
  have HO := hid hown
  have HR := hid hrow
  have HBB := hid hb
  have HX1 := hid hg1
  have HX2 := hid hg2
  by_cases hlt : j < t.len
  ·obtain ⟨b, o, rfl, hat⟩ := HS.out.addr hlt
   obtain ⟨k1, n1, kids, rest, hd, hd1⟩ := T.drop_lt hlt
   obtain ⟨_, d0, d1, a1, cap1, d2, hs1, hc1⟩ := hat.getc hd
   have hb3 := Nat.mul_comm 3 j
   rw [hb3] at d0 d1 d2
   clear hb3
   replace d0 := cell_below hb d0
   replace d1 := cell_below hb d1
   replace d2 := cell_below hb d2
   have hkn : kids.nodes ≤ 100000 := by have hnd := T.drop_nodes t j; rw [hd] at hnd; simp only [T.nodes] at hnd; omega
   obtain ⟨X, hX⟩ : ∃ X : World, X = wr.alloc (.cells #[.int .i64 k1, .int .i64 n1, .slice a1 kids.len cap1] 24) := ⟨_, rfl⟩
   obtain ⟨xb, hxb⟩ : ∃ xb, xb = wr.heap.size := ⟨_, rfl⟩
   have hXb : X.heap[xb]? = some (.cells #[.int .i64 k1, .int .i64 n1, .slice a1 kids.len cap1] 24 (0, 0)) := by rw [hX, hxb]; exact heap_new _ _
   have hXB : Below wr.heap.size wr X := by rw [hX]; exact ba _ _
   have HXB := hid hXB
   have HWX := hid (hb.trans (hXB.mono hb.size))
   have hXD : Below X.heap.size X X.drew := (Below.refl _ _).drew
   have HIH := hid (IH.out j k1 n1 kids rest hd S k1 n1 a1 cap1 X.drew ((hs1.below (hb.trans (hXB.mono hb.size))).below hXD) hkn)
   have hX2 := (hXB.block _ (heap_lt hg2)).trans hg2
   obtain ⟨e0, e1, e2⟩ := cells_of hXb
   obtain ⟨o0, o1, o2⟩ := cells_of hX2
   have HXO := hid (hown.kept (grownBC hXB none) (by cases v.ownBlock <;> simp))
   have HTD := hid hd
   have hjn : j ≤ 100000 := by omega
   have hxs : B + 3 ≤ X.heap.size := by have h1 := heap_lt hX2; omega
   have HX2' := hid hX2
   have HXbb := hid hXb
   have HZ := hid hxb
   clear hown hrow hb hg1 hg2 hat hd hd1 hs1 hXb hXB hX2
   go_upto_region 5 with (fail)
   rw [← hX, ← hxb]
   clear hX hxb d0 d1 d2
   go_region_law (first
    | (refine step_append_at (by rfl) _ _ 22 (by rfl) (B + 3) 24 i0 (.agg #[.int .i64 0, .int .i64 0, .slice none 0 0]) 3 40 Tryz.underlying22 hi hz0 hz1 hz2 rfl (by omega) v j xs (by rfl) ((HXO.out.kept (grownBC HB2.out none) (by cases v.ownBlock <;> simp)).alloc _) (some ⟨w2.heap.size, 0, none⟩) 1 1 [.int .i64 k1, .int .i64 n1, .slice a2 kids.len cap2] (by rfl) rfl (news_box (heap_new _ _) (by rfl)) (by simp [Value.oneCell']) (by unfold maxLen; omega) (by omega) (by have := HB2.out.size; simp; omega) ?_
       intro v' w5 hown5 hgr hat
       have HG5 := hid hgr
       have HO5 := hid hown5
       have HAT := hid hat
       have hob5 : w5.heap[B + 2]? = some (.cells #[.int .i64 k, .int .i64 n, v] 24 (0, 0)) := by
        have h2 := HB2.out.size
        have h3 := heap_lt HX2'.out
        rw [hgr.block (B + 2) (by simp; omega) (fun e => by have := (HXO.out.lt _ e.symm).1; omega), Below.heap_alloc _ _ _ (by omega), HB2.out.block _ h3]
        exact HX2'.out
       have HOB5 := hid hob5
       obtain ⟨_, _, q2⟩ := cells_of hob5
       have hz5 := frozen_of (o := 2) hob5
       obtain ⟨g5, cap6, rfl⟩ : ∃ g5 cap6, v' = .slice (some ⟨g5, 0, none⟩) (j + 1) cap6 := by
        rcases hown5.2 with ⟨_, h⟩ | ⟨g, cap', _, h, _⟩
        ·omega
        ·exact ⟨g, cap', h⟩
       clear hown5 hgr hat hob5)
    | (rw [if_pos (by rfl)]
       go_simp
       go_at_call 47
       refine HIH.out.mono ?_
       rintro e w2 ⟨a2, cap2, rfl, hsl, hcl, hb2⟩
       have o2 := cell_below hb2 o2
       have o3 := cell_below ((Below.refl w2.heap.size w2).alloc (Nat.le_refl _) (Obj.cells #[.int .i64 k1, .int .i64 n1, Value.slice a2 kids.len cap2] 24)) o2
       have HB2 := hid (show Below X.heap.size X w2 from ⟨hb2.os, hb2.tape, hb2.output, hb2.size, hb2.block⟩)
       have HSL := hid (show Sl (fun b _ => X.heap.size ≤ b) w2 a2 kids from hsl)
       have HCL := hid hcl
       clear hb2 hsl hcl)
    | fail)
   all_goals
    have hv2 : ∀ g, v.ownBlock = some g → B + 3 ≤ g ∧ g < X.heap.size := fun g hg => HXO.out.lt g hg
    have hs2 := HB2.out.size
    have hBw := HB.out
    have hb5 : Below w.heap.size w w5 := by
     have h1 := HWX.out.trans (HB2.out.mono HWX.out.size)
     refine (h1.alloc h1.size _).grown HG5.out (by have := h1.size; simp; omega) (fun g hg => by have := hv2 g hg; omega)
    have HB6 := hid (hb5.setCell (p := ⟨B + 1 + 1, 2, none⟩) (by simp; omega) (Value.slice (some ⟨g5, 0, none⟩) (j + 1) cap6))
    have HX6 := hid (show (w5.setCell ⟨B + 1 + 1, 2, none⟩ (Value.slice (some ⟨g5, 0, none⟩) (j + 1) cap6)).heap[B + 1]? = some (.cells #[.int .i64 0, .int .i64 0, .slice none 0 0] 24 (0, 0)) by
     have h1 := heap_lt HX1.out
     have h2 := HXB.out.size
     rw [Below.heap_setCell _ _ _ _ (by simp), HG5.out.block (B + 1) (by simp; omega) (fun e => by have := hv2 _ e.symm; omega), Below.heap_alloc _ _ _ (by omega), HB2.out.block _ (by omega), HXB.out.block _ h1]
     exact HX1.out)
    have HO6 := hid (HO5.out.kept (w' := w5.setCell ⟨B + 1 + 1, 2, none⟩ (Value.slice (some ⟨g5, 0, none⟩) (j + 1) cap6)) (row := some (B + 1 + 1)) ⟨rfl, rfl, rfl, by simp [World.setCell], fun k _ hk => Below.heap_setCell _ _ _ _ (fun e => hk (by rw [e]))⟩ (Or.inr (fun e => by have := (HO5.out.lt _ e).1; omega)))
    have HAT2 := hid (show (Value.slice (some ⟨g5, 0, none⟩) (j + 1) cap6).ownBlock = v.ownBlock ∨ (Value.slice (some ⟨g5, 0, none⟩) (j + 1) cap6).ownBlock = some (w2.alloc (Obj.cells #[.int .i64 k1, .int .i64 n1, Value.slice a2 kids.len cap2] 24)).heap.size from HAT.out)
    have HR6 := hid (T.Row.push (w := w5.setCell ⟨B + 1 + 1, 2, none⟩ (Value.slice (some ⟨g5, 0, none⟩) (j + 1) cap6)) (T.Row.mono (S' := New (B + 3) (Value.slice (some ⟨g5, 0, none⟩) (j + 1) cap6).ownBlock) (fun a u h => sl_stepC ((h.below HXB.out).below HB2.out) (fun b o h _ => h) HG5.out HAT2.out (B + 1 + 1) 2 (by omega) _) HR.out) HTD.out (sl_stepC HSL.out (fun b o h _ => ⟨by have h' : X.heap.size ≤ b := h; omega, fun e => by have h' : X.heap.size ≤ b := h; have := hv2 _ e.symm; omega⟩) HG5.out HAT2.out (B + 1 + 1) 2 (by omega) _) HCL.out)
    clear hv2 hs2 hBw hb5 o2 q2 hz5 e0 e1 e2 o0 o1
    go_wp2_with fail
    go_roundw
    case rel => exact ⟨j + 1, (.slice (some ⟨g5, 0, none⟩) (j + 1) cap6), _, by omega, by go_num, HX6.out, set_at2C HOB5.out, HO6.out, HR6.out, HB6.out⟩
    case measure => simp [intOf]; omega
  ·obtain rfl : j = t.len := by omega
   rw [T.take_all] at hrow
   obtain ⟨a', cap', rfl, hsl⟩ := sl_of_row (by omega) hown hrow
   have HCP := hid (show t.len ≤ cap' by
    rcases hown.2 with ⟨h, h2⟩ | ⟨g, c, cur, h, _, _, h2, _⟩
    ·omega
    ·simp only [Value.slice.injEq] at h; omega)
   have HSL := hid hsl
   obtain ⟨o0, o1, o2⟩ := cells_of (show wr.heap[B + 1 + 1]? = _ from hg2)
   obtain ⟨r0, r1, r2⟩ := cells_of hg1
   have rz : ∀ i, wr.frozen? ⟨B + 1, i, none⟩ = false := fun i => by simp [World.frozen?, hg1]
   clear hown hrow hlt hj hsl hb hg1 hg2
   go_wp2_with fail
   obtain ⟨z0, z1, z2⟩ := cells_of (store3 (x0 := .int .i64 k) (x1 := .int .i64 n) (x2 := .slice a' t.len cap') HX1.out rfl)
   refine bodyPost_ret (v := .agg #[.int .i64 k, .int .i64 n, .slice a' t.len cap']) (by simp [results, Tryz.results47, go_sem, z0, z1, z2]) rfl ?_
   have hk3 : Kept (fun b => b = B + 1) wr (((wr.setCell ⟨B + 1, 0, none⟩ (.int .i64 k)).setCell ⟨B + 1, 1, none⟩ (.int .i64 n)).setCell ⟨B + 1, 2, none⟩ (.slice a' t.len cap')) := (((Kept.refl (fun b => b = B + 1) wr).set (p := ⟨B + 1, 0, none⟩) (Or.inl rfl) _).set (p := ⟨B + 1, 1, none⟩) (Or.inl rfl) _).set (p := ⟨B + 1, 2, none⟩) (Or.inl rfl) _
   have hBw := HB.out
   refine ⟨a', cap', rfl, (HSL.out.keptP hk3 (fun b o h e => by have : B + 3 ≤ b := h; omega)).weaken (fun b o h => by have : B + 3 ≤ b := h; omega), HCP.out, HBB.out.trans (hk3.toBelow HBB.out.size (fun b hb e => by omega))⟩
theorem all_lt100 {l : List Int} {n : Nat} (h : l.all (fun x => decide (0 ≤ x ∧ x < n)) = true) (hn : n ≤ 100) : l.all (fun x => decide (0 ≤ x ∧ x < 100)) = true := by
 rw [List.all_eq_true] at h ⊢
 intro x hx
 have := of_decide_eq_true (h x hx)
 exact decide_eq_true (by omega)
theorem all_at {l : List Int} {n : Int} (h : l.all (fun x => decide (0 ≤ x ∧ x < n)) = true) {j : Nat} (hj : j < l.length) : 0 ≤ l[j] ∧ l[j] < n := by
 rw [List.all_eq_true] at h
 exact of_decide_eq_true (h _ (List.getElem_mem hj))
theorem sysIs_any (S S2 : Nat → Nat → Prop) (S' S2' S3 : Nat → Prop) (f g : F) (a na a2 na2 ha : Option Addr) (cap ncap cap2 ncap2 hcap : Nat) (t u : V) (l : List Int) (w : World) (hs : Sl S w a f.t) (hv : Vl S' w na t) (hs2 : Sl S2 w a2 g.t) (hv2 : Vl S2' w na2 u) (hk : Kinds w) (hi : Ints S3 w ha l)
    (hbo : bothE f t g u = 0) (hm : l.length = t.len) (hall : l.all (fun x => decide (0 ≤ x ∧ x < u.len)) = true) :
    Calls Tryz.prog 17 #[Sv f a cap na t.len ncap, Sv g a2 cap2 na2 u.len ncap2, .slice ha l.length hcap] w fun e w' => ∃ b : Bool, e = .returned (.tuple #[.bool b, .int .i64 0]) ∧ (b = true ↔ ∀ x, x < t.len → mapE (toH l) f (t.el x) = u.el (l.getD x 0).toNat) ∧ Below w.heap.size w w' := by
 obtain ⟨hy1, hy2, rfl⟩ := both_ok hbo
 obtain ⟨hg, hn1, _⟩ := sys_parts hy1
 obtain ⟨_, hn2, _⟩ := sys_parts hy2
 obtain ⟨W, hW⟩ : ∃ W : World, W = (w.alloc (Obj.cells #[.int .i64 f.k, .int .i64 f.n, .slice a f.t.len cap, .slice na t.len ncap] 27)).alloc (Obj.cells #[.int .i64 f.k, .int .i64 f.n, .slice a2 f.t.len cap2, .slice na2 u.len ncap2] 27) := ⟨_, rfl⟩
 have hWb : Below w.heap.size w W := by rw [hW]; exact ba2 _ _ _
 have k0 : W.heap[w.heap.size]? = some (Obj.cells #[.int .i64 f.k, .int .i64 f.n, .slice a f.t.len cap, .slice na t.len ncap] 27 (0, 0)) := by rw [hW]; exact heap_old2 _ _ _
 have k1 : W.heap[w.heap.size + 1]? = some (Obj.cells #[.int .i64 f.k, .int .i64 f.n, .slice a2 f.t.len cap2, .slice na2 u.len ncap2] 27 (0, 0)) := by rw [hW]; exact heap_new2 _ _ _
 obtain ⟨B, hB⟩ : ∃ B, B = w.heap.size := ⟨_, rfl⟩
 rw [← hB] at k0 k1
 have HE := hid (fun x (hx : Below W.heap.size W x) => And.intro (cells4' ((hx.block _ (heap_lt k0)).trans k0)) (cells4' ((hx.block _ (heap_lt k1)).trans k1)))
 have HWB := hid hWb
 have HBO := hid (fun z (hz : Below W.heap.size W z) => sboth_any S S2 S' S2' f f a na a2 na2 cap ncap cap2 ncap2 t u z ((hs.below hWb).below hz) ((hv.below hWb).below hz) ((hs2.below hWb).below hz) ((hv2.below hWb).below hz) ((hk.below hWb).below hz))
 rw [hbo] at HBO
 have HAR := hid (fun z (hz : Below W.heap.size W z) => areStates_any S3 ha hcap l u.len z ((hi.below hWb).below hz))
 rw [hall] at HAR
 have HIM := hid (fun z (hz : Below W.heap.size W z) => images_any S S' S3 f a na ha cap ncap hcap t l z ((hs.below hWb).below hz) ((hv.below hWb).below hz) ((hk.below hWb).below hz) ((hi.below hWb).below hz) hy1 hm (all_lt100 hall hn2))
 have HV2 := hid (hv2.below hWb)
 have HI := hid (hi.below hWb)
 have HALL := hid hall
 have HLM := hid hm
 rw [hm] at HAR HIM ⊢
 obtain ⟨N, hN⟩ : ∃ N, N = t.len := ⟨_, rfl⟩
 obtain ⟨M, hM⟩ : ∃ M, M = u.len := ⟨_, rfl⟩
 rw [← hN] at HBO HAR HIM HE hn1 ⊢
 rw [← hM] at HBO HAR HE hn2 ⊢
 rw [← hN, ← hM] at hW
 have HN := hid hN
 have HM := hid hM
 obtain ⟨⟨c0, c1, c2, c3⟩, d0, d1, d2, d3⟩ := HE.out _ (Below.refl _ _)
 clear hs hv hs2 hv2 hk hi hbo hm hall hy1 hy2 hg hWb k0 k1 hN hM
 go_enter Tryz.func17, Tryz.ntmps17
 go_upto_region 1 with (fail)
 rw [← hW, ← hB]
 clear hW hB
 go_wp2_with fail
 refine (HBO.out _ (Below.refl _ _)).mono ?_
 rintro e w1 ⟨rfl, hb1⟩
 have HB1 := hid hb1
 clear c0 c1 c2 c3 d0 d1 d2 d3
 obtain ⟨⟨c0, c1, c2, c3⟩, d0, d1, d2, d3⟩ := HE.out _ hb1
 clear hb1
 go_wp2_with fail
 refine (HAR.out _ HB1.out).mono ?_
 rintro e w2 ⟨rfl, hb2⟩
 have HB2 := hid (HB1.out.trans (hb2.mono HB1.out.size))
 clear c0 c1 c2 c3 d0 d1 d2 d3 hb2
 obtain ⟨⟨c0, c1, c2, c3⟩, d0, d1, d2, d3⟩ := HE.out _ HB2.out
 go_wp2_with fail
 refine (HIM.out _ HB2.out).mono ?_
 rintro e w3 ⟨ra, rcap, rfl, hrv, hb3⟩
 have HB3 := hid (HB2.out.trans (hb3.mono HB2.out.size))
 have HRV := hid hrv
 clear c0 c1 c2 c3 d0 d1 d2 d3 hb3 hrv
 go_wp2_with fail
 go_loopw [9, 10, 35] (fun _ _ i wr => ∃ j : Nat, j ≤ N ∧ i = .int .i64 j ∧ (∀ x, x < j → mapE (toH l) f (t.el x) = u.el (l.getD x 0).toNat) ∧ Below w3.heap.size w3 wr) (fun _ _ i _ => N - (intOf i).toNat)
 case atStart => exact ⟨0, Nat.zero_le _, rfl, fun x h => absurd h (by omega), Below.refl _ _⟩
 case round =>
  obtain ⟨j, hj, rfl, hno, hb⟩ := hrel
  have HNO := hid hno
  have HBB := hid hb
  have HBW := hid (HB3.out.trans (hb.mono HB3.out.size))
  clear hno
  by_cases hlt : j < N
  ·have hjt : j < t.len := by rw [← HN.out]; exact hlt
   have hjl : j < l.length := by rw [HLM.out]; exact hjt
   obtain ⟨xb, xo, xa, xc, xd, xe, rfl, _, x0, x1, x2, hxv, hxi⟩ := (HRV.out.below hb).el (i := j) (by rw [mapL_len]; exact hjt)
   rw [mapL_el _ _ _ _ hjt] at x0 x1 x2 hxv hxi
   obtain ⟨hb0, ho, rfl, y0⟩ := (HI.out.below HBW.out).get hjl
   have hyb := all_at HALL.out hjl
   obtain ⟨y, hy⟩ : ∃ y : Nat, l[j] = (y : Int) := ⟨l[j].toNat, by omega⟩
   rw [hy] at y0 hyb
   have hgd : (l.getD j 0).toNat = y := by simp [List.getD, List.getElem?_eq_getElem hjl, hy]
   have hyu : y < u.len := by omega
   obtain ⟨ub, uo, ua, uc, ud, ue, rfl, _, u0, u1, u2, huv, hui⟩ := (HV2.out.below HBW.out).el (i := y) hyu
   obtain ⟨p, hp⟩ : ∃ p, p = mapE (toH l) f (t.el j) := ⟨_, rfl⟩
   obtain ⟨q, hq⟩ : ∃ q, q = u.el y := ⟨_, rfl⟩
   rw [← hp] at x0 x1 x2 hxv hxi
   rw [← hq] at u0 u1 u2 huv hui
   obtain ⟨pn, pk, pw⟩ := p
   obtain ⟨qn, qk, qw⟩ := q
   simp only at x0 x1 x2 hxv hxi u0 u1 u2 huv hui
   obtain ⟨X, hX⟩ : ∃ X : World, X = wr.alloc (Obj.cells #[.int .i64 pn, .slice xa pk.len xc, .slice xd pw.length xe] 58) := ⟨_, rfl⟩
   obtain ⟨vb, hvb⟩ : ∃ vb, vb = wr.heap.size := ⟨_, rfl⟩
   have hXb : X.heap[vb]? = some (Obj.cells #[.int .i64 pn, .slice xa pk.len xc, .slice xd pw.length xe] 58 (0, 0)) := by rw [hX, hvb]; exact heap_new _ _
   have hwX : Below wr.heap.size wr X := by rw [hX]; exact ba _ _
   have HXW := hid (HBW.out.trans (hwX.mono HBW.out.size))
   have HX3 := hid (hb.trans (hwX.mono hb.size))
   have HCL := hid (fun z (hz : Below X.heap.size X z) => svalue_any pn qn pk qk pw qw _ _ xa ua xd ud xc uc xe ue z ((hxv.below hwX).below hz) ((hxi.below hwX).below hz) ((huv.below hwX).below hz) ((hui.below hwX).below hz))
   obtain ⟨b, hbq⟩ : ∃ b : Bool, b = decide ((pn, pk, pw) = (qn, qk, qw)) := ⟨_, rfl⟩
   rw [← hbq] at HCL
   have HEQ := hid (show b = true ↔ mapE (toH l) f (t.el j) = u.el (l.getD j 0).toNat by rw [hgd, ← hp, ← hq, hbq, decide_eq_true_eq])
   have y1 := cell_below hwX y0
   have v0 := cell_below hwX u0
   have v1 := cell_below hwX u1
   have v2 := cell_below hwX u2
   obtain ⟨p0, p1, p2⟩ := cells_of hXb
   obtain ⟨_, d0, d1, d2, d3⟩ := HE.out _ HXW.out
   have HZ := hid (fun z (hz : Below X.heap.size X z) => (show _ ∧ _ ∧ _ ∧ _ ∧ _ ∧ _ ∧ _ ∧ _ from ⟨cell_below hz y1, cell_below hz v0, cell_below hz v1, cell_below hz v2, cell_below hz p0, cell_below hz p1, cell_below hz p2, cell_below hz d3⟩))
   have hyM : (y : Int) < (M : Int) := by have := HM.out; omega
   have hjN : (j : Int) < (N : Int) := by omega
   clear hjt hjl hxv hxi hyb hy hgd hyu huv hui hp hq hXb hwX hbq hb y0 u0 u1 u2 y1 v0 v1 v2 p0 p1 p2 d0 d1 d2 d3
   go_upto_region 9 with (fail)
   rw [← hX, ← hvb]
   clear hX hvb x0 x1 x2
   refine wp_region_plan (by rfl) (fun z : World => Below X.heap.size X z)
    [some (Vv pn xa pk.len xc xd pw.length xe), some (.pointer (some ⟨B + 1, 3, none⟩)), some (.slice (some ⟨ub, uo, none⟩) M ncap2), some (.slice (some ⟨hb0, ho, none⟩) N hcap), some (.int .i64 (j : Int)), some (.pointer (some ⟨hb0, ho + j, none⟩)), some (.int .i64 (y : Int)), some (.pointer (some ⟨ub, uo + y * 3, none⟩)), some (Vv qn ua qk.len uc ud qw.length ue), some (.bool b), some (.bool (!b))] ?aF ?haF _ rfl (by kernel_rfl) (Below.refl _ _).drew ?hall ?hend
   case haF => (simp only [layAll, Act.put, Option.getD_some, List.setIfInBounds_toArray, List.set_cons_zero, List.set_cons_succ]; rfl)
   case hall =>
    repeat (first | (refine Steps.cons (v := none) rfl ?_) | (refine Steps.cons ⟨rfl, fun K z hS hK => ?_⟩ ?_; rotate_left))
    ·exact Steps.nil
    all_goals
     obtain ⟨g0, g1, g2, g3, g4, g5, g6, g7⟩ := HZ.out z hS
     first
     | (go_simp; exact hK _ hS)
     | (go_simp; refine callAt (args' := #[Vv pn xa pk.len xc xd pw.length xe, Vv qn ua qk.len uc ud qw.length ue]) rfl ?_; refine (HCL.out z hS).mono ?_; rintro e z2 ⟨rfl, hz2⟩; exact hK _ (hS.trans (hz2.mono hS.size)))
   case hend =>
    intro Y hY
    have HY3 := hid (HX3.out.trans (hY.mono HX3.out.size))
    have HYW := hid (HXW.out.trans (hY.mono HXW.out.size))
    clear hY
    cases b with
    | true =>
     have HS := hid (show ∀ x, x < j + 1 → mapE (toH l) f (t.el x) = u.el (l.getD x 0).toNat by
      intro x hx
      by_cases hxj : x = j
      ·subst hxj; exact HEQ.out.1 rfl
      ·exact HNO.out x (by omega))
     go_wp2_with fail
     go_roundw
     case rel => exact ⟨j + 1, by omega, by go_num, HS.out, HY3.out⟩
     case measure => simp [intOf]; omega
    | false =>
     go_wp2_with fail
     go_ret2
     exact ⟨false, rfl, ⟨(fun h => by cases h), fun h => absurd (HEQ.out.2 (h j (by have := HN.out; omega))) (by simp)⟩, HWB.out.trans (HYW.out.mono HWB.out.size)⟩
  ·obtain rfl : j = N := by omega
   clear hb
   go_wp2_with fail
   go_ret2
   exact ⟨true, rfl, ⟨(fun _ x hx => HNO.out x hx), fun _ => rfl⟩, HWB.out.trans (HBW.out.mono HWB.out.size)⟩
end Go.Proofs.YtcekilcgpgjooaaGreatDoor
