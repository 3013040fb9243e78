/- Proved here: contracts of the walk to BisimGraphs: the reference's normal, given its Merged; each under the conditions that its own statement names. -/
import Derived.Test.YtcekilcgpgjooaaGreatDoorG16
import Derived.Deep.CutRange
set_option maxRecDepth 100000
set_option maxHeartbeats 40000000
namespace Go.Proofs.YtcekilcgpgjooaaGreatDoor
open Go.RowKit
open Go.Lib (hid)
def NormPost (r : Option (V × List Int)) (n : Int) (w : World) (e : Ending) (w' : World) : Prop :=
 Below w.heap.size w w' ∧ match r with
 | none => e = .returned (.tuple #[.agg #[.int .i64 0, .slice none 0 0, .slice none 0 0], .bool false])
 | some p => ∃ a c cap cp, e = .returned (.tuple #[Vv n a p.1.len cap c p.2.length cp, .bool true]) ∧ Vl (fun b => w.heap.size ≤ b) w' a p.1 ∧ Ints (fun b => w.heap.size ≤ b) w' c p.2
def NormOk (t : V) : Prop := ∀ (S : Nat → Nat → Prop) (S' : Nat → Prop) (f : F) (a a' c : Option Addr) (cap cap' cp : Nat) (n m : Int) (ws : List Int) (w : World), Sl S w a f.t → f.t.len ≤ cap → Vl S' w a' t → Ints S' w c ws → f.good = true → -1000 ≤ m → m ≤ 1000 → t.count ≤ 100000 →
 Calls Tryz.prog 123 #[f.val a cap, .int .i64 m, Vv n a' t.len cap' c ws.length cp] w (NormPost (nrm m f n t ws) n w)
theorem V.len_count (t : V) : t.len ≤ t.count := by
 induction t with
 | nil => simp [V.len]
 | cons n k ws r _ ih => simp only [V.len, V.count]; omega
theorem cell_set3 {u : World} {b k o : Nat} {x0 x1 x2 v : Value} (h : u.cell? ⟨k, o, none⟩ = some v) (hne : k ≠ b) :
    (((u.setCell ⟨b, 0, none⟩ x0).setCell ⟨b, 1, none⟩ x1).setCell ⟨b, 2, none⟩ x2).cell? ⟨k, o, none⟩ = some v := by
 rw [World.cell?_of_block (w := u) (a := ⟨k, o, none⟩) (store3_far hne)]; exact h
theorem ints_in {lo ob g cg : Nat} {w : World} {ws : List Int} {n : Nat} (hn : ws.length ≤ 9223372036854775807) (ho : w.ownsRow lo 3 1 (.slice (some ⟨g, 0, none⟩) (0 + ws.length) cg) n ([] ++ ws.map (Value.int .i64))) (hne : g ≠ ob) : Ints (fun b => lo ≤ b ∧ b ≠ ob) w (some ⟨g, 0, none⟩) ws := by
 refine ⟨hn, Or.inr ⟨g, 0, rfl, ?_, fun j u hj => ?_⟩⟩
 ·rcases ho.2 with ⟨hv, _⟩ | ⟨g', cap, cur, hv, hb, _⟩
  ·cases hv
  ·simp only [Value.slice.injEq, Option.some.injEq, Addr.mk.injEq] at hv
   obtain ⟨⟨rfl, _⟩, _⟩ := hv
   exact ⟨hb, hne⟩
 ·have := ho.cells (g := g) rfl j (.int .i64 u) (by simp [hj])
  have hadd : (⟨g, 0, none⟩ : Addr).add j = ⟨g, j, none⟩ := by unfold Addr.add; split <;> simp_all
  rw [hadd] at this
  rwa [Nat.zero_add]
def OutS (lo ob : Nat) (v : Value) : Nat → Prop := fun b => lo ≤ b ∧ b ≠ ob ∧ some b ≠ v.ownBlock
def ElemAt (lo : Nat) (rr : Option (V × List Int)) (n : Int) (X : World) (s13 s14 : Value) (wx : World) : Prop := Below X.heap.size X wx ∧ match rr with
 | none => s14 = .bool false
 | some p => s14 = .bool true ∧ ∃ xb a c cap cp, s13 = .pointer (some ⟨xb, 0, none⟩) ∧ wx.heap[xb]? = some (.cells #[.int .i64 n, .slice a p.1.len cap, .slice c p.2.length cp] 58 (0, 0)) ∧ Vl (fun b => lo ≤ b) wx a p.1 ∧ Ints (fun b => lo ≤ b) wx c p.2
theorem vl_step {P : Nat → Prop} {lo ob : Nat} {v v' : Value} {wx w5 : World} {O : Obj} {a : Option Addr} {u : V} (h : Vl P wx a u) (hP : ∀ b, P b → b < wx.heap.size → OutS lo ob v b)
    (hgr : (wx.alloc O).grownBy w5 v.ownBlock) (hat : v'.ownBlock = v.ownBlock ∨ v'.ownBlock = some (wx.alloc O).heap.size) (y : Value) : Vl (OutS lo ob v') (w5.setCell ⟨ob, 1, none⟩ y) a u := by
 have h1 := h.lt.below ((Below.refl wx.heap.size wx).alloc (Nat.le_refl _) O)
 have h2 : Vl (fun b => P b ∧ b < wx.heap.size) w5 a u := h1.grown hgr (fun b hb _ => ⟨hb, (hP b hb.1 hb.2).2.2⟩)
 refine h2.mono (fun b hb => ?_) (fun b hb _ => Below.heap_setCell _ _ _ _ (hP b hb.1 hb.2).2.1)
 have h3 := hP b hb.1 hb.2
 refine ⟨h3.1, h3.2.1, ?_⟩
 rcases hat with e | e
 ·rw [e]; exact h3.2.2
 ·rw [e]; intro h4; have := Option.some.inj h4; simp at this; omega
theorem ints_step {P : Nat → Prop} {lo ob : Nat} {v v' : Value} {wx w5 : World} {O : Obj} {a : Option Addr} {u : List Int} (h : Ints P wx a u) (hP : ∀ b, P b → b < wx.heap.size → OutS lo ob v b)
    (hgr : (wx.alloc O).grownBy w5 v.ownBlock) (hat : v'.ownBlock = v.ownBlock ∨ v'.ownBlock = some (wx.alloc O).heap.size) (y : Value) : Ints (OutS lo ob v') (w5.setCell ⟨ob, 1, none⟩ y) a u := by
 have h1 := h.lt.below ((Below.refl wx.heap.size wx).alloc (Nat.le_refl _) O)
 have h2 : Ints (fun b => P b ∧ b < wx.heap.size) w5 a u := h1.grown hgr (fun b hb _ => ⟨hb, (hP b hb.1 hb.2).2.2⟩)
 refine h2.mono (fun b hb => ?_) (fun b hb _ => Below.heap_setCell _ _ _ _ (hP b hb.1 hb.2).2.1)
 have h3 := hP b hb.1 hb.2
 refine ⟨h3.1, h3.2.1, ?_⟩
 rcases hat with e | e
 ·rw [e]; exact h3.2.2
 ·rw [e]; intro h4; have := Option.some.inj h4; simp at this; omega
def OutAt (lo : Nat) (n : Int) (ws : List Int) (W : World) (s : Value) (wx : World) : Prop := ∃ ob c cp, s = .pointer (some ⟨ob, 0, none⟩) ∧ lo ≤ ob ∧ wx.heap[ob]? = some (.cells #[.int .i64 n, .slice none 0 0, .slice c ws.length cp] 58 (0, 0)) ∧ Ints (fun b => lo ≤ b ∧ b ≠ ob) wx c ws ∧ Below W.heap.size W wx
theorem weighsR_len {k : Int} {len : Nat} {ws : List Int} (h : weighsR k len ws = true) : ws.length ≤ len := by
 unfold weighsR at h
 split at h
 ·simp only [Bool.and_eq_true, decide_eq_true_eq] at h; omega
 ·simp only [decide_eq_true_eq] at h; omega
theorem norm_any (HM : MergedOk) : ∀ t : V, NormOk t := by
 refine V.ind ?_
 intro t ih S S' f a a' c cap cap' cp n m ws w hs hc hv hi hg hm0 hm1 hct
 obtain ⟨W, hW⟩ : ∃ W : World, W = ((w.alloc (Obj.cells #[.int .i64 f.k, .int .i64 f.n, Value.slice a f.t.len cap] 24)).alloc (Obj.cells #[.int .i64 n, Value.slice a' t.len cap', Value.slice c ws.length cp] 58)).alloc (Obj.cells #[.int .i64 0, Value.slice none 0 0, Value.slice none 0 0] 58) := ⟨_, rfl⟩
 have hWb : Below w.heap.size w W := by rw [hW]; exact (ba2 _ _ _).alloc (by simp; omega) _
 have hWs : W.heap.size = w.heap.size + 3 := by rw [hW]; simp
 have g0 : W.heap[w.heap.size]? = some (Obj.cells #[.int .i64 f.k, .int .i64 f.n, Value.slice a f.t.len cap] 24 (0, 0)) := by rw [hW, Below.heap_alloc _ _ _ (by simp; omega)]; exact heap_old2 _ _ _
 have g1 : W.heap[w.heap.size + 1]? = some (Obj.cells #[.int .i64 n, Value.slice a' t.len cap', Value.slice c ws.length cp] 58 (0, 0)) := by rw [hW, Below.heap_alloc _ _ _ (by simp)]; exact heap_new2 _ _ _
 have g2 : W.heap[w.heap.size + 2]? = some (Obj.cells #[.int .i64 0, Value.slice none 0 0, Value.slice none 0 0] 58 (0, 0)) := by rw [hW]; exact look_new (by simp) rfl
 have HE := hid (fun x (hx : Below W.heap.size W x) => And.intro (cells_of (show x.heap[w.heap.size]? = _ by rw [hx.block _ (by omega)]; exact g0)) (cells_of (show x.heap[w.heap.size + 1]? = _ by rw [hx.block _ (by omega)]; exact g1)))
 have HR := hid (fun x (hx : Below W.heap.size W x) => (show x.heap[w.heap.size + 2]? = some (Obj.cells #[.int .i64 0, Value.slice none 0 0, Value.slice none 0 0] 58 (0, 0)) by rw [hx.block _ (by omega)]; exact g2))
 have hsW := hs.below hWb
 have hvW := hv.below hWb
 have hiW := hi.below hWb
 have hlen := hv.1
 have hlw := hi.1
 have hlc := V.len_count t
 have IH := hid ih
 have hfn := F.good_n hg
 obtain ⟨r, hr⟩ : ∃ r, r = nrm m f n t ws := ⟨_, rfl⟩
 rw [← hr]
 unfold nrm at hr
 have HRR := hid hr
 clear hr ih hs hv hi g0 g1 g2
 obtain ⟨⟨c0, c1, c2⟩, e0, e1, e2⟩ := HE.out _ (Below.refl _ _)
 go_enter Tryz.func123, Tryz.ntmps123
 go_wp2_with fail
 rw [← hW]
 clear hW
 refine (parts_any S f a a' c cap cap' cp n t.len ws.length W hsW hc hg (by omega)).mono ?_
 rintro e w1 ⟨pt, pa, pc, rfl, hps, hb1, hpg⟩
 have HPG := hid hpg
 have HPS := hid hps
 clear hpg hps c0 c1 c2 e0 e1 e2
 obtain ⟨⟨c0, c1, c2⟩, e0, e1, e2⟩ := HE.out _ hb1
 cases hpo : partsOk f n t.len
 ·have HF := hid (show r = none by rw [HRR.out]; unfold rFields; rw [hpo]; rfl)
  obtain ⟨r0, r1, r2⟩ := cells_of (HR.out _ hb1)
  have rz : ∀ i, w1.frozen? ⟨w.heap.size + 2, i, none⟩ = false := fun i => frozen_of (HR.out _ hb1)
  clear hpo
  go_wp2_with fail
  obtain ⟨z0, z1, z2⟩ := cells_of (store3 (x0 := .int .i64 0) (x1 := .slice none 0 0) (x2 := .slice none 0 0) (HR.out _ hb1) rfl)
  refine bodyPost_ret (v := .tuple #[.agg #[.int .i64 0, .slice none 0 0, .slice none 0 0], .bool false]) (by simp [results, Tryz.results123, go_sem, z0, z1, z2]) rfl ?_
  refine ⟨(((hWb.trans (hb1.mono hWb.size)).setCell (by simp; omega) _).setCell (by simp; omega) _).setCell (by simp; omega) _, ?_⟩
  rw [HF.out]
 have hrf : rFields f m n t.len ws = (numOk f m n && weighsR f.k t.len ws) := by unfold rFields; rw [hpo]; rfl
 have HRF := hid hrf
 have HPO := hid hpo
 clear hpo hrf
 go_wp2_with fail
 refine (number_any f a a' c cap cap' cp m n t.len ws.length w1 hm0 hm1 (by omega) (by omega)).mono ?_
 rintro e w2 ⟨rfl, hb2⟩
 have hb12 := hb1.trans (hb2.mono hb1.size)
 clear c0 c1 c2 e0 e1 e2
 obtain ⟨⟨c0, c1, c2⟩, e0, e1, e2⟩ := HE.out _ hb12
 cases hno : numOk f m n
 ·have HF := hid (show r = none by rw [HRR.out, HRF.out, hno]; rfl)
  obtain ⟨r0, r1, r2⟩ := cells_of (HR.out _ hb12)
  have rz : ∀ i, w2.frozen? ⟨w.heap.size + 2, i, none⟩ = false := fun i => frozen_of (HR.out _ hb12)
  clear hno
  go_wp2_with fail
  obtain ⟨z0, z1, z2⟩ := cells_of (store3 (x0 := .int .i64 0) (x1 := .slice none 0 0) (x2 := .slice none 0 0) (HR.out _ hb12) rfl)
  refine bodyPost_ret (v := .tuple #[.agg #[.int .i64 0, .slice none 0 0, .slice none 0 0], .bool false]) (by simp [results, Tryz.results123, go_sem, z0, z1, z2]) rfl ?_
  refine ⟨(((hWb.trans (hb12.mono hWb.size)).setCell (by simp; omega) _).setCell (by simp; omega) _).setCell (by simp; omega) _, ?_⟩
  rw [HF.out]
 go_wp2_with fail
 refine (weighedRef_any S' f.k a' c cap' cp n t.len ws w2 (hiW.below hb12)).mono ?_
 rintro e w3 ⟨rfl, hb3⟩
 have hb13 := hb12.trans (hb3.mono hb12.size)
 clear c0 c1 c2 e0 e1 e2
 obtain ⟨⟨c0, c1, c2⟩, e0, e1, e2⟩ := HE.out _ hb13
 cases hwo : weighsR f.k t.len ws
 ·have HF := hid (show r = none by rw [HRR.out, HRF.out, hno, hwo]; rfl)
  obtain ⟨r0, r1, r2⟩ := cells_of (HR.out _ hb13)
  have rz : ∀ i, w3.frozen? ⟨w.heap.size + 2, i, none⟩ = false := fun i => frozen_of (HR.out _ hb13)
  clear hno hwo
  go_wp2_with fail
  obtain ⟨z0, z1, z2⟩ := cells_of (store3 (x0 := .int .i64 0) (x1 := .slice none 0 0) (x2 := .slice none 0 0) (HR.out _ hb13) rfl)
  refine bodyPost_ret (v := .tuple #[.agg #[.int .i64 0, .slice none 0 0, .slice none 0 0], .bool false]) (by simp [results, Tryz.results123, go_sem, z0, z1, z2]) rfl ?_
  refine ⟨(((hWb.trans (hb13.mono hWb.size)).setCell (by simp; omega) _).setCell (by simp; omega) _).setCell (by simp; omega) _, ?_⟩
  rw [HF.out]
 have HRN := hid (show r = (nrmL m t f n 0).map (fun ks => fin f ks ws) by rw [HRR.out, HRF.out, hno, hwo]; rfl)
 have HVF := hid (show vFields f m n t.len ws = true by rw [← rFields_eq hg, HRF.out, hno, hwo]; rfl)
 have HWO := hid hwo
 clear hno hwo
 go_wp2_with fail
 have hbd : Below w3.heap.size w3 w3.drew := (Below.refl _ _).drew
 have hi3 := hiW.below hb13
 obtain ⟨i0, hti, hz0, hz1, hz2⟩ := info_parts infoI
 have hs3 := hb13.size
 have hwm : ws.length ≤ 1000000 := by have := weighsR_len HWO.out; omega
 have hsw := hWb.size
 go_cut [10] from 38 to 43 (fun s10 wx => OutAt w3.heap.size n ws w3 s10 wx)
 case rest =>
  obtain ⟨ob, oc, ocp, rfl, hob, hox, hio, hbo⟩ := hcut
  clear c0 c1 c2 e0 e1 e2
  obtain ⟨⟨c0, c1, c2⟩, e0, e1, e2⟩ := HE.out _ (hb13.trans (hbo.mono hs3))
  go_wp2_with fail
  go_loopw [47] (fun i wr => ∃ (j : Nat) (v : Value) (xs : List Value) (ks : V), j ≤ t.len ∧ i = .int .i64 j ∧ wr.heap[ob]? = some (.cells #[.int .i64 n, v, .slice oc ws.length ocp] 58 (0, 0)) ∧
   wr.ownsRow w3.heap.size 58 3 v j xs ∧ ks.Row (OutS w3.heap.size ob v) wr xs ∧ ks.len = j ∧ nrmL m t f n 0 = (nrmL m (t.drop j) f n j).map ks.app ∧ (v.ownBlock ≠ some ob ∧ Ints (OutS w3.heap.size ob v) wr oc ws) ∧ Below w3.heap.size w3 wr) (fun i _ => t.len - (intOf i).toNat)
  case atStart => exact ⟨0, _, [], .nil, Nat.zero_le _, rfl, hox, World.ownsRow_nil _ _ _ _, rfl, rfl, by simp [V.app], ⟨by simp [Value.ownBlock], hio.weaken (fun b h => ⟨h.1, h.2, by simp [Value.ownBlock]⟩)⟩, hbo⟩
  case round =>
   obtain ⟨j, v, xs, ks, hj, rfl, hobr, hown, hrow, hkl, hnr, hio', hb⟩ := hrel
   have HOWN := hid hown
   have HROW := hid hrow
   have HKL := hid hkl
   have HNR := hid hnr
   have HIO := hid hio'
   have HOBR := hid hobr
   clear hown hrow hkl hnr hio' hobr
   by_cases hlt : j < t.len
   ·obtain ⟨b, o, rfl, hat⟩ := hvW.addr hlt
    obtain ⟨n1, k1, ws1, r1, hd, hd1⟩ := V.drop_lt hlt
    obtain ⟨d0, ⟨a1, cap1, d1, hv1⟩, ⟨c1', cp1, d2, hi1⟩⟩ := hat.get hd
    have hbW := hb13.trans (hb.mono hs3)
    have hb1r := (hb2.trans (hb3.mono hb2.size)).trans (hb.mono (hb2.trans (hb3.mono hb2.size)).size)
    replace d0 := cell_below hbW d0
    replace d1 := cell_below hbW d1
    replace d2 := cell_below hbW d2
    have hpl := (HPG.out HPO.out).1
    have hpj : j < pt.len := by omega
    clear hpl
    obtain ⟨pb, po, rfl, hpat⟩ := HPS.out.addr hpj
    obtain ⟨gk, gn, gt, grest, hgd, _⟩ := T.drop_lt hpj
    obtain ⟨_, p0, p1, ga, gcap, p2, hgs, hgc⟩ := hpat.getc hgd
    have hgg : f.part n j = ⟨gk, gn, gt⟩ := by rw [← (HPG.out HPO.out).2 j hlt]; exact T.get_drop _ _ _ _ _ _ hgd
    have hb3j := Nat.mul_comm 3 j
    rw [hb3j] at p0 p1 p2
    replace p0 := cell_below hb1r p0
    replace p1 := cell_below hb1r p1
    replace p2 := cell_below hb1r p2
    have hkc := count_le t j
    have hkc2 := count_step hd hd1
    have hgp := good_part hg HVF.out hlt
    rw [hgg] at hgp
    have hgs2 := hgs.below hb1r
    have hv2 := hv1.below hbW
    have hi2 := hi1.below hbW
    have hst : nrmL m (t.drop j) f n j = (nrm m ⟨gk, gn, gt⟩ n1 k1 ws1).bind (fun p => (nrmL m (t.drop (j + 1)) f n (j + 1)).map (fun rs => .cons n1 p.1 p.2 rs)) := by rw [hd, nrmL_cons, hgg, hd1]
    have HST := hid hst
    obtain ⟨X, hX⟩ : ∃ X : World, X = wr.alloc (Obj.cells #[.int .i64 n1, Value.slice a1 k1.len cap1, Value.slice c1' ws1.length cp1] 58) := ⟨_, rfl⟩
    have hXb : Below wr.heap.size wr X := by rw [hX]; exact ba _ _
    have hXs : X.heap.size = wr.heap.size + 1 := by rw [hX]; simp
    have hXx : X.heap[wr.heap.size]? = some (Obj.cells #[.int .i64 n1, Value.slice a1 k1.len cap1, Value.slice c1' ws1.length cp1] 58 (0, 0)) := by rw [hX]; exact heap_new _ _
    obtain ⟨y0, y1, y2⟩ := cells_of hXx
    have HI := hid (fun x (hx : Below X.heap.size X x) => IH.out j n1 k1 ws1 r1 hd (fun b o => S b o ∨ W.heap.size ≤ b) S' ⟨gk, gn, gt⟩ ga a1 c1' gcap cap1 cp1 n1 m ws1 x ((hgs2.below hXb).below hx) hgc ((hv2.below hXb).below hx) ((hi2.below hXb).below hx) hgp hm0 hm1 (by omega))
    obtain ⟨rr, hrr⟩ : ∃ rr, rr = nrm m ⟨gk, gn, gt⟩ n1 k1 ws1 := ⟨_, rfl⟩
    rw [← hrr] at HI HST
    have hp0 := cell_below hXb p0
    have hp1 := cell_below hXb p1
    have hp2 := cell_below hXb p2
    have hbd : Below X.heap.size X X.drew := (Below.refl _ _).drew
    clear hrr hst hd hgg hd1 hgs hv1 hi1 hat hpat hgs2 hv2 hi2
    go_wp2_with fail
    rw [← hX]
    clear hX
    go_cut [13, 14, 47] from 47 to 71 (fun s13 s14 i wx => ElemAt wr.heap.size rr n1 X s13 s14 wx ∧ i = .int .i64 j)
    case rest =>
     obtain ⟨⟨hbx, hel⟩, rfl⟩ := hcut
     have hbr := hXb.trans (hbx.mono hXb.size)
     have hbw := hb.trans (hbr.mono hb.size)
     have hbWw := hb13.trans (hbw.mono hs3)
     have hsr := hbr.size
     have hs3r := hb.size
     have hobl := heap_lt HOBR.out
     cases rr with
     | none =>
      obtain rfl := hel
      have HF := hid (show r = none by rw [HRN.out, HNR.out, HST.out]; rfl)
      obtain ⟨r0, r1, r2⟩ := cells_of (HR.out _ hbWw)
      have rz : ∀ i, World.frozen? _ ⟨w.heap.size + 2, i, none⟩ = false := fun i => frozen_of (HR.out _ hbWw)
      go_wp2_with fail
      obtain ⟨z0, z1, z2⟩ := cells_of (store3 (x0 := .int .i64 0) (x1 := .slice none 0 0) (x2 := .slice none 0 0) (HR.out _ hbWw) rfl)
      refine bodyPost_ret (v := .tuple #[.agg #[.int .i64 0, .slice none 0 0, .slice none 0 0], .bool false]) (by simp [results, Tryz.results123, go_sem, z0, z1, z2]) rfl ?_
      refine ⟨(((hWb.trans (hbWw.mono hWb.size)).setCell (by simp; omega) _).setCell (by simp; omega) _).setCell (by simp; omega) _, ?_⟩
      rw [HF.out]
     | some p =>
      obtain ⟨rfl, xb, a5, c5, cap5, cp5, rfl, hxb, hv5, hi5⟩ := hel
      obtain ⟨i1, ui, uz0, uz1, uz2⟩ := info_parts infoV
      obtain ⟨x0, x1, x2⟩ := cells_of hxb
      have hoc : wc.heap[ob]? = some (.cells #[.int .i64 n, v, .slice oc ws.length ocp] 58 (0, 0)) := by rw [hbr.block _ hobl]; exact HOBR.out
      obtain ⟨o0, o1, o2⟩ := cells_of hoc
      have hoz := frozen_of (o := 1) hoc
      have HOC := hid hoc
      have hown6 : wc.ownsRow w3.heap.size 58 3 v j xs := HOWN.out.kept (grown_below hbr none) (by cases v.ownBlock <;> simp)
      have HOWN6 := hid hown6
      have hvl := hown6.lt
      have hvl0 := HOWN.out.lt
      obtain ⟨O, hO⟩ : ∃ O : Obj, O = .cells #[.int .i64 n1, .slice a5 p.1.len cap5, .slice c5 p.2.length cp5] 58 := ⟨_, rfl⟩
      have hbx2 : Below wc.heap.size wc (wc.alloc O) := ba _ _
      obtain ⟨u0, u1, u2⟩ := cells_of (show (wc.alloc O).heap[wc.heap.size]? = some (.cells #[.int .i64 n1, .slice a5 p.1.len cap5, .slice c5 p.2.length cp5] 58 (0, 0)) by rw [hO]; exact heap_new _ _)
      have HX := hid (show ∀ i u, [Value.int IntKind.i64 n1, Value.slice a5 p.1.len cap5, Value.slice c5 p.2.length cp5][i]? = some u → (wc.alloc O).cell? ((⟨wc.heap.size, 0, none⟩ : Addr).add i) = some u from (by
       intro i u hu
       match i, hu with
       | 0, hu => simp at hu; subst hu; exact u0
       | 1, hu => simp at hu; subst hu; exact u1
       | 2, hu => simp at hu; subst hu; exact u2))
      have hjb : j ≤ 100000 := by omega
      clear u0 u1 u2 hown6 hoc hxb
      have HO := hid hO
      rw [hO] at HX
      clear hO
      go_wp2_with (at_builtin; refine wpList_append_own_at _ rfl _ _ 25 rfl w3.heap.size 58 i1 (.agg #[.int .i64 0, .slice none 0 0, .slice none 0 0]) 3 56 Tryz.underlying25 ui uz0 uz1 uz2 rfl (by decide) _ _ _ rfl (HOWN6.out.alloc _) ⟨wc.heap.size, 0, none⟩ 1 1 [.int .i64 n1, .slice a5 p.1.len cap5, .slice c5 p.2.length cp5] rfl rfl HX.out (by simp [Value.oneCell']) (by unfold maxLen; omega) (by omega) (by simp; omega) ?_)
      intro v' w5 hown5 hgr _ hat
      have hv' : ∃ g cap', v' = .slice (some ⟨g, 0, none⟩) (j + 1) cap' := by
       rcases hown5.2 with ⟨_, h⟩ | ⟨g, cap', _, h, _⟩
       ·omega
       ·exact ⟨g, cap', h⟩
      obtain ⟨g5, cap6, rfl⟩ := hv'
      rw [← HO.out] at hgr
      replace hat : (Value.slice (some ⟨g5, 0, none⟩) (j + 1) cap6).ownBlock = v.ownBlock ∨ (Value.slice (some ⟨g5, 0, none⟩) (j + 1) cap6).ownBlock = some (wc.alloc O).heap.size := by simpa using hat
      have hvob := HIO.out.1
      have hob5 : w5.heap[ob]? = some (.cells #[.int .i64 n, v, .slice oc ws.length ocp] 58 (0, 0)) := by
       rw [hgr.block ob (by simp; omega) (fun e => hvob e.symm), hbx2.block ob (by omega)]; exact HOC.out
      have hz5 := frozen_of (o := 1) hob5
      obtain ⟨_, q1, _⟩ := cells_of hob5
      have hv'ob : (Value.slice (some ⟨g5, 0, none⟩) (j + 1) cap6).ownBlock ≠ some ob := by
       rcases hat with e | e
       ·rw [e]; exact hvob
       ·rw [e]; intro h; have := Option.some.inj h; simp at this; omega
      have hgw : w5.grownBy (w5.setCell ⟨ob, 1, none⟩ (.slice (some ⟨g5, 0, none⟩) (j + 1) cap6)) (some ob) := ⟨rfl, rfl, rfl, by simp [World.setCell], fun k _ hk => Below.heap_setCell _ _ _ _ (fun e => hk (by rw [e]))⟩
      have hown7 := hown5.kept hgw (Or.inr hv'ob)
      have hOS : ∀ b, OutS w3.heap.size ob v b → b < wc.heap.size → OutS w3.heap.size ob v b := fun b h _ => h
      have hON : ∀ b, wr.heap.size ≤ b → b < wc.heap.size → OutS w3.heap.size ob v b := fun b h _ => ⟨by omega, by omega, fun e => by have := hvl0 b e.symm; omega⟩
      have hrow7 := V.Row.app (V.Row.mono (fun a u h => vl_step (h.below hbr) hOS hgr hat (.slice (some ⟨g5, 0, none⟩) (j + 1) cap6)) (fun a u h => ints_step (h.below hbr) hOS hgr hat (.slice (some ⟨g5, 0, none⟩) (j + 1) cap6)) HROW.out) (show (V.cons n1 p.1 p.2 .nil).Row (OutS w3.heap.size ob (.slice (some ⟨g5, 0, none⟩) (j + 1) cap6)) (w5.setCell ⟨ob, 1, none⟩ (.slice (some ⟨g5, 0, none⟩) (j + 1) cap6)) [.int .i64 n1, .slice a5 p.1.len cap5, .slice c5 p.2.length cp5] from ⟨a5, cap5, c5, cp5, [], rfl, vl_step hv5 hON hgr hat (.slice (some ⟨g5, 0, none⟩) (j + 1) cap6), ints_step hi5 hON hgr hat (.slice (some ⟨g5, 0, none⟩) (j + 1) cap6), rfl⟩)
      have hio7 := ints_step (HIO.out.2.below hbr) hOS hgr hat (.slice (some ⟨g5, 0, none⟩) (j + 1) cap6)
      have hnr7 : nrmL m t f n 0 = (nrmL m (t.drop (j + 1)) f n (j + 1)).map (ks.app (.cons n1 p.1 p.2 .nil)).app := by
       rw [HNR.out, HST.out]
       show Option.map ks.app (Option.map (fun rs => V.cons n1 p.1 p.2 rs) _) = _
       rw [Option.map_map]
       congr 1
       funext q
       simp [V.app_assoc, V.app]
      have hb7 : Below w3.heap.size w3 (w5.setCell ⟨ob, 1, none⟩ (.slice (some ⟨g5, 0, none⟩) (j + 1) cap6)) := ((hbw.trans (hbx2.mono hbw.size)).grown hgr (by have := hbw.size; simp; omega) (fun k hk => by have := hvl0 k hk; omega)).setCell hob _
      have HR7 := hid hrow7
      have HI7 := hid hio7
      have HN7 := hid hnr7
      have HB7 := hid hb7
      have HW7 := hid hown7
      have HVO := hid hv'ob
      have HOB5 := hid hob5
      clear hrow7 hio7 hnr7 hb7 hown7 hv'ob hgr hat hgw hown5 hOS hON hvob hob5 hv5 hi5 HX
      go_wp2_with fail
      go_roundw
      case rel => exact ⟨j + 1, (.slice (some ⟨g5, 0, none⟩) (j + 1) cap6), _, ks.app (.cons n1 p.1 p.2 .nil), by omega, by go_num, set_second HOB5.out, HW7.out, HR7.out, by rw [V.app_len, HKL.out]; rfl, HN7.out, ⟨HVO.out, HI7.out⟩, HB7.out⟩
      case measure => simp [intOf]; omega
    case first =>
     have HXS := hid hXs
     have far_le : ∀ {b : Nat}, (X.drew.alloc (.cells #[.int .i64 0, .slice none 0 0, .slice none 0 0] 58)).heap.size ≤ b → wr.heap.size ≤ b := fun {b} h => by simp at h; omega
     have far_ne : ∀ {b : Nat}, (X.drew.alloc (.cells #[.int .i64 0, .slice none 0 0, .slice none 0 0] 58)).heap.size ≤ b → b ≠ X.heap.size := fun {b} h => by simp at h; omega
     have hXw : wr.heap.size ≤ X.heap.size := by omega
     clear hXs hWs
     have hpX := lt_of_cell hp0
     have hyX := lt_of_cell y0
     cases rr with
     | none =>
      go_region_held3 (fun x : World => x.cell? ⟨pb, po + j * 3, none⟩ = some (.int .i64 gk) ∧ x.cell? ⟨pb, po + j * 3 + 1, none⟩ = some (.int .i64 gn) ∧ x.cell? ⟨pb, po + j * 3 + 2, none⟩ = some (.slice ga gt.len gcap) ∧ x.cell? ⟨wr.heap.size, 0, none⟩ = some (.int .i64 n1) ∧ x.cell? ⟨wr.heap.size, 1, none⟩ = some (.slice a1 k1.len cap1) ∧ x.cell? ⟨wr.heap.size, 2, none⟩ = some (.slice c1' ws1.length cp1)) (first | exact ⟨hp0, hp1, hp2, y0, y1, y2⟩ | exact ⟨alloc_cell hp0, alloc_cell hp1, alloc_cell hp2, alloc_cell y0, alloc_cell y1, alloc_cell y2⟩ | exact ⟨cell_below hby hp0, cell_below hby hp1, cell_below hby hp2, cell_below hby y0, cell_below hby y1, cell_below hby y2⟩ | exact ⟨cell_below hby (alloc_cell hp0), cell_below hby (alloc_cell hp1), cell_below hby (alloc_cell hp2), cell_below hby (alloc_cell y0), cell_below hby (alloc_cell y1), cell_below hby (alloc_cell y2)⟩ | exact ⟨alloc_cell (cell_below hby hp0), alloc_cell (cell_below hby hp1), alloc_cell (cell_below hby hp2), alloc_cell (cell_below hby y0), alloc_cell (cell_below hby y1), alloc_cell (cell_below hby y2)⟩ | exact ⟨cell_set3 (alloc_cell (cell_below hby hp0)) (by omega), cell_set3 (alloc_cell (cell_below hby hp1)) (by omega), cell_set3 (alloc_cell (cell_below hby hp2)) (by omega), cell_set3 (alloc_cell (cell_below hby y0)) (by omega), cell_set3 (alloc_cell (cell_below hby y1)) (by omega), cell_set3 (alloc_cell (cell_below hby y2)) (by omega)⟩ | exact ⟨cell_set3 (cell_below hby (alloc_cell hp0)) (by omega), cell_set3 (cell_below hby (alloc_cell hp1)) (by omega), cell_set3 (cell_below hby (alloc_cell hp2)) (by omega), cell_set3 (cell_below hby (alloc_cell y0)) (by omega), cell_set3 (cell_below hby (alloc_cell y1)) (by omega), cell_set3 (cell_below hby (alloc_cell y2)) (by omega)⟩) (first | (go_at_call 123; refine (HI.out _ (hbd.alloc hbd.size _)).mono ?_; rintro e wy ⟨hby, rfl⟩; have hq : wy.heap[X.heap.size]? = some (Obj.cells #[.int .i64 0, .slice none 0 0, .slice none 0 0] 58 (0, 0)) := (hby.block _ (by simp)).trans (heap_new _ _); obtain ⟨q0, q1, q2⟩ := cells_of hq; have qf : ∀ i, wy.frozen? ⟨X.heap.size, i, none⟩ = false := fun i => frozen_of hq) | (go_at_call 123; refine (HI.out _ hbd).mono ?_; rintro e wy ⟨hby, rfl⟩))
      ·have hbx := hbd.trans (hby.mono hbd.size)
       go_wp2_with fail
       go_meet
       exact ⟨⟨hbx.alloc hbx.size _, rfl⟩, rfl⟩
      ·have hbx := (hbd.alloc hbd.size (.cells #[.int .i64 0, .slice none 0 0, .slice none 0 0] 58)).trans (hby.mono (by simp))
       clear hq q0 q1 q2 qf
       go_wp2_with fail
       go_meet
       exact ⟨⟨((hbx.setCell (p := ⟨X.heap.size, 0, none⟩) (Nat.le_refl _) _).setCell (p := ⟨X.heap.size, 1, none⟩) (Nat.le_refl _) _).setCell (p := ⟨X.heap.size, 2, none⟩) (Nat.le_refl _) _, rfl⟩, rfl⟩
     | some p =>
      go_region_held3 (fun x : World => x.cell? ⟨pb, po + j * 3, none⟩ = some (.int .i64 gk) ∧ x.cell? ⟨pb, po + j * 3 + 1, none⟩ = some (.int .i64 gn) ∧ x.cell? ⟨pb, po + j * 3 + 2, none⟩ = some (.slice ga gt.len gcap) ∧ x.cell? ⟨wr.heap.size, 0, none⟩ = some (.int .i64 n1) ∧ x.cell? ⟨wr.heap.size, 1, none⟩ = some (.slice a1 k1.len cap1) ∧ x.cell? ⟨wr.heap.size, 2, none⟩ = some (.slice c1' ws1.length cp1)) (first | exact ⟨hp0, hp1, hp2, y0, y1, y2⟩ | exact ⟨alloc_cell hp0, alloc_cell hp1, alloc_cell hp2, alloc_cell y0, alloc_cell y1, alloc_cell y2⟩ | exact ⟨cell_below hby hp0, cell_below hby hp1, cell_below hby hp2, cell_below hby y0, cell_below hby y1, cell_below hby y2⟩ | exact ⟨cell_below hby (alloc_cell hp0), cell_below hby (alloc_cell hp1), cell_below hby (alloc_cell hp2), cell_below hby (alloc_cell y0), cell_below hby (alloc_cell y1), cell_below hby (alloc_cell y2)⟩ | exact ⟨alloc_cell (cell_below hby hp0), alloc_cell (cell_below hby hp1), alloc_cell (cell_below hby hp2), alloc_cell (cell_below hby y0), alloc_cell (cell_below hby y1), alloc_cell (cell_below hby y2)⟩ | exact ⟨cell_set3 (alloc_cell (cell_below hby hp0)) (by omega), cell_set3 (alloc_cell (cell_below hby hp1)) (by omega), cell_set3 (alloc_cell (cell_below hby hp2)) (by omega), cell_set3 (alloc_cell (cell_below hby y0)) (by omega), cell_set3 (alloc_cell (cell_below hby y1)) (by omega), cell_set3 (alloc_cell (cell_below hby y2)) (by omega)⟩ | exact ⟨cell_set3 (cell_below hby (alloc_cell hp0)) (by omega), cell_set3 (cell_below hby (alloc_cell hp1)) (by omega), cell_set3 (cell_below hby (alloc_cell hp2)) (by omega), cell_set3 (cell_below hby (alloc_cell y0)) (by omega), cell_set3 (cell_below hby (alloc_cell y1)) (by omega), cell_set3 (cell_below hby (alloc_cell y2)) (by omega)⟩) (first | (go_at_call 123; refine (HI.out _ (hbd.alloc hbd.size _)).mono ?_; rintro e wy ⟨hby, a5, c5, cap5, cp5, rfl, hvv, hii⟩; have hq : wy.heap[X.heap.size]? = some (Obj.cells #[.int .i64 0, .slice none 0 0, .slice none 0 0] 58 (0, 0)) := (hby.block _ (by simp)).trans (heap_new _ _); obtain ⟨q0, q1, q2⟩ := cells_of hq; have qf : ∀ i, wy.frozen? ⟨X.heap.size, i, none⟩ = false := fun i => frozen_of hq) | (go_at_call 123; refine (HI.out _ hbd).mono ?_; rintro e wy ⟨hby, a5, c5, cap5, cp5, rfl, hvv, hii⟩))
      ·have hbx := hbd.trans (hby.mono hbd.size)
       have hv6 := (hvv.weaken (S' := fun b => wr.heap.size ≤ b) (fun b h => by have : X.heap.size ≤ b := h; omega)).below ((Below.refl _ _).alloc (Nat.le_refl _) (.cells #[.int .i64 n1, .slice a5 p.1.len cap5, .slice c5 p.2.length cp5] 58))
       have hi6 := (hii.weaken (S' := fun b => wr.heap.size ≤ b) (fun b h => by have : X.heap.size ≤ b := h; omega)).below ((Below.refl _ _).alloc (Nat.le_refl _) (.cells #[.int .i64 n1, .slice a5 p.1.len cap5, .slice c5 p.2.length cp5] 58))
       have HV6 := hid hv6
       have HI6 := hid hi6
       clear hvv hii hv6 hi6
       go_wp2_with fail
       go_meet
       exact ⟨⟨hbx.alloc hbx.size _, rfl, wy.heap.size, a5, c5, cap5, cp5, rfl, heap_new _ _, HV6.out, HI6.out⟩, rfl⟩
      ·have hbx := (hbd.alloc hbd.size (.cells #[.int .i64 0, .slice none 0 0, .slice none 0 0] 58)).trans (hby.mono (by simp))
       have HQ := hid hq
       have HV6 := hid (fun y0 y1 y2 => hvv.mono (S' := fun b => wr.heap.size ≤ b) (w' := ((wy.setCell ⟨X.heap.size, 0, none⟩ y0).setCell ⟨X.heap.size, 1, none⟩ y1).setCell ⟨X.heap.size, 2, none⟩ y2) (fun b h => far_le h) (fun b h _ => store3_far (far_ne h)))
       have HI6 := hid (fun y0 y1 y2 => hii.mono (S' := fun b => wr.heap.size ≤ b) (w' := ((wy.setCell ⟨X.heap.size, 0, none⟩ y0).setCell ⟨X.heap.size, 1, none⟩ y1).setCell ⟨X.heap.size, 2, none⟩ y2) (fun b h => far_le h) (fun b h _ => store3_far (far_ne h)))
       clear hq q0 q1 q2 qf hvv hii
       go_wp2_with fail
       go_meet
       exact ⟨⟨((hbx.setCell (p := ⟨X.heap.size, 0, none⟩) (Nat.le_refl _) _).setCell (p := ⟨X.heap.size, 1, none⟩) (Nat.le_refl _) _).setCell (p := ⟨X.heap.size, 2, none⟩) (Nat.le_refl _) _, rfl, X.heap.size, a5, c5, cap5, cp5, rfl, store3 HQ.out rfl, HV6.out _ _ _, HI6.out _ _ _⟩, rfl⟩
   ·have hjl : j = t.len := by omega
    have hnn : nrmL m t f n 0 = some ks := by
     rw [HNR.out, hjl, V.drop_all]
     simp [nrmL, V.app_nil]
    have HRS := hid (show r = some (fin f ks ws) by rw [HRN.out, hnn]; rfl)
    have hkt : ks.len = t.len := by rw [HKL.out]; exact hjl
    have hvob := HIO.out.1
    obtain ⟨ka, kc, hva, hkv⟩ := vl_of_row (S := OutS w3.heap.size ob v) (S' := fun b => w3.heap.size ≤ b ∧ b ≠ ob) (t := ks) (by omega) (by rw [HKL.out]; exact HOWN.out) HROW.out (fun b h => ⟨h.1, h.2.1⟩) (fun b hg h => ⟨h, fun e => hvob (by rw [hg, e])⟩)
    have hwi := HIO.out.2.weaken (S' := fun b => w3.heap.size ≤ b ∧ b ≠ ob) (fun b h => ⟨h.1, h.2.1⟩)
    have hobl := heap_lt HOBR.out
    have hbW := hb13.trans (hb.mono hs3)
    have hoc := HOBR.out
    rw [hva] at hoc
    obtain ⟨o0, o1, o2⟩ := cells_of hoc
    obtain ⟨⟨c0, c1, c2⟩, e0, e1, e2⟩ := HE.out _ hbW
    obtain ⟨r0, r1, r2⟩ := cells_of (HR.out _ hbW)
    have rz : ∀ i, wr.frozen? ⟨w.heap.size + 2, i, none⟩ = false := fun i => frozen_of (HR.out _ hbW)
    have hjl2 : ¬ (j : Int) < t.len := by omega
    have HKT := hid hkt
    have HOC9 := hid hoc
    clear hjl hva hkt hnn hoc
    go_wp2_with fail
    refine (sets_any f.k wr).mono ?_
    rintro e w' ⟨rfl, rfl⟩
    cases hck : coll f.k
    ·have HF := hid (show r = some (ks, ws) by rw [HRS.out]; unfold fin; rw [hck]; rfl)
     clear hck
     go_wp2_with fail
     obtain ⟨z0, z1, z2⟩ := cells_of (store3 (x0 := .int .i64 n) (x1 := .slice ka ks.len kc) (x2 := .slice oc ws.length ocp) (HR.out _ hbW) rfl)
     refine bodyPost_ret (v := .tuple #[Vv n ka ks.len kc oc ws.length ocp, .bool true]) (by simp [results, Tryz.results123, go_sem, z0, z1, z2]) rfl ?_
     rw [HF.out]
     exact ⟨(((hWb.trans (hbW.mono hWb.size)).setCell (by simp; omega) _).setCell (by simp; omega) _).setCell (by simp; omega) _, ka, oc, kc, ocp, rfl, hkv.mono (fun b h => by omega) (fun b h _ => store3_far (by omega)), hwi.mono (fun b h => by omega) (fun b h _ => store3_far (by omega))⟩
    ·have HF := hid (show r = some (mrg f.k ks ws) by rw [HRS.out]; unfold fin; rw [hck]; rfl)
     clear hck
     go_wp2_with fail
     refine (HM (fun b => w3.heap.size ≤ b ∧ b ≠ ob) f.k n ks ws ka oc kc ocp wr hkv hwi (by rw [HKT.out]; omega) (by rw [HKT.out]; exact HWO.out)).mono ?_
     rintro e w9 ⟨ma, mc, mcap, mcp, rfl, hmv, hmi, hmb⟩
     have hob9 : w9.heap[ob]? = some (.cells #[.int .i64 n, .slice ka ks.len kc, .slice oc ws.length ocp] 58 (0, 0)) := by rw [hmb.block _ hobl]; exact HOC9.out
     obtain ⟨s0, s1, s2⟩ := cells_of hob9
     have sz : ∀ i, w9.frozen? ⟨ob, i, none⟩ = false := fun i => frozen_of hob9
     have hbW9 := hbW.trans (hmb.mono hbW.size)
     obtain ⟨t0, t1, t2⟩ := cells_of (HR.out _ hbW9)
     have tz : ∀ i, w9.frozen? ⟨w.heap.size + 2, i, none⟩ = false := fun i => frozen_of (HR.out _ hbW9)
     clear hob9 r0 r1 r2 rz o0 o1 o2
     go_wp2_with fail
     have hres9 : (((w9.setCell ⟨ob, 0, none⟩ (.int .i64 n)).setCell ⟨ob, 1, none⟩ (.slice ma (mrg f.k ks ws).1.len mcap)).setCell ⟨ob, 2, none⟩ (.slice mc (mrg f.k ks ws).2.length mcp)).heap[w.heap.size + 2]? = some (Obj.cells #[.int .i64 0, Value.slice none 0 0, Value.slice none 0 0] 58 (0, 0)) := by
      rw [store3_far (by omega)]; exact HR.out _ hbW9
     obtain ⟨z0, z1, z2⟩ := cells_of (store3 (x0 := .int .i64 n) (x1 := .slice ma (mrg f.k ks ws).1.len mcap) (x2 := .slice mc (mrg f.k ks ws).2.length mcp) hres9 rfl)
     refine bodyPost_ret (v := .tuple #[Vv n ma (mrg f.k ks ws).1.len mcap mc (mrg f.k ks ws).2.length mcp, .bool true]) (by simp [results, Tryz.results123, go_sem, z0, z1, z2]) rfl ?_
     rw [HF.out]
     have hs3r := hb.size
     have hbf := (((((((hWb.trans (hbW9.mono hWb.size)).setCell (p := ⟨ob, 0, none⟩) (by simp; omega) (.int .i64 n)).setCell (p := ⟨ob, 1, none⟩) (by simp; omega) (.slice ma (mrg f.k ks ws).1.len mcap)).setCell (p := ⟨ob, 2, none⟩) (by simp; omega) (.slice mc (mrg f.k ks ws).2.length mcp)).setCell (p := ⟨w.heap.size + 2, 0, none⟩) (by simp) (.int .i64 n)).setCell (p := ⟨w.heap.size + 2, 1, none⟩) (by simp) (.slice ma (mrg f.k ks ws).1.len mcap)).setCell (p := ⟨w.heap.size + 2, 2, none⟩) (by simp) (.slice mc (mrg f.k ks ws).2.length mcp))
     exact ⟨hbf, ma, mc, mcap, mcp, rfl, hmv.mono (fun b h => by omega) (fun b h _ => by rw [store3_far (by omega), store3_far (by omega)]), hmi.mono (fun b h => by omega) (fun b h _ => by rw [store3_far (by omega), store3_far (by omega)])⟩
 case first =>
  by_cases hwe : ws = []
  ·subst hwe
   simp only [List.length_nil] at e2
   go_region_held3 (fun x : World => x.cell? ⟨w.heap.size + 1, 0, none⟩ = some (.int .i64 n) ∧ x.cell? ⟨w.heap.size + 1, 2, none⟩ = some (.slice c 0 cp)) (first | exact ⟨e0, e2⟩ | exact ⟨alloc_cell e0, alloc_cell e2⟩ | exact ⟨cell_set3 (alloc_cell e0) (by omega), cell_set3 (alloc_cell e2) (by omega)⟩) (refine step_append_zero (by rfl) _ _ _ (by rfl) (w.heap.size + 3) 3 i0 1 Tryz.underlying45 hti (.slice none 0 0) 0 [] (by rfl) (World.ownsRow_nil _ _ _ _) c cp (by rfl) ?_)
   all_goals
    go_wp2_with fail
    go_meet
    exact ⟨w3.heap.size, none, 0, rfl, Nat.le_refl _, heap_new _ _, ⟨by simp, Or.inl rfl⟩, hbd.alloc hbd.size _⟩
  ·have hwl : 0 < ws.length := List.length_pos_iff.2 hwe
   obtain ⟨wb, wo, rfl, _⟩ := hi3.get hwl
   have hcs : ∀ x, Below w3.heap.size w3 x → ∀ j u, (ws.map (Value.int .i64))[j]? = some u → x.cell? ((⟨wb, wo, none⟩ : Addr).add j) = some u := by
    intro x hx j u hu
    obtain ⟨v0, hv0, rfl⟩ : ∃ v0, ws[j]? = some v0 ∧ Value.int .i64 v0 = u := by simpa using hu
    have hadd : (⟨wb, wo, none⟩ : Addr).add j = ⟨wb, wo + j, none⟩ := by unfold Addr.add; split <;> simp_all
    rw [hadd]
    rcases hi3.2 with h | ⟨b', o', he, _, h3⟩
    ·exact absurd h hwe
    ·simp only [Option.some.injEq, Addr.mk.injEq] at he
     obtain ⟨rfl, rfl, _⟩ := he
     exact cell_below hx (h3 j v0 hv0)
   have HCS := hid hcs
   clear hcs hwe
   go_region_held3 (fun x : World => x.cell? ⟨w.heap.size + 1, 0, none⟩ = some (.int .i64 n) ∧ x.cell? ⟨w.heap.size + 1, 2, none⟩ = some (.slice (some ⟨wb, wo, none⟩) ws.length cp)) (first | exact ⟨e0, e2⟩ | exact ⟨alloc_cell e0, alloc_cell e2⟩ | exact ⟨hgrow.cell e0 (by simp [Value.ownBlock]), hgrow.cell e2 (by simp [Value.ownBlock])⟩ | exact ⟨hgrow.cell (alloc_cell e0) (by simp [Value.ownBlock]), hgrow.cell (alloc_cell e2) (by simp [Value.ownBlock])⟩ | exact ⟨alloc_cell (hgrow.cell e0 (by simp [Value.ownBlock])), alloc_cell (hgrow.cell e2 (by simp [Value.ownBlock]))⟩ | exact ⟨cell_set3 (hgrow.cell (alloc_cell e0) (by simp [Value.ownBlock])) (by omega), cell_set3 (hgrow.cell (alloc_cell e2) (by simp [Value.ownBlock])) (by omega)⟩ | exact ⟨cell_set3 (alloc_cell (hgrow.cell e0 (by simp [Value.ownBlock]))) (by have := hgrow.size; simp at this; omega), cell_set3 (alloc_cell (hgrow.cell e2 (by simp [Value.ownBlock]))) (by have := hgrow.size; simp at this; omega)⟩) ((refine step_append_lies _ (by rfl) _ _ _ (by rfl) w3.heap.size 3 i0 (.int .i64 0) 1 8 Tryz.underlying45 hti hz0 hz1 hz2 rfl (by omega) (.slice none 0 0) 0 [] (by rfl) (World.ownsRow_nil _ _ _ _) ⟨wb, wo, none⟩ ws.length cp (ws.map (Value.int .i64)) (by rfl) (by simp) (by first | exact HCS.out _ hbd | exact HCS.out _ (hbd.alloc hbd.size _)) (by simp [Value.oneCell']) hwl (by unfold maxLen; omega) (by omega) (by simp) _ rfl ?_; intro g cg w4 hown hgrow hat hlt; (try (have hq : w4.heap[w3.heap.size]? = some (Obj.cells #[.int .i64 0, .slice none 0 0, .slice none 0 0] 58 (0, 0)) := (by rw [hgrow.block _ (by simp) (by simp [Value.ownBlock])]; exact heap_new _ _); obtain ⟨q0, q1, q2⟩ := cells_of hq; have qf : ∀ i, w4.frozen? ⟨w3.heap.size, i, none⟩ = false := fun i => frozen_of hq))))
   ·have hI := ints_in (ob := w4.heap.size) hlw hown (by omega)
    have hgb := hbd.grown hgrow (Nat.le_refl _) (by intro k hk; simp [Value.ownBlock] at hk)
    have hs4 := hgb.size
    go_wp2_with fail
    go_meet
    exact ⟨w4.heap.size, _, _, rfl, hs4, heap_new _ _, hI.below (ba _ _), hgb.alloc hs4 _⟩
   ·have hgw : g = w3.heap.size + 1 := by
     rcases hat with h | h
     ·simp [Value.ownBlock] at h
     ·simpa using h
    have hI := ints_in (ob := w3.heap.size) hlw hown (by omega)
    have hgb := (hbd.alloc hbd.size _).grown hgrow (by simp) (by intro k hk; simp [Value.ownBlock] at hk)
    have HQ := hid hq
    clear hgw hq q0 q1 q2 qf
    go_wp2_with fail
    go_meet
    exact ⟨w3.heap.size, _, _, rfl, Nat.le_refl _, store3 HQ.out rfl, hI.mono (fun _ h => h) (fun b hb _ => store3_far hb.2), ((hgb.setCell (p := ⟨w3.heap.size, 0, none⟩) (Nat.le_refl _) _).setCell (p := ⟨w3.heap.size, 1, none⟩) (Nat.le_refl _) _).setCell (p := ⟨w3.heap.size, 2, none⟩) (Nat.le_refl _) _⟩
end Go.Proofs.YtcekilcgpgjooaaGreatDoor
