/- Proved here: contracts of the walk to BisimFaults: the reference's Related at collections, and so at every functor; each under the conditions that its own statement names. -/
import Derived.Test.YtfgpjfgejhahfaaGreatDoorG31
set_option maxRecDepth 100000
set_option maxHeartbeats 12800000
namespace Go.Proofs.YtfgpjfgejhahfaaGreatDoor
open Go Go.RowKit
open Go.Lib (hid)
theorem wp_append_at {P : Program} {w : World} {o : Oper} {a : Act} {K : Act → World → Prop} {Q : Exit → Act → World → Prop} (s x : Operand) (t : TypeId)
    (ho : o.op = .call { callee := .builtin .append, args := #[s, x], argTypes := #[t, t] }) (base : Nat)
    (e : TypeId) (i : TypeInfo) (z : Value) (size bytes : Nat) (ht : P.underlying t = some (.slice e)) (hi : P.info? e = some i) (hz : i.zero = some z)
    (hsize : i.size = size) (hby : i.bytes = bytes) (hzs : z.cells.size = size) (hsz : 0 < size)
    (v : Value) (n : Nat) (xs : List Value) (hs : a.eval s = v) (hown : w.ownsRow base e size v n xs)
    (src : Option Addr) (m c : Nat) (news : List Value) (hx : a.eval x = .slice src m c) (hl : news.length = m * size) (hnews : ∀ j u, news[j]? = some u → ∃ ad, src = some ad ∧ w.cell? (ad.add j) = some u) (h1 : ∀ u ∈ news, u.oneCell' = true)
    (h63 : n + m ≤ maxLen) (hbytes : (n + m) * bytes ≤ 140737488355328) (hbase : base ≤ w.heap.size)
    (h : ∀ v' w', w'.ownsRow base e size v' (n + m) (xs ++ news) → w.grownBy w' v.ownBlock → (v'.ownBlock = v.ownBlock ∨ v'.ownBlock = some w.heap.size) → K (a.put o.dst v') w') :
    Oper.wp P o a w K Q := by
 obtain ⟨v', w', hr, h2, h3, h4, _⟩ := run_append_any (P := P) (w := w) t o.type e i z size bytes ht hi hz hsize hby hzs hsz base v n xs hown src m c news hl hnews h1 h63 hbytes hbase
 unfold Oper.wp execOp
 simp only [ho, resolve, invoke, builtin, Sem.run_bind, Sem.run_pure, Result.andThen_ok, List.map_toArray, List.map_cons, List.map_nil, hs, hx, hr]
 exact h v' w' h2 h3 h4
structure TlS (W Y : World) (pb yb : Nat) (x : World) : Prop where
 below : Below W.heap.size W x
 tab : x.heap[pb]? = Y.heap[pb]?
 box : x.heap[yb]? = Y.heap[yb]?
theorem relRs_any {t : V} (ih : t.Elems RelR) {nn mm : Nat} {rel : Nat → Nat → Bool} {r : List (Int × Int)} {RB : F → Int × V × List Int → Int × V × List Int → Bool} {S : Nat → Nat → Prop} {S' Sr : Nat → Prop}
    {f : F} {n n' : Int} {t' : V} {ws ws' : List Int} {a a1 a2 c1 c2 ar : Option Addr} {cap cap1 cap2 cp1 cp2 capr : Nat} {w : World}
    (hrel : ∀ x y : Nat, rel x y = decide (((x : Int), (y : Int)) ∈ r)) (hRB : ∀ f u v, RB f u v = true ↔ relV (tells rel) f u v) (hs : Sl S w a f.t) (hv : Vl S' w a1 t) (hi : Ints S' w c1 ws) (hv' : Vl S' w a2 t') (hi' : Ints S' w c2 ws') (hr : Prs Sr w ar r)
    (hc : f.t.len ≤ cap) (hg : f.good = true) (hk : f.k = 5 ∨ f.k = 6 ∨ f.k = 7) (hu : okV nodeOk nn f n t ws = true) (hu' : okV nodeOk mm f n' t' ws' = true) :
    Calls Tryz.prog 16 #[f.val a cap, Vv n a1 t.len cap1 c1 ws.length cp1, Vv n' a2 t'.len cap2 c2 ws'.length cp2, .slice ar r.length capr] w fun e w' => e = .returned (.bool (RB f (n, t, ws) (n', t', ws'))) ∧ Below w.heap.size w w' := by
 obtain ⟨W, hW⟩ : ∃ W : World, W = ((w.alloc (Obj.cells #[.int .i64 f.k, .int .i64 f.n, .slice a f.t.len cap] 24)).alloc (Obj.cells #[.int .i64 n, .slice a1 t.len cap1, .slice c1 ws.length cp1] 28)).alloc (Obj.cells #[.int .i64 n', .slice a2 t'.len cap2, .slice c2 ws'.length cp2] 28) := ⟨_, rfl⟩
 obtain ⟨hx, hWb⟩ := box3_made w hW
 have hk0 : ¬ f.k = 0 := by omega
 have hcoll : coll f.k = true := by unfold coll; rw [decide_eq_true (by omega)]
 have hN1 : t.len ≤ 100 := okV_many hu hcoll
 have hM1 : t'.len ≤ 100 := okV_many hu' hcoll
 have hfl : 0 < f.t.len := by
  have := (F.good_len hg).1
  unfold arityOf at this
  rcases hk with h | h | h <;> rw [h] at this <;> simp at this <;> omega
 obtain ⟨i0, ji, jz0, jz1, jz2⟩ := info_parts infoBl
 have HJ := hid (And.intro ji (And.intro jz0 (And.intro jz1 jz2)))
 clear ji jz0 jz1 jz2
 have HBX := hid (fun x (hb : Below W.heap.size W x) => And.intro (cells_of ((hb.block _ (heap_lt hx.f)).trans hx.f)) (And.intro (cells_of ((hb.block _ (heap_lt hx.u)).trans hx.u)) (cells_of ((hb.block _ (heap_lt hx.v)).trans hx.v))))
 obtain ⟨⟨b0, b1, b2⟩, ⟨b3, b4, b5⟩, b6, b7, b8⟩ := HBX.out W (Below.refl _ _)
 obtain ⟨bf, hbf⟩ : ∃ bf, bf = w.heap.size := ⟨_, rfl⟩
 rw [← hbf] at b0 b1 b2 b3 b4 b5 b6 b7 b8 HBX
 have HWB := hid hWb
 have HSl := hid (hs.below hWb)
 have HV := hid (hv.below hWb)
 have HV2 := hid (hv'.below hWb)
 have HI1 := hid (hi.below hWb)
 have HI2 := hid (hi'.below hWb)
 have HP := hid (hr.below hWb)
 have HRE := hid hrel
 have HRB := hid hRB
 have HU := hid (And.intro hu hu')
 have HG := hid (And.intro hc (And.intro hg (And.intro hk hfl)))
 have IH := hid ih
 obtain ⟨R, hR⟩ : ∃ R, R = RB f (n, t, ws) (n', t', ws') := ⟨_, rfl⟩
 have HR := hid hR
 rw [← hR]
 obtain ⟨N, hN⟩ : ∃ N, N = t.len := ⟨_, rfl⟩
 have HN := hid hN
 obtain ⟨M, hM⟩ : ∃ M, M = t'.len := ⟨_, rfl⟩
 have HM := hid hM
 rw [← hN, ← hM]
 rw [← hN] at b4 HBX hN1 hW
 rw [← hM] at b7 HBX hM1 hW
 obtain ⟨q, hq⟩ : ∃ q, q = tabB RB f t t' := ⟨_, rfl⟩
 have HQ := hid hq
 clear hrel hRB hs hv hv' hi hi' hr hc hg hu hu' hx hWb hR hk ih hN hM hq hfl
 have hmk := run_make_row' (P := Tryz.prog) 91 92 (.slice none 0 0) 24 Tryz.underlying91 infoRowB rfl .i64 .i64 N (by omega) (by omega)
 go_enter Tryz.func16, Tryz.ntmps16
 go_wp2_with fail
 rw [← hW, ← hbf]
 clear hW hbf
 refine (sets_any f.k W).mono ?_
 rintro e w' ⟨rfl, rfl⟩
 rw [hcoll]
 obtain ⟨X, hX⟩ : ∃ X : World, X = W.alloc (Obj.cells (madeCells #[Value.slice none 0 0] N) 92) := ⟨_, rfl⟩
 obtain ⟨pb, hpb⟩ : ∃ pb, pb = W.heap.size := ⟨_, rfl⟩
 have HXS := hid (show X.heap.size = pb + 1 by rw [hX, hpb]; simp)
 have HXB := hid (show Below W.heap.size W X by rw [hX]; exact ba _ _)
 have HTM := hid (TabM.start (B := pb + 1) (m := M) (q := q) (show X.rowIs pb 92 N (fun _ => .slice none 0 0) by rw [hX, hpb]; exact World.rowIs_made _ _ _ _))
 have HPB := hid hpb
 go_wp2_with fail
 rw [← hX, ← hpb]
 clear hX hpb hmk
 go_loopw [73] (fun i wr => ∃ (k : Nat) (rows : Nat → Value), k ≤ N ∧ i = .int .i64 k ∧ TabM wr pb (pb + 1) N M k 0 q rows ∧ Below W.heap.size W wr) (fun i _ => N - (intOf i).toNat)
 case atStart => exact ⟨0, _, Nat.zero_le _, rfl, HTM.out, HXB.out⟩
 case round =>
  obtain ⟨k, rows, hkN, rfl, htm, hb⟩ := hrel
  have HT := hid htm
  have HB := hid hb
  by_cases hlt : k < N
  ·obtain ⟨⟨x0, x1, x2⟩, ⟨x3, x4, x5⟩, x6, x7, x8⟩ := HBX.out wr hb
   clear htm hb b0 b1 b2 b3 b4 b5 b6 b7 b8 HXS HXB HTM
   go_wp2_with fail
   obtain ⟨wo, hwo⟩ : ∃ wo, wo = wr := ⟨_, rfl⟩
   rw [← hwo]
   rw [← hwo] at HT HB
   clear hwo x0 x1 x2 x3 x4 x5 x6 x7 x8
   go_loopw [79] (fun i wr => ∃ (j : Nat) (rows : Nat → Value), j ≤ M ∧ i = .int .i64 j ∧ TabM wr pb (pb + 1) N M k j q rows ∧ Below W.heap.size W wr) (fun i _ => M - (intOf i).toNat)
   case atStart => exact ⟨0, rows, Nat.zero_le _, rfl, HT.out, HB.out⟩
   case round =>
    obtain ⟨j, rows, hjM, rfl, htm, hb⟩ := hrel
    have HT := hid htm
    have HB := hid hb
    by_cases hlj : j < M
    ·obtain ⟨vb, vo, va, vc, vw, vd, rfl, _, v0, v1, v2, hvs, hvi⟩ := (HV2.out.below hb).el (i := j) (by rw [← HM.out]; exact hlj)
     obtain ⟨n2, hn2⟩ : ∃ z, z = (t'.el j).1 := ⟨_, rfl⟩
     obtain ⟨t2, ht2⟩ : ∃ z, z = (t'.el j).2.1 := ⟨_, rfl⟩
     obtain ⟨w2', hw2⟩ : ∃ z, z = (t'.el j).2.2 := ⟨_, rfl⟩
     rw [← hn2] at v0
     rw [← ht2] at v1 hvs
     rw [← hw2] at v2 hvi
     obtain ⟨Y, hY⟩ : ∃ Y : World, Y = wr.alloc (Obj.cells #[.int .i64 n2, .slice va t2.len vc, .slice vw w2'.length vd] 28) := ⟨_, rfl⟩
     obtain ⟨yb, hyb⟩ : ∃ yb, yb = wr.heap.size := ⟨_, rfl⟩
     have HYB := hid (show Y.heap[yb]? = some (Obj.cells #[.int .i64 n2, .slice va t2.len vc, .slice vw w2'.length vd] 28 (0, 0)) by rw [hY, hyb]; exact heap_new _ _)
     have HWY := hid (show Below W.heap.size W Y by rw [hY]; exact hb.alloc hb.size _)
     have HTY := hid (show TabM Y pb (pb + 1) N M k j q rows by rw [hY]; exact htm.below (ba _ _))
     have hWYs := HWY.out.size
     have hYW : Below wr.heap.size wr Y := by rw [hY]; exact ba _ _
     have hvsY := hvs.below hYW
     have hviY := hvi.below hYW
     obtain ⟨ub, uo, ua, uc, uw, ud, rfl, _, u0, u1, u2, hus, hui⟩ := HV.out.el (i := k) (by rw [← HN.out]; exact hlt)
     obtain ⟨fb, fo, rfl, hfat⟩ := HSl.out.addr HG.out.2.2.2
     obtain ⟨gk, gn, gt, grest, hgd, _⟩ := T.drop_lt HG.out.2.2.2
     obtain ⟨_, f0, f1, fa, fcap, f2, hgs, hgc⟩ := hfat.getc hgd
     have hgg : f.t.get 0 = ⟨gk, gn, gt⟩ := T.get_drop _ _ _ _ _ _ hgd
     have hpart : ∀ x i, f.part x i = f.t.get 0 := fun x i => by
      have := HG.out.2.2.1
      unfold F.part; rw [if_neg (by omega), if_neg (by omega)]
     simp only [Nat.mul_zero, Nat.add_zero] at f0 f1 f2
     have ok1 := ok_el HU.out.1 (i := k) (by rw [← HN.out]; exact hlt)
     have ok2 := ok_el HU.out.2 (i := j) (by rw [← HM.out]; exact hlj)
     have hgp := good_part HG.out.2.1 (okV_fields HU.out.1) (i := k) (by rw [← HN.out]; exact hlt)
     rw [hpart, hgg] at ok1 ok2 hgp
     have IHk : RelR (t.el k).2.1 := by
      obtain ⟨n1, k1, ws1, r1, hd, _⟩ := V.drop_lt (t := t) (i := k) (by rw [← HN.out]; exact hlt)
      have h := IH.out k n1 k1 ws1 r1 hd
      rw [V.el_drop hd]
      exact h
     obtain ⟨qq, hqq⟩ : ∃ z, z = q k j := ⟨_, rfl⟩
     have hqr : qq = RB ⟨gk, gn, gt⟩ (t.el k) (n2, t2, w2') := by rw [hqq, HQ.out]; unfold tabB; rw [hgg, hn2, ht2, hw2]
     rw [← hn2, ← ht2, ← hw2] at ok2
     obtain ⟨⟨n1, t1, w1'⟩, ht1⟩ : ∃ z, z = t.el k := ⟨_, rfl⟩
     rw [← ht1] at u0 u1 u2 hus hui ok1 IHk hqr
     simp only at u0 u1 u2 hus hui ok1 IHk
     have hYd : Below Y.heap.size Y Y.drew := (Below.refl _ _).drew
     have hWd : Below W.heap.size W Y.drew := HWY.out.drew
     have HCL := hid (IHk nn mm rel r RB _ S' Sr ⟨gk, gn, gt⟩ n1 n2 t2 w1' w2' fa ua va uw vw ar fcap uc vc ud vd capr Y.drew HRE.out HRB.out (hgs.below hWd) (hus.below hWd) (hui.below hWd) (hvsY.below hYd) (hviY.below hYd) (HP.out.below hWd) hgc hgp ok1 ok2)
     rw [← hqr] at HCL
     have z0 := HTY.out.tab.cell hlt
     obtain ⟨v, hvv⟩ : ∃ v, v = rows k := ⟨_, rfl⟩
     rw [← hvv] at z0
     have HVV := hid hvv
     have hownk : Y.ownsRow (pb + 1) 4 1 v j ((List.range j).map (fun b => .bool (q k b))) := by
      have h := HTY.out.own k hlt
      simp only [Nat.lt_irrefl, if_false, if_true] at h
      rw [hvv]; exact h
     have HOK := hid hownk
     have HQQ := hid hqq
     have hpY : pb < Y.heap.size := HTY.out.tab.lt
     have hyY : yb < Y.heap.size := heap_lt HYB.out
     have hyv : v.ownBlock ≠ some yb := fun e => by
      have h := (HT.out.own k hlt).lt yb (by rw [← hvv]; exact e)
      omega
     have HYV := hid hyv
     have keepW : ∀ {b o : Nat} {u : Value} (x : World), Below W.heap.size W x → W.cell? ⟨b, o, none⟩ = some u → x.cell? ⟨b, o, none⟩ = some u := fun x hx h => by
      rw [World.cell?_of_block (w := W) (a := ⟨_, _, none⟩) (hx.block _ (lt_of_cell h))]; exact h
     have keepY : ∀ {b o : Nat} {u : Value} (x : World), x.heap[b]? = Y.heap[b]? → Y.cell? ⟨b, o, none⟩ = some u → x.cell? ⟨b, o, none⟩ = some u := fun x hx h => by
      rw [World.cell?_of_block (w := Y) (a := ⟨_, _, none⟩) hx]; exact h
     have HFX := hid (fun x (hx : TlS W Y pb yb x) => And.intro (HBX.out x hx.below) (And.intro (And.intro (keepW x hx.below f0) (And.intro (keepW x hx.below f1) (keepW x hx.below f2))) (And.intro (And.intro (keepW x hx.below u0) (And.intro (keepW x hx.below u1) (keepW x hx.below u2))) (And.intro (keepY x hx.tab z0) (cells_of (hx.box.trans HYB.out))))))
     have hfl2 : 0 < f.t.len := HG.out.2.2.2
     clear htm hb hvs hvi hn2 ht2 hw2 hus hui hgs hgp ok1 ok2 IHk hqr hYd hWd hvsY hviY hgg hgd hfat hpart hqq hownk hvv ht1 hYW hyv keepW keepY f0 f1 f2 u0 u1 u2 z0
     go_upto_region 21 with (fail)
     rw [← hY, ← hyb]
     clear hY hyb v0 v1 v2
     refine wp_region_tail (by rfl) (TlS W Y pb yb) [17, 18, 19, 20, 21] [some (.slice (some ⟨pb, 0, none⟩) N N), some (.int .i64 (k : Int)), some (.slice (some ⟨pb, 0, none⟩) N N), some (.int .i64 (k : Int)), some (.pointer (some ⟨pb, k, none⟩)), some v, some (.pointer (some ⟨bf, 2, none⟩)), some (.slice (some ⟨fb, fo, none⟩) f.t.len cap), some (.pointer (some ⟨fb, fo, none⟩)), some (F.val ⟨gk, gn, gt⟩ fa fcap), some (.pointer (some ⟨bf + 1, 1, none⟩)), some (.slice (some ⟨ub, uo, none⟩) N cap1), some (.int .i64 (k : Int)), some (.pointer (some ⟨ub, uo + k * 3, none⟩)), some (Vv n1 ua t1.len uc uw w1'.length ud), some (Vv n2 va t2.len vc vw w2'.length vd), some (.slice ar r.length capr), none, none, none, none, none] ?aF ?haF _ rfl (by kernel_rfl) ?tops ?htops ⟨HWY.out.drew, rfl, rfl⟩ ?hall ?hend
     case haF => (simp only [layAll, Act.put, Option.getD_some, Option.getD_none, List.setIfInBounds_toArray, List.set_cons_zero, List.set_cons_succ]; rfl)
     case htops => rfl
     case hall =>
      repeat (first | (refine HSteps.skip (by rfl) ?_) | (refine HSteps.read (by rfl) (fun K x hS hK => ?_) ?_; rotate_left))
      ·exact HSteps.nil
      all_goals
       obtain ⟨⟨⟨x0, x1, x2⟩, ⟨x3, x4, x5⟩, x6, x7, x8⟩, ⟨f0, f1, f2⟩, ⟨u0, u1, u2⟩, z0, y0, y1, y2⟩ := HFX.out x hS
       (go_simp; exact hK)
     case hend =>
      refine ⟨⟨HWY.out.drew, rfl, rfl⟩, ?_⟩
      go_simp
      refine callAt (args' := #[F.val ⟨gk, gn, gt⟩ fa fcap, Vv n1 ua t1.len uc uw w1'.length ud, Vv n2 va t2.len vc vw w2'.length vd, .slice ar r.length capr]) rfl ?_
      refine HCL.out.mono ?_
      rintro e w3 ⟨rfl, hb3⟩
      have HB3Y := hid (show Below Y.heap.size Y w3 from ⟨hb3.os, hb3.tape, hb3.output, hb3.size, hb3.block⟩)
      have HB3 := hid (HWY.out.trans (HB3Y.out.mono hWYs))
      have hp3 : pb < w3.heap.size := Nat.lt_of_lt_of_le hpY HB3Y.out.size
      have hy3 : yb < w3.heap.size := Nat.lt_of_lt_of_le hyY HB3Y.out.size
      have HO3 := hid (row_below HOK.out HB3Y.out)
      have HT3 := hid (HTY.out.below HB3Y.out)
      clear hb3
      refine ⟨⟨HB3.out, HB3Y.out.block pb hpY, HB3Y.out.block yb hyY⟩, ?_⟩
      go_simp
      refine ⟨⟨HB3.out.alloc HB3.out.size _, (Below.heap_alloc _ _ _ hp3).trans (HB3Y.out.block pb hpY), (Below.heap_alloc _ _ _ hy3).trans (HB3Y.out.block yb hyY)⟩, ?_⟩
      refine wp_append_at _ _ 92 (by rfl) (pb + 1) 4 i0 (.bool false) 1 1 Tryz.underlying92 HJ.out.1 HJ.out.2.1 HJ.out.2.2.1 HJ.out.2.2.2 rfl (by decide) v j _ (by rfl) (HO3.out.alloc _) (some ⟨w3.heap.size, 0, none⟩) 1 1 [.bool qq] (by rfl) rfl (news_box (heap_new _ _) (by rfl)) (by simp [Value.oneCell']) (by unfold maxLen; omega) (by omega) (by simp; omega) ?_
      intro v' w5 hown5 hgr hat
      obtain ⟨g5, c5, rfl⟩ := own_pos hown5 (by omega)
      have hT5 := (HT3.out.below (ba _ _)).add hlt (Nat.lt_succ_self _) (by rw [← HVV.out]; exact hgr) (by rw [← HVV.out]; exact hat) (by rw [← HQQ.out]; exact hown5)
      have hpb5 : w5.heap[pb]? = w3.heap[pb]? := by
       rw [hgr.block pb (by simp; omega) (fun e => by have h := (HO3.out.lt _ e.symm).1; omega), Below.heap_alloc _ _ _ (by omega)]
      have hyb5 : w5.heap[yb]? = w3.heap[yb]? := by
       rw [hgr.block yb (by simp; omega) (fun e => HYV.out e.symm), Below.heap_alloc _ _ _ (by omega)]
      have HB5 := hid (show Below W.heap.size W w5 from ((HB3.out.alloc HB3.out.size _).grown hgr (by have := HB3.out.size; simp; omega) (fun g hg => by have h := (HO3.out.lt g hg).1; have := HPB.out; omega)))
      have HT5 := hid hT5
      have z5 := (HT3.out.tab.of_block hpb5).cell hlt
      have z6 := (HT3.out.tab.of_block hpb5).frozen k
      have HS5 := hid (show TlS W Y pb yb w5 from ⟨HB5.out, hpb5.trans (HB3Y.out.block pb hpY), hyb5.trans (HB3Y.out.block yb hyY)⟩)
      clear hown5 hgr hat hT5 hpb5 hyb5
      refine ⟨HS5.out, ?_⟩
      go_simp
      refine ⟨HS5.out, ?_⟩
      go_simp
      simp only [wpTail]
      apply_assumption
      go_wp2_with fail
      go_roundw
      case rel => exact ⟨j + 1, _, by omega, by go_num, HT5.out, HB5.out.setCell (p := ⟨pb, k, none⟩) (by have := HPB.out; simp; omega) _⟩
      case measure => simp [intOf]; omega
    ·obtain rfl : j = M := by omega
     clear htm hb
     go_wp2_with fail
     go_roundw
     case rel => exact ⟨k + 1, rows, by omega, by go_num, HT.out.next, HB.out⟩
     case measure => simp [intOf]; omega
  ·obtain rfl : N = k := by omega
   have hT := htm.done
   have HTA := hid (fun x (hx : Below wr.heap.size wr x) => hT.below hx)
   have HWX := hid (fun x (hx : Below wr.heap.size wr x) => (hb.trans (hx.mono hb.size) : Below W.heap.size W x))
   obtain ⟨⟨x0, x1, x2⟩, ⟨x3, x4, x5⟩, x6, x7, x8⟩ := HBX.out wr hb
   clear htm hb b0 b1 b2 b3 b4 b5 b6 b7 b8 HXS HXB HTM hT HT
   rcases HG.out.2.2.1 with hk5 | hk6 | hk7
   ·have hcv := coversR_any (some ⟨pb, 0, none⟩) N N M q wr (HTA.out wr (Below.refl _ _)) (by omega) (by omega)
    rw [hk5] at x0
    have HK := hid hk5
    clear hk5
    go_wp2_with fail
    refine hcv.mono ?_
    rintro e w2 ⟨b, rfl, hiff, hb2⟩
    have HIF := hid hiff
    have HB2 := hid hb2
    clear hiff hb2 hcv
    go_wp2_with fail
    go_ret
    refine ⟨?_, HWB.out.trans ((HWX.out _ HB2.out).mono HWB.out.size)⟩
    have h1 := rel5_tab HRB.out HK.out n n' t t' ws ws'
    rw [← HR.out, ← HN.out, ← HM.out, ← HQ.out] at h1
    rw [Bool.eq_iff_iff.2 (HIF.out.trans h1.symm)]; rfl
   ·obtain ⟨su, hsu⟩ : ∃ su, su = sumN (getW ws) ws.length := ⟨_, rfl⟩
    obtain ⟨sv, hsv⟩ : ∃ sv, sv = sumN (getW ws') ws'.length := ⟨_, rfl⟩
    have HSU := hid (fun x (hx : Below wr.heap.size wr x) => sumW_any (.inl hk6) HU.out.1 c1 cp1 x (HI1.out.below (HWX.out x hx)))
    have HSV := hid (fun x (hx : Below wr.heap.size wr x) => sumW_any (.inl hk6) HU.out.2 c2 cp2 x (HI2.out.below (HWX.out x hx)))
    rw [← hsu] at HSU
    rw [← hsv] at HSV
    have HFL := hid (fun (he : su = sv) x (hx : Below wr.heap.size wr x) => flow6_any HRB.out hk6 HU.out.1 HU.out.2 c1 c2 (some ⟨pb, 0, none⟩) cp1 cp2 N x (HI1.out.below (HWX.out x hx)) (HI2.out.below (HWX.out x hx)) (by rw [← HN.out, ← HM.out, ← HQ.out]; exact HTA.out x hx) (by rw [← hsu, ← hsv]; exact he))
    rw [← HR.out, ← HN.out] at HFL
    have HNO := hid (fun (he : ¬ su = sv) => flow6_no HRB.out hk6 HU.out.1 HU.out.2 (by rw [← hsu, ← hsv]; exact he))
    rw [← HR.out] at HNO
    have HBK := hid (fun x (hx : Below wr.heap.size wr x) => (by have h := HBX.out x (HWX.out x hx); rw [hk6] at h; exact h : (x.cell? ⟨bf, 0, none⟩ = some (.int .i64 6) ∧ x.cell? ⟨bf, 1, none⟩ = some (.int .i64 f.n) ∧ x.cell? ⟨bf, 2, none⟩ = some (.slice a f.t.len cap)) ∧ (x.cell? ⟨bf + 1, 0, none⟩ = some (.int .i64 n) ∧ x.cell? ⟨bf + 1, 1, none⟩ = some (.slice a1 N cap1) ∧ x.cell? ⟨bf + 1, 2, none⟩ = some (.slice c1 ws.length cp1)) ∧ x.cell? ⟨bf + 2, 0, none⟩ = some (.int .i64 n') ∧ x.cell? ⟨bf + 2, 1, none⟩ = some (.slice a2 M cap2) ∧ x.cell? ⟨bf + 2, 2, none⟩ = some (.slice c2 ws'.length cp2)))
    rw [hk6] at x0
    clear hk6 hsu hsv
    go_wp2_with fail
    refine wp_region_plan (by rfl) (fun x => Below wr.heap.size wr x) [some (.pointer (some ⟨bf + 1, 2, none⟩)), some (.slice c1 ws.length cp1), some (.int .i64 su), some (.pointer (some ⟨bf + 1 + 1, 2, none⟩)), some (.slice c2 ws'.length cp2), some (.int .i64 sv), some (.int .i64 su), some (.int .i64 sv)] ?aF6 ?haF6 _ rfl (by kernel_rfl) (Below.refl _ _).drew ?hall6 ?hend6
    case haF6 => (simp only [layAll, Act.put, Option.getD_some, List.setIfInBounds_toArray, List.set_cons_zero, List.set_cons_succ]; rfl)
    case hall6 =>
     repeat (first | (refine Steps.cons (v := none) rfl ?_) | (refine Steps.cons ⟨rfl, fun K x hS hK => ?_⟩ ?_; rotate_left))
     ·exact Steps.nil
     all_goals
      clear x0 x1 x2 x3 x4 x5 x6 x7 x8
      obtain ⟨⟨x0, x1, x2⟩, ⟨x3, x4, x5⟩, x6, x7, x8⟩ := HBK.out x hS
      first
      | (go_simp; exact hK _ hS)
      | (go_simp; refine callAt (args' := #[.slice c1 ws.length cp1]) rfl ?_; refine (HSU.out x hS).mono ?_; rintro e w3 ⟨rfl, rfl⟩; exact hK _ hS)
      | (go_simp; refine callAt (args' := #[.slice c2 ws'.length cp2]) rfl ?_; refine (HSV.out x hS).mono ?_; rintro e w3 ⟨rfl, rfl⟩; exact hK _ hS)
    case hend6 =>
     intro x hx
     have HX := hid hx
     clear hx x0 x1 x2 x3 x4 x5 x6 x7 x8
     obtain ⟨⟨x0, x1, x2⟩, ⟨x3, x4, x5⟩, x6, x7, x8⟩ := HBK.out x HX.out
     by_cases he : su = sv
     ·have hfl := HFL.out he x HX.out
      subst he
      go_wp2_with fail
      refine hfl.mono ?_
      rintro e w2 ⟨rfl, hb2⟩
      have HB2 := hid (HX.out.trans (hb2.mono HX.out.size))
      clear hfl hb2
      go_wp2_with fail
      go_ret
      exact ⟨rfl, HWB.out.trans ((HWX.out _ HB2.out).mono HWB.out.size)⟩
     ·have hRf := HNO.out he
      have hef : (su == sv) = false := by simp [he]
      clear he HFL HNO
      go_wp2_with fail
      go_ret
      exact ⟨by rw [hRf]; rfl, HWB.out.trans ((HWX.out _ HX.out).mono HWB.out.size)⟩
   ·obtain ⟨su, hsu⟩ : ∃ su, su = sumN (getW ws) ws.length := ⟨_, rfl⟩
    obtain ⟨sv, hsv⟩ : ∃ sv, sv = sumN (getW ws') ws'.length := ⟨_, rfl⟩
    have HSU := hid (fun x (hx : Below wr.heap.size wr x) => sumW_any (.inr hk7) HU.out.1 c1 cp1 x (HI1.out.below (HWX.out x hx)))
    have HSV := hid (fun x (hx : Below wr.heap.size wr x) => sumW_any (.inr hk7) HU.out.2 c2 cp2 x (HI2.out.below (HWX.out x hx)))
    rw [← hsu] at HSU
    rw [← hsv] at HSV
    have HT1 := hid (fun x (hx : Below wr.heap.size wr x) => times7_any hk7 HU.out.1 HU.out.2 c1 cp1 x (HI1.out.below (HWX.out x hx)))
    have HT2 := hid (fun x (hx : Below wr.heap.size wr x) => times7_any hk7 HU.out.2 HU.out.1 c2 cp2 x (HI2.out.below (HWX.out x hx)))
    rw [← hsv] at HT1
    rw [← hsu] at HT2
    have HFL := hid (fun x (hx : Below wr.heap.size wr x) l1 q1 l2 q2 (g1 : Cel x l1 ws.length (fun k => .int .i64 (getW ws k * sv))) (g2 : Cel x l2 ws'.length (fun k => .int .i64 (getW ws' k * su))) => flow7_any HRB.out hk7 HU.out.1 HU.out.2 l1 l2 (some ⟨pb, 0, none⟩) q1 q2 N x (by rw [← hsv]; exact g1) (by rw [← hsu]; exact g2) (by rw [← HN.out, ← HM.out, ← HQ.out]; exact HTA.out x hx))
    rw [← HR.out, ← HN.out] at HFL
    have HBK := hid (fun x (hx : Below wr.heap.size wr x) => (by have h := HBX.out x (HWX.out x hx); rw [hk7] at h; exact h : (x.cell? ⟨bf, 0, none⟩ = some (.int .i64 7) ∧ x.cell? ⟨bf, 1, none⟩ = some (.int .i64 f.n) ∧ x.cell? ⟨bf, 2, none⟩ = some (.slice a f.t.len cap)) ∧ (x.cell? ⟨bf + 1, 0, none⟩ = some (.int .i64 n) ∧ x.cell? ⟨bf + 1, 1, none⟩ = some (.slice a1 N cap1) ∧ x.cell? ⟨bf + 1, 2, none⟩ = some (.slice c1 ws.length cp1)) ∧ x.cell? ⟨bf + 2, 0, none⟩ = some (.int .i64 n') ∧ x.cell? ⟨bf + 2, 1, none⟩ = some (.slice a2 M cap2) ∧ x.cell? ⟨bf + 2, 2, none⟩ = some (.slice c2 ws'.length cp2)))
    rw [hk7] at x0
    clear hk7 hsu hsv
    go_wp2_with fail
    refine wp_region_plan (by rfl) (fun x => Below wr.heap.size wr x) [some (.pointer (some ⟨bf + 1, 2, none⟩)), some (.slice c1 ws.length cp1), some (.int .i64 su), some (.pointer (some ⟨bf + 1 + 1, 2, none⟩)), some (.slice c2 ws'.length cp2), some (.int .i64 sv), some (.int .i64 su), some (.int .i64 sv)] ?aF7 ?haF7 _ rfl (by kernel_rfl) (Below.refl _ _).drew ?hall7 ?hend7
    case haF7 => (simp only [layAll, Act.put, Option.getD_some, List.setIfInBounds_toArray, List.set_cons_zero, List.set_cons_succ]; rfl)
    case hall7 =>
     repeat (first | (refine Steps.cons (v := none) rfl ?_) | (refine Steps.cons ⟨rfl, fun K x hS hK => ?_⟩ ?_; rotate_left))
     ·exact Steps.nil
     all_goals
      clear x0 x1 x2 x3 x4 x5 x6 x7 x8
      obtain ⟨⟨x0, x1, x2⟩, ⟨x3, x4, x5⟩, x6, x7, x8⟩ := HBK.out x hS
      first
      | (go_simp; exact hK _ hS)
      | (go_simp; refine callAt (args' := #[.slice c1 ws.length cp1]) rfl ?_; refine (HSU.out x hS).mono ?_; rintro e w3 ⟨rfl, rfl⟩; exact hK _ hS)
      | (go_simp; refine callAt (args' := #[.slice c2 ws'.length cp2]) rfl ?_; refine (HSV.out x hS).mono ?_; rintro e w3 ⟨rfl, rfl⟩; exact hK _ hS)
    case hend7 =>
     intro x hx
     have HX := hid hx
     clear hx x0 x1 x2 x3 x4 x5 x6 x7 x8
     obtain ⟨⟨x0, x1, x2⟩, ⟨x3, x4, x5⟩, x6, x7, x8⟩ := HBK.out x HX.out
     go_wp2_with fail
     refine wp_region_tail (by rfl) (fun x => Below wr.heap.size wr x) [3, 7, 9, 10] [some (.pointer (some ⟨bf + 1, 2, none⟩)), some (.slice c1 ws.length cp1), some (.int .i64 sv), none, some (.pointer (some ⟨bf + 1 + 1, 2, none⟩)), some (.slice c2 ws'.length cp2), some (.int .i64 su), none, some (.slice (some ⟨pb, 0, none⟩) N N), none, none] ?aF8 ?haF8 _ rfl (by kernel_rfl) ?tops8 ?htops8 HX.out.drew ?hall8 ?hend8
     case haF8 => (simp only [layAll, Act.put, Option.getD_some, Option.getD_none, List.setIfInBounds_toArray, List.set_cons_zero, List.set_cons_succ]; rfl)
     case htops8 => rfl
     case hall8 =>
      repeat (first | (refine HSteps.skip (by rfl) ?_) | (refine HSteps.read (by rfl) (fun K x hS hK => ?_) ?_; rotate_left))
      ·exact HSteps.nil
      all_goals
       clear x0 x1 x2 x3 x4 x5 x6 x7 x8
       obtain ⟨⟨x0, x1, x2⟩, ⟨x3, x4, x5⟩, x6, x7, x8⟩ := HBK.out x hS
       (go_simp; exact hK)
     case hend8 =>
      clear x0 x1 x2 x3 x4 x5 x6 x7 x8
      refine ⟨HX.out.drew, ?_⟩
      go_simp
      refine callAt (args' := #[.slice c1 ws.length cp1, .int .i64 sv]) rfl ?_
      refine (HT1.out _ HX.out.drew).mono ?_
      rintro e y1 ⟨l1, q1, rfl, hl1, hb1⟩
      have HY1 := hid (HX.out.drew.trans (hb1.mono HX.out.drew.size))
      have HL1 := hid hl1
      clear hl1 hb1
      refine ⟨HY1.out, ?_⟩
      go_simp
      refine callAt (args' := #[.slice c2 ws'.length cp2, .int .i64 su]) rfl ?_
      refine (HT2.out _ HY1.out).mono ?_
      rintro e y2 ⟨l2, q2, rfl, hl2, hb2⟩
      have HY2 := hid (HY1.out.trans (hb2.mono HY1.out.size))
      have HL2 := hid hl2
      have HL1' := hid (HL1.out.below hb2)
      clear hl2 hb2
      refine ⟨HY2.out, ?_⟩
      go_simp
      refine callAt (args' := #[.slice l1 ws.length q1, .slice l2 ws'.length q2, .slice (some ⟨pb, 0, none⟩) N N]) rfl ?_
      refine (HFL.out _ HY2.out l1 q1 l2 q2 HL1'.out HL2.out).mono ?_
      rintro e y3 ⟨rfl, hb3⟩
      have HY3 := hid (HY2.out.trans (hb3.mono HY2.out.size))
      clear hb3
      refine ⟨HY3.out, ?_⟩
      go_simp
      simp only [wpTail]
      go_wp2_with fail
      go_ret
      exact ⟨rfl, HWB.out.trans ((HWX.out _ HY3.out).mono HWB.out.size)⟩
end Go.Proofs.YtfgpjfgejhahfaaGreatDoor
namespace Go.Proofs.YtfgpjfgejhahfaaGreatDoor
open Go Go.RowKit
theorem relR_all (t : V) : RelR t := by
 refine V.ind ?_ t
 intro t ih nn mm rel r RB S S' Sr f n n' t' ws ws' a a1 a2 c1 c2 ar cap cap1 cap2 cp1 cp2 capr w hrel hRB hs hv hi hv' hi' hr hc hg hu hu'
 rcases kinds_of hg with h | h | h | h | h | h | h | h
 ·obtain ⟨k, fn, ft⟩ := f
  simp only at h; subst h
  exact relR0_any hrel hRB hr hu hu'
 ·exact relRn_any ih hrel hRB hs hv hv' hr hc hg (by omega) hu hu'
 ·exact relRn_any ih hrel hRB hs hv hv' hr hc hg (by omega) hu hu'
 ·exact relRn_any ih hrel hRB hs hv hv' hr hc hg (by omega) hu hu'
 ·exact relRn_any ih hrel hRB hs hv hv' hr hc hg (by omega) hu hu'
 ·exact relRs_any ih hrel hRB hs hv hi hv' hi' hr hc hg (by omega) hu hu'
 ·exact relRs_any ih hrel hRB hs hv hi hv' hi' hr hc hg (by omega) hu hu'
 ·exact relRs_any ih hrel hRB hs hv hi hv' hi' hr hc hg (by omega) hu hu'
end Go.Proofs.YtfgpjfgejhahfaaGreatDoor
