/- Proved here: contracts of the walk to BisimGraphs: image, and functions of states; each under the conditions that its own statement names. -/
import Derived.Test.YtcekilcgpgjooaaGreatDoorG17
import Derived.Test.YtcekilcgpgjooaaGreatDoorG42
set_option maxRecDepth 100000
set_option maxHeartbeats 12800000
namespace Go.Proofs.YtcekilcgpgjooaaGreatDoor
open Go Go.RowKit
open Go.Lib (hid)
theorem wpAppAt {P : Program} {w : World} {o : Oper} {a : Act} {K : Act → World → Prop} {Q : Exit → Act → World → Prop} (s x : Operand) (t : TypeId)
    (ho : o.op = .call { callee := .builtin .append, args := #[s, x], argTypes := #[t, t] }) (base : Nat)
    (e : TypeId) (i : TypeInfo) (z : Value) (size bytes : Nat) (ht : P.underlying t = some (.slice e)) (hi : P.info? e = some i) (hz : i.zero = some z)
    (hsize : i.size = size) (hby : i.bytes = bytes) (hzs : z.cells.size = size) (hsz : 0 < size)
    (v : Value) (n : Nat) (xs : List Value) (hs : a.eval s = v) (hown : w.ownsRow base e size v n xs)
    (src : Option Addr) (m c : Nat) (news : List Value) (hx : a.eval x = .slice src m c) (hl : news.length = m * size) (hnews : ∀ j u, news[j]? = some u → ∃ ad, src = some ad ∧ w.cell? (ad.add j) = some u) (h1 : ∀ u ∈ news, u.oneCell' = true)
    (h63 : n + m ≤ maxLen) (hbytes : (n + m) * bytes ≤ 140737488355328) (hbase : base ≤ w.heap.size)
    (h : ∀ v' w', w'.ownsRow base e size v' (n + m) (xs ++ news) → w.grownBy w' v.ownBlock → (v'.ownBlock = v.ownBlock ∨ v'.ownBlock = some w.heap.size) → K (a.put o.dst v') w') :
    Oper.wp P o a w K Q := by
 obtain ⟨v', w', hr, h2, h3, h4, _⟩ := run_append_any (P := P) (w := w) t o.type e i z size bytes ht hi hz hsize hby hzs hsz base v n xs hown src m c news hl hnews h1 h63 hbytes hbase
 unfold Oper.wp execOp
 simp only [ho, resolve, invoke, builtin, Sem.run_bind, Sem.run_pure, Result.andThen_ok, List.map_toArray, List.map_cons, List.map_nil, hs, hx, hr]
 exact h v' w' h2 h3 h4
def ToOk (g : Nat) (lb : Array Value) (m : Int) (h : Int → Int) (w : World) : Prop := (∀ args w, (callFunc g args).run Tryz.prog w = .ok (.enter g args) w) ∧ ∀ X, Below w.heap.size w X → ∀ x, 0 ≤ x → x < m →
 Calls Tryz.prog g (#[.int .i64 x] ++ lb) X fun e X' => e = .returned (.int .i64 (h x)) ∧ Below X.heap.size X X'
theorem ToOk.below {g : Nat} {lb : Array Value} {m : Int} {h : Int → Int} {w w' : World} (ht : ToOk g lb m h w) (hb : Below w.heap.size w w') : ToOk g lb m h w' := ⟨ht.1, fun X hX => ht.2 X (hb.trans (hX.mono hb.size))⟩
abbrev visFn (tb vb : Nat) : Value := .func (.func 155) #[] #[.pointer (some ⟨tb, 0, none⟩), .pointer (some ⟨vb, 0, none⟩)]
def ImgPost (r : Int × V × List Int) (w : World) (e : Ending) (w' : World) : Prop := ∃ a c cap cp, e = .returned (Vv r.1 a r.2.1.len cap c r.2.2.length cp) ∧ Vl (fun b => w.heap.size ≤ b) w' a r.2.1 ∧ Ints (fun b => w.heap.size ≤ b) w' c r.2.2 ∧ Below w.heap.size w w'
def ImgOk (t : V) : Prop := ∀ (S : Nat → Nat → Prop) (S' : Nat → Prop) (f : F) (n : Int) (ws : List Int) (a a' c : Option Addr) (cap cap' cp tb vb g : Nat) (lb : Array Value) (m : Int) (h : Int → Int) (w : World),
 ToOk g lb m h w → w.cell? ⟨tb, 0, none⟩ = some (.func (.func g) #[] lb) → w.cell? ⟨vb, 0, none⟩ = some (visFn tb vb) → Sl S w a f.t → Vl S' w a' t → Ints S' w c ws → f.good = true → okV nodeOk m f n t ws = true →
 Calls Tryz.prog 155 #[f.val a cap, Vv n a' t.len cap' c ws.length cp, .pointer (some ⟨tb, 0, none⟩), .pointer (some ⟨vb, 0, none⟩)] w (ImgPost (mapE h f (n, t, ws)) w)
theorem mapL_step (h : Int → Int) {t : V} {j : Nat} {n1 : Int} {k1 : V} {ws1 : List Int} {r1 : V} (fs : Nat → F) (hd : t.drop j = .cons n1 k1 ws1 r1) (hd1 : t.drop (j + 1) = r1) :
    (t.drop j).mapL h (fun i => fs (j + i)) = .cons (mapE h (fs j) (n1, k1, ws1)).1 (mapE h (fs j) (n1, k1, ws1)).2.1 (mapE h (fs j) (n1, k1, ws1)).2.2 ((t.drop (j + 1)).mapL h (fun i => fs (j + 1 + i))) := by
 rw [hd, hd1]
 have e : (fun i => fs (j + (i + 1))) = (fun i => fs (j + 1 + i)) := by funext i; congr 1; omega
 simp only [V.mapL, mapE, Nat.add_zero, e]
theorem img_any : ∀ t : V, ImgOk t := by
 refine V.ind ?_
 intro t ih S S' f n ws a a' c cap cap' cp tb vb g lb m h w hto htb hvb hs hv hi hg hok
 obtain ⟨i1, hi1, hv0, hv1, hv2⟩ := info_parts infoV
 obtain ⟨k, hk⟩ : ∃ k, k = f.k := ⟨_, rfl⟩
 have hfv : f.val a cap = .agg #[.int .i64 k, .int .i64 f.n, .slice a f.t.len cap] := by rw [hk]
 obtain ⟨N, hN⟩ : ∃ N, N = t.len := ⟨_, rfl⟩
 obtain ⟨nw, hnw⟩ : ∃ nw, nw = ws.length := ⟨_, rfl⟩
 have hlen := hv.1
 have hlw := hi.1
 rw [← hN] at hlen ⊢
 rw [← hnw] at hlw ⊢
 obtain ⟨W, hW⟩ : ∃ W : World, W = ((w.alloc (Obj.cells #[.int .i64 k, .int .i64 f.n, Value.slice a f.t.len cap] 24)).alloc (Obj.cells #[.int .i64 n, Value.slice a' N cap', Value.slice c nw cp] 58)).alloc (Obj.cells #[.int .i64 0, Value.slice none 0 0, Value.slice none 0 0] 58) := ⟨_, rfl⟩
 have hWb : Below w.heap.size w W := by rw [hW]; exact (ba2 _ _ _).alloc (by simp; omega) _
 have hWs : W.heap.size = w.heap.size + 3 := by rw [hW]; simp
 have g0 : W.heap[w.heap.size]? = some (Obj.cells #[.int .i64 k, .int .i64 f.n, Value.slice a f.t.len cap] 24 (0, 0)) := by rw [hW, Below.heap_alloc _ _ _ (by simp; omega)]; exact heap_old2 _ _ _
 have g1 : W.heap[w.heap.size + 1]? = some (Obj.cells #[.int .i64 n, Value.slice a' N cap', Value.slice c nw cp] 58 (0, 0)) := by rw [hW, Below.heap_alloc _ _ _ (by simp)]; exact heap_new2 _ _ _
 have g2 : W.heap[w.heap.size + 2]? = some (Obj.cells #[.int .i64 0, Value.slice none 0 0, Value.slice none 0 0] 58 (0, 0)) := by rw [hW]; exact look_new (by simp) rfl
 obtain ⟨B, hB⟩ : ∃ B, B = w.heap.size := ⟨_, rfl⟩
 rw [← hB] at g0 g1 g2 hWs
 have HB := hid hB
 have HWB := hid hWb
 have HWS := hid hWs
 have HS := hid (hs.below hWb)
 have HV := hid (hv.below hWb)
 have HI := hid (hi.below hWb)
 have HTO := hid (hto.below hWb)
 have HG0 := hid g0
 have HG1 := hid g1
 have HG2 := hid g2
 have htb' := cell_below hWb htb
 have hvb' := cell_below hWb hvb
 have HTB := hid htb'
 have HVB := hid hvb'
 have IH := hid ih
 have HG := hid hg
 have HOK := hid hok
 obtain ⟨c0, c1, c2⟩ := cells_of g0
 obtain ⟨e0, e1, e2⟩ := cells_of g1
 obtain ⟨r0, r1, r2⟩ := cells_of g2
 have rz : ∀ i, W.frozen? ⟨B + 2, i, none⟩ = false := fun i => frozen_of g2
 have HK := hid hk
 have HNN := hid hN
 have HNW := hid hnw
 clear hto htb hvb hs hv hi hg hok ih hWb hWs g0 g1 g2 hN hnw
 by_cases hk0 : k = 0
 ·subst hk0
  have hok2 := okV_fields HOK.out
  have hw2 := weighs_none (okV_weighs HOK.out) (by rw [← hk]; omega)
  unfold vFields numbersOf argsOf at hok2
  rw [← hk] at hok2
  simp only [if_true, Bool.and_eq_true, decide_eq_true_eq] at hok2
  obtain ⟨⟨h1, h2, h3⟩, _⟩ := hok2
  obtain rfl := len_nil (t := t) (by omega)
  have HC := hid (HTO.out.2 W (Below.refl _ _) n h1 h2)
  have eg := HTO.out.1
  have HE := hid (show mapE h f (n, .nil, ws) = (h n, .nil, []) by
   rw [hw2]
   unfold mapE
   rw [← hk, if_pos rfl, fin_no (by rw [← hk]; rfl)]
   rfl)
  rw [hfv]
  clear h1 h2 h3 hw2 hk hfv
  go_enter Tryz.func155, Tryz.ntmps155
  go_upto_region 1 with (fail)
  rw [← hW, ← hB]
  clear hW hB
  go_wp2_with (go_at_fn g; refine (HC.out).mono ?_; rintro e w1 ⟨rfl, hb1⟩; have HB1 := hid hb1; have hr1 := (hb1.block _ (heap_lt HG2.out)).trans HG2.out; have HR1 := hid hr1; clear r0 r1 r2 rz; obtain ⟨r0, r1, r2⟩ := cells_of hr1; have rz : ∀ i, w1.frozen? ⟨B + 2, i, none⟩ = false := fun i => frozen_of hr1; clear hr1 hb1)
  obtain ⟨z0, z1, z2⟩ := cells_of (store3 (x0 := .int .i64 (h n)) (x1 := .slice none 0 0) (x2 := .slice none 0 0) (show w1.heap[B + 1 + 1]? = _ from HR1.out) rfl)
  refine bodyPost_ret (v := Vv (h n) none 0 0 none 0 0) (by simp [results, Tryz.results155, go_sem, z0, z1, z2]) rfl ?_
  rw [HE.out]
  have hbs : B = w.heap.size := HB.out
  refine ⟨none, none, 0, 0, rfl, ⟨by simp [V.len], rfl⟩, ⟨by simp, Or.inl rfl⟩, ?_⟩
  have hb := HWB.out.trans (HB1.out.mono HWB.out.size)
  exact ((hb.setCell (p := ⟨B + 1 + 1, 0, none⟩) (by simp; omega) _).setCell (p := ⟨B + 1 + 1, 1, none⟩) (by simp; omega) _).setCell (p := ⟨B + 1 + 1, 2, none⟩) (by simp; omega) _
 ·have hk0' : (k == 0) = false := by simpa using hk0
  have hfl := okV_fields HOK.out
  have HFL := hid hfl
  have hn0 : f.k = 3 → 0 ≤ n := fun _ => by
   have := hfl
   unfold vFields at this
   simp only [Bool.and_eq_true, decide_eq_true_eq] at this
   exact this.1.1
  have HN0 := hid hn0
  have HEQ := hid (show mapE h f (n, t, ws) = (n, fin f (t.mapL h (fun j => f.part n j)) ws) by unfold mapE; rw [← hk, if_neg hk0])
  obtain ⟨R, hR⟩ : ∃ R, R = mapE h f (n, t, ws) := ⟨_, rfl⟩
  rw [← hR] at HEQ ⊢
  have hN100 : N ≤ 1000000 := by
   have hNt := HNN.out
   have h9 := F.good_k HG.out
   have h1 := HFL.out
   unfold vFields argsOf at h1
   simp only [Bool.and_eq_true, decide_eq_true_eq] at h1
   have h2 := F.good_len HG.out
   by_cases hc : coll f.k = true
   ·have := okV_many HOK.out hc; omega
   ·have h4 := h1.1.2.2
    have h5 := h2.2.2
    unfold mostOf at h5
    unfold coll at hc
    simp at hc
    (repeat' split at h4) <;> (repeat' split at h5) <;> omega
  rw [hfv]
  have HFV := hid hfv
  clear hfl hn0 hR hfv hk
  obtain ⟨X, hX⟩ : ∃ X : World, X = W.alloc (Obj.cells #[.int .i64 n, Value.slice none 0 0, Value.slice none 0 0] 58) := ⟨_, rfl⟩
  obtain ⟨ob, hob⟩ : ∃ ob, ob = W.heap.size := ⟨_, rfl⟩
  have hXb : X.heap[ob]? = some (Obj.cells #[.int .i64 n, Value.slice none 0 0, Value.slice none 0 0] 58 (0, 0)) := by rw [hX, hob]; exact heap_new _ _
  have hWX : Below W.heap.size W X := by rw [hX]; exact ba _ _
  have HXB := hid hXb
  have HWX := hid hWX
  have hobW : W.heap.size ≤ ob := by omega
  have HOB := hid hobW
  clear hXb hWX hobW
  go_enter Tryz.func155, Tryz.ntmps155
  go_upto_region 1 with (fail)
  rw [← hW, ← hB]
  clear hW hB
  go_upto_region 4 with (fail)
  rw [← hX, ← hob]
  clear hX hob r0 r1 r2 rz
  replace c0 := cell_below HWX.out c0
  replace c1 := cell_below HWX.out c1
  replace c2 := cell_below HWX.out c2
  replace e0 := cell_below HWX.out e0
  replace e1 := cell_below HWX.out e1
  replace e2 := cell_below HWX.out e2
  go_wp2_with fail
  go_loopw [8, 9, 24] (fun _ _ i wr => ∃ (j : Nat) (va : Value) (xs : List Value) (ks : V), j ≤ N ∧ i = .int .i64 j ∧ wr.heap[ob]? = some (Obj.cells #[.int .i64 n, va, .slice none 0 0] 58 (0, 0)) ∧
   wr.ownsRow W.heap.size 58 3 va j xs ∧ ks.Row (OutS W.heap.size ob va) wr xs ∧ ks.len = j ∧ t.mapL h (fun i => f.part n i) = ks.app ((t.drop j).mapL h (fun i => f.part n (j + i))) ∧ va.ownBlock ≠ some ob ∧ Below W.heap.size W wr) (fun _ _ i _ => N - (intOf i).toNat)
  case atStart => exact ⟨0, _, [], .nil, Nat.zero_le _, rfl, HXB.out, World.ownsRow_nil _ _ _ _, rfl, rfl, by simp [V.app], by simp [Value.ownBlock], HWX.out⟩
  case round =>
   obtain ⟨j, va, xs, ks, hj, rfl, hobr, hown, hrow, hkl, hmp, hvo, hb⟩ := hrel
   have HOBR := hid hobr
   have HOWN := hid hown
   have HROW := hid hrow
   have HKL := hid hkl
   have HMP := hid hmp
   have HVO := hid hvo
   have HBB := hid hb
   have hsz := hb.size
   clear hobr hown hrow hkl hmp hvo c0 c1 c2 e0 e1 e2
   by_cases hlt : j < N
   ·have hjt : j < t.len := by rw [← HNN.out]; exact hlt
    obtain ⟨b, o, rfl, hat⟩ := HV.out.addr hjt
    obtain ⟨n1, k1, ws1, t1, hd, hd1⟩ := V.drop_lt hjt
    obtain ⟨d0, ⟨a1, cap1, d1, hv1⟩, ⟨c1, cp1, d2, hi1'⟩⟩ := hat.get hd
    replace d0 := cell_below hb d0
    replace d1 := cell_below hb d1
    replace d2 := cell_below hb d2
    have hga := good_at HG.out HFL.out hjt
    have hgp := good_part HG.out HFL.out hjt
    have hoe := ok_el HOK.out hjt
    rw [V.el_drop hd] at hoe
    have HMS := hid (mapL_step h (fun i => f.part n i) hd hd1)
    obtain ⟨X1, hX1⟩ : ∃ X1 : World, X1 = wr.alloc (Obj.cells #[.int .i64 n1, .slice a1 k1.len cap1, .slice c1 ws1.length cp1] 58) := ⟨_, rfl⟩
    obtain ⟨xb, hxb⟩ : ∃ xb, xb = wr.heap.size := ⟨_, rfl⟩
    have hX1b : X1.heap[xb]? = some (Obj.cells #[.int .i64 n1, .slice a1 k1.len cap1, .slice c1 ws1.length cp1] 58 (0, 0)) := by rw [hX1, hxb]; exact heap_new _ _
    have hwX : Below wr.heap.size wr X1 := by rw [hX1]; exact ba _ _
    have hWX1 : Below W.heap.size W X1 := hb.trans (hwX.mono hb.size)
    have hvlt : ∀ q, va.ownBlock = some q → W.heap.size ≤ q ∧ q < xb := fun q hq => by rw [hxb]; exact HOWN.out.lt q hq
    have hxo := (hwX.block _ (heap_lt HOBR.out)).trans HOBR.out
    have HX1B := hid hX1b
    have HXO := hid hxo
    have HWX1 := hid hWX1
    have HVLT := hid hvlt
    have HXR := hid (row_below HOWN.out hwX)
    have HXROW := hid (V.Row.mono (S := OutS W.heap.size ob va) (S' := OutS W.heap.size ob va) (w := wr) (w' := X1) (fun _ _ hv => hv.below hwX) (fun _ _ hv => hv.below hwX) HROW.out)
    have hvbW : vb < W.heap.size := lt_of_cell HVB.out
    have HFF := hid (fun z (hz : X1.grownBy z va.ownBlock) => (show (_ ∧ _ ∧ _) ∧ (_ ∧ _ ∧ _) ∧ (_ ∧ _ ∧ _) ∧ (_ ∧ _ ∧ _) ∧ _ from
     ⟨cells_of ((hz.block B (Nat.lt_of_lt_of_le (heap_lt HG0.out) hWX1.size) (fun e => by have := (hvlt _ e.symm).1; have := heap_lt HG0.out; omega)).trans ((hWX1.block _ (heap_lt HG0.out)).trans HG0.out)),
      cells_of ((hz.block (B + 1) (Nat.lt_of_lt_of_le (heap_lt HG1.out) hWX1.size) (fun e => by have := (hvlt _ e.symm).1; have := heap_lt HG1.out; omega)).trans ((hWX1.block _ (heap_lt HG1.out)).trans HG1.out)),
      cells_of ((hz.block ob (heap_lt hxo) (fun e => HVO.out e.symm)).trans hxo),
      cells_of ((hz.block xb (heap_lt hX1b) (fun e => by have := (hvlt _ e.symm).2; omega)).trans hX1b),
      (show z.cell? ⟨vb, 0, none⟩ = some (visFn tb vb) by
       rw [World.cell?_of_block (w := X1) (a := ⟨vb, 0, none⟩) (hz.block vb (Nat.lt_of_lt_of_le hvbW hWX1.size) (fun e => by have := (hvlt _ e.symm).1; omega))]
       exact cell_below hWX1 HVB.out)⟩))
    have hpa := (fun z (hz : Below X1.heap.size X1 z) => part_any S f j a (some ⟨b, o, none⟩) c cap cap' cp n N nw z ((HS.out.below hWX1).below hz) hga HN0.out)
    rw [HFV.out] at hpa
    have HPA := hid hpa
    have HIM := hid (fun z (hz : Below X1.heap.size X1 z) fa fcap (hsl : Sl S z fa (f.part n j).t) => IH.out j n1 k1 ws1 t1 hd S S' (f.part n j) n1 ws1 fa a1 c1 fcap cap1 cp1 tb vb g lb m h z ((HTO.out.below hWX1).below hz) (cell_below hz (cell_below hWX1 HTB.out)) (cell_below hz (cell_below hWX1 HVB.out)) hsl ((hv1.below hWX1).below hz) ((hi1'.below hWX1).below hz) hgp hoe)
    obtain ⟨r, hr⟩ : ∃ r, r = mapE h (f.part n j) (n1, k1, ws1) := ⟨_, rfl⟩
    rw [← hr] at HIM HMS
    have HRR := hid hr
    have hs0 : X1.grownBy X1.drew va.ownBlock := ⟨rfl, rfl, rfl, Nat.le_refl _, fun _ _ _ => rfl⟩
    have HS0 := hid hs0
    have hsX := hWX1.size
    have hjn : j ≤ 1000000 := by omega
    clear hat hd hd1 hv1 hi1' hga hgp hoe hpa hX1b hwX hWX1 hvlt hxo hr hs0 hvbW hb
    go_upto_region 7 with (fail)
    rw [← hX1, ← hxb]
    clear hX1 hxb d0 d1 d2
    refine wp_region_tail (by rfl) (fun z => X1.grownBy z va.ownBlock) [6, 8, 9, 10, 11, 12] [some (.pointer (some ⟨ob, 1, none⟩)), some va, some (visFn tb vb), some (.int .i64 (j : Int)), some (.agg #[.int .i64 k, .int .i64 f.n, .slice a f.t.len cap]), some (Vv n (some ⟨b, o, none⟩) N cap' c nw cp), none, some (Vv n1 a1 k1.len cap1 c1 ws1.length cp1), none, none, none, none, none] ?aF ?haF _ rfl (by kernel_rfl) ?tops ?htops HS0.out ?hall ?hend
    case haF => (simp only [layAll, Act.put, Option.getD_some, Option.getD_none, List.setIfInBounds_toArray, List.set_cons_zero, List.set_cons_succ]; rfl)
    case htops => rfl
    case hall =>
     repeat (first | (refine HSteps.skip (by rfl) ?_) | (refine HSteps.read (by rfl) (fun K x hS hK => ?_) ?_; rotate_left))
     ·exact HSteps.nil
     all_goals
      obtain ⟨⟨y0, y1, y2⟩, ⟨y3, y4, y5⟩, ⟨y6, y7, y8⟩, ⟨y9, y10, y11⟩, y12⟩ := HFF.out x hS
      (go_simp; exact hK)
    case hend =>
     refine ⟨HS0.out, ?_⟩
     go_simp
     have hxd : Below X1.heap.size X1 X1.drew := (Below.refl _ _).drew
     refine (HPA.out _ hxd).mono ?_
     rintro e z1 ⟨fa, fcap, rfl, hsl, hb1⟩
     have hz1 : Below X1.heap.size X1 z1 := hxd.trans (hb1.mono hxd.size)
     have HZ1 := hid hz1
     have HIZ := hid (HIM.out z1 hz1 fa fcap hsl)
     have hgz1 : X1.grownBy z1 va.ownBlock := ⟨hz1.os, hz1.tape, hz1.output, hz1.size, fun q hq _ => hz1.block q hq⟩
     clear hsl hb1 hz1 hxd
     refine ⟨hgz1, ?_⟩
     go_simp
     refine callAt (args' := #[(f.part n j).val fa fcap, Vv n1 a1 k1.len cap1 c1 ws1.length cp1, .pointer (some ⟨tb, 0, none⟩), .pointer (some ⟨vb, 0, none⟩)]) rfl ?_
     refine HIZ.out.mono ?_
     rintro e z2 ⟨ra, rc, rcap, rcp, rfl, hrv, hri, hb2⟩
     have hz2 : Below X1.heap.size X1 z2 := HZ1.out.trans (hb2.mono HZ1.out.size)
     have HZ2 := hid hz2
     have hz1s := HZ1.out.size
     have HRV := hid (hrv.weaken (S' := fun q => X1.heap.size ≤ q) (fun q h => by omega))
     have HRI := hid (hri.weaken (S' := fun q => X1.heap.size ≤ q) (fun q h => by omega))
     have hz2s := hz2.size
     clear hgz1 hrv hri hb2 hz2 hz1s
     refine ⟨⟨HZ2.out.os, HZ2.out.tape, HZ2.out.output, HZ2.out.size, fun q hq _ => HZ2.out.block q hq⟩, ?_⟩
     go_simp
     refine ⟨⟨HZ2.out.os, HZ2.out.tape, HZ2.out.output, by simp; omega, fun q hq _ => (Below.heap_alloc _ _ _ (by omega)).trans (HZ2.out.block q hq)⟩, ?_⟩
     refine wpAppAt _ _ 25 (by rfl) W.heap.size 58 i1 (.agg #[.int .i64 0, .slice none 0 0, .slice none 0 0]) 3 56 Tryz.underlying25 hi1 hv0 hv1 hv2 rfl (by decide) va j xs (by rfl) ((row_below HXR.out HZ2.out).alloc _) (some ⟨z2.heap.size, 0, none⟩) 1 1 [.int .i64 r.1, .slice ra r.2.1.len rcap, .slice rc r.2.2.length rcp] (by rfl) rfl (news_box (heap_new _ _) (by rfl)) (by simp [Value.oneCell']) (by unfold maxLen; omega) (by omega) (by simp; omega) ?_
     intro v' w5 hown5 hgr hat
     obtain ⟨g5, cap5, rfl, hg5, _⟩ := hown5.form (by omega)
     have hxz : X1.grownBy (z2.alloc (Obj.cells #[.int .i64 r.1, .slice ra r.2.1.len rcap, .slice rc r.2.2.length rcp] 58)) va.ownBlock := ⟨HZ2.out.os, HZ2.out.tape, HZ2.out.output, by simp; omega, fun q hq _ => (Below.heap_alloc _ _ _ (by omega)).trans (HZ2.out.block q hq)⟩
     have hgw : X1.grownBy w5 va.ownBlock := gb_step hxz hgr (fun q h => Or.inr h)
     have hobX := heap_lt HXO.out
     have hq : w5.heap[ob]? = some (Obj.cells #[.int .i64 n, va, .slice none 0 0] 58 (0, 0)) := (hgw.block ob hobX (fun e => HVO.out e.symm)).trans HXO.out
     obtain ⟨q0, q1, q2⟩ := cells_of hq
     have qf := frozen_of (o := 1) hq
     have HQ := hid hq
     have HGR := hid (show (z2.alloc (Obj.cells #[.int .i64 r.1, .slice ra r.2.1.len rcap, .slice rc r.2.2.length rcp] 58)).grownBy w5 va.ownBlock from hgr)
     have HAT := hid (show (Value.slice (some ⟨g5, 0, none⟩) (j + 1) cap5).ownBlock = va.ownBlock ∨ (Value.slice (some ⟨g5, 0, none⟩) (j + 1) cap5).ownBlock = some (z2.alloc (Obj.cells #[.int .i64 r.1, .slice ra r.2.1.len rcap, .slice rc r.2.2.length rcp] 58)).heap.size from hat)
     have HO5 := hid hown5
     have HGW := hid hgw
     clear hown5 hgr hat hxz hq hgw
     refine ⟨HGW.out, ?_⟩
     go_simp
     refine ⟨HGW.out, ?_⟩
     go_simp
     simp only [wpTail]
     apply_assumption
     clear q0 q1 q2 qf
     go_wp2_with fail
     go_roundw
     case rel =>
      obtain ⟨vv, hvv⟩ : ∃ vv, vv = Value.slice (some ⟨g5, 0, none⟩) (j + 1) cap5 := ⟨_, rfl⟩
      rw [← hvv] at HAT HO5 ⊢
      have hv2 : ∀ q, va.ownBlock = some q → W.heap.size ≤ q ∧ q < X1.heap.size := fun q hq => ⟨(HVLT.out q hq).1, by have := (HVLT.out q hq).2; have := heap_lt HX1B.out; omega⟩
      have hne : vv.ownBlock ≠ some ob := by
       rcases HAT.out with e | e
       ·rw [e]; exact HVO.out
       ·rw [e]; intro h; have := Option.some.inj h; simp at this; omega
      have hb5 : Below W.heap.size W w5 := by
       have h1 := HWX1.out.trans (HZ2.out.mono HWX1.out.size)
       exact (h1.alloc h1.size _).grown HGR.out (by have := h1.size; simp; omega) (fun q hq => (hv2 q hq).1)
      have hOS : ∀ b, OutS W.heap.size ob va b → b < z2.heap.size → OutS W.heap.size ob va b := fun b h _ => h
      have hON : ∀ b, X1.heap.size ≤ b → b < z2.heap.size → OutS W.heap.size ob va b := fun b h _ => ⟨by omega, by omega, fun e => by have := hv2 b e.symm; omega⟩
      have hr6 := V.Row.app (V.Row.mono (fun a u h => vl_step (h.below HZ2.out) hOS HGR.out HAT.out vv) (fun a u h => ints_step (h.below HZ2.out) hOS HGR.out HAT.out vv) HXROW.out) (show (V.cons r.1 r.2.1 r.2.2 .nil).Row (OutS W.heap.size ob vv) (w5.setCell ⟨ob, 1, none⟩ vv) [.int .i64 r.1, .slice ra r.2.1.len rcap, .slice rc r.2.2.length rcp] from ⟨ra, rcap, rc, rcp, [], rfl, vl_step HRV.out hON HGR.out HAT.out vv, ints_step HRI.out hON HGR.out HAT.out vv, rfl⟩)
      refine ⟨j + 1, vv, _, ks.app (.cons r.1 r.2.1 r.2.2 .nil), by omega, by go_num, set_second HQ.out, HO5.out.kept (gb_set _ _ _ _) (Or.inr hne), hr6, by rw [V.app_len, HKL.out]; rfl, ?_, hne, hb5.setCell (p := ⟨ob, 1, none⟩) HOB.out vv⟩
      rw [HMP.out, HMS.out, V.app_assoc]
      rfl
     case measure => simp [intOf]; omega
   ·obtain rfl : j = N := by omega
    have hks : t.mapL h (fun i => f.part n i) = ks := by
     rw [HMP.out, HNN.out, V.drop_all]
     simp only [V.mapL, V.app_nil]
    obtain ⟨va1, vcap, hve, hvl⟩ := vl_of_row (S := OutS W.heap.size ob va) (S' := fun q => W.heap.size ≤ q) (t := ks) (by rw [HKL.out]; exact hN100) (by rw [HKL.out]; exact HOWN.out) HROW.out (fun q hq => hq.1) (fun q _ hq => hq)
    rw [HKL.out] at hve
    subst hve
    have HVL := hid hvl
    have HKS := hid hks
    obtain ⟨c0, c1, c2⟩ := cells_of ((hb.block _ (heap_lt HG0.out)).trans HG0.out)
    have HCB := hid (fun z (hz : Below wr.heap.size wr z) => (show (_ ∧ _ ∧ _) ∧ (_ ∧ _ ∧ _) ∧ (_ ∧ _ ∧ _) ∧ z.heap[B + 1 + 1]? = _ from
     ⟨cells_of (((hb.trans (hz.mono hb.size)).block _ (heap_lt HG0.out)).trans HG0.out), cells_of (((hb.trans (hz.mono hb.size)).block _ (heap_lt HG1.out)).trans HG1.out), cells_of ((hz.block _ (heap_lt HOBR.out)).trans HOBR.out), ((hb.trans (hz.mono hb.size)).block _ (heap_lt HG2.out)).trans HG2.out⟩))
    have HCO := hid (coll_any k f.n a f.t.len cap wr)
    obtain ⟨q, hq⟩ : ∃ q, q = coll k := ⟨_, rfl⟩
    rw [← hq] at HCO
    have HQ := hid hq
    clear hb hks hvl hq hsz
    go_wp2_with fail
    refine HCO.out.mono ?_
    rintro e w2 ⟨rfl, hb2⟩
    have HB2 := hid hb2
    clear c0 c1 c2
    obtain ⟨⟨c0, c1, c2⟩, ⟨e0, e1, e2⟩, ⟨o0, o1, o2⟩, hr2⟩ := HCB.out _ hb2
    obtain ⟨r0, r1, r2⟩ := cells_of hr2
    have rz : ∀ i, w2.frozen? ⟨B + 1 + 1, i, none⟩ = false := fun i => frozen_of hr2
    have HR2 := hid hr2
    clear hb2 hr2
    cases q with
    | false =>
     have HW0 := hid (show ws = [] from weighs_none (okV_weighs HOK.out) (by
      intro h6
      have h7 := HQ.out.symm
      unfold coll at h7
      rw [decide_eq_false_iff_not] at h7
      rw [← HK.out] at h6
      omega))
     have HFI := hid (show R = (n, ks, []) by rw [HEQ.out, fin_no (by rw [← HK.out]; exact HQ.out.symm), HKS.out, HW0.out])
     go_wp2_with fail
     obtain ⟨z0, z1, z2⟩ := cells_of (store3 (x0 := .int .i64 n) (x1 := .slice va1 j vcap) (x2 := .slice none 0 0) HR2.out rfl)
     refine bodyPost_ret (v := Vv n va1 j vcap none 0 0) (by simp [results, Tryz.results155, go_sem, z0, z1, z2]) rfl ?_
     have hk3 : Kept (fun b => b = B + 1 + 1) w2 (((w2.setCell ⟨B + 1 + 1, 0, none⟩ (.int .i64 n)).setCell ⟨B + 1 + 1, 1, none⟩ (.slice va1 j vcap)).setCell ⟨B + 1 + 1, 2, none⟩ (.slice none 0 0)) := (((Kept.refl (fun b => b = B + 1 + 1) w2).set (p := ⟨B + 1 + 1, 0, none⟩) (Or.inl rfl) _).set (p := ⟨B + 1 + 1, 1, none⟩) (Or.inl rfl) _).set (p := ⟨B + 1 + 1, 2, none⟩) (Or.inl rfl) _
     have hws := HWS.out
     have hbe : B = w.heap.size := HB.out
     have hbw2 : Below w.heap.size w w2 := HWB.out.trans ((HBB.out.trans (HB2.out.mono HBB.out.size)).mono HWB.out.size)
     rw [HFI.out]
     refine ⟨va1, none, vcap, 0, by rw [HKL.out]; rfl, ?_, ⟨by simp, Or.inl rfl⟩, hbw2.trans (hk3.toBelow hbw2.size (fun b hb e => by omega))⟩
     exact ((HVL.out.below HB2.out).keptP hk3 (fun b h e => by omega)).weaken (fun b h => by omega)
    | true =>
     have HCL := hid (collect_any (fun q => W.heap.size ≤ q) S' f a va1 c cap vcap cp ks ws w2 (HVL.out.below HB2.out) (HI.out.below (HBB.out.trans (HB2.out.mono HBB.out.size))) (fun q hq => by have := HB2.out.size; have := HBB.out.size; omega) (by rw [← HK.out]; exact HQ.out.symm) (by
      have h1 := okV_weighs HOK.out
      rw [← HNN.out, ← HKL.out] at h1
      exact h1) (by rw [HKL.out]; exact hN100))
     rw [HKL.out, ← HNW.out, HFV.out] at HCL
     have HFI := hid (show R = (0, mrg f.k ks ws) by
      rw [HEQ.out, fin_yes (by rw [← HK.out]; exact HQ.out.symm), HKS.out]
      have h1 := HFL.out
      have h2 := HQ.out.symm
      unfold vFields numbersOf at h1
      simp only [Bool.and_eq_true, decide_eq_true_eq] at h1
      rw [← HK.out] at h1 ⊢
      unfold coll at h2
      rw [decide_eq_true_eq] at h2
      rw [if_neg (by omega), if_neg (by omega), if_neg (by omega)] at h1
      rw [show n = 0 by omega])
     go_wp2_with fail
     refine HCL.out.mono ?_
     rintro e w3 ⟨a2, c2', cap2, cp2, rfl, hv3, hi3, hb3⟩
     have hr3 := (hb3.block _ (heap_lt HR2.out)).trans HR2.out
     have HR3 := hid hr3
     have HV3 := hid hv3
     have HI3 := hid hi3
     have HB3 := hid hb3
     clear c0 c1 c2 e0 e1 e2 o0 o1 o2 r0 r1 r2 rz hv3 hi3 hb3
     obtain ⟨r0, r1, r2⟩ := cells_of hr3
     have rz : ∀ i, w3.frozen? ⟨B + 1 + 1, i, none⟩ = false := fun i => frozen_of hr3
     obtain ⟨mk, hmk⟩ : ∃ mk, mk = mrg f.k ks ws := ⟨_, rfl⟩
     rw [← hmk] at HFI HV3 HI3 ⊢
     clear hr3 hmk
     go_wp2_with fail
     obtain ⟨z0, z1, z2⟩ := cells_of (store3 (x0 := .int .i64 0) (x1 := .slice a2 mk.1.len cap2) (x2 := .slice c2' mk.2.length cp2) HR3.out rfl)
     refine bodyPost_ret (v := Vv 0 a2 mk.1.len cap2 c2' mk.2.length cp2) (by simp [results, Tryz.results155, go_sem, z0, z1, z2]) rfl ?_
     have hk3 : Kept (fun b => b = B + 1 + 1) w3 (((w3.setCell ⟨B + 1 + 1, 0, none⟩ (.int .i64 0)).setCell ⟨B + 1 + 1, 1, none⟩ (.slice a2 mk.1.len cap2)).setCell ⟨B + 1 + 1, 2, none⟩ (.slice c2' mk.2.length cp2)) := (((Kept.refl (fun b => b = B + 1 + 1) w3).set (p := ⟨B + 1 + 1, 0, none⟩) (Or.inl rfl) _).set (p := ⟨B + 1 + 1, 1, none⟩) (Or.inl rfl) _).set (p := ⟨B + 1 + 1, 2, none⟩) (Or.inl rfl) _
     have hws := HWS.out
     have hbe : B = w.heap.size := HB.out
     have hbw2 : Below w.heap.size w w2 := HWB.out.trans ((HBB.out.trans (HB2.out.mono HBB.out.size)).mono HWB.out.size)
     have hw2s : W.heap.size ≤ w2.heap.size := Nat.le_trans HBB.out.size HB2.out.size
     have hbw3 := hbw2.trans (HB3.out.mono hbw2.size)
     rw [HFI.out]
     refine ⟨a2, c2', cap2, cp2, rfl, ?_, ?_, hbw3.trans (hk3.toBelow hbw3.size (fun b hb e => by omega))⟩
     ·exact (HV3.out.keptP hk3 (fun b h e => by omega)).weaken (fun b h => by omega)
     ·exact (HI3.out.keptP hk3 (fun b h e => by omega)).weaken (fun b h => by omega)
def FnOk (g : Nat) (lb : Array Value) (p : Int → Bool) (w : World) : Prop := (∀ args w, (callFunc g args).run Tryz.prog w = .ok (.enter g args) w) ∧ ∀ X, Below w.heap.size w X → ∀ x,
 Calls Tryz.prog g (#[.int .i64 x] ++ lb) X fun e X' => e = .returned (.bool (p x)) ∧ Below X.heap.size X X'
theorem FnOk.below {g : Nat} {lb : Array Value} {p : Int → Bool} {w w' : World} (ht : FnOk g lb p w) (hb : Below w.heap.size w w') : FnOk g lb p w' := ⟨ht.1, fun X hX => ht.2 X (hb.trans (hX.mono hb.size))⟩
theorem indexF_any (S : Nat → Prop) (a : Option Addr) (cap : Nat) (l : List Int) (g : Nat) (lb : Array Value) (p : Int → Bool) (w : World) (hi : Ints S w a l) (hf : FnOk g lb p w) :
    Calls Tryz.prog 114 #[.slice a l.length cap, .func (.func g) #[] lb] w fun e w' => ∃ r : Int, e = .returned (.int .i64 r) ∧ decide (0 ≤ r) = l.any p ∧ Below w.heap.size w w' := by
 obtain ⟨N, hN⟩ : ∃ N, N = l.length := ⟨_, rfl⟩
 have hlen := hi.1
 rw [← hN] at hlen ⊢
 have HN := hid hN
 have HI := hid hi
 have HF := hid hf
 have eg := hf.1
 clear hN hi hf
 go_enter Tryz.func114, Tryz.ntmps114
 go_wp2_with fail
 go_loopw [5, 8] (fun _ i wr => ∃ j : Nat, j ≤ N ∧ i = .int .i64 j ∧ (l.take j).any p = false ∧ Below w.heap.size w wr) (fun _ i _ => N - (intOf i).toNat)
 case atStart => exact ⟨0, Nat.zero_le _, rfl, by simp, Below.refl _ _⟩
 case round =>
  obtain ⟨j, hj, rfl, hno, hb⟩ := hrel
  have HNO := hid hno
  have HB := hid hb
  clear hno
  by_cases hlt : j < N
  ·have hjl : j < l.length := by rw [← HN.out]; exact hlt
   obtain ⟨b, o, rfl, d0⟩ := HI.out.get hjl
   replace d0 := cell_below hb d0
   obtain ⟨x, hx⟩ : ∃ x, x = l[j] := ⟨_, rfl⟩
   rw [← hx] at d0
   have HC := hid (HF.out.2 wr hb x)
   obtain ⟨q, hq⟩ : ∃ q, q = p x := ⟨_, rfl⟩
   rw [← hq] at HC
   have HST := hid (show (l.take (j + 1)).any p = q by rw [List.take_succ_eq_append_getElem hjl, List.any_append, HNO.out, ← hx]; simp [hq])
   clear hb hx hq
   cases q with
   | true =>
    have HA := hid (show l.any p = true by
     have h1 := HST.out
     rw [List.any_eq_true] at h1 ⊢
     obtain ⟨y, hy, h2⟩ := h1
     exact ⟨y, List.mem_of_mem_take hy, h2⟩)
    go_wp2_with (go_at_fn g; refine HC.out.mono ?_; rintro e w2 ⟨rfl, hb2⟩)
    go_ret
    exact ⟨(j : Int), rfl, by rw [HA.out]; simp, HB.out.trans (hb2.mono HB.out.size)⟩
   | false =>
    go_wp2_with (go_at_fn g; refine HC.out.mono ?_; rintro e w2 ⟨rfl, hb2⟩)
    go_roundw
    case rel => exact ⟨j + 1, by omega, by go_num, HST.out, HB.out.trans (hb2.mono HB.out.size)⟩
    case measure => simp [intOf]; omega
  ·obtain rfl : j = N := by omega
   have HA := hid (show l.any p = false by have := HNO.out; rwa [HN.out, List.take_length] at this)
   clear hb
   go_wp2_with fail
   go_ret
   exact ⟨-1, rfl, by rw [HA.out]; rfl, HB.out⟩
theorem containsF_any (S : Nat → Prop) (a : Option Addr) (cap : Nat) (l : List Int) (g : Nat) (lb : Array Value) (p : Int → Bool) (w : World) (hi : Ints S w a l) (hf : FnOk g lb p w) :
    Calls Tryz.prog 80 #[.slice a l.length cap, .func (.func g) #[] lb] w fun e w' => e = .returned (.bool (l.any p)) ∧ Below w.heap.size w w' := by
 have HC := hid (indexF_any S a cap l g lb p w hi hf)
 clear hi hf
 go_enter Tryz.func80, Tryz.ntmps80
 go_wp2_with fail
 refine HC.out.mono ?_
 rintro e w1 ⟨r, rfl, hr, hb⟩
 have HR := hid hr
 clear hr
 go_wp2_with fail
 go_ret
 exact ⟨by rw [← HR.out]; rfl, hb⟩
theorem any_not {l : List Int} {p : Int → Bool} : (!l.any (fun x => !p x)) = l.all p := by
 rw [Bool.eq_iff_iff]
 simp [List.all_eq_true]
theorem all1_ok (b g : Nat) (lb : Array Value) (p : Int → Bool) (w : World) (hf : FnOk g lb p w) (hc : w.cell? ⟨b, 0, none⟩ = some (.func (.func g) #[] lb)) : FnOk 154 #[.pointer (some ⟨b, 0, none⟩)] (fun x => !p x) w := by
 refine ⟨enters_of Tryz.func154 (by kernel_rfl) rfl, fun X hX x => ?_⟩
 have HC := hid (hf.2 X hX x)
 have eg := hf.1
 have c0 := cell_below hX hc
 obtain ⟨q, hq⟩ : ∃ q, q = p x := ⟨_, rfl⟩
 show Calls Tryz.prog 154 #[.int .i64 x, .pointer (some ⟨b, 0, none⟩)] X fun e X' => e = .returned (.bool (!p x)) ∧ Below X.heap.size X X'
 rw [← hq] at HC ⊢
 clear hf hX hc hq
 go_enter Tryz.func154, Tryz.ntmps154
 go_wp2_with (go_at_fn g; refine HC.out.mono ?_; rintro e w2 ⟨rfl, hb2⟩)
 go_ret
 exact ⟨rfl, hb2⟩
theorem allI_any (S : Nat → Prop) (a : Option Addr) (cap : Nat) (l : List Int) (g : Nat) (lb : Array Value) (p : Int → Bool) (w : World) (hi : Ints S w a l) (hf : FnOk g lb p w) :
    Calls Tryz.prog 116 #[.slice a l.length cap, .func (.func g) #[] lb] w fun e w' => e = .returned (.bool (l.all p)) ∧ Below w.heap.size w w' := by
 obtain ⟨W, hW⟩ : ∃ W : World, W = w.alloc (Obj.cells #[.func (.func g) #[] lb] 102) := ⟨_, rfl⟩
 have hWb : Below w.heap.size w W := by rw [hW]; exact ba _ _
 have hc : W.cell? ⟨w.heap.size, 0, none⟩ = some (.func (.func g) #[] lb) := by rw [hW]; simp
 obtain ⟨b, hb⟩ : ∃ b, b = w.heap.size := ⟨_, rfl⟩
 rw [← hb] at hc
 have HC := hid (containsF_any S a cap l _ _ _ W (hi.below hWb) (all1_ok b g lb p W (hf.below hWb) hc))
 have HWB := hid hWb
 clear hi hf hWb hc
 go_enter Tryz.func116, Tryz.ntmps116
 go_wp2_with fail
 rw [← hW, ← hb]
 clear hW hb
 refine HC.out.mono ?_
 rintro e w1 ⟨rfl, hb1⟩
 go_wp2_with fail
 go_ret
 exact ⟨by rw [← any_not]; rfl, HWB.out.trans (hb1.mono HWB.out.size)⟩
theorem map1_ok (w : World) : FnOk 115 #[] (fun x => decide (0 ≤ x ∧ x < 100)) w := by
 refine ⟨enters_of Tryz.func115 (by kernel_rfl) rfl, fun X hX x => ?_⟩
 show Calls Tryz.prog 115 #[.int .i64 x] X fun e X' => e = .returned (.bool (decide (0 ≤ x ∧ x < 100))) ∧ Below X.heap.size X X'
 clear hX
 by_cases h0 : 0 ≤ x
 ·have h0' : decide ((0 : Int) ≤ x) = true := decide_eq_true h0
  have HE := hid (show decide (0 ≤ x ∧ x < 100) = decide (x < 100) by simp [h0])
  clear h0
  go_enter Tryz.func115, Tryz.ntmps115
  go_wp2_with fail
  go_ret
  exact ⟨by rw [HE.out]; rfl, Below.refl _ _⟩
 ·have h0' : decide ((0 : Int) ≤ x) = false := decide_eq_false h0
  have HE := hid (show decide (0 ≤ x ∧ x < 100) = false by simp [h0])
  clear h0
  go_enter Tryz.func115, Tryz.ntmps115
  go_wp2_with fail
  go_ret
  exact ⟨by rw [HE.out]; rfl, Below.refl _ _⟩
theorem are1_ok (b : Nat) (n : Int) (w : World) (hc : w.cell? ⟨b, 0, none⟩ = some (.int .i64 n)) : FnOk 81 #[.pointer (some ⟨b, 0, none⟩)] (fun x => !decide (0 ≤ x ∧ x < n)) w := by
 refine ⟨enters_of Tryz.func81 (by kernel_rfl) rfl, fun X hX x => ?_⟩
 show Calls Tryz.prog 81 #[.int .i64 x, .pointer (some ⟨b, 0, none⟩)] X fun e X' => e = .returned (.bool (!decide (0 ≤ x ∧ x < n))) ∧ Below X.heap.size X X'
 have c0 := cell_below hX hc
 clear hX hc
 by_cases h0 : x < 0
 ·have h0' : decide (x < (0 : Int)) = true := decide_eq_true h0
  have HE := hid (show (!decide (0 ≤ x ∧ x < n)) = true by simp; omega)
  clear h0
  go_enter Tryz.func81, Tryz.ntmps81
  go_wp2_with fail
  go_ret
  exact ⟨by rw [HE.out]; rfl, Below.refl _ _⟩
 ·have h0' : decide (x < (0 : Int)) = false := decide_eq_false h0
  have HE := hid (show (!decide (0 ≤ x ∧ x < n)) = decide (n ≤ x) by
   rw [Bool.eq_iff_iff]; simp; omega)
  clear h0
  go_enter Tryz.func81, Tryz.ntmps81
  go_wp2_with fail
  go_ret
  exact ⟨by rw [HE.out]; rfl, Below.refl _ _⟩
theorem areStates_any (S : Nat → Prop) (a : Option Addr) (cap : Nat) (l : List Int) (n : Int) (w : World) (hi : Ints S w a l) :
    Calls Tryz.prog 43 #[.slice a l.length cap, .int .i64 n] w fun e w' => e = .returned (.bool (l.all (fun x => decide (0 ≤ x ∧ x < n)))) ∧ Below w.heap.size w w' := by
 obtain ⟨W, hW⟩ : ∃ W : World, W = w.alloc (Obj.cells #[.int .i64 n] 3) := ⟨_, rfl⟩
 have hWb : Below w.heap.size w W := by rw [hW]; exact ba _ _
 have hc : W.cell? ⟨w.heap.size, 0, none⟩ = some (.int .i64 n) := by rw [hW]; simp
 obtain ⟨b, hb⟩ : ∃ b, b = w.heap.size := ⟨_, rfl⟩
 rw [← hb] at hc
 have HC := hid (containsF_any S a cap l _ _ _ W (hi.below hWb) (are1_ok b n W hc))
 have HWB := hid hWb
 obtain ⟨q, hq⟩ : ∃ q, q = l.any (fun x => !decide (0 ≤ x ∧ x < n)) := ⟨_, rfl⟩
 rw [← hq] at HC
 have HQ := hid (show (!q) = l.all (fun x => decide (0 ≤ x ∧ x < n)) by rw [hq]; exact any_not)
 obtain ⟨z, hz⟩ : ∃ z, z = l.all (fun x => decide (0 ≤ x ∧ x < n)) := ⟨_, rfl⟩
 rw [← hz] at HQ ⊢
 clear hi hWb hc hq hz
 go_enter Tryz.func43, Tryz.ntmps43
 go_wp2_with fail
 rw [← hW, ← hb]
 clear hW hb
 refine HC.out.mono ?_
 rintro e w1 ⟨rfl, hb1⟩
 go_wp2_with fail
 go_ret
 exact ⟨by rw [← HQ.out]; rfl, HWB.out.trans (hb1.mono HWB.out.size)⟩
theorem map2_ok (S : Nat → Prop) (b cap : Nat) (a : Option Addr) (l : List Int) (w : World) (hi : Ints S w a l) (hc : w.cell? ⟨b, 0, none⟩ = some (.slice a l.length cap)) : ToOk 118 #[.pointer (some ⟨b, 0, none⟩)] l.length (fun x => l.getD x.toNat 0) w := by
 refine ⟨enters_of Tryz.func118 (by kernel_rfl) rfl, fun X hX x h0 h1 => ?_⟩
 show Calls Tryz.prog 118 #[.int .i64 x, .pointer (some ⟨b, 0, none⟩)] X fun e X' => e = .returned (.int .i64 (l.getD x.toNat 0)) ∧ Below X.heap.size X X'
 obtain ⟨j, rfl⟩ : ∃ j : Nat, x = (j : Int) := ⟨x.toNat, by omega⟩
 have hj : j < l.length := by omega
 obtain ⟨q, o, rfl, d0⟩ := hi.get hj
 replace d0 := cell_below hX d0
 have c0 := cell_below hX hc
 have hlen := hi.1
 obtain ⟨y, hy⟩ : ∃ y, y = l.getD (j : Int).toNat 0 := ⟨_, rfl⟩
 rw [← hy]
 have hyl : l[j] = y := by rw [hy]; simp [List.getD, List.getElem?_eq_getElem hj]
 rw [hyl] at d0
 obtain ⟨N, hN⟩ : ∃ N, N = l.length := ⟨_, rfl⟩
 rw [← hN] at hlen hj c0
 have hji : (j : Int) < (N : Int) := by omega
 clear hX hc hi h0 h1 hy hyl hN
 go_enter Tryz.func118, Tryz.ntmps118
 go_wp2_with fail
 go_ret
 exact ⟨rfl, Below.refl _ _⟩
end Go.Proofs.YtcekilcgpgjooaaGreatDoor
