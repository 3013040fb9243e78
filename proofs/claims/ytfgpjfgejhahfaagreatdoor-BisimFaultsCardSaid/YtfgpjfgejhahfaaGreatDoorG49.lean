/- Proved here: contracts of the walk to BisimFaults: the reference's Within and All; each under the conditions that its own statement names. -/
import Derived.Test.YtfgpjfgejhahfaaGreatDoorG48
set_option maxRecDepth 100000
set_option maxHeartbeats 12800000
namespace Go.Proofs.YtfgpjfgejhahfaaGreatDoor
open Go Go.RowKit
abbrev atR (r : List (Int × Int)) (i : Nat) : Int × Int := r.getD i (0, 0)
theorem atR_some {r : List (Int × Int)} {i : Nat} {p : Int × Int} (h : r[i]? = some p) : atR r i = p := by
 unfold atR; rw [List.getD_eq_getElem?_getD, h]; rfl
theorem keptL_take (r : List (Int × Int)) (P : Int × Int → Bool) : ∀ n, n ≤ r.length → keptL r (fun i => !P (atR r i)) n = (r.take n).filter P
 | 0, _ => by simp [keptL]
 | n + 1, h => by
  have hn : n < r.length := by omega
  have hg : r[n]? = some r[n] := List.getElem?_eq_getElem hn
  show keptL r _ n ++ _ = _
  rw [keptL_take r P n (by omega), List.take_add_one, List.filter_append]
  simp only [atR_some hg, hg]
  cases hP : P r[n] <;> simp [hP]
theorem keptL_filter (r : List (Int × Int)) (P : Int × Int → Bool) : keptL r (fun i => !P (atR r i)) r.length = r.filter P := by
 rw [keptL_take r P _ (Nat.le_refl _), List.take_length]
theorem keptL_congr {r : List (Int × Int)} {M M' : Nat → Bool} : ∀ n, (∀ i, i < n → M i = M' i) → keptL r M n = keptL r M' n
 | 0, _ => rfl
 | n + 1, h => by
  show keptL r M n ++ _ = keptL r M' n ++ _
  rw [keptL_congr n (fun i hi => h i (by omega)), h n (by omega)]
abbrev memR (L : List (Int × Int)) : Nat → Nat → Bool := fun x y => decide (((x : Int), (y : Int)) ∈ L)
theorem atL_mem {r : List (Int × Int)} {x y : Int} (h : (x, y) ∈ r) : ∃ j, atL r r.length x y = some j := by
 cases hL : atL r r.length x y with
 | some j => exact ⟨j, rfl⟩
 | none =>
  obtain ⟨j, hj, e⟩ := List.getElem_of_mem h
  exact absurd (by rw [List.getElem?_eq_getElem hj, e]) (atL_none hL j hj)
theorem leftR_filter (r : List (Int × Int)) (P : Int × Int → Bool) (x y : Nat) : leftR r r.length (fun i => !P (atR r i)) x y = memR (r.filter P) x y := by
 unfold leftR memR
 cases hL : atL r r.length (x : Int) (y : Int) with
 | some j =>
  have h := (atL_some hL).2
  simp only [atR_some h]
  have hm : ((x : Int), (y : Int)) ∈ r := List.mem_of_getElem? h
  cases hP : P ((x : Int), (y : Int)) <;> simp [hm, hP]
 | none =>
  have hm : ¬ ((x : Int), (y : Int)) ∈ r := fun h => by
   obtain ⟨j, hj⟩ := atL_mem h
   rw [hL] at hj; cases hj
  simp [hm]
abbrev relP (RB : F → Int × V × List Int → Int × V × List Int → Bool) (f : F) (t u : V) (p : Int × Int) : Bool := RB f (t.el p.1.toNat) (u.el p.2.toNat)
theorem relAt_relP (RB : F → Int × V × List Int → Int × V × List Int → Bool) (f : F) (t u : V) (r : List (Int × Int)) (i : Nat) : relAt RB f t u r i = relP RB f t u (atR r i) := rfl
theorem faults_filter (RB : F → Int × V × List Int → Int × V × List Int → Bool) (f : F) (t u : V) (r : List (Int × Int)) : keptL r (relAt RB f t u r) r.length = r.filter (fun p => !relP RB f t u p) := by
 rw [← keptL_filter]
 exact keptL_congr _ (fun i _ => by simp [relAt_relP])
structure WiI (f : F) (t u : V) (r : List (Int × Int)) (P : Int × Int → Bool) : Prop where
 good : LwGood r r.length (phiR f t u r) (fun i => !P (atR r i))
theorem WiI.start {f : F} {t u : V} {r : List (Int × Int)} : WiI f t u r (fun _ => true) := ⟨fun _ _ _ _ _ => rfl⟩
theorem WiI.next {f : F} {t u : V} {r : List (Int × Int)} {P : Int × Int → Bool} (h : WiI f t u r P) {RB : F → Int × V × List Int → Int × V × List Int → Bool} (hRB : ∀ f u v, RB f u v = true ↔ relV (tells (memR (r.filter P))) f u v) :
    WiI f t u r (fun p => P p && relP RB f t u p) := by
 refine ⟨fun G hG i hi hGi => ?_⟩
 have h1 := h.good G hG
 have h2 := h1 i hi hGi
 have hsub : Sub (leftR r r.length (fun j => !G j)) (memR (r.filter P)) := by
  intro a b hx
  rw [← leftR_filter]
  unfold leftR at hx ⊢
  cases hL : atL r r.length (a : Int) (b : Int) with
  | none => rw [hL] at hx; cases hx
  | some k =>
   rw [hL] at hx
   simp only [Bool.not_not] at hx ⊢
   have := h1 k (atL_some hL).1 hx
   simpa using this
 obtain ⟨x, y, hp, hr⟩ := phiR_mono i _ _ hsub (hG i hi hGi)
 have h3 : relP RB f t u (atR r i) = true := by
  rw [atR_some hp]
  exact (hRB _ _ _).2 (by simpa using hr)
 simp only [Bool.not_eq_false'] at h2 ⊢
 rw [h2, h3]; rfl
theorem WiI.done {f : F} {t u : V} {r : List (Int × Int)} {P : Int × Int → Bool} (h : WiI f t u r P) (hin : ∀ z ∈ r, 0 ≤ z.1 ∧ 0 ≤ z.2) (hall : ∀ p ∈ r.filter P, relV (tells (memR (r.filter P))) f (t.el p.1.toNat) (u.el p.2.toNat)) : GrtL f t u r (r.filter P) := by
 refine ⟨fun i => !P (atR r i), (keptL_filter r P).symm, fun i hi hM => ?_, h.good⟩
 have hg : r[i]? = some r[i] := List.getElem?_eq_getElem hi
 simp only [atR_some hg, Bool.not_eq_false'] at hM
 have hm : r[i] ∈ r := List.getElem_mem hi
 have h0 := hin _ hm
 have hr := hall r[i] (List.mem_filter.2 ⟨hm, hM⟩)
 refine ⟨r[i].1.toNat, r[i].2.toNat, ?_, ?_⟩
 ·rw [hg]
  have e1 : ((r[i].1.toNat : Nat) : Int) = r[i].1 := by omega
  have e2 : ((r[i].2.toNat : Nat) : Int) = r[i].2 := by omega
  rw [e1, e2]
 ·exact relV_mono (tells_mono (fun a b hx => by rw [leftR_filter]; exact hx)) hr
theorem GrtL.uniq {f : F} {t u : V} {r L L' : List (Int × Int)} (h : GrtL f t u r L) (h' : GrtL f t u r L') : L = L' := by
 obtain ⟨M, rfl, h1⟩ := h
 obtain ⟨M', rfl, h2⟩ := h'
 refine keptL_congr _ (fun i hi => ?_)
 have go : ∀ {M M' : Nat → Bool}, Grt r r.length (phiR f t u r) M → Grt r r.length (phiR f t u r) M' → M i = false → M' i = false := by
  intro M M' h1 h2 hM
  refine h2.most (fun j => !M j) (fun j hj hG => ?_) i hi (by simp [hM])
  have := h1.fix j hj (by simpa using hG)
  exact phiR_mono j _ _ (fun a b hx => by simpa using hx) this
 cases e : M i
 ·rw [go h1 h2 e]
 ·cases e' : M' i
  ·rw [go h2 h1 e'] at e; cases e
  ·rfl
end Go.Proofs.YtfgpjfgejhahfaaGreatDoor
namespace Go.Proofs.YtfgpjfgejhahfaaGreatDoor
open Go Go.RowKit
open Go.Lib (hid)
def wiMeasure (z mo : Value) : Nat := match mo with
 | .bool true => 1 + (match z with | .slice _ n _ => n | _ => 0)
 | _ => 0
theorem rwithin_any (S : Nat → Nat → Prop) (S' S2' S3 : Nat → Prop) (f : F) (a na a2 na2 ar : Option Addr) (cap ncap cap2 ncap2 cr : Nat) (t u : V) (r : List (Int × Int)) (w : World) (hs : Sl S w a f.t) (hcap : f.t.len ≤ cap) (hv : Vl S' w na t) (hv2 : Vl S2' w na2 u) (hr : Prs S3 w ar r) (hN : r.length ≤ 10000)
    (hy1 : sysOk f t = true) (hy2 : sysOk f u = true) (hin : ∀ z ∈ r, 0 ≤ z.1 ∧ z.1 < t.len ∧ 0 ≤ z.2 ∧ z.2 < u.len) :
    Calls Tryz.prog 24 #[Sv f a cap na t.len ncap, Sv f a2 cap2 na2 u.len ncap2, .slice ar r.length cr] w fun e w' => ∃ a' cr' L, e = .returned (.slice a' (List.length L) cr') ∧ Prs (fun _ => True) w' a' L ∧ GrtL f t u r L ∧ Below w.heap.size w w' := by
 obtain ⟨i0, hi, hz0, hz1, hz2⟩ := info_parts infoP
 obtain ⟨W, hW⟩ : ∃ W : World, W = (w.alloc (Obj.cells #[.int .i64 f.k, .int .i64 f.n, .slice a f.t.len cap, .slice na t.len ncap] 42)).alloc (Obj.cells #[.int .i64 f.k, .int .i64 f.n, .slice a2 f.t.len cap2, .slice na2 u.len ncap2] 42) := ⟨_, rfl⟩
 have hWb : Below w.heap.size w W := by rw [hW]; exact ba2 _ _ _
 have k0 : W.heap[w.heap.size]? = some (Obj.cells #[.int .i64 f.k, .int .i64 f.n, .slice a f.t.len cap, .slice na t.len ncap] 42 (0, 0)) := by rw [hW]; exact heap_old2 _ _ _
 have k1 : W.heap[w.heap.size + 1]? = some (Obj.cells #[.int .i64 f.k, .int .i64 f.n, .slice a2 f.t.len cap2, .slice na2 u.len ncap2] 42 (0, 0)) := by rw [hW]; exact heap_new2 _ _ _
 obtain ⟨bs, hbs⟩ : ∃ bs, bs = w.heap.size := ⟨_, rfl⟩
 rw [← hbs] at k0 k1
 have HE := hid (fun x (hx : Below W.heap.size W x) => And.intro (cells4 ((hx.block _ (heap_lt k0)).trans k0)) (cells4 ((hx.block _ (heap_lt k1)).trans k1)))
 have HWB := hid hWb
 have HFA := hid (fun x (hx : Below W.heap.size W x) al cl (L : List (Int × Int)) (hl : Prs (fun _ => True) x al L) (hll : L.length ≤ 10000) (hsub : ∀ z ∈ L, z ∈ r) RB hRB => rfaults_any S S' S2' (fun _ => True) f a na a2 na2 al cap ncap cap2 ncap2 cl t u L x ((hs.below hWb).below hx) hcap ((hv.below hWb).below hx) ((hv2.below hWb).below hx) hl hll hy1 hy2 (fun z hz => hin z (hsub z hz)) RB hRB)
 have HIN := hid hin
 have HP0 := hid (show Prs (fun _ => True) W ar r from ⟨(hr.below hWb).1, (hr.below hWb).2.imp id (fun ⟨b, o, h1, _, h3⟩ => ⟨b, o, h1, trivial, h3⟩)⟩)
 have HNR := hid hN
 have hl1 := hv.1
 have hl2 := hv2.1
 obtain ⟨⟨c0, c1, c2, c3⟩, d0, d1, d2, d3⟩ := HE.out _ (Below.refl _ _)
 clear hs hcap hv hv2 hr k0 k1 hWb hy1 hy2 hin
 go_enter Tryz.func24, Tryz.ntmps24
 go_wp2_with fail
 rw [← hW, ← hbs]
 clear hW hbs
 go_loopw [2, 7] (fun z mo wr => ∃ (P : Int × Int → Bool) (L : List (Int × Int)) (al : Option Addr) (cl : Nat) (m : Bool), z = .slice al L.length cl ∧ mo = .bool m ∧ L = r.filter P ∧ Prs (fun _ => True) wr al L ∧ WiI f t u r P ∧ (m = false → ∀ p ∈ L, relV (tells (memR L)) f (t.el p.1.toNat) (u.el p.2.toNat)) ∧ Below W.heap.size W wr) (fun z mo _ => wiMeasure z mo)
 case atStart => exact ⟨fun _ => true, r, ar, cr, true, rfl, rfl, (List.filter_eq_self.2 (fun _ _ => rfl)).symm, HP0.out, WiI.start, fun h => (by cases h), Below.refl _ _⟩
 case round =>
  obtain ⟨P, L, al, cl, m, rfl, rfl, hLP, hpr, hwi, hdn, hb⟩ := hrel
  have HLP := hid hLP
  have HPR := hid hpr
  have HWI := hid hwi
  have HDN := hid hdn
  have HB := hid hb
  obtain ⟨w1, rfl⟩ : ∃ w1 : World, w1 = wr := ⟨_, rfl⟩
  clear hLP hpr hwi hdn hb c0 c1 c2 c3 d0 d1 d2 d3
  cases m with
  | false =>
   go_wp2_with fail
   go_ret
   refine ⟨al, cl, L, rfl, HPR.out, ?_, HWB.out.trans (HB.out.mono HWB.out.size)⟩
   have h := HWI.out.done (fun z hz => ⟨(HIN.out z hz).1, (HIN.out z hz).2.2.1⟩) (by rw [← HLP.out]; exact HDN.out (by first | trivial | rfl))
   rw [HLP.out]
   exact h
  | true =>
   obtain ⟨⟨c0, c1, c2, c3⟩, d0, d1, d2, d3⟩ := HE.out _ HB.out
   obtain ⟨RB, hRB⟩ := relAny_ex (memR L)
   have HRB := hid hRB
   have HSUB := hid (show ∀ z ∈ L, z ∈ r from fun z hz => by rw [HLP.out] at hz; exact (List.mem_filter.1 hz).1)
   have HLL := hid (show L.length ≤ 10000 by rw [HLP.out]; exact Nat.le_trans (List.length_filter_le _ _) HNR.out)
   have HF1 := hid (HFA.out w1 HB.out al cl L HPR.out HLL.out HSUB.out RB hRB)
   clear hRB
   go_wp2_with fail
   refine HF1.out.mono ?_
   rintro e w2 ⟨bv, rfl, hown, hb2⟩
   obtain ⟨BD, hBD⟩ : ∃ BD, BD = keptL L (relAt RB f t u L) L.length := ⟨_, rfl⟩
   rw [← hBD] at hown
   have HBD := hid (hBD.trans (faults_filter RB f t u L))
   have hbl : BD.length ≤ 10000 := by rw [HBD.out]; exact Nat.le_trans (List.length_filter_le _ _) HLL.out
   obtain ⟨ab, cb, rfl, _, hpb⟩ := row_prs hown (by omega)
   have HPB := hid hpb
   have HB2 := hid (HB.out.trans (hb2.mono HB.out.size))
   have HPL := hid (HPR.out.below hb2)
   obtain ⟨B, hB⟩ : ∃ B, B = w2.heap.size := ⟨_, rfl⟩
   have HBB := hid hB
   obtain ⟨N, hN2⟩ : ∃ N, N = L.length := ⟨_, rfl⟩
   have HN := hid hN2
   have hNN : N ≤ 10000 := by rw [hN2]; exact HLL.out
   obtain ⟨nx, hnx⟩ : ∃ nx : Nat → List (Int × Int), nx = fun k => (L.take k).filter (fun p => !decide (p ∈ BD)) := ⟨_, rfl⟩
   have HNX := hid hnx
   have hnx0 : nx 0 = [] := by rw [hnx]; simp
   have HNL := hid (show ∀ k, (nx k).length ≤ k from fun k => by rw [hnx]; exact Nat.le_trans (List.length_filter_le _ _) (by rw [List.length_take]; omega))
   rw [← hN2]
   clear hown hBD hpb hb2 hB hN2 hnx c0 c1 c2 c3 d0 d1 d2 d3
   go_wp2_with fail
   go_loopw [9, 19] (fun z i wr => ∃ (k : Nat) (v : Value), k ≤ N ∧ v = z ∧ i = .int .i64 k ∧ wr.ownsRow B 61 2 v (nx k).length (flatP (nx k)) ∧ Below w2.heap.size w2 wr) (fun _ i _ => N - (intOf i).toNat)
   case atStart => exact ⟨0, _, Nat.zero_le _, rfl, rfl, by rw [hnx0]; exact World.ownsRow_nil _ _ _ _, Below.refl _ _⟩
   case round =>
    obtain ⟨k, v, hk, rfl, rfl, hown, hb⟩ := hrel
    have HO := hid hown
    have HBk := hid hb
    have hkl := HNL.out k
    by_cases hlt : k < N
    ·obtain ⟨p, hp⟩ : ∃ p, L[k]? = some p := ⟨L[k]'(by have := HN.out; omega), List.getElem?_eq_getElem _⟩
     obtain ⟨pb, po, rfl, _, e0, e1⟩ := (HPL.out.below hb).get hp
     obtain ⟨p1, p2⟩ := p
     simp only at e0 e1
     have HPK := hid hp
     obtain ⟨X, hX⟩ : ∃ X : World, X = wr.alloc (.cells #[.int .i64 p1, .int .i64 p2] 61) := ⟨_, rfl⟩
     obtain ⟨xb, hxb⟩ : ∃ xb, xb = wr.heap.size := ⟨_, rfl⟩
     have hXb : X.heap[xb]? = some (.cells #[.int .i64 p1, .int .i64 p2] 61 (0, 0)) := by rw [hX, hxb]; exact heap_new _ _
     have HXB := hid hXb
     have HX2 := hid (show Below w2.heap.size w2 X by rw [hX]; exact hb.alloc hb.size _)
     have HXO := hid (show X.ownsRow B 61 2 v (nx k).length (flatP (nx k)) by rw [hX]; exact hown.alloc _)
     have HHAS := hid (hasP_any _ ab cb BD (p1, p2) X (HPB.out.below HX2.out))
     obtain ⟨bd, hbd⟩ : ∃ bd : Bool, bd = decide ((p1, p2) ∈ BD) := ⟨_, rfl⟩
     rw [← hbd] at HHAS
     have HBDD := hid hbd
     have x0 := (cells2 hXb).1
     have x1 := (cells2 hXb).2
     clear hown hb hp hbd hXb
     go_wp2_with fail
     rw [← hX, ← hxb]
     clear hX hxb
     refine HHAS.out.mono ?_
     rintro e w4 ⟨rfl, hb4⟩
     have HB4 := hid hb4
     have HO4 := hid (row_below HXO.out HB4.out)
     have HB5 := hid (show Below w2.heap.size w2 w4 from HX2.out.trans (HB4.out.mono HX2.out.size))
     obtain ⟨y0, y1⟩ := cells2 ((HB4.out.block _ (heap_lt HXB.out)).trans HXB.out)
     have hbs4 : B ≤ w4.heap.size := by rw [HBB.out]; exact HB5.out.size
     have HSTEP := hid (show nx (k + 1) = nx k ++ (if bd then [] else [(p1, p2)]) by
      rw [HNX.out]
      show (L.take (k + 1)).filter _ = _
      rw [List.take_add_one, List.filter_append, HPK.out, HBDD.out]
      by_cases e : (p1, p2) ∈ BD <;> simp [e])
     clear hb4 x0 x1 e0 e1
     cases bd with
     | false =>
      go_wp2_with (at_builtin; refine wpList_append_own _ rfl _ _ 29 rfl B 61 i0 (.agg #[.int .i64 0, .int .i64 0]) 2 16 Tryz.underlying29 hi hz0 hz1 hz2 rfl (by decide) _ _ _ rfl (HO4.out.alloc _) ⟨w4.heap.size, 0, none⟩ 1 1 [.int .i64 p1, .int .i64 p2] rfl rfl (cell_two_new _ _ _ _) (by intro z hz; simp at hz; rcases hz with rfl | rfl <;> rfl) (by unfold maxLen; omega) (by omega) (by simp; omega) ?_; intro v' w5 hown' hgrow _)
      have HO5 := hid hown'
      have HB6 := hid (show Below w2.heap.size w2 w5 from (HB5.out.alloc HB5.out.size _).grown hgrow (by rw [← HBB.out]; simp; omega) (fun j hj => by rw [← HBB.out]; exact (HO4.out.lt j hj).1))
      clear hown' hgrow
      go_wp2_with fail
      go_roundw
      case rel => exact ⟨k + 1, _, by omega, rfl, by go_num, by rw [HSTEP.out, if_neg (by simp), flatP_snoc, List.length_append]; exact HO5.out, HB6.out⟩
      case measure => simp [intOf]; omega
     | true =>
      go_wp2_with fail
      go_roundw
      case rel => exact ⟨k + 1, _, by omega, rfl, by go_num, by rw [HSTEP.out]; simpa using HO4.out, HB5.out⟩
      case measure => simp [intOf]; omega
    ·obtain rfl : N = k := by omega
     clear hown hb
     obtain ⟨w6, rfl⟩ : ∃ w6 : World, w6 = wr := ⟨_, rfl⟩
     have HNN := hid (show nx N = L.filter (relP RB f t u) by
      rw [HNX.out]
      show (L.take N).filter _ = _
      rw [HN.out, List.take_length]
      refine List.filter_congr (fun p hp => ?_)
      rw [HBD.out]
      cases e : relP RB f t u p <;> simp [hp, e])
     obtain ⟨an, cn, rfl, _, hpn⟩ := row_prs HO.out (by omega)
     obtain ⟨L', hL'⟩ : ∃ L', L' = nx N := ⟨_, rfl⟩
     rw [← hL'] at hpn ⊢
     have HPN := hid (show Prs (fun _ => True) w6 an L' from ⟨hpn.1, hpn.2.imp id (fun ⟨b, o, h1, _, h3⟩ => ⟨b, o, h1, trivial, h3⟩)⟩)
     have HL' := hid (hL'.trans HNN.out)
     clear hpn hL'
     go_wp2_with fail
     go_roundw
     case rel =>
      refine ⟨fun p => P p && relP RB f t u p, L', an, cn, _, rfl, rfl, ?_, HPN.out, ?_, fun hm p hp => ?_, HB2.out.trans (HBk.out.mono HB2.out.size)⟩
      ·rw [HL'.out, HLP.out, List.filter_filter]
       exact List.filter_congr (fun p _ => Bool.and_comm _ _)
      ·exact HWI.out.next (by rw [← HLP.out]; exact HRB.out)
      ·have hBe : BD = [] := by
        cases hB0 : BD with
        | nil => rfl
        | cons z zs =>
         rw [hB0] at hm
         simp at hm
       have hall : ∀ p ∈ L, relP RB f t u p = true := fun p hp => by
        cases e : relP RB f t u p with
        | true => rfl
        | false =>
         have : p ∈ BD := by rw [HBD.out]; exact List.mem_filter.2 ⟨hp, by simp [e]⟩
         rw [hBe] at this
         cases this
       have hLL : L' = L := by rw [HL'.out]; exact List.filter_eq_self.2 hall
       rw [hLL] at hp ⊢
       exact (HRB.out _ _ _).1 (hall p hp)
     case measure =>
      have hlt : 0 < BD.length → L'.length < L.length := fun h => by
       obtain ⟨z, zs, e⟩ : ∃ z zs, BD = z :: zs := by
        cases hB0 : BD with
        | nil => rw [hB0] at h; simp at h
        | cons z zs => exact ⟨z, zs, rfl⟩
       have hz : z ∈ BD := by rw [e]; exact List.mem_cons_self ..
       rw [HBD.out] at hz
       obtain ⟨hz1, hz2⟩ := List.mem_filter.1 hz
       rw [HL'.out]
       exact List.length_filter_lt_length_iff_exists.2 ⟨z, hz1, by simpa using hz2⟩
      by_cases h : 0 < BD.length
      ·have h2 := hlt h
       simp [wiMeasure, h]
       omega
      ·simp [wiMeasure, h]; omega
theorem rall_any (S' S2' : Nat → Prop) (f g : F) (a na a2 na2 : Option Addr) (cap ncap cap2 ncap2 : Nat) (t u : V) (w : World) (hv : Vl S' w na t) (hv2 : Vl S2' w na2 u) (hn : t.len ≤ 100) (hm : u.len ≤ 100) :
    Calls Tryz.prog 25 #[Sv f a cap na t.len ncap, Sv g a2 cap2 na2 u.len ncap2] w fun e w' => ∃ v, e = .returned v ∧ w'.ownsRow w.heap.size 61 2 v (allL u.len t.len).length (flatP (allL u.len t.len)) ∧ Below w.heap.size w w' := by
 obtain ⟨i0, hi, hz0, hz1, hz2⟩ := info_parts infoP
 obtain ⟨W, hW⟩ : ∃ W : World, W = (w.alloc (Obj.cells #[.int .i64 f.k, .int .i64 f.n, .slice a f.t.len cap, .slice na t.len ncap] 42)).alloc (Obj.cells #[.int .i64 g.k, .int .i64 g.n, .slice a2 g.t.len cap2, .slice na2 u.len ncap2] 42) := ⟨_, rfl⟩
 have hWb : Below w.heap.size w W := by rw [hW]; exact ba2 _ _ _
 have k0 : W.heap[w.heap.size]? = some (Obj.cells #[.int .i64 f.k, .int .i64 f.n, .slice a f.t.len cap, .slice na t.len ncap] 42 (0, 0)) := by rw [hW]; exact heap_old2 _ _ _
 have k1 : W.heap[w.heap.size + 1]? = some (Obj.cells #[.int .i64 g.k, .int .i64 g.n, .slice a2 g.t.len cap2, .slice na2 u.len ncap2] 42 (0, 0)) := by rw [hW]; exact heap_new2 _ _ _
 obtain ⟨bs, hbs⟩ : ∃ bs, bs = w.heap.size := ⟨_, rfl⟩
 rw [← hbs] at k0 k1
 have HE := hid (fun x (hx : Below W.heap.size W x) => And.intro (cells4 ((hx.block _ (heap_lt k0)).trans k0)) (cells4 ((hx.block _ (heap_lt k1)).trans k1)))
 have HWB := hid hWb
 have hl1 := hv.1
 have hl2 := hv2.1
 obtain ⟨n, hnn⟩ : ∃ n, n = t.len := ⟨_, rfl⟩
 obtain ⟨m, hmm⟩ : ∃ m, m = u.len := ⟨_, rfl⟩
 rw [← hnn] at HE hn hl1 hW ⊢
 rw [← hmm] at HE hm hl2 hW ⊢
 obtain ⟨⟨c0, c1, c2, c3⟩, d0, d1, d2, d3⟩ := HE.out _ (Below.refl _ _)
 clear hv hv2 k0 k1 hWb hnn hmm
 go_enter Tryz.func25, Tryz.ntmps25
 go_wp2_with fail
 rw [← hW, ← hbs]
 clear hW hbs
 go_loopw [5, 11] (fun u i wr => ∃ (k : Nat) (v : Value), k ≤ n ∧ v = u ∧ i = .int .i64 k ∧ wr.ownsRow W.heap.size 61 2 v (allL m k).length (flatP (allL m k)) ∧ Below W.heap.size W wr) (fun _ i _ => n - (intOf i).toNat)
 case atStart => exact ⟨0, _, Nat.zero_le _, rfl, rfl, World.ownsRow_nil _ _ _ _, Below.refl _ _⟩
 case round =>
  obtain ⟨k, v, hk, rfl, rfl, hown, hb⟩ := hrel
  have HO := hid hown
  have HB := hid hb
  clear hown hb c0 c1 c2 c3 d0 d1 d2 d3
  obtain ⟨wq, rfl⟩ : ∃ wq : World, wq = wr := ⟨_, rfl⟩
  obtain ⟨⟨c0, c1, c2, c3⟩, d0, d1, d2, d3⟩ := HE.out _ HB.out
  by_cases hlt : k < n
  ·go_wp2_with fail
   go_loopw [5, 17] (fun u i ws => ∃ (y : Nat) (x : Value), y ≤ m ∧ x = u ∧ i = .int .i64 y ∧ ws.ownsRow W.heap.size 61 2 x (allL m k ++ rowL k y).length (flatP (allL m k ++ rowL k y)) ∧ Below W.heap.size W ws) (fun _ i _ => m - (intOf i).toNat)
   case atStart => exact ⟨0, _, Nat.zero_le _, rfl, rfl, by simpa [rowL] using HO.out, HB.out⟩
   case round =>
    obtain ⟨y, x, hy, rfl, rfl, hown, hb⟩ := hrel
    have HO2 := hid hown
    have HB2 := hid hb
    have hbs := hb.size
    have hll : (allL m k ++ rowL k y).length ≤ 10100 := by
     rw [List.length_append, allL_len, rowL_len]
     have : k * m ≤ 100 * 100 := Nat.mul_le_mul (by omega) hm
     omega
    clear hown hb c0 c1 c2 c3 d0 d1 d2 d3
    by_cases hlt2 : y < m
    ·have HST := hid (show allL m k ++ rowL k (y + 1) = (allL m k ++ rowL k y) ++ [((k : Int), (y : Int))] by rw [List.append_assoc]; rfl)
     obtain ⟨L, hL⟩ : ∃ L, L = allL m k ++ rowL k y := ⟨_, rfl⟩
     rw [← hL] at HO2 HST hll
     clear hL
     go_wp2_with (at_builtin; refine wpList_append_own _ rfl _ _ 29 rfl W.heap.size 61 i0 (.agg #[.int .i64 0, .int .i64 0]) 2 16 Tryz.underlying29 hi hz0 hz1 hz2 rfl (by decide) _ _ _ rfl (HO2.out.alloc _) ⟨wr.heap.size, 0, none⟩ 1 1 [.int .i64 (k : Int), .int .i64 (y : Int)] rfl rfl (cell_two_new _ _ _ _) (by intro u hu; simp at hu; rcases hu with rfl | rfl <;> rfl) (by unfold maxLen; omega) (by omega) (by simp; omega) ?_; intro v' w3 hown' hgrow _)
     have HO3 := hid hown'
     have HB3 := hid (show Below W.heap.size W w3 from (HB2.out.alloc HB2.out.size _).grown hgrow (by simp; omega) (fun j hj => (HO2.out.lt j hj).1))
     clear hown' hgrow
     go_wp2_with fail
     go_roundw
     case rel => exact ⟨y + 1, _, by omega, rfl, by go_num, by rw [HST.out, flatP_snoc, List.length_append]; exact HO3.out, HB3.out⟩
     case measure => simp [intOf]; omega
    ·obtain rfl : y = m := by omega
     go_wp2_with fail
     go_roundw
     case rel => exact ⟨k + 1, _, by omega, rfl, by go_num, HO2.out, HB2.out⟩
     case measure => simp [intOf]; omega
  ·obtain rfl : k = n := by omega
   go_wp2_with fail
   go_ret
   exact ⟨_, rfl, row_base HO.out HWB.out.size, HWB.out.trans (HB.out.mono HWB.out.size)⟩
end Go.Proofs.YtfgpjfgejhahfaaGreatDoor
