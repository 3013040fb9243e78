/- Proved here: contracts of the walk to BisimFaults: the reference's Faults; each under the conditions that its own statement names. -/
import Derived.Test.YtfgpjfgejhahfaaGreatDoorG32
import Derived.Test.YtfgpjfgejhahfaaGreatDoorG47
set_option maxRecDepth 100000
set_option maxHeartbeats 12800000
namespace Go.Proofs.YtfgpjfgejhahfaaGreatDoor
open Go Go.RowKit
open Go.Lib (hid)
theorem rfaults_any (S : Nat → Nat → Prop) (S' S2' S3 : Nat → Prop) (f : F) (a na a2 na2 ar : Option Addr) (cap ncap cap2 ncap2 cr : Nat) (t u : V) (r : List (Int × Int)) (w : World) (hs : Sl S w a f.t) (hcap : f.t.len ≤ cap) (hv : Vl S' w na t) (hv2 : Vl S2' w na2 u) (hr : Prs S3 w ar r) (hN : r.length ≤ 10000)
    (hy1 : sysOk f t = true) (hy2 : sysOk f u = true) (hin : ∀ z ∈ r, 0 ≤ z.1 ∧ z.1 < t.len ∧ 0 ≤ z.2 ∧ z.2 < u.len)
    (RB : F → Int × V × List Int → Int × V × List Int → Bool) (hRB : ∀ f u v, RB f u v = true ↔ relV (tells (fun x y => decide (((x : Int), (y : Int)) ∈ r))) f u v) :
    Calls Tryz.prog 23 #[Sv f a cap na t.len ncap, Sv f a2 cap2 na2 u.len ncap2, .slice ar r.length cr] w fun e w' => ∃ v, e = .returned v ∧ w'.ownsRow w.heap.size 61 2 v (keptL r (relAt RB f t u r) r.length).length (flatP (keptL r (relAt RB f t u r) r.length)) ∧ Below w.heap.size w w' := by
 obtain ⟨i0, hi, hz0, hz1, hz2⟩ := info_parts infoP
 obtain ⟨W, hW⟩ : ∃ W : World, W = (w.alloc (Obj.cells #[.int .i64 f.k, .int .i64 f.n, .slice a f.t.len cap, .slice na t.len ncap] 42)).alloc (Obj.cells #[.int .i64 f.k, .int .i64 f.n, .slice a2 f.t.len cap2, .slice na2 u.len ncap2] 42) := ⟨_, rfl⟩
 have hWb : Below w.heap.size w W := by rw [hW]; exact ba2 _ _ _
 have k0 : W.heap[w.heap.size]? = some (Obj.cells #[.int .i64 f.k, .int .i64 f.n, .slice a f.t.len cap, .slice na t.len ncap] 42 (0, 0)) := by rw [hW]; exact heap_old2 _ _ _
 have k1 : W.heap[w.heap.size + 1]? = some (Obj.cells #[.int .i64 f.k, .int .i64 f.n, .slice a2 f.t.len cap2, .slice na2 u.len ncap2] 42 (0, 0)) := by rw [hW]; exact heap_new2 _ _ _
 obtain ⟨bs, hbs⟩ : ∃ bs, bs = w.heap.size := ⟨_, rfl⟩
 rw [← hbs] at k0 k1
 have HE := hid (fun x (hx : Below W.heap.size W x) => And.intro (cells4 ((hx.block _ (heap_lt k0)).trans k0)) (cells4 ((hx.block _ (heap_lt k1)).trans k1)))
 have HWB := hid hWb
 have hl1 := hv.1
 have hl2 := hv2.1
 obtain ⟨hg, hn1, hok1⟩ := sys_parts hy1
 obtain ⟨_, hn2, hok2⟩ := sys_parts hy2
 have HOK := hid (And.intro hok1 hok2)
 have HG := hid (And.intro hg hcap)
 have HIN := hid hin
 have HP := hid (hr.below hWb)
 have HS := hid (hs.below hWb)
 have HV := hid (hv.below hWb)
 have HV2 := hid (hv2.below hWb)
 have HRB := hid hRB
 obtain ⟨N, hNN⟩ : ∃ N, N = r.length := ⟨_, rfl⟩
 have HN := hid hNN
 obtain ⟨B, hB⟩ : ∃ B, B = W.heap.size := ⟨_, rfl⟩
 have HBB := hid hB
 have hbsB : bs + 1 < B := by rw [hB]; exact heap_lt k1
 rw [← hNN] at hN ⊢
 obtain ⟨⟨c0, c1, c2, c3⟩, d0, d1, d2, d3⟩ := HE.out _ (Below.refl _ _)
 clear hs hcap hv hv2 hr k0 k1 hWb hNN hy1 hy2 hin hRB hg hok1 hok2 hB
 go_enter Tryz.func23, Tryz.ntmps23
 go_wp2_with fail
 rw [← hW, ← hbs]
 clear hW hbs
 go_loopw [7, 12] (fun z i wr => ∃ (k : Nat) (v : Value), k ≤ N ∧ v = z ∧ i = .int .i64 k ∧ wr.ownsRow B 61 2 v (keptL r (relAt RB f t u r) k).length (flatP (keptL r (relAt RB f t u r) k)) ∧ Below W.heap.size W wr) (fun _ i _ => N - (intOf i).toNat)
 case atStart => exact ⟨0, _, Nat.zero_le _, rfl, rfl, World.ownsRow_nil _ _ _ _, Below.refl _ _⟩
 case round =>
  obtain ⟨k, v, hk, rfl, rfl, hown, hb⟩ := hrel
  have HO := hid hown
  have HB := hid hb
  clear c0 c1 c2 c3 d0 d1 d2 d3
  by_cases hlt : k < N
  ·obtain ⟨p, hp⟩ : ∃ p, r[k]? = some p := ⟨r[k]'(by have := HN.out; omega), List.getElem?_eq_getElem _⟩
   obtain ⟨pb, po, rfl, _, e0, e1⟩ := (HP.out.below hb).get hp
   have hpin := HIN.out p (List.mem_of_getElem? hp)
   obtain ⟨p1, p2⟩ := p
   simp only at e0 e1 hpin
   obtain ⟨x, rfl⟩ : ∃ x : Nat, p1 = (x : Int) := ⟨p1.toNat, by omega⟩
   obtain ⟨y, rfl⟩ : ∃ y : Nat, p2 = (y : Int) := ⟨p2.toNat, by omega⟩
   have hx : x < t.len := by omega
   have hy : y < u.len := by omega
   have hRK := hid (show relAt RB f t u r k = RB f (t.el x) (u.el y) by unfold relAt; rw [List.getD_eq_getElem?_getD, hp]; simp)
   obtain ⟨X, hX⟩ : ∃ X : World, X = wr.alloc (.cells #[.int .i64 (x : Int), .int .i64 (y : Int)] 61) := ⟨_, rfl⟩
   obtain ⟨xb, hxb⟩ : ∃ xb, xb = wr.heap.size := ⟨_, rfl⟩
   have hXb : X.heap[xb]? = some (.cells #[.int .i64 (x : Int), .int .i64 (y : Int)] 61 (0, 0)) := by rw [hX, hxb]; exact heap_new _ _
   have HXB := hid hXb
   have hwX : Below W.heap.size W X := by rw [hX]; exact hb.alloc hb.size _
   have HWX := hid hwX
   have HXO := hid (show X.ownsRow B 61 2 v (keptL r (relAt RB f t u r) k).length (flatP (keptL r (relAt RB f t u r) k)) by rw [hX]; exact hown.alloc _)
   obtain ⟨ub, uo, ua, uc, uw, ud, rfl, _, u0, u1, u2, hus, hui⟩ := (HV.out.below hwX).el hx
   obtain ⟨vb, vo, va, vc, vw, vd, rfl, _, v0, v1, v2, hvs, hvi⟩ := (HV2.out.below hwX).el hy
   obtain ⟨⟨n1, t1, w1'⟩, ht1⟩ : ∃ z, z = t.el x := ⟨_, rfl⟩
   obtain ⟨⟨n2, t2, w2'⟩, ht2⟩ : ∃ z, z = u.el y := ⟨_, rfl⟩
   rw [← ht1] at u0 u1 u2 hus hui hRK
   rw [← ht2] at v0 v1 v2 hvs hvi hRK
   have hk1 := HOK.out.1 x hx
   have hk2 := HOK.out.2 y hy
   rw [← ht1] at hk1
   rw [← ht2] at hk2
   simp only at u0 u1 u2 hus hui v0 v1 v2 hvs hvi hk1 hk2
   obtain ⟨rb, hrb⟩ : ∃ rb, rb = RB f (n1, t1, w1') (n2, t2, w2') := ⟨_, rfl⟩
   have HCL := hid (fun z (hz : Below X.heap.size X z) => relR_all t1 t.len u.len (fun x y => decide (((x : Int), (y : Int)) ∈ r)) r RB S (fun _ => True) S3 f n1 n2 t2 w1' w2' a ua va uw vw (some ⟨pb, po, none⟩) cap uc vc ud vd cr z (fun _ _ => rfl) HRB.out ((HS.out.below hwX).below hz) ((hus.below hz).mono (fun _ _ => trivial) (fun _ _ _ => rfl)) ((hui.below hz).mono (fun _ _ => trivial) (fun _ _ _ => rfl)) ((hvs.below hz).mono (fun _ _ => trivial) (fun _ _ _ => rfl)) ((hvi.below hz).mono (fun _ _ => trivial) (fun _ _ _ => rfl)) ((HP.out.below hwX).below hz) HG.out.2 HG.out.1 hk1 hk2)
   rw [← hrb, ← HN.out] at HCL
   rw [← hrb] at hRK
   obtain ⟨⟨c0, c1, c2, c3⟩, d0, d1, d2, d3⟩ := HE.out _ hwX
   have x0 := (cells2 hXb).1
   have x1 := (cells2 hXb).2
   have keep : ∀ {b o : Nat} {v : Value} (z : World), Below X.heap.size X z → X.cell? ⟨b, o, none⟩ = some v → z.cell? ⟨b, o, none⟩ = some v := fun z hz h => by
    rw [World.cell?_of_block (w := X) (a := ⟨_, _, none⟩) (hz.block _ (lt_of_cell h))]; exact h
   have HB3 := hid (fun (z : World) (h : Below X.heap.size X z) => (show _ ∧ _ ∧ _ ∧ _ ∧ _ ∧ _ ∧ _ ∧ _ ∧ _ ∧ _ ∧ _ ∧ _ ∧ _ from ⟨keep z h c0, keep z h c1, keep z h c2, keep z h c3, keep z h d3, keep z h x0, keep z h x1, keep z h u0, keep z h u1, keep z h u2, keep z h v0, keep z h v1, keep z h v2⟩))
   have hkl := keptL_len r (relAt RB f t u r) k
   have HPK := hid hp
   have hxi : (x : Int) < (t.len : Int) := by omega
   have hyi : (y : Int) < (u.len : Int) := by omega
   clear hown hb hXb hwX hp hpin ht1 ht2 hrb hus hui hvs hvi hk1 hk2 c0 c1 c2 c3 d0 d1 d2 d3 u0 u1 u2 v0 v1 v2 x0 x1 keep
   go_wp2_with fail
   rw [← hX, ← hxb]
   clear hX hxb
   refine wp_region_plan (by rfl) (fun z : World => Below X.heap.size X z)
    [some (.pointer (some ⟨bs, 0, none⟩)), some (F.val f a cap), some (.pointer (some ⟨bs, 3, none⟩)), some (.slice (some ⟨ub, uo, none⟩) t.len ncap), some (.pointer (some ⟨xb, 0, none⟩)), some (.int .i64 (x : Int)), some (.pointer (some ⟨ub, uo + x * 3, none⟩)), some (Vv n1 ua t1.len uc uw w1'.length ud),
     some (.pointer (some ⟨bs + 1, 3, none⟩)), some (.slice (some ⟨vb, vo, none⟩) u.len ncap2), some (.pointer (some ⟨xb, 1, none⟩)), some (.int .i64 (y : Int)), some (.pointer (some ⟨vb, vo + y * 3, none⟩)), some (Vv n2 va t2.len vc vw w2'.length vd),
     some (.slice (some ⟨pb, po, none⟩) N cr), some (.bool rb), some (.bool (!rb))] ?aF ?haF _ rfl (by kernel_rfl) ((Below.refl _ _).drew) ?hall ?hend
   case haF => (simp only [layAll, Act.put, Option.getD_some, List.setIfInBounds_toArray, List.set_cons_zero, List.set_cons_succ]; rfl)
   case hall =>
    repeat (first | (refine Steps.cons (v := none) rfl ?_) | (refine Steps.cons ⟨rfl, fun K z hS hK => ?_⟩ ?_; rotate_left))
    ·exact Steps.nil
    all_goals
     obtain ⟨g0, g1, g2, g3, g4, g5, g6, g7, g8, g9, g10, g11, g12⟩ := HB3.out z hS
     first
     | (go_simp; exact hK _ hS)
     | (go_simp; refine callAt (args' := #[F.val f a cap, Vv n1 ua t1.len uc uw w1'.length ud, Vv n2 va t2.len vc vw w2'.length vd, .slice (some ⟨pb, po, none⟩) N cr]) rfl ?_; refine (HCL.out z hS).mono ?_; rintro e z2 ⟨rfl, hb2⟩; exact hK _ (hS.trans (hb2.mono hS.size)))
   case hend =>
    intro w4 hw4
    have HB4 := hid hw4
    have HO4 := hid (row_below HXO.out HB4.out)
    have HB5 := hid (show Below W.heap.size W w4 from HWX.out.trans (HB4.out.mono HWX.out.size))
    obtain ⟨y0, y1⟩ := cells2 ((HB4.out.block _ (heap_lt HXB.out)).trans HXB.out)
    have hbs4 : B ≤ w4.heap.size := by rw [HBB.out]; exact HB5.out.size
    clear hw4
    cases rb with
    | false =>
     have HKL := hid (show keptL r (relAt RB f t u r) (k + 1) = keptL r (relAt RB f t u r) k ++ [((x : Int), (y : Int))] by show keptL r (relAt RB f t u r) k ++ (if relAt RB f t u r k then [] else (r[k]?).toList) = _; rw [hRK.out, HPK.out]; rfl)
     go_wp2_with (at_builtin; refine wpList_append_own _ rfl _ _ 29 rfl B 61 i0 (.agg #[.int .i64 0, .int .i64 0]) 2 16 Tryz.underlying29 hi hz0 hz1 hz2 rfl (by decide) _ _ _ rfl (HO4.out.alloc _) ⟨w4.heap.size, 0, none⟩ 1 1 [.int .i64 (x : Int), .int .i64 (y : Int)] rfl rfl (cell_two_new _ _ _ _) (by intro z hz; simp at hz; rcases hz with rfl | rfl <;> rfl) (by unfold maxLen; omega) (by omega) (by simp; omega) ?_; intro v' w5 hown' hgrow _)
     have HO5 := hid hown'
     have HB6 := hid (show Below W.heap.size W w5 from (HB5.out.alloc HB5.out.size _).grown hgrow (by rw [← HBB.out]; simp; omega) (fun j hj => by rw [← HBB.out]; exact (HO4.out.lt j hj).1))
     clear hown' hgrow
     go_wp2_with fail
     go_roundw
     case rel => exact ⟨k + 1, _, by omega, rfl, by go_num, by rw [HKL.out, flatP_snoc, List.length_append]; exact HO5.out, HB6.out⟩
     case measure => simp [intOf]; omega
    | true =>
     have HKL := hid (show keptL r (relAt RB f t u r) (k + 1) = keptL r (relAt RB f t u r) k by show keptL r (relAt RB f t u r) k ++ (if relAt RB f t u r k then [] else (r[k]?).toList) = _; rw [hRK.out]; simp)
     go_wp2_with fail
     go_roundw
     case rel => exact ⟨k + 1, _, by omega, rfl, by go_num, by rw [HKL.out]; exact HO4.out, HB5.out⟩
     case measure => simp [intOf]; omega
  ·obtain rfl : k = N := by omega
   clear hown hb
   go_wp2_with fail
   go_ret
   exact ⟨_, rfl, row_base HO.out (by rw [HBB.out]; exact HWB.out.size), HWB.out.trans (HB.out.mono HWB.out.size)⟩
end Go.Proofs.YtfgpjfgejhahfaaGreatDoor
