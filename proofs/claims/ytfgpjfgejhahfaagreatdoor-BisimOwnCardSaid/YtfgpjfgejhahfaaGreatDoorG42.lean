/-
  Proved here: contracts of the walk to BisimOwn: bisim.Faults; each under the conditions that its own statement names.
-/
import Derived.Test.YtfgpjfgejhahfaaGreatDoorG37
import Derived.Test.YtfgpjfgejhahfaaGreatDoorG38
import Derived.Test.YtfgpjfgejhahfaaGreatDoorG40
import Derived.Test.YtfgpjfgejhahfaaGreatDoorG41
namespace Go.Proofs.YtfgpjfgejhahfaaGreatDoor
open Go Go.RowKit

theorem row_base {w : World} {lo lo' : Nat} {e : TypeId} {size : Nat} {v : Value} {n : Nat} {xs : List Value} (h : w.ownsRow lo e size v n xs) (hl : lo' ≤ lo) : w.ownsRow lo' e size v n xs := by
  refine ⟨h.1, ?_⟩
  rcases h.2 with h2 | ⟨g, cap, cur, h2, h3, h4⟩
  · exact Or.inl h2
  · exact Or.inr ⟨g, cap, cur, h2, Nat.le_trans hl h3, h4⟩
/-- Are the next values of the pair at i related? -/
def relAt (RB : F → Int × V × List Int → Int × V × List Int → Bool) (f : F) (t u : V) (r : List (Int × Int)) (i : Nat) : Bool := RB f (t.el (r.getD i (0, 0)).1.toNat) (u.el (r.getD i (0, 0)).2.toNat)
theorem relAny_ex (P : Nat → Nat → Bool) : ∃ RB : F → Int × V × List Int → Int × V × List Int → Bool, ∀ f u v, RB f u v = true ↔ relV (tells P) f u v :=
  ⟨fun f u v => @decide (relV (tells P) f u v) (Classical.propDecidable _), fun f u v => by simp⟩
/-- What Faults returns. -/
def fltL (RB : F → Int × V × List Int → Int × V × List Int → Bool) (f : F) (t : V) (g : F) (u : V) (r : List (Int × Int)) : List (Int × Int) := if relE' f t g u r = 0 then keptL r (relAt RB f t u r) r.length else []
theorem relE'_ok {f : F} {t : V} {g : F} {u : V} {r : List (Int × Int)} (h : relE' f t g u r = 0) : bothE f t g u = 0 ∧ relFrom t.len u.len none r = true := by
  unfold relE' at h
  split at h
  · rename_i h0
    split at h
    · rename_i h1; exact ⟨h0, h1⟩
    · cases h
  · rename_i h0; exact absurd h h0

set_option maxRecDepth 100000 in
set_option maxHeartbeats 12800000 in
theorem flt_any (S S2 : Nat → Nat → Prop) (S' S2' S3 : Nat → Prop) (f g : F) (a na a2 na2 ar : Option Addr) (cap ncap cap2 ncap2 cr : Nat) (t u : V) (r : List (Int × Int)) (w : World) (hs : Sl S w a f.t) (hv : Vl S' w na t) (hs2 : Sl S2 w a2 g.t) (hv2 : Vl S2' w na2 u) (hk : Kinds w) (hr : Prs S3 w ar r) (hN : r.length ≤ 1000000)
    (RB : F → Int × V × List Int → Int × V × List Int → Bool) (hRB : ∀ f u v, RB f u v = true ↔ relV (tells (fun x y => decide (((x : Int), (y : Int)) ∈ r))) f u v) :
    Calls Tryz.prog 19 #[Sv f a cap na t.len ncap, Sv g a2 cap2 na2 u.len ncap2, .slice ar r.length cr] w fun e w' => ∃ v, e = .returned (.tuple #[v, .int .i64 (relE' f t g u r)]) ∧ w'.ownsRow w.heap.size 61 2 v (fltL RB f t g u r).length (flatP (fltL RB f t g u r)) ∧ Below w.heap.size w w' := by
  obtain ⟨i0, hi, hz0, hz1, hz2⟩ := info_parts infoP
  obtain ⟨W, hW⟩ : ∃ W : World, W = (w.alloc (Obj.cells #[.int .i64 f.k, .int .i64 f.n, .slice a f.t.len cap, .slice na t.len ncap] 42)).alloc (Obj.cells #[.int .i64 g.k, .int .i64 g.n, .slice a2 g.t.len cap2, .slice na2 u.len ncap2] 42) := ⟨_, rfl⟩
  have hWb : Below w.heap.size w W := by rw [hW]; exact ((Below.refl _ _).alloc (Nat.le_refl _) _).alloc (by simp) _
  have k0 : W.heap[w.heap.size]? = some (Obj.cells #[.int .i64 f.k, .int .i64 f.n, .slice a f.t.len cap, .slice na t.len ncap] 42 (0, 0)) := by rw [hW]; exact heap_old2 _ _ _
  have k1 : W.heap[w.heap.size + 1]? = some (Obj.cells #[.int .i64 g.k, .int .i64 g.n, .slice a2 g.t.len cap2, .slice na2 u.len ncap2] 42 (0, 0)) := by rw [hW]; exact heap_new2 _ _ _
  obtain ⟨bs, hbs⟩ : ∃ bs, bs = w.heap.size := ⟨_, rfl⟩
  rw [← hbs] at k0 k1
  have HE := Lib.hid (fun x (hx : Below W.heap.size W x) => And.intro (cells4 ((hx.block _ (heap_lt k0)).trans k0)) (cells4 ((hx.block _ (heap_lt k1)).trans k1)))
  have HWB := Lib.hid hWb
  have HC := Lib.hid (fun x (hx : Below W.heap.size W x) => crel_any S S2 S' S2' S3 f g a na a2 na2 ar cap ncap cap2 ncap2 cr t u r x ((hs.below hWb).below hx) ((hv.below hWb).below hx) ((hs2.below hWb).below hx) ((hv2.below hWb).below hx) ((hk.below hWb).below hx) ((hr.below hWb).below hx))
  obtain ⟨E, hE⟩ : ∃ E, E = relE' f t g u r := ⟨_, rfl⟩
  have HEE := Lib.hid hE
  obtain ⟨L, hL⟩ : ∃ L, L = fltL RB f t g u r := ⟨_, rfl⟩
  have HLL := Lib.hid hL
  rw [← hE] at HC ⊢
  rw [← hL]
  have hl1 := hv.1
  have hl2 := hv2.1
  have HP := Lib.hid (hr.below hWb)
  have HS := Lib.hid (hs.below hWb)
  have HV := Lib.hid (hv.below hWb)
  have HV2 := Lib.hid (hv2.below hWb)
  obtain ⟨N, hNN⟩ : ∃ N, N = r.length := ⟨_, rfl⟩
  rw [← hNN] at HC hN ⊢
  have HN := Lib.hid hNN
  obtain ⟨⟨c0, c1, c2, c3⟩, d0, d1, d2, d3⟩ := HE.out _ (Below.refl _ _)
  have hcs : E = 30 ∨ E = 1 ∨ E = 0 := by
    rw [hE]; unfold relE'
    rcases bothE_cases f t g u with h | h | h <;> rw [h]
    · simp
    · simp
    · by_cases h2 : relFrom t.len u.len none r = true <;> simp [h2]
  clear hs hv hs2 hv2 hk hr k0 k1 hWb hE hL hNN
  by_cases h0 : E = 0
  rotate_left
  · have HL0 := Lib.hid (show L = [] by rw [HLL.out]; unfold fltL; rw [if_neg (by rw [← HEE.out]; exact h0)])
    rcases hcs with rfl | rfl | rfl
    · clear h0
      go_enter Tryz.func19, Tryz.ntmps19
      go_wp2_with fail
      rw [← hW, ← hbs]
      clear hW hbs
      refine (HC.out _ (Below.refl _ _)).mono ?_
      rintro e w1 ⟨rfl, hb1⟩
      have HB1 := Lib.hid hb1
      clear hb1
      go_wp2_with fail
      go_ret2
      exact ⟨_, rfl, by rw [HL0.out]; exact World.ownsRow_nil _ _ _ _, HWB.out.trans (HB1.out.mono HWB.out.size)⟩
    · clear h0
      go_enter Tryz.func19, Tryz.ntmps19
      go_wp2_with fail
      rw [← hW, ← hbs]
      clear hW hbs
      refine (HC.out _ (Below.refl _ _)).mono ?_
      rintro e w1 ⟨rfl, hb1⟩
      have HB1 := Lib.hid hb1
      clear hb1
      go_wp2_with fail
      go_ret2
      exact ⟨_, rfl, by rw [HL0.out]; exact World.ownsRow_nil _ _ _ _, HWB.out.trans (HB1.out.mono HWB.out.size)⟩
    · exact absurd rfl h0
  · have hok := relE'_ok (HEE.out.symm.trans h0)
    have HL0 := Lib.hid (show L = keptL r (relAt RB f t u r) N by rw [HLL.out]; unfold fltL; rw [if_pos (HEE.out.symm.trans h0), ← HN.out])
    obtain ⟨hy1, hy2, rfl⟩ := both_ok hok.1
    have hin := relFrom_in hok.2
    obtain ⟨hg, hn1, hok1⟩ := sys_parts hy1
    obtain ⟨_, hn2, hok2⟩ := sys_parts hy2
    have HOK := Lib.hid (And.intro hok1 hok2)
    have HG := Lib.hid hg
    have HIN := Lib.hid hin
    have HMM := Lib.hid (fun x (hx : Below W.heap.size W x) => member_any S3 ar cr r x (HP.out.below hx) (by rw [← HN.out]; exact hN) (fun p hp => by have := HIN.out p hp; omega))
    rw [← HN.out] at HMM
    subst h0
    clear hok hy1 hy2 hin hg hok1 hok2 hcs
    go_enter Tryz.func19, Tryz.ntmps19
    go_wp2_with fail
    rw [← hW, ← hbs]
    clear hW hbs
    refine (HC.out _ (Below.refl _ _)).mono ?_
    rintro e w1 ⟨rfl, hb1⟩
    have HB1 := Lib.hid hb1
    clear c0 c1 c2 c3 d0 d1 d2 d3 hb1
    go_wp2_with fail
    refine (HMM.out _ HB1.out).mono ?_
    rintro e w2 ⟨rfl, hb2, hsz, hmi⟩
    obtain ⟨mb, hmb⟩ : ∃ mb, mb = w1.heap.size := ⟨_, rfl⟩
    rw [← hmb] at hmi hsz ⊢
    have HB2 := Lib.hid (HB1.out.trans (hb2.mono HB1.out.size))
    have HMI := Lib.hid hmi
    obtain ⟨B, hB⟩ : ∃ B, B = w2.heap.size := ⟨_, rfl⟩
    rw [← hB] at HMI hsz
    have HAS := Lib.hid (mem_asks (mb := mb) (vb := mb + 1) (N := N) (B := B) (n := t.len) (m := u.len) (mem := fun x y => decide ((x, y) ∈ r)) (by omega) (by omega) (by omega) (by omega))
    have HBB := Lib.hid hB
    clear hb2 hmi hB hmb hsz
    go_wp2_with fail
    go_loopw [10, 24] (fun z i wr => ∃ (k : Nat) (v : Value), k ≤ N ∧ v = z ∧ i = .int .i64 k ∧ wr.ownsRow B 61 2 v (keptL r (relAt RB f t u r) k).length (flatP (keptL r (relAt RB f t u r) k)) ∧ Below w2.heap.size w2 wr) (fun _ i _ => N - (intOf i).toNat)
    case atStart => exact ⟨0, _, Nat.zero_le _, rfl, rfl, World.ownsRow_nil _ _ _ _, Below.refl _ _⟩
    case round =>
      obtain ⟨k, v, hk, rfl, rfl, hown, hb0⟩ := hrel
      have HB0 := Lib.hid hb0
      have hb : Below W.heap.size W wr := HB2.out.trans (hb0.mono HB2.out.size)
      have hmi := HAS.out.same _ _ HMI.out (hb0.mono (by rw [← HBB.out]; exact Nat.le_refl _))
      have HO := Lib.hid hown
      have HB := Lib.hid hb
      have HMI2 := Lib.hid hmi
      by_cases hlt : k < N
      · obtain ⟨p, hp⟩ : ∃ p, r[k]? = some p := ⟨r[k]'(by have := HN.out; omega), List.getElem?_eq_getElem _⟩
        obtain ⟨pb, po, rfl, _, e0, e1⟩ := (HP.out.below hb).get hp
        have hpin := HIN.out p (List.mem_of_getElem? hp)
        obtain ⟨p1, p2⟩ := p
        simp only at e0 e1 hpin
        obtain ⟨x, rfl⟩ : ∃ x : Nat, p1 = (x : Int) := ⟨p1.toNat, by omega⟩
        obtain ⟨y, rfl⟩ : ∃ y : Nat, p2 = (y : Int) := ⟨p2.toNat, by omega⟩
        have hx : x < t.len := by omega
        have hy : y < u.len := by omega
        have hRK := Lib.hid (show relAt RB f t u r k = RB f (t.el x) (u.el y) by unfold relAt; rw [List.getD_eq_getElem?_getD, hp]; simp)
        obtain ⟨X, hX⟩ : ∃ X : World, X = wr.alloc (.cells #[.int .i64 (x : Int), .int .i64 (y : Int)] 61) := ⟨_, rfl⟩
        obtain ⟨xb, hxb⟩ : ∃ xb, xb = wr.heap.size := ⟨_, rfl⟩
        have hXb : X.heap[xb]? = some (.cells #[.int .i64 (x : Int), .int .i64 (y : Int)] 61 (0, 0)) := by rw [hX, hxb]; exact heap_new _ _
        have HXB := Lib.hid hXb
        have hwX : Below W.heap.size W X := by rw [hX]; exact hb.alloc hb.size _
        have HWX := Lib.hid hwX
        have HX2 := Lib.hid (show Below w2.heap.size w2 X by rw [hX]; exact hb0.alloc hb0.size _)
        have HXO := Lib.hid (show X.ownsRow B 61 2 v (keptL r (relAt RB f t u r) k).length (flatP (keptL r (relAt RB f t u r) k)) by rw [hX]; exact hown.alloc _)
        have HXM := Lib.hid (show MemI mb (mb + 1) N B (fun x y => decide ((x, y) ∈ r)) X by rw [hX]; exact HAS.out.same _ _ hmi (((Below.refl _ _).alloc (Nat.le_refl _) _).mono hmi.2.2))
        obtain ⟨ub, uo, ua, uc, uw, ud, rfl, _, u0, u1, u2, hus, hui⟩ := (HV.out.below hwX).el hx
        obtain ⟨vb, vo, va, vc, vw, vd, rfl, _, v0, v1, v2, hvs, hvi⟩ := (HV2.out.below hwX).el hy
        obtain ⟨⟨n1, t1, w1'⟩, ht1⟩ : ∃ z, z = t.el x := ⟨_, rfl⟩
        obtain ⟨⟨n2, t2, w2'⟩, ht2⟩ : ∃ z, z = u.el y := ⟨_, rfl⟩
        rw [← ht1] at u0 u1 u2 hus hui hRK
        rw [← ht2] at v0 v1 v2 hvs hvi hRK
        have hk1 := HOK.out.1 x hx
        have hk2 := HOK.out.2 y hy
        rw [← ht1] at hk1
        rw [← ht2] at hk2
        simp only at u0 u1 u2 hus hui v0 v1 v2 hvs hvi hk1 hk2
        obtain ⟨rb, hrb⟩ : ∃ rb, rb = RB f (n1, t1, w1') (n2, t2, w2') := ⟨_, rfl⟩
        have HCL := Lib.hid (fun z (hz : Kept (fun _ => False) X z) (hm : MemI mb (mb + 1) N B (fun x y => decide ((x, y) ∈ r)) z) => relOk_all t1 B (fun _ => False) _ t.len u.len _ _ _ RB S (fun _ => True) f n1 n2 t2 w1' w2' a ua va uw vw cap uc vc ud vd z HAS.out (fun f u v => hRB f u v) hm ((HS.out.below hwX).keptP hz (fun _ _ _ h => h)) ((hus.keptP hz (fun _ _ h => h)).mono (fun _ _ => trivial) (fun _ _ _ => rfl)) ((hui.keptP hz (fun _ _ h => h)).mono (fun _ _ => trivial) (fun _ _ _ => rfl)) ((hvs.keptP hz (fun _ _ h => h)).mono (fun _ _ => trivial) (fun _ _ _ => rfl)) ((hvi.keptP hz (fun _ _ h => h)).mono (fun _ _ => trivial) (fun _ _ _ => rfl)) (fun _ _ _ h => h) (fun _ _ h => h) HG.out hk1 hk2)
        rw [← hrb] at HCL hRK
        obtain ⟨⟨c0, c1, c2, c3⟩, d0, d1, d2, d3⟩ := HE.out _ hwX
        have x0 := (cells2 hXb).1
        have x1 := (cells2 hXb).2
        have HB3 := Lib.hid (fun (z : World) (h : MemI mb (mb + 1) N B (fun x y => decide ((x, y) ∈ r)) z ∧ Kept (fun _ => False) X z) => (show _ ∧ _ ∧ _ ∧ _ ∧ _ ∧ _ ∧ _ ∧ _ ∧ _ ∧ _ ∧ _ ∧ _ ∧ _ from ⟨h.2.cell id c0, h.2.cell id c1, h.2.cell id c2, h.2.cell id c3, h.2.cell id d3, h.2.cell id x0, h.2.cell id x1, h.2.cell id u0, h.2.cell id u1, h.2.cell id u2, h.2.cell id v0, h.2.cell id v1, h.2.cell id v2⟩))
        have hkl := keptL_len r (relAt RB f t u r) k
        have HPK := Lib.hid hp
        have hxi : (x : Int) < (t.len : Int) := by omega
        have hyi : (y : Int) < (u.len : Int) := by omega
        clear hown hb hb0 hmi hXb hwX hp hpin ht1 ht2 hrb hus hui hvs hvi hk1 hk2 c0 c1 c2 c3 d0 d1 d2 d3 u0 u1 u2 v0 v1 v2 x0 x1
        go_wp2_with fail
        rw [← hX, ← hxb]
        clear hX hxb
        refine wp_region_plan (by rfl) (fun z : World => MemI mb (mb + 1) N B (fun x y => decide ((x, y) ∈ r)) z ∧ Kept (fun _ => False) X z)
          [some (.pointer (some ⟨bs, 0, none⟩)), some (F.val f a cap), some (.pointer (some ⟨bs, 3, none⟩)), some (.slice (some ⟨ub, uo, none⟩) t.len ncap), some (.pointer (some ⟨xb, 0, none⟩)), some (.int .i64 (x : Int)), some (.pointer (some ⟨ub, uo + x * 3, none⟩)), some (Vv n1 ua t1.len uc uw w1'.length ud),
           some (.pointer (some ⟨bs + 1, 3, none⟩)), some (.slice (some ⟨vb, vo, none⟩) u.len ncap2), some (.pointer (some ⟨xb, 1, none⟩)), some (.int .i64 (y : Int)), some (.pointer (some ⟨vb, vo + y * 3, none⟩)), some (Vv n2 va t2.len vc vw w2'.length vd),
           some (.func (.func 101) #[] #[.pointer (some ⟨mb + 1, 0, none⟩)]), some (.bool rb), some (.bool (!rb))] ?aF ?haF _ rfl (by kernel_rfl) ⟨HAS.out.same _ _ HXM.out (((Below.refl _ _).drew).mono HXM.out.2.2), (Kept.refl _ _).drew⟩ ?hall ?hend
        case haF => (simp only [layAll, Act.put, Option.getD_some, List.setIfInBounds_toArray, List.set_cons_zero, List.set_cons_succ]; rfl)
        case hall =>
          repeat (first | (refine Steps.cons (v := none) rfl ?_) | (refine Steps.cons ⟨rfl, fun K z hS hK => ?_⟩ ?_; rotate_left))
          · exact Steps.nil
          all_goals
            obtain ⟨g0, g1, g2, g3, g4, g5, g6, g7, g8, g9, g10, g11, g12⟩ := HB3.out z hS
            first
            | (go_simp; exact hK _ hS)
            | (go_simp; refine callAt (args' := #[F.val f a cap, Vv n1 ua t1.len uc uw w1'.length ud, Vv n2 va t2.len vc vw w2'.length vd, .func (.func 101) #[] #[.pointer (some ⟨mb + 1, 0, none⟩)]]) rfl ?_; refine (HCL.out z hS.2 hS.1).mono ?_; rintro e z2 ⟨rfl, hI2, hk2⟩; exact hK _ ⟨hI2, hS.2.trans hk2⟩)
        case hend =>
          intro w4 hw4
          have HW4 := Lib.hid hw4
          have HB4 := Lib.hid (show Below X.heap.size X w4 from hw4.2.toBelow (Nat.le_refl _) (fun _ _ h => h))
          have HO4 := Lib.hid (row_below HXO.out HB4.out)
          have HB5 := Lib.hid (show Below W.heap.size W w4 from HWX.out.trans (HB4.out.mono HWX.out.size))
          obtain ⟨y0, y1⟩ := cells2 ((HB4.out.block _ (heap_lt HXB.out)).trans HXB.out)
          have HB7 := Lib.hid (show Below w2.heap.size w2 w4 from HX2.out.trans (HB4.out.mono HX2.out.size))
          have hbs4 : B ≤ w4.heap.size := by rw [HBB.out]; exact HB7.out.size
          clear hw4
          cases rb with
          | false =>
            have HKL := Lib.hid (show keptL r (relAt RB f t u r) (k + 1) = keptL r (relAt RB f t u r) k ++ [((x : Int), (y : Int))] by show keptL r (relAt RB f t u r) k ++ (if relAt RB f t u r k then [] else (r[k]?).toList) = _; rw [hRK.out, HPK.out]; rfl)
            go_wp2_with (at_builtin; refine wpList_append_own _ rfl _ _ 29 rfl B 61 i0 (.agg #[.int .i64 0, .int .i64 0]) 2 16 Tryz.underlying29 hi hz0 hz1 hz2 rfl (by decide) _ _ _ rfl (HO4.out.alloc _) ⟨w4.heap.size, 0, none⟩ 1 1 [.int .i64 (x : Int), .int .i64 (y : Int)] rfl rfl (cell_two_new _ _ _ _) (by intro z hz; simp at hz; rcases hz with rfl | rfl <;> rfl) (by unfold maxLen; omega) (by omega) (by simp; omega) ?_; intro v' w5 hown' hgrow _)
            have HO5 := Lib.hid hown'
            have HB6 := Lib.hid (show Below w2.heap.size w2 w5 from (HB7.out.alloc HB7.out.size _).grown hgrow (by rw [← HBB.out]; simp; omega) (fun j hj => by rw [← HBB.out]; exact (HO4.out.lt j hj).1))
            clear hown' hgrow
            go_wp2_with fail
            go_roundw
            case rel => exact ⟨k + 1, _, by omega, rfl, by go_num, by rw [HKL.out, flatP_snoc, List.length_append]; exact HO5.out, HB6.out⟩
            case measure => simp [intOf]; omega
          | true =>
            have HKL := Lib.hid (show keptL r (relAt RB f t u r) (k + 1) = keptL r (relAt RB f t u r) k by show keptL r (relAt RB f t u r) k ++ (if relAt RB f t u r k then [] else (r[k]?).toList) = _; rw [hRK.out]; simp)
            go_wp2_with fail
            go_roundw
            case rel => exact ⟨k + 1, _, by omega, rfl, by go_num, by rw [HKL.out]; exact HO4.out, HB7.out⟩
            case measure => simp [intOf]; omega
      · obtain rfl : k = N := by omega
        clear hown hb hb0 hmi
        go_wp2_with fail
        go_ret2
        exact ⟨_, rfl, by rw [HL0.out]; exact row_base HO.out (by rw [HBB.out]; exact Nat.le_trans HWB.out.size HB2.out.size), HWB.out.trans (HB.out.mono HWB.out.size)⟩
end Go.Proofs.YtfgpjfgejhahfaaGreatDoor
