/-
  Proved here: contracts of the walk to BisimOperations: the reference's Closure; each under the conditions that its own statement names.
-/
import Derived.Test.YtfgpjfgejhahfaaGreatDoorG10
import Derived.Test.YtfgpjfgejhahfaaGreatDoorG24
import Derived.StillTailTactics
namespace Go.Proofs.YtfgpjfgejhahfaaGreatDoor
open Go Go.RowKit

/-- Block b begins with m numbers. -/
def RowP (w : World) (b m : Nat) (f : Nat → Int) : Prop := ∃ cur, w.heap[b]? = some (.cells cur 3 (0, 0)) ∧ m ≤ cur.size ∧ ∀ i, i < m → cur[i]? = some (.int .i64 (f i))
theorem RowP.cell {w : World} {b m : Nat} {f : Nat → Int} (h : RowP w b m f) {i : Nat} (hi : i < m) : w.cell? ⟨b, i, none⟩ = some (.int .i64 (f i)) := by
  obtain ⟨cur, hb, _, hc⟩ := h
  simp only [World.cell?, hb, Option.isSome_none, Bool.false_eq_true, if_false]
  exact hc i hi
theorem RowP.frozen {w : World} {b m : Nat} {f : Nat → Int} (h : RowP w b m f) (i : Nat) : w.frozen? ⟨b, i, none⟩ = false := by
  obtain ⟨cur, hb, _⟩ := h
  exact frozen_of hb
theorem RowP.lt {w : World} {b m : Nat} {f : Nat → Int} (h : RowP w b m f) : b < w.heap.size := by
  obtain ⟨cur, hb, _⟩ := h
  exact heap_lt hb
theorem RowP.same {w w' : World} {b m : Nat} {f : Nat → Int} (h : RowP w b m f) (e : w'.heap[b]? = w.heap[b]?) : RowP w' b m f := by
  obtain ⟨cur, hb, hr⟩ := h
  exact ⟨cur, e.trans hb, hr⟩
theorem RowP.congr {w : World} {b m : Nat} {f g : Nat → Int} (h : RowP w b m f) (e : ∀ i, i < m → f i = g i) : RowP w b m g := by
  obtain ⟨cur, hb, hs, hr⟩ := h
  exact ⟨cur, hb, hs, fun i hi => by rw [← e i hi]; exact hr i hi⟩
theorem RowP.set {w : World} {b m : Nat} {f : Nat → Int} (h : RowP w b m f) (i : Nat) (x : Int) : RowP (w.setCell ⟨b, i, none⟩ (.int .i64 x)) b m (fun j => if j = i then x else f j) := by
  obtain ⟨cur, hb, hs, hr⟩ := h
  refine ⟨cur.setIfInBounds i (.int .i64 x), heap_setCell_same w b i cur _ _ hb, by simpa using hs, fun j hj => ?_⟩
  by_cases e : j = i
  · subst e
    simp [show j < cur.size by omega]
  · rw [Array.getElem?_setIfInBounds_ne (Ne.symm e)]
    simp only [if_neg e]
    exact hr j hj
theorem rowP_of_own {w : World} {base g m cap : Nat} {l : List Int} (h : w.ownsRow base 3 1 (.slice (some ⟨g, 0, none⟩) m cap) m (l.map (Value.int .i64))) : RowP w g m (fun i => l.getD i 0) := by
  have hl := h.1
  rcases h.2 with ⟨h2, _⟩ | ⟨g', cap', cur, h2, _, hb, h4, _, h6, h7⟩
  · cases h2
  · simp only [Value.slice.injEq, Option.some.injEq, Addr.mk.injEq, and_true, true_and] at h2
    obtain ⟨rfl, rfl⟩ := h2
    refine ⟨cur, hb, by omega, fun i hi => ?_⟩
    have h8 : (cur.toList.take (m * 1))[i]? = (l.map (Value.int .i64))[i]? := by rw [h7]
    have hil : i < l.length := by simp at hl; omega
    rw [List.getElem?_take_of_lt (by omega), Array.getElem?_toList, List.getElem?_map, List.getElem?_eq_getElem hil] at h8
    rw [h8]
    simp [List.getD_eq_getElem?_getD, hil]

/-- What Shift(n, 0) leaves. -/
def ShiftP (n : Nat) (w : World) (e : Ending) (w' : World) : Prop :=
  ∃ al cl, e = .returned (.slice al n cl) ∧ (n = 0 ∨ ∃ g, al = some ⟨g, 0, none⟩ ∧ w.heap.size ≤ g ∧ RowP w' g n (fun i => i)) ∧ Below w.heap.size w w'
def upI (k : Nat) : List Int := (List.range k).map (fun (i : Nat) => (i : Int))
theorem upI_succ (k : Nat) : upI (k + 1) = upI k ++ [(k : Int)] := by simp [upI, List.range_succ]
theorem upI_len (k : Nat) : (upI k).length = k := by simp [upI]
set_option maxRecDepth 100000 in
set_option maxHeartbeats 1600000 in
theorem shift_any (n : Nat) (w : World) (hn : n ≤ 1000000) : Calls Tryz.prog 71 #[.int .i64 (n : Int), .int .i64 0] w (ShiftP n w) := by
  obtain ⟨i0, hi, hz0, hz1, hz2⟩ := info_parts infoInt
  go_enter Tryz.func71, Tryz.ntmps71
  go_wp2_with fail
  go_loopw [5, 8] (fun v i wr => ∃ k : Nat, k ≤ n ∧ i = .int .i64 k ∧ wr.ownsRow w.heap.size 3 1 v k ((upI k).map (Value.int .i64)) ∧ Below w.heap.size w wr) (fun _ i _ => n - (intOf i).toNat)
  case atStart => exact ⟨0, Nat.zero_le _, rfl, World.ownsRow_nil _ _ _ _, Below.refl _ _⟩
  case round =>
    obtain ⟨k, hk, rfl, hown, hb⟩ := hrel
    have HO := Lib.hid hown
    have HB := Lib.hid hb
    have hbs := hb.size
    clear hb
    by_cases hlt : k < n
    · go_wp2_with (at_builtin; refine wpList_append_own _ rfl _ _ 26 rfl w.heap.size 3 i0 (.int .i64 0) 1 8 Tryz.underlying26 hi hz0 hz1 hz2 rfl (by decide) _ _ _ rfl (hown.alloc _) ⟨wr.heap.size, 0, none⟩ 1 1 [.int .i64 (k : Int)] rfl rfl (cell_one_new _ _ _) (by intro u hu; simp at hu; subst hu; rfl) (by unfold maxLen; omega) (by omega) (by simp; omega) ?_; intro v' w1 hown' hgrow _)
      have HO1 := Lib.hid hown'
      have HB1 := Lib.hid (show Below w.heap.size w w1 from (HB.out.alloc HB.out.size _).grown hgrow (by simp; omega) (fun j hj => (hown.lt j hj).1))
      clear hown hown' hgrow
      go_wp2_with fail
      go_roundw
      case rel => exact ⟨k + 1, by omega, by go_num, by rw [upI_succ]; simpa using HO1.out, HB1.out⟩
      case measure => simp [intOf]; omega
    · obtain rfl : k = n := by omega
      clear hown
      go_wp2_with fail
      go_ret
      rcases HO.out.2 with ⟨rfl, h0⟩ | ⟨g, cap, cur, rfl, hg, hgh⟩
      · subst h0
        exact ⟨none, 0, rfl, Or.inl rfl, HB.out⟩
      · exact ⟨_, _, rfl, Or.inr ⟨g, rfl, hg, (rowP_of_own HO.out).congr (fun i hi => by simp [upI, List.getD_eq_getElem?_getD, hi])⟩, HB.out⟩
end Go.Proofs.YtfgpjfgejhahfaaGreatDoor

namespace Go.Proofs.YtfgpjfgejhahfaaGreatDoor
open Go Go.RowKit

theorem own_ints {w : World} {base n cg : Nat} {ag : Option Addr} {l : List Int} (h : w.ownsRow base 3 1 (.slice ag n cg) n (l.map (Value.int .i64))) (hn : n ≤ 1000000) : Ints (fun b => base ≤ b) w ag l := by
  have hl := h.1
  simp at hl
  rcases h.2 with ⟨h2, h3⟩ | ⟨g', cap', cur, h2, h3, hb, h4, _, h6, h7⟩
  · have : l = [] := List.eq_nil_of_length_eq_zero (by omega)
    subst this
    exact ⟨by simp, Or.inl rfl⟩
  · simp only [Value.slice.injEq, true_and] at h2
    obtain ⟨rfl, rfl⟩ := h2
    refine ⟨by omega, Or.inr ⟨g', 0, rfl, h3, fun i x hx => ?_⟩⟩
    have h8 : (cur.toList.take (n * 1))[i]? = (l.map (Value.int .i64))[i]? := by rw [h7]
    have hil : i < l.length := (List.getElem?_eq_some_iff.1 hx).1
    rw [List.getElem?_take_of_lt (by omega), Array.getElem?_toList, List.getElem?_map, hx] at h8
    simp only [World.cell?, hb, Option.isSome_none, Bool.false_eq_true, if_false, Nat.zero_add]
    exact h8
/-- Two slices of the call's own that share no row. -/
def Sep (v u : Value) : Prop := v.ownBlock = none ∨ v.ownBlock ≠ u.ownBlock
theorem Sep.symm {v u : Value} (h : Sep v u) : Sep u v := by
  unfold Sep at *
  cases hu : u.ownBlock with
  | none => exact Or.inl rfl
  | some g =>
    refine Or.inr (fun e => ?_)
    rcases h with h | h
    · rw [h] at e; cases e
    · exact h (by rw [← e, hu])
theorem Sep.append {w : World} {base n : Nat} {e : TypeId} {v v' u : Value} {xs : List Value} (h : Sep v u) (hu : w.ownsRow base e 1 u n xs) {k : Nat} (hk : w.heap.size ≤ k) (hv : v'.ownBlock = v.ownBlock ∨ v'.ownBlock = some k) : Sep v' u := by
  rcases hv with hv | hv
  · unfold Sep; rw [hv]; exact h
  · refine Or.inr (fun e => ?_)
    rw [hv] at e
    have := (hu.lt k e.symm).2
    omega

set_option maxRecDepth 100000 in
set_option maxHeartbeats 6400000 in
theorem refclo_any (S2 : Nat → Prop) (ar : Option Addr) (cr n : Nat) (r : List (Int × Int)) (w : World) (hr : Prs S2 w ar r) (hn : n ≤ 100000) (hN : r.length ≤ 1000000) (hin : ∀ p ∈ r, 0 ≤ p.1 ∧ p.1 < n ∧ 0 ≤ p.2 ∧ p.2 < n) :
    Calls Tryz.prog 28 #[.int .i64 (n : Int), .slice ar r.length cr] w fun e w' => ∃ al cl, e = .returned (.slice al (numsC (repAll (fun z => z) r) n).1.length cl) ∧ Ints (fun b => w.heap.size ≤ b) w' al (numsC (repAll (fun z => z) r) n).1 ∧ Below w.heap.size w w' := by
  obtain ⟨N, hNN⟩ : ∃ N, N = r.length := ⟨_, rfl⟩
  rw [← hNN] at hN ⊢
  have HN := Lib.hid hNN
  have HP := Lib.hid hr
  have HIN := Lib.hid hin
  clear hr hin hNN
  go_enter Tryz.func28, Tryz.ntmps28
  go_wp2_with fail
  refine (shift_any n w (by omega)).mono ?_
  rintro e w1 ⟨al, cl, rfl, hrow, hb1⟩
  have HRO := Lib.hid hrow
  have HB1 := Lib.hid hb1
  clear hrow hb1
  go_wp2_with fail
  go_loopw [19] (fun i wr => ∃ m : Nat, m ≤ N ∧ i = .int .i64 m ∧ (n = 0 ∨ ∃ g, al = some ⟨g, 0, none⟩ ∧ w.heap.size ≤ g ∧ RowP wr g n (repAll (fun z => z) (r.take m))) ∧ Below w.heap.size w wr) (fun i _ => N - (intOf i).toNat)
  case atStart => exact ⟨0, Nat.zero_le _, rfl, HRO.out, HB1.out⟩
  case round =>
    obtain ⟨m, hm, rfl, hrow, hb⟩ := hrel
    obtain ⟨wo, rfl⟩ : ∃ wo : World, wo = wr := ⟨_, rfl⟩
    have HB := Lib.hid hb
    by_cases hlt : m < N
    · obtain ⟨p, hp⟩ : ∃ p, r[m]? = some p := ⟨r[m]'(by have := HN.out; omega), List.getElem?_eq_getElem _⟩
      obtain ⟨b, o, rfl, _, c0, c1⟩ := (HP.out.below hb).get hp
      have hpin := HIN.out p (List.mem_of_getElem? hp)
      have HTK := Lib.hid (show r.take (m + 1) = r.take m ++ [p] by rw [List.take_add_one, hp]; rfl)
      obtain ⟨p1, p2⟩ := p
      simp only at c0 c1 hpin HTK
      obtain ⟨hp1, hp2, hp3, hp4⟩ := hpin
      obtain ⟨pa, rfl⟩ : ∃ pa : Nat, p1 = (pa : Int) := ⟨p1.toNat, by omega⟩
      obtain ⟨pc, rfl⟩ : ∃ pc : Nat, p2 = (pc : Int) := ⟨p2.toNat, by omega⟩
      have hpan : pa < n := by omega
      have hpcn : pc < n := by omega
      obtain ⟨g, rfl, hg, hrp⟩ : ∃ g, al = some ⟨g, 0, none⟩ ∧ w.heap.size ≤ g ∧ RowP wo g n (repAll (fun z => z) (r.take m)) := by
        rcases hrow with h | h
        · omega
        · exact h
      obtain ⟨X, hX⟩ : ∃ X : World, X = wo.alloc (.cells #[.int .i64 (pa : Int), .int .i64 (pc : Int)] 61) := ⟨_, rfl⟩
      obtain ⟨pb, hpb⟩ : ∃ pb, pb = wo.heap.size := ⟨_, rfl⟩
      have hXb : X.heap[pb]? = some (.cells #[.int .i64 (pa : Int), .int .i64 (pc : Int)] 61 (0, 0)) := by rw [hX, hpb]; exact World.alloc_heap_new _ _
      obtain ⟨C, hC⟩ : ∃ C : Nat → Int, C = repAll (fun z => z) (r.take m) := ⟨_, rfl⟩
      rw [← hC] at hrp
      have HJ := Lib.hid (show repAll (fun z => z) (r.take (m + 1)) = repF C (C pa) (C pc) by rw [HTK.out, repAll_snoc, ← hC]; rfl)
      have hXr : X.drew.heap[g]? = wo.heap[g]? := by rw [hX]; exact Below.heap_alloc _ _ _ hrp.lt
      have HXR := Lib.hid (fun q => (show RowP (X.drewN q) g n C from hrp.same hXr))
      have HXB := Lib.hid (fun q => (show Below w.heap.size w (X.drewN q) by rw [hX]; exact belowN (hb.alloc hb.size _)))
      have HGB := Lib.hid hg
      have hXr2 : RowP X g n C := hrp.same hXr
      obtain ⟨x0, x1⟩ := cells2 hXb
      have y0 := hXr2.cell hpan
      have y1 := hXr2.cell hpcn
      obtain ⟨tv, hto⟩ : ∃ tv, tv = C pa := ⟨_, rfl⟩
      obtain ⟨fv, hfr⟩ : ∃ fv, fv = C pc := ⟨_, rfl⟩
      rw [← hto] at y0
      rw [← hfr] at y1
      rw [← hto, ← hfr] at HJ
      clear hrow hb hp hrp hC hXb hXr hXr2 hto hfr
      go_wp2_with fail
      rw [← hX, ← hpb]
      clear hX hpb
      go_quiet (fail)
      clear x0 x1 y0 y1 c0 c1
      go_wp2_with fail
      go_loopw [35] (fun i wr => ∃ z : Nat, z ≤ n ∧ i = .int .i64 z ∧ RowP wr g n (fun j => if j < z then repF C tv fv j else C j) ∧ Below w.heap.size w wr) (fun i _ => n - (intOf i).toNat)
      case atStart => exact ⟨0, Nat.zero_le _, rfl, (HXR.out _).congr (fun j _ => by simp), HXB.out _⟩
      case round =>
        obtain ⟨z, hz, rfl, hrow, hb⟩ := hrel
        have HRW := Lib.hid hrow
        have HBW := Lib.hid hb
        clear hb
        by_cases hlt2 : z < n
        · obtain ⟨x, hx⟩ : ∃ x, x = C z := ⟨_, rfl⟩
          have hd : wr.cell? ⟨g, z, none⟩ = some (.int .i64 x) := by have := hrow.cell hlt2; rw [if_neg (by omega)] at this; rw [hx]; exact this
          have hf := hrow.frozen z
          have HX := Lib.hid hx
          clear hrow hx
          by_cases hxf : x = fv
          · have HG := Lib.hid (show repF C tv fv z = tv by unfold repF; rw [← HX.out, if_pos hxf])
            subst hxf
            go_wp2_with fail
            go_roundw
            case rel => exact ⟨z + 1, by omega, by go_num, (HRW.out.set z tv).congr (fun j hj => by
              by_cases e : j = z
              · subst e; simp [HG.out]
              · by_cases e2 : j < z
                · simp [e, e2, show j < z + 1 by omega]
                · simp [e, e2, show ¬ j < z + 1 by omega]), HBW.out.setCell (p := ⟨g, z, none⟩) HGB.out _⟩
            case measure => simp [intOf]; omega
          · have HG := Lib.hid (show repF C tv fv z = C z by unfold repF; rw [← HX.out, if_neg hxf])
            have hxb : (x == fv) = false := by simp [hxf]
            go_wp2_with fail
            go_roundw
            case rel => exact ⟨z + 1, by omega, by go_num, HRW.out.congr (fun j hj => by
              by_cases e : j = z
              · subst e; simp [HG.out]
              · by_cases e2 : j < z
                · simp [e2, show j < z + 1 by omega]
                · simp [e2, show ¬ j < z + 1 by omega]), HBW.out⟩
            case measure => simp [intOf]; omega
        · obtain rfl : z = n := by omega
          have HR2 := Lib.hid (show RowP wr g z (repAll (fun z => z) (r.take (m + 1))) by rw [HJ.out]; exact HRW.out.congr (fun j hj => by simp [hj]))
          clear hrow
          go_wp2_with fail
          go_roundw
          case rel => exact ⟨m + 1, by omega, by go_num, Or.inr ⟨g, rfl, HGB.out, HR2.out⟩, HBW.out⟩
          case measure => simp [intOf]; omega
    · obtain rfl : m = N := by omega
      obtain ⟨C, hC⟩ : ∃ C : Nat → Int, C = repAll (fun z => z) r := ⟨_, rfl⟩
      rw [HN.out, List.take_length, ← hC] at hrow
      have HC := Lib.hid hC
      have HRO2 := Lib.hid hrow
      obtain ⟨B, hB⟩ : ∃ B, B = wo.heap.size := ⟨_, rfl⟩
      have HBB := Lib.hid hB
      obtain ⟨i0, hi, hz0, hz1, hz2⟩ := info_parts infoInt
      have HI := Lib.hid (show _ ∧ _ ∧ _ ∧ _ from ⟨hi, hz0, hz1, hz2⟩)
      clear hrow hb hC hB hi hz0 hz1 hz2
      go_wp2_with fail
      go_loopw [11, 12, 52] (fun v1 v2 i wr => ∃ (x : Nat) (ag ah : Option Addr) (cg ch : Nat), x ≤ n ∧ i = .int .i64 x ∧ v1 = .slice ag (numsC C x).2.length cg ∧ v2 = .slice ah (numsC C x).1.length ch ∧
        wr.ownsRow B 3 1 (.slice ag (numsC C x).2.length cg) (numsC C x).2.length ((numsC C x).2.map (Value.int .i64)) ∧ wr.ownsRow B 3 1 (.slice ah (numsC C x).1.length ch) (numsC C x).1.length ((numsC C x).1.map (Value.int .i64)) ∧
        Sep (.slice ag (numsC C x).2.length cg) (.slice ah (numsC C x).1.length ch) ∧ (numsC C x).2.length ≤ x ∧ (numsC C x).1.length = x ∧ Below wo.heap.size wo wr) (fun _ _ i _ => n - (intOf i).toNat)
      case atStart => exact ⟨0, none, none, 0, 0, Nat.zero_le _, rfl, rfl, rfl, World.ownsRow_nil _ _ _ _, World.ownsRow_nil _ _ _ _, Or.inl rfl, by simp [numsC], rfl, Below.refl _ _⟩
      case round =>
        obtain ⟨x, ag, ah, cg, ch, hx, rfl, rfl, rfl, h1, h2, h3, h4, h5, hb⟩ := hrel
        have HH1 := Lib.hid h1
        have HH2 := Lib.hid h2
        have HH3 := Lib.hid h3
        have HB5 := Lib.hid hb
        have hBs : B ≤ wr.heap.size := by have := HBB.out; have := hb.size; omega
        obtain ⟨F, hF⟩ : ∃ F, F = (numsC C x).2 := ⟨_, rfl⟩
        obtain ⟨O, hO⟩ : ∃ O, O = (numsC C x).1 := ⟨_, rfl⟩
        rw [← hF] at HH1 HH3 h4
        rw [← hO] at HH2 HH3 h5
        rw [← hF, ← hO]
        have HF := Lib.hid hF
        have HO := Lib.hid hO
        have H5 := Lib.hid h5
        have h5' : O.length ≤ x := by omega
        clear h1 h2 h3 hF hO h5
        by_cases hlt : x < n
        · obtain ⟨g, rfl, hg, hrp⟩ : ∃ g, al = some ⟨g, 0, none⟩ ∧ w.heap.size ≤ g ∧ RowP wo g n C := by
            rcases HRO2.out with h | h
            · omega
            · exact h
          obtain ⟨c, hc⟩ : ∃ c, c = C x := ⟨_, rfl⟩
          have c0 : wr.cell? ⟨g, x, none⟩ = some (.int .i64 c) := by rw [hc]; exact (hrp.same (hb.block _ hrp.lt)).cell hlt
          have HCX := Lib.hid hc
          have HIX := Lib.hid (index_any (fun b => B ≤ b) ag cg F c wr (own_ints HH1.out (by omega)))
          clear hrp hc hb
          go_wp2_with fail
          refine HIX.out.mono ?_
          rintro e w' ⟨rfl, hw'⟩
          have hw2 := hw'.symm
          subst hw2
          by_cases hneg : idx F c < 0
          · have HNS := Lib.hid (show numsC C (x + 1) = (O ++ [idx (F ++ [c]) c], F ++ [c]) by simp only [numsC]; rw [← HF.out, ← HCX.out, if_pos hneg, ← HO.out])
            have hw1 : wr.heap.size + 1 ≤ wr.heap.size + 1 := Nat.le_refl _
            go_wp2_with (at_builtin; refine wpList_append_own_at _ rfl _ _ 26 rfl B 3 i0 (.int .i64 0) 1 8 Tryz.underlying26 HI.out.1 HI.out.2.1 HI.out.2.2.1 HI.out.2.2.2 rfl (by decide) _ _ _ rfl (HH1.out.alloc _) ⟨wr.heap.size, 0, none⟩ 1 1 [.int .i64 c] rfl rfl (cell_one_new _ _ _) (by intro u hu; simp at hu; subst hu; rfl) (by unfold maxLen; omega) (by omega) (by simp; omega) ?_; intro v1 y1 hown1 hgrow1 _ hat1; obtain ⟨g1, cap1, rfl⟩ := ownsRow_succ hown1)
            have hL1 : y1.ownsRow B 3 1 (.slice (some ⟨g1, 0, none⟩) (F.length + 1) cap1) (F.length + 1) ((F ++ [c]).map (Value.int .i64)) := by simpa using hown1
            have hne2 : some ((wr.alloc (Obj.cells #[Value.int .i64 c] 3)).heap.size) ≠ none := by simp
            have hO1 : y1.ownsRow B 3 1 (.slice ah O.length ch) O.length (O.map (Value.int .i64)) := (HH2.out.alloc _).kept hgrow1 HH3.out.symm
            have hs1 : Sep (.slice (some ⟨g1, 0, none⟩) (F.length + 1) cap1) (.slice ah O.length ch) := HH3.out.append (HH2.out.alloc (Obj.cells #[Value.int .i64 c] 3)) (Nat.le_refl _) hat1
            have hb1 : Below wo.heap.size wo y1 := (HB5.out.alloc HB5.out.size _).grown hgrow1 (by have := HB5.out.size; simp; omega) (fun j hj => by have := (HH1.out.lt j hj).1; have := HBB.out; omega)
            have hys : B ≤ y1.heap.size := by have := HBB.out; have := hb1.size; omega
            have HL1 := Lib.hid hL1
            have HO1 := Lib.hid hO1
            have HS1 := Lib.hid hs1
            have HBY := Lib.hid hb1
            have HIX1 := Lib.hid (show Calls Tryz.prog 72 #[.slice (some ⟨g1, 0, none⟩) (F.length + 1) cap1, .int .i64 c] y1 _ from by
              have h := index_any (fun b => B ≤ b) (some ⟨g1, 0, none⟩) cap1 (F ++ [c]) c y1 (own_ints hL1 (by omega))
              rw [show (F ++ [c]).length = F.length + 1 by simp] at h
              exact h)
            obtain ⟨iv, hiv⟩ : ∃ iv, iv = idx (F ++ [c]) c := ⟨_, rfl⟩
            rw [← hiv] at HIX1 HNS
            clear hown1 hgrow1 hat1 hL1 hO1 hs1 hb1 hne2 hiv hneg
            go_wp2_with fail
            refine HIX1.out.mono ?_
            rintro e w' ⟨rfl, hw'⟩
            have hw2 := hw'.symm
            subst hw2
            go_wp2_with (at_builtin; refine wpList_append_own_at _ rfl _ _ 26 rfl B 3 i0 (.int .i64 0) 1 8 Tryz.underlying26 HI.out.1 HI.out.2.1 HI.out.2.2.1 HI.out.2.2.2 rfl (by decide) _ _ _ rfl (HO1.out.alloc _) ⟨y1.heap.size, 0, none⟩ 1 1 [.int .i64 iv] rfl rfl (cell_one_new _ _ _) (by intro u hu; simp at hu; subst hu; rfl) (by unfold maxLen; omega) (by omega) (by simp; omega) ?_; intro v2 y2 hown2 hgrow2 _ hat2; obtain ⟨g2, cap2, rfl⟩ := ownsRow_succ hown2)
            have HFIN := Lib.hid (show _ ∧ _ ∧ _ ∧ _ from ⟨hown2, (HL1.out.alloc (Obj.cells #[Value.int .i64 iv] 3)).kept hgrow2 HS1.out, (HS1.out.symm.append (HL1.out.alloc (Obj.cells #[Value.int .i64 iv] 3)) (Nat.le_refl _) hat2).symm, (HBY.out.alloc HBY.out.size _).grown hgrow2 (by have := HBY.out.size; simp; omega) (fun j hj => by have := (HO1.out.lt j hj).1; have := HBB.out; omega)⟩)
            clear hown2 hgrow2 hat2
            go_wp2_with fail
            go_roundw
            case rel =>
              refine ⟨x + 1, some ⟨g1, 0, none⟩, some ⟨g2, 0, none⟩, cap1, cap2, by omega, by go_num, by rw [HNS.out]; simp, by rw [HNS.out]; simp, ?_, ?_, ?_, by rw [HNS.out]; simp; omega, by rw [HNS.out]; simp [H5.out], HFIN.out.2.2.2⟩
              · rw [HNS.out]; simpa using HFIN.out.2.1
              · rw [HNS.out]; simpa using HFIN.out.1
              · rw [HNS.out]; simpa using HFIN.out.2.2.1
            case measure => simp [intOf]; omega
          · have HNS := Lib.hid (show numsC C (x + 1) = (O ++ [idx F c], F) by simp only [numsC]; rw [← HF.out, ← HCX.out, if_neg hneg, ← HO.out])
            obtain ⟨iv, hiv⟩ : ∃ iv, iv = idx F c := ⟨_, rfl⟩
            rw [← hiv] at HIX HNS hneg ⊢
            clear hiv
            go_wp2_with fail
            refine HIX.out.mono ?_
            rintro e w' ⟨rfl, hw'⟩
            have hw2 := hw'.symm
            subst hw2
            go_wp2_with (at_builtin; refine wpList_append_own_at _ rfl _ _ 26 rfl B 3 i0 (.int .i64 0) 1 8 Tryz.underlying26 HI.out.1 HI.out.2.1 HI.out.2.2.1 HI.out.2.2.2 rfl (by decide) _ _ _ rfl (HH2.out.alloc _) ⟨wr.heap.size, 0, none⟩ 1 1 [.int .i64 iv] rfl rfl (cell_one_new _ _ _) (by intro u hu; simp at hu; subst hu; rfl) (by unfold maxLen; omega) (by omega) (by simp; omega) ?_; intro v2 y2 hown2 hgrow2 _ hat2; obtain ⟨g2, cap2, rfl⟩ := ownsRow_succ hown2)
            have HFIN := Lib.hid (show _ ∧ _ ∧ _ ∧ _ from ⟨hown2, (HH1.out.alloc (Obj.cells #[Value.int .i64 iv] 3)).kept hgrow2 HH3.out, (HH3.out.symm.append (HH1.out.alloc (Obj.cells #[Value.int .i64 iv] 3)) (Nat.le_refl _) hat2).symm, (HB5.out.alloc HB5.out.size _).grown hgrow2 (by have := HB5.out.size; simp; omega) (fun j hj => by have := (HH2.out.lt j hj).1; have := HBB.out; omega)⟩)
            clear hown2 hgrow2 hat2
            go_wp2_with fail
            go_roundw
            case rel =>
              refine ⟨x + 1, ag, some ⟨g2, 0, none⟩, cg, cap2, by omega, by go_num, by rw [HNS.out], by rw [HNS.out]; simp, ?_, ?_, ?_, by rw [HNS.out]; exact Nat.le_succ_of_le h4, by rw [HNS.out]; simp [H5.out], HFIN.out.2.2.2⟩
              · rw [HNS.out]; exact HFIN.out.2.1
              · rw [HNS.out]; simpa using HFIN.out.1
              · rw [HNS.out]; simpa using HFIN.out.2.2.1
            case measure => simp [intOf]; omega
        · obtain rfl : x = n := by omega
          clear hb
          go_wp2_with fail
          go_ret
          have hl : O = (numsC (repAll (fun z => z) r) x).1 := by rw [HO.out, HC.out]
          rw [← hl]
          exact ⟨ah, ch, rfl, ⟨(own_ints HH2.out (by omega)).1, by
            rcases (own_ints HH2.out (by omega)).2 with h | ⟨b, o, h1, h2, h3⟩
            · exact Or.inl h
            · exact Or.inr ⟨b, o, h1, by have := HBB.out; have := HB.out.size; omega, h3⟩⟩, HB.out.trans (HB5.out.mono HB.out.size)⟩
end Go.Proofs.YtfgpjfgejhahfaaGreatDoor
