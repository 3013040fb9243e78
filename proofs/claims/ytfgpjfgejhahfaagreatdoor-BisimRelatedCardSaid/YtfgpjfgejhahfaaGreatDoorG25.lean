/-
  Proved here: contracts of the walk to BisimRelated: the reference's Shift; each under the conditions that its own statement names.
-/
import Derived.Test.YtfgpjfgejhahfaaGreatDoorG10
import Derived.Test.YtfgpjfgejhahfaaGreatDoorG24
namespace Go.Proofs.YtfgpjfgejhahfaaGreatDoor
open Go Go.RowKit

/-- Block b begins with m numbers. -/
def RowP (w : World) (b m : Nat) (f : Nat → Int) : Prop := ∃ cur, w.heap[b]? = some (.cells cur 3 (0, 0)) ∧ m ≤ cur.size ∧ ∀ i, i < m → cur[i]? = some (.int .i64 (f i))
theorem RowP.cell {w : World} {b m : Nat} {f : Nat → Int} (h : RowP w b m f) {i : Nat} (hi : i < m) : w.cell? ⟨b, i, none⟩ = some (.int .i64 (f i)) := by
  obtain ⟨cur, hb, _, hc⟩ := h
  simp only [World.cell?, hb, Option.isSome_none, Bool.false_eq_true, if_false]
  exact hc i hi
theorem RowP.frozen {w : World} {b m : Nat} {f : Nat → Int} (h : RowP w b m f) (i : Nat) : w.frozen? ⟨b, i, none⟩ = false := by
  obtain ⟨cur, hb, _⟩ := h
  exact frozen_of hb
theorem RowP.lt {w : World} {b m : Nat} {f : Nat → Int} (h : RowP w b m f) : b < w.heap.size := by
  obtain ⟨cur, hb, _⟩ := h
  exact heap_lt hb
theorem RowP.same {w w' : World} {b m : Nat} {f : Nat → Int} (h : RowP w b m f) (e : w'.heap[b]? = w.heap[b]?) : RowP w' b m f := by
  obtain ⟨cur, hb, hr⟩ := h
  exact ⟨cur, e.trans hb, hr⟩
theorem RowP.congr {w : World} {b m : Nat} {f g : Nat → Int} (h : RowP w b m f) (e : ∀ i, i < m → f i = g i) : RowP w b m g := by
  obtain ⟨cur, hb, hs, hr⟩ := h
  exact ⟨cur, hb, hs, fun i hi => by rw [← e i hi]; exact hr i hi⟩
theorem RowP.set {w : World} {b m : Nat} {f : Nat → Int} (h : RowP w b m f) (i : Nat) (x : Int) : RowP (w.setCell ⟨b, i, none⟩ (.int .i64 x)) b m (fun j => if j = i then x else f j) := by
  obtain ⟨cur, hb, hs, hr⟩ := h
  refine ⟨cur.setIfInBounds i (.int .i64 x), heap_setCell_same w b i cur _ _ hb, by simpa using hs, fun j hj => ?_⟩
  by_cases e : j = i
  · subst e
    simp [show j < cur.size by omega]
  · rw [Array.getElem?_setIfInBounds_ne (Ne.symm e)]
    simp only [if_neg e]
    exact hr j hj
theorem rowP_of_own {w : World} {base g m cap : Nat} {l : List Int} (h : w.ownsRow base 3 1 (.slice (some ⟨g, 0, none⟩) m cap) m (l.map (Value.int .i64))) : RowP w g m (fun i => l.getD i 0) := by
  have hl := h.1
  rcases h.2 with ⟨h2, _⟩ | ⟨g', cap', cur, h2, _, hb, h4, _, h6, h7⟩
  · cases h2
  · simp only [Value.slice.injEq, Option.some.injEq, Addr.mk.injEq, and_true, true_and] at h2
    obtain ⟨rfl, rfl⟩ := h2
    refine ⟨cur, hb, by omega, fun i hi => ?_⟩
    have h8 : (cur.toList.take (m * 1))[i]? = (l.map (Value.int .i64))[i]? := by rw [h7]
    have hil : i < l.length := by simp at hl; omega
    rw [List.getElem?_take_of_lt (by omega), Array.getElem?_toList, List.getElem?_map, List.getElem?_eq_getElem hil] at h8
    rw [h8]
    simp [List.getD_eq_getElem?_getD, hil]

/-- What Shift(n, 0) leaves. -/
def ShiftP (n : Nat) (w : World) (e : Ending) (w' : World) : Prop :=
  ∃ al cl, e = .returned (.slice al n cl) ∧ (n = 0 ∨ ∃ g, al = some ⟨g, 0, none⟩ ∧ w.heap.size ≤ g ∧ RowP w' g n (fun i => i)) ∧ Below w.heap.size w w'
def upI (k : Nat) : List Int := (List.range k).map (fun (i : Nat) => (i : Int))
theorem upI_succ (k : Nat) : upI (k + 1) = upI k ++ [(k : Int)] := by simp [upI, List.range_succ]
theorem upI_len (k : Nat) : (upI k).length = k := by simp [upI]
set_option maxRecDepth 100000 in
set_option maxHeartbeats 1600000 in
theorem shift_any (n : Nat) (w : World) (hn : n ≤ 1000000) : Calls Tryz.prog 71 #[.int .i64 (n : Int), .int .i64 0] w (ShiftP n w) := by
  obtain ⟨i0, hi, hz0, hz1, hz2⟩ := info_parts infoInt
  go_enter Tryz.func71, Tryz.ntmps71
  go_wp2_with fail
  go_loopw [5, 8] (fun v i wr => ∃ k : Nat, k ≤ n ∧ i = .int .i64 k ∧ wr.ownsRow w.heap.size 3 1 v k ((upI k).map (Value.int .i64)) ∧ Below w.heap.size w wr) (fun _ i _ => n - (intOf i).toNat)
  case atStart => exact ⟨0, Nat.zero_le _, rfl, World.ownsRow_nil _ _ _ _, Below.refl _ _⟩
  case round =>
    obtain ⟨k, hk, rfl, hown, hb⟩ := hrel
    have HO := Lib.hid hown
    have HB := Lib.hid hb
    have hbs := hb.size
    clear hb
    by_cases hlt : k < n
    · go_wp2_with (at_builtin; refine wpList_append_own _ rfl _ _ 26 rfl w.heap.size 3 i0 (.int .i64 0) 1 8 Tryz.underlying26 hi hz0 hz1 hz2 rfl (by decide) _ _ _ rfl (hown.alloc _) ⟨wr.heap.size, 0, none⟩ 1 1 [.int .i64 (k : Int)] rfl rfl (cell_one_new _ _ _) (by intro u hu; simp at hu; subst hu; rfl) (by unfold maxLen; omega) (by omega) (by simp; omega) ?_; intro v' w1 hown' hgrow _)
      have HO1 := Lib.hid hown'
      have HB1 := Lib.hid (show Below w.heap.size w w1 from (HB.out.alloc HB.out.size _).grown hgrow (by simp; omega) (fun j hj => (hown.lt j hj).1))
      clear hown hown' hgrow
      go_wp2_with fail
      go_roundw
      case rel => exact ⟨k + 1, by omega, by go_num, by rw [upI_succ]; simpa using HO1.out, HB1.out⟩
      case measure => simp [intOf]; omega
    · obtain rfl : k = n := by omega
      clear hown
      go_wp2_with fail
      go_ret
      rcases HO.out.2 with ⟨rfl, h0⟩ | ⟨g, cap, cur, rfl, hg, hgh⟩
      · subst h0
        exact ⟨none, 0, rfl, Or.inl rfl, HB.out⟩
      · exact ⟨_, _, rfl, Or.inr ⟨g, rfl, hg, (rowP_of_own HO.out).congr (fun i hi => by simp [upI, List.getD_eq_getElem?_getD, hi])⟩, HB.out⟩
end Go.Proofs.YtfgpjfgejhahfaaGreatDoor
