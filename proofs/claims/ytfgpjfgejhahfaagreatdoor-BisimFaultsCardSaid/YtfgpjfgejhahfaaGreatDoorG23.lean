/- Proved here: contracts of the walk to BisimFaults: bisim.Closure; each under the conditions that its own statement names. -/
import Derived.Test.YtfgpjfgejhahfaaGreatDoorG09
import Derived.Test.YtfgpjfgejhahfaaGreatDoorG20
import Derived.StillTailTactics
namespace Go.Proofs.YtfgpjfgejhahfaaGreatDoor
open Go Go.RowKit




def RowP (w : World) (b m : Nat) (f : Nat → Int) : Prop := ∃ cur, w.heap[b]? = some (.cells cur 3 (0, 0)) ∧ m ≤ cur.size ∧ ∀ i, i < m → cur[i]? = some (.int .i64 (f i))
theorem RowP.cell {w : World} {b m : Nat} {f : Nat → Int} (h : RowP w b m f) {i : Nat} (hi : i < m) : w.cell? ⟨b, i, none⟩ = some (.int .i64 (f i)) := by
 obtain ⟨cur, hb, _, hc⟩ := h
 simp only [World.cell?, hb, Option.isSome_none, Bool.false_eq_true, if_false]
 exact hc i hi
theorem RowP.frozen {w : World} {b m : Nat} {f : Nat → Int} (h : RowP w b m f) (i : Nat) : w.frozen? ⟨b, i, none⟩ = false := by
 obtain ⟨cur, hb, _⟩ := h
 exact frozen_of hb
theorem RowP.lt {w : World} {b m : Nat} {f : Nat → Int} (h : RowP w b m f) : b < w.heap.size := by
 obtain ⟨cur, hb, _⟩ := h
 exact heap_lt hb
theorem RowP.same {w w' : World} {b m : Nat} {f : Nat → Int} (h : RowP w b m f) (e : w'.heap[b]? = w.heap[b]?) : RowP w' b m f := by
 obtain ⟨cur, hb, hr⟩ := h
 exact ⟨cur, e.trans hb, hr⟩
theorem RowP.congr {w : World} {b m : Nat} {f g : Nat → Int} (h : RowP w b m f) (e : ∀ i, i < m → f i = g i) : RowP w b m g := by
 obtain ⟨cur, hb, hs, hr⟩ := h
 exact ⟨cur, hb, hs, fun i hi => by rw [← e i hi]; exact hr i hi⟩
theorem RowP.set {w : World} {b m : Nat} {f : Nat → Int} (h : RowP w b m f) (i : Nat) (x : Int) : RowP (w.setCell ⟨b, i, none⟩ (.int .i64 x)) b m (fun j => if j = i then x else f j) := by
 obtain ⟨cur, hb, hs, hr⟩ := h
 refine ⟨cur.setIfInBounds i (.int .i64 x), heap_setCell_same w b i cur _ _ hb, by simpa using hs, fun j hj => ?_⟩
 by_cases e : j = i
 ·subst e
  simp [show j < cur.size by omega]
 ·rw [Array.getElem?_setIfInBounds_ne (Ne.symm e)]
  simp only [if_neg e]
  exact hr j hj
theorem rowP_of_own {w : World} {base g m cap : Nat} {l : List Int} (h : w.ownsRow base 3 1 (.slice (some ⟨g, 0, none⟩) m cap) m (l.map (Value.int .i64))) : RowP w g m (fun i => l.getD i 0) := by
 have hl := h.1
 rcases h.2 with ⟨h2, _⟩ | ⟨g', cap', cur, h2, _, hb, h4, _, h6, h7⟩
 ·cases h2
 ·simp only [Value.slice.injEq, Option.some.injEq, Addr.mk.injEq, and_true, true_and] at h2
  obtain ⟨rfl, rfl⟩ := h2
  refine ⟨cur, hb, by omega, fun i hi => ?_⟩
  have h8 : (cur.toList.take (m * 1))[i]? = (l.map (Value.int .i64))[i]? := by rw [h7]
  have hil : i < l.length := by simp at hl; omega
  rw [List.getElem?_take_of_lt (by omega), Array.getElem?_toList, List.getElem?_map, List.getElem?_eq_getElem hil] at h8
  rw [h8]
  simp [List.getD_eq_getElem?_getD, hil]
def upI (k : Nat) : List Int := (List.range k).map (fun (i : Nat) => (i : Int))
theorem upI_succ (k : Nat) : upI (k + 1) = upI k ++ [(k : Int)] := by simp [upI, List.range_succ]
end Go.Proofs.YtfgpjfgejhahfaaGreatDoor
