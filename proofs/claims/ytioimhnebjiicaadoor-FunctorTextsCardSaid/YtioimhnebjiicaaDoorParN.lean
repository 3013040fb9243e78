/-
  Proved here: a step towards the statements of chapter 1 (functors): what one of its functions does at each input.
-/
import Derived.Test.YtioimhnebjiicaaDoorParM
namespace Go.Proofs.YtioimhnebjiicaaDoor
open Go.RowKit

/-- What stays while cells stay. -/
def CellsStay (u u' : World) : Prop := ∀ (k : Nat) (c : Array Value) (t : TypeId) (f : Nat × Nat), u.heap[k]? = some (Obj.cells c t f) → u'.heap[k]? = some (Obj.cells c t f)
def Stc (p : World → Prop) : Prop := ∀ u u', CellsStay u u' → p u → p u'

theorem cellsStay_below {u u' : World} (h : Below u.heap.size u u') : CellsStay u u' := fun k c t f hk => by rw [h.block _ (heap_lt hk)]; exact hk
theorem cellsStay_set {u : World} {m : Nat} {es : Array MapEntry} {clk : Nat} (hm : u.heap[m]? = some (.map es clk)) (o : Obj) : CellsStay u (ChangeMaps.setBlock u m o) := by
  intro k c t f hk
  have hne : m ≠ k := by
    intro e
    rw [e, hk] at hm
    cases hm
  show (u.heap.setIfInBounds m o)[k]? = _
  rw [Array.getElem?_setIfInBounds_ne hne]
  exact hk

structure Mk (w : World) (fx : List (Nat × Value)) (D : List (Nat × Nat × (Value → World → Prop))) (im sm ia sa : Nat) (K : List (Nat × Int × (Value → World → Prop))) (Hd : World → Prop) (L : Nat → Bool) (c : Act) (wr : World) : Prop where
  df : c.defers = []
  size : c.tmps.size = 40
  fx : ∀ x ∈ fx, c.tmps[x.1]? = some x.2
  ds : ∀ x ∈ D, L x.1 = true → ∃ v, c.tmps[x.2.1]? = some v ∧ x.2.2 v wr
  dep : ∀ x ∈ K, L x.1 = true → L im = true
  mp : L im = true → ∃ m es clk, c.tmps[sm]? = some (.map (some m)) ∧ w.heap.size ≤ m ∧ wr.heap[m]? = some (.map es clk) ∧ byteKeys es.toList ∧
    (∀ x ∈ K, if L x.1 = true then ∃ v, look es.toList x.2.1 = some v ∧ x.2.2 v wr else look es.toList x.2.1 = none) ∧ (∀ k, (∀ x ∈ K, k ≠ x.2.1) → look es.toList k = none)
  al : L ia = true → c.tmps[sa]? = c.tmps[sm]? ∧ L im = true
  hd : Hd wr
  bl : Below w.heap.size w wr

section
variable {w : World} {fx : List (Nat × Value)} {D : List (Nat × Nat × (Value → World → Prop))} {im sm ia sa : Nat} {K : List (Nat × Int × (Value → World → Prop))} {Hd : World → Prop} {L : Nat → Bool} {c : Act} {wr : World}

theorem Mk.step (hI : Mk w fx D im sm ia sa K Hd L c wr) (hmD : ∀ x ∈ D, ∀ v, Stc (x.2.2 v)) (hmK : ∀ x ∈ K, ∀ v, Stc (x.2.2 v)) (hh : Stc Hd) (i d : Nat) (v : Value) (wr' : World)
    (hb : Below wr.heap.size wr wr') (hi : im ≠ i) (hia : ia ≠ i) (hiK : ∀ x ∈ K, x.1 ≠ i) (hd : d < 40) (hds : d ≠ sm) (hda : d ≠ sa) (hfx : ∀ x ∈ fx, x.1 ≠ d)
    (hD : ∀ x ∈ D, (x.1 = i ∧ x.2.1 = d ∧ x.2.2 v wr') ∨ (x.1 ≠ i ∧ x.2.1 ≠ d)) : Mk w fx D im sm ia sa K Hd (lset L i) { tmps := c.tmps.setIfInBounds d v, defers := c.defers } wr' := by
  have hst := cellsStay_below hb
  have hz := hI.size
  refine ⟨hI.df, by simpa using hz, fun x hx => ?_, fun x hx hL => ?_, fun x hx hL => ?_, fun hL => ?_, fun hL => ?al, hh _ _ hst hI.hd, hI.bl.trans (hb.mono hI.bl.size)⟩
  case al =>
    rw [ls_ne _ hia] at hL
    obtain ⟨h1, h2⟩ := hI.al hL
    refine ⟨?_, by rw [ls_ne _ hi]; exact h2⟩
    show (c.tmps.setIfInBounds d v)[sa]? = (c.tmps.setIfInBounds d v)[sm]?
    rw [Array.getElem?_setIfInBounds_ne hda, Array.getElem?_setIfInBounds_ne hds]; exact h1
  · show (c.tmps.setIfInBounds d v)[x.1]? = _
    rw [Array.getElem?_setIfInBounds_ne (Ne.symm (hfx x hx))]
    exact hI.fx x hx
  · show ∃ u, (c.tmps.setIfInBounds d v)[x.2.1]? = some u ∧ _
    rcases hD x hx with ⟨h1, h2, h3⟩ | ⟨h1, h2⟩
    · refine ⟨v, ?_, h3⟩
      rw [h2]
      simp [show d < c.tmps.size by omega]
    · rw [Array.getElem?_setIfInBounds_ne (Ne.symm h2)]
      rw [ls_ne _ h1] at hL
      obtain ⟨u, h3, h4⟩ := hI.ds x hx hL
      exact ⟨u, h3, hmD x hx u _ _ hst h4⟩
  · rw [ls_ne _ (hiK x hx)] at hL
    rw [ls_ne _ hi]
    exact hI.dep x hx hL
  · rw [ls_ne _ hi] at hL
    obtain ⟨m, es, clk, h1, h2, h3, h4, h5, h6⟩ := hI.mp hL
    refine ⟨m, es, clk, ?_, h2, by rw [hb.block _ (heap_lt h3)]; exact h3, h4, fun x hx => ?_, h6⟩
    · show (c.tmps.setIfInBounds d v)[sm]? = _
      rw [Array.getElem?_setIfInBounds_ne hds]; exact h1
    · rw [ls_ne _ (hiK x hx)]
      have := h5 x hx
      split at this
      · rw [if_pos (by assumption)]
        obtain ⟨u, h7, h8⟩ := this
        exact ⟨u, h7, hmK x hx u _ _ hst h8⟩
      · rw [if_neg (by assumption)]; exact this

theorem Mk.make (hI : Mk w fx D im sm ia sa K Hd L c wr) (hmD : ∀ x ∈ D, ∀ v, Stc (x.2.2 v)) (hh : Stc Hd) (hL0 : L im = false) (hsm : sm < 40) (hfx : ∀ x ∈ fx, x.1 ≠ sm) (hDs : ∀ x ∈ D, x.1 ≠ im ∧ x.2.1 ≠ sm) (hK : ∀ x ∈ K, x.1 ≠ im) (hia : ia ≠ im) :
    Mk w fx D im sm ia sa K Hd (lset L im) { tmps := c.tmps.setIfInBounds sm (.map (some wr.heap.size)), defers := c.defers } (wr.alloc (.map #[] 0)) := by
  have hb : Below wr.heap.size wr (wr.alloc (.map #[] 0)) := (Below.refl _ _).alloc (Nat.le_refl _) _
  have hst := cellsStay_below hb
  have hz := hI.size
  have hno : ∀ x ∈ K, L x.1 = false := by
    intro x hx
    cases hx1 : L x.1 with
    | false => rfl
    | true => rw [hI.dep x hx hx1] at hL0; cases hL0
  refine ⟨hI.df, by simpa using hz, fun x hx => ?_, fun x hx hL => ?_, fun x hx hL => ?_, fun hL => ?_, fun hL => ?al, hh _ _ hst hI.hd, hI.bl.trans (hb.mono hI.bl.size)⟩
  case al =>
    rw [ls_ne _ hia] at hL
    rw [(hI.al hL).2] at hL0
    cases hL0
  · show (c.tmps.setIfInBounds sm _)[x.1]? = _
    rw [Array.getElem?_setIfInBounds_ne (Ne.symm (hfx x hx))]
    exact hI.fx x hx
  · show ∃ u, (c.tmps.setIfInBounds sm _)[x.2.1]? = some u ∧ _
    obtain ⟨h1, h2⟩ := hDs x hx
    rw [Array.getElem?_setIfInBounds_ne (Ne.symm h2)]
    rw [ls_ne _ h1] at hL
    obtain ⟨u, h3, h4⟩ := hI.ds x hx hL
    exact ⟨u, h3, hmD x hx u _ _ hst h4⟩
  · exact ls_self _ _
  · refine ⟨wr.heap.size, #[], 0, ?_, hI.bl.size, heap_new _ _, fun e he => by simp at he, fun x hx => ?_, fun _ _ => rfl⟩
    · show (c.tmps.setIfInBounds sm _)[sm]? = _
      simp [show sm < c.tmps.size by omega]
    · rw [ls_ne _ (hK x hx), hno x hx]
      rfl

theorem Mk.ins (hI : Mk w fx D im sm ia sa K Hd L c wr) (hmD : ∀ x ∈ D, ∀ v, Stc (x.2.2 v)) (hmK : ∀ x ∈ K, ∀ v, Stc (x.2.2 v)) (hh : Stc Hd) {i : Nat} {k : Int} {p : Value → World → Prop} (hx : (i, k, p) ∈ K) (hi : im ≠ i) (hia : ia ≠ i) (hDi : ∀ x ∈ D, x.1 ≠ i)
    (hKi : ∀ x ∈ K, (x.1 = i ↔ x.2.1 = k)) (hKp : ∀ x ∈ K, x.1 = i → x.2.2 = p) {m : Nat} {es : Array MapEntry} {clk : Nat} (h1 : c.tmps[sm]? = some (.map (some m))) (h2 : w.heap.size ≤ m) (h3 : wr.heap[m]? = some (.map es clk)) (h4 : byteKeys es.toList)
    (h5 : ∀ x ∈ K, if L x.1 = true then ∃ v, look es.toList x.2.1 = some v ∧ x.2.2 v wr else look es.toList x.2.1 = none) (h6 : ∀ k, (∀ x ∈ K, k ≠ x.2.1) → look es.toList k = none)
    (hLm : L im = true) (hn : look es.toList k = none) (v : Value) (hp : p v wr) :
    Mk w fx D im sm ia sa K Hd (lset L i) c (ChangeMaps.setBlock wr m (.map (es.push { key := .int .u8 k, val := v, born := clk }) (clk + 1))) := by
  have hst := cellsStay_set h3 (.map (es.push { key := .int .u8 k, val := v, born := clk }) (clk + 1))
  have hlk := look_push es.toList k v clk
  refine ⟨hI.df, hI.size, hI.fx, fun x hx' hL => ?_, fun x hx' hL => ?_, fun hL => ?_, fun hL => ?al, hh _ _ hst hI.hd, ?_⟩
  case al =>
    rw [ls_ne _ hia] at hL
    rw [ls_ne _ hi]
    exact hI.al hL
  · rw [ls_ne _ (hDi x hx')] at hL
    obtain ⟨u, h7, h8⟩ := hI.ds x hx' hL
    exact ⟨u, h7, hmD x hx' u _ _ hst h8⟩
  · rw [ls_ne _ hi]; exact hLm
  · refine ⟨m, es.push { key := .int .u8 k, val := v, born := clk }, clk + 1, h1, h2, ?_, ?_, fun x hx' => ?_, fun k' hk' => ?_⟩
    · show (wr.heap.setIfInBounds m _)[m]? = _
      simp [heap_lt h3]
    · intro e he
      simp only [Array.toList_push, List.mem_append, List.mem_cons, List.not_mem_nil, or_false] at he
      rcases he with he | rfl
      · exact h4 e he
      · exact ⟨k, rfl⟩
    · simp only [Array.toList_push]
      rw [hlk x.2.1 h4 hn]
      by_cases hxi : x.1 = i
      · rw [if_pos ((hKi x hx').1 hxi), hxi, ls_self, if_pos rfl]
        refine ⟨v, rfl, ?_⟩
        rw [hKp x hx' hxi]
        exact hmK _ hx v _ _ hst hp
      · rw [if_neg (fun e => hxi ((hKi x hx').2 e)), ls_ne _ hxi]
        have := h5 x hx'
        split at this
        · rw [if_pos (by assumption)]
          obtain ⟨u, h7, h8⟩ := this
          exact ⟨u, h7, hmK x hx' u _ _ hst h8⟩
        · rw [if_neg (by assumption)]; exact this
    · simp only [Array.toList_push]
      rw [hlk k' h4 hn, if_neg (hk' _ hx)]
      exact h6 k' hk'
  · have hbl := hI.bl
    refine ⟨hbl.os, hbl.tape, hbl.output, by simpa [ChangeMaps.setBlock] using hbl.size, fun j hj => ?_⟩
    show (wr.heap.setIfInBounds m _)[j]? = _
    rw [Array.getElem?_setIfInBounds_ne (by omega)]
    exact hbl.block j hj

theorem Mk.alias (hI : Mk w fx D im sm ia sa K Hd L c wr) (hLm : L im = true) (hi : im ≠ ia) (hsa : sa < 40) (hss : sa ≠ sm) (hfx : ∀ x ∈ fx, x.1 ≠ sa) (hDs : ∀ x ∈ D, x.1 ≠ ia ∧ x.2.1 ≠ sa) (hK : ∀ x ∈ K, x.1 ≠ ia) {v : Value} (hv : c.tmps[sm]? = some v) :
    Mk w fx D im sm ia sa K Hd (lset L ia) { tmps := c.tmps.setIfInBounds sa v, defers := c.defers } wr := by
  have hz := hI.size
  refine ⟨hI.df, by simpa using hz, fun x hx => ?_, fun x hx hL => ?_, fun x hx hL => ?_, fun hL => ?_, fun hL => ?al, hI.hd, hI.bl⟩
  case al =>
    refine ⟨?_, by rw [ls_ne _ hi]; exact hLm⟩
    show (c.tmps.setIfInBounds sa v)[sa]? = (c.tmps.setIfInBounds sa v)[sm]?
    rw [Array.getElem?_setIfInBounds_ne hss, hv]
    simp [show sa < c.tmps.size by omega]
  · show (c.tmps.setIfInBounds sa v)[x.1]? = _
    rw [Array.getElem?_setIfInBounds_ne (Ne.symm (hfx x hx))]
    exact hI.fx x hx
  · show ∃ u, (c.tmps.setIfInBounds sa v)[x.2.1]? = some u ∧ _
    obtain ⟨h1, h2⟩ := hDs x hx
    rw [Array.getElem?_setIfInBounds_ne (Ne.symm h2)]
    rw [ls_ne _ h1] at hL
    exact hI.ds x hx hL
  · rw [ls_ne _ (hK x hx)] at hL
    rw [ls_ne _ hi]
    exact hLm
  · obtain ⟨m, es, clk, h1, h2, h3, h4, h5, h6⟩ := hI.mp hLm
    refine ⟨m, es, clk, ?_, h2, h3, h4, fun x hx => ?_, h6⟩
    · show (c.tmps.setIfInBounds sa v)[sm]? = _
      rw [Array.getElem?_setIfInBounds_ne hss]; exact h1
    · rw [ls_ne _ (hK x hx)]
      exact h5 x hx
end

theorem arr40 (a : Array Value) (h : a.size = 40) : ∃ x0 x1 x2 x3 x4 x5 x6 x7 x8 x9 x10 x11 x12 x13 x14 x15 x16 x17 x18 x19 x20 x21 x22 x23 x24 x25 x26 x27 x28 x29 x30 x31 x32 x33 x34 x35 x36 x37 x38 x39 : Value, a = #[x0, x1, x2, x3, x4, x5, x6, x7, x8, x9, x10, x11, x12, x13, x14, x15, x16, x17, x18, x19, x20, x21, x22, x23, x24, x25, x26, x27, x28, x29, x30, x31, x32, x33, x34, x35, x36, x37, x38, x39] := by
  obtain ⟨l⟩ := a
  replace h : l.length = 40 := h
  rcases l with _ | ⟨x0, l⟩
  · simp only [List.length_nil] at h; omega
  rcases l with _ | ⟨x1, l⟩
  · simp only [List.length_nil, List.length_cons] at h; omega
  rcases l with _ | ⟨x2, l⟩
  · simp only [List.length_nil, List.length_cons] at h; omega
  rcases l with _ | ⟨x3, l⟩
  · simp only [List.length_nil, List.length_cons] at h; omega
  rcases l with _ | ⟨x4, l⟩
  · simp only [List.length_nil, List.length_cons] at h; omega
  rcases l with _ | ⟨x5, l⟩
  · simp only [List.length_nil, List.length_cons] at h; omega
  rcases l with _ | ⟨x6, l⟩
  · simp only [List.length_nil, List.length_cons] at h; omega
  rcases l with _ | ⟨x7, l⟩
  · simp only [List.length_nil, List.length_cons] at h; omega
  rcases l with _ | ⟨x8, l⟩
  · simp only [List.length_nil, List.length_cons] at h; omega
  rcases l with _ | ⟨x9, l⟩
  · simp only [List.length_nil, List.length_cons] at h; omega
  rcases l with _ | ⟨x10, l⟩
  · simp only [List.length_nil, List.length_cons] at h; omega
  rcases l with _ | ⟨x11, l⟩
  · simp only [List.length_nil, List.length_cons] at h; omega
  rcases l with _ | ⟨x12, l⟩
  · simp only [List.length_nil, List.length_cons] at h; omega
  rcases l with _ | ⟨x13, l⟩
  · simp only [List.length_nil, List.length_cons] at h; omega
  rcases l with _ | ⟨x14, l⟩
  · simp only [List.length_nil, List.length_cons] at h; omega
  rcases l with _ | ⟨x15, l⟩
  · simp only [List.length_nil, List.length_cons] at h; omega
  rcases l with _ | ⟨x16, l⟩
  · simp only [List.length_nil, List.length_cons] at h; omega
  rcases l with _ | ⟨x17, l⟩
  · simp only [List.length_nil, List.length_cons] at h; omega
  rcases l with _ | ⟨x18, l⟩
  · simp only [List.length_nil, List.length_cons] at h; omega
  rcases l with _ | ⟨x19, l⟩
  · simp only [List.length_nil, List.length_cons] at h; omega
  rcases l with _ | ⟨x20, l⟩
  · simp only [List.length_nil, List.length_cons] at h; omega
  rcases l with _ | ⟨x21, l⟩
  · simp only [List.length_nil, List.length_cons] at h; omega
  rcases l with _ | ⟨x22, l⟩
  · simp only [List.length_nil, List.length_cons] at h; omega
  rcases l with _ | ⟨x23, l⟩
  · simp only [List.length_nil, List.length_cons] at h; omega
  rcases l with _ | ⟨x24, l⟩
  · simp only [List.length_nil, List.length_cons] at h; omega
  rcases l with _ | ⟨x25, l⟩
  · simp only [List.length_nil, List.length_cons] at h; omega
  rcases l with _ | ⟨x26, l⟩
  · simp only [List.length_nil, List.length_cons] at h; omega
  rcases l with _ | ⟨x27, l⟩
  · simp only [List.length_nil, List.length_cons] at h; omega
  rcases l with _ | ⟨x28, l⟩
  · simp only [List.length_nil, List.length_cons] at h; omega
  rcases l with _ | ⟨x29, l⟩
  · simp only [List.length_nil, List.length_cons] at h; omega
  rcases l with _ | ⟨x30, l⟩
  · simp only [List.length_nil, List.length_cons] at h; omega
  rcases l with _ | ⟨x31, l⟩
  · simp only [List.length_nil, List.length_cons] at h; omega
  rcases l with _ | ⟨x32, l⟩
  · simp only [List.length_nil, List.length_cons] at h; omega
  rcases l with _ | ⟨x33, l⟩
  · simp only [List.length_nil, List.length_cons] at h; omega
  rcases l with _ | ⟨x34, l⟩
  · simp only [List.length_nil, List.length_cons] at h; omega
  rcases l with _ | ⟨x35, l⟩
  · simp only [List.length_nil, List.length_cons] at h; omega
  rcases l with _ | ⟨x36, l⟩
  · simp only [List.length_nil, List.length_cons] at h; omega
  rcases l with _ | ⟨x37, l⟩
  · simp only [List.length_nil, List.length_cons] at h; omega
  rcases l with _ | ⟨x38, l⟩
  · simp only [List.length_nil, List.length_cons] at h; omega
  rcases l with _ | ⟨x39, l⟩
  · simp only [List.length_nil, List.length_cons] at h; omega
  rcases l with _ | ⟨y, l⟩
  · exact ⟨x0, x1, x2, x3, x4, x5, x6, x7, x8, x9, x10, x11, x12, x13, x14, x15, x16, x17, x18, x19, x20, x21, x22, x23, x24, x25, x26, x27, x28, x29, x30, x31, x32, x33, x34, x35, x36, x37, x38, x39, rfl⟩
  · simp only [List.length_cons] at h; omega
end Go.Proofs.YtioimhnebjiicaaDoor
