/-
  Proved here: a step towards the statements of chapter 1 (functors): what one of its functions does at each input.
-/
import Derived.Test.YtioimhnebjiicaaDoorStrC
namespace Go.Proofs.YtioimhnebjiicaaDoor
open Go.RowKit

theorem outer_any : ∀ t : T, OutOk t := by
  refine T.ind ?_
  intro t ih S k n a cap w hs hk hf ha hn
  rcases fields_cases hf with ⟨rfl, rfl, hl⟩ | ⟨rfl, h1, h2, hl⟩ | ⟨hk23, rfl, hl⟩ | ⟨rfl, h1, h2, hl⟩ | ⟨hk567, rfl, hl⟩
  · exact outer_0 a _ cap w hk
  · exact outer_1 n (by omega) h2 a _ cap w hk
  · obtain ⟨k1, n1, t1, k2, n2, t2, rfl⟩ := T.len2 hl
    simp only [T.allOk, Bool.and_eq_true, Bool.and_true] at ha
    simp only [T.nodes] at hn
    have H1 := ih 0 k1 n1 t1 _ rfl
    have H2 := ih 1 k2 n2 t2 .nil rfl
    rcases hk23 with rfl | rfl
    · exact outer_2 S k1 n1 t1 k2 n2 t2 H1 H2 a cap w hs hk ha.1.1 ha.1.2 (by omega) ha.2.1 ha.2.2 (by omega)
    · exact outer_3 S k1 n1 t1 k2 n2 t2 H1 H2 a cap w hs hk ha.1.1 ha.1.2 (by omega) ha.2.1 ha.2.2 (by omega)
  · obtain ⟨k1, n1, t1, rfl⟩ := T.len1 hl
    simp only [T.allOk, Bool.and_eq_true, Bool.and_true] at ha
    simp only [T.nodes] at hn
    exact outer_4 n (by omega) (by omega) S k1 n1 t1 (ih 0 k1 n1 t1 _ rfl) a cap w hs hk ha.1 ha.2 (by omega)
  · obtain ⟨k1, n1, t1, rfl⟩ := T.len1 hl
    simp only [T.allOk, Bool.and_eq_true, Bool.and_true] at ha
    simp only [T.nodes] at hn
    have H1 := ih 0 k1 n1 t1 _ rfl
    rcases hk567 with rfl | rfl | rfl
    · exact outer_5 S k1 n1 t1 H1 a cap w hs hk ha.1 ha.2 (by omega)
    · exact outer_6 S k1 n1 t1 H1 a cap w hs hk ha.1 ha.2 (by omega)
    · exact outer_7 S k1 n1 t1 H1 a cap w hs hk ha.1 ha.2 (by omega)

theorem valid_parts {k n : Int} {t : T} (h : valid k n t = true) : 1 + (t.nodes : Int) ≤ 20 ∧ (t.depth : Int) + 1 ≤ 8 ∧ fieldsOk k n t.len = true ∧ t.allOk = true := by
  unfold valid at h
  simp only [Bool.and_eq_true, decide_eq_true_eq] at h
  exact ⟨h.1, h.2.1, h.2.2.1, h.2.2.2⟩

/-- What String makes of a functor: the string and the error. -/
def stringOf (k n : Int) (t : T) : List UInt8 × Int := if valid k n t = true then (outF k n t, 0) else ([], 10)

set_option maxHeartbeats 400000 in
theorem string_any (S : Nat → Nat → Prop) (t : T) (k n : Int) (a : Option Addr) (cap : Nat) (w : World) (hs : Sl S w a t) (hk : Kinds w) :
    Calls Tryd.prog 20 #[.agg #[.int .i64 k, .int .i64 n, .slice a t.len cap]] w fun e w' => e = .returned (.tuple #[.string (bs (stringOf k n t).1), .int .i64 (stringOf k n t).2]) ∧ Below w.heap.size w w' := by
  obtain ⟨W, hW⟩ : ∃ W, W = w.alloc (.cells #[.int .i64 k, .int .i64 n, .slice a t.len cap] 24) := ⟨_, rfl⟩
  have hb0 : Below w.heap.size w W := by rw [hW]; exact (Below.refl _ _).alloc (Nat.le_refl _) _
  have hbx : W.heap[w.heap.size]? = some (Obj.cells #[.int .i64 k, .int .i64 n, .slice a t.len cap] 24 (0, 0)) := by rw [hW]; exact heap_new _ _
  obtain ⟨c0, c1, c2⟩ := cells_of hbx
  cases hv : valid k n t
  · have hst : stringOf k n t = ([], 10) := by unfold stringOf; rw [hv]; rfl
    have hfa : faultOf k n t = 10 := by unfold faultOf; rw [hv]; rfl
    have HC := Lib.hid (check_any S t k n a cap W (hs.below hb0) (hk.below hb0))
    rw [hfa] at HC
    rw [hst]
    clear hst hfa hv hk
    go_enter Tryd.func20, Tryd.ntmps20
    go_wp2_with fail
    rw [← hW]
    clear hW
    refine HC.out.mono ?_
    rintro e w1 ⟨rfl, hb1⟩
    go_wp2_with fail
    go_ret2
    exact ⟨rfl, hb0.trans (hb1.mono hb0.size)⟩
  · have hst : stringOf k n t = (outF k n t, 0) := by unfold stringOf; rw [hv]; rfl
    have hfa : faultOf k n t = 0 := by unfold faultOf; rw [hv]; rfl
    obtain ⟨v1, _, v3, v4⟩ := valid_parts hv
    have HC := Lib.hid (check_any S t k n a cap W (hs.below hb0) (hk.below hb0))
    rw [hfa] at HC
    have HO := Lib.hid (fun w1 (hb1 : Below W.heap.size W w1) => outer_any t S k n a cap w1 ((hs.below hb0).below hb1) ((hk.below hb0).below hb1) v3 v4 (by omega))
    rw [hst]
    obtain ⟨o, ho⟩ : ∃ o, o = outF k n t := ⟨_, rfl⟩
    rw [← ho] at HO ⊢
    clear hst hfa hv hk v1 v3 v4 ho
    go_enter Tryd.func20, Tryd.ntmps20
    go_wp2_with fail
    rw [← hW]
    clear hW
    refine HC.out.mono ?_
    rintro e w1 ⟨rfl, hb1⟩
    have d0 := cell_below hb1 c0
    have d1 := cell_below hb1 c1
    have d2 := cell_below hb1 c2
    go_wp2_with fail
    refine (HO.out w1 hb1).mono ?_
    rintro e w2 ⟨rfl, hb2⟩
    go_wp2_with fail
    go_ret2
    exact ⟨rfl, hb0.trans ((hb1.trans (hb2.mono hb1.size)).mono hb0.size)⟩
end Go.Proofs.YtioimhnebjiicaaDoor
