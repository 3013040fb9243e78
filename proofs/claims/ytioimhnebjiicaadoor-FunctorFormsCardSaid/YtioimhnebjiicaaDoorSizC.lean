/-
  Proved here: the reference's Polynomial and Plain at each functor, and the code's Same at each two functors.
-/
import Derived.Test.YtioimhnebjiicaaDoorSizB
namespace Go.Proofs.YtioimhnebjiicaaDoor
open Go.RowKit

set_option maxHeartbeats 400000 in
theorem polyRef_any (S : Nat → Nat → Prop) (t : T) (k n : Int) (a : Option Addr) (cap : Nat) (w : World) (hs : Sl S w a t) :
    Calls Tryd.prog 18 #[.agg #[.int .i64 k, .int .i64 n, .slice a t.len cap]] w fun e w' => e = .returned (.bool (!(decide (k ∈ [5, 6, 7]) || t.hasAny [5, 6, 7]))) ∧ Below w.heap.size w w' := by
  obtain ⟨W, hW⟩ : ∃ W, W = (w.alloc (.cells #[.int .i64 k, .int .i64 n, .slice a t.len cap] 24)).alloc (.cells #[.int .i64 5, .int .i64 6, .int .i64 7] 3) := ⟨_, rfl⟩
  have hb0 : Below w.heap.size w W := by rw [hW]; exact ((Below.refl _ _).alloc (Nat.le_refl _) _).alloc (by simp) _
  have hbx : W.heap[w.heap.size + 1]? = some (Obj.cells #[.int .i64 5, .int .i64 6, .int .i64 7] 3 (0, 0)) := by rw [hW]; exact heap_new2 _ _ _
  have hz : IntsAt W (w.heap.size + 1) [5, 6, 7] := by
    refine ⟨by simp, heap_lt hbx, fun i v hi => ?_⟩
    obtain ⟨c0, c1, c2⟩ := cells_of hbx
    match i, hi with
    | 0, hi => simp at hi; subst hi; exact c0
    | 1, hi => simp at hi; subst hi; exact c1
    | 2, hi => simp at hi; subst hi; exact c2
    | i + 3, hi => simp at hi
  have HL := Lib.hid (hasRef_any [5, 6, 7] t S k n a cap (w.heap.size + 1) 3 W (hs.below hb0) hz)
  obtain ⟨r, hr⟩ : ∃ r, r = (decide (k ∈ [5, 6, 7]) || t.hasAny [5, 6, 7]) := ⟨_, rfl⟩
  rw [← hr] at HL ⊢
  clear hs hz hr
  go_enter Tryd.func18, Tryd.ntmps18
  go_wp2_with fail
  rw [← hW]
  clear hW
  refine HL.out.mono ?_
  rintro e w1 ⟨rfl, hb1⟩
  go_wp2_with fail
  go_ret
  exact ⟨rfl, hb0.trans (hb1.mono hb0.size)⟩

set_option maxHeartbeats 400000 in
theorem plainRef_any (S : Nat → Nat → Prop) (t : T) (k n : Int) (a : Option Addr) (cap : Nat) (w : World) (hs : Sl S w a t) :
    Calls Tryd.prog 19 #[.agg #[.int .i64 k, .int .i64 n, .slice a t.len cap]] w fun e w' => e = .returned (.bool (!(decide (k ∈ [6, 7]) || t.hasAny [6, 7]))) ∧ Below w.heap.size w w' := by
  obtain ⟨W, hW⟩ : ∃ W, W = (w.alloc (.cells #[.int .i64 k, .int .i64 n, .slice a t.len cap] 24)).alloc (.cells #[.int .i64 6, .int .i64 7] 3) := ⟨_, rfl⟩
  have hb0 : Below w.heap.size w W := by rw [hW]; exact ((Below.refl _ _).alloc (Nat.le_refl _) _).alloc (by simp) _
  have hbx : W.heap[w.heap.size + 1]? = some (Obj.cells #[.int .i64 6, .int .i64 7] 3 (0, 0)) := by rw [hW]; exact heap_new2 _ _ _
  have hz : IntsAt W (w.heap.size + 1) [6, 7] := by
    refine ⟨by simp, heap_lt hbx, fun i v hi => ?_⟩
    match i, hi with
    | 0, hi => simp at hi; subst hi; simp [World.cell?, hbx]
    | 1, hi => simp at hi; subst hi; simp [World.cell?, hbx]
    | i + 2, hi => simp at hi
  have HL := Lib.hid (hasRef_any [6, 7] t S k n a cap (w.heap.size + 1) 2 W (hs.below hb0) hz)
  obtain ⟨r, hr⟩ : ∃ r, r = (decide (k ∈ [6, 7]) || t.hasAny [6, 7]) := ⟨_, rfl⟩
  rw [← hr] at HL ⊢
  clear hs hz hr
  go_enter Tryd.func19, Tryd.ntmps19
  go_wp2_with fail
  rw [← hW]
  clear hW
  refine HL.out.mono ?_
  rintro e w1 ⟨rfl, hb1⟩
  go_wp2_with fail
  go_ret
  exact ⟨rfl, hb0.trans (hb1.mono hb0.size)⟩

def SameOk (t : T) : Prop := ∀ (u : T) (S S' : Nat → Nat → Prop) (k n k' n' : Int) (a a' : Option Addr) (cap cap' : Nat) (w : World), Sl S w a t → Sl S' w a' u →
  Calls Tryd.prog 15 #[.agg #[.int .i64 k, .int .i64 n, .slice a t.len cap], .agg #[.int .i64 k', .int .i64 n', .slice a' u.len cap']] w fun e w' =>
    e = .returned (.bool (decide (k = k' ∧ n = n' ∧ t = u))) ∧ Below w.heap.size w w'

set_option maxRecDepth 100000 in
set_option maxHeartbeats 800000 in
theorem eqf_any (t : T) (ih : t.Elems SameOk) (u : T) (S S' : Nat → Nat → Prop) (a a' : Option Addr) (cap cap' : Nat) (w : World) (hs : Sl S w a t) (hu : Sl S' w a' u) :
    Calls Tryd.prog 29 #[.slice a t.len cap, .slice a' u.len cap', .func (.func 15) #[] #[]] w fun e w' => e = .returned (.bool (decide (t = u))) ∧ Below w.heap.size w w' := by
  have IH := Lib.hid ih
  have hlen := hs.1
  have hlenu := hu.1
  clear ih
  by_cases hl : t.len = u.len
  · have hl' : ((t.len : Int) != (u.len : Int)) = false := by simp [hl]
    have HL := Lib.hid hl
    have hle : t.len ≤ u.len := by omega
    clear hl
    go_enter Tryd.func29, Tryd.ntmps29
    go_wp2_with fail
    go_loopw [7, 8, 9, 17] (fun _ _ _ i wr => ∃ j : Nat, j ≤ t.len ∧ i = .int .i64 j ∧ (t.drop j = u.drop j ↔ t = u) ∧ Below w.heap.size w wr) (fun _ _ _ i _ => t.len - (intOf i).toNat)
    case atStart => exact ⟨0, Nat.zero_le _, rfl, by simp, Below.refl _ _⟩
    case round =>
      obtain ⟨j, hj, rfl, hq, hb⟩ := hrel
      have HQ := Lib.hid hq
      clear hq
      have hbs := hb.size
      by_cases hlt : j < t.len
      · obtain ⟨b, o, rfl, hat⟩ := hs.addr hlt
        obtain ⟨k1, n1, kids, rest, hd, hd1⟩ := T.drop_lt hlt
        obtain ⟨_, d0, d1, a1, cap1, d2, hs1⟩ := hat.get hd
        obtain ⟨b', o', rfl, hat'⟩ := hu.addr (show j < u.len by omega)
        obtain ⟨k2, n2, kids', rest', hd', hd1'⟩ := T.drop_lt (show j < u.len by omega)
        obtain ⟨_, f0, f1, a2, cap2, f2, hu1⟩ := hat'.get hd'
        have hb3 := Nat.mul_comm 3 j
        rw [hb3] at d0 d1 d2 f0 f1 f2
        clear hb3
        have hlu : j < u.len := by omega
        obtain ⟨W2, hW2⟩ : ∃ W2, W2 = wr.alloc (.cells #[.int .i64 k1, .int .i64 n1, .slice a1 kids.len cap1] 24) := ⟨_, rfl⟩
        obtain ⟨W3, hW3⟩ : ∃ W3, W3 = W2.alloc (.cells #[.int .i64 k2, .int .i64 n2, .slice a2 kids'.len cap2] 24) := ⟨_, rfl⟩
        have hb2 : Below wr.heap.size wr W2 := by rw [hW2]; exact (Below.refl _ _).alloc (Nat.le_refl _) _
        have hb3 : Below W2.heap.size W2 W3 := by rw [hW3]; exact (Below.refl _ _).alloc (Nat.le_refl _) _
        have hbq : Below w.heap.size w W3 := hb.trans ((hb2.trans (hb3.mono hb2.size)).mono hbs)
        replace d0 := cell_below hb d0
        replace d1 := cell_below hb d1
        replace d2 := cell_below hb d2
        replace f0 := cell_below hb f0
        replace f1 := cell_below hb f1
        replace f2 := cell_below hb f2
        have f0' := cell_below hb2 f0
        have f1' := cell_below hb2 f1
        have f2' := cell_below hb2 f2
        rw [hW2] at f0' f1' f2'
        obtain ⟨r, hr⟩ : ∃ r, r = decide (k1 = k2 ∧ n1 = n2 ∧ kids = kids') := ⟨_, rfl⟩
        have HC := Lib.hid (IH.out _ _ _ _ _ hd kids' S S' k1 n1 k2 n2 a1 a2 cap1 cap2 W3 (hs1.below hbq) (hu1.below hbq))
        rw [← hr] at HC
        have HR := Lib.hid hr
        have HD := Lib.hid hd
        have HD1 := Lib.hid hd1
        have HD' := Lib.hid hd'
        have HD1' := Lib.hid hd1'
        clear hd hd1 hd' hd1' hr
        go_wp2_with fail
        rw [← hW2, ← hW3]
        clear hW2 hW3
        refine HC.out.mono ?_
        rintro e w' ⟨rfl, hb5⟩
        have hb6 : Below w.heap.size w w' := hbq.trans (hb5.mono hbq.size)
        cases r
        · go_wp2_with fail
          go_ret
          have hne : ¬ t = u := by
            intro e
            have := HQ.out.2 e
            rw [HD.out, HD'.out] at this
            have h3 := HR.out.symm
            simp only [T.cons.injEq] at this
            simp [this] at h3
          exact ⟨by simp [hne], hb6⟩
        · go_wp2_with fail
          go_roundw
          case rel =>
            refine ⟨j + 1, by omega, by go_num, ?_, hb6⟩
            rw [← HQ.out, HD.out, HD'.out, HD1.out, HD1'.out]
            have h3 := of_decide_eq_true HR.out.symm
            simp [h3.1, h3.2.1, h3.2.2]
          case measure => simp [intOf]; omega
      · go_wp2_with fail
        go_ret
        have hj' : j = t.len := by omega
        have := HQ.out
        rw [hj', T.drop_all, HL.out, T.drop_all] at this
        exact ⟨by simp [this.1 rfl], hb⟩
  · have hl' : ((t.len : Int) != (u.len : Int)) = true := by simp; omega
    have hne : ¬ t = u := fun e => hl (by rw [e])
    have HN := Lib.hid hne
    clear hl hne
    go_enter Tryd.func29, Tryd.ntmps29
    go_wp2_with fail
    go_ret
    exact ⟨by simp [HN.out], Below.refl _ _⟩

set_option maxRecDepth 100000 in
set_option maxHeartbeats 800000 in
theorem same_any : ∀ t : T, SameOk t := by
  refine T.ind ?_
  intro t ih u S S' k n k' n' a a' cap cap' w hs hu
  obtain ⟨W, hW⟩ : ∃ W : World, W = (w.alloc (Obj.cells #[Value.int IntKind.i64 k, Value.int IntKind.i64 n, Value.slice a t.len cap] 24)).alloc (Obj.cells #[Value.int IntKind.i64 k', Value.int IntKind.i64 n', Value.slice a' u.len cap'] 24) := ⟨_, rfl⟩
  have hWb : Below w.heap.size w W := by rw [hW]; exact ((Below.refl _ _).alloc (Nat.le_refl _) _).alloc (by simp) _
  have HC := Lib.hid (eqf_any t ih u S S' a a' cap cap' W (hs.below hWb) (hu.below hWb))
  obtain ⟨r, hr⟩ : ∃ r, r = decide (t = u) := ⟨_, rfl⟩
  rw [← hr] at HC
  clear ih hs hu
  have fin : ∀ x : Bool, x = (decide (k = k') && (decide (n = n') && r)) → x = decide (k = k' ∧ n = n' ∧ t = u) := by
    intro x hx
    rw [hx, hr, Bool.decide_and, Bool.decide_and]
  have FIN := Lib.hid fin
  clear fin hr
  cases hk : decide (k = k')
  · have hk' : (k == k') = false := by simpa using hk
    rw [hk] at FIN
    clear hk
    go_enter Tryd.func15, Tryd.ntmps15
    go_wp2_with fail
    go_ret
    exact ⟨congrArg (fun b => Ending.returned (.bool b)) (FIN.out false (by simp)), ((Below.refl _ _).alloc (Nat.le_refl _) _).alloc (by simp) _⟩
  · have hk' : (k == k') = true := by simpa using hk
    rw [hk] at FIN
    clear hk
    cases hn : decide (n = n')
    · have hn' : (n == n') = false := by simpa using hn
      rw [hn] at FIN
      clear hn
      go_enter Tryd.func15, Tryd.ntmps15
      go_wp2_with fail
      go_ret
      exact ⟨congrArg (fun b => Ending.returned (.bool b)) (FIN.out false (by simp)), ((Below.refl _ _).alloc (Nat.le_refl _) _).alloc (by simp) _⟩
    · have hn' : (n == n') = true := by simpa using hn
      rw [hn] at FIN
      clear hn
      go_enter Tryd.func15, Tryd.ntmps15
      go_wp2_with fail
      rw [← hW]
      clear hW
      refine HC.out.mono ?_
      rintro e w1 ⟨rfl, hb1⟩
      go_wp2_with fail
      go_ret
      exact ⟨congrArg (fun b => Ending.returned (.bool b)) (FIN.out r (by simp)), hWb.trans (hb1.mono hWb.size)⟩
end Go.Proofs.YtioimhnebjiicaaDoor
