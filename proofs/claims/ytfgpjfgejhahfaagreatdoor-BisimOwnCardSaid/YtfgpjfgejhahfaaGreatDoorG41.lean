/-
  Proved here: contracts of the walk to BisimOwn: functor.Same, checkBoth and checkRelation; each under the conditions that its own statement names.
-/
import Derived.Test.YtfgpjfgejhahfaaGreatDoorG01
import Derived.Test.YtfgpjfgejhahfaaGreatDoorG02
import Derived.Test.YtfgpjfgejhahfaaGreatDoorG04
import Derived.Test.YtfgpjfgejhahfaaGreatDoorG21
import Derived.Test.YtfgpjfgejhahfaaGreatDoorG34
namespace Go.Proofs.YtfgpjfgejhahfaaGreatDoor
open Go.RowKit

def FSameOk (t : T) : Prop := ∀ (u : T) (S S' : Nat → Nat → Prop) (k n k' n' : Int) (a a' : Option Addr) (cap cap' : Nat) (w : World), Sl S w a t → Sl S' w a' u →
  Calls Tryz.prog 77 #[.agg #[.int .i64 k, .int .i64 n, .slice a t.len cap], .agg #[.int .i64 k', .int .i64 n', .slice a' u.len cap']] w fun e w' =>
    e = .returned (.bool (decide (k = k' ∧ n = n' ∧ t = u))) ∧ Below w.heap.size w w'

set_option maxRecDepth 100000 in
set_option maxHeartbeats 800000 in
theorem feqf_any (t : T) (ih : t.Elems FSameOk) (u : T) (S S' : Nat → Nat → Prop) (a a' : Option Addr) (cap cap' : Nat) (w : World) (hs : Sl S w a t) (hu : Sl S' w a' u) :
    Calls Tryz.prog 125 #[.slice a t.len cap, .slice a' u.len cap', .func (.func 77) #[] #[]] w fun e w' => e = .returned (.bool (decide (t = u))) ∧ Below w.heap.size w w' := by
  have IH := Lib.hid ih
  have hlen := hs.1
  have hlenu := hu.1
  clear ih
  by_cases hl : t.len = u.len
  · have hl' : ((t.len : Int) != (u.len : Int)) = false := by simp [hl]
    have HL := Lib.hid hl
    have hle : t.len ≤ u.len := by omega
    clear hl
    go_enter Tryz.func125, Tryz.ntmps125
    go_wp2_with fail
    go_loopw [7, 8, 9, 17] (fun _ _ _ i wr => ∃ j : Nat, j ≤ t.len ∧ i = .int .i64 j ∧ (t.drop j = u.drop j ↔ t = u) ∧ Below w.heap.size w wr) (fun _ _ _ i _ => t.len - (intOf i).toNat)
    case atStart => exact ⟨0, Nat.zero_le _, rfl, by simp, Below.refl _ _⟩
    case round =>
      obtain ⟨j, hj, rfl, hq, hb⟩ := hrel
      have HQ := Lib.hid hq
      clear hq
      have hbs := hb.size
      by_cases hlt : j < t.len
      · obtain ⟨b, o, rfl, hat⟩ := hs.addr hlt
        obtain ⟨k1, n1, kids, rest, hd, hd1⟩ := T.drop_lt hlt
        obtain ⟨_, d0, d1, a1, cap1, d2, hs1⟩ := hat.get hd
        obtain ⟨b', o', rfl, hat'⟩ := hu.addr (show j < u.len by omega)
        obtain ⟨k2, n2, kids', rest', hd', hd1'⟩ := T.drop_lt (show j < u.len by omega)
        obtain ⟨_, f0, f1, a2, cap2, f2, hu1⟩ := hat'.get hd'
        have hb3 := Nat.mul_comm 3 j
        rw [hb3] at d0 d1 d2 f0 f1 f2
        clear hb3
        have hlu : j < u.len := by omega
        obtain ⟨W2, hW2⟩ : ∃ W2, W2 = wr.alloc (.cells #[.int .i64 k1, .int .i64 n1, .slice a1 kids.len cap1] 24) := ⟨_, rfl⟩
        obtain ⟨W3, hW3⟩ : ∃ W3, W3 = W2.alloc (.cells #[.int .i64 k2, .int .i64 n2, .slice a2 kids'.len cap2] 24) := ⟨_, rfl⟩
        have hb2 : Below wr.heap.size wr W2 := by rw [hW2]; exact (Below.refl _ _).alloc (Nat.le_refl _) _
        have hb3 : Below W2.heap.size W2 W3 := by rw [hW3]; exact (Below.refl _ _).alloc (Nat.le_refl _) _
        have hbq : Below w.heap.size w W3 := hb.trans ((hb2.trans (hb3.mono hb2.size)).mono hbs)
        replace d0 := cell_below hb d0
        replace d1 := cell_below hb d1
        replace d2 := cell_below hb d2
        replace f0 := cell_below hb f0
        replace f1 := cell_below hb f1
        replace f2 := cell_below hb f2
        have f0' := cell_below hb2 f0
        have f1' := cell_below hb2 f1
        have f2' := cell_below hb2 f2
        rw [hW2] at f0' f1' f2'
        obtain ⟨r, hr⟩ : ∃ r, r = decide (k1 = k2 ∧ n1 = n2 ∧ kids = kids') := ⟨_, rfl⟩
        have HC := Lib.hid (IH.out _ _ _ _ _ hd kids' S S' k1 n1 k2 n2 a1 a2 cap1 cap2 W3 (hs1.below hbq) (hu1.below hbq))
        rw [← hr] at HC
        have HR := Lib.hid hr
        have HD := Lib.hid hd
        have HD1 := Lib.hid hd1
        have HD' := Lib.hid hd'
        have HD1' := Lib.hid hd1'
        clear hd hd1 hd' hd1' hr
        go_wp2_with fail
        rw [← hW2, ← hW3]
        clear hW2 hW3
        refine HC.out.mono ?_
        rintro e w' ⟨rfl, hb5⟩
        have hb6 : Below w.heap.size w w' := hbq.trans (hb5.mono hbq.size)
        cases r
        · go_wp2_with fail
          go_ret
          have hne : ¬ t = u := by
            intro e
            have := HQ.out.2 e
            rw [HD.out, HD'.out] at this
            have h3 := HR.out.symm
            simp only [T.cons.injEq] at this
            simp [this] at h3
          exact ⟨by simp [hne], hb6⟩
        · go_wp2_with fail
          go_roundw
          case rel =>
            refine ⟨j + 1, by omega, by go_num, ?_, hb6⟩
            rw [← HQ.out, HD.out, HD'.out, HD1.out, HD1'.out]
            have h3 := of_decide_eq_true HR.out.symm
            simp [h3.1, h3.2.1, h3.2.2]
          case measure => simp [intOf]; omega
      · go_wp2_with fail
        go_ret
        have hj' : j = t.len := by omega
        have := HQ.out
        rw [hj', T.drop_all, HL.out, T.drop_all] at this
        exact ⟨by simp [this.1 rfl], hb⟩
  · have hl' : ((t.len : Int) != (u.len : Int)) = true := by simp; omega
    have hne : ¬ t = u := fun e => hl (by rw [e])
    have HN := Lib.hid hne
    clear hl hne
    go_enter Tryz.func125, Tryz.ntmps125
    go_wp2_with fail
    go_ret
    exact ⟨by simp [HN.out], Below.refl _ _⟩

set_option maxRecDepth 100000 in
set_option maxHeartbeats 800000 in
theorem fsame_any : ∀ t : T, FSameOk t := by
  refine T.ind ?_
  intro t ih u S S' k n k' n' a a' cap cap' w hs hu
  obtain ⟨W, hW⟩ : ∃ W : World, W = (w.alloc (Obj.cells #[Value.int IntKind.i64 k, Value.int IntKind.i64 n, Value.slice a t.len cap] 24)).alloc (Obj.cells #[Value.int IntKind.i64 k', Value.int IntKind.i64 n', Value.slice a' u.len cap'] 24) := ⟨_, rfl⟩
  have hWb : Below w.heap.size w W := by rw [hW]; exact ((Below.refl _ _).alloc (Nat.le_refl _) _).alloc (by simp) _
  have HC := Lib.hid (feqf_any t ih u S S' a a' cap cap' W (hs.below hWb) (hu.below hWb))
  obtain ⟨r, hr⟩ : ∃ r, r = decide (t = u) := ⟨_, rfl⟩
  rw [← hr] at HC
  clear ih hs hu
  have fin : ∀ x : Bool, x = (decide (k = k') && (decide (n = n') && r)) → x = decide (k = k' ∧ n = n' ∧ t = u) := by
    intro x hx
    rw [hx, hr, Bool.decide_and, Bool.decide_and]
  have FIN := Lib.hid fin
  clear fin hr
  cases hk : decide (k = k')
  · have hk' : (k == k') = false := by simpa using hk
    rw [hk] at FIN
    clear hk
    go_enter Tryz.func77, Tryz.ntmps77
    go_wp2_with fail
    go_ret
    exact ⟨congrArg (fun b => Ending.returned (.bool b)) (FIN.out false (by simp)), ((Below.refl _ _).alloc (Nat.le_refl _) _).alloc (by simp) _⟩
  · have hk' : (k == k') = true := by simpa using hk
    rw [hk] at FIN
    clear hk
    cases hn : decide (n = n')
    · have hn' : (n == n') = false := by simpa using hn
      rw [hn] at FIN
      clear hn
      go_enter Tryz.func77, Tryz.ntmps77
      go_wp2_with fail
      go_ret
      exact ⟨congrArg (fun b => Ending.returned (.bool b)) (FIN.out false (by simp)), ((Below.refl _ _).alloc (Nat.le_refl _) _).alloc (by simp) _⟩
    · have hn' : (n == n') = true := by simpa using hn
      rw [hn] at FIN
      clear hn
      go_enter Tryz.func77, Tryz.ntmps77
      go_wp2_with fail
      rw [← hW]
      clear hW
      refine HC.out.mono ?_
      rintro e w1 ⟨rfl, hb1⟩
      go_wp2_with fail
      go_ret
      exact ⟨congrArg (fun b => Ending.returned (.bool b)) (FIN.out r (by simp)), hWb.trans (hb1.mono hWb.size)⟩
end Go.Proofs.YtfgpjfgejhahfaaGreatDoor

namespace Go.Proofs.YtfgpjfgejhahfaaGreatDoor
open Go Go.RowKit

/-- The error of two systems and of a relation between them. -/
def bothE (f : F) (t : V) (g : F) (u : V) : Int := if sysOk f t = true ∧ sysOk g u = true then (if f.k = g.k ∧ f.n = g.n ∧ f.t = g.t then 0 else 1) else 30
def relE' (f : F) (t : V) (g : F) (u : V) (r : List (Int × Int)) : Int := if bothE f t g u = 0 then (if relFrom t.len u.len none r = true then 0 else 1) else bothE f t g u

theorem sysL_get {f : F} {m : Int} : ∀ {t : V} {i : Nat}, sysL f m t = true → i < t.len → vValid f m (t.el i).1 (t.el i).2.1 (t.el i).2.2 = true
  | .nil, _, _, h => by simp [V.len] at h
  | .cons n k ws r, 0, h, _ => by
    simp only [sysL, Bool.and_eq_true] at h
    exact h.1
  | .cons n k ws r, i + 1, h, hi => by
    simp only [sysL, Bool.and_eq_true] at h
    exact sysL_get (t := r) (i := i) h.2 (by simpa [V.len] using hi)
theorem sys_parts {f : F} {t : V} (h : sysOk f t = true) : f.good = true ∧ t.len ≤ 100 ∧ ∀ i, i < t.len → okV nodeOk t.len f (t.el i).1 (t.el i).2.1 (t.el i).2.2 = true := by
  unfold sysOk at h
  simp only [Bool.and_eq_true, decide_eq_true_eq] at h
  refine ⟨valid_good h.1, h.2.1, fun i hi => ?_⟩
  have := sysL_get h.2.2.1 hi
  unfold vValid at this
  simp only [Bool.and_eq_true] at this
  exact this.1

set_option maxRecDepth 100000 in
set_option maxHeartbeats 3200000 in
theorem both_any (S S2 : Nat → Nat → Prop) (S' S2' : Nat → Prop) (f g : F) (a na a2 na2 : Option Addr) (cap ncap cap2 ncap2 : Nat) (t u : V) (w : World) (hs : Sl S w a f.t) (hv : Vl S' w na t) (hs2 : Sl S2 w a2 g.t) (hv2 : Vl S2' w na2 u) (hk : Kinds w) :
    Calls Tryz.prog 65 #[Sv f a cap na t.len ncap, Sv g a2 cap2 na2 u.len ncap2] w fun e w' => e = .returned (.int .i64 (bothE f t g u)) ∧ Below w.heap.size w w' := by
  obtain ⟨W, hW⟩ : ∃ W : World, W = (w.alloc (Obj.cells #[.int .i64 f.k, .int .i64 f.n, .slice a f.t.len cap, .slice na t.len ncap] 42)).alloc (Obj.cells #[.int .i64 g.k, .int .i64 g.n, .slice a2 g.t.len cap2, .slice na2 u.len ncap2] 42) := ⟨_, rfl⟩
  have hWb : Below w.heap.size w W := by rw [hW]; exact ((Below.refl _ _).alloc (Nat.le_refl _) _).alloc (by simp) _
  have k0 : W.heap[w.heap.size]? = some (Obj.cells #[.int .i64 f.k, .int .i64 f.n, .slice a f.t.len cap, .slice na t.len ncap] 42 (0, 0)) := by rw [hW]; exact heap_old2 _ _ _
  have k1 : W.heap[w.heap.size + 1]? = some (Obj.cells #[.int .i64 g.k, .int .i64 g.n, .slice a2 g.t.len cap2, .slice na2 u.len ncap2] 42 (0, 0)) := by rw [hW]; exact heap_new2 _ _ _
  obtain ⟨bs, hbs⟩ : ∃ bs, bs = w.heap.size := ⟨_, rfl⟩
  rw [← hbs] at k0 k1
  have HE := Lib.hid (fun x (hx : Below W.heap.size W x) => And.intro (cells4 ((hx.block _ (heap_lt k0)).trans k0)) (cells4 ((hx.block _ (heap_lt k1)).trans k1)))
  have HWB := Lib.hid hWb
  have HC1 := Lib.hid (fun x (hx : Below W.heap.size W x) => syscheck_any S S' f a na cap ncap t x ((hs.below hWb).below hx) ((hv.below hWb).below hx) ((hk.below hWb).below hx))
  have HC2 := Lib.hid (fun x (hx : Below W.heap.size W x) => syscheck_any S2 S2' g a2 na2 cap2 ncap2 u x ((hs2.below hWb).below hx) ((hv2.below hWb).below hx) ((hk.below hWb).below hx))
  have HSM := Lib.hid (fun x (hx : Below W.heap.size W x) => fsame_any f.t g.t S S2 f.k f.n g.k g.n a a2 cap cap2 x ((hs.below hWb).below hx) ((hs2.below hWb).below hx))
  obtain ⟨n1, hn1⟩ : ∃ n1, n1 = t.len := ⟨_, rfl⟩
  obtain ⟨n2, hn2⟩ : ∃ n2, n2 = u.len := ⟨_, rfl⟩
  obtain ⟨m1, hm1⟩ : ∃ m1, m1 = f.t.len := ⟨_, rfl⟩
  obtain ⟨m2, hm2⟩ : ∃ m2, m2 = g.t.len := ⟨_, rfl⟩
  obtain ⟨E, hE⟩ : ∃ E, E = bothE f t g u := ⟨_, rfl⟩
  have HEE := Lib.hid hE
  unfold bothE at hE
  have HF := Lib.hid hE
  obtain ⟨sm, hsm⟩ : ∃ sm, sm = decide (f.k = g.k ∧ f.n = g.n ∧ f.t = g.t) := ⟨_, rfl⟩
  rw [← hsm] at HSM
  have HS2 := Lib.hid hsm
  rw [← HEE.out]
  obtain ⟨⟨c0, c1, c2, c3⟩, d0, d1, d2, d3⟩ := HE.out _ (Below.refl _ _)
  clear hs hv hs2 hv2 hk k0 k1 hWb hE hsm HEE
  by_cases h1 : sysOk f t = true
  rotate_left
  · have HE2 := Lib.hid (show E = 30 by rw [HF.out, if_neg (fun h => h1 h.1)])
    have HCA := Lib.hid (show Calls Tryz.prog 69 #[Sv f a cap na t.len ncap] W (fun e w' => e = .returned (.int .i64 30) ∧ Below W.heap.size W w') by have h := HC1.out _ (Below.refl _ _); rw [if_neg h1] at h; exact h)
    clear h1 HC1 HC2
    go_enter Tryz.func65, Tryz.ntmps65
    go_wp2_with fail
    rw [← hW, ← hbs]
    clear hW hbs
    refine HCA.out.mono ?_
    rintro e w1 ⟨rfl, hb1⟩
    have HB1 := Lib.hid hb1
    clear hb1
    go_wp2_with fail
    go_ret
    exact ⟨by rw [HE2.out]; rfl, HWB.out.trans (HB1.out.mono HWB.out.size)⟩
  · have HCA := Lib.hid (show Calls Tryz.prog 69 #[Sv f a cap na t.len ncap] W (fun e w' => e = .returned (.int .i64 0) ∧ Below W.heap.size W w') by have h := HC1.out _ (Below.refl _ _); rw [if_pos h1] at h; exact h)
    by_cases h2 : sysOk g u = true
    rotate_left
    · have HE2 := Lib.hid (show E = 30 by rw [HF.out, if_neg (fun h => h2 h.2)])
      have HCB := Lib.hid (fun x (hx : Below W.heap.size W x) => (show Calls Tryz.prog 69 #[Sv g a2 cap2 na2 u.len ncap2] x (fun e w' => e = .returned (.int .i64 30) ∧ Below x.heap.size x w') by have h := HC2.out _ hx; rw [if_neg h2] at h; exact h))
      clear h1 h2 HC1 HC2
      go_enter Tryz.func65, Tryz.ntmps65
      go_wp2_with fail
      rw [← hW, ← hbs]
      clear hW hbs
      refine HCA.out.mono ?_
      rintro e w1 ⟨rfl, hb1⟩
      have HB1 := Lib.hid hb1
      clear c0 c1 c2 c3 d0 d1 d2 d3
      obtain ⟨⟨c0, c1, c2, c3⟩, d0, d1, d2, d3⟩ := HE.out _ hb1
      clear hb1
      go_wp2_with fail
      refine (HCB.out _ HB1.out).mono ?_
      rintro e w2 ⟨rfl, hb2⟩
      have HB2 := Lib.hid (HB1.out.trans (hb2.mono HB1.out.size))
      clear hb2
      go_wp2_with fail
      go_ret
      exact ⟨by rw [HE2.out]; rfl, HWB.out.trans (HB2.out.mono HWB.out.size)⟩
    · have HCB := Lib.hid (fun x (hx : Below W.heap.size W x) => (show Calls Tryz.prog 69 #[Sv g a2 cap2 na2 u.len ncap2] x (fun e w' => e = .returned (.int .i64 0) ∧ Below x.heap.size x w') by have h := HC2.out _ hx; rw [if_pos h2] at h; exact h))
      have HE2 := Lib.hid (show E = if sm = true then 0 else 1 by rw [HF.out, if_pos ⟨h1, h2⟩, HS2.out]; simp)
      clear h1 h2 HC1 HC2
      go_enter Tryz.func65, Tryz.ntmps65
      go_wp2_with fail
      rw [← hW, ← hbs]
      clear hW hbs
      refine HCA.out.mono ?_
      rintro e w1 ⟨rfl, hb1⟩
      have HB1 := Lib.hid hb1
      clear c0 c1 c2 c3 d0 d1 d2 d3
      obtain ⟨⟨c0, c1, c2, c3⟩, d0, d1, d2, d3⟩ := HE.out _ hb1
      clear hb1
      go_wp2_with fail
      refine (HCB.out _ HB1.out).mono ?_
      rintro e w2 ⟨rfl, hb2⟩
      have HB2 := Lib.hid (HB1.out.trans (hb2.mono HB1.out.size))
      clear c0 c1 c2 c3 d0 d1 d2 d3 hb2
      obtain ⟨⟨c0, c1, c2, c3⟩, d0, d1, d2, d3⟩ := HE.out _ HB2.out
      go_wp2_with fail
      refine (HSM.out _ HB2.out).mono ?_
      rintro e w3 ⟨rfl, hb3⟩
      have HB3 := Lib.hid (HWB.out.trans ((HB2.out.trans (hb3.mono HB2.out.size)).mono HWB.out.size))
      clear hb3 c0 c1 c2 c3 d0 d1 d2 d3
      cases sm with
      | true =>
        go_wp2_with fail
        go_ret
        exact ⟨by rw [HE2.out]; rfl, HB3.out⟩
      | false =>
        go_wp2_with fail
        go_ret
        exact ⟨by rw [HE2.out]; rfl, HB3.out⟩
end Go.Proofs.YtfgpjfgejhahfaaGreatDoor

namespace Go.Proofs.YtfgpjfgejhahfaaGreatDoor
open Go Go.RowKit

theorem bothE_cases (f : F) (t : V) (g : F) (u : V) : bothE f t g u = 30 ∨ bothE f t g u = 1 ∨ bothE f t g u = 0 := by
  unfold bothE
  split
  · split
    · exact Or.inr (Or.inr rfl)
    · exact Or.inr (Or.inl rfl)
  · exact Or.inl rfl
theorem both_ok {f : F} {t : V} {g : F} {u : V} (h : bothE f t g u = 0) : sysOk f t = true ∧ sysOk g u = true ∧ f = g := by
  unfold bothE at h
  split at h
  · rename_i h1
    split at h
    · rename_i h2
      obtain ⟨k, n, ft⟩ := f
      obtain ⟨k', n', ft'⟩ := g
      simp only at h2
      obtain ⟨rfl, rfl, rfl⟩ := h2
      exact ⟨h1.1, h1.2, rfl⟩
    · cases h
  · cases h

set_option maxRecDepth 100000 in
set_option maxHeartbeats 3200000 in
theorem crel_any (S S2 : Nat → Nat → Prop) (S' S2' S3 : Nat → Prop) (f g : F) (a na a2 na2 ar : Option Addr) (cap ncap cap2 ncap2 cr : Nat) (t u : V) (r : List (Int × Int)) (w : World) (hs : Sl S w a f.t) (hv : Vl S' w na t) (hs2 : Sl S2 w a2 g.t) (hv2 : Vl S2' w na2 u) (hk : Kinds w) (hr : Prs S3 w ar r) :
    Calls Tryz.prog 63 #[Sv f a cap na t.len ncap, Sv g a2 cap2 na2 u.len ncap2, .slice ar r.length cr] w fun e w' => e = .returned (.int .i64 (relE' f t g u r)) ∧ Below w.heap.size w w' := by
  obtain ⟨W, hW⟩ : ∃ W : World, W = (w.alloc (Obj.cells #[.int .i64 f.k, .int .i64 f.n, .slice a f.t.len cap, .slice na t.len ncap] 42)).alloc (Obj.cells #[.int .i64 g.k, .int .i64 g.n, .slice a2 g.t.len cap2, .slice na2 u.len ncap2] 42) := ⟨_, rfl⟩
  have hWb : Below w.heap.size w W := by rw [hW]; exact ((Below.refl _ _).alloc (Nat.le_refl _) _).alloc (by simp) _
  have k0 : W.heap[w.heap.size]? = some (Obj.cells #[.int .i64 f.k, .int .i64 f.n, .slice a f.t.len cap, .slice na t.len ncap] 42 (0, 0)) := by rw [hW]; exact heap_old2 _ _ _
  have k1 : W.heap[w.heap.size + 1]? = some (Obj.cells #[.int .i64 g.k, .int .i64 g.n, .slice a2 g.t.len cap2, .slice na2 u.len ncap2] 42 (0, 0)) := by rw [hW]; exact heap_new2 _ _ _
  obtain ⟨bs, hbs⟩ : ∃ bs, bs = w.heap.size := ⟨_, rfl⟩
  rw [← hbs] at k0 k1
  have HE := Lib.hid (fun x (hx : Below W.heap.size W x) => And.intro (cells4 ((hx.block _ (heap_lt k0)).trans k0)) (cells4 ((hx.block _ (heap_lt k1)).trans k1)))
  have HWB := Lib.hid hWb
  have HC := Lib.hid (fun x (hx : Below W.heap.size W x) => both_any S S2 S' S2' f g a na a2 na2 cap ncap cap2 ncap2 t u x ((hs.below hWb).below hx) ((hv.below hWb).below hx) ((hs2.below hWb).below hx) ((hv2.below hWb).below hx) ((hk.below hWb).below hx))
  have HR := Lib.hid (fun x (hx : Below W.heap.size W x) => isRel_any S3 ar cr r t.len u.len x ((hr.below hWb).below hx))
  have hl1 := hv.1
  have hl2 := hv2.1
  obtain ⟨N, hNN⟩ : ∃ N, N = r.length := ⟨_, rfl⟩
  obtain ⟨E, hE⟩ : ∃ E, E = relE' f t g u r := ⟨_, rfl⟩
  obtain ⟨E0, hE0⟩ : ∃ E0, E0 = bothE f t g u := ⟨_, rfl⟩
  rw [← hNN] at HR ⊢
  rw [← hE0] at HC
  rw [← hE]
  unfold relE' at hE
  rw [← hE0] at hE
  have HEE := Lib.hid hE
  have hcs := bothE_cases f t g u
  rw [← hE0] at hcs
  obtain ⟨rb, hrb⟩ : ∃ rb, rb = relFrom t.len u.len none r := ⟨_, rfl⟩
  rw [← hrb] at HR HEE
  obtain ⟨n1, hn1⟩ : ∃ n1, n1 = t.len := ⟨_, rfl⟩
  obtain ⟨n2, hn2⟩ : ∃ n2, n2 = u.len := ⟨_, rfl⟩
  rw [← hn1] at HC HR HE hW hl1 ⊢
  rw [← hn2] at HC HR HE hW hl2 ⊢
  obtain ⟨⟨c0, c1, c2, c3⟩, d0, d1, d2, d3⟩ := HE.out _ (Below.refl _ _)
  clear hs hv hs2 hv2 hk hr k0 k1 hWb hE hE0 hNN hrb hn1 hn2
  by_cases h0 : E0 = 0
  rotate_left
  · have HE2 := Lib.hid (show E = E0 by rw [HEE.out, if_neg h0])
    rcases hcs with rfl | rfl | rfl
    · clear h0
      go_enter Tryz.func63, Tryz.ntmps63
      go_wp2_with fail
      rw [← hW, ← hbs]
      clear hW hbs
      refine (HC.out _ (Below.refl _ _)).mono ?_
      rintro e w1 ⟨rfl, hb1⟩
      have HB1 := Lib.hid hb1
      clear hb1
      go_wp2_with fail
      go_ret
      exact ⟨by rw [HE2.out]; rfl, HWB.out.trans (HB1.out.mono HWB.out.size)⟩
    · clear h0
      go_enter Tryz.func63, Tryz.ntmps63
      go_wp2_with fail
      rw [← hW, ← hbs]
      clear hW hbs
      refine (HC.out _ (Below.refl _ _)).mono ?_
      rintro e w1 ⟨rfl, hb1⟩
      have HB1 := Lib.hid hb1
      clear hb1
      go_wp2_with fail
      go_ret
      exact ⟨by rw [HE2.out]; rfl, HWB.out.trans (HB1.out.mono HWB.out.size)⟩
    · exact absurd rfl h0
  · subst h0
    have HE2 := Lib.hid (show E = if rb = true then 0 else 1 by rw [HEE.out, if_pos rfl])
    clear hcs
    go_enter Tryz.func63, Tryz.ntmps63
    go_wp2_with fail
    rw [← hW, ← hbs]
    clear hW hbs
    refine (HC.out _ (Below.refl _ _)).mono ?_
    rintro e w1 ⟨rfl, hb1⟩
    have HB1 := Lib.hid hb1
    clear c0 c1 c2 c3 d0 d1 d2 d3
    obtain ⟨⟨c0, c1, c2, c3⟩, d0, d1, d2, d3⟩ := HE.out _ hb1
    clear hb1
    go_wp2_with fail
    refine (HR.out _ HB1.out).mono ?_
    rintro e w2 ⟨rfl, hb2⟩
    have HB2 := Lib.hid (HWB.out.trans ((HB1.out.trans (hb2.mono HB1.out.size)).mono HWB.out.size))
    clear hb2 c0 c1 c2 c3 d0 d1 d2 d3
    cases rb with
    | true =>
      go_wp2_with fail
      go_ret
      exact ⟨by rw [HE2.out]; rfl, HB2.out⟩
    | false =>
      go_wp2_with fail
      go_ret
      exact ⟨by rw [HE2.out]; rfl, HB2.out⟩
end Go.Proofs.YtfgpjfgejhahfaaGreatDoor
