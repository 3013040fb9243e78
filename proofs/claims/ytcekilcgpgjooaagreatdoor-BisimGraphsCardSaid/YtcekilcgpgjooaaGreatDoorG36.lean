/- Proved here: contracts of the walk to BisimGraphs: the errors of a pair of systems, Faults and Is; each under the conditions that its own statement names. -/
import Derived.Test.YtcekilcgpgjooaaGreatDoorG22
import Derived.Test.YtcekilcgpgjooaaGreatDoorG34
import Derived.Maps.OwnSet
set_option maxRecDepth 100000
set_option maxHeartbeats 12800000
namespace Go.Proofs.YtcekilcgpgjooaaGreatDoor
open Go Go.RowKit

end Go.Proofs.YtcekilcgpgjooaaGreatDoor
namespace Go.Proofs.YtcekilcgpgjooaaGreatDoor
open Go.RowKit
open Go.Lib (hid)
def FSameOk (t : T) : Prop := ∀ (u : T) (S S' : Nat → Nat → Prop) (k n k' n' : Int) (a a' : Option Addr) (cap cap' : Nat) (w : World), Sl S w a t → Sl S' w a' u →
 Calls Tryz.prog 30 #[.agg #[.int .i64 k, .int .i64 n, .slice a t.len cap], .agg #[.int .i64 k', .int .i64 n', .slice a' u.len cap']] w fun e w' =>
  e = .returned (.bool (decide (k = k' ∧ n = n' ∧ t = u))) ∧ Below w.heap.size w w'
theorem feqf_any (t : T) (ih : t.Elems FSameOk) (u : T) (S S' : Nat → Nat → Prop) (a a' : Option Addr) (cap cap' : Nat) (w : World) (hs : Sl S w a t) (hu : Sl S' w a' u) :
    Calls Tryz.prog 66 #[.slice a t.len cap, .slice a' u.len cap', .func (.func 30) #[] #[]] w fun e w' => e = .returned (.bool (decide (t = u))) ∧ Below w.heap.size w w' := by
 have IH := hid ih
 have hlen := hs.1
 have hlenu := hu.1
 clear ih
 by_cases hl : t.len = u.len
 ·have hl' : ((t.len : Int) != (u.len : Int)) = false := by simp [hl]
  have HL := hid hl
  have hle : t.len ≤ u.len := by omega
  clear hl
  go_enter Tryz.func66, Tryz.ntmps66
  go_wp2_with fail
  go_loopw [7, 8, 9, 17] (fun _ _ _ i wr => ∃ j : Nat, j ≤ t.len ∧ i = .int .i64 j ∧ (t.drop j = u.drop j ↔ t = u) ∧ Below w.heap.size w wr) (fun _ _ _ i _ => t.len - (intOf i).toNat)
  case atStart => exact ⟨0, Nat.zero_le _, rfl, by simp, Below.refl _ _⟩
  case round =>
   obtain ⟨j, hj, rfl, hq, hb⟩ := hrel
   have HQ := hid hq
   clear hq
   have hbs := hb.size
   by_cases hlt : j < t.len
   ·obtain ⟨b, o, rfl, hat⟩ := hs.addr hlt
    obtain ⟨k1, n1, kids, rest, hd, hd1⟩ := T.drop_lt hlt
    obtain ⟨_, d0, d1, a1, cap1, d2, hs1⟩ := hat.get hd
    obtain ⟨b', o', rfl, hat'⟩ := hu.addr (show j < u.len by omega)
    obtain ⟨k2, n2, kids', rest', hd', hd1'⟩ := T.drop_lt (show j < u.len by omega)
    obtain ⟨_, f0, f1, a2, cap2, f2, hu1⟩ := hat'.get hd'
    have hb3 := Nat.mul_comm 3 j
    rw [hb3] at d0 d1 d2 f0 f1 f2
    clear hb3
    have hlu : j < u.len := by omega
    obtain ⟨W2, hW2⟩ : ∃ W2, W2 = wr.alloc (.cells #[.int .i64 k1, .int .i64 n1, .slice a1 kids.len cap1] 24) := ⟨_, rfl⟩
    obtain ⟨W3, hW3⟩ : ∃ W3, W3 = W2.alloc (.cells #[.int .i64 k2, .int .i64 n2, .slice a2 kids'.len cap2] 24) := ⟨_, rfl⟩
    have hb2 : Below wr.heap.size wr W2 := by rw [hW2]; exact ba _ _
    have hb3 : Below W2.heap.size W2 W3 := by rw [hW3]; exact ba _ _
    have hbq : Below w.heap.size w W3 := hb.trans ((hb2.trans (hb3.mono hb2.size)).mono hbs)
    replace d0 := cell_below hb d0
    replace d1 := cell_below hb d1
    replace d2 := cell_below hb d2
    replace f0 := cell_below hb f0
    replace f1 := cell_below hb f1
    replace f2 := cell_below hb f2
    have f0' := cell_below hb2 f0
    have f1' := cell_below hb2 f1
    have f2' := cell_below hb2 f2
    rw [hW2] at f0' f1' f2'
    obtain ⟨r, hr⟩ : ∃ r, r = decide (k1 = k2 ∧ n1 = n2 ∧ kids = kids') := ⟨_, rfl⟩
    have HC := hid (IH.out _ _ _ _ _ hd kids' S S' k1 n1 k2 n2 a1 a2 cap1 cap2 W3 (hs1.below hbq) (hu1.below hbq))
    rw [← hr] at HC
    have HR := hid hr
    have HD := hid hd
    have HD1 := hid hd1
    have HD' := hid hd'
    have HD1' := hid hd1'
    clear hd hd1 hd' hd1' hr
    go_wp2_with fail
    rw [← hW2, ← hW3]
    clear hW2 hW3
    refine HC.out.mono ?_
    rintro e w' ⟨rfl, hb5⟩
    have hb6 : Below w.heap.size w w' := hbq.trans (hb5.mono hbq.size)
    cases r
    ·go_wp2_with fail
     go_ret
     have hne : ¬ t = u := by
      intro e
      have := HQ.out.2 e
      rw [HD.out, HD'.out] at this
      have h3 := HR.out.symm
      simp only [T.cons.injEq] at this
      simp [this] at h3
     exact ⟨by simp [hne], hb6⟩
    ·go_wp2_with fail
     go_roundw
     case rel =>
      refine ⟨j + 1, by omega, by go_num, ?_, hb6⟩
      rw [← HQ.out, HD.out, HD'.out, HD1.out, HD1'.out]
      have h3 := of_decide_eq_true HR.out.symm
      simp [h3.1, h3.2.1, h3.2.2]
     case measure => simp [intOf]; omega
   ·go_wp2_with fail
    go_ret
    have hj' : j = t.len := by omega
    have := HQ.out
    rw [hj', T.drop_all, HL.out, T.drop_all] at this
    exact ⟨by simp [this.1 rfl], hb⟩
 ·have hl' : ((t.len : Int) != (u.len : Int)) = true := by simp; omega
  have hne : ¬ t = u := fun e => hl (by rw [e])
  have HN := hid hne
  clear hl hne
  go_enter Tryz.func66, Tryz.ntmps66
  go_wp2_with fail
  go_ret
  exact ⟨by simp [HN.out], Below.refl _ _⟩
theorem fsame_any : ∀ t : T, FSameOk t := by
 refine T.ind ?_
 intro t ih u S S' k n k' n' a a' cap cap' w hs hu
 obtain ⟨W, hW⟩ : ∃ W : World, W = (w.alloc (Obj.cells #[.int .i64 k, .int .i64 n, Value.slice a t.len cap] 24)).alloc (Obj.cells #[.int .i64 k', .int .i64 n', Value.slice a' u.len cap'] 24) := ⟨_, rfl⟩
 have hWb : Below w.heap.size w W := by rw [hW]; exact ba2 _ _ _
 have HC := hid (feqf_any t ih u S S' a a' cap cap' W (hs.below hWb) (hu.below hWb))
 obtain ⟨r, hr⟩ : ∃ r, r = decide (t = u) := ⟨_, rfl⟩
 rw [← hr] at HC
 clear ih hs hu
 have fin : ∀ x : Bool, x = (decide (k = k') && (decide (n = n') && r)) → x = decide (k = k' ∧ n = n' ∧ t = u) := by
  intro x hx
  rw [hx, hr, Bool.decide_and, Bool.decide_and]
 have FIN := hid fin
 clear fin hr
 cases hk : decide (k = k')
 ·have hk' : (k == k') = false := by simpa using hk
  rw [hk] at FIN
  clear hk
  go_enter Tryz.func30, Tryz.ntmps30
  go_wp2_with fail
  go_ret
  exact ⟨congrArg (fun b => Ending.returned (.bool b)) (FIN.out false (by simp)), ba2 _ _ _⟩
 ·have hk' : (k == k') = true := by simpa using hk
  rw [hk] at FIN
  clear hk
  cases hn : decide (n = n')
  ·have hn' : (n == n') = false := by simpa using hn
   rw [hn] at FIN
   clear hn
   go_enter Tryz.func30, Tryz.ntmps30
   go_wp2_with fail
   go_ret
   exact ⟨congrArg (fun b => Ending.returned (.bool b)) (FIN.out false (by simp)), ba2 _ _ _⟩
  ·have hn' : (n == n') = true := by simpa using hn
   rw [hn] at FIN
   clear hn
   go_enter Tryz.func30, Tryz.ntmps30
   go_wp2_with fail
   rw [← hW]
   clear hW
   refine HC.out.mono ?_
   rintro e w1 ⟨rfl, hb1⟩
   go_wp2_with fail
   go_ret
   exact ⟨congrArg (fun b => Ending.returned (.bool b)) (FIN.out r (by simp)), hWb.trans (hb1.mono hWb.size)⟩
end Go.Proofs.YtcekilcgpgjooaaGreatDoor
namespace Go.Proofs.YtcekilcgpgjooaaGreatDoor
open Go Go.RowKit
open Go.Lib (hid)
def bothE (f : F) (t : V) (g : F) (u : V) : Int := if sysOk f t = true ∧ sysOk g u = true then (if f.k = g.k ∧ f.n = g.n ∧ f.t = g.t then 0 else 1) else 30
def relE' (f : F) (t : V) (g : F) (u : V) (r : List (Int × Int)) : Int := if bothE f t g u = 0 then (if relFrom t.len u.len none r = true then 0 else 1) else bothE f t g u
theorem sysL_get {f : F} {m : Int} : ∀ {t : V} {i : Nat}, sysL f m t = true → i < t.len → vValid f m (t.el i).1 (t.el i).2.1 (t.el i).2.2 = true
 | .nil, _, _, h => by simp [V.len] at h
 | .cons n k ws r, 0, h, _ => by
  simp only [sysL, Bool.and_eq_true] at h
  exact h.1
 | .cons n k ws r, i + 1, h, hi => by
  simp only [sysL, Bool.and_eq_true] at h
  exact sysL_get (t := r) (i := i) h.2 (by simpa [V.len] using hi)
theorem sys_parts {f : F} {t : V} (h : sysOk f t = true) : f.good = true ∧ t.len ≤ 100 ∧ ∀ i, i < t.len → okV nodeOk t.len f (t.el i).1 (t.el i).2.1 (t.el i).2.2 = true := by
 unfold sysOk at h
 simp only [Bool.and_eq_true, decide_eq_true_eq] at h
 refine ⟨valid_good h.1, h.2.1, fun i hi => ?_⟩
 have := sysL_get h.2.2.1 hi
 unfold vValid at this
 simp only [Bool.and_eq_true] at this
 exact this.1
theorem both_any (S S2 : Nat → Nat → Prop) (S' S2' : Nat → Prop) (f g : F) (a na a2 na2 : Option Addr) (cap ncap cap2 ncap2 : Nat) (t u : V) (w : World) (hs : Sl S w a f.t) (hv : Vl S' w na t) (hs2 : Sl S2 w a2 g.t) (hv2 : Vl S2' w na2 u) (hk : Kinds w) :
    Calls Tryz.prog 26 #[Sv f a cap na t.len ncap, Sv g a2 cap2 na2 u.len ncap2] w fun e w' => e = .returned (.int .i64 (bothE f t g u)) ∧ Below w.heap.size w w' := by
 obtain ⟨W, hW⟩ : ∃ W : World, W = (w.alloc (Obj.cells #[.int .i64 f.k, .int .i64 f.n, .slice a f.t.len cap, .slice na t.len ncap] 27)).alloc (Obj.cells #[.int .i64 g.k, .int .i64 g.n, .slice a2 g.t.len cap2, .slice na2 u.len ncap2] 27) := ⟨_, rfl⟩
 have hWb : Below w.heap.size w W := by rw [hW]; exact ba2 _ _ _
 have k0 : W.heap[w.heap.size]? = some (Obj.cells #[.int .i64 f.k, .int .i64 f.n, .slice a f.t.len cap, .slice na t.len ncap] 27 (0, 0)) := by rw [hW]; exact heap_old2 _ _ _
 have k1 : W.heap[w.heap.size + 1]? = some (Obj.cells #[.int .i64 g.k, .int .i64 g.n, .slice a2 g.t.len cap2, .slice na2 u.len ncap2] 27 (0, 0)) := by rw [hW]; exact heap_new2 _ _ _
 obtain ⟨bs, hbs⟩ : ∃ bs, bs = w.heap.size := ⟨_, rfl⟩
 rw [← hbs] at k0 k1
 have HE := hid (fun x (hx : Below W.heap.size W x) => And.intro (cells4 ((hx.block _ (heap_lt k0)).trans k0)) (cells4 ((hx.block _ (heap_lt k1)).trans k1)))
 have HWB := hid hWb
 have HC1 := hid (fun x (hx : Below W.heap.size W x) => syscheck_any S S' f a na cap ncap t x ((hs.below hWb).below hx) ((hv.below hWb).below hx) ((hk.below hWb).below hx))
 have HC2 := hid (fun x (hx : Below W.heap.size W x) => syscheck_any S2 S2' g a2 na2 cap2 ncap2 u x ((hs2.below hWb).below hx) ((hv2.below hWb).below hx) ((hk.below hWb).below hx))
 have HSM := hid (fun x (hx : Below W.heap.size W x) => fsame_any f.t g.t S S2 f.k f.n g.k g.n a a2 cap cap2 x ((hs.below hWb).below hx) ((hs2.below hWb).below hx))
 obtain ⟨n1, hn1⟩ : ∃ n1, n1 = t.len := ⟨_, rfl⟩
 obtain ⟨n2, hn2⟩ : ∃ n2, n2 = u.len := ⟨_, rfl⟩
 obtain ⟨m1, hm1⟩ : ∃ m1, m1 = f.t.len := ⟨_, rfl⟩
 obtain ⟨m2, hm2⟩ : ∃ m2, m2 = g.t.len := ⟨_, rfl⟩
 obtain ⟨E, hE⟩ : ∃ E, E = bothE f t g u := ⟨_, rfl⟩
 have HEE := hid hE
 unfold bothE at hE
 have HF := hid hE
 obtain ⟨sm, hsm⟩ : ∃ sm, sm = decide (f.k = g.k ∧ f.n = g.n ∧ f.t = g.t) := ⟨_, rfl⟩
 rw [← hsm] at HSM
 have HS2 := hid hsm
 rw [← HEE.out]
 obtain ⟨⟨c0, c1, c2, c3⟩, d0, d1, d2, d3⟩ := HE.out _ (Below.refl _ _)
 clear hs hv hs2 hv2 hk k0 k1 hWb hE hsm HEE
 by_cases h1 : sysOk f t = true
 rotate_left
 ·have HE2 := hid (show E = 30 by rw [HF.out, if_neg (fun h => h1 h.1)])
  have HCA := hid (show Calls Tryz.prog 29 #[Sv f a cap na t.len ncap] W (fun e w' => e = .returned (.int .i64 30) ∧ Below W.heap.size W w') by have h := HC1.out _ (Below.refl _ _); rw [if_neg h1] at h; exact h)
  clear h1 HC1 HC2
  go_enter Tryz.func26, Tryz.ntmps26
  go_wp2_with fail
  rw [← hW, ← hbs]
  clear hW hbs
  refine HCA.out.mono ?_
  rintro e w1 ⟨rfl, hb1⟩
  have HB1 := hid hb1
  clear hb1
  go_wp2_with fail
  go_ret
  exact ⟨by rw [HE2.out]; rfl, HWB.out.trans (HB1.out.mono HWB.out.size)⟩
 ·have HCA := hid (show Calls Tryz.prog 29 #[Sv f a cap na t.len ncap] W (fun e w' => e = .returned (.int .i64 0) ∧ Below W.heap.size W w') by have h := HC1.out _ (Below.refl _ _); rw [if_pos h1] at h; exact h)
  by_cases h2 : sysOk g u = true
  rotate_left
  ·have HE2 := hid (show E = 30 by rw [HF.out, if_neg (fun h => h2 h.2)])
   have HCB := hid (fun x (hx : Below W.heap.size W x) => (show Calls Tryz.prog 29 #[Sv g a2 cap2 na2 u.len ncap2] x (fun e w' => e = .returned (.int .i64 30) ∧ Below x.heap.size x w') by have h := HC2.out _ hx; rw [if_neg h2] at h; exact h))
   clear h1 h2 HC1 HC2
   go_enter Tryz.func26, Tryz.ntmps26
   go_wp2_with fail
   rw [← hW, ← hbs]
   clear hW hbs
   refine HCA.out.mono ?_
   rintro e w1 ⟨rfl, hb1⟩
   have HB1 := hid hb1
   clear c0 c1 c2 c3 d0 d1 d2 d3
   obtain ⟨⟨c0, c1, c2, c3⟩, d0, d1, d2, d3⟩ := HE.out _ hb1
   clear hb1
   go_wp2_with fail
   refine (HCB.out _ HB1.out).mono ?_
   rintro e w2 ⟨rfl, hb2⟩
   have HB2 := hid (HB1.out.trans (hb2.mono HB1.out.size))
   clear hb2
   go_wp2_with fail
   go_ret
   exact ⟨by rw [HE2.out]; rfl, HWB.out.trans (HB2.out.mono HWB.out.size)⟩
  ·have HCB := hid (fun x (hx : Below W.heap.size W x) => (show Calls Tryz.prog 29 #[Sv g a2 cap2 na2 u.len ncap2] x (fun e w' => e = .returned (.int .i64 0) ∧ Below x.heap.size x w') by have h := HC2.out _ hx; rw [if_pos h2] at h; exact h))
   have HE2 := hid (show E = if sm = true then 0 else 1 by rw [HF.out, if_pos ⟨h1, h2⟩, HS2.out]; simp)
   clear h1 h2 HC1 HC2
   go_enter Tryz.func26, Tryz.ntmps26
   go_wp2_with fail
   rw [← hW, ← hbs]
   clear hW hbs
   refine HCA.out.mono ?_
   rintro e w1 ⟨rfl, hb1⟩
   have HB1 := hid hb1
   clear c0 c1 c2 c3 d0 d1 d2 d3
   obtain ⟨⟨c0, c1, c2, c3⟩, d0, d1, d2, d3⟩ := HE.out _ hb1
   clear hb1
   go_wp2_with fail
   refine (HCB.out _ HB1.out).mono ?_
   rintro e w2 ⟨rfl, hb2⟩
   have HB2 := hid (HB1.out.trans (hb2.mono HB1.out.size))
   clear c0 c1 c2 c3 d0 d1 d2 d3 hb2
   obtain ⟨⟨c0, c1, c2, c3⟩, d0, d1, d2, d3⟩ := HE.out _ HB2.out
   go_wp2_with fail
   refine (HSM.out _ HB2.out).mono ?_
   rintro e w3 ⟨rfl, hb3⟩
   have HB3 := hid (HWB.out.trans ((HB2.out.trans (hb3.mono HB2.out.size)).mono HWB.out.size))
   clear hb3 c0 c1 c2 c3 d0 d1 d2 d3
   cases sm with
   | true =>
    go_wp2_with fail
    go_ret
    exact ⟨by rw [HE2.out]; rfl, HB3.out⟩
   | false =>
    go_wp2_with fail
    go_ret
    exact ⟨by rw [HE2.out]; rfl, HB3.out⟩
theorem bothE_cases (f : F) (t : V) (g : F) (u : V) : bothE f t g u = 30 ∨ bothE f t g u = 1 ∨ bothE f t g u = 0 := by
 unfold bothE
 split
 ·split
  ·exact Or.inr (Or.inr rfl)
  ·exact Or.inr (Or.inl rfl)
 ·exact Or.inl rfl
theorem both_ok {f : F} {t : V} {g : F} {u : V} (h : bothE f t g u = 0) : sysOk f t = true ∧ sysOk g u = true ∧ f = g := by
 unfold bothE at h
 split at h
 ·rename_i h1
  split at h
  ·rename_i h2
   obtain ⟨k, n, ft⟩ := f
   obtain ⟨k', n', ft'⟩ := g
   simp only at h2
   obtain ⟨rfl, rfl, rfl⟩ := h2
   exact ⟨h1.1, h1.2, rfl⟩
  ·cases h
 ·cases h
theorem crel_any (S S2 : Nat → Nat → Prop) (S' S2' S3 : Nat → Prop) (f g : F) (a na a2 na2 ar : Option Addr) (cap ncap cap2 ncap2 cr : Nat) (t u : V) (r : List (Int × Int)) (w : World) (hs : Sl S w a f.t) (hv : Vl S' w na t) (hs2 : Sl S2 w a2 g.t) (hv2 : Vl S2' w na2 u) (hk : Kinds w) (hr : Prs S3 w ar r) :
    Calls Tryz.prog 35 #[Sv f a cap na t.len ncap, Sv g a2 cap2 na2 u.len ncap2, .slice ar r.length cr] w fun e w' => e = .returned (.int .i64 (relE' f t g u r)) ∧ Below w.heap.size w w' := by
 obtain ⟨W, hW⟩ : ∃ W : World, W = (w.alloc (Obj.cells #[.int .i64 f.k, .int .i64 f.n, .slice a f.t.len cap, .slice na t.len ncap] 27)).alloc (Obj.cells #[.int .i64 g.k, .int .i64 g.n, .slice a2 g.t.len cap2, .slice na2 u.len ncap2] 27) := ⟨_, rfl⟩
 have hWb : Below w.heap.size w W := by rw [hW]; exact ba2 _ _ _
 have k0 : W.heap[w.heap.size]? = some (Obj.cells #[.int .i64 f.k, .int .i64 f.n, .slice a f.t.len cap, .slice na t.len ncap] 27 (0, 0)) := by rw [hW]; exact heap_old2 _ _ _
 have k1 : W.heap[w.heap.size + 1]? = some (Obj.cells #[.int .i64 g.k, .int .i64 g.n, .slice a2 g.t.len cap2, .slice na2 u.len ncap2] 27 (0, 0)) := by rw [hW]; exact heap_new2 _ _ _
 obtain ⟨bs, hbs⟩ : ∃ bs, bs = w.heap.size := ⟨_, rfl⟩
 rw [← hbs] at k0 k1
 have HE := hid (fun x (hx : Below W.heap.size W x) => And.intro (cells4 ((hx.block _ (heap_lt k0)).trans k0)) (cells4 ((hx.block _ (heap_lt k1)).trans k1)))
 have HWB := hid hWb
 have HC := hid (fun x (hx : Below W.heap.size W x) => both_any S S2 S' S2' f g a na a2 na2 cap ncap cap2 ncap2 t u x ((hs.below hWb).below hx) ((hv.below hWb).below hx) ((hs2.below hWb).below hx) ((hv2.below hWb).below hx) ((hk.below hWb).below hx))
 have HR := hid (fun x (hx : Below W.heap.size W x) => isRel_any S3 ar cr r t.len u.len x ((hr.below hWb).below hx))
 have hl1 := hv.1
 have hl2 := hv2.1
 obtain ⟨N, hNN⟩ : ∃ N, N = r.length := ⟨_, rfl⟩
 obtain ⟨E, hE⟩ : ∃ E, E = relE' f t g u r := ⟨_, rfl⟩
 obtain ⟨E0, hE0⟩ : ∃ E0, E0 = bothE f t g u := ⟨_, rfl⟩
 rw [← hNN] at HR ⊢
 rw [← hE0] at HC
 rw [← hE]
 unfold relE' at hE
 rw [← hE0] at hE
 have HEE := hid hE
 have hcs := bothE_cases f t g u
 rw [← hE0] at hcs
 obtain ⟨rb, hrb⟩ : ∃ rb, rb = relFrom t.len u.len none r := ⟨_, rfl⟩
 rw [← hrb] at HR HEE
 obtain ⟨n1, hn1⟩ : ∃ n1, n1 = t.len := ⟨_, rfl⟩
 obtain ⟨n2, hn2⟩ : ∃ n2, n2 = u.len := ⟨_, rfl⟩
 rw [← hn1] at HC HR HE hW hl1 ⊢
 rw [← hn2] at HC HR HE hW hl2 ⊢
 obtain ⟨⟨c0, c1, c2, c3⟩, d0, d1, d2, d3⟩ := HE.out _ (Below.refl _ _)
 clear hs hv hs2 hv2 hk hr k0 k1 hWb hE hE0 hNN hrb hn1 hn2
 by_cases h0 : E0 = 0
 rotate_left
 ·have HE2 := hid (show E = E0 by rw [HEE.out, if_neg h0])
  rcases hcs with rfl | rfl | rfl
  ·clear h0
   go_enter Tryz.func35, Tryz.ntmps35
   go_wp2_with fail
   rw [← hW, ← hbs]
   clear hW hbs
   refine (HC.out _ (Below.refl _ _)).mono ?_
   rintro e w1 ⟨rfl, hb1⟩
   have HB1 := hid hb1
   clear hb1
   go_wp2_with fail
   go_ret
   exact ⟨by rw [HE2.out]; rfl, HWB.out.trans (HB1.out.mono HWB.out.size)⟩
  ·clear h0
   go_enter Tryz.func35, Tryz.ntmps35
   go_wp2_with fail
   rw [← hW, ← hbs]
   clear hW hbs
   refine (HC.out _ (Below.refl _ _)).mono ?_
   rintro e w1 ⟨rfl, hb1⟩
   have HB1 := hid hb1
   clear hb1
   go_wp2_with fail
   go_ret
   exact ⟨by rw [HE2.out]; rfl, HWB.out.trans (HB1.out.mono HWB.out.size)⟩
  ·exact absurd rfl h0
 ·subst h0
  have HE2 := hid (show E = if rb = true then 0 else 1 by rw [HEE.out, if_pos rfl])
  clear hcs
  go_enter Tryz.func35, Tryz.ntmps35
  go_wp2_with fail
  rw [← hW, ← hbs]
  clear hW hbs
  refine (HC.out _ (Below.refl _ _)).mono ?_
  rintro e w1 ⟨rfl, hb1⟩
  have HB1 := hid hb1
  clear c0 c1 c2 c3 d0 d1 d2 d3
  obtain ⟨⟨c0, c1, c2, c3⟩, d0, d1, d2, d3⟩ := HE.out _ hb1
  clear hb1
  go_wp2_with fail
  refine (HR.out _ HB1.out).mono ?_
  rintro e w2 ⟨rfl, hb2⟩
  have HB2 := hid (HWB.out.trans ((HB1.out.trans (hb2.mono HB1.out.size)).mono HWB.out.size))
  clear hb2 c0 c1 c2 c3 d0 d1 d2 d3
  cases rb with
  | true =>
   go_wp2_with fail
   go_ret
   exact ⟨by rw [HE2.out]; rfl, HB2.out⟩
  | false =>
   go_wp2_with fail
   go_ret
   exact ⟨by rw [HE2.out]; rfl, HB2.out⟩
theorem row_base {w : World} {lo lo' : Nat} {e : TypeId} {size : Nat} {v : Value} {n : Nat} {xs : List Value} (h : w.ownsRow lo e size v n xs) (hl : lo' ≤ lo) : w.ownsRow lo' e size v n xs := by
 refine ⟨h.1, ?_⟩
 rcases h.2 with h2 | ⟨g, cap, cur, h2, h3, h4⟩
 ·exact Or.inl h2
 ·exact Or.inr ⟨g, cap, cur, h2, Nat.le_trans hl h3, h4⟩
def relAt (RB : F → Int × V × List Int → Int × V × List Int → Bool) (f : F) (t u : V) (r : List (Int × Int)) (i : Nat) : Bool := RB f (t.el (r.getD i (0, 0)).1.toNat) (u.el (r.getD i (0, 0)).2.toNat)
theorem relAny_ex (P : Nat → Nat → Bool) : ∃ RB : F → Int × V × List Int → Int × V × List Int → Bool, ∀ f u v, RB f u v = true ↔ relV (tells P) f u v :=
 ⟨fun f u v => @decide (relV (tells P) f u v) (Classical.propDecidable _), fun f u v => by simp⟩
def fltL (RB : F → Int × V × List Int → Int × V × List Int → Bool) (f : F) (t : V) (g : F) (u : V) (r : List (Int × Int)) : List (Int × Int) := if relE' f t g u r = 0 then keptL r (relAt RB f t u r) r.length else []
theorem relE'_ok {f : F} {t : V} {g : F} {u : V} {r : List (Int × Int)} (h : relE' f t g u r = 0) : bothE f t g u = 0 ∧ relFrom t.len u.len none r = true := by
 unfold relE' at h
 split at h
 ·rename_i h0
  split at h
  ·rename_i h1; exact ⟨h0, h1⟩
  ·cases h
 ·rename_i h0; exact absurd h h0
theorem flt_any (S S2 : Nat → Nat → Prop) (S' S2' S3 : Nat → Prop) (f g : F) (a na a2 na2 ar : Option Addr) (cap ncap cap2 ncap2 cr : Nat) (t u : V) (r : List (Int × Int)) (w : World) (hs : Sl S w a f.t) (hv : Vl S' w na t) (hs2 : Sl S2 w a2 g.t) (hv2 : Vl S2' w na2 u) (hk : Kinds w) (hr : Prs S3 w ar r) (hN : r.length ≤ 1000000)
    (RB : F → Int × V × List Int → Int × V × List Int → Bool) (hRB : ∀ f u v, RB f u v = true ↔ relV (tells (fun x y => decide (((x : Int), (y : Int)) ∈ r))) f u v) :
    Calls Tryz.prog 72 #[Sv f a cap na t.len ncap, Sv g a2 cap2 na2 u.len ncap2, .slice ar r.length cr] w fun e w' => ∃ v, e = .returned (.tuple #[v, .int .i64 (relE' f t g u r)]) ∧ w'.ownsRow w.heap.size 38 2 v (fltL RB f t g u r).length (flatP (fltL RB f t g u r)) ∧ Below w.heap.size w w' := by
 obtain ⟨i0, hi, hz0, hz1, hz2⟩ := info_parts infoP
 obtain ⟨W, hW⟩ : ∃ W : World, W = (w.alloc (Obj.cells #[.int .i64 f.k, .int .i64 f.n, .slice a f.t.len cap, .slice na t.len ncap] 27)).alloc (Obj.cells #[.int .i64 g.k, .int .i64 g.n, .slice a2 g.t.len cap2, .slice na2 u.len ncap2] 27) := ⟨_, rfl⟩
 have hWb : Below w.heap.size w W := by rw [hW]; exact ba2 _ _ _
 have k0 : W.heap[w.heap.size]? = some (Obj.cells #[.int .i64 f.k, .int .i64 f.n, .slice a f.t.len cap, .slice na t.len ncap] 27 (0, 0)) := by rw [hW]; exact heap_old2 _ _ _
 have k1 : W.heap[w.heap.size + 1]? = some (Obj.cells #[.int .i64 g.k, .int .i64 g.n, .slice a2 g.t.len cap2, .slice na2 u.len ncap2] 27 (0, 0)) := by rw [hW]; exact heap_new2 _ _ _
 obtain ⟨bs, hbs⟩ : ∃ bs, bs = w.heap.size := ⟨_, rfl⟩
 rw [← hbs] at k0 k1
 have HE := hid (fun x (hx : Below W.heap.size W x) => And.intro (cells4 ((hx.block _ (heap_lt k0)).trans k0)) (cells4 ((hx.block _ (heap_lt k1)).trans k1)))
 have HWB := hid hWb
 have HC := hid (fun x (hx : Below W.heap.size W x) => crel_any S S2 S' S2' S3 f g a na a2 na2 ar cap ncap cap2 ncap2 cr t u r x ((hs.below hWb).below hx) ((hv.below hWb).below hx) ((hs2.below hWb).below hx) ((hv2.below hWb).below hx) ((hk.below hWb).below hx) ((hr.below hWb).below hx))
 obtain ⟨E, hE⟩ : ∃ E, E = relE' f t g u r := ⟨_, rfl⟩
 have HEE := hid hE
 obtain ⟨L, hL⟩ : ∃ L, L = fltL RB f t g u r := ⟨_, rfl⟩
 have HLL := hid hL
 rw [← hE] at HC ⊢
 rw [← hL]
 have hl1 := hv.1
 have hl2 := hv2.1
 have HP := hid (hr.below hWb)
 have HS := hid (hs.below hWb)
 have HV := hid (hv.below hWb)
 have HV2 := hid (hv2.below hWb)
 obtain ⟨N, hNN⟩ : ∃ N, N = r.length := ⟨_, rfl⟩
 rw [← hNN] at HC hN ⊢
 have HN := hid hNN
 obtain ⟨⟨c0, c1, c2, c3⟩, d0, d1, d2, d3⟩ := HE.out _ (Below.refl _ _)
 have hcs : E = 30 ∨ E = 1 ∨ E = 0 := by
  rw [hE]; unfold relE'
  rcases bothE_cases f t g u with h | h | h <;> rw [h]
  ·simp
  ·simp
  ·by_cases h2 : relFrom t.len u.len none r = true <;> simp [h2]
 clear hs hv hs2 hv2 hk hr k0 k1 hWb hE hL hNN
 by_cases h0 : E = 0
 rotate_left
 ·have HL0 := hid (show L = [] by rw [HLL.out]; unfold fltL; rw [if_neg (by rw [← HEE.out]; exact h0)])
  rcases hcs with rfl | rfl | rfl
  ·clear h0
   go_enter Tryz.func72, Tryz.ntmps72
   go_wp2_with fail
   rw [← hW, ← hbs]
   clear hW hbs
   refine (HC.out _ (Below.refl _ _)).mono ?_
   rintro e w1 ⟨rfl, hb1⟩
   have HB1 := hid hb1
   clear hb1
   go_wp2_with fail
   go_ret2
   exact ⟨_, rfl, by rw [HL0.out]; exact World.ownsRow_nil _ _ _ _, HWB.out.trans (HB1.out.mono HWB.out.size)⟩
  ·clear h0
   go_enter Tryz.func72, Tryz.ntmps72
   go_wp2_with fail
   rw [← hW, ← hbs]
   clear hW hbs
   refine (HC.out _ (Below.refl _ _)).mono ?_
   rintro e w1 ⟨rfl, hb1⟩
   have HB1 := hid hb1
   clear hb1
   go_wp2_with fail
   go_ret2
   exact ⟨_, rfl, by rw [HL0.out]; exact World.ownsRow_nil _ _ _ _, HWB.out.trans (HB1.out.mono HWB.out.size)⟩
  ·exact absurd rfl h0
 ·have hok := relE'_ok (HEE.out.symm.trans h0)
  have HL0 := hid (show L = keptL r (relAt RB f t u r) N by rw [HLL.out]; unfold fltL; rw [if_pos (HEE.out.symm.trans h0), ← HN.out])
  obtain ⟨hy1, hy2, rfl⟩ := both_ok hok.1
  have hin := relFrom_in hok.2
  obtain ⟨hg, hn1, hok1⟩ := sys_parts hy1
  obtain ⟨_, hn2, hok2⟩ := sys_parts hy2
  have HOK := hid (And.intro hok1 hok2)
  have HG := hid hg
  have HIN := hid hin
  have HMM := hid (fun x (hx : Below W.heap.size W x) => member_any S3 ar cr r x (HP.out.below hx) (by rw [← HN.out]; exact hN) (fun p hp => by have := HIN.out p hp; omega))
  rw [← HN.out] at HMM
  subst h0
  clear hok hy1 hy2 hin hg hok1 hok2 hcs
  go_enter Tryz.func72, Tryz.ntmps72
  go_wp2_with fail
  rw [← hW, ← hbs]
  clear hW hbs
  refine (HC.out _ (Below.refl _ _)).mono ?_
  rintro e w1 ⟨rfl, hb1⟩
  have HB1 := hid hb1
  clear c0 c1 c2 c3 d0 d1 d2 d3 hb1
  go_wp2_with fail
  refine (HMM.out _ HB1.out).mono ?_
  rintro e w2 ⟨rfl, hb2, hsz, hmi⟩
  obtain ⟨mb, hmb⟩ : ∃ mb, mb = w1.heap.size := ⟨_, rfl⟩
  rw [← hmb] at hmi hsz ⊢
  have HB2 := hid (HB1.out.trans (hb2.mono HB1.out.size))
  have HMI := hid hmi
  obtain ⟨B, hB⟩ : ∃ B, B = w2.heap.size := ⟨_, rfl⟩
  rw [← hB] at HMI hsz
  have HAS := hid (mem_asks (mb := mb) (vb := mb + 1) (N := N) (B := B) (n := t.len) (m := u.len) (mem := fun x y => decide ((x, y) ∈ r)) (by omega) (by omega) (by omega) (by omega))
  have HBB := hid hB
  clear hb2 hmi hB hmb hsz
  go_wp2_with fail
  go_loopw [10, 24] (fun z i wr => ∃ (k : Nat) (v : Value), k ≤ N ∧ v = z ∧ i = .int .i64 k ∧ wr.ownsRow B 38 2 v (keptL r (relAt RB f t u r) k).length (flatP (keptL r (relAt RB f t u r) k)) ∧ Below w2.heap.size w2 wr) (fun _ i _ => N - (intOf i).toNat)
  case atStart => exact ⟨0, _, Nat.zero_le _, rfl, rfl, World.ownsRow_nil _ _ _ _, Below.refl _ _⟩
  case round =>
   obtain ⟨k, v, hk, rfl, rfl, hown, hb0⟩ := hrel
   have HB0 := hid hb0
   have hb : Below W.heap.size W wr := HB2.out.trans (hb0.mono HB2.out.size)
   have hmi := HAS.out.same _ _ HMI.out (hb0.mono (by rw [← HBB.out]; exact Nat.le_refl _))
   have HO := hid hown
   have HB := hid hb
   have HMI2 := hid hmi
   by_cases hlt : k < N
   ·obtain ⟨p, hp⟩ : ∃ p, r[k]? = some p := ⟨r[k]'(by have := HN.out; omega), List.getElem?_eq_getElem _⟩
    obtain ⟨pb, po, rfl, _, e0, e1⟩ := (HP.out.below hb).get hp
    have hpin := HIN.out p (List.mem_of_getElem? hp)
    obtain ⟨p1, p2⟩ := p
    simp only at e0 e1 hpin
    obtain ⟨x, rfl⟩ : ∃ x : Nat, p1 = (x : Int) := ⟨p1.toNat, by omega⟩
    obtain ⟨y, rfl⟩ : ∃ y : Nat, p2 = (y : Int) := ⟨p2.toNat, by omega⟩
    have hx : x < t.len := by omega
    have hy : y < u.len := by omega
    have hRK := hid (show relAt RB f t u r k = RB f (t.el x) (u.el y) by unfold relAt; rw [List.getD_eq_getElem?_getD, hp]; simp)
    obtain ⟨X, hX⟩ : ∃ X : World, X = wr.alloc (.cells #[.int .i64 (x : Int), .int .i64 (y : Int)] 38) := ⟨_, rfl⟩
    obtain ⟨xb, hxb⟩ : ∃ xb, xb = wr.heap.size := ⟨_, rfl⟩
    have hXb : X.heap[xb]? = some (.cells #[.int .i64 (x : Int), .int .i64 (y : Int)] 38 (0, 0)) := by rw [hX, hxb]; exact heap_new _ _
    have HXB := hid hXb
    have hwX : Below W.heap.size W X := by rw [hX]; exact hb.alloc hb.size _
    have HWX := hid hwX
    have HX2 := hid (show Below w2.heap.size w2 X by rw [hX]; exact hb0.alloc hb0.size _)
    have HXO := hid (show X.ownsRow B 38 2 v (keptL r (relAt RB f t u r) k).length (flatP (keptL r (relAt RB f t u r) k)) by rw [hX]; exact hown.alloc _)
    have HXM := hid (show MemI mb (mb + 1) N B (fun x y => decide ((x, y) ∈ r)) X by rw [hX]; exact HAS.out.same _ _ hmi ((ba _ _).mono hmi.2.2))
    obtain ⟨ub, uo, ua, uc, uw, ud, rfl, _, u0, u1, u2, hus, hui⟩ := (HV.out.below hwX).el hx
    obtain ⟨vb, vo, va, vc, vw, vd, rfl, _, v0, v1, v2, hvs, hvi⟩ := (HV2.out.below hwX).el hy
    obtain ⟨⟨n1, t1, w1'⟩, ht1⟩ : ∃ z, z = t.el x := ⟨_, rfl⟩
    obtain ⟨⟨n2, t2, w2'⟩, ht2⟩ : ∃ z, z = u.el y := ⟨_, rfl⟩
    rw [← ht1] at u0 u1 u2 hus hui hRK
    rw [← ht2] at v0 v1 v2 hvs hvi hRK
    have hk1 := HOK.out.1 x hx
    have hk2 := HOK.out.2 y hy
    rw [← ht1] at hk1
    rw [← ht2] at hk2
    simp only at u0 u1 u2 hus hui v0 v1 v2 hvs hvi hk1 hk2
    obtain ⟨rb, hrb⟩ : ∃ rb, rb = RB f (n1, t1, w1') (n2, t2, w2') := ⟨_, rfl⟩
    have HCL := hid (fun z (hz : Kept (fun _ => False) X z) (hm : MemI mb (mb + 1) N B (fun x y => decide ((x, y) ∈ r)) z) => relOk_all t1 B (fun _ => False) _ t.len u.len _ _ _ RB S (fun _ => True) f n1 n2 t2 w1' w2' a ua va uw vw cap uc vc ud vd z HAS.out (fun f u v => hRB f u v) hm ((HS.out.below hwX).keptP hz (fun _ _ _ h => h)) ((hus.keptP hz (fun _ _ h => h)).mono (fun _ _ => trivial) (fun _ _ _ => rfl)) ((hui.keptP hz (fun _ _ h => h)).mono (fun _ _ => trivial) (fun _ _ _ => rfl)) ((hvs.keptP hz (fun _ _ h => h)).mono (fun _ _ => trivial) (fun _ _ _ => rfl)) ((hvi.keptP hz (fun _ _ h => h)).mono (fun _ _ => trivial) (fun _ _ _ => rfl)) (fun _ _ _ h => h) (fun _ _ h => h) HG.out hk1 hk2)
    rw [← hrb] at HCL hRK
    obtain ⟨⟨c0, c1, c2, c3⟩, d0, d1, d2, d3⟩ := HE.out _ hwX
    have x0 := (cells2 hXb).1
    have x1 := (cells2 hXb).2
    have HB3 := hid (fun (z : World) (h : MemI mb (mb + 1) N B (fun x y => decide ((x, y) ∈ r)) z ∧ Kept (fun _ => False) X z) => (show _ ∧ _ ∧ _ ∧ _ ∧ _ ∧ _ ∧ _ ∧ _ ∧ _ ∧ _ ∧ _ ∧ _ ∧ _ from ⟨h.2.cell id c0, h.2.cell id c1, h.2.cell id c2, h.2.cell id c3, h.2.cell id d3, h.2.cell id x0, h.2.cell id x1, h.2.cell id u0, h.2.cell id u1, h.2.cell id u2, h.2.cell id v0, h.2.cell id v1, h.2.cell id v2⟩))
    have hkl := keptL_len r (relAt RB f t u r) k
    have HPK := hid hp
    have hxi : (x : Int) < (t.len : Int) := by omega
    have hyi : (y : Int) < (u.len : Int) := by omega
    clear hown hb hb0 hmi hXb hwX hp hpin ht1 ht2 hrb hus hui hvs hvi hk1 hk2 c0 c1 c2 c3 d0 d1 d2 d3 u0 u1 u2 v0 v1 v2 x0 x1
    go_wp2_with fail
    rw [← hX, ← hxb]
    clear hX hxb
    refine wp_region_plan (by rfl) (fun z : World => MemI mb (mb + 1) N B (fun x y => decide ((x, y) ∈ r)) z ∧ Kept (fun _ => False) X z)
     [some (.pointer (some ⟨bs, 0, none⟩)), some (F.val f a cap), some (.pointer (some ⟨bs, 3, none⟩)), some (.slice (some ⟨ub, uo, none⟩) t.len ncap), some (.pointer (some ⟨xb, 0, none⟩)), some (.int .i64 (x : Int)), some (.pointer (some ⟨ub, uo + x * 3, none⟩)), some (Vv n1 ua t1.len uc uw w1'.length ud),
      some (.pointer (some ⟨bs + 1, 3, none⟩)), some (.slice (some ⟨vb, vo, none⟩) u.len ncap2), some (.pointer (some ⟨xb, 1, none⟩)), some (.int .i64 (y : Int)), some (.pointer (some ⟨vb, vo + y * 3, none⟩)), some (Vv n2 va t2.len vc vw w2'.length vd),
      some (.func (.func 102) #[] #[.pointer (some ⟨mb + 1, 0, none⟩)]), some (.bool rb), some (.bool (!rb))] ?aF ?haF _ rfl (by kernel_rfl) ⟨HAS.out.same _ _ HXM.out (((Below.refl _ _).drew).mono HXM.out.2.2), (Kept.refl _ _).drew⟩ ?hall ?hend
    case haF => (simp only [layAll, Act.put, Option.getD_some, List.setIfInBounds_toArray, List.set_cons_zero, List.set_cons_succ]; rfl)
    case hall =>
     repeat (first | (refine Steps.cons (v := none) rfl ?_) | (refine Steps.cons ⟨rfl, fun K z hS hK => ?_⟩ ?_; rotate_left))
     ·exact Steps.nil
     all_goals
      obtain ⟨g0, g1, g2, g3, g4, g5, g6, g7, g8, g9, g10, g11, g12⟩ := HB3.out z hS
      first
      | (go_simp; exact hK _ hS)
      | (go_simp; refine callAt (args' := #[F.val f a cap, Vv n1 ua t1.len uc uw w1'.length ud, Vv n2 va t2.len vc vw w2'.length vd, .func (.func 102) #[] #[.pointer (some ⟨mb + 1, 0, none⟩)]]) rfl ?_; refine (HCL.out z hS.2 hS.1).mono ?_; rintro e z2 ⟨rfl, hI2, hk2⟩; exact hK _ ⟨hI2, hS.2.trans hk2⟩)
    case hend =>
     intro w4 hw4
     have HW4 := hid hw4
     have HB4 := hid (show Below X.heap.size X w4 from hw4.2.toBelow (Nat.le_refl _) (fun _ _ h => h))
     have HO4 := hid (row_below HXO.out HB4.out)
     have HB5 := hid (show Below W.heap.size W w4 from HWX.out.trans (HB4.out.mono HWX.out.size))
     obtain ⟨y0, y1⟩ := cells2 ((HB4.out.block _ (heap_lt HXB.out)).trans HXB.out)
     have HB7 := hid (show Below w2.heap.size w2 w4 from HX2.out.trans (HB4.out.mono HX2.out.size))
     have hbs4 : B ≤ w4.heap.size := by rw [HBB.out]; exact HB7.out.size
     clear hw4
     cases rb with
     | false =>
      have HKL := hid (show keptL r (relAt RB f t u r) (k + 1) = keptL r (relAt RB f t u r) k ++ [((x : Int), (y : Int))] by show keptL r (relAt RB f t u r) k ++ (if relAt RB f t u r k then [] else (r[k]?).toList) = _; rw [hRK.out, HPK.out]; rfl)
      go_wp2_with (at_builtin; refine wpList_append_own _ rfl _ _ 28 rfl B 38 i0 (.agg #[.int .i64 0, .int .i64 0]) 2 16 Tryz.underlying28 hi hz0 hz1 hz2 rfl (by decide) _ _ _ rfl (HO4.out.alloc _) ⟨w4.heap.size, 0, none⟩ 1 1 [.int .i64 (x : Int), .int .i64 (y : Int)] rfl rfl (cell_two_new _ _ _ _) (by intro z hz; simp at hz; rcases hz with rfl | rfl <;> rfl) (by unfold maxLen; omega) (by omega) (by simp; omega) ?_; intro v' w5 hown' hgrow _)
      have HO5 := hid hown'
      have HB6 := hid (show Below w2.heap.size w2 w5 from (HB7.out.alloc HB7.out.size _).grown hgrow (by rw [← HBB.out]; simp; omega) (fun j hj => by rw [← HBB.out]; exact (HO4.out.lt j hj).1))
      clear hown' hgrow
      go_wp2_with fail
      go_roundw
      case rel => exact ⟨k + 1, _, by omega, rfl, by go_num, by rw [HKL.out, flatP_snoc, List.length_append]; exact HO5.out, HB6.out⟩
      case measure => simp [intOf]; omega
     | true =>
      have HKL := hid (show keptL r (relAt RB f t u r) (k + 1) = keptL r (relAt RB f t u r) k by show keptL r (relAt RB f t u r) k ++ (if relAt RB f t u r k then [] else (r[k]?).toList) = _; rw [hRK.out]; simp)
      go_wp2_with fail
      go_roundw
      case rel => exact ⟨k + 1, _, by omega, rfl, by go_num, by rw [HKL.out]; exact HO4.out, HB7.out⟩
      case measure => simp [intOf]; omega
   ·obtain rfl : k = N := by omega
    clear hown hb hb0 hmi
    go_wp2_with fail
    go_ret2
    exact ⟨_, rfl, by rw [HL0.out]; exact row_base HO.out (by rw [HBB.out]; exact Nat.le_trans HWB.out.size HB2.out.size), HWB.out.trans (HB.out.mono HWB.out.size)⟩
end Go.Proofs.YtcekilcgpgjooaaGreatDoor
namespace Go.Proofs.YtcekilcgpgjooaaGreatDoor
open Go Go.RowKit

end Go.Proofs.YtcekilcgpgjooaaGreatDoor
namespace Go.Proofs.YtcekilcgpgjooaaGreatDoor
open Go Go.RowKit Go.Maps




end Go.Proofs.YtcekilcgpgjooaaGreatDoor
namespace Go.Proofs.YtcekilcgpgjooaaGreatDoor
open Go Go.RowKit
open Go.Lib (hid)
theorem is_sys_any (S S2 : Nat → Nat → Prop) (S' S2' S3 : Nat → Prop) (f g : F) (a na a2 na2 ar : Option Addr) (cap ncap cap2 ncap2 cr : Nat) (t u : V) (r : List (Int × Int)) (w : World) (hs : Sl S w a f.t) (hv : Vl S' w na t) (hs2 : Sl S2 w a2 g.t) (hv2 : Vl S2' w na2 u) (hk : Kinds w) (hr : Prs S3 w ar r) (hN : r.length ≤ 1000000)
    (RB : F → Int × V × List Int → Int × V × List Int → Bool) (hRB : ∀ f u v, RB f u v = true ↔ relV (tells (fun x y => decide (((x : Int), (y : Int)) ∈ r))) f u v) :
    Calls Tryz.prog 36 #[Sv f a cap na t.len ncap, Sv g a2 cap2 na2 u.len ncap2, .slice ar r.length cr] w fun e w' => e = .returned (.tuple #[.bool (decide (relE' f t g u r = 0) && decide ((fltL RB f t g u r).length = 0)), .int .i64 (relE' f t g u r)]) ∧ Below w.heap.size w w' := by
 obtain ⟨W, hW⟩ : ∃ W : World, W = (w.alloc (Obj.cells #[.int .i64 f.k, .int .i64 f.n, .slice a f.t.len cap, .slice na t.len ncap] 27)).alloc (Obj.cells #[.int .i64 g.k, .int .i64 g.n, .slice a2 g.t.len cap2, .slice na2 u.len ncap2] 27) := ⟨_, rfl⟩
 have hWb : Below w.heap.size w W := by rw [hW]; exact ba2 _ _ _
 have k0 : W.heap[w.heap.size]? = some (Obj.cells #[.int .i64 f.k, .int .i64 f.n, .slice a f.t.len cap, .slice na t.len ncap] 27 (0, 0)) := by rw [hW]; exact heap_old2 _ _ _
 have k1 : W.heap[w.heap.size + 1]? = some (Obj.cells #[.int .i64 g.k, .int .i64 g.n, .slice a2 g.t.len cap2, .slice na2 u.len ncap2] 27 (0, 0)) := by rw [hW]; exact heap_new2 _ _ _
 obtain ⟨bs, hbs⟩ : ∃ bs, bs = w.heap.size := ⟨_, rfl⟩
 rw [← hbs] at k0 k1
 obtain ⟨c0, c1, c2, c3⟩ := cells4 k0
 obtain ⟨d0, d1, d2, d3⟩ := cells4 k1
 have HWB := hid hWb
 have HF := hid (flt_any S S2 S' S2' S3 f g a na a2 na2 ar cap ncap cap2 ncap2 cr t u r W (hs.below hWb) (hv.below hWb) (hs2.below hWb) (hv2.below hWb) (hk.below hWb) (hr.below hWb) hN RB hRB)
 obtain ⟨E, hE⟩ : ∃ E, E = relE' f t g u r := ⟨_, rfl⟩
 obtain ⟨L, hL⟩ : ∃ L, L = fltL RB f t g u r := ⟨_, rfl⟩
 rw [← hE, ← hL] at HF ⊢
 obtain ⟨N, hNN⟩ : ∃ N, N = r.length := ⟨_, rfl⟩
 rw [← hNN] at HF ⊢
 have hl1 := hv.1
 have hl2 := hv2.1
 obtain ⟨n, hn⟩ : ∃ n, n = L.length := ⟨_, rfl⟩
 rw [← hn] at HF ⊢
 clear hs hv hs2 hv2 hk hr k0 k1 hWb hE hL hNN hn
 go_enter Tryz.func36, Tryz.ntmps36
 go_wp2_with fail
 rw [← hW, ← hbs]
 clear hW hbs
 refine HF.out.mono ?_
 rintro e w1 ⟨v, rfl, hown, hb1⟩
 have HB1 := hid (HWB.out.trans (hb1.mono HWB.out.size))
 obtain ⟨al, cl, rfl⟩ : ∃ al cl, v = .slice al n cl := by
  rcases hown.2 with ⟨h, h2⟩ | ⟨g, c, cur, h, _⟩
  ·exact ⟨none, 0, by rw [h, h2]⟩
  ·exact ⟨_, _, h⟩
 clear hown hb1 c0 c1 c2 c3 d0 d1 d2 d3
 by_cases h0 : E = 0
 ·subst h0
  by_cases h1 : n = 0
  ·subst h1
   go_wp2_with fail
   go_ret2
   exact ⟨rfl, HB1.out⟩
  ·have h2 : ((n : Int) == 0) = false := by simp; omega
   have HN1 := hid h1
   clear h1
   go_wp2_with fail
   go_ret2
   exact ⟨by simp [HN1.out], HB1.out⟩
 ·have h2 : (E == 0) = false := by simpa using h0
  have HN1 := hid h0
  clear h0
  go_wp2_with fail
  go_ret2
  exact ⟨by simp [HN1.out], HB1.out⟩
end Go.Proofs.YtcekilcgpgjooaaGreatDoor
