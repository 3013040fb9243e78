/-
  Proved here: contracts of the walk to BisimOwn: the law's own walk; each under the conditions that its own statement names.
-/
import Derived.Test.YtfgpjfgejhahfaaGreatDoorG11
import Derived.Test.YtfgpjfgejhahfaaGreatDoorG24
import Derived.Test.YtfgpjfgejhahfaaGreatDoorG26
import Derived.Test.YtfgpjfgejhahfaaGreatDoorG27
import Derived.Test.YtfgpjfgejhahfaaGreatDoorG44
import Derived.Test.YtfgpjfgejhahfaaGreatDoorG47
import Derived.Test.YtfgpjfgejhahfaaGreatDoorG48
import Derived.Deep.DeepCutAuto
namespace Go.Proofs.YtfgpjfgejhahfaaGreatDoor
open Go Go.RowKit

/-- append of whatever length in a region that does not draw. -/
theorem wpList_append_any {P : Program} {w : World} {ops : Array Oper} {rest : List Oper} {o : Oper} {a : Act} {Q : Exit → Act → World → Prop} (hgd : o.guard = none) (s x : Operand) (t : TypeId)
    (ho : o.op = .call { callee := .builtin .append, args := #[s, x], argTypes := #[t, t] })
    (base : Nat) (e : TypeId) (i : TypeInfo) (z : Value) (size bytes : Nat) (ht : P.underlying t = some (.slice e)) (hi : P.info? e = some i) (hz : i.zero = some z)
    (hsize : i.size = size) (hby : i.bytes = bytes) (hzs : z.cells.size = size) (hsz : 0 < size)
    (v : Value) (n : Nat) (xs : List Value) (hs : a.eval s = v) (hown : w.ownsRow base e size v n xs)
    (src : Option Addr) (m c : Nat) (news : List Value) (hx : a.eval x = .slice src m c) (hl : news.length = m * size) (hnews : ∀ j u, news[j]? = some u → ∃ ad, src = some ad ∧ w.cell? (ad.add j) = some u) (h1 : ∀ u ∈ news, u.oneCell' = true)
    (h63 : n + m ≤ maxLen) (hbytes : (n + m) * bytes ≤ 140737488355328) (hbase : base ≤ w.heap.size)
    (h : ∀ v' w', w'.ownsRow base e size v' (n + m) (xs ++ news) → w.grownBy w' v.ownBlock → wpList P ops Q rest (a.put o.dst v') w') :
    wpList P ops Q (o :: rest) a w := by
  refine wpList_plain hgd fun K hK => ?_
  obtain ⟨v', w', hr, h2, h3, _⟩ := run_append_any (P := P) (w := w) t o.type e i z size bytes ht hi hz hsize hby hzs hsz base v n xs hown src m c news hl hnews h1 h63 hbytes hbase
  unfold Oper.wp execOp
  simp only [ho, resolve, invoke, builtin, Sem.run_bind, Sem.run_pure, Result.andThen_ok, List.map_toArray, List.map_cons, List.map_nil, hs, hx, hr]
  exact hK _ _ (h v' w' h2 h3)

/-- All pairs of an argument, as news for an append. -/
theorem prs_all {S : Nat → Prop} {w : World} {a : Option Addr} {r : List (Int × Int)} (h : Prs S w a r) : ∀ j u, (flatP r)[j]? = some u → ∃ ad, a = some ad ∧ w.cell? (ad.add j) = some u := by
  intro j u hj
  rcases h.2 with h2 | ⟨b, o, h2, _, _⟩
  · subst h2; simp [flatP] at hj
  · subst h2
    refine ⟨_, rfl, ?_⟩
    have h3 := prs_news h 0 r.length j u (by simpa using hj)
    rw [Addr.add_lit]
    simpa using h3

theorem sFew_light {f : F} {t : V} (h : sFew f t 200 = true) : f.t.nodes ≤ 100000 ∧ t.count ≤ 100000 ∧ t.light 1000 = true := by
  unfold sFew at h
  simp only [Bool.and_eq_true, decide_eq_true_eq] at h
  obtain ⟨-, h2, h3, h4⟩ := h
  refine ⟨?_, by omega, ?_⟩
  · have := lft_nodes f.t 200 (by omega)
    omega
  · have key : ∀ k : V, k.light 200 = true → k.light 1000 = true := by
      intro k
      induction k with
      | nil => intro _; rfl
      | cons n k ws r ihk ihr =>
        intro h
        simp only [V.light, Bool.and_eq_true, decide_eq_true_eq] at h ⊢
        exact ⟨⟨ihk h.1.1, by omega⟩, ihr h.2⟩
    clear h2 h4
    induction t with
    | nil => rfl
    | cons n k ws r _ ihr =>
      simp only [fewL, vFew, V.light, Bool.and_eq_true, decide_eq_true_eq] at h3 ⊢
      exact ⟨⟨key k h3.1.2.1, by omega⟩, ihr h3.2⟩

set_option maxRecDepth 100000 in
set_option maxHeartbeats 12800000 in
theorem own_law (S : Nat → Nat → Prop) (S' S2 : Nat → Prop) (f : F) (a na ar : Option Addr) (cap ncap cr : Nat) (t : V) (r : List (Int × Int)) (w : World) (hs : Sl S w a f.t) (_hc : f.t.len ≤ cap) (hv : Vl S' w na t) (hk : Kinds w) (hr : Prs S2 w ar r)
    (ha : ar = none ∧ r = [] ∨ ∃ b o, ar = some ⟨b, o, none⟩) (hwr : ∀ p ∈ r, (Lit.int .i64 p.1).wf = true ∧ (Lit.int .i64 p.2).wf = true) :
    Calls Tryz.prog 8 #[Sv f a cap na t.len ncap, .slice ar r.length cr] w fun e w' => e = .returned (.bool true) ∧ Below w.heap.size w w' := by
  obtain ⟨i0, hi, hz0, hz1, hz2⟩ := info_parts infoP
  obtain ⟨W, hW⟩ : ∃ W : World, W = w.alloc (Obj.cells #[.int .i64 f.k, .int .i64 f.n, .slice a f.t.len cap, .slice na t.len ncap] 42) := ⟨_, rfl⟩
  have hWb : Below w.heap.size w W := by rw [hW]; exact (Below.refl _ _).alloc (Nat.le_refl _) _
  obtain ⟨wb, hwb⟩ : ∃ wb, wb = w.heap.size := ⟨_, rfl⟩
  have k0 : W.heap[wb]? = some (Obj.cells #[.int .i64 f.k, .int .i64 f.n, .slice a f.t.len cap, .slice na t.len ncap] 42 (0, 0)) := by rw [hW, hwb]; exact heap_new _ _
  have HE := Lib.hid (fun x (hx : Below W.heap.size W x) => cells4 (show x.heap[wb]? = _ by rw [hx.block _ (heap_lt k0)]; exact k0))
  have HWB := Lib.hid hWb
  have HWS := Lib.hid (show W.heap.size = wb + 1 by rw [hW, hwb]; simp)
  have HFEW := Lib.hid (fun x (hx : Below W.heap.size W x) b ty hb => few1_any S S' f a na cap ncap b ty t x ((hs.below hWb).below hx) ((hv.below hWb).below hx) hb)
  have HAWK := Lib.hid (fun x (hx : Below W.heap.size W x) => awake_any x ((hk.below hWb).below hx))
  have HCOP := Lib.hid (fun (h : sFew f t 200 = true) x (hx : Below W.heap.size W x) => scopy_any S S' f a na cap ncap t x ((hs.below hWb).below hx) ((hv.below hWb).below hx) (sFew_light h).1 (sFew_light h).2.1 (sFew_light h).2.2)
  obtain ⟨RB, hRB⟩ := relAny_ex (fun x y => decide (((x : Int), (y : Int)) ∈ r))
  have HFLT := Lib.hid (fun (hN : r.length ≤ 1000000) x (hx : Below W.heap.size W x) => flt_any S S S' S' S2 f f a na a na ar cap ncap cap ncap cr t t r x ((hs.below hWb).below hx) ((hv.below hWb).below hx) ((hs.below hWb).below hx) ((hv.below hWb).below hx) ((hk.below hWb).below hx) ((hr.below hWb).below hx) hN RB hRB)
  have HISY := Lib.hid (fun (hN : r.length ≤ 1000000) x (hx : Below W.heap.size W x) => is_sys_any S S S' S' S2 f f a na a na ar cap ncap cap ncap cr t t r x ((hs.below hWb).below hx) ((hv.below hWb).below hx) ((hs.below hWb).below hx) ((hv.below hWb).below hx) ((hk.below hWb).below hx) ((hr.below hWb).below hx) hN RB hRB)
  have HWIT := Lib.hid (fun (hN : r.length ≤ 10000) x (hx : Below W.heap.size W x) => within_any S S S' S' S2 f f a na a na ar cap ncap cap ncap cr t t r x ((hs.below hWb).below hx) ((hv.below hWb).below hx) ((hs.below hWb).below hx) ((hv.below hWb).below hx) ((hk.below hWb).below hx) ((hr.below hWb).below hx) hN)
  have HLRG := Lib.hid (fun x (hx : Below W.heap.size W x) => largest_any S S S' S' f f a na a na cap ncap cap ncap t t x ((hs.below hWb).below hx) ((hv.below hWb).below hx) ((hs.below hWb).below hx) ((hv.below hWb).below hx) ((hk.below hWb).below hx))
  have HCMP := Lib.hid (fun (hN : r.length ≤ 500) x (hx : Below W.heap.size W x) => compA_any S2 S2 ar ar cr cr r r x ((hr.below hWb).below hx) ((hr.below hWb).below hx) ha ha hN hN hwr hwr)
  have HCLO := Lib.hid (fun (hN : r.length ≤ 1000000) x (hx : Below W.heap.size W x) => clo_any S S' S2 f a na ar cap ncap cr t r x ((hs.below hWb).below hx) ((hv.below hWb).below hx) ((hk.below hWb).below hx) ((hr.below hWb).below hx) hN)
  have HSS := Lib.hid (fun x (hx : Below W.heap.size W x) => And.intro ((hs.below hWb).below hx) ((hv.below hWb).below hx))
  have HPR := Lib.hid (fun x (hx : Below W.heap.size W x) => (hr.below hWb).below hx)
  have hlen := hv.1
  have hlr := hr.1
  obtain ⟨q0, hq0⟩ : ∃ q0 : Bool, q0 = (sFew f t 200 && decide (t.len ≤ 8)) := ⟨_, rfl⟩
  rw [← hq0] at HFEW
  have HQ0 := Lib.hid hq0
  clear hs hv hk hr ha hwr k0 hWb hq0 hRB
  obtain ⟨c0, c1, c2, c3⟩ := HE.out _ (Below.refl _ _)
  obtain ⟨N, hN⟩ : ∃ N, N = r.length := ⟨_, rfl⟩
  rw [← hN] at HFLT HISY HWIT HCMP HCLO hlr ⊢
  have HN := Lib.hid hN
  clear hN
  go_enter Tryz.func8, Tryz.ntmps8
  go_wp2_with fail
  rw [← hW, ← hwb]
  clear hW hwb
  have hnew : (W.alloc (Obj.cells #[.int .i64 f.k, .int .i64 f.n, .slice a f.t.len cap, .slice na t.len ncap] 42)).heap[wb + 1]? = some (Obj.cells #[.int .i64 f.k, .int .i64 f.n, .slice a f.t.len cap, .slice na t.len ncap] 42 (0, 0)) := by rw [← HWS.out]; exact heap_new _ _
  refine (HFEW.out _ ((Below.refl _ _).alloc (Nat.le_refl _) _) _ _ hnew).mono ?_
  rintro e w1 ⟨rfl, hb1⟩
  have HB1 := Lib.hid (((Below.refl _ _).alloc (Nat.le_refl _) _).trans (hb1.mono (by simp)) : Below W.heap.size W w1)
  clear c0 c1 c2 c3 hb1 hnew HFEW
  cases hq0 : q0 with
  | false =>
    subst hq0
    go_wp2_with fail
    refine (HAWK.out _ HB1.out).mono ?_
    rintro e w2 ⟨rfl, hb2⟩
    have HB2 := Lib.hid (HWB.out.trans ((HB1.out.trans (hb2.mono HB1.out.size)).mono HWB.out.size))
    clear hb2
    go_wp2_with fail
    go_ret
    exact ⟨rfl, HB2.out⟩
  | true =>
  have hfw : sFew f t 200 = true := by have h := HQ0.out; rw [hq0] at h; have h2 := h.symm; simp only [Bool.and_eq_true, decide_eq_true_eq] at h2; exact h2.1
  have HFW := Lib.hid hfw
  subst hq0
  by_cases hN3 : 300 < N
  · have hi3 : (300 : Int) < (N : Int) := by omega
    have hid : decide ((300 : Int) < (N : Int)) = true := decide_eq_true hi3
    clear hN3 hfw
    go_wp2_with fail
    refine (HAWK.out _ HB1.out).mono ?_
    rintro e w2 ⟨rfl, hb2⟩
    have HB2 := Lib.hid (HWB.out.trans ((HB1.out.trans (hb2.mono HB1.out.size)).mono HWB.out.size))
    clear hb2
    go_wp2_with fail
    go_ret
    exact ⟨rfl, HB2.out⟩
  have hiN : ¬ (300 : Int) < (N : Int) := by omega
  have hidN : decide ((300 : Int) < (N : Int)) = false := decide_eq_false hiN
  obtain ⟨c0, c1, c2, c3⟩ := HE.out _ HB1.out
  clear hN3 hfw
  go_wp2_with fail
  refine (HCOP.out HFW.out _ HB1.out).mono ?_
  rintro e w2 ⟨a3, fc3, na3, nc3, rfl, hs3, hc3, hv3, hb2⟩
  have HB2 := Lib.hid (HB1.out.trans (hb2.mono HB1.out.size))
  have HS2 := Lib.hid hs3
  have HV2 := Lib.hid hv3
  have HFL := Lib.hid (show (flatP r).length = N * 2 by rw [flatP_len, HN.out])
  have HPA := Lib.hid (prs_all (HPR.out _ HB2.out))
  have HP1 := Lib.hid (flatP_one r)
  clear hs3 hc3 hv3 hb2 c0 c1 c2 c3
  go_wp2_with (at_builtin; refine wpList_append_any rfl _ _ 29 rfl w2.heap.size 61 i0 (.agg #[.int .i64 0, .int .i64 0]) 2 16 Tryz.underlying29 hi hz0 hz1 hz2 rfl (by decide) (.slice none 0 0) 0 [] rfl (World.ownsRow_nil _ _ _ _) ar N cr (flatP r) rfl HFL.out HPA.out HP1.out (by unfold maxLen; omega) (by omega) (Nat.le_refl _) ?_; intro v3 w3 hown3 hgr3; have hb3 : Below w2.heap.size w2 w3 := ⟨hgr3.os, hgr3.tape, hgr3.output, hgr3.size, fun k hk => hgr3.block k hk (by simp [Value.ownBlock])⟩; have HB3 := Lib.hid (HB2.out.trans (hb3.mono HB2.out.size)); have HOW3 := Lib.hid hown3; have HBB3 := Lib.hid hb3; obtain ⟨c0, c1, c2, c3⟩ := HE.out (w3.alloc (Obj.cells #[.int .i64 f.k, .int .i64 f.n, .slice a3 f.t.len fc3, .slice na3 t.len nc3] 42)) (HB3.out.alloc HB3.out.size _); clear hown3 hgr3 hb3)
  have hown3 := HOW3.out
  have hb3 := HBB3.out
  obtain ⟨a4, c4, rfl, _, hp4⟩ : ∃ a4 c4, v3 = .slice a4 r.length c4 ∧ (a4 = none ∨ ∃ g, a4 = some ⟨g, 0, none⟩) ∧ Prs (fun b => w2.heap.size ≤ b) w3 a4 r := row_prs (n := 0 + N) (by simpa using hown3) (by omega)
  rw [← HN.out]
  clear c0 c1 c2 c3
  obtain ⟨Y, hY⟩ : ∃ Y : World, Y = w3.alloc (Obj.cells #[.int .i64 f.k, .int .i64 f.n, .slice a3 f.t.len fc3, .slice na3 t.len nc3] 42) := ⟨_, rfl⟩
  obtain ⟨yb, hyb⟩ : ∃ yb, yb = w3.heap.size := ⟨_, rfl⟩
  have hYk : Y.heap[yb]? = some (Obj.cells #[.int .i64 f.k, .int .i64 f.n, .slice a3 f.t.len fc3, .slice na3 t.len nc3] 42 (0, 0)) := by rw [hY, hyb]; exact heap_new _ _
  have h3Y : Below w3.heap.size w3 Y := by rw [hY]; exact (Below.refl _ _).alloc (Nat.le_refl _) _
  have HY4 := Lib.hid (Below.refl Y.heap.size Y)
  have HWY := Lib.hid (HB3.out.trans (h3Y.mono HB3.out.size))
  have HEY := Lib.hid (fun x (hx : Below Y.heap.size Y x) => cells4 (show x.heap[yb]? = _ by rw [hx.block _ (heap_lt hYk)]; exact hYk))
  have HSY := Lib.hid (fun x (hx : Below Y.heap.size Y x) => And.intro (((HS2.out.below hb3).below h3Y).below hx) (((HV2.out.below hb3).below h3Y).below hx))
  have HPY := Lib.hid (fun x (hx : Below Y.heap.size Y x) => (hp4.below h3Y).below hx)
  have HW4 := Lib.hid (fun x (hx : Below Y.heap.size Y x) => HWY.out.trans (hx.mono HWY.out.size))
  obtain ⟨w4, hw4⟩ : ∃ w4 : World, w4 = Y := ⟨_, rfl⟩
  have HB4 := Lib.hid (show Below Y.heap.size Y w4 by rw [hw4]; exact Below.refl _ _)
  clear hown3 hb3 hp4 hYk h3Y HY4
  obtain ⟨c0, c1, c2, c3⟩ := HE.out _ (HW4.out _ HB4.out)
  rw [← hY, ← hyb, ← hw4]
  clear hY hyb hw4
  refine (HFLT.out (by omega) _ (HW4.out _ HB4.out)).mono ?_
  rintro e x4 ⟨v, rfl, hown, hb⟩
  have HR4 := Lib.hid hown
  have HX4 := Lib.hid (show Below w4.heap.size w4 x4 from hb)
  clear hown hb c0 c1 c2 c3
  go_wp2_with fail
  refine (change_any w4.heap.size _ v _ x4 HR4.out).mono ?_
  rintro e w5 ⟨rfl, hk⟩
  have HB5 := Lib.hid (show Below Y.heap.size Y w5 from HB4.out.trans ((HX4.out.trans (hk.toBelow HX4.out.size (fun b hb h => by omega))).mono HB4.out.size))
  clear hk
  obtain ⟨c0, c1, c2, c3⟩ := HE.out _ (HW4.out _ HB5.out)
  go_wp2_with fail
  refine (HWIT.out (by omega) _ (HW4.out _ HB5.out)).mono ?_
  rintro e x5 ⟨v, rfl, hown, hb⟩
  have HR5 := Lib.hid hown
  have HX5 := Lib.hid (show Below w5.heap.size w5 x5 from hb)
  clear hown hb c0 c1 c2 c3
  go_wp2_with fail
  obtain ⟨L5, hLr⟩ := HR5.out
  refine (change_any w5.heap.size _ v _ x5 hLr).mono ?_
  rintro e w6 ⟨rfl, hk⟩
  have HB6 := Lib.hid (show Below Y.heap.size Y w6 from HB5.out.trans ((HX5.out.trans (hk.toBelow HX5.out.size (fun b hb h => by omega))).mono HB5.out.size))
  clear hk hLr
  obtain ⟨c0, c1, c2, c3⟩ := HE.out _ (HW4.out _ HB6.out)
  go_wp2_with fail
  refine (HLRG.out _ (HW4.out _ HB6.out)).mono ?_
  rintro e x6 ⟨v, rfl, hown, hb⟩
  have HR6 := Lib.hid hown
  have HX6 := Lib.hid (show Below w6.heap.size w6 x6 from hb)
  clear hown hb c0 c1 c2 c3
  go_wp2_with fail
  obtain ⟨L6, hLr⟩ := HR6.out
  refine (change_any w6.heap.size _ v _ x6 hLr).mono ?_
  rintro e w7 ⟨rfl, hk⟩
  have HB7 := Lib.hid (show Below Y.heap.size Y w7 from HB6.out.trans ((HX6.out.trans (hk.toBelow HX6.out.size (fun b hb h => by omega))).mono HB6.out.size))
  clear hk hLr
  obtain ⟨c0, c1, c2, c3⟩ := HE.out _ (HW4.out _ HB7.out)
  go_wp2_with fail
  refine (HCMP.out (by omega) _ (HW4.out _ HB7.out)).mono ?_
  rintro e x7 ⟨v, L7, rfl, _, _, hown, hb⟩
  have HR7 := Lib.hid hown
  have HX7 := Lib.hid (show Below w7.heap.size w7 x7 from hb)
  clear hown hb c0 c1 c2 c3
  go_wp2_with fail
  refine (change_any w7.heap.size _ v _ x7 HR7.out).mono ?_
  rintro e w8 ⟨rfl, hk⟩
  have HB8 := Lib.hid (show Below Y.heap.size Y w8 from HB7.out.trans ((HX7.out.trans (hk.toBelow HX7.out.size (fun b hb h => by omega))).mono HB7.out.size))
  clear hk
  obtain ⟨c0, c1, c2, c3⟩ := HE.out _ (HW4.out _ HB8.out)
  go_wp2_with fail
  refine (HCLO.out (by omega) _ (HW4.out _ HB8.out)).mono ?_
  rintro e x8 ⟨al, cl, rfl, hints, hb, hrow⟩
  obtain ⟨n1, hn1⟩ : ∃ n1, n1 = (cloL f t r).length := ⟨_, rfl⟩
  rw [← hn1] at hrow ⊢
  have hnl : n1 ≤ 9223372036854775807 := by rw [hn1]; exact hints.1
  have HBS := Lib.hid (show ∀ b, al = some ⟨b, 0, none⟩ → 0 < n1 → w8.heap.size ≤ b from fun b e h => by
    rcases hints.2 with h2 | ⟨b', o', he, hS, _⟩
    · rw [hn1, h2] at h; simp at h
    · rw [e] at he
      cases he
      exact hS)
  have HRW := Lib.hid hrow
  have HX8 := Lib.hid (show Below w8.heap.size w8 x8 from hb)
  clear hints hb hrow hn1 c0 c1 c2 c3
  go_wp2_with fail
  go_loopw [64] (fun i wr => ∃ k : Nat, k ≤ n1 ∧ i = .int .i64 k ∧ RowW wr al n1 ∧ Kept (fun b => w8.heap.size ≤ b) x8 wr) (fun i _ => n1 - (intOf i).toNat)
  case atStart => exact ⟨0, Nat.zero_le _, rfl, HRW.out, Kept.refl _ _⟩
  case round =>
    obtain ⟨k, hk, rfl, hrow, hkp⟩ := hrel
    have HK := Lib.hid hkp
    have HRO := Lib.hid hrow
    clear hkp
    by_cases hlt : k < n1
    · obtain ⟨b, cur, rfl, hcur, hsz⟩ : ∃ b cur, al = some ⟨b, 0, none⟩ ∧ wr.heap[b]? = some (.cells cur 3 (0, 0)) ∧ n1 ≤ cur.size := by
        rcases hrow with h | h
        · omega
        · exact h
      have hkc : k < cur.size := by omega
      obtain ⟨z, hz⟩ : ∃ z, wr.cell? ⟨b, k, none⟩ = some z := ⟨cur[k], by simp [World.cell?, hcur, hkc]⟩
      have hf : wr.frozen? ⟨b, k, none⟩ = false := by simp [World.frozen?, hcur]
      have HCU := Lib.hid hcur
      have hbb := HBS.out b rfl (by omega)
      clear hcur hrow
      go_wp2_with fail
      go_roundw
      case rel => exact ⟨k + 1, by omega, by go_num, Or.inr ⟨b, _, rfl, heap_setCell_same wr b k cur _ _ HCU.out, by simpa using hsz⟩, HK.out.set (p := ⟨b, k, none⟩) (Or.inl hbb) _⟩
      case measure => simp [intOf]; omega
    · obtain rfl : k = n1 := by omega
      clear hrow
      have HB9 := Lib.hid (show Below Y.heap.size Y wr from HB8.out.trans ((HX8.out.trans (HK.out.toBelow HX8.out.size (fun b hb h => by omega))).mono HB8.out.size))
      obtain ⟨c0, c1, c2, c3⟩ := HE.out _ (HW4.out _ HB9.out)
      go_wp2_with fail
      refine (HISY.out (by omega) _ (HW4.out _ HB9.out)).mono ?_
      rintro e w10 ⟨rfl, hb10⟩
      have HB10 := Lib.hid (HB9.out.trans (hb10.mono HB9.out.size))
      obtain ⟨y0, y1, y2, y3⟩ := HEY.out _ HB10.out
      have HSM := Lib.hid (show Calls Tryz.prog 42 #[Sv f a3 fc3 na3 t.len nc3, Sv f a cap na t.len ncap] w10 (fun e w' => e = .returned (.bool true) ∧ Below w10.heap.size w10 w') from
        (syssame_any (fun b _ => w1.heap.size ≤ b) S (fun b => w1.heap.size ≤ b) S' f f a3 na3 a na fc3 nc3 cap ncap t t w10 (HSY.out _ HB10.out).1 (HSY.out _ HB10.out).2 (HSS.out _ (HW4.out _ HB10.out)).1 (HSS.out _ (HW4.out _ HB10.out)).2).mono (fun e x h => ⟨h.1.trans (by simp), h.2⟩))
      clear hb10 c0 c1 c2 c3
      obtain ⟨c0, c1, c2, c3⟩ := HE.out _ (HW4.out _ HB10.out)
      go_wp2_with fail
      refine HSM.out.mono ?_
      rintro e w11 ⟨rfl, hb11⟩
      have HB11 := Lib.hid (HB10.out.trans (hb11.mono HB10.out.size))
      have HSP := Lib.hid (show Calls Tryz.prog 26 #[.slice a4 N c4, .slice ar N cr] w11 (fun e w' => e = .returned (.bool true) ∧ Below w11.heap.size w11 w') from by
        have h := sameP_any (fun b => w2.heap.size ≤ b) S2 a4 ar c4 cr r r w11 (HPY.out _ HB11.out) (HPR.out _ (HW4.out _ HB11.out))
        rw [← HN.out] at h
        exact h.mono (fun e x h => ⟨h.1.trans (by simp), h.2⟩))
      clear hb11 c0 c1 c2 c3 y0 y1 y2 y3
      go_wp2_with fail
      refine HSP.out.mono ?_
      rintro e w12 ⟨rfl, hb12⟩
      have HB12 := Lib.hid (HB11.out.trans (hb12.mono HB11.out.size))
      clear hb12
      go_wp2_with fail
      refine (HAWK.out _ (HW4.out _ HB12.out)).mono ?_
      rintro e w13 ⟨rfl, hb13⟩
      have HB13 := Lib.hid (HWB.out.trans (((HW4.out _ HB12.out).trans (hb13.mono (HW4.out _ HB12.out).size)).mono HWB.out.size))
      clear hb13
      go_wp2_with fail
      go_ret
      exact ⟨rfl, HB13.out⟩
end Go.Proofs.YtfgpjfgejhahfaaGreatDoor
