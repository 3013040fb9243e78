/-
  Proved here: contracts of the walk to BisimRelated: the reference's Insert and Compose; each under the conditions that its own statement names.
-/
import Derived.Test.YtfgpjfgejhahfaaGreatDoorG09
import Derived.Test.YtfgpjfgejhahfaaGreatDoorG10
namespace Go.Proofs.YtfgpjfgejhahfaaGreatDoor
open Go Go.RowKit

/-- What Insert leaves. -/
def InsP (w : World) (S : Nat → Prop) (r : List (Int × Int)) (p : Int × Int) (e : Ending) (w' : World) : Prop :=
  ∃ al L cl, e = .returned (.slice al L.length cl) ∧ L.Pairwise ltP' ∧ (∀ q, q ∈ L ↔ q = p ∨ q ∈ r) ∧ L.length ≤ r.length + 1 ∧ L.length ≤ cl ∧ (al = none ∧ L = [] ∧ cl = 0 ∨ ∃ b o, al = some ⟨b, o, none⟩) ∧ Prs (fun b => S b ∨ w.heap.size ≤ b) w' al L ∧ Below w.heap.size w w'
theorem ltP'_irr (p : Int × Int) : ¬ ltP' p p := by unfold ltP'; omega
theorem ltP'_tri {p q : Int × Int} (h : ¬ ltP' p q) (hne : p ≠ q) : ltP' q p := by
  obtain ⟨a, b⟩ := p
  obtain ⟨c, d⟩ := q
  unfold ltP' at *
  simp only at *
  have : ¬ (a = c ∧ b = d) := fun h => hne (by rw [h.1, h.2])
  omega
/-- A pair put in its place. -/
theorem ins_sorted {r : List (Int × Int)} {p : Int × Int} {k : Nat} (hs : r.Pairwise ltP') (h1 : ∀ q ∈ r.take k, ltP' q p) (h2 : ∀ q, r[k]? = some q → ltP' p q) : (r.take k ++ p :: r.drop k).Pairwise ltP' ∧ ∀ q, q ∈ r.take k ++ p :: r.drop k ↔ q = p ∨ q ∈ r := by
  have hsp : (r.take k ++ r.drop k).Pairwise ltP' := by rw [List.take_append_drop]; exact hs
  rw [List.pairwise_append] at hsp
  have h3 : ∀ q ∈ r.drop k, ltP' p q := by
    intro q hq
    cases hk : r[k]? with
    | none =>
      rw [List.drop_eq_nil_of_le (List.getElem?_eq_none_iff.1 hk)] at hq
      simp at hq
    | some x =>
      have hkl : k < r.length := (List.getElem?_eq_some_iff.1 hk).1
      have hx := h2 x hk
      have hd : r.drop k = x :: r.drop (k + 1) := by
        rw [List.drop_eq_getElem_cons hkl]
        rw [List.getElem?_eq_getElem hkl] at hk
        injection hk with hk
        rw [hk]
      have hp2 := hsp.2.1
      rw [hd] at hq hp2
      rcases List.mem_cons.1 hq with rfl | hq
      · exact hx
      · exact ltP'_trans hx ((List.pairwise_cons.1 hp2).1 q hq)
  refine ⟨?_, fun q => ?_⟩
  · rw [List.pairwise_append]
    refine ⟨hsp.1, List.pairwise_cons.2 ⟨h3, hsp.2.1⟩, fun a ha b hb => ?_⟩
    rcases List.mem_cons.1 hb with rfl | hb
    · exact h1 a ha
    · exact hsp.2.2 a ha b hb
  · have : q ∈ r ↔ q ∈ r.take k ∨ q ∈ r.drop k := by rw [← List.mem_append, List.take_append_drop]
    rw [List.mem_append, List.mem_cons, this]
    constructor
    · rintro (h | h | h)
      · exact Or.inr (Or.inl h)
      · exact Or.inl h
      · exact Or.inr (Or.inr h)
    · rintro (h | h | h)
      · exact Or.inr (Or.inl h)
      · exact Or.inl h
      · exact Or.inr (Or.inr h)
theorem flatP_one (l : List (Int × Int)) : ∀ u ∈ flatP l, u.oneCell' = true := fun u hu => by
  obtain ⟨p, _, hp⟩ := List.mem_flatMap.1 hu
  simp only [encP, List.mem_cons, List.not_mem_nil, or_false] at hp
  rcases hp with rfl | rfl <;> rfl
/-- A part of a slice of pairs, as news for an append. -/
theorem prs_news {S : Nat → Prop} {w : World} {b o : Nat} {r : List (Int × Int)} (h : Prs S w (some ⟨b, o, none⟩) r) (d m : Nat) : ∀ j u, (flatP ((r.drop d).take m))[j]? = some u → w.cell? ⟨b, o + d * 2 + j, none⟩ = some u := fun j u hj => by
  have hlt : j < ((r.drop d).take m).length * 2 := by have := (List.getElem?_eq_some_iff.1 hj).1; rwa [flatP_len] at this
  obtain ⟨p, hp⟩ : ∃ p, ((r.drop d).take m)[j / 2]? = some p := ⟨_, List.getElem?_eq_getElem (by omega)⟩
  obtain ⟨g0, g1⟩ := flatP_get hp
  have hjm : j / 2 < m := by have := hlt; simp at this; omega
  rw [List.getElem?_take_of_lt hjm, List.getElem?_drop] at hp
  obtain ⟨b', o', e, _, c0, c1⟩ := h.get hp
  cases e
  rcases (show j % 2 = 0 ∨ j % 2 = 1 by omega) with e | e
  · rw [show j / 2 * 2 = j by omega] at g0
    rw [g0] at hj; cases hj
    rw [show o + d * 2 + j = o + (d + j / 2) * 2 by omega]; exact c0
  · rw [show j / 2 * 2 + 1 = j by omega] at g1
    rw [g1] at hj; cases hj
    rw [show o + d * 2 + j = o + (d + j / 2) * 2 + 1 by omega]; exact c1
theorem Prs.orW {S S' : Nat → Prop} {w : World} {n : Nat} {a : Option Addr} {r : List (Int × Int)} (h : Prs S w a r) (hS : ∀ b, S b → S' b) : Prs S' (w.drewN n) a r := by
  refine ⟨h.1, ?_⟩
  rcases h.2 with h2 | ⟨b2, o2, h2, h3, h4⟩
  · exact Or.inl h2
  · exact Or.inr ⟨b2, o2, h2, hS _ h3, h4⟩
theorem box_news {Y w3 : World} {x y : Int} {b : Nat} {row : Option Nat} (hr : row = none) (hg : Y.grownBy w3 row) (h0 : Y.heap[b]? = some (.cells #[.int .i64 x, .int .i64 y] 61 (0, 0))) : ∀ j u, [Value.int .i64 x, .int .i64 y][j]? = some u → w3.cell? ((⟨b, 0, none⟩ : Addr).add j) = some u := by
  intro j u hj
  have h : w3.heap[b]? = some (.cells #[.int .i64 x, .int .i64 y] 61 (0, 0)) := (hg.block b (heap_lt h0) (by rw [hr]; simp)).trans h0
  match j, hj with
  | 0, hj => simp at hj; subst hj; exact (cells2 h).1
  | 1, hj => simp at hj; subst hj; exact (cells2 h).2
theorem insP_of {w W x : World} {S : Nat → Prop} {r : List (Int × Int)} {p1 p2 : Int} {k N m : Nat} {v : Value} {n3 : List Value} (hb : Below w.heap.size w W) (hk : k ≤ N) (hNN : N = r.length) (hN : N ≤ 900000) (hm : m = N - k) (h3 : n3 = flatP (r.drop k))
    (hs : r.Pairwise ltP') (h1 : ∀ q ∈ r.take k, ltP' q (p1, p2)) (h2 : ∀ q, r[k]? = some q → ltP' (p1, p2) q)
    (h : x.ownsRow W.heap.size 61 2 v (0 + k + 1 + m) ([] ++ flatP (r.take k) ++ [.int .i64 p1, .int .i64 p2] ++ n3)) (hx : Below W.heap.size W x) : InsP w S r (p1, p2) (.returned v) x := by
  obtain ⟨q1, q2⟩ := ins_sorted hs h1 h2
  have hl : (r.take k ++ (p1, p2) :: r.drop k).length = 0 + k + 1 + m := by simp; omega
  have hf : [] ++ flatP (r.take k) ++ [.int .i64 p1, .int .i64 p2] ++ n3 = flatP (r.take k ++ (p1, p2) :: r.drop k) := by
    rw [h3]
    simp [flatP, encP]
  rw [hf, ← hl] at h
  have hcap : ∃ g c, v = .slice (some ⟨g, 0, none⟩) (r.take k ++ (p1, p2) :: r.drop k).length c ∧ (r.take k ++ (p1, p2) :: r.drop k).length ≤ c := by
    rcases h.2 with ⟨h2, h3⟩ | ⟨g, cap, cur, h2, _, _, h4, _⟩
    · rw [hl] at h3; omega
    · exact ⟨g, cap, h2, h4⟩
  obtain ⟨g, c, rfl, hc⟩ := hcap
  obtain ⟨al, cl, e, _, hp⟩ := row_prs h (by rw [hl]; omega)
  simp only [Value.slice.injEq] at e
  obtain ⟨rfl, _, rfl⟩ := e
  refine ⟨_, _, _, rfl, q1, q2, by rw [hl]; omega, hc, Or.inr ⟨g, 0, rfl⟩, ?_, hb.trans (hx.mono hb.size)⟩
  refine ⟨hp.1, ?_⟩
  rcases hp.2 with h2 | ⟨b2, o2, h2, h3, h4⟩
  · exact Or.inl h2
  · exact Or.inr ⟨b2, o2, h2, Or.inr (Nat.le_trans hb.size h3), h4⟩
theorem flatP_app (l l' : List (Int × Int)) : flatP (l ++ l') = flatP l ++ flatP l' := by simp [flatP]

set_option maxRecDepth 100000 in
set_option maxHeartbeats 12800000 in
theorem insert_any (S : Nat → Prop) (a : Option Addr) (cap : Nat) (r : List (Int × Int)) (p : Int × Int) (w : World) (hr : Prs S w a r) (hcap : r.length ≤ cap) (ha : a = none ∧ r = [] ∧ cap = 0 ∨ ∃ b o, a = some ⟨b, o, none⟩) (hS : r.Pairwise ltP') (hN : r.length ≤ 900000) :
    Calls Tryz.prog 35 #[.slice a r.length cap, Pv p] w (InsP w S r p) := by
  obtain ⟨p1, p2⟩ := p
  obtain ⟨W, hW⟩ : ∃ W : World, W = w.alloc (.cells #[.int .i64 p1, .int .i64 p2] 61) := ⟨_, rfl⟩
  obtain ⟨pb, hpb⟩ : ∃ pb, pb = w.heap.size := ⟨_, rfl⟩
  have hWk : W.heap[pb]? = some (.cells #[.int .i64 p1, .int .i64 p2] 61 (0, 0)) := by rw [hW, hpb]; exact World.alloc_heap_new _ _
  have HWB := Lib.hid (show Below w.heap.size w W by rw [hW]; exact (Below.refl _ _).alloc (Nat.le_refl _) _)
  obtain ⟨x0, x1⟩ := cells2 hWk
  have HZ := Lib.hid (show _ ∧ _ from ⟨x0, x1⟩)
  obtain ⟨i0, hi, hz0, hz1, hz2⟩ := info_parts infoP
  have HI := Lib.hid (show _ ∧ _ ∧ _ ∧ _ from ⟨hi, hz0, hz1, hz2⟩)
  have HP := Lib.hid hr
  have HPW := Lib.hid (hr.below HWB.out)
  have HAA := Lib.hid ha
  have HSS := Lib.hid hS
  obtain ⟨N, hNN⟩ : ∃ N, N = r.length := ⟨_, rfl⟩
  rw [← hNN] at hcap hN ⊢
  have HNN := Lib.hid hNN
  clear hr ha hS hNN hWk hi hz0 hz1 hz2
  go_enter Tryz.func35, Tryz.ntmps35
  go_wp2_with fail
  rw [← hW, ← hpb]
  clear hW hpb
  go_loopw [5] (fun i wr => ∃ k : Nat, k ≤ N ∧ i = .int .i64 k ∧ (∀ q ∈ r.take k, ltP' q (p1, p2)) ∧ Below W.heap.size W wr) (fun i _ => N - (intOf i).toNat)
  case atStart => exact ⟨0, Nat.zero_le _, rfl, by simp, Below.refl _ _⟩
  case round =>
    obtain ⟨k, hk, rfl, hlo, hb⟩ := hrel
    have HLO := Lib.hid hlo
    have HB := Lib.hid hb
    replace x0 := cell_below hb HZ.out.1
    replace x1 := cell_below hb HZ.out.2
    clear hlo hb
    by_cases hlt : k < N
    · obtain ⟨q, hq⟩ : ∃ q, r[k]? = some q := ⟨r[k]'(by have := HNN.out; omega), List.getElem?_eq_getElem _⟩
      obtain ⟨b, o, rfl, hSb, c0, c1⟩ := (HPW.out.below HB.out).get hq
      have HTK := Lib.hid (show r.take (k + 1) = r.take k ++ [q] by rw [List.take_add_one, hq]; rfl)
      have HQ := Lib.hid hq
      obtain ⟨q1, q2⟩ := q
      simp only at c0 c1
      obtain ⟨cc, hcc⟩ : ∃ cc, cc = decide (ltP' (q1, q2) (p1, p2)) := ⟨_, rfl⟩
      have HCC := Lib.hid hcc
      have HCL := Lib.hid (fun x => (show Calls Tryz.prog 55 #[Pv (q1, q2), Pv (p1, p2)] x (fun e x' => e = .returned (.bool cc) ∧ Below x.heap.size x x') by rw [hcc]; exact less_any (q1, q2) (p1, p2) x))
      have hdk : decide ((k : Int) < (N : Int)) = true := decide_eq_true (by omega)
      have hdi : (k : Int) < (N : Int) := by omega
      clear hq hcc
      go_wp2_with fail
      go_region_held3 (fun x : World => x.cell? ⟨pb, 0, none⟩ = some (.int .i64 p1) ∧ x.cell? ⟨pb, 1, none⟩ = some (.int .i64 p2) ∧ x.cell? ⟨b, o + k * 2, none⟩ = some (.int .i64 q1) ∧ x.cell? ⟨b, o + k * 2 + 1, none⟩ = some (.int .i64 q2)) (first | exact ⟨x0, x1, c0, c1⟩ | fail) (first | (go_at_call 55; refine (HCL.out _).mono ?_; rintro e x ⟨rfl, hbq⟩; have HBQ := Lib.hid (show Below W.heap.size W x from (belowN (n := 1) HB.out).trans (hbq.mono (belowN (n := 1) HB.out).size)); replace x0 := cell_below hbq x0; replace x1 := cell_below hbq x1; replace c0 := cell_below hbq c0; replace c1 := cell_below hbq c1; clear hbq) | fail)
      cases hc : cc with
      | true =>
        have HNX := Lib.hid (show ∀ q ∈ r.take (k + 1), ltP' q (p1, p2) from fun q hq => by
          rw [HTK.out] at hq
          rcases List.mem_append.1 hq with hq | hq
          · exact HLO.out q hq
          · simp at hq
            subst hq
            have h := HCC.out
            rw [hc] at h
            exact of_decide_eq_true h.symm)
        subst hc
        go_wp2_with fail
        go_roundw
        case rel => exact ⟨k + 1, by omega, by go_num, HNX.out, HBQ.out⟩
        case measure => simp [intOf]; omega
      | false =>
        have HNL := Lib.hid (show ¬ ltP' (q1, q2) (p1, p2) by have h := HCC.out; rw [hc] at h; exact of_decide_eq_false h.symm)
        subst hc
        go_wp2_with fail
        by_cases hpq : (q1, q2) = (p1, p2)
        · have he := fun Wx => eqlP (q1, q2) (p1, p2) Wx
          rw [decide_eq_true hpq] at he
          simp only [Pv] at he
          have HPQ := Lib.hid hpq
          clear hpq
          go_quiet (fail)
          go_wp2_with fail
          go_ret
          have HBX := Lib.hid (fun n => belowN (n := n) (HWB.out.trans (HBQ.out.mono HWB.out.size)))
          refine ⟨some ⟨b, o, none⟩, r, cap, by rw [HNN.out]; rfl, HSS.out, fun z => ?_, by omega, by have := HNN.out; omega, Or.inr ⟨b, o, rfl⟩, ?_, HBX.out _⟩
          · constructor
            · exact Or.inr
            · rintro (h | h)
              · rw [h, ← HPQ.out]; exact List.mem_of_getElem? HQ.out
              · exact h
          · exact (HP.out.below (HWB.out.trans (HBQ.out.mono HWB.out.size))).orW (fun b h => Or.inl h)
        · have he := fun Wx => eqlP (q1, q2) (p1, p2) Wx
          rw [decide_eq_false hpq] at he
          simp only [Pv] at he
          have HPQ := Lib.hid hpq
          clear hpq
          go_quiet (fail)
          clear he
          go_wp2_with fail
          generalize hX0 : x.drewN _ = X0
          have HX0 := Lib.hid (show Below W.heap.size W X0 by rw [← hX0]; exact belowN HBQ.out)
          have HAB := Lib.hid (show Below W.heap.size W X0.drew ∧ Below W.heap.size W (X0.alloc (.cells #[.int .i64 p1, .int .i64 p2] 61)).drew ∧ (∀ n, Below W.heap.size W (X0.drewN n).drew) ∧ (∀ n, Below W.heap.size W ((X0.alloc (.cells #[.int .i64 p1, .int .i64 p2] 61)).drewN n).drew) from ⟨belowN (n := 1) HX0.out, belowN (n := 1) (HX0.out.alloc HX0.out.size _), fun n => belowN (n := 1) (belowN (n := n) HX0.out), fun n => belowN (n := 1) (belowN (n := n) (HX0.out.alloc HX0.out.size _))⟩)
          replace x0 := cell_below HX0.out HZ.out.1
          replace x1 := cell_below HX0.out HZ.out.2
          have HN1 := Lib.hid (fun (y : World) (hy : Below W.heap.size W y) (j : Nat) (u : Value) (hj : (flatP (r.take k))[j]? = some u) => (show ∃ ad, (some ⟨b, o, none⟩ : Option Addr) = some ad ∧ y.cell? (ad.add j) = some u from ⟨_, rfl, by rw [Addr.add_lit]; have h := prs_news (HPW.out.below hy) 0 k j u (by simpa using hj); simpa using h⟩))
          have HN3 := Lib.hid (fun (y : World) (hy : Below W.heap.size W y) (j : Nat) (u : Value) (hj : (flatP (r.drop k))[j]? = some u) => (show ∃ ad, (some ⟨b, o + k * 2, none⟩ : Option Addr) = some ad ∧ y.cell? (ad.add j) = some u from ⟨_, rfl, by rw [Addr.add_lit]; have e : (r.drop k).take (N - k) = r.drop k := List.take_of_length_le (by have := HNN.out; simp; omega); exact prs_news (HPW.out.below hy) k (N - k) j u (by rw [e]; exact hj)⟩))
          have HLL1 := Lib.hid (show (flatP (r.take k)).length = k * 2 by rw [flatP_len, List.length_take]; have := HNN.out; omega)
          have HLL3 := Lib.hid (show (flatP (r.drop k)).length = (N - k) * 2 by rw [flatP_len, List.length_drop]; have := HNN.out; omega)
          have HO1 := Lib.hid (flatP_one (r.take k))
          have HO2 := Lib.hid (show ∀ u ∈ [Value.int .i64 p1, .int .i64 p2], u.oneCell' = true by intro u hu; simp at hu; rcases hu with rfl | rfl <;> rfl)
          have HO3 := Lib.hid (flatP_one (r.drop k))
          have FIN := Lib.hid (fun (v : Value) (y : World) h (hy : Below W.heap.size W y) => (insP_of (S := S) (k := k) (N := N) (m := N - k) (v := v) (x := y) (n3 := flatP (r.drop k)) HWB.out hk HNN.out hN rfl rfl HSS.out HLO.out (fun q hq => by rw [HQ.out] at hq; cases hq; exact ltP'_tri HNL.out HPQ.out) h hy : InsP w S r (p1, p2) (.returned v) y))
          have hb0 : (0 : Int) ≤ (k : Int) := by omega
          have hb1 : (k : Int) ≤ (cap : Int) := by omega
          have hb2 : (k : Int) ≤ (N : Int) := by omega
          have hb3 : ¬ cap = k := by omega
          have hb4 : k ≤ cap := by omega
          clear hX0 c0 c1
          obtain ⟨hA, hB, hC, hD⟩ := HAB.out
          obtain ⟨z0, z1⟩ := HZ.out
          go_region_held3 (fun x : World => x.cell? ⟨pb, 0, none⟩ = some (.int .i64 p1) ∧ x.cell? ⟨pb, 1, none⟩ = some (.int .i64 p2)) (first | exact ⟨x0, x1⟩ | exact ⟨cellAl x0, cellAl x1⟩ | exact ⟨y0, y1⟩ | exact ⟨y2, y3⟩ | fail) (first | (refine step_append_any (w0 := W) (by rfl) _ _ 29 (by rfl) 61 i0 (.agg #[.int .i64 0, .int .i64 0]) 2 16 Tryz.underlying29 HI.out.1 HI.out.2.1 HI.out.2.2.1 HI.out.2.2.2 rfl (by omega) (.slice none 0 0) 0 [] (by rfl) (World.ownsRow_nil _ _ _ _) _ k _ (flatP (r.take k)) (by rfl) HLL1.out (HN1.out _ (by first | exact hA | exact hB | exact hC _ | exact hD _)) HO1.out (by unfold maxLen; omega) (by omega) (by first | exact hA | exact hB | exact hC _ | exact hD _) ?_; intro v3 w3 hown3 hb3 hgr3 _; replace x0 := cell_below hb3 z0; replace x1 := cell_below hb3 z1; have HX3 := Lib.hid hb3) | (refine step_append_any (w0 := W) (by rfl) _ _ 29 (by rfl) 61 i0 (.agg #[.int .i64 0, .int .i64 0]) 2 16 Tryz.underlying29 HI.out.1 HI.out.2.1 HI.out.2.2.1 HI.out.2.2.2 rfl (by omega) v3 (0 + k) ([] ++ flatP (r.take k)) (by rfl) hown3 _ 1 _ [.int .i64 p1, .int .i64 p2] (by rfl) rfl (fun j u hu => ⟨_, rfl, box_news rfl hgr3 (World.alloc_heap_new X0 _) j u hu⟩) HO2.out (by unfold maxLen; omega) (by omega) hb3 ?_; intro v4 w4 hown4 hb4 _ _; have y0 := cell_below hb4 z0; have y1 := cell_below hb4 z1; have HX4 := Lib.hid hb4) | (refine step_append_any (w0 := W) (by rfl) _ _ 29 (by rfl) 61 i0 (.agg #[.int .i64 0, .int .i64 0]) 2 16 Tryz.underlying29 HI.out.1 HI.out.2.1 HI.out.2.2.1 HI.out.2.2.2 rfl (by omega) v3 (0 + k) ([] ++ flatP (r.take k)) (by rfl) (hown3.alloc _) _ 1 _ [.int .i64 p1, .int .i64 p2] (by rfl) rfl (fun j u hu => ⟨_, rfl, two_new w3 p1 p2 _ j u hu⟩) HO2.out (by unfold maxLen; omega) (by omega) (hb3.alloc hb3.size _) ?_; intro v4 w4 hown4 hb4 _ _; have y0 := cell_below hb4 z0; have y1 := cell_below hb4 z1; have HX4 := Lib.hid hb4) | (refine step_append_any (w0 := W) (by rfl) _ _ 29 (by rfl) 61 i0 (.agg #[.int .i64 0, .int .i64 0]) 2 16 Tryz.underlying29 HI.out.1 HI.out.2.1 HI.out.2.2.1 HI.out.2.2.2 rfl (by omega) v4 (0 + k + 1) _ (by rfl) hown4 _ (N - k) _ (flatP (r.drop k)) (by rfl) HLL3.out (HN3.out _ hb4) HO3.out (by unfold maxLen; omega) (by omega) hb4 ?_; intro v5 w5 hown5 hb5 _ _; have y2 := cell_below hb5 z0; have y3 := cell_below hb5 z1; have HX5 := Lib.hid hb5; have HW5 := Lib.hid hown5; clear hown5 hb5) | fail)
          all_goals go_wp2_with fail
          all_goals go_ret
          all_goals exact FIN.out _ _ HW5.out HX5.out
    · obtain rfl : k = N := by omega
      rcases HAA.out with ⟨rfl, hr0, rfl⟩ | ⟨b, o, rfl⟩
      · have HR0 := Lib.hid hr0
        obtain rfl : k = 0 := by omega
        clear hr0
        go_wp2_with fail
        go_quiet (fail)
        go_wp2_with fail
        go_quiet (fail)
        go_wp2_with fail
        generalize hX0 : wr.drewN _ = X0
        have HX0 := Lib.hid (show Below W.heap.size W X0 by rw [← hX0]; exact belowN HB.out)
        have HAB := Lib.hid (show Below W.heap.size W X0.drew ∧ Below W.heap.size W (X0.alloc (.cells #[.int .i64 p1, .int .i64 p2] 61)).drew ∧ (∀ n, Below W.heap.size W (X0.drewN n).drew) ∧ (∀ n, Below W.heap.size W ((X0.alloc (.cells #[.int .i64 p1, .int .i64 p2] 61)).drewN n).drew) from ⟨belowN (n := 1) HX0.out, belowN (n := 1) (HX0.out.alloc HX0.out.size _), fun n => belowN (n := 1) (belowN (n := n) HX0.out), fun n => belowN (n := 1) (belowN (n := n) (HX0.out.alloc HX0.out.size _))⟩)
        replace x0 := cell_below HX0.out HZ.out.1
        replace x1 := cell_below HX0.out HZ.out.2
        have HN1 := Lib.hid (fun (y : World) (hy : Below W.heap.size W y) (j : Nat) (u : Value) (hj : (flatP (r.take 0))[j]? = some u) => (show ∃ ad, (none : Option Addr) = some ad ∧ y.cell? (ad.add j) = some u from absurd hj (by have e : r = [] := HR0.out; rw [e]; simp [flatP])))
        have HN3 := Lib.hid (fun (y : World) (hy : Below W.heap.size W y) (j : Nat) (u : Value) (hj : (flatP (r.drop 0))[j]? = some u) => (show ∃ ad, (none : Option Addr) = some ad ∧ y.cell? (ad.add j) = some u from absurd hj (by rw [List.drop_eq_nil_of_le (by have := HNN.out; omega)]; simp [flatP])))
        have HLL1 := Lib.hid (show (flatP (r.take 0)).length = 0 * 2 by rw [flatP_len, List.length_take]; have := HNN.out; omega)
        have HLL3 := Lib.hid (show (flatP (r.drop 0)).length = 0 * 2 by rw [flatP_len, List.length_drop]; have := HNN.out; omega)
        have HO1 := Lib.hid (flatP_one (r.take 0))
        have HO2 := Lib.hid (show ∀ u ∈ [Value.int .i64 p1, .int .i64 p2], u.oneCell' = true by intro u hu; simp at hu; rcases hu with rfl | rfl <;> rfl)
        have HO3 := Lib.hid (flatP_one (r.drop 0))
        have FIN := Lib.hid (fun (v : Value) (y : World) h (hy : Below W.heap.size W y) => (insP_of (S := S) (k := 0) (N := 0) (m := 0) (v := v) (x := y) (n3 := flatP (r.drop 0)) HWB.out (Nat.le_refl _) HNN.out (by omega) (by omega) rfl HSS.out HLO.out (fun q hq => by have := (List.getElem?_eq_some_iff.1 hq).1; have := HNN.out; omega) h hy : InsP w S r (p1, p2) (.returned v) y))
        clear hX0
        obtain ⟨hA, hB, hC, hD⟩ := HAB.out
        obtain ⟨z0, z1⟩ := HZ.out
        go_region_held3 (fun x : World => x.cell? ⟨pb, 0, none⟩ = some (.int .i64 p1) ∧ x.cell? ⟨pb, 1, none⟩ = some (.int .i64 p2)) (first | exact ⟨x0, x1⟩ | exact ⟨cellAl x0, cellAl x1⟩ | exact ⟨y0, y1⟩ | exact ⟨y2, y3⟩ | fail) (first | (refine step_append_any (w0 := W) (by rfl) _ _ 29 (by rfl) 61 i0 (.agg #[.int .i64 0, .int .i64 0]) 2 16 Tryz.underlying29 HI.out.1 HI.out.2.1 HI.out.2.2.1 HI.out.2.2.2 rfl (by omega) (.slice none 0 0) 0 [] (by rfl) (World.ownsRow_nil _ _ _ _) _ 0 _ (flatP (r.take 0)) (by rfl) HLL1.out (HN1.out _ (by first | exact hA | exact hB | exact hC _ | exact hD _)) HO1.out (by unfold maxLen; omega) (by omega) (by first | exact hA | exact hB | exact hC _ | exact hD _) ?_; intro v3 w3 hown3 hb3 hgr3 _; replace x0 := cell_below hb3 z0; replace x1 := cell_below hb3 z1; have HX3 := Lib.hid hb3) | (refine step_append_any (w0 := W) (by rfl) _ _ 29 (by rfl) 61 i0 (.agg #[.int .i64 0, .int .i64 0]) 2 16 Tryz.underlying29 HI.out.1 HI.out.2.1 HI.out.2.2.1 HI.out.2.2.2 rfl (by omega) v3 (0 + 0) ([] ++ flatP (r.take 0)) (by rfl) hown3 _ 1 _ [.int .i64 p1, .int .i64 p2] (by rfl) rfl (fun j u hu => ⟨_, rfl, box_news rfl hgr3 (World.alloc_heap_new X0 _) j u hu⟩) HO2.out (by unfold maxLen; omega) (by omega) hb3 ?_; intro v4 w4 hown4 hb4 _ _; have y0 := cell_below hb4 z0; have y1 := cell_below hb4 z1; have HX4 := Lib.hid hb4) | (refine step_append_any (w0 := W) (by rfl) _ _ 29 (by rfl) 61 i0 (.agg #[.int .i64 0, .int .i64 0]) 2 16 Tryz.underlying29 HI.out.1 HI.out.2.1 HI.out.2.2.1 HI.out.2.2.2 rfl (by omega) v3 (0 + 0) ([] ++ flatP (r.take 0)) (by rfl) (hown3.alloc _) _ 1 _ [.int .i64 p1, .int .i64 p2] (by rfl) rfl (fun j u hu => ⟨_, rfl, two_new w3 p1 p2 _ j u hu⟩) HO2.out (by unfold maxLen; omega) (by omega) (hb3.alloc hb3.size _) ?_; intro v4 w4 hown4 hb4 _ _; have y0 := cell_below hb4 z0; have y1 := cell_below hb4 z1; have HX4 := Lib.hid hb4) | (refine step_append_any (w0 := W) (by rfl) _ _ 29 (by rfl) 61 i0 (.agg #[.int .i64 0, .int .i64 0]) 2 16 Tryz.underlying29 HI.out.1 HI.out.2.1 HI.out.2.2.1 HI.out.2.2.2 rfl (by omega) v4 (0 + 0 + 1) _ (by rfl) hown4 _ 0 _ (flatP (r.drop 0)) (by rfl) HLL3.out (HN3.out _ hb4) HO3.out (by unfold maxLen; omega) (by omega) hb4 ?_; intro v5 w5 hown5 hb5 _ _; have y2 := cell_below hb5 z0; have y3 := cell_below hb5 z1; have HX5 := Lib.hid hb5; have HW5 := Lib.hid hown5; clear hown5 hb5) | fail)
        all_goals go_wp2_with fail
        all_goals go_ret
        all_goals exact FIN.out _ _ HW5.out HX5.out
      · by_cases hck : cap = k
        · subst hck
          go_wp2_with fail
          go_quiet (fail)
          go_wp2_with fail
          go_quiet (fail)
          go_wp2_with fail
          generalize hX0 : wr.drewN _ = X0
          have HX0 := Lib.hid (show Below W.heap.size W X0 by rw [← hX0]; exact belowN HB.out)
          have HAB := Lib.hid (show Below W.heap.size W X0.drew ∧ Below W.heap.size W (X0.alloc (.cells #[.int .i64 p1, .int .i64 p2] 61)).drew ∧ (∀ n, Below W.heap.size W (X0.drewN n).drew) ∧ (∀ n, Below W.heap.size W ((X0.alloc (.cells #[.int .i64 p1, .int .i64 p2] 61)).drewN n).drew) from ⟨belowN (n := 1) HX0.out, belowN (n := 1) (HX0.out.alloc HX0.out.size _), fun n => belowN (n := 1) (belowN (n := n) HX0.out), fun n => belowN (n := 1) (belowN (n := n) (HX0.out.alloc HX0.out.size _))⟩)
          replace x0 := cell_below HX0.out HZ.out.1
          replace x1 := cell_below HX0.out HZ.out.2
          have HN1 := Lib.hid (fun (y : World) (hy : Below W.heap.size W y) (j : Nat) (u : Value) (hj : (flatP (r.take cap))[j]? = some u) => (show ∃ ad, (some ⟨b, o, none⟩ : Option Addr) = some ad ∧ y.cell? (ad.add j) = some u from ⟨_, rfl, by rw [Addr.add_lit]; have h := prs_news (HPW.out.below hy) 0 cap j u (by simpa using hj); simpa using h⟩))
          have HN3 := Lib.hid (fun (y : World) (hy : Below W.heap.size W y) (j : Nat) (u : Value) (hj : (flatP (r.drop cap))[j]? = some u) => (show ∃ ad, (some ⟨b, o, none⟩ : Option Addr) = some ad ∧ y.cell? (ad.add j) = some u from absurd hj (by rw [List.drop_eq_nil_of_le (by have := HNN.out; omega)]; simp [flatP])))
          have HLL1 := Lib.hid (show (flatP (r.take cap)).length = cap * 2 by rw [flatP_len, List.length_take]; have := HNN.out; omega)
          have HLL3 := Lib.hid (show (flatP (r.drop cap)).length = 0 * 2 by rw [flatP_len, List.length_drop]; have := HNN.out; omega)
          have HO1 := Lib.hid (flatP_one (r.take cap))
          have HO2 := Lib.hid (show ∀ u ∈ [Value.int .i64 p1, .int .i64 p2], u.oneCell' = true by intro u hu; simp at hu; rcases hu with rfl | rfl <;> rfl)
          have HO3 := Lib.hid (flatP_one (r.drop cap))
          have FIN := Lib.hid (fun (v : Value) (y : World) h (hy : Below W.heap.size W y) => (insP_of (S := S) (k := cap) (N := cap) (m := 0) (v := v) (x := y) (n3 := flatP (r.drop cap)) HWB.out (Nat.le_refl _) HNN.out (by omega) (by omega) rfl HSS.out HLO.out (fun q hq => by have := (List.getElem?_eq_some_iff.1 hq).1; have := HNN.out; omega) h hy : InsP w S r (p1, p2) (.returned v) y))
          clear hX0
          obtain ⟨hA, hB, hC, hD⟩ := HAB.out
          obtain ⟨z0, z1⟩ := HZ.out
          go_region_held3 (fun x : World => x.cell? ⟨pb, 0, none⟩ = some (.int .i64 p1) ∧ x.cell? ⟨pb, 1, none⟩ = some (.int .i64 p2)) (first | exact ⟨x0, x1⟩ | exact ⟨cellAl x0, cellAl x1⟩ | exact ⟨y0, y1⟩ | exact ⟨y2, y3⟩ | fail) (first | (refine step_append_any (w0 := W) (by rfl) _ _ 29 (by rfl) 61 i0 (.agg #[.int .i64 0, .int .i64 0]) 2 16 Tryz.underlying29 HI.out.1 HI.out.2.1 HI.out.2.2.1 HI.out.2.2.2 rfl (by omega) (.slice none 0 0) 0 [] (by rfl) (World.ownsRow_nil _ _ _ _) _ cap _ (flatP (r.take cap)) (by rfl) HLL1.out (HN1.out _ (by first | exact hA | exact hB | exact hC _ | exact hD _)) HO1.out (by unfold maxLen; omega) (by omega) (by first | exact hA | exact hB | exact hC _ | exact hD _) ?_; intro v3 w3 hown3 hb3 hgr3 _; replace x0 := cell_below hb3 z0; replace x1 := cell_below hb3 z1; have HX3 := Lib.hid hb3) | (refine step_append_any (w0 := W) (by rfl) _ _ 29 (by rfl) 61 i0 (.agg #[.int .i64 0, .int .i64 0]) 2 16 Tryz.underlying29 HI.out.1 HI.out.2.1 HI.out.2.2.1 HI.out.2.2.2 rfl (by omega) v3 (0 + cap) ([] ++ flatP (r.take cap)) (by rfl) hown3 _ 1 _ [.int .i64 p1, .int .i64 p2] (by rfl) rfl (fun j u hu => ⟨_, rfl, box_news rfl hgr3 (World.alloc_heap_new X0 _) j u hu⟩) HO2.out (by unfold maxLen; omega) (by omega) hb3 ?_; intro v4 w4 hown4 hb4 _ _; have y0 := cell_below hb4 z0; have y1 := cell_below hb4 z1; have HX4 := Lib.hid hb4) | (refine step_append_any (w0 := W) (by rfl) _ _ 29 (by rfl) 61 i0 (.agg #[.int .i64 0, .int .i64 0]) 2 16 Tryz.underlying29 HI.out.1 HI.out.2.1 HI.out.2.2.1 HI.out.2.2.2 rfl (by omega) v3 (0 + cap) ([] ++ flatP (r.take cap)) (by rfl) (hown3.alloc _) _ 1 _ [.int .i64 p1, .int .i64 p2] (by rfl) rfl (fun j u hu => ⟨_, rfl, two_new w3 p1 p2 _ j u hu⟩) HO2.out (by unfold maxLen; omega) (by omega) (hb3.alloc hb3.size _) ?_; intro v4 w4 hown4 hb4 _ _; have y0 := cell_below hb4 z0; have y1 := cell_below hb4 z1; have HX4 := Lib.hid hb4) | (refine step_append_any (w0 := W) (by rfl) _ _ 29 (by rfl) 61 i0 (.agg #[.int .i64 0, .int .i64 0]) 2 16 Tryz.underlying29 HI.out.1 HI.out.2.1 HI.out.2.2.1 HI.out.2.2.2 rfl (by omega) v4 (0 + cap + 1) _ (by rfl) hown4 _ 0 _ (flatP (r.drop cap)) (by rfl) HLL3.out (HN3.out _ hb4) HO3.out (by unfold maxLen; omega) (by omega) hb4 ?_; intro v5 w5 hown5 hb5 _ _; have y2 := cell_below hb5 z0; have y3 := cell_below hb5 z1; have HX5 := Lib.hid hb5; have HW5 := Lib.hid hown5; clear hown5 hb5) | fail)
          all_goals go_wp2_with fail
          all_goals go_ret
          all_goals exact FIN.out _ _ HW5.out HX5.out
        · have hb3 : ¬ cap = k := hck
          have hb0 : (0 : Int) ≤ (k : Int) := by omega
          have hb1 : (k : Int) ≤ (cap : Int) := by omega
          have hb4 : k ≤ cap := by omega
          go_wp2_with fail
          go_quiet (fail)
          go_wp2_with fail
          go_quiet (fail)
          go_wp2_with fail
          generalize hX0 : wr.drewN _ = X0
          have HX0 := Lib.hid (show Below W.heap.size W X0 by rw [← hX0]; exact belowN HB.out)
          have HAB := Lib.hid (show Below W.heap.size W X0.drew ∧ Below W.heap.size W (X0.alloc (.cells #[.int .i64 p1, .int .i64 p2] 61)).drew ∧ (∀ n, Below W.heap.size W (X0.drewN n).drew) ∧ (∀ n, Below W.heap.size W ((X0.alloc (.cells #[.int .i64 p1, .int .i64 p2] 61)).drewN n).drew) from ⟨belowN (n := 1) HX0.out, belowN (n := 1) (HX0.out.alloc HX0.out.size _), fun n => belowN (n := 1) (belowN (n := n) HX0.out), fun n => belowN (n := 1) (belowN (n := n) (HX0.out.alloc HX0.out.size _))⟩)
          replace x0 := cell_below HX0.out HZ.out.1
          replace x1 := cell_below HX0.out HZ.out.2
          have HN1 := Lib.hid (fun (y : World) (hy : Below W.heap.size W y) (j : Nat) (u : Value) (hj : (flatP (r.take k))[j]? = some u) => (show ∃ ad, (some ⟨b, o, none⟩ : Option Addr) = some ad ∧ y.cell? (ad.add j) = some u from ⟨_, rfl, by rw [Addr.add_lit]; have h := prs_news (HPW.out.below hy) 0 k j u (by simpa using hj); simpa using h⟩))
          have HN3 := Lib.hid (fun (y : World) (hy : Below W.heap.size W y) (j : Nat) (u : Value) (hj : (flatP (r.drop k))[j]? = some u) => (show ∃ ad, (some ⟨b, o + k * 2, none⟩ : Option Addr) = some ad ∧ y.cell? (ad.add j) = some u from absurd hj (by rw [List.drop_eq_nil_of_le (by have := HNN.out; omega)]; simp [flatP])))
          have HLL1 := Lib.hid (show (flatP (r.take k)).length = k * 2 by rw [flatP_len, List.length_take]; have := HNN.out; omega)
          have HLL3 := Lib.hid (show (flatP (r.drop k)).length = 0 * 2 by rw [flatP_len, List.length_drop]; have := HNN.out; omega)
          have HO1 := Lib.hid (flatP_one (r.take k))
          have HO2 := Lib.hid (show ∀ u ∈ [Value.int .i64 p1, .int .i64 p2], u.oneCell' = true by intro u hu; simp at hu; rcases hu with rfl | rfl <;> rfl)
          have HO3 := Lib.hid (flatP_one (r.drop k))
          have FIN := Lib.hid (fun (v : Value) (y : World) h (hy : Below W.heap.size W y) => (insP_of (S := S) (k := k) (N := k) (m := 0) (v := v) (x := y) (n3 := flatP (r.drop k)) HWB.out (Nat.le_refl _) HNN.out (by omega) (by omega) rfl HSS.out HLO.out (fun q hq => by have := (List.getElem?_eq_some_iff.1 hq).1; have := HNN.out; omega) h hy : InsP w S r (p1, p2) (.returned v) y))
          clear hX0
          obtain ⟨hA, hB, hC, hD⟩ := HAB.out
          obtain ⟨z0, z1⟩ := HZ.out
          go_region_held3 (fun x : World => x.cell? ⟨pb, 0, none⟩ = some (.int .i64 p1) ∧ x.cell? ⟨pb, 1, none⟩ = some (.int .i64 p2)) (first | exact ⟨x0, x1⟩ | exact ⟨cellAl x0, cellAl x1⟩ | exact ⟨y0, y1⟩ | exact ⟨y2, y3⟩ | fail) (first | (refine step_append_any (w0 := W) (by rfl) _ _ 29 (by rfl) 61 i0 (.agg #[.int .i64 0, .int .i64 0]) 2 16 Tryz.underlying29 HI.out.1 HI.out.2.1 HI.out.2.2.1 HI.out.2.2.2 rfl (by omega) (.slice none 0 0) 0 [] (by rfl) (World.ownsRow_nil _ _ _ _) _ k _ (flatP (r.take k)) (by rfl) HLL1.out (HN1.out _ (by first | exact hA | exact hB | exact hC _ | exact hD _)) HO1.out (by unfold maxLen; omega) (by omega) (by first | exact hA | exact hB | exact hC _ | exact hD _) ?_; intro v3 w3 hown3 hb3 hgr3 _; replace x0 := cell_below hb3 z0; replace x1 := cell_below hb3 z1; have HX3 := Lib.hid hb3) | (refine step_append_any (w0 := W) (by rfl) _ _ 29 (by rfl) 61 i0 (.agg #[.int .i64 0, .int .i64 0]) 2 16 Tryz.underlying29 HI.out.1 HI.out.2.1 HI.out.2.2.1 HI.out.2.2.2 rfl (by omega) v3 (0 + k) ([] ++ flatP (r.take k)) (by rfl) hown3 _ 1 _ [.int .i64 p1, .int .i64 p2] (by rfl) rfl (fun j u hu => ⟨_, rfl, box_news rfl hgr3 (World.alloc_heap_new X0 _) j u hu⟩) HO2.out (by unfold maxLen; omega) (by omega) hb3 ?_; intro v4 w4 hown4 hb4 _ _; have y0 := cell_below hb4 z0; have y1 := cell_below hb4 z1; have HX4 := Lib.hid hb4) | (refine step_append_any (w0 := W) (by rfl) _ _ 29 (by rfl) 61 i0 (.agg #[.int .i64 0, .int .i64 0]) 2 16 Tryz.underlying29 HI.out.1 HI.out.2.1 HI.out.2.2.1 HI.out.2.2.2 rfl (by omega) v3 (0 + k) ([] ++ flatP (r.take k)) (by rfl) (hown3.alloc _) _ 1 _ [.int .i64 p1, .int .i64 p2] (by rfl) rfl (fun j u hu => ⟨_, rfl, two_new w3 p1 p2 _ j u hu⟩) HO2.out (by unfold maxLen; omega) (by omega) (hb3.alloc hb3.size _) ?_; intro v4 w4 hown4 hb4 _ _; have y0 := cell_below hb4 z0; have y1 := cell_below hb4 z1; have HX4 := Lib.hid hb4) | (refine step_append_any (w0 := W) (by rfl) _ _ 29 (by rfl) 61 i0 (.agg #[.int .i64 0, .int .i64 0]) 2 16 Tryz.underlying29 HI.out.1 HI.out.2.1 HI.out.2.2.1 HI.out.2.2.2 rfl (by omega) v4 (0 + k + 1) _ (by rfl) hown4 _ 0 _ (flatP (r.drop k)) (by rfl) HLL3.out (HN3.out _ hb4) HO3.out (by unfold maxLen; omega) (by omega) hb4 ?_; intro v5 w5 hown5 hb5 _ _; have y2 := cell_below hb5 z0; have y3 := cell_below hb5 z1; have HX5 := Lib.hid hb5; have HW5 := Lib.hid hown5; clear hown5 hb5) | fail)
          all_goals go_wp2_with fail
          all_goals go_ret
          all_goals exact FIN.out _ _ HW5.out HX5.out
end Go.Proofs.YtfgpjfgejhahfaaGreatDoor

namespace Go.Proofs.YtfgpjfgejhahfaaGreatDoor
open Go Go.RowKit

/-- What a pair gives with the pairs of a list. -/
def InC (p : Int × Int) (l : List (Int × Int)) (x : Int × Int) : Prop := ∃ o ∈ l, p.2 = o.1 ∧ x = (p.1, o.2)
/-- What the pairs of a list give with those of another one. -/
def OutC (l q : List (Int × Int)) (x : Int × Int) : Prop := ∃ p ∈ l, InC p q x
theorem InC.snoc {p o : Int × Int} {l : List (Int × Int)} {x : Int × Int} : InC p (l ++ [o]) x ↔ InC p l x ∨ p.2 = o.1 ∧ x = (p.1, o.2) := by
  unfold InC
  constructor
  · rintro ⟨z, hz, h1, h2⟩
    rcases List.mem_append.1 hz with hz | hz
    · exact Or.inl ⟨z, hz, h1, h2⟩
    · simp at hz; subst hz; exact Or.inr ⟨h1, h2⟩
  · rintro (⟨z, hz, h1, h2⟩ | ⟨h1, h2⟩)
    · exact ⟨z, List.mem_append_left _ hz, h1, h2⟩
    · exact ⟨o, by simp, h1, h2⟩
theorem OutC.snoc {p : Int × Int} {l q : List (Int × Int)} {x : Int × Int} : OutC (l ++ [p]) q x ↔ OutC l q x ∨ InC p q x := by
  unfold OutC
  constructor
  · rintro ⟨z, hz, h⟩
    rcases List.mem_append.1 hz with hz | hz
    · exact Or.inl ⟨z, hz, h⟩
    · simp at hz; subst hz; exact Or.inr h
  · rintro (⟨z, hz, h⟩ | h)
    · exact ⟨z, List.mem_append_left _ hz, h⟩
    · exact ⟨p, by simp, h⟩
/-- A sorted list of pairs in the making. -/
def CP (base : Nat) (w : World) (D : Int × Int → Prop) (m : Nat) (v : Value) : Prop :=
  ∃ al L cl, v = .slice al L.length cl ∧ L.Pairwise ltP' ∧ (∀ x, x ∈ L ↔ D x) ∧ L.length ≤ m ∧ L.length ≤ cl ∧ (al = none ∧ L = [] ∧ cl = 0 ∨ ∃ b o, al = some ⟨b, o, none⟩) ∧ Prs (fun b => base ≤ b) w al L
theorem CP.start (base : Nat) (w : World) (q : List (Int × Int)) : CP base w (OutC [] q) 0 (.slice none 0 0) := ⟨none, [], 0, rfl, List.Pairwise.nil, fun x => by simp [OutC], Nat.le_refl _, Nat.le_refl _, Or.inl ⟨rfl, rfl, rfl⟩, by simp, Or.inl rfl⟩
theorem CP.below {base : Nat} {w w' : World} {D D' : Int × Int → Prop} {m m' : Nat} {v : Value} (h : CP base w D m v) (hb : Below w.heap.size w w') (hD : ∀ x, D x ↔ D' x) (hm : m ≤ m') : CP base w' D' m' v := by
  obtain ⟨al, L, cl, h1, h2, h3, h4, h5, h6, h7⟩ := h
  exact ⟨al, L, cl, h1, h2, fun x => (h3 x).trans (hD x), Nat.le_trans h4 hm, h5, h6, h7.below hb⟩
theorem cp_insert {base : Nat} {w : World} {D : Int × Int → Prop} {m : Nat} {v : Value} (h : CP base w D m v) (hm : m ≤ 900000) (hbase : base ≤ w.heap.size) (p : Int × Int) :
    Calls Tryz.prog 35 #[v, Pv p] w (fun e w' => ∃ v', e = .returned v' ∧ CP base w' (fun x => D x ∨ x = p) (m + 1) v' ∧ Below w.heap.size w w') := by
  obtain ⟨al, L, cl, rfl, h2, h3, h4, h5, h6, h7⟩ := h
  refine (insert_any _ al cl L p w h7 h5 h6 h2 (by omega)).mono ?_
  rintro e w' ⟨a', L', c', he, g2, g3, g4, g5, g6, g7, g8⟩
  refine ⟨_, he, ⟨a', L', c', rfl, g2, fun x => ?_, by omega, g5, g6, ?_⟩, g8⟩
  · rw [g3, h3]; exact Or.comm
  · refine ⟨g7.1, ?_⟩
    rcases g7.2 with h | ⟨b2, o2, k2, k3, k4⟩
    · exact Or.inl h
    · exact Or.inr ⟨b2, o2, k2, by rcases k3 with k | k <;> (first | exact k | exact Nat.le_trans hbase k), k4⟩

set_option maxRecDepth 100000 in
set_option maxHeartbeats 3200000 in
theorem refcomp_any (S S2 : Nat → Prop) (a a2 : Option Addr) (cap cap2 : Nat) (r q : List (Int × Int)) (w : World) (hr : Prs S w a r) (hq : Prs S2 w a2 q) (hN : r.length ≤ 500) (hM : q.length ≤ 500) :
    Calls Tryz.prog 31 #[.slice a r.length cap, .slice a2 q.length cap2] w (fun e w' => ∃ v, e = .returned v ∧ CP w.heap.size w' (OutC r q) 250000 v ∧ Below w.heap.size w w') := by
  obtain ⟨M, hMM⟩ : ∃ M, M = q.length := ⟨_, rfl⟩
  obtain ⟨N, hNN⟩ : ∃ N, N = r.length := ⟨_, rfl⟩
  rw [← hMM] at hM ⊢
  rw [← hNN] at hN ⊢
  have HN := Lib.hid hNN
  have HM := Lib.hid hMM
  have HP := Lib.hid hr
  have HQ := Lib.hid hq
  clear hr hq hNN hMM
  go_enter Tryz.func31, Tryz.ntmps31
  go_wp2_with fail
  go_loopw [5, 12] (fun v i wr => ∃ k : Nat, k ≤ N ∧ i = .int .i64 k ∧ CP w.heap.size wr (OutC (r.take k) q) (k * 500) v ∧ Below w.heap.size w wr) (fun _ i _ => N - (intOf i).toNat)
  case atStart => exact ⟨0, Nat.zero_le _, rfl, (CP.start _ _ q).below (Below.refl _ _) (fun x => by simp) (by omega), Below.refl _ _⟩
  case round =>
    obtain ⟨k, hk, rfl, hcp, hb⟩ := hrel
    have HB := Lib.hid hb
    have HC := Lib.hid hcp
    obtain ⟨al, L, cl, hv, _⟩ := hcp
    by_cases hlt : k < N
    rotate_left
    · obtain rfl : k = N := by omega
      clear hb hv
      go_wp2_with fail
      go_ret
      exact ⟨_, rfl, HC.out.below (Below.refl _ _) (fun x => by rw [HN.out, List.take_length]) (by omega), HB.out⟩
    obtain ⟨p, hp⟩ : ∃ p, r[k]? = some p := ⟨r[k]'(by have := HN.out; omega), List.getElem?_eq_getElem _⟩
    obtain ⟨b, o, rfl, _, c0, c1⟩ := (HP.out.below hb).get hp
    have HTK := Lib.hid (show r.take (k + 1) = r.take k ++ [p] by rw [List.take_add_one, hp]; rfl)
    obtain ⟨p1, p2⟩ := p
    simp only at c0 c1
    obtain ⟨X, hX⟩ : ∃ X : World, X = wr.alloc (Obj.cells #[.int .i64 p1, .int .i64 p2] 61) := ⟨_, rfl⟩
    have hXb : Below wr.heap.size wr X := by rw [hX]; exact (Below.refl _ _).alloc (Nat.le_refl _) _
    have hXk : X.heap[wr.heap.size]? = some (Obj.cells #[.int .i64 p1, .int .i64 p2] 61 (0, 0)) := by rw [hX]; exact heap_new _ _
    obtain ⟨bx, hbx⟩ : ∃ bx, bx = wr.heap.size := ⟨_, rfl⟩
    rw [← hbx] at hXk
    have HXZ := Lib.hid (cells2 hXk)
    have HBX := Lib.hid (hb.trans (hXb.mono hb.size))
    have HCX := Lib.hid (HC.out.below hXb (fun _ => Iff.rfl) (Nat.le_refl _))
    clear hp hb hXb hXk
    go_wp2_with fail
    rw [← hX, ← hbx]
    clear hX hbx hv c0 c1
    go_loopw [5, 18] (fun v i wq => ∃ j : Nat, j ≤ M ∧ i = .int .i64 j ∧ CP w.heap.size wq (fun x => OutC (r.take k) q x ∨ InC (p1, p2) (q.take j) x) (k * 500 + j) v ∧ Below X.heap.size X wq) (fun _ i _ => M - (intOf i).toNat)
    case atStart => exact ⟨0, Nat.zero_le _, rfl, HCX.out.below (Below.refl _ _) (fun x => by simp [InC]) (by omega), Below.refl _ _⟩
    case round =>
      obtain ⟨j, hj, rfl, hcp, hb⟩ := hrel
      have HBQ := Lib.hid hb
      have HCQ := Lib.hid hcp
      by_cases hlt2 : j < M
      rotate_left
      · obtain rfl : j = M := by omega
        have HCE := Lib.hid (hcp.below (Below.refl _ _) (fun x => show _ ↔ OutC (r.take (k + 1)) q x by rw [HTK.out, OutC.snoc, HM.out, List.take_length]) (show k * 500 + j ≤ (k + 1) * 500 by omega))
        clear hcp hb
        go_wp2_with fail
        go_roundw
        case rel => exact ⟨k + 1, by omega, by go_num, HCE.out, HBX.out.trans (HBQ.out.mono HBX.out.size)⟩
        case measure => simp [intOf]; omega
      obtain ⟨u, hu⟩ : ∃ u, q[j]? = some u := ⟨q[j]'(by have := HM.out; omega), List.getElem?_eq_getElem _⟩
      obtain ⟨b2, o2, rfl, _, d0, d1⟩ := (HQ.out.below (HBX.out.trans (hb.mono HBX.out.size))).get hu
      have HTJ := Lib.hid (show q.take (j + 1) = q.take j ++ [u] by rw [List.take_add_one, hu]; rfl)
      obtain ⟨u1, u2⟩ := u
      simp only at d0 d1
      obtain ⟨Z, hZ⟩ : ∃ Z : World, Z = wr.alloc (Obj.cells #[.int .i64 u1, .int .i64 u2] 61) := ⟨_, rfl⟩
      have hZb : Below wr.heap.size wr Z := by rw [hZ]; exact (Below.refl _ _).alloc (Nat.le_refl _) _
      have hZk : Z.heap[wr.heap.size]? = some (Obj.cells #[.int .i64 u1, .int .i64 u2] 61 (0, 0)) := by rw [hZ]; exact heap_new _ _
      obtain ⟨bz, hbz⟩ : ∃ bz, bz = wr.heap.size := ⟨_, rfl⟩
      rw [← hbz] at hZk
      obtain ⟨z0, z1⟩ := cells2 hZk
      have x0 := cell_below (hb.trans (hZb.mono hb.size)) HXZ.out.1
      have x1 := cell_below (hb.trans (hZb.mono hb.size)) HXZ.out.2
      have HBZ := Lib.hid (hb.trans (hZb.mono hb.size))
      have HCZ := Lib.hid (fun n => hcp.below (belowN (n := n) hZb) (fun _ => Iff.rfl) (Nat.le_refl _))
      clear hu hb hZb hZk hcp
      by_cases heq : p2 = u1
      · have HNI := Lib.hid (fun x => show ((OutC (r.take k) q x ∨ InC (p1, p2) (q.take j) x) ∨ x = (p1, u2)) ↔ (OutC (r.take k) q x ∨ InC (p1, p2) (q.take (j + 1)) x) by
          rw [HTJ.out, InC.snoc, or_assoc]; simp [heq])
        subst heq
        have HIN := Lib.hid (fun (x : World) (hx : Below Z.heap.size Z x) => cp_insert (HCZ.out 0 |>.below hx (fun _ => Iff.rfl) (Nat.le_refl _)) (by omega) (Nat.le_trans HBX.out.size (Nat.le_trans HBZ.out.size hx.size)) (p1, u2))
        subst hZ
        subst hbz
        go_wp2_with (go_at_call 35; refine (HIN.out _ (Below.refl _ _)).mono ?_; rintro e y ⟨v', rfl, hc', hby⟩)
        have HCI := Lib.hid (hc'.below (Below.refl _ _) HNI.out (show k * 500 + j + 1 ≤ k * 500 + (j + 1) by omega))
        have HBY := Lib.hid (HBZ.out.trans (hby.mono HBZ.out.size))
        clear hc' hby
        go_roundw
        case rel => exact ⟨j + 1, by omega, by go_num, HCI.out, HBY.out⟩
        case measure => simp [intOf]; omega
      · have HNI := Lib.hid (fun x => show (OutC (r.take k) q x ∨ InC (p1, p2) (q.take j) x) ↔ (OutC (r.take k) q x ∨ InC (p1, p2) (q.take (j + 1)) x) by
          rw [HTJ.out, InC.snoc]; simp [heq])
        have HCI := Lib.hid (fun n => (HCZ.out n).below (Below.refl _ _) HNI.out (show k * 500 + j ≤ k * 500 + (j + 1) by omega))
        subst hZ
        subst hbz
        go_wp2_with fail
        go_roundw
        case rel => exact ⟨j + 1, by omega, by go_num, HCI.out 0, HBZ.out⟩
        case measure => simp [intOf]; omega
end Go.Proofs.YtfgpjfgejhahfaaGreatDoor
