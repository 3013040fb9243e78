/-
  Proved here: the reference's Copy returns an equal functor in new memory, for each functor of at most 100000 nodes.
-/
import Derived.Test.YtioimhnebjiicaaDoorCopB
namespace Go.Proofs.YtioimhnebjiicaaDoor
open Go.RowKit

theorem set_third {w : World} {b : Nat} {x0 x1 x2 v : Value} (h : w.heap[b]? = some (.cells #[x0, x1, x2] 24 (0, 0))) : (w.setCell ⟨b, 2, none⟩ v).heap[b]? = some (.cells #[x0, x1, v] 24 (0, 0)) := by
  simp [World.setCell, Array.getElem?_modify, h]

theorem array27 {l : Array Value} (h : l.size = 27) : ∃ x0 x1 x2 x3 x4 x5 x6 x7 x8 x9 x10 x11 x12 x13 x14 x15 x16 x17 x18 x19 x20 x21 x22 x23 x24 x25 x26, l = #[x0, x1, x2, x3, x4, x5, x6, x7, x8, x9, x10, x11, x12, x13, x14, x15, x16, x17, x18, x19, x20, x21, x22, x23, x24, x25, x26] := by
  obtain ⟨l⟩ := l
  have h2 : l.length = 27 := h
  match l, h2 with
  | [x0, x1, x2, x3, x4, x5, x6, x7, x8, x9, x10, x11, x12, x13, x14, x15, x16, x17, x18, x19, x20, x21, x22, x23, x24, x25, x26], _ => exact ⟨_, _, _, _, _, _, _, _, _, _, _, _, _, _, _, _, _, _, _, _, _, _, _, _, _, _, _, rfl⟩

set_option maxRecDepth 100000 in
set_option maxHeartbeats 1600000 in
theorem copy_any (S : Nat → Nat → Prop) : ∀ (t : T) (k n : Int) (a : Option Addr) (cap : Nat) (w : World), Sl S w a t → t.nodes ≤ 100000 →
    Calls Tryd.prog 17 #[.agg #[.int .i64 k, .int .i64 n, .slice a t.len cap]] w fun e w' =>
      ∃ a' cap', e = .returned (.agg #[.int .i64 k, .int .i64 n, .slice a' t.len cap']) ∧ Sl (fun b _ => w.heap.size ≤ b) w' a' t ∧ Below w.heap.size w w' := by
  refine T.ind ?_
  intro t ih k n a cap w hs hn
  obtain ⟨W, hW⟩ : ∃ W : World, W = ((w.alloc (Obj.cells #[Value.int IntKind.i64 k, Value.int IntKind.i64 n, Value.slice a t.len cap] 24)).alloc (Obj.cells #[Value.int IntKind.i64 0, Value.int IntKind.i64 0, Value.slice none 0 0] 24)).alloc (Obj.cells #[Value.int IntKind.i64 k, Value.int IntKind.i64 n, Value.slice none 0 0] 24) := ⟨_, rfl⟩
  have hWb : Below w.heap.size w W := by rw [hW]; exact (((Below.refl _ _).alloc (Nat.le_refl _) _).alloc (by simp) _).alloc (by simp; omega) _
  have g1 : W.heap[w.heap.size + 1]? = some (.cells #[.int .i64 0, .int .i64 0, .slice none 0 0] 24 (0, 0)) := by
    rw [hW, Below.heap_alloc _ _ _ (by simp)]; exact heap_new2 _ _ _
  have g2 : W.heap[w.heap.size + 2]? = some (.cells #[.int .i64 k, .int .i64 n, .slice none 0 0] 24 (0, 0)) := by
    rw [hW]; have := heap_new ((w.alloc (Obj.cells #[Value.int IntKind.i64 k, Value.int IntKind.i64 n, Value.slice a t.len cap] 24)).alloc (Obj.cells #[Value.int IntKind.i64 0, Value.int IntKind.i64 0, Value.slice none 0 0] 24)) (Obj.cells #[Value.int IntKind.i64 k, Value.int IntKind.i64 n, Value.slice none 0 0] 24); simpa using this
  have hlen := hs.1
  have hln := t.len_nodes
  go_enter Tryd.func17, Tryd.ntmps17
  go_wp2_with fail
  rw [← hW]
  clear hW
  go_loopw [5, 14, 15, 16, 17, 18, 19, 20, 21, 22, 23, 24, 25] (fun _ i _ _ _ _ _ _ _ _ _ _ _ wr => ∃ (j : Nat) (v : Value) (xs : List Value), j ≤ t.len ∧ i = .int .i64 j ∧
      wr.heap[w.heap.size + 1]? = some (.cells #[.int .i64 0, .int .i64 0, .slice none 0 0] 24 (0, 0)) ∧ wr.heap[w.heap.size + 2]? = some (.cells #[.int .i64 k, .int .i64 n, v] 24 (0, 0)) ∧
      wr.ownsRow (w.heap.size + 3) 24 3 v j xs ∧ (t.take j).Row (New (w.heap.size + 3) v.ownBlock) wr xs ∧ Below w.heap.size w wr) (fun _ i _ _ _ _ _ _ _ _ _ _ _ _ => t.len - (intOf i).toNat)
  case atStart => exact ⟨0, _, [], Nat.zero_le _, rfl, g1, g2, World.ownsRow_nil _ _ _ _, by cases t <;> rfl, hWb⟩
  case round =>
    obtain ⟨j, v, xs, hj, rfl, hg1, hg2, hown, hrow, hb⟩ := hrel
    by_cases hlt : j < t.len
    · obtain ⟨b, o, rfl, hat⟩ := hs.addr hlt
      obtain ⟨k1, n1, kids, rest, hd, hd1⟩ := T.drop_lt hlt
      obtain ⟨_, d0, d1, a1, cap1, d2, hs1⟩ := hat.get hd
      have hb3 := Nat.mul_comm 3 j
      rw [hb3] at d0 d1 d2
      clear hb3
      replace d0 := cell_below hb d0
      replace d1 := cell_below hb d1
      replace d2 := cell_below hb d2
      have hs1w := hs1
      have hkn : kids.nodes ≤ 100000 := by have hnd := T.drop_nodes t j; rw [hd] at hnd; simp only [T.nodes] at hnd; omega
      have IH := Lib.hid (fun w0 h0 => ih _ _ _ _ _ hd k1 n1 a1 cap1 w0 h0 hkn)
      have HD := Lib.hid hd
      clear hd hd1
      obtain ⟨q, hq⟩ : ∃ q : Cq, q = ⟨w.heap.size, wr.heap.size, w, k, n, k1, n1, a1, cap1, kids, t.take j, v, j, xs, wr.heap.size⟩ := ⟨_, rfl⟩
      have hW2 : Below wr.heap.size wr (wr.alloc (.cells #[.int .i64 k1, .int .i64 n1, .slice a1 kids.len cap1] 24)) := (Below.refl _ _).alloc (Nat.le_refl _) _
      have hlo : wr.ownsRow (w.heap.size + 3) 24 3 v j xs := hown
      have hrs := heap_lt hg2
      have hvg : ∀ g, q.v.ownBlock = some g → g < wr.heap.size := fun g hg => by rw [hq] at hg; exact (hown.lt g hg).2
      go_wp2_with fail
      rename_i K hK
      refine wp_region_last [_, _, _, _, _, _, _] _ rfl (by kernel_rfl) (q.I [(0, .agg #[.int .i64 k, .int .i64 n, .slice (some ⟨b, o, none⟩) t.len cap]), (1, .pointer (some ⟨w.heap.size, 0, none⟩)), (2, .pointer (some ⟨w.heap.size + 1, 0, none⟩)), (3, .pointer (some ⟨w.heap.size + 1 + 1, 0, none⟩)), (4, undef), (5, .pointer (some ⟨wr.heap.size, 0, none⟩)), (6, .pointer (some ⟨w.heap.size, 0, none⟩)), (7, .int .i64 k), (8, .pointer (some ⟨w.heap.size, 1, none⟩)), (9, .int .i64 n), (10, .agg #[.int .i64 k, .int .i64 n, .slice none 0 0]), (11, .pointer (some ⟨w.heap.size, 2, none⟩)), (12, .slice (some ⟨b, o, none⟩) t.len cap), (13, .int .i64 t.len), (14, .int .i64 j), (26, undef)]) (by kernel_rfl) (by kernel_rfl) ?_ ?_ ?_
      · refine ⟨rfl, rfl, ?_, fun x hx hL => (by cases hL), fun _ => Cq.Own.below (u := wr) (by rw [hq]; exact ⟨hown, hrow⟩) hW2.drew, ?_, ⟨fun h => (by cases h), fun h => (by cases h), fun h => (by cases h), fun h => (by cases h), fun h => (by cases h)⟩⟩
        · intro x hx
          simp only [List.mem_cons, List.not_mem_nil, or_false] at hx
          rcases hx with rfl | rfl | rfl | rfl | rfl | rfl | rfl | rfl | rfl | rfl | rfl | rfl | rfl | rfl | rfl | rfl <;> rfl
        · rw [hq]
          exact ⟨by rw [hW2.drew.block _ (heap_lt hg1)]; exact hg1, by rw [hW2.drew.block _ (heap_lt hg2)]; exact hg2, heap_new _ _, hb.trans (hW2.drew.mono hb.size), hW2.drew.size⟩
      · refine ⟨?_, ?_, ?_, ?_, ?_, ?_, ?_, trivial⟩
        · intro L c wq hI hL he
          have s3 := hI.fx (3, .pointer (some ⟨w.heap.size + 1 + 1, 0, none⟩)) (by simp)
          simp only at s3
          unfold Oper.wp
          simp [execOp, Act.eval, s3, go_sem]
          refine hI.quiet (hI.dep.not5 (i := 0) (by omega) hL) 0 18 (by omega) _ _ (Below.refl _ _) (by omega) (by simp) ?_ (hI.dep.set (by omega) (by omega) (by omega) (by omega) (by omega))
          rw [hq]
          simp [Cq.D, Cq.PV]
        · intro L c wq hI hL he
          have l0 := he ⟨0, .data⟩ (by simp) rfl
          obtain ⟨_, s18, rfl⟩ := hI.ds (0, 18, Cq.PV (.pointer (some ⟨q.B + 2, 2, none⟩))) (by simp [Cq.D]) l0
          obtain ⟨_, _, o2⟩ := cells_of hI.hd.out
          simp only at s18
          unfold Oper.wp
          simp [execOp, Act.eval, s18, go_sem, o2]
          refine hI.quiet (hI.dep.not5 (i := 1) (by omega) hL) 1 19 (by omega) _ _ (Below.refl _ _) (by omega) (by simp) ?_ (hI.dep.set (fun _ => l0) (by omega) (by omega) (by omega) (by omega))
          simp [Cq.D, Cq.PV]
        · intro L c wq hI hL he
          have s5 := hI.fx (5, .pointer (some ⟨wr.heap.size, 0, none⟩)) (by simp)
          obtain ⟨b0, b1, b2⟩ := cells_of hI.hd.g
          have eBg : q.Bg = wr.heap.size := by rw [hq]
          rw [eBg] at b0 b1 b2
          simp only at s5
          unfold Oper.wp
          simp [execOp, Act.eval, s5, go_sem, b0, b1, b2]
          refine hI.quiet (hI.dep.not5 (i := 2) (by omega) hL) 2 20 (by omega) _ _ (Below.refl _ _) (by omega) (by simp) ?_ (hI.dep.set (by omega) (by omega) (by omega) (by omega) (by omega))
          simp [Cq.D, Cq.PV, Cq.elem]
        · intro L c wq hI hL he
          have l2 := he ⟨2, .data⟩ (by simp) rfl
          have h5 := hI.dep.not5 (i := 3) (by omega) hL
          obtain ⟨_, s20, rfl⟩ := hI.ds (2, 20, Cq.PV (.agg (q.elem q.a1 q.cap1))) (by simp [Cq.D]) l2
          simp only at s20
          have hbw : Below w.heap.size w wq := by have := hI.hd.bl; rw [hq] at this; exact this
          have hsz : wr.heap.size ≤ wq.heap.size := by have := hI.hd.size; rw [hq] at this; exact this
          have hc := IH.out wq (hs1w.below hbw)
          have eq1 : q.elem q.a1 q.cap1 = #[.int .i64 k1, .int .i64 n1, .slice a1 kids.len cap1] := by rw [hq]; rfl
          rw [eq1] at s20
          unfold Oper.wp
          simp [Act.eval, s20, go_sem]
          refine hc.mono ?_
          rintro e wz ⟨a2, cap2, rfl, hsl2, hb2⟩
          have hlt2 : ∀ g, v.ownBlock = some g → g < wr.heap.size := fun g hg => (hown.lt g hg).2
          refine hI.quiet h5 3 21 (by omega) _ _ hb2 (by omega) (by simp) ?_ (hI.dep.set (by omega) (fun _ => l2) (by omega) (by omega) (by omega))
          have hPR : q.PR false (.agg #[.int .i64 k1, .int .i64 n1, .slice a2 kids.len cap2]) wz := by
            rw [hq]
            exact fun _ => ⟨a2, cap2, rfl, hsl2.weaken fun b o h => ⟨by have : wq.heap.size ≤ b := h; show w.heap.size + 3 ≤ b; omega, fun e => by have := hlt2 b e.symm; have : wq.heap.size ≤ b := h; omega⟩⟩
          simp [Cq.D, hPR]
        · intro L c wq hI hL he
          have l3 := he ⟨3, .data⟩ (by simp) rfl
          have h5 := hI.dep.not5 (i := 4) (by omega) hL
          obtain ⟨_, s21, hpr⟩ := hI.ds (3, 21, q.PR) (by simp [Cq.D]) l3
          obtain ⟨a2, cap2, rfl, hsl2⟩ := hpr h5
          simp only [Cq.elem] at s21
          unfold Oper.wp
          simp [execOp, Act.eval, s21, go_sem]
          have hbb : Below wq.heap.size wq (wq.alloc (Obj.cells #[Value.int IntKind.i64 q.k1, Value.int IntKind.i64 q.n1, Value.slice a2 q.kids.len cap2] 24)) := (Below.refl _ _).alloc (Nat.le_refl _) _
          refine hI.quiet h5 4 22 (by omega) _ _ hbb (by omega) (by simp) ?_ (hI.dep.set (by omega) (by omega) (fun _ => l3) (by omega) (by omega))
          have hPS : q.PS false (.slice (some ⟨wq.heap.size, 0, none⟩) 1 1) (wq.alloc (Obj.cells #[Value.int IntKind.i64 q.k1, Value.int IntKind.i64 q.n1, Value.slice a2 q.kids.len cap2] 24)) :=
            fun _ => ⟨wq.heap.size, a2, cap2, rfl, heap_new _ _, hsl2.below hbb⟩
          simp [Cq.D, hPS]
        · intro L c wq hI hL he
          have l1 := he ⟨1, .data⟩ (by simp) rfl
          have l4 := he ⟨4, .data⟩ (by simp) rfl
          obtain ⟨_, s19, rfl⟩ := hI.ds (1, 19, Cq.PV q.v) (by simp [Cq.D]) l1
          obtain ⟨_, s22, hps⟩ := hI.ds (4, 22, q.PS) (by simp [Cq.D]) l4
          obtain ⟨h, a2, cap2, rfl, hh, hsl2⟩ := hps hL
          obtain ⟨own1, row1⟩ := hI.own hL
          have hsz : wr.heap.size ≤ wq.heap.size := by have := hI.hd.size; rw [hq] at this; exact this
          have eB : q.B = w.heap.size := by rw [hq]
          have ej : q.j = j := by rw [hq]
          have e19 : c.eval (.tmp 19) = q.v := by simp only at s19; simp [Act.eval, s19]
          have e22 : c.eval (.tmp 22) = .slice (some ⟨h, 0, none⟩) 1 1 := by simp only at s22; simp [Act.eval, s22]
          obtain ⟨h0, h1, h2⟩ := cells_of hh
          obtain ⟨i0, hi, hz0, hz1, hz2⟩ := info_parts info24
          obtain ⟨v', w', hr, r1, r2, _, r4⟩ := run_append_own_at (P := Tryd.prog) wq (q.B + 3) 22 22 24 i0 (.agg #[.int .i64 0, .int .i64 0, .slice none 0 0]) 3 40 Tryd.underlying22 hi hz0 hz1 hz2 rfl (by decide) q.v q.j q.xs own1 ⟨h, 0, none⟩ 1 1 [.int .i64 q.k1, .int .i64 q.n1, .slice a2 q.kids.len cap2] rfl
            (by
              intro i u hu
              match i, hu with
              | 0, hu => simp at hu; subst hu; exact h0
              | 1, hu => simp at hu; subst hu; exact h1
              | 2, hu => simp at hu; subst hu; exact h2) (by simp [Value.oneCell']) (by unfold maxLen; omega) (by omega) (by omega)
          unfold Oper.wp execOp
          simp only [resolve, invoke, builtin, Sem.run_bind, Sem.run_pure, Result.andThen_ok, List.map_toArray, List.map_cons, List.map_nil, e19, e22, hr]
          have hvl : ∀ g, q.v.ownBlock = some g → q.B + 3 ≤ g ∧ g < wq.heap.size := own1.lt
          have hnew : ∀ b o, New (q.B + 3) q.v.ownBlock b o → b < wq.heap.size → New (q.B + 3) v'.ownBlock b o ∧ some b ≠ q.v.ownBlock := by
            intro b o hb hlt
            refine ⟨⟨hb.1, ?_⟩, hb.2⟩
            rcases r4 with r4 | r4
            · rw [r4]; exact hb.2
            · rw [r4]; intro e; have := Option.some.inj e; omega
          have hPA : q.PA true v' w' := ⟨a2, cap2, r1, hsl2.grown r2 hnew, T.Row.mono (fun _ _ hs => hs.grown r2 hnew) row1⟩
          have hfar : ∀ k ob, wq.heap[k]? = some ob → k < q.B + 3 → w'.heap[k]? = some ob := fun k ob hk hlt => by
            rw [r2.block k (heap_lt hk) (fun e => by have := hvl k e.symm; omega)]; exact hk
          have hHd : q.Hd w' := ⟨hfar _ _ hI.hd.res (by omega), hfar _ _ hI.hd.out (by omega), by
              rw [r2.block _ (heap_lt hI.hd.g) (fun e => by have := hvg q.Bg e.symm; rw [hq] at this; exact absurd this (Nat.lt_irrefl _))]; exact hI.hd.g,
            hI.hd.bl.grown r2 (by omega) (fun k hk => by have := hvl k hk; omega), Nat.le_trans hI.hd.size r2.size⟩
          refine hI.step 5 23 v' w' (by omega) (by simp) ?_ ?_ (fun h => by rw [ls_self] at h; cases h) hHd (hI.dep.set (by omega) (by omega) (by omega) (fun _ => l1) (fun _ => l4))
          · intro x hx hx5 u hu
            rw [ls_self]
            simp only [Cq.D, List.mem_cons, List.not_mem_nil, or_false] at hx
            rcases hx with rfl | rfl | rfl | rfl | rfl | rfl | rfl
            · exact hu
            · exact hu
            · exact hu
            · intro h; cases h
            · intro h; cases h
            · exact absurd rfl hx5
            · exact hu
          · rw [ls_self]
            simp [Cq.D, hPA]
        · intro L c wq hI hL he
          have l5 := he ⟨5, .phase⟩ (by simp) rfl
          have s3 := hI.fx (3, .pointer (some ⟨w.heap.size + 1 + 1, 0, none⟩)) (by simp)
          simp only at s3
          unfold Oper.wp
          simp [execOp, Act.eval, s3, go_sem]
          have e5 : lset L 6 5 = L 5 := ls_ne _ (by omega)
          refine hI.step 6 24 _ _ (by omega) (by simp) (fun x _ _ u h => by rw [e5]; exact h) ?_ (fun h => by rw [e5, l5] at h; cases h) hI.hd (hI.dep.set (by omega) (by omega) (by omega) (by omega) (by omega))
          rw [hq]
          simp [Cq.D, Cq.PV]
      · intro L c wq hL hI
        obtain ⟨_, s24, rfl⟩ := hI.ds (6, 24, Cq.PV (.pointer (some ⟨q.B + 2, 2, none⟩))) (by simp [Cq.D]) (hL 6 (by simp))
        obtain ⟨v', s23, a2, cap2, r1, r2, r3⟩ := hI.ds (5, 23, q.PA) (by simp [Cq.D]) (hL 5 (by simp))
        obtain ⟨_, _, o2⟩ := cells_of hI.hd.out
        have oz : wq.frozen? ⟨q.B + 2, 2, none⟩ = false := by simp [World.frozen?, hI.hd.out]
        simp only at s24 s23
        have hres := hI.hd.res
        have hout := hI.hd.out
        have hbl := hI.hd.bl
        have hfx := hI.fx
        have hdf := hI.df
        have hsz := hI.size
        clear hI hL
        have hv' : ∃ g cap', v' = .slice (some ⟨g, 0, none⟩) (q.j + 1) cap' := by
          rcases r1.2 with ⟨_, h⟩ | ⟨g, cap', _, h, _⟩
          · omega
          · exact ⟨g, cap', h⟩
        obtain ⟨g, cap', rfl⟩ := hv'
        have hgl := (r1.lt g rfl).1
        unfold Oper.wp
        simp [execOp, Act.eval, s24, s23, go_sem, o2, oz]
        refine hK _ _ ?_
        obtain ⟨tm, df⟩ := c
        obtain ⟨x0, x1, x2, x3, x4, x5, x6, x7, x8, x9, x10, x11, x12, x13, x14, x15, x16, x17, x18, x19, x20, x21, x22, x23, x24, x25, x26, rfl⟩ := array27 hsz
        simp at hfx hdf
        obtain ⟨rfl, rfl, rfl, rfl, rfl, rfl, rfl, rfl, rfl, rfl, rfl, rfl, rfl, rfl, rfl, rfl⟩ := hfx
        subst hdf
        rw [hq] at r1 r2 r3 hres hout hbl hgl oz o2 ⊢
        simp only at r1 r2 r3 hres hout hbl hgl oz o2 ⊢
        clear hq IH hvg s23 s24 hsz
        have hgw : wq.grownBy (wq.setCell ⟨w.heap.size + 2, 2, none⟩ (.slice (some ⟨g, 0, none⟩) (j + 1) cap')) (some (w.heap.size + 2)) :=
          ⟨rfl, rfl, rfl, by simp [World.setCell], fun k _ hk => Below.heap_setCell _ _ _ _ (fun e => hk (by rw [e]))⟩
        have hge : (Value.slice (some ⟨g, 0, none⟩) (j + 1) cap').ownBlock = some g := rfl
        go_wp2_with fail
        go_roundw
        case rel =>
          refine ⟨j + 1, _, _, by omega, by go_num, ?_, set_third hout, r1.kept hgw (Or.inr (by rw [hge]; intro e; have := Option.some.inj e; omega)), ?_, hbl.setCell (by simp) _⟩
          · rw [Below.heap_setCell _ _ _ _ (by simp)]; exact hres
          · refine T.Row.push (T.Row.mono (fun a u hs => Sl.grown hs hgw fun b o hb _ => ⟨hb, fun e => ?_⟩) r3) HD.out (Sl.grown r2 hgw fun b o hb _ => ⟨hb, fun e => ?_⟩)
            · have := Option.some.inj e; have := hb.1; omega
            · have := Option.some.inj e; have := hb.1; omega
        case measure => simp [intOf]; omega
    · have hj' : j = t.len := by omega
      subst hj'
      rw [T.take_all] at hrow
      obtain ⟨a', cap', rfl, hsl⟩ := sl_of_row (by omega) hown hrow
      obtain ⟨o0, o1, o2⟩ := cells_of (show wr.heap[w.heap.size + 1 + 1]? = _ from hg2)
      obtain ⟨r0, r1, r2⟩ := cells_of hg1
      have rz : ∀ i, wr.frozen? ⟨w.heap.size + 1, i, none⟩ = false := fun i => by simp [World.frozen?, hg1]
      clear hown hrow hlt hj ih
      go_wp2_with fail
      obtain ⟨z0, z1, z2⟩ := cells_of (store3 (x0 := .int .i64 k) (x1 := .int .i64 n) (x2 := .slice a' t.len cap') hg1 rfl)
      refine bodyPost_ret (v := .agg #[.int .i64 k, .int .i64 n, .slice a' t.len cap']) (by simp [results, Tryd.results17, go_sem, z0, z1, z2]) rfl ?_
      refine ⟨a', cap', rfl, ((hsl.store3 (b := w.heap.size + 1) (fun b' o h => by have : w.heap.size + 3 ≤ b' := h; omega)).weaken (fun b o h => by have : w.heap.size + 3 ≤ b := h; omega)), ?_⟩
      exact ((hb.setCell (by simp) _).setCell (by simp) _).setCell (by simp) _
end Go.Proofs.YtioimhnebjiicaaDoor
