/-
  Proved here: contracts of the walk to BisimRelated: slices.SortFunc and slices.Clone at pairs; each under the conditions that its own statement names.
-/
import Derived.Test.YtfgpjfgejhahfaaGreatDoorG04
import Derived.Test.YtfgpjfgejhahfaaGreatDoorG05
import Derived.Shelf.SlSortCmp.WholeK
import Derived.Shelf.SlicesE.Clone
namespace Go.Proofs.YtfgpjfgejhahfaaGreatDoor
open Go Go.RowKit Go.Sort

/-- Draws and blocks behind a world. -/
def Grw (w w' : World) : Prop := ∃ q os, w' = grow (w.drewN q) os
theorem Grw.refl (w : World) : Grw w w := ⟨0, #[], by simp [World.drewN]⟩
theorem Grw.alloc {w w' : World} (h : Grw w w') (o : Obj) : Grw w (w'.alloc o) := by
  obtain ⟨q, os, rfl⟩ := h
  exact ⟨q, os ++ #[o], by rw [alloc_eq_grow, grow_grow]⟩
theorem Grw.drewN {w w' : World} {n : Nat} (h : Grw w w') : Grw w (w'.drewN n) := by
  obtain ⟨q, os, rfl⟩ := h
  exact ⟨q + n, os, by simp [grow, World.drewN, Nat.add_assoc]⟩
theorem Grw.drew {w w' : World} (h : Grw w w') : Grw w w'.drew := by
  obtain ⟨q, os, rfl⟩ := h
  exact ⟨q + 1, os, by simp [grow, World.drewN, World.drew, Nat.add_assoc]⟩

set_option maxRecDepth 100000 in
set_option maxHeartbeats 1600000 in
theorem cmpG_any (p q : Int × Int) (w : World) : Calls Tryz.prog 76 #[Pv p, Pv q] w fun e w' => e = .returned (.int .i64 (cmpP p q)) ∧ Grw w w' := by
  obtain ⟨p1, p2⟩ := p
  obtain ⟨q1, q2⟩ := q
  obtain ⟨W, hW⟩ : ∃ W : World, W = (w.alloc (Obj.cells #[.int .i64 p1, .int .i64 p2] 61)).alloc (Obj.cells #[.int .i64 q1, .int .i64 q2] 61) := ⟨_, rfl⟩
  have hWb : Grw w W := by rw [hW]; exact ((Grw.refl _).alloc _).alloc _
  have hWs : W.heap.size = w.heap.size + 2 := by rw [hW]; simp
  have k0 : W.heap[w.heap.size]? = some (Obj.cells #[.int .i64 p1, .int .i64 p2] 61 (0, 0)) := by rw [hW]; exact heap_old2 _ _ _
  have k1 : W.heap[w.heap.size + 1]? = some (Obj.cells #[.int .i64 q1, .int .i64 q2] 61 (0, 0)) := by rw [hW]; exact heap_new2 _ _ _
  obtain ⟨b, hb⟩ : ∃ b, b = w.heap.size := ⟨_, rfl⟩
  rw [← hb] at k0 k1
  obtain ⟨x0, x1⟩ := cells2 k0
  obtain ⟨y0, y1⟩ := cells2 k1
  obtain ⟨u, hu⟩ : ∃ u, u = cmpI p1 q1 := ⟨_, rfl⟩
  obtain ⟨v, hv⟩ : ∃ v, v = cmpI p2 q2 := ⟨_, rfl⟩
  have HU := Lib.hid (fun x => (show Calls Tryz.prog 124 #[.int .i64 p1, .int .i64 q1] x (fun e x' => e = .returned (.int .i64 u) ∧ x = x') by rw [hu]; exact cmpI_any p1 q1 x))
  have HV := Lib.hid (fun x => (show Calls Tryz.prog 124 #[.int .i64 p2, .int .i64 q2] x (fun e x' => e = .returned (.int .i64 v) ∧ x = x') by rw [hv]; exact cmpI_any p2 q2 x))
  obtain ⟨rr, hrr⟩ : ∃ rr : Int, rr = (if u ≠ 0 then u else v) := ⟨_, rfl⟩
  have HR := Lib.hid (show rr = cmpP (p1, p2) (q1, q2) by rw [hrr]; unfold cmpP; rw [hu, hv])
  have HCO := Lib.hid (fun x b' h0 h1 => (show Calls Tryz.prog 123 #[.slice (some ⟨b', 0, none⟩) 2 2] x (fun e x' => e = .returned (.int .i64 rr) ∧ x' = x) by rw [hrr]; exact cor_any b' u v x h0 h1))
  have HWB := Lib.hid hWb
  clear hWb hWs k0 k1 hu hv hrr
  go_enter Tryz.func76, Tryz.ntmps76
  go_wp2_with fail
  rw [← hW, ← hb]
  clear hW hb
  go_region_held3 (fun x : World => x.cell? ⟨b, 0, none⟩ = some (.int .i64 p1) ∧ x.cell? ⟨b, 1, none⟩ = some (.int .i64 p2) ∧ x.cell? ⟨b + 1, 0, none⟩ = some (.int .i64 q1) ∧ x.cell? ⟨b + 1, 1, none⟩ = some (.int .i64 q2)) (first | exact ⟨x0, x1, y0, y1⟩ | exact ⟨cellAl x0, cellAl x1, cellAl y0, cellAl y1⟩ | fail) (first
    | (go_at_call 124; refine callAt (args' := #[.int .i64 p1, .int .i64 q1]) rfl ?_; refine (HU.out _).mono ?_; rintro e x ⟨rfl, hx⟩; subst hx)
    | (go_at_call 124; refine callAt (args' := #[.int .i64 p2, .int .i64 q2]) rfl ?_; refine (HV.out _).mono ?_; rintro e x ⟨rfl, hx⟩; subst hx)
    | (go_at_call 123; refine (HCO.out _ _ (by simp) (by simp)).mono ?_; rintro e x ⟨rfl, hx⟩; subst hx)
    | fail)
  all_goals (go_wp2_with fail; go_ret; exact ⟨by rw [← HR.out]; rfl, by first | exact (HWB.out.alloc _).drewN | exact (HWB.out.alloc _).drew | exact (HWB.out.alloc _).drewN.drew⟩)
end Go.Proofs.YtfgpjfgejhahfaaGreatDoor

namespace Go.Proofs
open Go.Shelf Go.RowKit Go.Lib Go.Sort
def Tryz.sortP_ren : Go.Shelf.Ren := ⟨fun | 6 => 119 | 15 => 152 | 14 => 151 | 28 => 181 | 29 => 182 | 20 => 173 | 21 => 174 | 22 => 175 | 23 => 176 | 24 => 177 | 25 => 178 | 26 => 179 | 27 => 180 | 46 => 193 | 47 => 194 | 48 => 195 | 49 => 196 | 50 => 197 | 57 => 210 | n => n, fun | 22 => 29 | 24 => 61 | 25 => 114 | 3 => 3 | 39 => 176 | 0 => 0 | 53 => 197 | 55 => 171 | 4 => 4 | 46 => 191 | 45 => 190 | 50 => 145 | 5 => 5 | 9 => 9 | 66 => 210 | 70 => 173 | 76 => 224 | 77 => 82 | n => n, fun | n => n⟩
theorem Tryz.sortP : Go.Proofs.SlLaysF0.n6 Tryz.prog Tryz.sortP_ren := {
  mixed := (by kernel_rfl),
  f6 := ⟨Tryz.f119.name, by decide, Tryz.func119.trans (congrArg some (by kernel_rfl))⟩,
  f14 := ⟨Tryz.f151.name, by decide, Tryz.func151.trans (congrArg some (by kernel_rfl))⟩,
  f15 := Tryz.func152.trans (congrArg some (by kernel_rfl)),
  f20 := ⟨Tryz.f173.name, by decide, Tryz.func173.trans (congrArg some (by kernel_rfl))⟩,
  f21 := ⟨Tryz.f174.name, by decide, Tryz.func174.trans (congrArg some (by kernel_rfl))⟩,
  f22 := ⟨Tryz.f175.name, by decide, Tryz.func175.trans (congrArg some (by kernel_rfl))⟩,
  f23 := ⟨Tryz.f176.name, by decide, Tryz.func176.trans (congrArg some (by kernel_rfl))⟩,
  f24 := ⟨Tryz.f177.name, by decide, Tryz.func177.trans (congrArg some (by kernel_rfl))⟩,
  f25 := ⟨Tryz.f178.name, by decide, Tryz.func178.trans (congrArg some (by kernel_rfl))⟩,
  f26 := ⟨Tryz.f179.name, by decide, Tryz.func179.trans (congrArg some (by kernel_rfl))⟩,
  f27 := ⟨Tryz.f180.name, by decide, Tryz.func180.trans (congrArg some (by kernel_rfl))⟩,
  f28 := Tryz.func181.trans (congrArg some (by kernel_rfl)),
  f29 := Tryz.func182.trans (congrArg some (by kernel_rfl)),
  f46 := ⟨Tryz.f193.name, by decide, Tryz.func193.trans (congrArg some (by kernel_rfl))⟩,
  f47 := Tryz.func194.trans (congrArg some (by kernel_rfl)),
  f48 := Tryz.func195.trans (congrArg some (by kernel_rfl)),
  f49 := ⟨Tryz.f196.name, by decide, Tryz.func196.trans (congrArg some (by kernel_rfl))⟩,
  f50 := ⟨Tryz.f197.name, by decide, Tryz.func197.trans (congrArg some (by kernel_rfl))⟩,
  f57 := ⟨Tryz.f210.name, by decide, Tryz.func210.trans (congrArg some (by kernel_rfl))⟩,
  t0 := Tryz.underlying0,
  a0 := Tryz.isAgg0,
  z0 := Tryz.sizeOf0,
  v0 := Tryz.zeroValue0,
  t3 := Tryz.underlying3,
  a3 := Tryz.isAgg3,
  z3 := Tryz.sizeOf3,
  v3 := Tryz.zeroValue3,
  t4 := Tryz.underlying4,
  a4 := Tryz.isAgg4,
  z4 := Tryz.sizeOf4,
  v4 := Tryz.zeroValue4,
  t5 := Tryz.underlying5,
  a5 := Tryz.isAgg5,
  z5 := Tryz.sizeOf5,
  v5 := Tryz.zeroValue5,
  t9 := Tryz.underlying9,
  a9 := Tryz.isAgg9,
  z9 := Tryz.sizeOf9,
  v9 := Tryz.zeroValue9,
  t22 := Tryz.underlying29,
  a22 := Tryz.isAgg29,
  z22 := Tryz.sizeOf29,
  v22 := Tryz.zeroValue29,
  t25 := Tryz.underlying114,
  a25 := Tryz.isAgg114,
  z25 := Tryz.sizeOf114,
  v25 := Tryz.zeroValue114,
  t39 := Tryz.underlying176,
  a39 := Tryz.isAgg176,
  z39 := Tryz.sizeOf176,
  v39 := Tryz.zeroValue176,
  t45 := Tryz.underlying190,
  a45 := Tryz.isAgg190,
  z45 := Tryz.sizeOf190,
  v45 := Tryz.zeroValue190,
  t46 := Tryz.underlying191,
  a46 := Tryz.isAgg191,
  z46 := Tryz.sizeOf191,
  v46 := Tryz.zeroValue191,
  t50 := Tryz.underlying145,
  a50 := Tryz.isAgg145,
  z50 := Tryz.sizeOf145,
  v50 := Tryz.zeroValue145,
  t53 := Tryz.underlying197,
  a53 := Tryz.isAgg197,
  z53 := Tryz.sizeOf197,
  v53 := Tryz.zeroValue197,
  t55 := Tryz.underlying171,
  a55 := Tryz.isAgg171,
  z55 := Tryz.sizeOf171,
  v55 := Tryz.zeroValue171,
  t66 := Tryz.underlying210,
  a66 := Tryz.isAgg210,
  z66 := Tryz.sizeOf210,
  v66 := Tryz.zeroValue210,
  t70 := Tryz.underlying173,
  a70 := Tryz.isAgg173,
  z70 := Tryz.sizeOf173,
  v70 := Tryz.zeroValue173,
  t76 := Tryz.underlying224,
  a76 := Tryz.isAgg224,
  z76 := Tryz.sizeOf224,
  v76 := Tryz.zeroValue224,
  t77 := Tryz.underlying82,
  a77 := Tryz.isAgg82,
  z77 := Tryz.sizeOf82,
  v77 := Tryz.zeroValue82 }
end Go.Proofs
namespace Go.Proofs.YtfgpjfgejhahfaaGreatDoor
open Go Go.RowKit Go.Sort Go.Lib

theorem cmpP_lt (p q : Int × Int) : cmpP p q < 0 ↔ p.1 < q.1 ∨ p.1 = q.1 ∧ p.2 < q.2 := by
  unfold cmpP cmpI
  by_cases h1 : p.1 < q.1
  · simp [h1]
  · by_cases h2 : q.1 < p.1
    · simp [h1, h2]; omega
    · have h3 : p.1 = q.1 := by omega
      by_cases h4 : p.2 < q.2
      · simp [h3, h4]
      · by_cases h5 : q.2 < p.2 <;> simp [h3, h4, h5]
theorem ltP (x y : Int × Int) : ltOf cmpP x y = decide (x.1 < y.1 ∨ x.1 = y.1 ∧ x.2 < y.2) := by
  unfold ltOf
  exact decide_eq_decide.2 (cmpP_lt x y)
theorem swoP : SWO (ltOf cmpP) where
  irrefl x := by rw [ltP]; simp
  trans x y z h1 h2 := by rw [ltP] at *; simp at *; omega
  ntrans x y z h1 h2 := by rw [ltP] at *; simp at *; omega

set_option maxHeartbeats 1000000 in
/-- SortFunc with compare, at a row of pairs: the row holds a permutation of them, in order. -/
theorem sortP_any (blk off cap : Nat) (d : Array (Int × Int)) (w : World) (hH : HoldsK encP 2 w blk off d) (hblk : blk < w.heap.size) (hsz : d.size < 4611686018427387904) :
    Calls Tryz.prog 119 #[.slice (some ⟨blk, off, none⟩) d.size cap, .func (.func 76) #[] #[]] w fun e w' => e = .returned (.tuple #[]) ∧ ∃ d' n os, PermIn 0 d.size d d' ∧ SortedIn (ltOf cmpP) 0 d.size d' ∧ w' = sortWorldK encP 2 w blk off n d' os := by
  have eg : ∀ args w, (callFunc 76 args).run Tryz.prog w = .ok (.enter 76 args) w := enters_of Tryz.func76 (by kernel_rfl) rfl
  have hcmp : CmpLays Tryz.prog 76 #[] encP 2 cmpP blk off d.size w := fun _ _ _ _ x y => cmpG_any x y _
  exact AnyQ.slices_SortFunc Tryz.sortP 2 isAggP sizeOfP encP (fun _ => rfl) (fun x v hv => by simp [encP] at hv; rcases hv with rfl | rfl <;> rfl) cmpP swoP 76 #[] blk off cap d w eg hcmp hH hblk hsz
end Go.Proofs.YtfgpjfgejhahfaaGreatDoor

namespace Go.Proofs
open Go.Shelf Go.RowKit Go.Lib
def Tryz.cloneP_ren : Go.Shelf.Ren := ⟨fun | 41 => 118 | n => n, fun | 22 => 29 | 23 => 61 | 4 => 4 | n => n, fun | n => n⟩
theorem Tryz.cloneP : Go.Proofs.SlLaysE0.n41 Tryz.prog Tryz.cloneP_ren := {
  mixed := (by kernel_rfl),
  f41 := ⟨Tryz.f118.name, by decide, Tryz.func118.trans (congrArg some (by kernel_rfl))⟩,
  t4 := Tryz.underlying4,
  a4 := Tryz.isAgg4,
  z4 := Tryz.sizeOf4,
  v4 := Tryz.zeroValue4,
  t22 := Tryz.underlying29,
  a22 := Tryz.isAgg29,
  z22 := Tryz.sizeOf29,
  v22 := Tryz.zeroValue29 }
end Go.Proofs
namespace Go.Proofs.YtfgpjfgejhahfaaGreatDoor
open Go Go.RowKit

theorem cloneP_any (b off n c : Nat) (news : List Value) (w : World) (hl : news.length = n * 2) (hn : n ≤ 1000000) (hc : ∀ j u, news[j]? = some u → w.cell? ⟨b, off + j, none⟩ = some u) (h1 : ∀ u ∈ news, u.oneCell' = true) :
    Calls Tryz.prog 118 #[.slice (some ⟨b, off, none⟩) n c] w fun e w' => ∃ v', e = .returned v' ∧ w'.ownsRow w.heap.size 61 2 v' n news ∧ v' ≠ .slice none 0 0 ∧ Below w.heap.size w w' := by
  obtain ⟨i0, hi, hz⟩ := Option.map_eq_some_iff.1 infoP
  simp only [Prod.mk.injEq] at hz
  obtain ⟨hz0, hz1, hz2⟩ := hz
  exact AnyE.slices_Clone Tryz.cloneP i0 (.agg #[.int .i64 0, .int .i64 0]) 2 16 hi hz0 hz1 hz2 rfl (by decide) sizeOfP b off n c news w hl (by unfold maxLen; omega) (by omega) hc h1
theorem cloneP_nil (n c : Nat) (w : World) : Calls Tryz.prog 118 #[.slice none n c] w fun e w' => e = .returned (.slice none 0 0) ∧ w' = w :=
  AnyE.slices_Clone_nil Tryz.cloneP n c w
end Go.Proofs.YtfgpjfgejhahfaaGreatDoor
