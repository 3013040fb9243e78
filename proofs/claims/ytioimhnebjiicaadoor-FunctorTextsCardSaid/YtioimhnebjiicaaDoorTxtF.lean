/-
  Proved here: for every functor, every string and either flag, FunctorTexts returns true, and its arguments read behind the call as before; the listed package-level variables are tied to the program's text, and no condition is left beside the statement's own.
-/
import Derived.Test.YtioimhnebjiicaaDoorTxtE
import Derived.Test.YtioimhnebjiicaaDoorBackB
import Derived.Test.YtioimhnebjiicaaDoorBackD
namespace Go.Proofs.YtioimhnebjiicaaDoor
open Go.RowKit

theorem info5 : (Tryd.prog.info? 5).map (fun i => (i.zero, i.size, i.bytes)) = some (some (.int .u8 0), 1, 1) := by kernel_rfl

/-- A block of so many bytes. -/
def Bytes (N b : Nat) (w : World) : Prop := ∃ ns : List Int, ns.length = N ∧ w.heap[b]? = some (Obj.cells (ns.map (Value.int .u8)).toArray 5 (0, 0))

theorem Bytes.made (N : Nat) (w : World) : Bytes N w.heap.size (w.alloc (.cells (madeCells (Value.int .u8 0).cells N) 5)) := by
  refine ⟨List.replicate N 0, by simp, ?_⟩
  rw [heap_new]
  congr 2
  apply Array.toList_inj.1
  have : (Value.int IntKind.u8 0).cells = #[Value.int .u8 0] := rfl
  rw [this, toList_madeCells_one]
  simp

theorem Bytes.cell {N b i : Nat} {w : World} (h : Bytes N b w) (hi : i < N) : ∃ n, w.cell? ⟨b, i, none⟩ = some (.int .u8 n) := by
  obtain ⟨ns, h1, h2⟩ := h
  refine ⟨ns[i]'(by omega), ?_⟩
  unfold World.cell?
  rw [h2]
  simp [show i < ns.length by omega]
theorem Bytes.fz {N b : Nat} {w : World} (h : Bytes N b w) (o : Nat) : w.frozen? ⟨b, o, none⟩ = false := by
  obtain ⟨ns, h1, h2⟩ := h
  exact frozen_of h2
theorem Bytes.set {N b : Nat} {w : World} (h : Bytes N b w) (i : Nat) (n : Int) : Bytes N b (w.setCell ⟨b, i, none⟩ (.int .u8 n)) := by
  obtain ⟨ns, h1, h2⟩ := h
  refine ⟨ns.set i n, by simpa using h1, ?_⟩
  have : (w.setCell ⟨b, i, none⟩ (.int .u8 n)).heap[b]? = some (Obj.cells ((ns.map (Value.int .u8)).toArray.setIfInBounds i (.int .u8 n)) 5 (0, 0)) := by
    simp [World.setCell, Array.getElem?_modify, h2]
  rw [this]
  congr 2
  apply Array.toList_inj.1
  simp [List.map_set]

theorem fold_size (ns : List Int) : ∀ r : ByteArray, (ns.foldl (fun r n => r.push (UInt8.ofNat n.toNat)) r).size = r.size + ns.length := by
  induction ns with
  | nil => intro r; rfl
  | cons n ns ih =>
    intro r
    rw [List.foldl_cons, ih, ByteArray.size_push, List.length_cons]
    omega

theorem Bytes.str {N b c : Nat} {w : World} (h : Bytes N b w) : ∃ s : ByteArray, s.size = N ∧ (convert 36 9 (.slice (some ⟨b, 0, none⟩) N c)).run Tryd.prog w = .ok (.string s) w := by
  obtain ⟨ns, h1, h2⟩ := h
  refine ⟨_, ?_, (run_convert_bytes_string w 36 9 5 _ N c Tryd.underlying36 Tryd.underlying5 Tryd.underlying9).trans (run_bytesToString w ⟨b, 0, none⟩ N c ns ?_)⟩
  · rw [fold_size, h1]; simp
  · have := run_loadCells_list (P := Tryd.prog) (w := w) ⟨b, 0, none⟩ (ns.map (Value.int .u8)) (fun j v hj => by
      have e : (⟨b, 0, none⟩ : Addr).add j = ⟨b, j, none⟩ := by
        unfold Addr.add
        split
        · rename_i h0; subst h0; rfl
        · simp
      rw [e]
      unfold World.cell?
      rw [h2]
      simpa using hj)
    simpa [h1] using this
end Go.Proofs.YtioimhnebjiicaaDoor

namespace Go.Proofs.YtioimhnebjiicaaDoor
open Go.RowKit

/-- A functor lies in a box. -/
structure BoxT (B : Nat) (k n : Int) (s : Value) (u : World) : Prop where
  c0 : u.cell? ⟨B, 0, none⟩ = some (.int .i64 k)
  c1 : u.cell? ⟨B, 1, none⟩ = some (.int .i64 n)
  c2 : u.cell? ⟨B, 2, none⟩ = some s
theorem BoxT.below {B : Nat} {k n : Int} {s : Value} {u u' : World} (h : BoxT B k n s u) (hb : Below u.heap.size u u') : BoxT B k n s u' :=
  ⟨cell_below hb h.c0, cell_below hb h.c1, cell_below hb h.c2⟩
theorem BoxT.mk' {B : Nat} {k n : Int} {s : Value} {u : World} (h : u.heap[B]? = some (Obj.cells #[.int .i64 k, .int .i64 n, s] 24 (0, 0))) : BoxT B k n s u := by
  obtain ⟨a, b, c⟩ := cells_of h
  exact ⟨a, b, c⟩

theorem parseRef_at (s : ByteArray) (f : F) (er : Int) (w : World) (h : s.size ≤ 1000000) (hp : parseOf s = (f, er)) :
    Calls Tryd.prog 23 #[.string s] w fun e w' => ∃ a cap, e = .returned (.tuple #[f.val a cap, .int .i64 er]) ∧ Sl (SP w.heap.size) w' a f.t ∧ Below w.heap.size w w' :=
  (parseRef_any s w h).mono fun e w' ⟨a, cap, h1, h2, h3⟩ => ⟨a, cap, by rw [h1, hp], by rw [hp] at h2; exact h2, h3⟩

set_option maxRecDepth 100000 in
set_option maxHeartbeats 6400000 in
theorem texts_short_ok (S : Nat → Nat → Prop) (t : T) (k n : Int) (a : Option Addr) (cap : Nat) (s : ByteArray) (w : World) (hs : Sl S w a t) (hk : Kinds w) (hn : 1 + (t.nodes : Int) ≤ 2000) (hz : s.size ≤ 3000) (hv : valid k n t = true) :
    Calls Tryd.prog 4 #[.agg #[.int .i64 k, .int .i64 n, .slice a t.len cap], .string s, .bool false] w fun e w' => e = .returned (.bool true) ∧ Below w.heap.size w w' := by
  obtain ⟨W, hW⟩ : ∃ W, W = w.alloc (.cells #[.int .i64 k, .int .i64 n, .slice a t.len cap] 24) := ⟨_, rfl⟩
  have hb0 : Below w.heap.size w W := by rw [hW]; exact (Below.refl _ _).alloc (Nat.le_refl _) _
  have hbx : BoxT w.heap.size k n (.slice a t.len cap) W := BoxT.mk' (by rw [hW]; exact heap_new _ _)
  have HB := Lib.hid (fun u (hu : Below W.heap.size W u) => hbx.below hu)
  have hsW := hs.below hb0
  have hkW := hk.below hb0
  have HK := Lib.hid (fun u (hu : Below W.heap.size W u) => hkW.below hu)
  have HF := Lib.hid (few_at S t k n a cap W true hsW (by simpa using hn))
  obtain ⟨c0, c1, c2⟩ := hbx
  have HST := Lib.hid (fun u (hu : Below W.heap.size W u) => string_at S ⟨k, n, t⟩ a cap u (outF k n t) 0 (hsW.below hu) (hkW.below hu) (by unfold stringOf; rw [hv]; rfl))
  have HSR := Lib.hid (fun u (hu : Below W.heap.size W u) => stringRef_any S t k n a cap u (hsW.below hu) hv)
  obtain ⟨o, ho⟩ : ∃ o, o = bs (outF k n t) := ⟨_, rfl⟩
  rw [← ho] at HST HSR
  clear ho
  have HV := Lib.hid (fun u (hu : Below W.heap.size W u) => fault_at S t k n a cap u 0 (hsW.below hu) (by unfold faultOf; rw [hv]; rfl))
  clear hv
  obtain ⟨pf, per, hp⟩ : ∃ pf per, parseOf s = (pf, per) := ⟨_, _, rfl⟩
  have HP := Lib.hid (fun u (hu : Kinds u) => parse_at s pf per u (by omega) hu hp)
  have HPR := Lib.hid (fun u => parseRef_at s pf per u (by omega) hp)
  clear hp
  have hz' : ¬ (3000 : Int) < s.size := by omega
  clear hn hs hk hsW hkW
  go_enter Tryd.func4, Tryd.ntmps4
  go_wp2_with fail
  rw [← hW]
  clear hW
  refine HF.out.mono ?_
  rintro e w1 ⟨rfl, hb1⟩
  clear c0 c1 c2
  have hbu := hb1
  obtain ⟨d0, d1, d2⟩ := HB.out w1 hbu
  go_wp2_with fail
  refine (HST.out w1 hbu).mono ?_
  rintro e u1 ⟨rfl, hx1⟩
  have hc1 := hbu.trans (hx1.mono hbu.size)
  clear d0 d1 d2
  obtain ⟨d0, d1, d2⟩ := HB.out u1 hc1
  go_wp2_with fail
  refine (HV.out u1 hc1).mono ?_
  rintro e u2 ⟨rfl, hx2⟩
  have hc2 := hc1.trans (hx2.mono hc1.size)
  clear d0 d1 d2
  obtain ⟨d0, d1, d2⟩ := HB.out u2 hc2
  go_wp2_with fail
  refine (HSR.out u2 hc2).mono ?_
  rintro e u3 ⟨rfl, hx3⟩
  have hc3 := hc2.trans (hx3.mono hc2.size)
  clear d0 d1 d2
  go_wp2_with fail
  refine (HP.out u3 (HK.out _ hc3)).mono ?_
  rintro e u4 ⟨a4, cap4, rfl, hs4, hx4⟩
  have hc4 := hc3.trans (hx4.mono hc3.size)
  obtain ⟨U4, hU4⟩ : ∃ U4, U4 = u4.alloc (.cells #[.int .i64 pf.k, .int .i64 pf.n, .slice a4 pf.t.len cap4] 24) := ⟨_, rfl⟩
  have hB4 : Below u4.heap.size u4 U4 := by rw [hU4]; exact (Below.refl _ _).alloc (Nat.le_refl _) _
  have box4 : BoxT u4.heap.size pf.k pf.n (.slice a4 pf.t.len cap4) U4 := BoxT.mk' (by rw [hU4]; exact heap_new _ _)
  have hC4 := hc4.trans (hB4.mono hc4.size)
  go_wp2_with fail
  rw [← hU4]
  clear hU4
  refine (HPR.out U4).mono ?_
  rintro e u5 ⟨a5, cap5, rfl, hs5, hx5⟩
  have hc5 := hC4.trans (hx5.mono hC4.size)
  obtain ⟨U5, hU5⟩ : ∃ U5, U5 = u5.alloc (.cells #[.int .i64 pf.k, .int .i64 pf.n, .slice a5 pf.t.len cap5] 24) := ⟨_, rfl⟩
  have hB5 : Below u5.heap.size u5 U5 := by rw [hU5]; exact (Below.refl _ _).alloc (Nat.le_refl _) _
  have box5 : BoxT u5.heap.size pf.k pf.n (.slice a5 pf.t.len cap5) U5 := BoxT.mk' (by rw [hU5]; exact heap_new _ _)
  have hC5 := hc5.trans (hB5.mono hc5.size)
  have hb45 : Below U4.heap.size U4 U5 := hx5.trans (hB5.mono hx5.size)
  have hs4' := (hs4.below hB4).below hb45
  have hs5' := hs5.below hB5
  have box4' := box4.below hb45
  obtain ⟨d0, d1, d2⟩ := HB.out U5 hC5
  rw [hU5] at d0 d1 d2
  go_wp2_with fail
  rw [← hU5]
  clear hU5 d0 d1 d2
  refine (HV.out U5 hC5).mono ?_
  rintro e u6 ⟨rfl, hx6⟩
  obtain ⟨p0, p1, p2⟩ := box4'.below hx6
  obtain ⟨q0, q1, q2⟩ := box5.below hx6
  have hC6 := hC5.trans (hx6.mono hC5.size)
  go_wp2_with fail
  refine (same_at _ _ pf pf a4 a5 cap4 cap5 u6 (hs4'.below hx6) (hs5'.below hx6) rfl).mono ?_
  rintro e u7 ⟨rfl, hx7⟩
  have hC7 := hC6.trans (hx7.mono hC6.size)
  clear p0 p1 p2 q0 q1 q2
  go_wp2_with fail
  refine (awake_any _ (HK.out _ hC7)).mono ?_
  rintro e u8 ⟨rfl, hx8⟩
  have hC8 := hC7.trans (hx8.mono hC7.size)
  go_wp2_with fail
  go_ret
  exact ⟨rfl, hb0.trans (hC8.mono hb0.size)⟩

set_option maxRecDepth 100000 in
set_option maxHeartbeats 6400000 in
theorem texts_short_no (S : Nat → Nat → Prop) (t : T) (k n : Int) (a : Option Addr) (cap : Nat) (s : ByteArray) (w : World) (hs : Sl S w a t) (hk : Kinds w) (hn : 1 + (t.nodes : Int) ≤ 2000) (hz : s.size ≤ 3000) (hv : valid k n t = false) :
    Calls Tryd.prog 4 #[.agg #[.int .i64 k, .int .i64 n, .slice a t.len cap], .string s, .bool false] w fun e w' => e = .returned (.bool true) ∧ Below w.heap.size w w' := by
  obtain ⟨W, hW⟩ : ∃ W, W = w.alloc (.cells #[.int .i64 k, .int .i64 n, .slice a t.len cap] 24) := ⟨_, rfl⟩
  have hb0 : Below w.heap.size w W := by rw [hW]; exact (Below.refl _ _).alloc (Nat.le_refl _) _
  have hbx : BoxT w.heap.size k n (.slice a t.len cap) W := BoxT.mk' (by rw [hW]; exact heap_new _ _)
  have HB := Lib.hid (fun u (hu : Below W.heap.size W u) => hbx.below hu)
  have hsW := hs.below hb0
  have hkW := hk.below hb0
  have HK := Lib.hid (fun u (hu : Below W.heap.size W u) => hkW.below hu)
  have HF := Lib.hid (few_at S t k n a cap W true hsW (by simpa using hn))
  obtain ⟨c0, c1, c2⟩ := hbx
  have HST := Lib.hid (fun u (hu : Below W.heap.size W u) => show Calls Tryd.prog 20 _ u fun e w' => e = .returned (.tuple #[.string ⟨#[]⟩, .int .i64 10]) ∧ Below u.heap.size u w' from string_at S ⟨k, n, t⟩ a cap u [] 10 (hsW.below hu) (hkW.below hu) (by unfold stringOf; rw [hv]; rfl))
  have HV := Lib.hid (fun u (hu : Below W.heap.size W u) => fault_at S t k n a cap u 10 (hsW.below hu) (by unfold faultOf; rw [hv]; rfl))
  clear hv
  obtain ⟨pf, per, hp⟩ : ∃ pf per, parseOf s = (pf, per) := ⟨_, _, rfl⟩
  have HP := Lib.hid (fun u (hu : Kinds u) => parse_at s pf per u (by omega) hu hp)
  have HPR := Lib.hid (fun u => parseRef_at s pf per u (by omega) hp)
  clear hp
  have hz' : ¬ (3000 : Int) < s.size := by omega
  clear hn hs hk hsW hkW
  go_enter Tryd.func4, Tryd.ntmps4
  go_wp2_with fail
  rw [← hW]
  clear hW
  refine HF.out.mono ?_
  rintro e w1 ⟨rfl, hb1⟩
  clear c0 c1 c2
  have hbu := hb1
  obtain ⟨d0, d1, d2⟩ := HB.out w1 hbu
  go_wp2_with fail
  refine (HST.out w1 hbu).mono ?_
  rintro e u1 ⟨rfl, hx1⟩
  have hc1 := hbu.trans (hx1.mono hbu.size)
  clear d0 d1 d2
  obtain ⟨d0, d1, d2⟩ := HB.out u1 hc1
  go_wp2_with fail
  refine (HV.out u1 hc1).mono ?_
  rintro e u2 ⟨rfl, hx2⟩
  have hc2 := hc1.trans (hx2.mono hc1.size)
  clear d0 d1 d2
  obtain ⟨d0, d1, d2⟩ := HB.out u2 hc2
  go_wp2_with fail
  clear d0 d1 d2
  refine (HP.out u2 (HK.out _ hc2)).mono ?_
  rintro e u4 ⟨a4, cap4, rfl, hs4, hx4⟩
  have hc4 := hc2.trans (hx4.mono hc2.size)
  obtain ⟨U4, hU4⟩ : ∃ U4, U4 = u4.alloc (.cells #[.int .i64 pf.k, .int .i64 pf.n, .slice a4 pf.t.len cap4] 24) := ⟨_, rfl⟩
  have hB4 : Below u4.heap.size u4 U4 := by rw [hU4]; exact (Below.refl _ _).alloc (Nat.le_refl _) _
  have box4 : BoxT u4.heap.size pf.k pf.n (.slice a4 pf.t.len cap4) U4 := BoxT.mk' (by rw [hU4]; exact heap_new _ _)
  have hC4 := hc4.trans (hB4.mono hc4.size)
  go_wp2_with fail
  rw [← hU4]
  clear hU4
  refine (HPR.out U4).mono ?_
  rintro e u5 ⟨a5, cap5, rfl, hs5, hx5⟩
  have hc5 := hC4.trans (hx5.mono hC4.size)
  obtain ⟨U5, hU5⟩ : ∃ U5, U5 = u5.alloc (.cells #[.int .i64 pf.k, .int .i64 pf.n, .slice a5 pf.t.len cap5] 24) := ⟨_, rfl⟩
  have hB5 : Below u5.heap.size u5 U5 := by rw [hU5]; exact (Below.refl _ _).alloc (Nat.le_refl _) _
  have box5 : BoxT u5.heap.size pf.k pf.n (.slice a5 pf.t.len cap5) U5 := BoxT.mk' (by rw [hU5]; exact heap_new _ _)
  have hC5 := hc5.trans (hB5.mono hc5.size)
  have hb45 : Below U4.heap.size U4 U5 := hx5.trans (hB5.mono hx5.size)
  have hs4' := (hs4.below hB4).below hb45
  have hs5' := hs5.below hB5
  have box4' := box4.below hb45
  obtain ⟨d0, d1, d2⟩ := HB.out U5 hC5
  rw [hU5] at d0 d1 d2
  go_wp2_with fail
  rw [← hU5]
  clear hU5 d0 d1 d2
  refine (HV.out U5 hC5).mono ?_
  rintro e u6 ⟨rfl, hx6⟩
  obtain ⟨p0, p1, p2⟩ := box4'.below hx6
  obtain ⟨q0, q1, q2⟩ := box5.below hx6
  have hC6 := hC5.trans (hx6.mono hC5.size)
  go_wp2_with fail
  refine (same_at _ _ pf pf a4 a5 cap4 cap5 u6 (hs4'.below hx6) (hs5'.below hx6) rfl).mono ?_
  rintro e u7 ⟨rfl, hx7⟩
  have hC7 := hC6.trans (hx7.mono hC6.size)
  clear p0 p1 p2 q0 q1 q2
  go_wp2_with fail
  refine (awake_any _ (HK.out _ hC7)).mono ?_
  rintro e u8 ⟨rfl, hx8⟩
  have hC8 := hC7.trans (hx8.mono hC7.size)
  go_wp2_with fail
  go_ret
  exact ⟨rfl, hb0.trans (hC8.mono hb0.size)⟩

set_option maxRecDepth 100000 in
set_option maxHeartbeats 6400000 in
theorem texts_long_ok (S : Nat → Nat → Prop) (t : T) (k n : Int) (a : Option Addr) (cap : Nat) (s : ByteArray) (w : World) (hs : Sl S w a t) (hk : Kinds w) (hn : 1 + (t.nodes : Int) ≤ 2000) (hz : s.size ≤ 3000) (hv : valid k n t = true) :
    Calls Tryd.prog 4 #[.agg #[.int .i64 k, .int .i64 n, .slice a t.len cap], .string s, .bool true] w fun e w' => e = .returned (.bool true) ∧ Below w.heap.size w w' := by
  obtain ⟨W, hW⟩ : ∃ W, W = w.alloc (.cells #[.int .i64 k, .int .i64 n, .slice a t.len cap] 24) := ⟨_, rfl⟩
  have hb0 : Below w.heap.size w W := by rw [hW]; exact (Below.refl _ _).alloc (Nat.le_refl _) _
  have hbx : BoxT w.heap.size k n (.slice a t.len cap) W := BoxT.mk' (by rw [hW]; exact heap_new _ _)
  have HB := Lib.hid (fun u (hu : Below W.heap.size W u) => hbx.below hu)
  have hsW := hs.below hb0
  have hkW := hk.below hb0
  have HK := Lib.hid (fun u (hu : Below W.heap.size W u) => hkW.below hu)
  have HF := Lib.hid (few_at S t k n a cap W true hsW (by simpa using hn))
  obtain ⟨c0, c1, c2⟩ := hbx
  have HST := Lib.hid (fun u (hu : Below W.heap.size W u) => string_at S ⟨k, n, t⟩ a cap u (outF k n t) 0 (hsW.below hu) (hkW.below hu) (by unfold stringOf; rw [hv]; rfl))
  have HSR := Lib.hid (fun u (hu : Below W.heap.size W u) => stringRef_any S t k n a cap u (hsW.below hu) hv)
  obtain ⟨o, ho⟩ : ∃ o, o = bs (outF k n t) := ⟨_, rfl⟩
  rw [← ho] at HST HSR
  clear ho
  have HV := Lib.hid (fun u (hu : Below W.heap.size W u) => fault_at S t k n a cap u 0 (hsW.below hu) (by unfold faultOf; rw [hv]; rfl))
  clear hv
  obtain ⟨i5, hi, hz0, hz1, hz2⟩ := info_parts info5
  have hmk := fun u : World => run_make (P := Tryd.prog) u 36 5 i5 (.int .u8 0) Tryd.underlying36 hi hz0 .i64 .i64 40001 40001 (by omega) (by omega) (by rw [hz2]; omega) (by omega)
  rw [hz1] at hmk
  have hbm := fun u => Bytes.made 40001 u
  obtain ⟨N, hN⟩ : ∃ N : Nat, N = 40001 := ⟨_, rfl⟩
  have hk1 : ((40001 : Int).toNat * 1) = N := by rw [hN]; rfl
  have hk2 : (40001 : Int).toNat = N := by rw [hN]; rfl
  rw [hk1, hk2] at hmk
  rw [← hN] at hbm
  obtain ⟨MC, hMC⟩ : ∃ MC, MC = madeCells (Value.int .u8 0).cells N := ⟨_, rfl⟩
  rw [← hMC] at hmk hbm
  have HMK := Lib.hid hbm
  have hN1 : N ≤ 50000 := by omega
  clear hMC hbm hk1 hk2 hN hi hz0 hz1 hz2
  have hz' : ¬ (3000 : Int) < s.size := by omega
  clear hn hs hk hsW hkW
  go_enter Tryd.func4, Tryd.ntmps4
  go_wp2_with fail
  rw [← hW]
  clear hW
  refine HF.out.mono ?_
  rintro e w1 ⟨rfl, hb1⟩
  clear c0 c1 c2
  obtain ⟨W1, hW1⟩ : ∃ W1, W1 = w1.alloc (.cells MC 5) := ⟨_, rfl⟩
  have hB1 : Below w1.heap.size w1 W1 := by rw [hW1]; exact (Below.refl _ _).alloc (Nat.le_refl _) _
  have hby : Bytes N w1.heap.size W1 := by rw [hW1]; exact HMK.out w1
  go_wp2_with fail
  rw [← hW1]
  clear hW1 hmk
  go_loopw [8, 29] (fun _ i wr => ∃ j : Nat, j ≤ N ∧ i = .int .i64 j ∧ Bytes N w1.heap.size wr ∧ Below w1.heap.size w1 wr) (fun _ i _ => N - (intOf i).toNat)
  case atStart => exact ⟨0, Nat.zero_le _, rfl, hby, hB1⟩
  case round =>
    obtain ⟨j, hj, rfl, hbr, hBr⟩ := hrel
    by_cases hlt : j < N
    · obtain ⟨x, hx⟩ := hbr.cell hlt
      have hfz := hbr.fz j
      go_wp2_with fail
      go_roundw
      case rel => exact ⟨j + 1, by omega, by go_num, hbr.set j 32, hBr.setCell (p := ⟨w1.heap.size, j, none⟩) (Nat.le_refl _) _⟩
      case measure => simp [intOf]; omega
    · obtain ⟨b, hbsz, hcv⟩ := Bytes.str (c := N) hbr
      have hbu := hb1.trans (hBr.mono hb1.size)
      have hX : (s ++ b).size ≤ 1000000 := by rw [ByteArray.size_append]; omega
      obtain ⟨pf, per, hp⟩ : ∃ pf per, parseOf (s ++ b) = (pf, per) := ⟨_, _, rfl⟩
      have HP := Lib.hid (fun u (hu : Kinds u) => parse_at (s ++ b) pf per u hX hu hp)
      have HPR := Lib.hid (fun u => parseRef_at (s ++ b) pf per u hX hp)
      clear hp hX
      obtain ⟨d0, d1, d2⟩ := HB.out wr hbu
      go_wp2_with fail
      refine (HST.out wr hbu).mono ?_
      rintro e u1 ⟨rfl, hx1⟩
      have hc1 := hbu.trans (hx1.mono hbu.size)
      clear d0 d1 d2
      obtain ⟨d0, d1, d2⟩ := HB.out u1 hc1
      go_wp2_with fail
      refine (HV.out u1 hc1).mono ?_
      rintro e u2 ⟨rfl, hx2⟩
      have hc2 := hc1.trans (hx2.mono hc1.size)
      clear d0 d1 d2
      obtain ⟨d0, d1, d2⟩ := HB.out u2 hc2
      go_wp2_with fail
      refine (HSR.out u2 hc2).mono ?_
      rintro e u3 ⟨rfl, hx3⟩
      have hc3 := hc2.trans (hx3.mono hc2.size)
      clear d0 d1 d2
      go_wp2_with fail
      refine (HP.out u3 (HK.out _ hc3)).mono ?_
      rintro e u4 ⟨a4, cap4, rfl, hs4, hx4⟩
      have hc4 := hc3.trans (hx4.mono hc3.size)
      obtain ⟨U4, hU4⟩ : ∃ U4, U4 = u4.alloc (.cells #[.int .i64 pf.k, .int .i64 pf.n, .slice a4 pf.t.len cap4] 24) := ⟨_, rfl⟩
      have hB4 : Below u4.heap.size u4 U4 := by rw [hU4]; exact (Below.refl _ _).alloc (Nat.le_refl _) _
      have box4 : BoxT u4.heap.size pf.k pf.n (.slice a4 pf.t.len cap4) U4 := BoxT.mk' (by rw [hU4]; exact heap_new _ _)
      have hC4 := hc4.trans (hB4.mono hc4.size)
      go_wp2_with fail
      rw [← hU4]
      clear hU4
      refine (HPR.out U4).mono ?_
      rintro e u5 ⟨a5, cap5, rfl, hs5, hx5⟩
      have hc5 := hC4.trans (hx5.mono hC4.size)
      obtain ⟨U5, hU5⟩ : ∃ U5, U5 = u5.alloc (.cells #[.int .i64 pf.k, .int .i64 pf.n, .slice a5 pf.t.len cap5] 24) := ⟨_, rfl⟩
      have hB5 : Below u5.heap.size u5 U5 := by rw [hU5]; exact (Below.refl _ _).alloc (Nat.le_refl _) _
      have box5 : BoxT u5.heap.size pf.k pf.n (.slice a5 pf.t.len cap5) U5 := BoxT.mk' (by rw [hU5]; exact heap_new _ _)
      have hC5 := hc5.trans (hB5.mono hc5.size)
      have hb45 : Below U4.heap.size U4 U5 := hx5.trans (hB5.mono hx5.size)
      have hs4' := (hs4.below hB4).below hb45
      have hs5' := hs5.below hB5
      have box4' := box4.below hb45
      obtain ⟨d0, d1, d2⟩ := HB.out U5 hC5
      rw [hU5] at d0 d1 d2
      go_wp2_with fail
      rw [← hU5]
      clear hU5 d0 d1 d2
      refine (HV.out U5 hC5).mono ?_
      rintro e u6 ⟨rfl, hx6⟩
      obtain ⟨p0, p1, p2⟩ := box4'.below hx6
      obtain ⟨q0, q1, q2⟩ := box5.below hx6
      have hC6 := hC5.trans (hx6.mono hC5.size)
      go_wp2_with fail
      refine (same_at _ _ pf pf a4 a5 cap4 cap5 u6 (hs4'.below hx6) (hs5'.below hx6) rfl).mono ?_
      rintro e u7 ⟨rfl, hx7⟩
      have hC7 := hC6.trans (hx7.mono hC6.size)
      clear p0 p1 p2 q0 q1 q2
      go_wp2_with fail
      refine (awake_any _ (HK.out _ hC7)).mono ?_
      rintro e u8 ⟨rfl, hx8⟩
      have hC8 := hC7.trans (hx8.mono hC7.size)
      go_wp2_with fail
      go_ret
      exact ⟨rfl, hb0.trans (hC8.mono hb0.size)⟩

set_option maxRecDepth 100000 in
set_option maxHeartbeats 6400000 in
theorem texts_long_no (S : Nat → Nat → Prop) (t : T) (k n : Int) (a : Option Addr) (cap : Nat) (s : ByteArray) (w : World) (hs : Sl S w a t) (hk : Kinds w) (hn : 1 + (t.nodes : Int) ≤ 2000) (hz : s.size ≤ 3000) (hv : valid k n t = false) :
    Calls Tryd.prog 4 #[.agg #[.int .i64 k, .int .i64 n, .slice a t.len cap], .string s, .bool true] w fun e w' => e = .returned (.bool true) ∧ Below w.heap.size w w' := by
  obtain ⟨W, hW⟩ : ∃ W, W = w.alloc (.cells #[.int .i64 k, .int .i64 n, .slice a t.len cap] 24) := ⟨_, rfl⟩
  have hb0 : Below w.heap.size w W := by rw [hW]; exact (Below.refl _ _).alloc (Nat.le_refl _) _
  have hbx : BoxT w.heap.size k n (.slice a t.len cap) W := BoxT.mk' (by rw [hW]; exact heap_new _ _)
  have HB := Lib.hid (fun u (hu : Below W.heap.size W u) => hbx.below hu)
  have hsW := hs.below hb0
  have hkW := hk.below hb0
  have HK := Lib.hid (fun u (hu : Below W.heap.size W u) => hkW.below hu)
  have HF := Lib.hid (few_at S t k n a cap W true hsW (by simpa using hn))
  obtain ⟨c0, c1, c2⟩ := hbx
  have HST := Lib.hid (fun u (hu : Below W.heap.size W u) => show Calls Tryd.prog 20 _ u fun e w' => e = .returned (.tuple #[.string ⟨#[]⟩, .int .i64 10]) ∧ Below u.heap.size u w' from string_at S ⟨k, n, t⟩ a cap u [] 10 (hsW.below hu) (hkW.below hu) (by unfold stringOf; rw [hv]; rfl))
  have HV := Lib.hid (fun u (hu : Below W.heap.size W u) => fault_at S t k n a cap u 10 (hsW.below hu) (by unfold faultOf; rw [hv]; rfl))
  clear hv
  obtain ⟨i5, hi, hz0, hz1, hz2⟩ := info_parts info5
  have hmk := fun u : World => run_make (P := Tryd.prog) u 36 5 i5 (.int .u8 0) Tryd.underlying36 hi hz0 .i64 .i64 40001 40001 (by omega) (by omega) (by rw [hz2]; omega) (by omega)
  rw [hz1] at hmk
  have hbm := fun u => Bytes.made 40001 u
  obtain ⟨N, hN⟩ : ∃ N : Nat, N = 40001 := ⟨_, rfl⟩
  have hk1 : ((40001 : Int).toNat * 1) = N := by rw [hN]; rfl
  have hk2 : (40001 : Int).toNat = N := by rw [hN]; rfl
  rw [hk1, hk2] at hmk
  rw [← hN] at hbm
  obtain ⟨MC, hMC⟩ : ∃ MC, MC = madeCells (Value.int .u8 0).cells N := ⟨_, rfl⟩
  rw [← hMC] at hmk hbm
  have HMK := Lib.hid hbm
  have hN1 : N ≤ 50000 := by omega
  clear hMC hbm hk1 hk2 hN hi hz0 hz1 hz2
  have hz' : ¬ (3000 : Int) < s.size := by omega
  clear hn hs hk hsW hkW
  go_enter Tryd.func4, Tryd.ntmps4
  go_wp2_with fail
  rw [← hW]
  clear hW
  refine HF.out.mono ?_
  rintro e w1 ⟨rfl, hb1⟩
  clear c0 c1 c2
  obtain ⟨W1, hW1⟩ : ∃ W1, W1 = w1.alloc (.cells MC 5) := ⟨_, rfl⟩
  have hB1 : Below w1.heap.size w1 W1 := by rw [hW1]; exact (Below.refl _ _).alloc (Nat.le_refl _) _
  have hby : Bytes N w1.heap.size W1 := by rw [hW1]; exact HMK.out w1
  go_wp2_with fail
  rw [← hW1]
  clear hW1 hmk
  go_loopw [8, 29] (fun _ i wr => ∃ j : Nat, j ≤ N ∧ i = .int .i64 j ∧ Bytes N w1.heap.size wr ∧ Below w1.heap.size w1 wr) (fun _ i _ => N - (intOf i).toNat)
  case atStart => exact ⟨0, Nat.zero_le _, rfl, hby, hB1⟩
  case round =>
    obtain ⟨j, hj, rfl, hbr, hBr⟩ := hrel
    by_cases hlt : j < N
    · obtain ⟨x, hx⟩ := hbr.cell hlt
      have hfz := hbr.fz j
      go_wp2_with fail
      go_roundw
      case rel => exact ⟨j + 1, by omega, by go_num, hbr.set j 32, hBr.setCell (p := ⟨w1.heap.size, j, none⟩) (Nat.le_refl _) _⟩
      case measure => simp [intOf]; omega
    · obtain ⟨b, hbsz, hcv⟩ := Bytes.str (c := N) hbr
      have hbu := hb1.trans (hBr.mono hb1.size)
      have hX : (s ++ b).size ≤ 1000000 := by rw [ByteArray.size_append]; omega
      obtain ⟨pf, per, hp⟩ : ∃ pf per, parseOf (s ++ b) = (pf, per) := ⟨_, _, rfl⟩
      have HP := Lib.hid (fun u (hu : Kinds u) => parse_at (s ++ b) pf per u hX hu hp)
      have HPR := Lib.hid (fun u => parseRef_at (s ++ b) pf per u hX hp)
      clear hp hX
      obtain ⟨d0, d1, d2⟩ := HB.out wr hbu
      go_wp2_with fail
      refine (HST.out wr hbu).mono ?_
      rintro e u1 ⟨rfl, hx1⟩
      have hc1 := hbu.trans (hx1.mono hbu.size)
      clear d0 d1 d2
      obtain ⟨d0, d1, d2⟩ := HB.out u1 hc1
      go_wp2_with fail
      refine (HV.out u1 hc1).mono ?_
      rintro e u2 ⟨rfl, hx2⟩
      have hc2 := hc1.trans (hx2.mono hc1.size)
      clear d0 d1 d2
      obtain ⟨d0, d1, d2⟩ := HB.out u2 hc2
      go_wp2_with fail
      clear d0 d1 d2
      refine (HP.out u2 (HK.out _ hc2)).mono ?_
      rintro e u4 ⟨a4, cap4, rfl, hs4, hx4⟩
      have hc4 := hc2.trans (hx4.mono hc2.size)
      obtain ⟨U4, hU4⟩ : ∃ U4, U4 = u4.alloc (.cells #[.int .i64 pf.k, .int .i64 pf.n, .slice a4 pf.t.len cap4] 24) := ⟨_, rfl⟩
      have hB4 : Below u4.heap.size u4 U4 := by rw [hU4]; exact (Below.refl _ _).alloc (Nat.le_refl _) _
      have box4 : BoxT u4.heap.size pf.k pf.n (.slice a4 pf.t.len cap4) U4 := BoxT.mk' (by rw [hU4]; exact heap_new _ _)
      have hC4 := hc4.trans (hB4.mono hc4.size)
      go_wp2_with fail
      rw [← hU4]
      clear hU4
      refine (HPR.out U4).mono ?_
      rintro e u5 ⟨a5, cap5, rfl, hs5, hx5⟩
      have hc5 := hC4.trans (hx5.mono hC4.size)
      obtain ⟨U5, hU5⟩ : ∃ U5, U5 = u5.alloc (.cells #[.int .i64 pf.k, .int .i64 pf.n, .slice a5 pf.t.len cap5] 24) := ⟨_, rfl⟩
      have hB5 : Below u5.heap.size u5 U5 := by rw [hU5]; exact (Below.refl _ _).alloc (Nat.le_refl _) _
      have box5 : BoxT u5.heap.size pf.k pf.n (.slice a5 pf.t.len cap5) U5 := BoxT.mk' (by rw [hU5]; exact heap_new _ _)
      have hC5 := hc5.trans (hB5.mono hc5.size)
      have hb45 : Below U4.heap.size U4 U5 := hx5.trans (hB5.mono hx5.size)
      have hs4' := (hs4.below hB4).below hb45
      have hs5' := hs5.below hB5
      have box4' := box4.below hb45
      obtain ⟨d0, d1, d2⟩ := HB.out U5 hC5
      rw [hU5] at d0 d1 d2
      go_wp2_with fail
      rw [← hU5]
      clear hU5 d0 d1 d2
      refine (HV.out U5 hC5).mono ?_
      rintro e u6 ⟨rfl, hx6⟩
      obtain ⟨p0, p1, p2⟩ := box4'.below hx6
      obtain ⟨q0, q1, q2⟩ := box5.below hx6
      have hC6 := hC5.trans (hx6.mono hC5.size)
      go_wp2_with fail
      refine (same_at _ _ pf pf a4 a5 cap4 cap5 u6 (hs4'.below hx6) (hs5'.below hx6) rfl).mono ?_
      rintro e u7 ⟨rfl, hx7⟩
      have hC7 := hC6.trans (hx7.mono hC6.size)
      clear p0 p1 p2 q0 q1 q2
      go_wp2_with fail
      refine (awake_any _ (HK.out _ hC7)).mono ?_
      rintro e u8 ⟨rfl, hx8⟩
      have hC8 := hC7.trans (hx8.mono hC7.size)
      go_wp2_with fail
      go_ret
      exact ⟨rfl, hb0.trans (hC8.mono hb0.size)⟩

end Go.Proofs.YtioimhnebjiicaaDoor

namespace Go.Proofs.YtioimhnebjiicaaDoor
open Go.ChangeShapes Go.WideShapes Go.ChangeAt Go.RowKit

set_option maxRecDepth 100000 in
set_option maxHeartbeats 1600000 in
theorem texts_few (S : Nat → Nat → Prop) (t : T) (k n : Int) (a : Option Addr) (cap : Nat) (s : ByteArray) (g : Bool) (w : World) (hs : Sl S w a t) (hk : Kinds w) (hn : ¬ 1 + (t.nodes : Int) ≤ 2000) :
    Calls Tryd.prog 4 #[.agg #[.int .i64 k, .int .i64 n, .slice a t.len cap], .string s, .bool g] w fun e w' => e = .returned (.bool true) ∧ Below w.heap.size w w' := by
  obtain ⟨W, hW⟩ : ∃ W, W = w.alloc (.cells #[.int .i64 k, .int .i64 n, .slice a t.len cap] 24) := ⟨_, rfl⟩
  have hb0 : Below w.heap.size w W := by rw [hW]; exact (Below.refl _ _).alloc (Nat.le_refl _) _
  have hbx : BoxT w.heap.size k n (.slice a t.len cap) W := BoxT.mk' (by rw [hW]; exact heap_new _ _)
  have hkW := hk.below hb0
  have HF := Lib.hid (few_at S t k n a cap W false (hs.below hb0) (by simpa using hn))
  obtain ⟨c0, c1, c2⟩ := hbx
  clear hs hk hn
  go_enter Tryd.func4, Tryd.ntmps4
  go_wp2_with fail
  rw [← hW]
  clear hW
  refine HF.out.mono ?_
  rintro e w1 ⟨rfl, hb1⟩
  go_wp2_with fail
  refine (awake_any _ (hkW.below hb1)).mono ?_
  rintro e w2 ⟨rfl, hb2⟩
  go_wp2_with fail
  go_ret
  exact ⟨rfl, hb0.trans ((hb1.trans (hb2.mono hb1.size)).mono hb0.size)⟩

set_option maxRecDepth 100000 in
set_option maxHeartbeats 1600000 in
theorem texts_great (S : Nat → Nat → Prop) (t : T) (k n : Int) (a : Option Addr) (cap : Nat) (s : ByteArray) (g : Bool) (w : World) (hs : Sl S w a t) (hk : Kinds w) (hn : 1 + (t.nodes : Int) ≤ 2000) (hz : 3000 < s.size) :
    Calls Tryd.prog 4 #[.agg #[.int .i64 k, .int .i64 n, .slice a t.len cap], .string s, .bool g] w fun e w' => e = .returned (.bool true) ∧ Below w.heap.size w w' := by
  obtain ⟨W, hW⟩ : ∃ W, W = w.alloc (.cells #[.int .i64 k, .int .i64 n, .slice a t.len cap] 24) := ⟨_, rfl⟩
  have hb0 : Below w.heap.size w W := by rw [hW]; exact (Below.refl _ _).alloc (Nat.le_refl _) _
  have hbx : BoxT w.heap.size k n (.slice a t.len cap) W := BoxT.mk' (by rw [hW]; exact heap_new _ _)
  have hkW := hk.below hb0
  have HF := Lib.hid (few_at S t k n a cap W true (hs.below hb0) (by simpa using hn))
  have hz' : (3000 : Int) < s.size := by omega
  obtain ⟨c0, c1, c2⟩ := hbx
  clear hs hk hn
  go_enter Tryd.func4, Tryd.ntmps4
  go_wp2_with fail
  rw [← hW]
  clear hW
  refine HF.out.mono ?_
  rintro e w1 ⟨rfl, hb1⟩
  go_wp2_with fail
  refine (awake_any _ (hkW.below hb1)).mono ?_
  rintro e w2 ⟨rfl, hb2⟩
  go_wp2_with fail
  go_ret
  exact ⟨rfl, hb0.trans ((hb1.trans (hb2.mono hb1.size)).mono hb0.size)⟩

theorem texts_any (S : Nat → Nat → Prop) (t : T) (k n : Int) (a : Option Addr) (cap : Nat) (s : ByteArray) (g : Bool) (w : World) (hs : Sl S w a t) (hk : Kinds w) :
    Calls Tryd.prog 4 #[.agg #[.int .i64 k, .int .i64 n, .slice a t.len cap], .string s, .bool g] w fun e w' => e = .returned (.bool true) ∧ Below w.heap.size w w' := by
  by_cases hn : 1 + (t.nodes : Int) ≤ 2000
  · by_cases hz : s.size ≤ 3000
    · cases hv : valid k n t <;> cases g
      · exact texts_short_no S t k n a cap s w hs hk hn hz hv
      · exact texts_long_no S t k n a cap s w hs hk hn hz hv
      · exact texts_short_ok S t k n a cap s w hs hk hn hz hv
      · exact texts_long_ok S t k n a cap s w hs hk hn hz hv
    · exact texts_great S t k n a cap s g w hs hk hn (by omega)
  · exact texts_few S t k n a cap s g w hs hk hn

theorem readables4 : ∀ t ∈ [24, 9, 4], Tryd.prog.readableRec t = true ∧ t < Tryd.prog.types.size := by
  have h : ([24, 9, 4].all fun t => Tryd.prog.readableRec t && decide (t < Tryd.prog.types.size)) = true := by kernel_rfl
  intro t ht
  have := List.all_eq_true.1 h t ht
  simpa using this

set_option maxRecDepth 100000 in
theorem texts_lifted (os : Os) (started : os.Started) (H : Type) (enc : TypeId × Value → H) :
    ReturnsInHanded {} Tryd.checked os 4 .any (fun w args => (Rows.functorTextsSpec.pre enc Tryd.prog Tryd.f4 [] false w args ∧ laidMetH Tryd.prog laids w) ∧ sizedMet enc Tryd.prog Tryd.f4 (OpenSpec.ofChange Rows.functorTextsSpec) false w args)
      (Rows.functorTextsSpec.post enc Tryd.prog Tryd.f4 false true false false) := by
  refine returnsInHanded_of_change_and (C := Tryd.checked) (X := fun w _ => laidMetH Tryd.prog laids w) (fun _ _ _ hh h => h.of_heap hh) own started (by kernel_rfl) Tryd.func4
    (ChangeSpec.witness_shaped (enc := enc) (C := Tryd.checked) (os := os) (X := fun w _ => laidMetH Tryd.prog laids w) false (World.doorLaid Tryd.prog 400 os) #[.agg #[.int .i64 0, .int .i64 0, .slice none 0 0], .string ByteArray.empty, .bool false] 8 rfl (World.shaped_of_RefB (by kernel_rfl) (by kernel_rfl)) (by kernel_rfl) (by kernel_rfl) (by kernel_rfl) (door_met os _)) ?_
  intro W base args ds gs before hval0 hW _ _ hL _
  have hval : ∀ (j : Nat) t v, Tryd.f4.params[j]? = some t → args[j]? = some v → Value.okWide Tryd.prog W .any base t v := hval0
  have hW' := hW
  obtain ⟨p, q, hA0, hV, rfl, hfz, hnd⟩ := hW
  have hA : DataW.TrodAll enc Tryd.prog W 0 (fun _ => true) true Tryd.f4.params.toList args.toList ds p := hA0
  have hAk := hA
  rw [Tryd.params4] at hA hval
  obtain ⟨v0, v1, v2, d0, d1, d2, p0, p1, p2, rfl, rfl, rfl, h0, h1, h2⟩ := trodAll_three hA
  obtain ⟨rfl, rfl⟩ := trodVars_none hV
  obtain ⟨s, rfl⟩ := okWide_string Tryd.underlying9 (hval 1 9 v1 rfl rfl)
  obtain ⟨g, rfl⟩ := okWide_bool Tryd.underlying4 (hval 2 4 v2 rfl rfl)
  obtain ⟨k, n, a, cap, t, rfl, hs⟩ := open_functor (hval 0 24 v0 rfl rfl) h0 (fun b o hm => hfz b o (List.mem_append_left _ (List.mem_append_left _ (List.mem_append_left _ hm))))
  have hk := kinds_of_laid hL
  clear hA0 hval0
  simp only [List.append_nil] at hW' hAk
  refine (texts_any AnyS t k n a cap s g W hs hk).mono fun e W' ⟨he, hb⟩ => ?_
  subst he
  exact ⟨_, rfl, shut_true rfl (by rw [Tryd.params4]; exact fun t ht => readables4 t (by simpa using ht)) (by kernel_rfl) rfl rfl rfl hAk hW' hb⟩

theorem texts_holds : Rows.FunctorTextsSaid :=
  OpenClaim.holds_of_wide 4 Tryd.f4 rfl rfl rfl rfl rfl rfl rfl ⟨rfl, rfl, rfl, rfl, rfl⟩ rfl rfl rfl rfl rfl (by kernel_rfl) Tryd.func4 (by kernel_rfl)
    (of_decide_eq_true (by kernel_rfl)) (by unfold Func.isWrapper; first | (rw [if_pos (by decide +kernel)]; kernel_rfl) | (rw [if_neg (by decide +kernel)]; exact ⟨rfl, rfl⟩))
    (fun os started H enc _ => texts_lifted os started H enc)

/-- String and Parse answer as the document defines: the statement with its listed variables tied to the program's text. -/
theorem functorTexts_card : Rows.FunctorTextsCardSaid :=
  Claim7.holds_tied_plain_at .later [] [.data, .data, .data, .data] true (true, "98cd7f1e193ef46deff3fb4ec420662417e36e83e22346983bdde16229ed1d96") false
    texts_holds (fun _ h => by cases h) (by kernel_rfl) (fun _ h => by cases h) functorTexts_row_tie rfl ⟨rfl, rfl⟩ (by kernel_rfl) rfl
    (fun f fn hf hfn => by
      obtain rfl : f = 4 := Option.some.inj ((show Tryd.prog.funcNamed "ectype/ectypelaw01.FunctorTexts" = some 4 by kernel_rfl).symm.trans hf) |>.symm
      obtain rfl : fn = Tryd.f4 := (Option.some.inj (Tryd.func4.symm.trans hfn)).symm
      exact ⟨by kernel_rfl, fun j t ht => by
        rw [Tryd.params4] at ht
        exact noStand [24, 9, 4] (by kernel_rfl) t (by simpa using Array.mem_of_getElem? ht)⟩)
    (by kernel_rfl)
#print axioms functorTexts_card
end Go.Proofs.YtioimhnebjiicaaDoor
